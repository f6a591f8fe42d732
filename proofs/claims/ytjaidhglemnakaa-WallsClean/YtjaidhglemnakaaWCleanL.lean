/- How an array of 64 bytes is opened; What is written behind the records, plainly; The walk of WallsClean. -/
import Derived.Test.YtjaidhglemnakaaGArr
import Derived.Test.YtjaidhglemnakaaWStep
set_option linter.unusedSimpArgs false
set_option linter.unusedVariables false
namespace Go.Proofs.Ytjaidhglemnakaa
open Go.ChangeShapes Go.WideShapes Go.ChangeAt Go.RowKit Go.Deep

section
variable {H : Type} {enc : TypeId × Value → H} {W : World} {base : Nat} {sp : Nat → Bool} {held : Bool}
set_option maxRecDepth 1000000 in
theorem arg_row64 {r : Reach} {b0 : Nat} {v : Value} {d : DataW H} {p : List MemPlace} (hv : Value.okWide Try.prog W r b0 59 v) (h : DataW.Trod enc Try.prog W base sp held 59 v d p) : ∃ l : List UInt8, l.length = 64 ∧ v = .agg (bcells l).toArray :=
  @open_arr _ enc W base sp held UInt8 ⟨0⟩ _ bv _ _ 64 Try.underlying59 (by kernel_rfl) (by kernel_rfl) el_b1 _ _ _ _ _ hv h
end
end Go.Proofs.Ytjaidhglemnakaa
namespace Go.Proofs.Ytjaidhglemnakaa

/-- Bytes that begin with eight noughts begin with no record. -/
theorem getF_eight {b : List UInt8} (h : b.take 8 = List.replicate 8 0) : getF b = none := by
  by_cases h1 : b.length < 64
  · unfold getF
    rw [if_pos h1]
  have e4 : b.take 4 = [0, 0, 0, 0] := by
    have := congrArg (List.take 4) h
    rw [List.take_take] at this
    exact this
  have e8 : (b.drop 4).take 4 = [0, 0, 0, 0] := by
    have := congrArg (List.drop 4) h
    rw [List.drop_take] at this
    exact this
  have n0 : num [0, 0, 0, 0] = 0 := by decide
  have s1 : secs 0 * 64 = 64 := by decide
  rw [getF_step h1 (by rw [e4, n0]; omega) (by rw [e4, n0, s1]; exact h1), if_neg]
  rintro ⟨h2, -⟩
  rw [e8, e4, n0] at h2
  revert h2
  rw [List.take_zero, List.append_nil]
  decide +kernel
theorem chunk_take8 {b : List UInt8} {i : Nat} (h : chunk b i = List.replicate 64 0) : (b.drop (i * 64)).take 8 = List.replicate 8 0 := by
  have := congrArg (List.take 8) h
  unfold chunk at this
  rw [List.take_take] at this
  exact this
/-- Behind the records' end all is noughts. -/
theorem Clean.behind {d : Dk} {L : List (List UInt8)} (h : Clean d L) {i : Nat} (hi : span L ≤ i) (hs : i < d.sure.length) : d.view i = List.replicate 64 0 := by
  rw [← Dk.all_chunk h.ok hs, h.all, chunk_right (frames_len L) hi, chunk_zero (by omega)]
/-- What is written two sectors and more behind the records is not told. -/
theorem Clean.other {d : Dk} {L : List (List UInt8)} (h : Clean d L) {i : Nat} {s : List UInt8} (hi : span L < i) (hs : i < d.sure.length) (hl : s.length ≤ 64) : Proofs.Ytjaidhglemnakaa.recs (d.write i s).all = L := by
  have hok := h.ok.write hs hl
  have hsz : (d.write i s).sure.length = d.sure.length := rfl
  have hal := Dk.all_len hok
  have hch : ∀ k, k < i → chunk (d.write i s).all k = chunk d.all k := fun k hk => by
    rw [Dk.all_chunk hok (by rw [hsz]; omega), Dk.all_chunk h.ok (by omega), Dk.view_write, if_neg (by omega)]
  have htake : (d.write i s).all.take (span L * 64) = L.flatMap frame := by
    have key : ∀ k, k ≤ span L → (d.write i s).all.take (k * 64) = d.all.take (k * 64) := by
      intro k
      induction k with
      | zero => intro _; simp
      | succ k ih =>
        intro hk
        rw [Nat.succ_mul, List.take_add, List.take_add, ih (by omega)]
        have := hch k (by omega)
        unfold chunk at this
        rw [this]
    rw [key _ (Nat.le_refl _), h.all, List.take_left' (frames_len L)]
  have hz : getF ((d.write i s).all.drop (span L * 64)) = none := by
    refine getF_eight (chunk_take8 ?_)
    rw [hch _ hi, Dk.all_chunk h.ok (by omega)]
    exact h.behind (Nat.le_refl _) (by omega)
  rw [← List.take_append_drop (span L * 64) (d.write i s).all, htake, recs_frames L _ h.le, recs_none hz, List.append_nil]
end Go.Proofs.Ytjaidhglemnakaa
namespace Go.Proofs.Ytjaidhglemnakaa
open Go.RowKit Go.Maps Go.ChangeShapes Go.WideShapes

theorem mem_le_sum {l : List Nat} {x : Nat} (h : x ∈ l) : x ≤ l.sum := by
  induction l with
  | nil => cases h
  | cons y l ih =>
    rw [List.sum_cons]
    rcases List.mem_cons.1 h with rfl | h
    · omega
    · have := ih h; omega
theorem zrow {n q : Nat} (h : q < n) : (bcells (List.replicate n 0)).toArray[q]? = some (.int .u8 0) := by simp [bcells, bv, h]
theorem cwrap (n : Nat) (h : n < 9223372036854775808) : IntKind.i64.wrap (n : Int) = (n : Int) := by
  simp [IntKind.wrap, IntKind.signed, IntKind.bits]
  omega
theorem ctmod (a n : Nat) : ((a : Int)).tmod (n : Int) = ((a % n : Nat) : Int) := rfl
theorem box64 (W : World) (s : List UInt8) : (Instr.box 59 (.agg (bcells s).toArray)).run Try.prog W = .ok (.pointer (some ⟨W.heap.size, 0, none⟩)) (W.alloc (.cells (bcells s).toArray 59)) := by
  simp [Instr.box, newVar, newRow, Value.cells]
theorem box_in (w : World) (cs : List UInt8) (hn : cs.length = 64) : InAt (w.alloc (.cells (bcells cs).toArray 59)) (w.heap.size + 1) (.slice (some ⟨w.heap.size, 0, none⟩) 64 64) cs := by
  have := wlit_in w cs (0, 0) 59 (by omega)
  rw [hn] at this
  exact this
set_option maxHeartbeats 1600000 in
set_option maxRecDepth 1000000 in
theorem clean_big (w : World) (vl : Value) (l : List (Value × List UInt8)) (s : List UInt8) (at_ : Int) (hl : RcArg w vl l) (hs : s.length = 64) (h : 10 < l.length ∨ 5000 < weigh l) :
    Calls Try.prog 7 #[vl, .agg (bcells s).toArray, .int .u8 at_] w fun e w' => e = .returned (.bool true) ∧ Below w.heap.size w w' := by
  have ha := hl.rc
  obtain ⟨ao, ca, rfl, ha1, ha2⟩ := rc_len ha
  unfold maxLen at ha2
  have hbox := fun W => box64 W s
  generalize (bcells s).toArray = bs at *
  by_cases h1 : 10 < l.length
  · have i1 : (10 : Int) < (l.length : Int) := by omega
    clear hl ha h
    go_enter Try.func7, Try.ntmps7
    go_wp2_with fail
    have b0 := below_one w (.cells bs 59)
    refine (walive_any _).mono ?_
    rintro e w1 ⟨rfl, b1⟩
    replace b1 := b0.trans (b1.mono b0.size)
    go_wp2_with fail
    refine (walive_any _).mono ?_
    rintro e w2 ⟨rfl, b2⟩
    go_wp2
    go_ret
    exact ⟨rfl, b1.trans (b2.mono b1.size)⟩
  · have i1 : ¬ (10 : Int) < (l.length : Int) := by omega
    have hw : 5000 < weigh l := by omega
    have kr := fun (W : World) (hW : Below w.heap.size w W) => recsSize_any W _ _ l (ha.below hW (Nat.le_refl _)) hl.len hl.els
    clear hl ha h
    go_enter Try.func7, Try.ntmps7
    go_wp2_with fail
    have b0 := below_one w (.cells bs 59)
    refine (walive_any _).mono ?_
    rintro e w1 ⟨rfl, b1⟩
    replace b1 := b0.trans (b1.mono b0.size)
    go_wp2_with fail
    refine (kr w1 b1).mono ?_
    rintro e w' ⟨⟨z, rfl, hz, hz2⟩, rfl⟩
    have i2 : (5000 : Int) < z := by
      by_cases hh : z ≤ 1048576
      · have := hz hh; omega
      · omega
    clear hz hz2 kr
    go_wp2_with fail
    refine (walive_any _).mono ?_
    rintro e w2 ⟨rfl, b2⟩
    go_wp2
    go_ret
    exact ⟨rfl, b1.trans (b2.mono b1.size)⟩
set_option maxHeartbeats 1600000 in
set_option maxRecDepth 1000000 in
theorem clean_loop (w : World) (vl : Value) (l : List (Value × List UInt8)) (s : List UInt8) (an : Nat) (hl : RcArg w vl l) (hs : s.length = 64) (han : an < 256) (h1 : l.length ≤ 10) (h2 : weigh l ≤ 5000) :
    Calls Try.prog 7 #[vl, .agg (bcells s).toArray, .int .u8 (an : Int)] w fun e w' => e = .returned (.bool true) ∧ Below w.heap.size w w' := by
  have ha := hl.rc
  have hels : ∀ x ∈ l, x.2.length ≤ 5000 := fun x hx => by
    have : x.2.length ≤ (l.map (fun x => x.2.length)).sum := mem_le_sum (List.mem_map.2 ⟨x, hx, rfl⟩)
    unfold weigh at h2
    omega
  obtain ⟨ao, ca, rfl, ha1, ha2⟩ := rc_len ha
  unfold maxLen at ha2
  have i1 : ¬ (10 : Int) < (l.length : Int) := by omega
  have hsp : span (l.map (·.2)) ≤ 89 := by have := span_weigh h2 h1; omega
  have kr := fun (W : World) (hW : Below w.heap.size w W) => recsSize_any W _ _ l (ha.below hW (Nat.le_refl _)) hl.len hl.els
  have hspH : Hid (span (l.map (·.2)) ≤ 89) := hsp
  have hwH : Hid (weigh l ≤ 5000) := h2
  have helsH : Hid (∀ x ∈ l, x.2.length ≤ 5000) := hels
  have hbox := fun W => box64 W s
  have hsi := box_in w s hs
  have b00 := below_one w (.cells (bcells s).toArray 59)
  obtain ⟨am, ham⟩ : ∃ am, am = an % 90 := ⟨_, rfl⟩
  have ham2 : am < 90 := by omega
  have ta : ((an : Int)).tmod 90 = (am : Int) := by rw [ham]; exact ctmod an 90
  have wa := cwrap am (by omega)
  have hsH : Hid (s.length = 64) := hs
  generalize hbs : (bcells s).toArray = bs at *
  clear hl hsp h2 hels ham hs hbs
  go_enter Try.func7, Try.ntmps7
  go_wp2_with fail
  refine (walive_any _).mono ?_
  rintro e w0 ⟨rfl, b0⟩
  have hz00 : (w.alloc (.cells bs 59)).heap.size = w.heap.size + 1 := by simp
  have hsi0 := SlAt.below hsi b0 (by rw [hz00]; exact Nat.le_refl _)
  have hlt0 : w.heap.size + 1 ≤ w0.heap.size := by have := b0.size; rw [hz00] at this; exact this
  replace b0 := b00.trans (b0.mono b00.size)
  clear hbox hsi hz00
  go_wp2_with fail
  refine (kr w0 b0).mono ?_
  rintro e w' ⟨⟨z, rfl, hz, hz2⟩, rfl⟩
  have i2 : ¬ (5000 : Int) < z := by
    have := hwH.out
    by_cases hh : z ≤ 1048576
    · have := hz hh; omega
    · exfalso
      have := hz2 (by omega)
      omega
  clear hz hz2 kr
  go_wp2_with fail
  refine (new_own w0 200 (by omega) (by omega)).mono ?_
  rintro e w1 ⟨B, rfl, b1, o1⟩
  have hsi1 := SlAt.below hsi0 b1 hlt0
  have o1' : Own (w.heap.size + 1) w1 B (Dk.new 200) := own_weak o1 hlt0
  have z1 : w.heap.size + 1 ≤ w1.heap.size := Nat.le_trans hlt0 b1.size
  replace b1 := b0.trans (b1.mono b0.size)
  go_wp2_with fail
  refine (ls_open o1' z1 (by show (0 : Nat) ≤ _; omega)).mono ?_
  rintro e w2 ⟨L, v, X, rfl, l2, r2, x2, b2, -⟩
  rw [(Clean.new (by omega) (by omega)).recs] at l2 x2
  obtain ⟨a3, c3, rfl⟩ := rc_nil r2 x2
  have hsi2 := SlAt.below hsi1 b2 (Nat.le_refl _)
  have z2 := Nat.le_trans z1 b2.size
  replace b2 := b1.trans (b2.mono (Nat.le_succ _))
  have hd2 : (Dk.new 200).opened.sure.length = 200 := by rw [Dk.opened_len, Dk.new_len]
  have hw2 : (Dk.new 200).opened.ws.length ≤ 0 := by rw [Dk.opened_ws]; simp
  generalize (Dk.new 200).opened = d2 at *
  clear r2 x2 o1 o1' b1 b0 hsi0 hsi1 z1 hlt0 b00
  go_wp2_with fail
  go_loopw [12, 13] (fun u i wr => ∃ (j : Nat) (d : Dk), j ≤ l.length ∧ i = .int .i64 (j : Int) ∧ u = .int .i64 ((span (pfx l j) : Nat) : Int) ∧ LS (w.heap.size + 1) wr L B d (pfx l j) ∧ d.sure.length = 200 ∧ d.ws.length ≤ j * 260 ∧ Below w.heap.size w wr ∧ InAt wr (w.heap.size + 1) (.slice (some ⟨w.heap.size, 0, none⟩) 64 64) s ∧ w.heap.size + 1 ≤ wr.heap.size) (fun _ i _ => l.length - (intOf i).toNat)
  case atStart => exact ⟨0, d2, by omega, rfl, rfl, l2, hd2, by omega, b2, hsi2, z2⟩
  case round =>
    obtain ⟨j, d, hj, rfl, rfl, hls, hds, hdw, hbe, hsi, hzz⟩ := hrel
    clear l2 hd2 hw2 b2 hsi2 z2
    by_cases hjl : j < l.length
    · have i3 : (j : Int) < (l.length : Int) := by omega
      obtain ⟨b1, o1, u1, rfl, hb1, p0, f1, hu1⟩ := rc_cell (ha.below hbe (Nat.le_refl _)) hjl
      have f1' := SlAt.mono f1 hbe.size
      have hr5 := helsH.out _ (List.getElem_mem hjl)
      have hsp1 := span_pfx l (j + 1)
      have hps := pfx_succ hjl
      rw [hps, span_snoc] at hsp1
      have hspo := hspH.out
      have ka := ls_add hls hzz u1 _ f1' (by omega) (by omega) (by omega)
      have hse : ((((l[j]'hjl).2.length : Nat) : Int) + 8 + 63).tdiv 64 = ((secs (l[j]'hjl).2.length : Nat) : Int) := by unfold secs; rw [Int.tdiv_eq_ediv_of_nonneg (by omega)]; omega
      have hsl : secs (l[j]'hjl).2.length ≤ 100 := by unfold secs; omega
      have nx : ∀ w3, LS (w.heap.size + 1) w3 L B (d.added (span (pfx l j)) (l[j]'hjl).2) (pfx l j ++ [(l[j]'hjl).2]) → LS (w.heap.size + 1) w3 L B (d.added (span (pfx l j)) (l[j]'hjl).2) (pfx l (j + 1)) := fun w3 h => by rw [hps]; exact h
      have nl : (d.added (span (pfx l j)) (l[j]'hjl).2).sure.length = 200 := by rw [Dk.added_len]; exact hds
      have nw : (d.added (span (pfx l j)) (l[j]'hjl).2).ws.length ≤ (j + 1) * 260 := by unfold Dk.added; rw [Dk.puts_wlen]; omega
      have nsp : Hid (span (pfx l (j + 1)) = span (pfx l j) + secs (l[j]'hjl).2.length) := by show _ = _; rw [hps, span_snoc]
      obtain ⟨x1, y1, rfl⟩ := in_slice f1
      have pc : ∀ w3, Below (w.heap.size + 1) wr w3 → w3.cell? ⟨b1, o1 + j, none⟩ = some (.slice x1 (l[j]'hjl).2.length y1) := fun w3 h3 => (h3.cell (show b1 < _ by omega)).trans p0
      have nsi : ∀ w3, Below (w.heap.size + 1) wr w3 → InAt w3 (w.heap.size + 1) (.slice (some ⟨w.heap.size, 0, none⟩) 64 64) s := fun w3 h3 => SlAt.below hsi h3 (Nat.le_refl _)
      obtain ⟨dd, hdd⟩ : ∃ dd, dd = d.added (span (pfx l j)) (l[j]'hjl).2 := ⟨_, rfl⟩
      rw [← hdd] at ka nx nl nw
      obtain ⟨sp, hsp⟩ : ∃ sp, sp = span (pfx l j) := ⟨_, rfl⟩
      rw [← hsp] at nsp hsp1 ⊢
      obtain ⟨sz, hszz⟩ : ∃ sz, sz = secs (l[j]'hjl).2.length := ⟨_, rfl⟩
      rw [← hszz] at nsp hse hsl hsp1
      have hspb : sp ≤ 200 := by omega
      generalize (l[j]'hjl).2 = r1 at *
      clear f1 f1' hu1 hls hdd hsp hszz hps hsi hsp1 hspo ha
      go_wp2_with fail
      refine ka.mono ?_
      rintro e w3 ⟨rfl, l3, b3, -⟩
      have p3 := pc w3 b3
      have hbe3 := hbe.trans (b3.mono (Nat.le_succ _))
      have l3' := nx w3 l3
      have s3 := nsi w3 b3
      have z3 := Nat.le_trans hzz b3.size
      clear ka pc nx nsi p0 l3
      go_wp2
      go_roundw
      case rel => exact ⟨j + 1, dd, by omega, by go_num, by rw [nsp.out]; go_num, l3', nl, nw, hbe3, s3, z3⟩
      case measure => simp [intOf]; omega
    · have i3 : ¬ (j : Int) < (l.length : Int) := by omega
      rw [pfx_all (by omega)] at hls ⊢
      have hspo := hspH.out
      have cl := hls.clean
      obtain ⟨sp, hsp⟩ : ∃ sp, sp = span (l.map (·.2)) := ⟨_, rfl⟩
      obtain ⟨ix, hix⟩ : ∃ ix, ix = sp + 1 + am := ⟨_, rfl⟩
      have eix : (sp : Int) + 1 + (am : Int) = (ix : Int) := by omega
      have hix2 : ix < 200 := by omega
      have hsl := hsH.out
      have kw := write_own hls.own hzz ix (by rw [hds]; exact hix2) _ s hsi (by omega) (by omega)
      have hrc : recs (d.write ix s).all = l.map (·.2) := cl.other (by omega) (by omega) (by omega)
      have hok : (d.write ix s).ok := cl.ok.write (by omega) (by omega)
      have hws : (d.write ix s).ws.length ≤ 800000 := by show (d.ws ++ [_]).length ≤ _; rw [List.length_append, List.length_singleton]; omega
      have hdw2 : (d.write ix s).sure.length = 200 := hds
      rw [← hsp]
      have hspH2 : Hid (sp = span (l.map (·.2))) := hsp
      have hspb : sp ≤ 89 := by omega
      clear hsp hls cl hix hsi hdw hds
      generalize d.write ix s = d4 at *
      go_wp2_with fail
      refine kw.mono ?_
      rintro e w4 ⟨rfl, o4, b4⟩
      have z4 := Nat.le_trans hzz b4.size
      replace b4 := hbe.trans (b4.mono (Nat.le_succ _))
      have ko := ls_open o4 z4 hws
      rw [hrc] at ko
      have hdo : d4.opened.sure.length = 200 := by rw [Dk.opened_len]; exact hdw2
      clear kw hrc hws hdw2 o4
      go_wp2_with fail
      refine ko.mono ?_
      rintro e w5 ⟨L5, p, X5, rfl, l5, r5, x5, b5, -⟩
      have b5' := b4.trans (b5.mono (Nat.le_succ _))
      have k5 := sameRecs_any w5 _ _ p _ _ l r5.in (ha.below b5' (Nat.le_refl _)) (by rw [List.map_map]; exact x5)
      obtain ⟨ap, cp, ep, -, -⟩ := own_len' r5.row
      subst ep
      generalize X5.length = n5 at *
      have z5 := Nat.le_trans z4 b5.size
      have o5 := l5.own
      have cl5 := l5.clean
      have hvz : ∀ i, sp ≤ i → i < 200 → d4.opened.view i = List.replicate 64 0 := fun i h3 h4 => cl5.behind (by rw [← hspH2.out]; exact h3) (by rw [hdo]; exact h4)
      have hww : d4.opened.ws.length = 0 := by rw [Dk.opened_ws]; rfl
      clear ko b5 x5 r5 b4 z4 l5 cl5 ha
      generalize d4.opened = d5 at *
      go_wp2_with fail
      refine k5.mono ?_
      rintro e w6 ⟨rfl, n6, rfl⟩
      have b6 := b5'.trans ((below_drewN w5 n6).mono b5'.size)
      have o6 := o5.below (below_drewN w5 n6)
      have kw6 := waits_own o6
      rw [hww] at kw6
      clear k5 o5 b5'
      go_wp2_with fail
      refine kw6.mono ?_
      rintro e w' ⟨rfl, rfl⟩
      obtain ⟨W6, hW6⟩ : ∃ W6, w5.drewN n6 = W6 := ⟨_, rfl⟩
      rw [hW6] at b6 o6 ⊢
      clear kw6 hW6
      go_wp2_with fail
      go_loopw [16] (fun i wq => ∃ k : Nat, sp ≤ k ∧ k ≤ 200 ∧ i = .int .i64 (k : Int) ∧ Own (w.heap.size + 1) wq B d5 ∧ Below w.heap.size w wq) (fun i _ => 200 - (intOf i).toNat)
      case atStart => exact ⟨sp, Nat.le_refl _, by omega, rfl, o6, b6⟩
      case round =>
        obtain ⟨k, hk1, hk2, rfl, ho, hb⟩ := hrel
        by_cases hk : k < 200
        · have i4 : (k : Int) < 200 := by omega
          have kr := read_own ho k (by rw [hdo]; exact hk)
          rw [hvz k hk1 hk] at kr
          obtain ⟨wo, rfl⟩ : ∃ wo, wo = wr := ⟨_, rfl⟩
          go_wp2_with fail
          refine kr.mono ?_
          rintro e w7 ⟨rfl, r7, b7⟩
          have o7 := ho.below b7
          have b7' := hb.trans (b7.mono hb.size)
          have hc7 : ∀ q, q < 64 → w7.cell? ⟨_, q, none⟩ = some (.int .u8 0) := fun q hq => by
            rw [cell_of_row _ _ _ _ _ _ r7]
            exact zrow hq
          clear kr r7 b7 ho hb o6 b6
          go_wp2_with fail
          go_loopw [19] (fun i wq => ∃ q : Nat, q ≤ 64 ∧ i = .int .i64 (q : Int) ∧ w7 = wq) (fun i _ => 64 - (intOf i).toNat)
          case atStart => exact ⟨0, by omega, rfl, rfl⟩
          case round =>
            obtain ⟨q, hq, rfl, rfl⟩ := hrel
            by_cases hq2 : q < 64
            · have i5 : (q : Int) < 64 := by omega
              have c7 := hc7 q hq2
              clear hc7
              go_wp2
              go_roundw
              case rel => exact ⟨q + 1, by omega, by go_num, trivial⟩
              case measure => simp [intOf]; omega
            · have i5 : ¬ (q : Int) < 64 := by omega
              clear hc7
              go_wp2
              go_roundw
              case rel => exact ⟨k + 1, by omega, by omega, by go_num, o7, b7'⟩
              case measure => simp [intOf]; omega
        · have i4 : ¬ (k : Int) < 200 := by omega
          go_wp2
          go_ret
          exact ⟨rfl, hb⟩
theorem clean_any (w : World) (vl : Value) (l : List (Value × List UInt8)) (s : List UInt8) (at_ : Int) (hl : RcArg w vl l) (hs : s.length = 64) (hat : (Lit.int .u8 at_).wf = true) :
    Calls Try.prog 7 #[vl, .agg (bcells s).toArray, .int .u8 at_] w fun e w' => e = .returned (.bool true) ∧ Below w.heap.size w w' := by
  have zb := bounds_u8 hat
  obtain ⟨an, rfl⟩ : ∃ an : Nat, at_ = (an : Int) := ⟨at_.toNat, by omega⟩
  by_cases h : 10 < l.length ∨ 5000 < weigh l
  · exact clean_big w vl l s _ hl hs h
  · exact clean_loop w vl l s an hl hs (by omega) (by omega) (by omega)
end Go.Proofs.Ytjaidhglemnakaa
