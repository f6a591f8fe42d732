/- The walk of WallsForced. -/
import Derived.Test.YtjaidhglemnakabWStep
set_option linter.unusedSimpArgs false
set_option linter.unusedVariables false
namespace Go.Proofs.Ytjaidhglemnakab
open Go.RowKit Go.Maps Go.ChangeShapes Go.WideShapes

theorem fwrap (n : Nat) (h : n < 9223372036854775808) : IntKind.i64.wrap (n : Int) = (n : Int) := by
  simp [IntKind.wrap, IntKind.signed, IntKind.bits]
  omega
theorem mem_sum {l : List Nat} {x : Nat} (h : x ∈ l) : x ≤ l.sum := by
  induction l with
  | nil => cases h
  | cons y l ih =>
    rw [List.sum_cons]
    rcases List.mem_cons.1 h with rfl | h
    · omega
    · have := ih h; omega
theorem els_weigh {l : List (Value × List UInt8)} {n : Nat} (h : weigh l ≤ n) : ∀ x ∈ l, x.2.length ≤ n := fun x hx => by
  have : x.2.length ≤ (l.map (fun x => x.2.length)).sum := mem_sum (List.mem_map.2 ⟨x, hx, rfl⟩)
  unfold weigh at h
  omega
set_option maxHeartbeats 1600000 in
set_option maxRecDepth 1000000 in
theorem forced_big (w : World) (vl : Value) (l : List (Value × List UInt8)) (k t : Int) (hl : RcArg w vl l) (h : 30 < l.length ∨ 10000 < weigh l) :
    Calls Try.prog 4 #[vl, .int .u64 k, .int .u8 t] w fun e w' => e = .returned (.bool true) ∧ Below w.heap.size w w' := by
  have ha := hl.rc
  obtain ⟨ao, ca, rfl, ha1, ha2⟩ := rc_len ha
  unfold maxLen at ha2
  by_cases h1 : 30 < l.length
  · have i1 : (30 : Int) < (l.length : Int) := by omega
    clear hl ha h
    go_enter Try.func4, Try.ntmps4
    go_wp2_with fail
    refine (walive_any w).mono ?_
    rintro e w1 ⟨rfl, b1⟩
    go_wp2_with fail
    refine (walive_any _).mono ?_
    rintro e w2 ⟨rfl, b2⟩
    go_wp2
    go_ret
    exact ⟨rfl, b1.trans (b2.mono b1.size)⟩
  · have i1 : ¬ (30 : Int) < (l.length : Int) := by omega
    have hw : 10000 < weigh l := by omega
    have kr := fun (W : World) (hW : Below w.heap.size w W) => recsSize_any W _ _ l (ha.below hW (Nat.le_refl _)) hl.len hl.els
    clear hl ha h
    go_enter Try.func4, Try.ntmps4
    go_wp2_with fail
    refine (walive_any w).mono ?_
    rintro e w1 ⟨rfl, b1⟩
    go_wp2_with fail
    refine (kr w1 b1).mono ?_
    rintro e w' ⟨⟨z, rfl, hz, hz2⟩, rfl⟩
    have i2 : (10000 : Int) < z := by
      by_cases hh : z ≤ 1048576
      · have := hz hh; omega
      · omega
    clear hz hz2 kr
    go_wp2_with fail
    refine (walive_any _).mono ?_
    rintro e w2 ⟨rfl, b2⟩
    go_wp2
    go_ret
    exact ⟨rfl, b1.trans (b2.mono b1.size)⟩
set_option maxHeartbeats 1600000 in
set_option maxRecDepth 1000000 in
theorem forced_loop (w : World) (vl : Value) (l : List (Value × List UInt8)) (k t : Nat) (hl : RcArg w vl l) (hk : k < 18446744073709551616) (ht : t < 256) (h1 : l.length ≤ 30) (h2 : weigh l ≤ 10000) :
    Calls Try.prog 4 #[vl, .int .u64 (k : Int), .int .u8 (t : Int)] w fun e w' => e = .returned (.bool true) ∧ Below w.heap.size w w' := by
  have ha := hl.rc
  obtain ⟨ao, ca, rfl, ha1, ha2⟩ := rc_len ha
  unfold maxLen at ha2
  have i1 : ¬ (30 : Int) < (l.length : Int) := by omega
  have hsp : span (l.map (·.2)) ≤ 190 := by have := span_weigh h2 h1; omega
  have kr := fun (W : World) (hW : Below w.heap.size w W) => recsSize_any W _ _ l (ha.below hW (Nat.le_refl _)) hl.len hl.els
  have hspH : Hid (span (l.map (·.2)) ≤ 190) := hsp
  have hwH : Hid (weigh l ≤ 10000) := h2
  have helsH : Hid (∀ x ∈ l, x.2.length ≤ 10000) := els_weigh h2
  have hkH : Hid (k < 18446744073709551616) := hk
  have wt := fwrap t (by omega)
  clear hl hsp h2 hk
  go_enter Try.func4, Try.ntmps4
  go_wp2_with fail
  refine (walive_any w).mono ?_
  rintro e w0 ⟨rfl, b0⟩
  go_wp2_with fail
  refine (kr w0 b0).mono ?_
  rintro e w' ⟨⟨z, rfl, hz, hz2⟩, rfl⟩
  have i2 : ¬ (10000 : Int) < z := by
    have := hwH.out
    by_cases hh : z ≤ 1048576
    · have := hz hh; omega
    · exfalso
      have := hz2 (by omega)
      omega
  clear hz hz2 kr
  go_wp2_with fail
  refine (new_own w0 400 (by omega) (by omega)).mono ?_
  rintro e w1 ⟨B, rfl, b1, o1⟩
  have o1' : Own w.heap.size w1 B (Dk.new 400) := own_weak o1 b0.size
  replace b1 := b0.trans (b1.mono b0.size)
  go_wp2_with fail
  refine (ls_open o1' b1.size (by show (0 : Nat) ≤ _; omega)).mono ?_
  rintro e w2 ⟨L, v, X, rfl, l2, r2, x2, b2, -⟩
  rw [(Clean.new (by omega) (by omega)).recs] at l2 x2
  obtain ⟨a3, c3, rfl⟩ := rc_nil r2 x2
  replace b2 := b1.trans b2
  have A2 : AddI w w2 L B 400 l 0 (Dk.new 400).opened := AddI.start (w0 := w) l2 b2
  have hq2 : (Dk.new 400).opened.ws = [] := Dk.opened_ws _
  generalize (Dk.new 400).opened = d2 at *
  clear r2 x2 o1 o1' b1 b0 l2
  go_wp2_with fail
  go_loopw [12, 13] (fun u i wr => ∃ (j left : Nat) (d : Dk), j ≤ l.length ∧ i = .int .i64 (j : Int) ∧ u = .int .i64 (left : Int) ∧ left + span (pfx l j) = 400 ∧ AddI w wr L B 400 l j d ∧ d.ws = []) (fun _ i _ => l.length - (intOf i).toNat)
  case atStart => exact ⟨0, 400, d2, by omega, rfl, rfl, by simp [pfx_zero, span_nil], A2, hq2⟩
  case round =>
    obtain ⟨j, left, d, hj, rfl, rfl, hleft, hA, hq⟩ := hrel
    clear A2 hq2
    by_cases hjl : j < l.length
    · have i3 : (j : Int) < (l.length : Int) := by omega
      obtain ⟨b1, o1, u1, rfl, hb1, p0, f1, -⟩ := rc_cell (ha.below hA.be (Nat.le_refl _)) hjl
      have f1' := SlAt.mono f1 hA.be.size
      have hr5 := helsH.out _ (List.getElem_mem hjl)
      have hspo := hspH.out
      have ka := add_step hA hjl u1 f1' (by omega) (by omega) (by omega)
      have hsp1 := span_pfx l (j + 1)
      have hps : span (pfx l (j + 1)) = span (pfx l j) + secs (l[j]'hjl).2.length := by rw [pfx_succ hjl, span_snoc]
      have hse : ((((l[j]'hjl).2.length : Nat) : Int) + 8 + 63).tdiv 64 = ((secs (l[j]'hjl).2.length : Nat) : Int) := by unfold secs; rw [Int.tdiv_eq_ediv_of_nonneg (by omega)]; omega
      obtain ⟨x1, y1, rfl⟩ := in_slice f1
      have pc : ∀ w3, Below w.heap.size wr w3 → w3.cell? ⟨b1, o1 + j, none⟩ = some (.slice x1 (l[j]'hjl).2.length y1) := fun w3 h3 => (h3.cell (show b1 < _ by omega)).trans p0
      have bz := hA.be
      have kb : ∀ w3, AddI w w3 L B 400 l (j + 1) (d.added (span (pfx l j)) (l[j]'hjl).2) → Calls Try.prog 12 #[.pointer (some ⟨L, 0, none⟩)] w3 fun e w' => e = .returned (.int .i64 0) ∧ AddI w w' L B 400 l (j + 1) (d.added (span (pfx l j)) (l[j]'hjl).2).sync := fun w3 h => force_step h
      have kbb : ∀ w3, AddI w w3 L B 400 l (j + 1) (d.added (span (pfx l j)) (l[j]'hjl).2) → Below w.heap.size w w3 := fun w3 h => h.be
      obtain ⟨sz, hsz⟩ : ∃ sz, sz = secs (l[j]'hjl).2.length := ⟨_, rfl⟩
      rw [← hsz] at hps hse
      have hnl : (left : Int) - (sz : Int) = ((left - sz : Nat) : Int) := by omega
      obtain ⟨q, hqq⟩ : ∃ q, q = left - sz := ⟨_, rfl⟩
      rw [← hqq] at hnl
      have hqz : Hid (q + span (pfx l (j + 1)) = 400) := (by omega : q + span (pfx l (j + 1)) = 400)
      have hqb : q ≤ 400 := by omega
      have hlb : left ≤ 400 := by omega
      have hszb : sz ≤ 400 := by omega
      have pcs : ∀ w3 w4, Below w.heap.size w w3 → Below w.heap.size w w4 → w4.cell? ⟨b1, o1 + j, none⟩ = some (.slice x1 (l[j]'hjl).2.length y1) := fun w3 w4 _ h4 => ((h4.cell (show b1 < w.heap.size from hb1)).trans (bz.cell (show b1 < w.heap.size from hb1)).symm).trans p0
      generalize d.added (span (pfx l j)) (l[j]'hjl).2 = dn at *
      generalize (l[j]'hjl).2.length = z1 at *
      clear f1 f1' hsz hqq hps hsp1 hspo hleft pc hA ha hq
      go_wp2_with fail
      refine ka.mono ?_
      rintro e w3 ⟨rfl, A3⟩
      have kf := kb w3 A3
      clear ka kb
      go_wp2_with fail
      refine kf.mono ?_
      rintro e w4 ⟨rfl, A4⟩
      have p4 := pcs w4 w4 A4.be A4.be
      clear kf pcs p0
      go_wp2
      go_roundw
      case rel => exact ⟨j + 1, q, dn.sync, by omega, by go_num, by go_num, hqz.out, A4, rfl⟩
      case measure => simp [intOf]; omega
    · have i3 : ¬ (j : Int) < (l.length : Int) := by omega
      have hls := hA.ls
      rw [pfx_all (by omega)] at hls hleft
      have hrecs := hls.clean.recs
      have be := hA.be
      have od := hls.own
      have hspo := hspH.out
      have hok := od.ok
      have kfl := fail_own od k hkH.out (t : Int) (by omega)
      rw [Dk.fail_quiet hq] at kfl
      have hds := hA.ds
      obtain ⟨k8, hk8⟩ : ∃ k8, k8 = left * 64 - 8 := ⟨_, rfl⟩
      obtain ⟨k7, hk7⟩ : ∃ k7, k7 = left * 64 - 7 := ⟨_, rfl⟩
      have e8 : (left : Int) * 64 - 8 = (k8 : Int) := by omega
      have e7 : (left : Int) * 64 - 7 = (k7 : Int) := by omega
      have hlb : (left : Int) ≤ 400 := by omega
      have hrH : Hid (recs d.all = l.map (·.2)) := hrecs
      have hwsH : Hid (d.ws.length ≤ 800000) := (by rw [hq]; simp : d.ws.length ≤ 800000)
      have hdsH : Hid (d.opened.sure.length = 400) := (by rw [Dk.opened_len]; exact hds : d.opened.sure.length = 400)
      have hlH : Hid (left + span (l.map (·.2)) = 400) := hleft
      have hk8H : Hid (k8 = left * 64 - 8) := hk8
      have hk7H : Hid (k7 = left * 64 - 7) := hk7
      have hkk : k7 = k8 + 1 := by omega
      have hkkH : Hid (k7 = k8 + 1) := hkk
      have hk8b : k8 ≤ 25592 := by omega
      clear hA hls hrecs hds hleft hk8 hk7 hspo hq hkk
      go_wp2_with fail
      refine kfl.mono ?_
      rintro e w3 ⟨C, rfl, b3, o3⟩
      have o3' : Own w.heap.size w3 C d := own_weak o3 be.size
      have b3' := be.trans (b3.mono be.size)
      have ko := ls_open o3' b3'.size hwsH.out
      rw [hrH.out] at ko
      clear kfl od b3 o3 be
      go_wp2_with fail
      refine ko.mono ?_
      rintro e w4 ⟨L4, p, X4, rfl, l4, r4, x4, b4, -⟩
      have b4' := b3'.trans b4
      have k4 := sameRecs_any w4 _ _ p _ _ l r4.in (ha.below b4' (Nat.le_refl _)) (by rw [List.map_map]; exact x4)
      obtain ⟨ap, cp, ep, -, -⟩ := own_len' r4.row
      subst ep
      generalize X4.length = n4 at *
      clear ko o3' b4 b3' x4 r4 ha
      go_wp2_with fail
      refine k4.mono ?_
      rintro e w5 ⟨rfl, n5, rfl⟩
      have b5 := b4'.trans ((below_drewN w4 n5).mono b4'.size)
      have l5 := l4.below (below_drewN w4 n5)
      clear k4 l4 b4'
      have hspo := hspH.out
      have hlo := hlH.out
      have h8 := hk8H.out
      have h7 := hk7H.out
      have hd5 := hdsH.out
      by_cases hbig : k8 ≤ 16384
      · have i5 : (k8 : Int) ≤ 16384 := by omega
        have k1 := ls_room l5 k8 hbig
        rw [show decide (span (l.map (·.2)) + secs k8 ≤ d.opened.sure.length) = true by rw [hd5]; have e : secs k8 = left := (by rw [h8]; unfold secs; omega); rw [e]; simp; omega] at k1
        have hmin : min (16384 : Int) (k8 : Int) = (k8 : Int) := by omega
        clear hspo hlo h8 h7 hd5
        go_wp2_with fail
        refine k1.mono ?_
        rintro e w6 ⟨rfl, b6⟩
        have b6' := b5.trans (b6.mono b5.size)
        have l6 := l5.below b6
        clear k1 l5 b5 b6
        have hspo := hspH.out
        have hlo := hlH.out
        have h7 := hk7H.out
        have hd5 := hdsH.out
        by_cases hb7 : k7 ≤ 16384
        · have k2 := ls_room l6 k7 hb7
          rw [show decide (span (l.map (·.2)) + secs k7 ≤ d.opened.sure.length) = false by rw [hd5]; have e : secs k7 = left + 1 := (by rw [h7]; unfold secs; omega); rw [e]; simp; omega] at k2
          clear hspo hlo h7 hd5
          go_wp2_with fail
          refine k2.mono ?_
          rintro e w7 ⟨rfl, b7⟩
          have b7' := b6'.trans (b7.mono b6'.size)
          go_wp2
          go_ret
          exact ⟨rfl, b7'⟩
        · have k2 := ls_noroom l6 (k7 : Int) (.inr (by omega))
          clear hspo hlo h7 hd5
          go_wp2_with fail
          refine k2.mono ?_
          rintro e w7 ⟨rfl, rfl⟩
          go_wp2
          go_ret
          exact ⟨rfl, b6'⟩
      · have i5 : ¬ (k8 : Int) ≤ 16384 := by omega
        have k1 := ls_room l5 16384 (Nat.le_refl _)
        rw [show decide (span (l.map (·.2)) + secs 16384 ≤ d.opened.sure.length) = true by rw [hd5]; have e : secs 16384 = 257 := (by decide); rw [e]; simp; omega] at k1
        have hmin : min (16384 : Int) (k8 : Int) = 16384 := by omega
        have k2 := fun (W : World) (hW : LS w.heap.size W L4 C d.opened (l.map (·.2))) => ls_noroom hW (k7 : Int) (.inr (by have := hkkH.out; omega))
        clear hspo hlo h8 h7 hd5
        go_wp2_with fail
        refine k1.mono ?_
        rintro e w6 ⟨rfl, b6⟩
        have b6' := b5.trans (b6.mono b5.size)
        have l6 := l5.below b6
        clear k1 l5 b5 b6
        go_wp2_with fail
        refine (k2 _ l6).mono ?_
        rintro e w7 ⟨rfl, rfl⟩
        go_wp2
        go_ret
        exact ⟨rfl, b6'⟩
theorem forced_any (w : World) (vl : Value) (l : List (Value × List UInt8)) (k t : Int) (hl : RcArg w vl l) (hk : (Lit.int .u64 k).wf = true) (ht : (Lit.int .u8 t).wf = true) :
    Calls Try.prog 4 #[vl, .int .u64 k, .int .u8 t] w fun e w' => e = .returned (.bool true) ∧ Below w.heap.size w w' := by
  by_cases h : 30 < l.length ∨ 10000 < weigh l
  · exact forced_big w vl l k t hl h
  · have kb := bounds_u64 hk
    have tb := bounds_u8 ht
    obtain ⟨kn, rfl⟩ : ∃ n : Nat, k = (n : Int) := ⟨k.toNat, by omega⟩
    obtain ⟨tn, rfl⟩ : ∃ n : Nat, t = (n : Int) := ⟨t.toNat, by omega⟩
    exact forced_loop w vl l kn tn hl (by omega) (by omega) (by omega) (by omega)
end Go.Proofs.Ytjaidhglemnakab
