/- The walk of WallsSure. -/
import Derived.Test.YtjaidhglemnakaaWSureM
import Derived.Test.YtjaidhglemnakaaWArgsK
import Derived.LoopTactic
import Derived.Deep.Cut
set_option linter.unusedSimpArgs false
set_option linter.unusedVariables false
namespace Go.Proofs.Ytjaidhglemnakaa
open Go.RowKit Go.Maps Go.ChangeShapes Go.WideShapes

theorem swrap (n : Nat) (h : n < 9223372036854775808) : IntKind.i64.wrap (n : Int) = (n : Int) := by
  simp [IntKind.wrap, IntKind.signed, IntKind.bits]
  omega
theorem stmod (a n : Nat) : ((a : Int)).tmod (n : Int) = ((a % n : Nat) : Int) := rfl
/-- The argument's box. -/
def keptO (u : Value) (f k t : Nat) : Obj := .cells #[u, .int .u8 (f : Int), .int .u64 (k : Int), .int .u8 (t : Int)] 45 (0, 0)
theorem boxK (u : Value) (f k t : Nat) (hu : ∃ ao n c, u = .slice ao n c) (W : World) : (Instr.box 45 (.agg #[u, .int .u8 (f : Int), .int .u64 (k : Int), .int .u8 (t : Int)])).run Try.prog W = .ok (.pointer (some ⟨W.heap.size, 0, none⟩)) (W.alloc (keptO u f k t)) := by
  simp [Instr.box, newVar, newRow, Value.cells, keptO]
structure KB (w W : World) (u : Value) (f k t : Nat) (vm : Value) (m : List UInt8) (l : List (Value × List UInt8)) : Prop where
  box : W.heap[w.heap.size]? = some (keptO u f k t)
  be : Below w.heap.size w W
  z : w.heap.size + 1 ≤ W.heap.size
theorem KB.next {w W W' : World} {u : Value} {f k t : Nat} {vm : Value} {m : List UInt8} {l : List (Value × List UInt8)} (h : KB w W u f k t vm m l) (hb : Below (w.heap.size + 1) W W') : KB w W' u f k t vm m l :=
  ⟨(hb.block _ (Nat.lt_succ_self _)).trans h.box, h.be.trans (hb.mono (Nat.le_succ _)), Nat.le_trans h.z hb.size⟩
theorem KB.c0 {w W : World} {u : Value} {f k t : Nat} {vm : Value} {m : List UInt8} {l : List (Value × List UInt8)} (h : KB w W u f k t vm m l) : W.cell? ⟨w.heap.size, 0, none⟩ = some u := by have := h.box; simp [World.cell?, this, keptO]
theorem KB.c1 {w W : World} {u : Value} {f k t : Nat} {vm : Value} {m : List UInt8} {l : List (Value × List UInt8)} (h : KB w W u f k t vm m l) : W.cell? ⟨w.heap.size, 1, none⟩ = some (.int .u8 (f : Int)) := by have := h.box; simp [World.cell?, this, keptO]
theorem KB.c2 {w W : World} {u : Value} {f k t : Nat} {vm : Value} {m : List UInt8} {l : List (Value × List UInt8)} (h : KB w W u f k t vm m l) : W.cell? ⟨w.heap.size, 2, none⟩ = some (.int .u64 (k : Int)) := by have := h.box; simp [World.cell?, this, keptO]
theorem KB.c3 {w W : World} {u : Value} {f k t : Nat} {vm : Value} {m : List UInt8} {l : List (Value × List UInt8)} (h : KB w W u f k t vm m l) : W.cell? ⟨w.heap.size, 3, none⟩ = some (.int .u8 (t : Int)) := by have := h.box; simp [World.cell?, this, keptO]
theorem rc_take {w : World} {lim n c k : Nat} {ao : Option Addr} {l : List (Value × List UInt8)} (h : RcIn w lim (.slice ao n c) l) (hk : k ≤ l.length) : RcIn w lim (.slice ao k c) (l.take k) := by
  refine ⟨?_, fun x hx => h.els x (List.mem_of_mem_take hx)⟩
  obtain ⟨ao', c', e, h1, h2, h3⟩ := h.sl
  cases e
  have hl : (l.take k).length = k := by rw [List.length_take]; omega
  refine ⟨ao, c, by rw [hl], by omega, h2, fun hp => ?_⟩
  obtain ⟨b, off, rfl, hb, hc⟩ := h3 (by omega)
  refine ⟨b, off, rfl, hb, fun i hi j v hv => hc i (by omega) j v ?_⟩
  rw [List.getElem_take] at hv
  exact hv
/-- What holds of the disk once the first kk records were forced. -/
def Forced (l : List (Value × List UInt8)) (kk j : Nat) (d : Dk) : Prop := Clean d.low (pfx l kk) ∧ Waits d (span (pfx l kk)) (span (pfx l j))
theorem Forced.sync {l : List (Value × List UInt8)} {kk : Nat} {d : Dk} (h : Clean d (pfx l kk)) : Forced l kk kk d.sync := ⟨h.sync, Waits.nil rfl _ _⟩
theorem Forced.added {l : List (Value × List UInt8)} {kk j : Nat} {d : Dk} (h : Forced l kk j d) (hk : kk ≤ j) (hj : j < l.length) : Forced l kk (j + 1) (d.added (span (pfx l j)) (l[j]'hj).2) := by
  refine ⟨?_, ?_⟩
  · have : (d.added (span (pfx l j)) (l[j]'hj).2).low = d.low := by unfold Dk.low Dk.added; rw [Dk.puts_sure]
    rw [this]
    exact h.1
  · rw [pfx_succ hj, span_snoc]
    refine h.2.added ?_ _
    obtain ⟨i, rfl⟩ := Nat.exists_eq_add_of_le hk
    have e : pfx l (kk + i) = pfx l kk ++ ((l.drop kk).take i).map (·.2) := by unfold pfx; rw [List.take_add, List.map_append]
    rw [e, span_app]
    omega
theorem sure_step {base : Nat} {wr : World} {L B : Nat} {l : List (Value × List UInt8)} {j : Nat} {d : Dk} (h : LS base wr L B d (pfx l j)) (hb : base ≤ wr.heap.size) (hds : d.sure.length = 1200) (hdw : d.ws.length ≤ j * 260) (hj : j < l.length) (v : Value) (hv : InAt wr wr.heap.size v (l[j]'hj).2) (hr : (l[j]'hj).2.length ≤ 16384) (hf : span (l.map (·.2)) ≤ 1200) (h3 : j ≤ 3000) :
    Calls Try.prog 8 #[.pointer (some ⟨L, 0, none⟩), v] wr fun e w' => e = .returned (.int .i64 0) ∧ LS base w' L B (d.added (span (pfx l j)) (l[j]'hj).2) (pfx l (j + 1)) ∧ (d.added (span (pfx l j)) (l[j]'hj).2).sure.length = 1200 ∧ (d.added (span (pfx l j)) (l[j]'hj).2).ws.length ≤ (j + 1) * 260 ∧ Below base wr w' := by
  have hsp := span_pfx l (j + 1)
  rw [pfx_succ hj, span_snoc] at hsp
  have hse := secs_most hr
  refine (ls_add h hb v _ hv hr (by omega) (by omega)).mono ?_
  rintro e w' ⟨rfl, k1, k2, -⟩
  exact ⟨rfl, by rw [pfx_succ hj]; exact k1, by rw [Dk.added_len]; exact hds, by unfold Dk.added; rw [Dk.puts_wlen]; omega, k2⟩
set_option maxHeartbeats 1600000 in
set_option maxRecDepth 1000000 in
theorem sure_big (w : World) (vm u : Value) (l : List (Value × List UInt8)) (f k t : Nat) (m : List UInt8) (hl : RcArg w u l) (hm : InAt w w.heap.size vm m) (h : 40 < l.length ∨ 20000 < weigh l ∨ 1000 < m.length) :
    Calls Try.prog 4 #[.agg #[u, .int .u8 (f : Int), .int .u64 (k : Int), .int .u8 (t : Int)], vm] w fun e w' => e = .returned (.bool true) ∧ Below w.heap.size w w' := by
  have ha := hl.rc
  obtain ⟨ao, ca, rfl, ha1, ha2⟩ := rc_len ha
  unfold maxLen at ha2
  obtain ⟨mo, cm, rfl, hm1, hm2, -⟩ := hm
  unfold maxLen at hm2
  have hbox := boxK (.slice ao l.length ca) f k t ⟨_, _, _, rfl⟩
  have b0 := below_one w (keptO (.slice ao l.length ca) f k t)
  have K0 : KB w (w.alloc (keptO (.slice ao l.length ca) f k t)) (.slice ao l.length ca) f k t (.slice mo m.length cm) m l := ⟨World.alloc_heap_new w _, b0, by simp⟩
  have kr := fun (W : World) (hW : Below w.heap.size w W) => recsSize_any W _ _ l (ha.below hW (Nat.le_refl _)) hl.len hl.els
  have hwl : Hid (40 < l.length ∨ 20000 < weigh l ∨ 1000 < m.length) := h
  clear hl ha h
  go_enter Try.func4, Try.ntmps4
  go_wp2_with fail
  refine (walive_any _).mono ?_
  rintro e w1 ⟨rfl, b1⟩
  have K1 := K0.next (b1.mono (by simp))
  have x0 := K1.c0
  have b1' := K1.be
  clear K0 b1 hbox
  by_cases h1 : 40 < l.length
  · have i1 : (40 : Int) < (l.length : Int) := by omega
    clear kr hwl
    go_wp2_with fail
    refine (walive_any _).mono ?_
    rintro e w2 ⟨rfl, b2⟩
    go_wp2
    go_ret
    exact ⟨rfl, b1'.trans (b2.mono b1'.size)⟩
  · have i1 : ¬ (40 : Int) < (l.length : Int) := by omega
    have k1 := kr w1 b1'
    clear kr
    go_wp2_with fail
    refine k1.mono ?_
    rintro e w' ⟨⟨z, rfl, hz, hz2⟩, rfl⟩
    by_cases h2 : (20000 : Int) < z
    · clear hz hz2 hwl
      go_wp2_with fail
      refine (walive_any _).mono ?_
      rintro e w2 ⟨rfl, b2⟩
      go_wp2
      go_ret
      exact ⟨rfl, b1'.trans (b2.mono b1'.size)⟩
    · have h3 : (1000 : Int) < (m.length : Int) := by
        have h4 := hwl.out
        have h5 := hz (by omega)
        omega
      clear hz hz2 hwl
      go_wp2_with fail
      refine (walive_any _).mono ?_
      rintro e w2 ⟨rfl, b2⟩
      go_wp2
      go_ret
      exact ⟨rfl, b1'.trans (b2.mono b1'.size)⟩
set_option maxHeartbeats 3000000 in
set_option maxRecDepth 1000000 in
theorem sure_loop (w : World) (vm u : Value) (l : List (Value × List UInt8)) (f k t : Nat) (m : List UInt8) (hl : RcArg w u l) (hf : f < 256) (hk : k < 18446744073709551616) (ht : t < 256) (hm : InAt w w.heap.size vm m) (h1 : l.length ≤ 40) (h2 : weigh l ≤ 20000) (h3 : m.length ≤ 1000) :
    Calls Try.prog 4 #[.agg #[u, .int .u8 (f : Int), .int .u64 (k : Int), .int .u8 (t : Int)], vm] w fun e w' => e = .returned (.bool true) ∧ Below w.heap.size w w' := by
  have ha := hl.rc
  obtain ⟨ao, ca, rfl, ha1, ha2⟩ := rc_len ha
  unfold maxLen at ha2
  have hm0 := hm
  obtain ⟨mo, cm, rfl, hm1, hm2, -⟩ := hm
  unfold maxLen at hm2
  have hbox := boxK (.slice ao l.length ca) f k t ⟨_, _, _, rfl⟩
  have b0 := below_one w (keptO (.slice ao l.length ca) f k t)
  have K0 : KB w (w.alloc (keptO (.slice ao l.length ca) f k t)) (.slice ao l.length ca) f k t (.slice mo m.length cm) m l := ⟨World.alloc_heap_new w _, b0, by simp⟩
  have kr := fun (W : World) (hW : Below w.heap.size w W) => recsSize_any W _ _ l (ha.below hW (Nat.le_refl _)) hl.len hl.els
  have i1 : ¬ (40 : Int) < (l.length : Int) := by omega
  have i3 : ¬ (1000 : Int) < (m.length : Int) := by omega
  have hsp : span (l.map (·.2)) ≤ 400 := by have := span_weigh h2 h1; omega
  have hspH : Hid (span (l.map (·.2)) ≤ 400) := hsp
  have hwH : Hid (weigh l ≤ 20000) := h2
  obtain ⟨kk, hkk⟩ : ∃ kk, kk = f % (l.length + 1) := ⟨_, rfl⟩
  have hkn : kk ≤ l.length := by have := Nat.mod_lt f (show l.length + 1 > 0 by omega); omega
  have wf := swrap f (by omega)
  obtain ⟨tm, htm⟩ : ∃ tm, tm = t % 80 := ⟨_, rfl⟩
  have ttm : ((t : Int)).tmod 80 = (tm : Int) := by rw [htm]; exact stmod t 80
  have wtm := swrap tm (by omega)
  have htm2 : tm < 80 := by omega
  have hcl : l.length ≤ ca := by omega
  have hkH : Hid (k < 18446744073709551616) := hk
  have hlsH : Hid (∀ x ∈ l, x.2.length ≤ 140737488351232) := hl.els
  have hkkH : Hid (kk = f % (l.length + 1)) := hkk
  clear hl hsp h2 hkk htm hf hk ht
  go_enter Try.func4, Try.ntmps4
  go_wp2_with fail
  refine (walive_any _).mono ?_
  rintro e w0 ⟨rfl, b1⟩
  have K1 := K0.next (b1.mono (by simp))
  have x0 := K1.c0
  clear K0 b1 hbox b0
  have k1 := kr w0 K1.be
  clear kr
  go_wp2_with fail
  refine k1.mono ?_
  rintro e w' ⟨⟨z, rfl, hz, hz2⟩, rfl⟩
  have i2 : ¬ (20000 : Int) < z := by
    have := hwH.out
    by_cases hh : z ≤ 1048576
    · have := hz hh; omega
    · exfalso
      have := hz2 (by omega)
      omega
  clear hz hz2 k1
  go_wp2_with fail
  refine (new_own w0 1200 (by omega) (by omega)).mono ?_
  rintro e w1 ⟨B, rfl, b1, o1⟩
  have o1' : Own (w.heap.size + 1) w1 B (Dk.new 1200) := own_weak o1 K1.z
  have K2 := K1.next (b1.mono K1.z)
  clear K1 b1 o1 x0
  go_wp2_with fail
  refine (ls_open o1' K2.z (by show (0 : Nat) ≤ _; omega)).mono ?_
  rintro e w2 ⟨L, v, X, rfl, l2, r2, x2, b2, -⟩
  rw [(Clean.new (by omega) (by omega)).recs] at l2 x2
  obtain ⟨a3, c3, rfl⟩ := rc_nil r2 x2
  have K3 := K2.next b2
  have hd2 : (Dk.new 1200).opened.sure.length = 1200 := by rw [Dk.opened_len, Dk.new_len]
  have hw2 : (Dk.new 1200).opened.ws.length ≤ 0 := by rw [Dk.opened_ws]; simp
  generalize (Dk.new 1200).opened = d2 at *
  clear r2 x2 o1' K2 b2
  have x0 := K3.c0
  have x1 := K3.c1
  go_upto_if 56 with (fail)
  go_cut [10] from 17 (fun s10 wx => s10 = .int .i64 (kk : Int) ∧ wx = w2)
  case first =>
    clear ha hm0 l2 K3
    have hkk := hkkH.out
    by_cases h0 : 0 < l.length
    · have i0 : (0 : Int) < (l.length : Int) := by omega
      have tkk : ((f : Int)).tmod ((l.length : Int) + 1) = (kk : Int) := by rw [hkk]; exact stmod f (l.length + 1)
      have i00 : ((l.length : Int) + 1 == 0) = false := by simp; omega
      clear hkk h0
      go_wp2
      go_meet
      case rel =>
        refine ⟨?_, rfl⟩
        first | done | rfl | (simp; done)
    · have i0 : ¬ (0 : Int) < (l.length : Int) := by omega
      have hkk0 : Hid (kk = 0) := (by have h9 : f % 1 = 0 := Nat.mod_one f; have h8 : l.length = 0 := by omega
                                      rw [h8] at hkk; omega : kk = 0)
      clear hkk h0
      go_wp2
      go_meet
      case rel =>
        refine ⟨?_, rfl⟩
        rw [hkk0.out]
        first | done | rfl | (simp; done)
  case rest =>
  obtain ⟨rfl, rfl⟩ := hcut
  go_wp2_with fail
  go_loopw [11] (fun i wr => ∃ (j : Nat) (d : Dk), j ≤ l.length + 1 ∧ i = .int .i64 (j : Int) ∧ LS (w.heap.size + 1) wr L B d (pfx l j) ∧ d.sure.length = 1200 ∧ d.ws.length ≤ j * 260 ∧ KB w wr (.slice ao l.length ca) f k t (.slice mo m.length cm) m l ∧ (kk < j → Forced l kk j d)) (fun i _ => l.length + 1 - (intOf i).toNat)
  case atStart => exact ⟨0, d2, by omega, rfl, l2, hd2, by omega, K3, fun h => by omega⟩
  case round =>
    obtain ⟨j, d, hj, rfl, hls, hds, hdw, K, hF⟩ := hrel
    clear l2 hd2 hw2 K3 x0 x1
    have x0 := K.c0
    by_cases hjn : j ≤ l.length
    · have i4 : (j : Int) ≤ (l.length : Int) := by omega
      have stepN : ∀ (W : World) (d' : Dk), LS (w.heap.size + 1) W L B d' (pfx l j) → KB w W (.slice ao l.length ca) f k t (.slice mo m.length cm) m l → d'.sure.length = 1200 → d'.ws.length ≤ j * 260 → (kk ≤ j → Forced l kk j d') → ¬ j < l.length → ∃ (j' : Nat) (d'' : Dk), j' ≤ l.length + 1 ∧ Value.int .i64 ((j : Int) + 1) = .int .i64 (j' : Int) ∧ LS (w.heap.size + 1) W L B d'' (pfx l j') ∧ d''.sure.length = 1200 ∧ d''.ws.length ≤ j' * 260 ∧ KB w W (.slice ao l.length ca) f k t (.slice mo m.length cm) m l ∧ (kk < j' → Forced l kk j' d'') := fun W d' a1 a2 a3 a4 a5 a6 => by
        have e : pfx l (j + 1) = pfx l j := by rw [pfx_all (by omega), pfx_all (by omega)]
        refine ⟨j + 1, d', by omega, by simp, by rw [e]; exact a1, a3, by omega, a2, fun h => ?_⟩
        unfold Forced
        rw [e]
        exact a5 (by omega)
      have stepNH : Hid (∀ (W : World) (d' : Dk), LS (w.heap.size + 1) W L B d' (pfx l j) → KB w W (.slice ao l.length ca) f k t (.slice mo m.length cm) m l → d'.sure.length = 1200 → d'.ws.length ≤ j * 260 → (kk ≤ j → Forced l kk j d') → ¬ j < l.length → _) := stepN
      clear stepN
      by_cases hjk : j = kk
      · have i5 : ((j : Int) == (kk : Int)) = true := by simp [hjk]
        have kf := ls_force hls K.z
        have hcl0 := hls.clean
        have hFs : Forced l kk j d.sync := by rw [hjk] at hcl0 ⊢; exact Forced.sync hcl0
        have hjkH : Hid (j = kk) := hjk
        have hdl : d.sync.sure.length = 1200 := by rw [Dk.sync_len]; exact hds
        have hdl2 : d.sync.ws.length ≤ j * 260 := Nat.zero_le _
        subst hjk
        clear hF hcl0 hls hds hdw
        go_wp2_with fail
        refine kf.mono ?_
        rintro e w3 ⟨rfl, l3, b3, -⟩
        have K3 := K.next b3
        have y0 := K3.c0
        clear kf K b3 x0
        generalize d.sync = d' at *
        have hz := K3.z
        by_cases hjl : j < l.length
        · have i6 : (j : Int) < (l.length : Int) := by omega
          obtain ⟨b1, o1, u1, rfl, hb1, p0, f1, -⟩ := rc_cell (ha.below K3.be (Nat.le_refl _)) hjl
          have f1' := SlAt.mono f1 K3.be.size
          have bed := K3.be
          by_cases hbig : 16384 < (l[j]'hjl).2.length
          · have i7 : (16384 : Int) < ((l[j]'hjl).2.length : Int) := by omega
            have kb := ls_big l3 u1 _ f1' hbig
            obtain ⟨x1, y1, rfl⟩ := in_slice f1
            generalize (l[j]'hjl).2.length = z1 at *
            clear f1 f1' ha hbig stepNH hFs
            go_wp2_with fail
            refine kb.mono ?_
            rintro e w' ⟨rfl, rfl⟩
            go_wp2
            go_ret
            exact ⟨rfl, bed⟩
          · have ka := sure_step l3 hz hdl hdl2 hjl u1 f1' (by omega) (by have := hspH.out; omega) (by omega)
            have hFn : j < j + 1 → Forced l j (j + 1) (d'.added (span (pfx l j)) (l[j]'hjl).2) := fun h => Forced.added (hFs) (by omega) hjl
            have hFnH : Hid (j < j + 1 → Forced l j (j + 1) (d'.added (span (pfx l j)) (l[j]'hjl).2)) := hFn
            obtain ⟨x1, y1, rfl⟩ := in_slice f1
            generalize d'.added (span (pfx l j)) (l[j]'hjl).2 = dn at *
            generalize (l[j]'hjl).2.length = z1 at *
            clear f1 f1' ha hbig stepNH hFs hFn
            go_wp2_with fail
            refine ka.mono ?_
            rintro e w4 ⟨rfl, l4, q1, q2, b4⟩
            have K4 := K3.next b4
            clear ka
            go_wp2
            go_roundw
            case rel => exact ⟨j + 1, dn, by omega, by go_num, l4, q1, q2, K4, hFnH.out⟩
            case measure => simp [intOf]; omega
        · have i6 : ¬ (j : Int) < (l.length : Int) := by omega
          have fin := stepNH.out _ _ l3 K3 hdl hdl2 (fun _ => hFs) hjl
          have finH : Hid _ := fin
          clear fin stepNH ha hFs
          go_wp2
          go_roundw
          case rel => exact finH.out
          case measure => simp [intOf]; omega
      · have i5 : ¬ (j : Int) = (kk : Int) := by omega
        have hFs : kk ≤ j → Forced l kk j d := fun h => hF (by omega)
        have hjkH : Hid (¬ j = kk) := hjk
        clear hF hjk
        have hz := K.z
        by_cases hjl : j < l.length
        · have i6 : (j : Int) < (l.length : Int) := by omega
          obtain ⟨b1, o1, u1, rfl, hb1, p0, f1, -⟩ := rc_cell (ha.below K.be (Nat.le_refl _)) hjl
          have f1' := SlAt.mono f1 K.be.size
          have bed := K.be
          by_cases hbig : 16384 < (l[j]'hjl).2.length
          · have i7 : (16384 : Int) < ((l[j]'hjl).2.length : Int) := by omega
            have kb := ls_big hls u1 _ f1' hbig
            obtain ⟨x1, y1, rfl⟩ := in_slice f1
            generalize (l[j]'hjl).2.length = z1 at *
            clear f1 f1' ha hbig stepNH hFs
            go_wp2_with fail
            refine kb.mono ?_
            rintro e w' ⟨rfl, rfl⟩
            go_wp2
            go_ret
            exact ⟨rfl, bed⟩
          · have ka := sure_step hls hz hds hdw hjl u1 f1' (by omega) (by have := hspH.out; omega) (by omega)
            have hFn : kk < j + 1 → Forced l kk (j + 1) (d.added (span (pfx l j)) (l[j]'hjl).2) := fun h => Forced.added (hFs (by omega)) (by omega) hjl
            have hFnH : Hid (kk < j + 1 → Forced l kk (j + 1) (d.added (span (pfx l j)) (l[j]'hjl).2)) := hFn
            obtain ⟨x1, y1, rfl⟩ := in_slice f1
            generalize d.added (span (pfx l j)) (l[j]'hjl).2 = dn at *
            generalize (l[j]'hjl).2.length = z1 at *
            clear f1 f1' ha hbig stepNH hFs hFn
            go_wp2_with fail
            refine ka.mono ?_
            rintro e w4 ⟨rfl, l4, q1, q2, b4⟩
            have K4 := K.next b4
            clear ka
            go_wp2
            go_roundw
            case rel => exact ⟨j + 1, dn, by omega, by go_num, l4, q1, q2, K4, hFnH.out⟩
            case measure => simp [intOf]; omega
        · have i6 : ¬ (j : Int) < (l.length : Int) := by omega
          have fin := stepNH.out _ _ hls K hds hdw hFs hjl
          have finH : Hid _ := fin
          clear fin stepNH ha hFs
          go_wp2
          go_roundw
          case rel => exact finH.out
          case measure => simp [intOf]; omega
    · have i4 : ¬ (j : Int) ≤ (l.length : Int) := by omega
      have hG := hF (by omega)
      rw [pfx_all (by omega)] at hls
      unfold Forced at hG
      rw [pfx_all (l := l) (k := j) (by omega)] at hG
      have hLk : l.map (·.2) = pfx l kk ++ (l.drop kk).map (·.2) := by unfold pfx; rw [← List.map_append, List.take_append_drop]
      obtain ⟨⟨M, hM⟩, hfew, hspan⟩ := sure_few hLk hls.clean hG.1 hG.2 k ((tm : Int) - 1)
      have hfl : (d.fail k ((tm : Int) - 1)).sure.length = 1200 := by rw [Dk.fail_len]; exact hds
      have kfl := fail_own hls.own k hkH.out ((tm : Int) - 1) (by omega)
      have x2 := K.c2
      have x3 := K.c3
      have hfw : (d.fail k ((tm : Int) - 1)).ws = [] := rfl
      rw [List.length_map] at hfew
      obtain ⟨Rp, hRp⟩ : ∃ Rp, Rp = recs (d.fail k ((tm : Int) - 1)).all := ⟨_, rfl⟩
      rw [← hRp] at hM hfew hspan
      have hRpH : Hid (Rp = recs (d.fail k ((tm : Int) - 1)).all) := hRp
      have hMH : Hid (Rp = pfx l kk ++ M) := hM
      have hkp : kk ≤ Rp.length := by rw [hM, List.length_append]; unfold pfx; rw [List.length_map, List.length_take]; omega
      have hspan2 : Hid (span Rp ≤ 400) := (by have := hspH.out; omega : span Rp ≤ 400)
      generalize d.fail k ((tm : Int) - 1) = df at *
      clear hF hG hLk hRp hM hspan hls hds hdw
      go_wp2_with fail
      refine kfl.mono ?_
      rintro e w3 ⟨C, rfl, b3, o3⟩
      have o3' : Own (w.heap.size + 1) w3 C df := own_weak o3 K.z
      have K3 := K.next (b3.mono K.z)
      have ko := ls_open o3' K3.z (by rw [hfw]; simp)
      rw [← hRpH.out] at ko
      clear kfl b3 o3 K x0 x2 x3 o3'
      go_wp2_with fail
      refine ko.mono ?_
      rintro e w4 ⟨L4, p, X4, rfl, l4, r4, x4, b4, -⟩
      have K4 := K3.next b4
      have hnp : X4.length = Rp.length := by have := congrArg List.length x4; simpa using this
      obtain ⟨ap, cp, ep, hcp1, hcp2⟩ := own_len' r4.row
      subst ep
      unfold maxLen at hcp2
      have y0 := K4.c0
      have p4 := r4.in
      have t1 := rc_take p4 (k := kk) (by rw [List.length_map]; omega)
      have t2 := rc_take (ha.below K4.be (Nat.le_refl _)) (k := kk) hkn
      have hse : ((X4.map recP).take kk).map (·.2) = (l.take kk).map (·.2) := by
        rw [List.map_take, List.map_map]
        have : X4.map ((fun x => x.2) ∘ recP) = Rp := x4
        rw [this, hMH.out]
        have e : (pfx l kk).length = kk := by unfold pfx; rw [List.length_map, List.length_take]; omega
        rw [List.take_append_of_le_length (by omega), List.take_of_length_le (by omega)]
        rfl
      have kS : ∀ q, Calls Try.prog 16 #[.slice ap kk cp, .slice ao kk ca] (w4.drewN q) fun e w' => e = .returned (.bool true) ∧ ∃ m', w' = (w4.drewN q).drewN m' := fun q => sameRecs_any (w4.drewN q) _ _ _ _ _ _ ⟨t1.sl.kept (fun _ _ => rfl), fun x hx => SlAt.kept (t1.els x hx) (fun _ _ => rfl)⟩ ⟨t2.sl.kept (fun _ _ => rfl), fun x hx => SlAt.kept (t2.els x hx) (fun _ _ => rfl)⟩ hse
      obtain ⟨np, hnp2⟩ : ∃ np, np = X4.length := ⟨_, rfl⟩
      rw [← hnp2] at hcp1 ⊢
      have j1 : ¬ (np : Int) < (kk : Int) := by omega
      have j2 : ¬ (l.length : Int) < (np : Int) := by omega
      have j3 : (kk : Int) ≤ (cp : Int) := by omega
      have j4 : (kk : Int) ≤ (ca : Int) := by omega
      have hnpH : Hid (np = X4.length) := hnp2
      have hnpR : Hid (X4.length = Rp.length) := hnp
      have hcl4 := l4.clean
      clear ko hse t1 t2 K3 b4 hnp hnp2 hkp hfew
      go_wp2
      have j1' : ¬ (np : Int) < (kk : Int) := by omega
      have j2' : ¬ (l.length : Int) < (np : Int) := by omega
      go_big_quiet (first | (go_at_call 16; refine Calls.quiet_of (kS _)))
      have l5 := l4.below (below_drewN w4 nq)
      have r5 := r4.below (below_drewN w4 nq)
      have K5 := K4.next ((below_drewN w4 nq).mono K4.z)
      obtain ⟨W5, hW5⟩ : ∃ W5, w4.drewN nq = W5 := ⟨_, rfl⟩
      rw [hW5] at l5 r5 K5 ⊢
      have hdo : df.opened.sure.length = 1200 := by rw [Dk.opened_len]; exact hfl
      have hdo2 : df.opened.ws = [] := Dk.opened_ws _
      have hse2 : secs m.length ≤ 20 := by unfold secs; omega
      have hsp2 := hspan2.out
      have ka := ls_add l5 K5.z (.slice mo m.length cm) m (SlAt.mono (SlAt.below hm0 K5.be (Nat.le_refl _)) K5.be.size) (by omega) (by rw [hdo]; omega) (by rw [hdo2]; simp)
      have hww : (df.opened.added (span Rp) m).ws.length ≤ 800000 := by unfold Dk.added; rw [Dk.puts_wlen, hdo2]; simp; omega
      clear hW5 l4 r4 K4 kS y0 p4 hcl4 hdo hdo2 hse2 hsp2 hfl hfw
      generalize df.opened.added (span Rp) m = d6 at *
      go_wp2_with fail
      refine ka.mono ?_
      rintro e w6 ⟨rfl, l6, b6, c6⟩
      have K6 := K5.next b6
      have r6 := r5.ochg c6 (KT.no (by decide)) (KT.no (by decide))
      have ko := ls_open l6.own K6.z hww
      rw [l6.clean.recs] at ko
      clear ka b6 c6 r5 l5 K5 l6 hww
      go_wp2_with fail
      refine ko.mono ?_
      rintro e w7 ⟨L7, q, X7, rfl, -, r7, x7, b7, c7⟩
      have K7 := K6.next b7
      have r6' := r6.ochg c7 (KT.no (by decide)) (KT.no (by decide))
      obtain ⟨aq, cq, eq, hcq1, hcq2⟩ := own_len' r7.row
      subst eq
      unfold maxLen at hcq2
      have hnq : X7.length = np + 1 := by have h7 := congrArg List.length x7; rw [List.length_map, List.length_append, List.length_singleton] at h7; have := hnpH.out; have := hnpR.out; omega
      have q7 := r7.in
      rw [hnq] at q7 hcq1 ⊢
      have t1 := rc_take q7 (k := np) (by rw [List.length_map]; omega)
      have p7 := r6'.in
      rw [← hnpH.out] at p7
      have hy4 : (X4.map recP).map (·.2) = Rp := by rw [List.map_map]; exact x4
      have hy7 : (X7.map recP).map (·.2) = Rp ++ [m] := by rw [List.map_map]; exact x7
      have hRl : Rp.length = np := by have := hnpH.out; have := hnpR.out; omega
      have hse : ((X7.map recP).take np).map (·.2) = (X4.map recP).map (·.2) := by
        rw [List.map_take, hy7, hy4, ← hRl, List.take_left]
      have kS := sameRecs_any w7 _ _ _ _ _ _ t1 p7 hse
      obtain ⟨gq, fq, uq, rfl, -, cc, iq, -⟩ := rc_cell q7 (k := np) (by rw [List.length_map]; omega)
      have hlast : ((X7.map recP)[np]'(by rw [List.length_map]; omega)).2 = m := by
        have h8 := congrArg (fun x => x[np]?) hy7
        simp only [List.getElem?_map] at h8
        rw [List.getElem?_append_right (by omega), hRl, Nat.sub_self] at h8
        have hlt : np < X7.length := by omega
        simpa [hlt] using h8
      rw [hlast] at iq
      have hm7 := SlAt.below hm0 K7.be (Nat.le_refl _)
      have kB : ∀ j, Calls Try.prog 17 #[uq, .slice mo m.length cm] (w7.drewN j) fun e w' => e = .returned (.bool true) ∧ ∃ m', w' = (w7.drewN j).drewN m' := fun j => sameBytes_any (w7.drewN j) _ _ _ _ m (SlAt.kept iq (fun _ _ => rfl)) (SlAt.kept hm7 (fun _ _ => rfl))
      have ccn : ∀ j, (w7.drewN j).cell? ⟨gq, fq + np, none⟩ = some uq := fun j => cc
      obtain ⟨s1, t1', rfl⟩ := in_slice iq
      have be7 := K7.be
      have g1 : (np : Int) ≤ (cq : Int) := by omega
      have g2 : (np : Int) < (np : Int) + 1 := by omega
      have g3 : np ≤ 1000 := by omega
      clear hlast iq hm7 hse hy4 hy7 hRl p7 t1 q7 r7 r6' r6 x7 x4 b7 c7 K6 K7 hnq hnpH hnpR hMH hRpH hm0 ha hcp1
      go_wp2_with fail
      refine kS.mono ?_
      rintro e w8 ⟨rfl, n8, rfl⟩
      have c8 := ccn n8
      have kB8 := kB n8
      clear kS kB ccn cc
      go_wp2_with fail
      refine kB8.mono ?_
      rintro e w9 ⟨rfl, n9, rfl⟩
      go_wp2
      go_ret
      exact ⟨rfl, be7.trans ((below_drewN w7 (n8 + n9)).mono be7.size)⟩
theorem sure_any (w : World) (vm u : Value) (l : List (Value × List UInt8)) (f k t : Nat) (m : List UInt8) (hl : RcArg w u l) (hf : f < 256) (hk : k < 18446744073709551616) (ht : t < 256) (hm : InAt w w.heap.size vm m) :
    Calls Try.prog 4 #[.agg #[u, .int .u8 (f : Int), .int .u64 (k : Int), .int .u8 (t : Int)], vm] w fun e w' => e = .returned (.bool true) ∧ Below w.heap.size w w' := by
  by_cases h : 40 < l.length ∨ 20000 < weigh l ∨ 1000 < m.length
  · exact sure_big w vm u l f k t m hl hm h
  · exact sure_loop w vm u l f k t m hl hf hk ht hm (by omega) (by omega) (by omega)
end Go.Proofs.Ytjaidhglemnakaa
