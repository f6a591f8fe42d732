/- The walk of RowsLong: how many bytes are made of ops, and of changes. -/
import Derived.Test.YtndjgilheleplabRAlive
import Derived.Test.YtndjgilheleplabRCases
import Derived.Test.YtndjgilheleplabRSizeO
import Derived.Test.YtndjgilheleplabRSameC
set_option linter.unusedSimpArgs false
set_option linter.unusedVariables false
namespace Go.Proofs.Ytndjgilheleplab
open Go.RowKit

theorem wrap64_small {x : Int} (h0 : 0 ≤ x) (h1 : x ≤ 1000000) : wrap64 x = x := IntWalk.wrap64_in x ⟨by omega, by omega⟩
theorem wrap_eq (x : Int) : IntKind.i64.wrap x = wrap64 x := by rw [IntKind.wrap_i64]; unfold wrap64; rfl
theorem encOp_len (x : OpD) : (encOp x).length = 7 + x.key.size + x.to.size := by simp only [encOp, List.length_cons, List.length_append, txt_len, be4_len]; omega
theorem encCh_len (x : ChD) : (encCh x).length = 6 + x.key.size := by simp only [encCh, List.length_cons, List.length_append, txt_len, be4_len]; omega
theorem long_op {z : Int} {L : List UInt8} {x : OpD} (hz : z = 2 + (L.length : Int)) (hx : opOk x = true) (hL : L.length ≤ 10000) : IntKind.i64.wrap (IntKind.i64.wrap (IntKind.i64.wrap (z + 7) + (x.key.size : Int)) + (x.to.size : Int)) = 2 + ((L ++ encOp x).length : Int) := by
  have h1 := opOk_key hx
  have h2 := opOk_to hx
  rw [wrap_eq, wrap_eq, wrap_eq, wrap64_small (x := z + 7) (by omega) (by omega), wrap64_small (x := z + 7 + (x.key.size : Int)) (by omega) (by omega), wrap64_small (by omega) (by omega), List.length_append, encOp_len]
  omega
theorem long_ch {z : Int} {L : List UInt8} {x : ChD} (hz : z = 2 + (L.length : Int)) (hx : chOk x = true) (hL : L.length ≤ 10000) : wrap64 (wrap64 (z + 6) + (x.key.size : Int)) = 2 + ((L ++ encCh x).length : Int) := by
  have h1 : x.key.size ≤ 16 := by unfold chOk at hx; rw [Bool.and_eq_true] at hx; exact chk_size hx.1
  rw [wrap64_small (x := z + 6) (by omega) (by omega), wrap64_small (by omega) (by omega), List.length_append, encCh_len]
  omega

set_option maxHeartbeats 8000000 in
set_option maxRecDepth 1000000 in
theorem long_many (w : World) (vl vm : Value) (l : List OpD) (m : List ChD) (hl : SlAt 4 opCells w w.heap.size vl l) (hsm : ∀ x ∈ l, opSm x) (hm : SlAt 3 chCells w w.heap.size vm m) (hsm2 : ∀ x ∈ m, chSm x) (hmany : 100 < m.length) :
    Calls Try.prog 6 #[vl, vm] w fun e w' => e = .returned (.bool true) ∧ Below w.heap.size w w' := by
  have kA := alive_any w
  have kS := fun W (hW : Below w.heap.size w W) => opsSize_any W w.heap.size vl l (hl.below hW (Nat.le_refl _)) hsm
  have kS2 := fun W (hW : Below w.heap.size w W) => chsSize_any W w.heap.size vm m (hm.below hW (Nat.le_refl _)) hsm2
  obtain ⟨ao0, ca0, rfl, hlc, hlm, hc⟩ := hl
  obtain ⟨ab0, cb0, rfl, hbc, hbm, hd⟩ := hm
  unfold maxLen at hlm hbm
  clear hc hd kS2
  go_enter Try.func6, Try.ntmps6
  go_wp2_with fail
  refine kA.mono ?_
  rintro e w1 ⟨rfl, b1⟩
  go_wp2_with fail
  refine (kS w1 b1).mono ?_
  rintro e w2 ⟨⟨z, rfl⟩, n, rfl⟩
  have b2 := b1.trans ((below_drewN w1 n).mono b1.size)
  generalize w1.drewN n = w3 at *
  clear kA kS b1
  by_cases hz : 3000 < z
  · go_wp2_with fail
    refine (alive_any _).mono ?_
    rintro e w4 ⟨rfl, b4⟩
    have b5 := b2.trans (b4.mono b2.size)
    go_wp2
    go_ret
    exact ⟨rfl, b5⟩

  · go_wp2_with fail
    refine (alive_any _).mono ?_
    rintro e w4 ⟨rfl, b4⟩
    have b5 := b2.trans (b4.mono b2.size)
    go_wp2
    go_ret
    exact ⟨rfl, b5⟩


set_option maxHeartbeats 8000000 in
set_option maxRecDepth 1000000 in
theorem long_arg_arg (w : World) (vl vm : Value) (l : List OpD) (m : List ChD) (hl : SlAt 4 opCells w w.heap.size vl l) (hsm : ∀ x ∈ l, opSm x) (hm : SlAt 3 chCells w w.heap.size vm m) (hsm2 : ∀ x ∈ m, chSm x) (hok : l.all opOk = false) (hok2 : m.all chOk = false) (hmany : ¬ 100 < m.length) :
    Calls Try.prog 6 #[vl, vm] w fun e w' => e = .returned (.bool true) ∧ Below w.heap.size w w' := by
  have kA := alive_any w
  have kS := fun W (hW : Below w.heap.size w W) => opsSize_any W w.heap.size vl l (hl.below hW (Nat.le_refl _)) hsm
  have kS2 := fun W (hW : Below w.heap.size w W) => chsSize_any W w.heap.size vm m (hm.below hW (Nat.le_refl _)) hsm2
  have kP := fun W (hW : Below w.heap.size w W) => PutOps_arg ((hl.below hW (Nat.le_refl _)).mono hW.size) hsm hok
  have kQ := fun W (hW : Below w.heap.size w W) => PutChanges_arg ((hm.below hW (Nat.le_refl _)).mono hW.size) hsm2 hok2
  obtain ⟨ao0, ca0, rfl, hlc, hlm, hc⟩ := hl
  obtain ⟨ab0, cb0, rfl, hbc, hbm, hd⟩ := hm
  unfold maxLen at hlm hbm
  go_enter Try.func6, Try.ntmps6
  go_wp2_with fail
  refine kA.mono ?_
  rintro e w1 ⟨rfl, b1⟩
  go_wp2_with fail
  refine (kS w1 b1).mono ?_
  rintro e w2 ⟨⟨z, rfl⟩, n, rfl⟩
  have b2 := b1.trans ((below_drewN w1 n).mono b1.size)
  generalize w1.drewN n = w3 at *
  clear kA kS b1
  by_cases hz : 3000 < z
  · clear hc hd kP kQ kS2
    go_wp2_with fail
    refine (alive_any _).mono ?_
    rintro e w4 ⟨rfl, b4⟩
    have b5 := b2.trans (b4.mono b2.size)
    go_wp2
    go_ret
    exact ⟨rfl, b5⟩

  · go_wp2_with fail
    refine (kS2 w3 b2).mono ?_
    rintro e w4 ⟨⟨z2, rfl⟩, n2, rfl⟩
    replace b2 := b2.trans ((below_drewN w3 n2).mono b2.size)
    generalize w3.drewN n2 = w3 at *
    clear kS2
    by_cases hz2 : 5000 < z2
    · clear hc hd kP kQ
      go_wp2_with fail
      refine (alive_any _).mono ?_
      rintro e w4 ⟨rfl, b4⟩
      have b5 := b2.trans (b4.mono b2.size)
      go_wp2
      go_ret
      exact ⟨rfl, b5⟩

    · go_wp2_with fail
      refine (kP w3 b2).mono ?_
      rintro e w4 ⟨ao, c, rfl, b4⟩
      have b5 := b2.trans (b4.mono b2.size)
      clear b4 kP
      go_wp2_with fail
      refine (kQ w4 b5).mono ?_
      rintro e w5 ⟨ao5, c5, rfl, b6⟩
      have b7 := b5.trans (b6.mono b5.size)
      clear b6 kQ
      go_wp2
      go_loopw [9, 10] (fun s i wr => ∃ (k n' : Nat) (z : Int), k ≤ l.length ∧ i = .int .i64 k ∧ s = .int .i64 z ∧ wr = w5.drewN n' ∧ Hid (l.all opOk = true → l.length ≤ 16 → z = 2 + (((l.take k).flatMap encOp).length : Int))) (fun _ i _ => l.length - (intOf i).toNat)
      case atStart => exact ⟨0, 0, 2, by omega, rfl, rfl, rfl, fun _ _ => by simp⟩
      case round =>
        obtain ⟨k, n', z, hk, rfl, rfl, rfl, hH⟩ := hrel
        by_cases h1 : k < l.length
        · obtain ⟨b, off, rfl, hbl, hcell⟩ := hc (by omega)
          obtain ⟨x, hx⟩ : ∃ x, x = l[k]'h1 := ⟨_, rfl⟩
          have cc : ∀ j u, (opCells x)[j]? = some u → w5.cell? ⟨b, off + k * 4 + j, none⟩ = some u := fun j u hu => (b7.cell hbl).trans (hcell k h1 j u (by rw [← hx]; exact hu))
          have c1 := cc 1 _ rfl
          have c2 := cc 2 _ rfl
          have e1 : Hid ((l.take (k + 1)).flatMap encOp = (l.take k).flatMap encOp ++ encOp x) := by
            show _ = _
            rw [flat_take_succ encOp l k h1, ← hx]
          have hxo : Hid (l.all opOk = true → opOk x = true) := fun h => by rw [hx]; exact List.all_eq_true.mp h _ (List.getElem_mem h1)
          have hlen : Hid (l.all opOk = true → ((l.take k).flatMap encOp).length ≤ l.length * 40) := fun h => Nat.le_trans (flat_take_len encOp l k) (putOps_len h)
          clear cc hx hcell hc
          have i1 : (k : Int) < (l.length : Int) := by omega
          go_wp2
          go_quiet (fail)
          go_wp2
          go_roundw
          case rel => exact ⟨k + 1, _, _, by omega, by go_num, rfl, rfl, fun h1 h2 => by rw [e1.out]; exact long_op (hH.out h1 h2) (hxo.out h1) (by have := hlen.out h1; omega)⟩
          case measure => simp [intOf]; omega
        · have e1 : l.take k = l := List.take_of_length_le (by omega)
          rw [e1] at hH
          have b8 := b7.trans ((below_drewN w5 n').mono b7.size)
          generalize w5.drewN n' = w6 at *
          clear hc e1
          go_wp2
          go_loopw [11, 12] (fun s i wr => ∃ (k : Nat) (z : Int), k ≤ m.length ∧ i = .int .i64 k ∧ s = .int .i64 z ∧ wr = w6 ∧ Hid (m.all chOk = true → m.length ≤ 100 → z = 2 + (((m.take k).flatMap encCh).length : Int))) (fun _ i _ => m.length - (intOf i).toNat)
          case atStart => exact ⟨0, 2, by omega, rfl, rfl, rfl, fun _ _ => by simp⟩
          case round =>
            obtain ⟨k2, z2, hk2, rfl, rfl, rfl, hH2⟩ := hrel
            by_cases h2 : k2 < m.length
            · obtain ⟨b, off, rfl, hbl, hcell⟩ := hd (by omega)
              obtain ⟨x, hx⟩ : ∃ x, x = m[k2]'h2 := ⟨_, rfl⟩
              have cc : ∀ j u, (chCells x)[j]? = some u → wr.cell? ⟨b, off + k2 * 3 + j, none⟩ = some u := fun j u hu => (b8.cell hbl).trans (hcell k2 h2 j u (by rw [← hx]; exact hu))
              have c0 := cc 0 _ rfl
              simp only [Nat.add_zero] at c0
              have e1 : Hid ((m.take (k2 + 1)).flatMap encCh = (m.take k2).flatMap encCh ++ encCh x) := by
                show _ = _
                rw [flat_take_succ encCh m k2 h2, ← hx]
              have hxo : Hid (m.all chOk = true → chOk x = true) := fun h => by rw [hx]; exact List.all_eq_true.mp h _ (List.getElem_mem h2)
              have hlen : Hid (m.all chOk = true → ((m.take k2).flatMap encCh).length ≤ m.length * 40) := fun h => Nat.le_trans (flat_take_len encCh m k2) (putChs_len h)
              clear cc hx hcell hd hH
              have i1 : (k2 : Int) < (m.length : Int) := by omega
              go_wp2
              go_roundw
              case rel => exact ⟨k2 + 1, _, by omega, by go_num, rfl, by first | rfl | trivial, fun h1 h2 => by rw [e1.out]; exact long_ch (hH2.out h1 h2) (hxo.out h1) (by have := hlen.out h1; omega)⟩
              case measure => simp [intOf]; omega
            · have e2 : m.take k2 = m := List.take_of_length_le (by omega)
              rw [e2] at hH2
              clear hd e2
              clear hH hH2
              go_wp2
              go_ret
              exact ⟨rfl, b8⟩


set_option maxHeartbeats 8000000 in
set_option maxRecDepth 1000000 in
theorem long_arg_fits (w : World) (vl vm : Value) (l : List OpD) (m : List ChD) (hl : SlAt 4 opCells w w.heap.size vl l) (hsm : ∀ x ∈ l, opSm x) (hm : SlAt 3 chCells w w.heap.size vm m) (hsm2 : ∀ x ∈ m, chSm x) (hok : l.all opOk = false) (hok2 : m.all chOk = true) (hmany : ¬ 100 < m.length) :
    Calls Try.prog 6 #[vl, vm] w fun e w' => e = .returned (.bool true) ∧ Below w.heap.size w w' := by
  have kA := alive_any w
  have kS := fun W (hW : Below w.heap.size w W) => opsSize_any W w.heap.size vl l (hl.below hW (Nat.le_refl _)) hsm
  have kS2 := fun W (hW : Below w.heap.size w W) => chsSize_any W w.heap.size vm m (hm.below hW (Nat.le_refl _)) hsm2
  have hn2 : m.length ≤ 4096 := by omega
  have kP := fun W (hW : Below w.heap.size w W) => PutOps_arg ((hl.below hW (Nat.le_refl _)).mono hW.size) hsm hok
  have kQ := fun W (hW : Below w.heap.size w W) => PutChanges_fits ((hm.below hW (Nat.le_refl _)).mono hW.size) hsm2 hok2 hn2
  obtain ⟨ao0, ca0, rfl, hlc, hlm, hc⟩ := hl
  obtain ⟨ab0, cb0, rfl, hbc, hbm, hd⟩ := hm
  unfold maxLen at hlm hbm
  go_enter Try.func6, Try.ntmps6
  go_wp2_with fail
  refine kA.mono ?_
  rintro e w1 ⟨rfl, b1⟩
  go_wp2_with fail
  refine (kS w1 b1).mono ?_
  rintro e w2 ⟨⟨z, rfl⟩, n, rfl⟩
  have b2 := b1.trans ((below_drewN w1 n).mono b1.size)
  generalize w1.drewN n = w3 at *
  clear kA kS b1
  by_cases hz : 3000 < z
  · clear hc hd kP kQ kS2
    go_wp2_with fail
    refine (alive_any _).mono ?_
    rintro e w4 ⟨rfl, b4⟩
    have b5 := b2.trans (b4.mono b2.size)
    go_wp2
    go_ret
    exact ⟨rfl, b5⟩

  · go_wp2_with fail
    refine (kS2 w3 b2).mono ?_
    rintro e w4 ⟨⟨z2, rfl⟩, n2, rfl⟩
    replace b2 := b2.trans ((below_drewN w3 n2).mono b2.size)
    generalize w3.drewN n2 = w3 at *
    clear kS2
    by_cases hz2 : 5000 < z2
    · clear hc hd kP kQ
      go_wp2_with fail
      refine (alive_any _).mono ?_
      rintro e w4 ⟨rfl, b4⟩
      have b5 := b2.trans (b4.mono b2.size)
      go_wp2
      go_ret
      exact ⟨rfl, b5⟩

    · go_wp2_with fail
      refine (kP w3 b2).mono ?_
      rintro e w4 ⟨ao, c, rfl, b4⟩
      have b5 := b2.trans (b4.mono b2.size)
      clear b4 kP
      go_wp2_with fail
      refine (kQ w4 b5).mono ?_
      rintro e w5 ⟨ao5, c5, rfl, o5, b6⟩
      clear o5
      have b7 := b5.trans (b6.mono b5.size)
      clear b6 kQ
      go_wp2
      go_loopw [9, 10] (fun s i wr => ∃ (k n' : Nat) (z : Int), k ≤ l.length ∧ i = .int .i64 k ∧ s = .int .i64 z ∧ wr = w5.drewN n' ∧ Hid (l.all opOk = true → l.length ≤ 16 → z = 2 + (((l.take k).flatMap encOp).length : Int))) (fun _ i _ => l.length - (intOf i).toNat)
      case atStart => exact ⟨0, 0, 2, by omega, rfl, rfl, rfl, fun _ _ => by simp⟩
      case round =>
        obtain ⟨k, n', z, hk, rfl, rfl, rfl, hH⟩ := hrel
        by_cases h1 : k < l.length
        · obtain ⟨b, off, rfl, hbl, hcell⟩ := hc (by omega)
          obtain ⟨x, hx⟩ : ∃ x, x = l[k]'h1 := ⟨_, rfl⟩
          have cc : ∀ j u, (opCells x)[j]? = some u → w5.cell? ⟨b, off + k * 4 + j, none⟩ = some u := fun j u hu => (b7.cell hbl).trans (hcell k h1 j u (by rw [← hx]; exact hu))
          have c1 := cc 1 _ rfl
          have c2 := cc 2 _ rfl
          have e1 : Hid ((l.take (k + 1)).flatMap encOp = (l.take k).flatMap encOp ++ encOp x) := by
            show _ = _
            rw [flat_take_succ encOp l k h1, ← hx]
          have hxo : Hid (l.all opOk = true → opOk x = true) := fun h => by rw [hx]; exact List.all_eq_true.mp h _ (List.getElem_mem h1)
          have hlen : Hid (l.all opOk = true → ((l.take k).flatMap encOp).length ≤ l.length * 40) := fun h => Nat.le_trans (flat_take_len encOp l k) (putOps_len h)
          clear cc hx hcell hc
          have i1 : (k : Int) < (l.length : Int) := by omega
          go_wp2
          go_quiet (fail)
          go_wp2
          go_roundw
          case rel => exact ⟨k + 1, _, _, by omega, by go_num, rfl, rfl, fun h1 h2 => by rw [e1.out]; exact long_op (hH.out h1 h2) (hxo.out h1) (by have := hlen.out h1; omega)⟩
          case measure => simp [intOf]; omega
        · have e1 : l.take k = l := List.take_of_length_le (by omega)
          rw [e1] at hH
          have b8 := b7.trans ((below_drewN w5 n').mono b7.size)
          generalize w5.drewN n' = w6 at *
          clear hc e1
          go_wp2
          go_loopw [11, 12] (fun s i wr => ∃ (k : Nat) (z : Int), k ≤ m.length ∧ i = .int .i64 k ∧ s = .int .i64 z ∧ wr = w6 ∧ Hid (m.all chOk = true → m.length ≤ 100 → z = 2 + (((m.take k).flatMap encCh).length : Int))) (fun _ i _ => m.length - (intOf i).toNat)
          case atStart => exact ⟨0, 2, by omega, rfl, rfl, rfl, fun _ _ => by simp⟩
          case round =>
            obtain ⟨k2, z2, hk2, rfl, rfl, rfl, hH2⟩ := hrel
            by_cases h2 : k2 < m.length
            · obtain ⟨b, off, rfl, hbl, hcell⟩ := hd (by omega)
              obtain ⟨x, hx⟩ : ∃ x, x = m[k2]'h2 := ⟨_, rfl⟩
              have cc : ∀ j u, (chCells x)[j]? = some u → wr.cell? ⟨b, off + k2 * 3 + j, none⟩ = some u := fun j u hu => (b8.cell hbl).trans (hcell k2 h2 j u (by rw [← hx]; exact hu))
              have c0 := cc 0 _ rfl
              simp only [Nat.add_zero] at c0
              have e1 : Hid ((m.take (k2 + 1)).flatMap encCh = (m.take k2).flatMap encCh ++ encCh x) := by
                show _ = _
                rw [flat_take_succ encCh m k2 h2, ← hx]
              have hxo : Hid (m.all chOk = true → chOk x = true) := fun h => by rw [hx]; exact List.all_eq_true.mp h _ (List.getElem_mem h2)
              have hlen : Hid (m.all chOk = true → ((m.take k2).flatMap encCh).length ≤ m.length * 40) := fun h => Nat.le_trans (flat_take_len encCh m k2) (putChs_len h)
              clear cc hx hcell hd hH
              have i1 : (k2 : Int) < (m.length : Int) := by omega
              go_wp2
              go_roundw
              case rel => exact ⟨k2 + 1, _, by omega, by go_num, rfl, by first | rfl | trivial, fun h1 h2 => by rw [e1.out]; exact long_ch (hH2.out h1 h2) (hxo.out h1) (by have := hlen.out h1; omega)⟩
              case measure => simp [intOf]; omega
            · have e2 : m.take k2 = m := List.take_of_length_le (by omega)
              rw [e2] at hH2
              clear hd e2
              have q3 := hH2.out hok2 (by omega)
              have q4 : ((encList encCh m).length : Int) = z2 := by rw [q3]; simp only [encList, List.length_append, be2_len]; omega
              clear q3
              clear hH hH2
              generalize (encList encCh m).length = N2 at *
              subst q4
              go_wp2
              go_ret
              exact ⟨rfl, b8⟩


set_option maxHeartbeats 8000000 in
set_option maxRecDepth 1000000 in
theorem long_limit_arg (w : World) (vl vm : Value) (l : List OpD) (m : List ChD) (hl : SlAt 4 opCells w w.heap.size vl l) (hsm : ∀ x ∈ l, opSm x) (hm : SlAt 3 chCells w w.heap.size vm m) (hsm2 : ∀ x ∈ m, chSm x) (hok : l.all opOk = true) (hn : ¬ l.length ≤ 16) (hok2 : m.all chOk = false) (hmany : ¬ 100 < m.length) :
    Calls Try.prog 6 #[vl, vm] w fun e w' => e = .returned (.bool true) ∧ Below w.heap.size w w' := by
  have kA := alive_any w
  have kS := fun W (hW : Below w.heap.size w W) => opsSize_any W w.heap.size vl l (hl.below hW (Nat.le_refl _)) hsm
  have kS2 := fun W (hW : Below w.heap.size w W) => chsSize_any W w.heap.size vm m (hm.below hW (Nat.le_refl _)) hsm2
  have kP := fun W (hW : Below w.heap.size w W) => PutOps_limit ((hl.below hW (Nat.le_refl _)).mono hW.size) hsm hok hn
  have kQ := fun W (hW : Below w.heap.size w W) => PutChanges_arg ((hm.below hW (Nat.le_refl _)).mono hW.size) hsm2 hok2
  obtain ⟨ao0, ca0, rfl, hlc, hlm, hc⟩ := hl
  obtain ⟨ab0, cb0, rfl, hbc, hbm, hd⟩ := hm
  unfold maxLen at hlm hbm
  go_enter Try.func6, Try.ntmps6
  go_wp2_with fail
  refine kA.mono ?_
  rintro e w1 ⟨rfl, b1⟩
  go_wp2_with fail
  refine (kS w1 b1).mono ?_
  rintro e w2 ⟨⟨z, rfl⟩, n, rfl⟩
  have b2 := b1.trans ((below_drewN w1 n).mono b1.size)
  generalize w1.drewN n = w3 at *
  clear kA kS b1
  by_cases hz : 3000 < z
  · clear hc hd kP kQ kS2
    go_wp2_with fail
    refine (alive_any _).mono ?_
    rintro e w4 ⟨rfl, b4⟩
    have b5 := b2.trans (b4.mono b2.size)
    go_wp2
    go_ret
    exact ⟨rfl, b5⟩

  · go_wp2_with fail
    refine (kS2 w3 b2).mono ?_
    rintro e w4 ⟨⟨z2, rfl⟩, n2, rfl⟩
    replace b2 := b2.trans ((below_drewN w3 n2).mono b2.size)
    generalize w3.drewN n2 = w3 at *
    clear kS2
    by_cases hz2 : 5000 < z2
    · clear hc hd kP kQ
      go_wp2_with fail
      refine (alive_any _).mono ?_
      rintro e w4 ⟨rfl, b4⟩
      have b5 := b2.trans (b4.mono b2.size)
      go_wp2
      go_ret
      exact ⟨rfl, b5⟩

    · go_wp2_with fail
      refine (kP w3 b2).mono ?_
      rintro e w4 ⟨ao, c, rfl, b4⟩
      have b5 := b2.trans (b4.mono b2.size)
      clear b4 kP
      go_wp2_with fail
      refine (kQ w4 b5).mono ?_
      rintro e w5 ⟨ao5, c5, rfl, b6⟩
      have b7 := b5.trans (b6.mono b5.size)
      clear b6 kQ
      go_wp2
      go_loopw [9, 10] (fun s i wr => ∃ (k n' : Nat) (z : Int), k ≤ l.length ∧ i = .int .i64 k ∧ s = .int .i64 z ∧ wr = w5.drewN n' ∧ Hid (l.all opOk = true → l.length ≤ 16 → z = 2 + (((l.take k).flatMap encOp).length : Int))) (fun _ i _ => l.length - (intOf i).toNat)
      case atStart => exact ⟨0, 0, 2, by omega, rfl, rfl, rfl, fun _ _ => by simp⟩
      case round =>
        obtain ⟨k, n', z, hk, rfl, rfl, rfl, hH⟩ := hrel
        by_cases h1 : k < l.length
        · obtain ⟨b, off, rfl, hbl, hcell⟩ := hc (by omega)
          obtain ⟨x, hx⟩ : ∃ x, x = l[k]'h1 := ⟨_, rfl⟩
          have cc : ∀ j u, (opCells x)[j]? = some u → w5.cell? ⟨b, off + k * 4 + j, none⟩ = some u := fun j u hu => (b7.cell hbl).trans (hcell k h1 j u (by rw [← hx]; exact hu))
          have c1 := cc 1 _ rfl
          have c2 := cc 2 _ rfl
          have e1 : Hid ((l.take (k + 1)).flatMap encOp = (l.take k).flatMap encOp ++ encOp x) := by
            show _ = _
            rw [flat_take_succ encOp l k h1, ← hx]
          have hxo : Hid (l.all opOk = true → opOk x = true) := fun h => by rw [hx]; exact List.all_eq_true.mp h _ (List.getElem_mem h1)
          have hlen : Hid (l.all opOk = true → ((l.take k).flatMap encOp).length ≤ l.length * 40) := fun h => Nat.le_trans (flat_take_len encOp l k) (putOps_len h)
          clear cc hx hcell hc
          have i1 : (k : Int) < (l.length : Int) := by omega
          go_wp2
          go_quiet (fail)
          go_wp2
          go_roundw
          case rel => exact ⟨k + 1, _, _, by omega, by go_num, rfl, rfl, fun h1 h2 => by rw [e1.out]; exact long_op (hH.out h1 h2) (hxo.out h1) (by have := hlen.out h1; omega)⟩
          case measure => simp [intOf]; omega
        · have e1 : l.take k = l := List.take_of_length_le (by omega)
          rw [e1] at hH
          have b8 := b7.trans ((below_drewN w5 n').mono b7.size)
          generalize w5.drewN n' = w6 at *
          clear hc e1
          go_wp2
          go_loopw [11, 12] (fun s i wr => ∃ (k : Nat) (z : Int), k ≤ m.length ∧ i = .int .i64 k ∧ s = .int .i64 z ∧ wr = w6 ∧ Hid (m.all chOk = true → m.length ≤ 100 → z = 2 + (((m.take k).flatMap encCh).length : Int))) (fun _ i _ => m.length - (intOf i).toNat)
          case atStart => exact ⟨0, 2, by omega, rfl, rfl, rfl, fun _ _ => by simp⟩
          case round =>
            obtain ⟨k2, z2, hk2, rfl, rfl, rfl, hH2⟩ := hrel
            by_cases h2 : k2 < m.length
            · obtain ⟨b, off, rfl, hbl, hcell⟩ := hd (by omega)
              obtain ⟨x, hx⟩ : ∃ x, x = m[k2]'h2 := ⟨_, rfl⟩
              have cc : ∀ j u, (chCells x)[j]? = some u → wr.cell? ⟨b, off + k2 * 3 + j, none⟩ = some u := fun j u hu => (b8.cell hbl).trans (hcell k2 h2 j u (by rw [← hx]; exact hu))
              have c0 := cc 0 _ rfl
              simp only [Nat.add_zero] at c0
              have e1 : Hid ((m.take (k2 + 1)).flatMap encCh = (m.take k2).flatMap encCh ++ encCh x) := by
                show _ = _
                rw [flat_take_succ encCh m k2 h2, ← hx]
              have hxo : Hid (m.all chOk = true → chOk x = true) := fun h => by rw [hx]; exact List.all_eq_true.mp h _ (List.getElem_mem h2)
              have hlen : Hid (m.all chOk = true → ((m.take k2).flatMap encCh).length ≤ m.length * 40) := fun h => Nat.le_trans (flat_take_len encCh m k2) (putChs_len h)
              clear cc hx hcell hd hH
              have i1 : (k2 : Int) < (m.length : Int) := by omega
              go_wp2
              go_roundw
              case rel => exact ⟨k2 + 1, _, by omega, by go_num, rfl, by first | rfl | trivial, fun h1 h2 => by rw [e1.out]; exact long_ch (hH2.out h1 h2) (hxo.out h1) (by have := hlen.out h1; omega)⟩
              case measure => simp [intOf]; omega
            · have e2 : m.take k2 = m := List.take_of_length_le (by omega)
              rw [e2] at hH2
              clear hd e2
              clear hH hH2
              go_wp2
              go_ret
              exact ⟨rfl, b8⟩


set_option maxHeartbeats 8000000 in
set_option maxRecDepth 1000000 in
theorem long_limit_fits (w : World) (vl vm : Value) (l : List OpD) (m : List ChD) (hl : SlAt 4 opCells w w.heap.size vl l) (hsm : ∀ x ∈ l, opSm x) (hm : SlAt 3 chCells w w.heap.size vm m) (hsm2 : ∀ x ∈ m, chSm x) (hok : l.all opOk = true) (hn : ¬ l.length ≤ 16) (hok2 : m.all chOk = true) (hmany : ¬ 100 < m.length) :
    Calls Try.prog 6 #[vl, vm] w fun e w' => e = .returned (.bool true) ∧ Below w.heap.size w w' := by
  have kA := alive_any w
  have kS := fun W (hW : Below w.heap.size w W) => opsSize_any W w.heap.size vl l (hl.below hW (Nat.le_refl _)) hsm
  have kS2 := fun W (hW : Below w.heap.size w W) => chsSize_any W w.heap.size vm m (hm.below hW (Nat.le_refl _)) hsm2
  have hn2 : m.length ≤ 4096 := by omega
  have kP := fun W (hW : Below w.heap.size w W) => PutOps_limit ((hl.below hW (Nat.le_refl _)).mono hW.size) hsm hok hn
  have kQ := fun W (hW : Below w.heap.size w W) => PutChanges_fits ((hm.below hW (Nat.le_refl _)).mono hW.size) hsm2 hok2 hn2
  obtain ⟨ao0, ca0, rfl, hlc, hlm, hc⟩ := hl
  obtain ⟨ab0, cb0, rfl, hbc, hbm, hd⟩ := hm
  unfold maxLen at hlm hbm
  go_enter Try.func6, Try.ntmps6
  go_wp2_with fail
  refine kA.mono ?_
  rintro e w1 ⟨rfl, b1⟩
  go_wp2_with fail
  refine (kS w1 b1).mono ?_
  rintro e w2 ⟨⟨z, rfl⟩, n, rfl⟩
  have b2 := b1.trans ((below_drewN w1 n).mono b1.size)
  generalize w1.drewN n = w3 at *
  clear kA kS b1
  by_cases hz : 3000 < z
  · clear hc hd kP kQ kS2
    go_wp2_with fail
    refine (alive_any _).mono ?_
    rintro e w4 ⟨rfl, b4⟩
    have b5 := b2.trans (b4.mono b2.size)
    go_wp2
    go_ret
    exact ⟨rfl, b5⟩

  · go_wp2_with fail
    refine (kS2 w3 b2).mono ?_
    rintro e w4 ⟨⟨z2, rfl⟩, n2, rfl⟩
    replace b2 := b2.trans ((below_drewN w3 n2).mono b2.size)
    generalize w3.drewN n2 = w3 at *
    clear kS2
    by_cases hz2 : 5000 < z2
    · clear hc hd kP kQ
      go_wp2_with fail
      refine (alive_any _).mono ?_
      rintro e w4 ⟨rfl, b4⟩
      have b5 := b2.trans (b4.mono b2.size)
      go_wp2
      go_ret
      exact ⟨rfl, b5⟩

    · go_wp2_with fail
      refine (kP w3 b2).mono ?_
      rintro e w4 ⟨ao, c, rfl, b4⟩
      have b5 := b2.trans (b4.mono b2.size)
      clear b4 kP
      go_wp2_with fail
      refine (kQ w4 b5).mono ?_
      rintro e w5 ⟨ao5, c5, rfl, o5, b6⟩
      clear o5
      have b7 := b5.trans (b6.mono b5.size)
      clear b6 kQ
      go_wp2
      go_loopw [9, 10] (fun s i wr => ∃ (k n' : Nat) (z : Int), k ≤ l.length ∧ i = .int .i64 k ∧ s = .int .i64 z ∧ wr = w5.drewN n' ∧ Hid (l.all opOk = true → l.length ≤ 16 → z = 2 + (((l.take k).flatMap encOp).length : Int))) (fun _ i _ => l.length - (intOf i).toNat)
      case atStart => exact ⟨0, 0, 2, by omega, rfl, rfl, rfl, fun _ _ => by simp⟩
      case round =>
        obtain ⟨k, n', z, hk, rfl, rfl, rfl, hH⟩ := hrel
        by_cases h1 : k < l.length
        · obtain ⟨b, off, rfl, hbl, hcell⟩ := hc (by omega)
          obtain ⟨x, hx⟩ : ∃ x, x = l[k]'h1 := ⟨_, rfl⟩
          have cc : ∀ j u, (opCells x)[j]? = some u → w5.cell? ⟨b, off + k * 4 + j, none⟩ = some u := fun j u hu => (b7.cell hbl).trans (hcell k h1 j u (by rw [← hx]; exact hu))
          have c1 := cc 1 _ rfl
          have c2 := cc 2 _ rfl
          have e1 : Hid ((l.take (k + 1)).flatMap encOp = (l.take k).flatMap encOp ++ encOp x) := by
            show _ = _
            rw [flat_take_succ encOp l k h1, ← hx]
          have hxo : Hid (l.all opOk = true → opOk x = true) := fun h => by rw [hx]; exact List.all_eq_true.mp h _ (List.getElem_mem h1)
          have hlen : Hid (l.all opOk = true → ((l.take k).flatMap encOp).length ≤ l.length * 40) := fun h => Nat.le_trans (flat_take_len encOp l k) (putOps_len h)
          clear cc hx hcell hc
          have i1 : (k : Int) < (l.length : Int) := by omega
          go_wp2
          go_quiet (fail)
          go_wp2
          go_roundw
          case rel => exact ⟨k + 1, _, _, by omega, by go_num, rfl, rfl, fun h1 h2 => by rw [e1.out]; exact long_op (hH.out h1 h2) (hxo.out h1) (by have := hlen.out h1; omega)⟩
          case measure => simp [intOf]; omega
        · have e1 : l.take k = l := List.take_of_length_le (by omega)
          rw [e1] at hH
          have b8 := b7.trans ((below_drewN w5 n').mono b7.size)
          generalize w5.drewN n' = w6 at *
          clear hc e1
          go_wp2
          go_loopw [11, 12] (fun s i wr => ∃ (k : Nat) (z : Int), k ≤ m.length ∧ i = .int .i64 k ∧ s = .int .i64 z ∧ wr = w6 ∧ Hid (m.all chOk = true → m.length ≤ 100 → z = 2 + (((m.take k).flatMap encCh).length : Int))) (fun _ i _ => m.length - (intOf i).toNat)
          case atStart => exact ⟨0, 2, by omega, rfl, rfl, rfl, fun _ _ => by simp⟩
          case round =>
            obtain ⟨k2, z2, hk2, rfl, rfl, rfl, hH2⟩ := hrel
            by_cases h2 : k2 < m.length
            · obtain ⟨b, off, rfl, hbl, hcell⟩ := hd (by omega)
              obtain ⟨x, hx⟩ : ∃ x, x = m[k2]'h2 := ⟨_, rfl⟩
              have cc : ∀ j u, (chCells x)[j]? = some u → wr.cell? ⟨b, off + k2 * 3 + j, none⟩ = some u := fun j u hu => (b8.cell hbl).trans (hcell k2 h2 j u (by rw [← hx]; exact hu))
              have c0 := cc 0 _ rfl
              simp only [Nat.add_zero] at c0
              have e1 : Hid ((m.take (k2 + 1)).flatMap encCh = (m.take k2).flatMap encCh ++ encCh x) := by
                show _ = _
                rw [flat_take_succ encCh m k2 h2, ← hx]
              have hxo : Hid (m.all chOk = true → chOk x = true) := fun h => by rw [hx]; exact List.all_eq_true.mp h _ (List.getElem_mem h2)
              have hlen : Hid (m.all chOk = true → ((m.take k2).flatMap encCh).length ≤ m.length * 40) := fun h => Nat.le_trans (flat_take_len encCh m k2) (putChs_len h)
              clear cc hx hcell hd hH
              have i1 : (k2 : Int) < (m.length : Int) := by omega
              go_wp2
              go_roundw
              case rel => exact ⟨k2 + 1, _, by omega, by go_num, rfl, by first | rfl | trivial, fun h1 h2 => by rw [e1.out]; exact long_ch (hH2.out h1 h2) (hxo.out h1) (by have := hlen.out h1; omega)⟩
              case measure => simp [intOf]; omega
            · have e2 : m.take k2 = m := List.take_of_length_le (by omega)
              rw [e2] at hH2
              clear hd e2
              have q3 := hH2.out hok2 (by omega)
              have q4 : ((encList encCh m).length : Int) = z2 := by rw [q3]; simp only [encList, List.length_append, be2_len]; omega
              clear q3
              clear hH hH2
              generalize (encList encCh m).length = N2 at *
              subst q4
              go_wp2
              go_ret
              exact ⟨rfl, b8⟩


set_option maxHeartbeats 8000000 in
set_option maxRecDepth 1000000 in
theorem long_fits_arg (w : World) (vl vm : Value) (l : List OpD) (m : List ChD) (hl : SlAt 4 opCells w w.heap.size vl l) (hsm : ∀ x ∈ l, opSm x) (hm : SlAt 3 chCells w w.heap.size vm m) (hsm2 : ∀ x ∈ m, chSm x) (hok : l.all opOk = true) (hn : l.length ≤ 16) (hok2 : m.all chOk = false) (hmany : ¬ 100 < m.length) :
    Calls Try.prog 6 #[vl, vm] w fun e w' => e = .returned (.bool true) ∧ Below w.heap.size w w' := by
  have kA := alive_any w
  have kS := fun W (hW : Below w.heap.size w W) => opsSize_any W w.heap.size vl l (hl.below hW (Nat.le_refl _)) hsm
  have kS2 := fun W (hW : Below w.heap.size w W) => chsSize_any W w.heap.size vm m (hm.below hW (Nat.le_refl _)) hsm2
  have kP := fun W (hW : Below w.heap.size w W) => PutOps_fits ((hl.below hW (Nat.le_refl _)).mono hW.size) hsm hok hn
  have kQ := fun W (hW : Below w.heap.size w W) => PutChanges_arg ((hm.below hW (Nat.le_refl _)).mono hW.size) hsm2 hok2
  obtain ⟨ao0, ca0, rfl, hlc, hlm, hc⟩ := hl
  obtain ⟨ab0, cb0, rfl, hbc, hbm, hd⟩ := hm
  unfold maxLen at hlm hbm
  go_enter Try.func6, Try.ntmps6
  go_wp2_with fail
  refine kA.mono ?_
  rintro e w1 ⟨rfl, b1⟩
  go_wp2_with fail
  refine (kS w1 b1).mono ?_
  rintro e w2 ⟨⟨z, rfl⟩, n, rfl⟩
  have b2 := b1.trans ((below_drewN w1 n).mono b1.size)
  generalize w1.drewN n = w3 at *
  clear kA kS b1
  by_cases hz : 3000 < z
  · clear hc hd kP kQ kS2
    go_wp2_with fail
    refine (alive_any _).mono ?_
    rintro e w4 ⟨rfl, b4⟩
    have b5 := b2.trans (b4.mono b2.size)
    go_wp2
    go_ret
    exact ⟨rfl, b5⟩

  · go_wp2_with fail
    refine (kS2 w3 b2).mono ?_
    rintro e w4 ⟨⟨z2, rfl⟩, n2, rfl⟩
    replace b2 := b2.trans ((below_drewN w3 n2).mono b2.size)
    generalize w3.drewN n2 = w3 at *
    clear kS2
    by_cases hz2 : 5000 < z2
    · clear hc hd kP kQ
      go_wp2_with fail
      refine (alive_any _).mono ?_
      rintro e w4 ⟨rfl, b4⟩
      have b5 := b2.trans (b4.mono b2.size)
      go_wp2
      go_ret
      exact ⟨rfl, b5⟩

    · go_wp2_with fail
      refine (kP w3 b2).mono ?_
      rintro e w4 ⟨ao, c, rfl, o4, b4⟩
      clear o4
      have b5 := b2.trans (b4.mono b2.size)
      clear b4 kP
      go_wp2_with fail
      refine (kQ w4 b5).mono ?_
      rintro e w5 ⟨ao5, c5, rfl, b6⟩
      have b7 := b5.trans (b6.mono b5.size)
      clear b6 kQ
      go_wp2
      go_loopw [9, 10] (fun s i wr => ∃ (k n' : Nat) (z : Int), k ≤ l.length ∧ i = .int .i64 k ∧ s = .int .i64 z ∧ wr = w5.drewN n' ∧ Hid (l.all opOk = true → l.length ≤ 16 → z = 2 + (((l.take k).flatMap encOp).length : Int))) (fun _ i _ => l.length - (intOf i).toNat)
      case atStart => exact ⟨0, 0, 2, by omega, rfl, rfl, rfl, fun _ _ => by simp⟩
      case round =>
        obtain ⟨k, n', z, hk, rfl, rfl, rfl, hH⟩ := hrel
        by_cases h1 : k < l.length
        · obtain ⟨b, off, rfl, hbl, hcell⟩ := hc (by omega)
          obtain ⟨x, hx⟩ : ∃ x, x = l[k]'h1 := ⟨_, rfl⟩
          have cc : ∀ j u, (opCells x)[j]? = some u → w5.cell? ⟨b, off + k * 4 + j, none⟩ = some u := fun j u hu => (b7.cell hbl).trans (hcell k h1 j u (by rw [← hx]; exact hu))
          have c1 := cc 1 _ rfl
          have c2 := cc 2 _ rfl
          have e1 : Hid ((l.take (k + 1)).flatMap encOp = (l.take k).flatMap encOp ++ encOp x) := by
            show _ = _
            rw [flat_take_succ encOp l k h1, ← hx]
          have hxo : Hid (l.all opOk = true → opOk x = true) := fun h => by rw [hx]; exact List.all_eq_true.mp h _ (List.getElem_mem h1)
          have hlen : Hid (l.all opOk = true → ((l.take k).flatMap encOp).length ≤ l.length * 40) := fun h => Nat.le_trans (flat_take_len encOp l k) (putOps_len h)
          clear cc hx hcell hc
          have i1 : (k : Int) < (l.length : Int) := by omega
          go_wp2
          go_quiet (fail)
          go_wp2
          go_roundw
          case rel => exact ⟨k + 1, _, _, by omega, by go_num, rfl, rfl, fun h1 h2 => by rw [e1.out]; exact long_op (hH.out h1 h2) (hxo.out h1) (by have := hlen.out h1; omega)⟩
          case measure => simp [intOf]; omega
        · have e1 : l.take k = l := List.take_of_length_le (by omega)
          rw [e1] at hH
          have b8 := b7.trans ((below_drewN w5 n').mono b7.size)
          generalize w5.drewN n' = w6 at *
          clear hc e1
          go_wp2
          go_loopw [11, 12] (fun s i wr => ∃ (k : Nat) (z : Int), k ≤ m.length ∧ i = .int .i64 k ∧ s = .int .i64 z ∧ wr = w6 ∧ Hid (m.all chOk = true → m.length ≤ 100 → z = 2 + (((m.take k).flatMap encCh).length : Int))) (fun _ i _ => m.length - (intOf i).toNat)
          case atStart => exact ⟨0, 2, by omega, rfl, rfl, rfl, fun _ _ => by simp⟩
          case round =>
            obtain ⟨k2, z2, hk2, rfl, rfl, rfl, hH2⟩ := hrel
            by_cases h2 : k2 < m.length
            · obtain ⟨b, off, rfl, hbl, hcell⟩ := hd (by omega)
              obtain ⟨x, hx⟩ : ∃ x, x = m[k2]'h2 := ⟨_, rfl⟩
              have cc : ∀ j u, (chCells x)[j]? = some u → wr.cell? ⟨b, off + k2 * 3 + j, none⟩ = some u := fun j u hu => (b8.cell hbl).trans (hcell k2 h2 j u (by rw [← hx]; exact hu))
              have c0 := cc 0 _ rfl
              simp only [Nat.add_zero] at c0
              have e1 : Hid ((m.take (k2 + 1)).flatMap encCh = (m.take k2).flatMap encCh ++ encCh x) := by
                show _ = _
                rw [flat_take_succ encCh m k2 h2, ← hx]
              have hxo : Hid (m.all chOk = true → chOk x = true) := fun h => by rw [hx]; exact List.all_eq_true.mp h _ (List.getElem_mem h2)
              have hlen : Hid (m.all chOk = true → ((m.take k2).flatMap encCh).length ≤ m.length * 40) := fun h => Nat.le_trans (flat_take_len encCh m k2) (putChs_len h)
              clear cc hx hcell hd hH
              have i1 : (k2 : Int) < (m.length : Int) := by omega
              go_wp2
              go_roundw
              case rel => exact ⟨k2 + 1, _, by omega, by go_num, rfl, by first | rfl | trivial, fun h1 h2 => by rw [e1.out]; exact long_ch (hH2.out h1 h2) (hxo.out h1) (by have := hlen.out h1; omega)⟩
              case measure => simp [intOf]; omega
            · have e2 : m.take k2 = m := List.take_of_length_le (by omega)
              rw [e2] at hH2
              clear hd e2
              have q1 := hH.out hok hn
              have q2 : ((encList encOp l).length : Int) = z := by rw [q1]; simp only [encList, List.length_append, be2_len]; omega
              clear q1
              clear hH hH2
              generalize (encList encOp l).length = N1 at *
              subst q2
              go_wp2
              go_ret
              exact ⟨rfl, b8⟩


set_option maxHeartbeats 8000000 in
set_option maxRecDepth 1000000 in
theorem long_fits_fits (w : World) (vl vm : Value) (l : List OpD) (m : List ChD) (hl : SlAt 4 opCells w w.heap.size vl l) (hsm : ∀ x ∈ l, opSm x) (hm : SlAt 3 chCells w w.heap.size vm m) (hsm2 : ∀ x ∈ m, chSm x) (hok : l.all opOk = true) (hn : l.length ≤ 16) (hok2 : m.all chOk = true) (hmany : ¬ 100 < m.length) :
    Calls Try.prog 6 #[vl, vm] w fun e w' => e = .returned (.bool true) ∧ Below w.heap.size w w' := by
  have kA := alive_any w
  have kS := fun W (hW : Below w.heap.size w W) => opsSize_any W w.heap.size vl l (hl.below hW (Nat.le_refl _)) hsm
  have kS2 := fun W (hW : Below w.heap.size w W) => chsSize_any W w.heap.size vm m (hm.below hW (Nat.le_refl _)) hsm2
  have hn2 : m.length ≤ 4096 := by omega
  have kP := fun W (hW : Below w.heap.size w W) => PutOps_fits ((hl.below hW (Nat.le_refl _)).mono hW.size) hsm hok hn
  have kQ := fun W (hW : Below w.heap.size w W) => PutChanges_fits ((hm.below hW (Nat.le_refl _)).mono hW.size) hsm2 hok2 hn2
  obtain ⟨ao0, ca0, rfl, hlc, hlm, hc⟩ := hl
  obtain ⟨ab0, cb0, rfl, hbc, hbm, hd⟩ := hm
  unfold maxLen at hlm hbm
  go_enter Try.func6, Try.ntmps6
  go_wp2_with fail
  refine kA.mono ?_
  rintro e w1 ⟨rfl, b1⟩
  go_wp2_with fail
  refine (kS w1 b1).mono ?_
  rintro e w2 ⟨⟨z, rfl⟩, n, rfl⟩
  have b2 := b1.trans ((below_drewN w1 n).mono b1.size)
  generalize w1.drewN n = w3 at *
  clear kA kS b1
  by_cases hz : 3000 < z
  · clear hc hd kP kQ kS2
    go_wp2_with fail
    refine (alive_any _).mono ?_
    rintro e w4 ⟨rfl, b4⟩
    have b5 := b2.trans (b4.mono b2.size)
    go_wp2
    go_ret
    exact ⟨rfl, b5⟩

  · go_wp2_with fail
    refine (kS2 w3 b2).mono ?_
    rintro e w4 ⟨⟨z2, rfl⟩, n2, rfl⟩
    replace b2 := b2.trans ((below_drewN w3 n2).mono b2.size)
    generalize w3.drewN n2 = w3 at *
    clear kS2
    by_cases hz2 : 5000 < z2
    · clear hc hd kP kQ
      go_wp2_with fail
      refine (alive_any _).mono ?_
      rintro e w4 ⟨rfl, b4⟩
      have b5 := b2.trans (b4.mono b2.size)
      go_wp2
      go_ret
      exact ⟨rfl, b5⟩

    · go_wp2_with fail
      refine (kP w3 b2).mono ?_
      rintro e w4 ⟨ao, c, rfl, o4, b4⟩
      clear o4
      have b5 := b2.trans (b4.mono b2.size)
      clear b4 kP
      go_wp2_with fail
      refine (kQ w4 b5).mono ?_
      rintro e w5 ⟨ao5, c5, rfl, o5, b6⟩
      clear o5
      have b7 := b5.trans (b6.mono b5.size)
      clear b6 kQ
      go_wp2
      go_loopw [9, 10] (fun s i wr => ∃ (k n' : Nat) (z : Int), k ≤ l.length ∧ i = .int .i64 k ∧ s = .int .i64 z ∧ wr = w5.drewN n' ∧ Hid (l.all opOk = true → l.length ≤ 16 → z = 2 + (((l.take k).flatMap encOp).length : Int))) (fun _ i _ => l.length - (intOf i).toNat)
      case atStart => exact ⟨0, 0, 2, by omega, rfl, rfl, rfl, fun _ _ => by simp⟩
      case round =>
        obtain ⟨k, n', z, hk, rfl, rfl, rfl, hH⟩ := hrel
        by_cases h1 : k < l.length
        · obtain ⟨b, off, rfl, hbl, hcell⟩ := hc (by omega)
          obtain ⟨x, hx⟩ : ∃ x, x = l[k]'h1 := ⟨_, rfl⟩
          have cc : ∀ j u, (opCells x)[j]? = some u → w5.cell? ⟨b, off + k * 4 + j, none⟩ = some u := fun j u hu => (b7.cell hbl).trans (hcell k h1 j u (by rw [← hx]; exact hu))
          have c1 := cc 1 _ rfl
          have c2 := cc 2 _ rfl
          have e1 : Hid ((l.take (k + 1)).flatMap encOp = (l.take k).flatMap encOp ++ encOp x) := by
            show _ = _
            rw [flat_take_succ encOp l k h1, ← hx]
          have hxo : Hid (l.all opOk = true → opOk x = true) := fun h => by rw [hx]; exact List.all_eq_true.mp h _ (List.getElem_mem h1)
          have hlen : Hid (l.all opOk = true → ((l.take k).flatMap encOp).length ≤ l.length * 40) := fun h => Nat.le_trans (flat_take_len encOp l k) (putOps_len h)
          clear cc hx hcell hc
          have i1 : (k : Int) < (l.length : Int) := by omega
          go_wp2
          go_quiet (fail)
          go_wp2
          go_roundw
          case rel => exact ⟨k + 1, _, _, by omega, by go_num, rfl, rfl, fun h1 h2 => by rw [e1.out]; exact long_op (hH.out h1 h2) (hxo.out h1) (by have := hlen.out h1; omega)⟩
          case measure => simp [intOf]; omega
        · have e1 : l.take k = l := List.take_of_length_le (by omega)
          rw [e1] at hH
          have b8 := b7.trans ((below_drewN w5 n').mono b7.size)
          generalize w5.drewN n' = w6 at *
          clear hc e1
          go_wp2
          go_loopw [11, 12] (fun s i wr => ∃ (k : Nat) (z : Int), k ≤ m.length ∧ i = .int .i64 k ∧ s = .int .i64 z ∧ wr = w6 ∧ Hid (m.all chOk = true → m.length ≤ 100 → z = 2 + (((m.take k).flatMap encCh).length : Int))) (fun _ i _ => m.length - (intOf i).toNat)
          case atStart => exact ⟨0, 2, by omega, rfl, rfl, rfl, fun _ _ => by simp⟩
          case round =>
            obtain ⟨k2, z2, hk2, rfl, rfl, rfl, hH2⟩ := hrel
            by_cases h2 : k2 < m.length
            · obtain ⟨b, off, rfl, hbl, hcell⟩ := hd (by omega)
              obtain ⟨x, hx⟩ : ∃ x, x = m[k2]'h2 := ⟨_, rfl⟩
              have cc : ∀ j u, (chCells x)[j]? = some u → wr.cell? ⟨b, off + k2 * 3 + j, none⟩ = some u := fun j u hu => (b8.cell hbl).trans (hcell k2 h2 j u (by rw [← hx]; exact hu))
              have c0 := cc 0 _ rfl
              simp only [Nat.add_zero] at c0
              have e1 : Hid ((m.take (k2 + 1)).flatMap encCh = (m.take k2).flatMap encCh ++ encCh x) := by
                show _ = _
                rw [flat_take_succ encCh m k2 h2, ← hx]
              have hxo : Hid (m.all chOk = true → chOk x = true) := fun h => by rw [hx]; exact List.all_eq_true.mp h _ (List.getElem_mem h2)
              have hlen : Hid (m.all chOk = true → ((m.take k2).flatMap encCh).length ≤ m.length * 40) := fun h => Nat.le_trans (flat_take_len encCh m k2) (putChs_len h)
              clear cc hx hcell hd hH
              have i1 : (k2 : Int) < (m.length : Int) := by omega
              go_wp2
              go_roundw
              case rel => exact ⟨k2 + 1, _, by omega, by go_num, rfl, by first | rfl | trivial, fun h1 h2 => by rw [e1.out]; exact long_ch (hH2.out h1 h2) (hxo.out h1) (by have := hlen.out h1; omega)⟩
              case measure => simp [intOf]; omega
            · have e2 : m.take k2 = m := List.take_of_length_le (by omega)
              rw [e2] at hH2
              clear hd e2
              have q1 := hH.out hok hn
              have q2 : ((encList encOp l).length : Int) = z := by rw [q1]; simp only [encList, List.length_append, be2_len]; omega
              clear q1
              have q3 := hH2.out hok2 (by omega)
              have q4 : ((encList encCh m).length : Int) = z2 := by rw [q3]; simp only [encList, List.length_append, be2_len]; omega
              clear q3
              clear hH hH2
              generalize (encList encOp l).length = N1 at *
              subst q2
              generalize (encList encCh m).length = N2 at *
              subst q4
              go_wp2
              go_ret
              exact ⟨rfl, b8⟩


theorem long_walk (w : World) (vl vm : Value) (l : List OpD) (m : List ChD) (hl : SlAt 4 opCells w w.heap.size vl l) (hsm : ∀ x ∈ l, opSm x) (hm : SlAt 3 chCells w w.heap.size vm m) (hsm2 : ∀ x ∈ m, chSm x) :
    Calls Try.prog 6 #[vl, vm] w fun e w' => e = .returned (.bool true) ∧ Below w.heap.size w w' := by
  by_cases hmany : 100 < m.length
  · exact long_many w vl vm l m hl hsm hm hsm2 hmany
  cases hok2 : m.all chOk with
  | false =>
    cases hok : l.all opOk with
    | false => exact long_arg_arg w vl vm l m hl hsm hm hsm2 hok hok2 hmany
    | true =>
      by_cases hn : l.length ≤ 16
      · exact long_fits_arg w vl vm l m hl hsm hm hsm2 hok hn hok2 hmany
      · exact long_limit_arg w vl vm l m hl hsm hm hsm2 hok hn hok2 hmany
  | true =>
    cases hok : l.all opOk with
    | false => exact long_arg_fits w vl vm l m hl hsm hm hsm2 hok hok2 hmany
    | true =>
      by_cases hn : l.length ≤ 16
      · exact long_fits_fits w vl vm l m hl hsm hm hsm2 hok hn hok2 hmany
      · exact long_limit_fits w vl vm l m hl hsm hm hsm2 hok hn hok2 hmany
end Go.Proofs.Ytndjgilheleplab
