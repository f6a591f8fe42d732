/- The walk of RowsTurned: what is put is got, and what is got is put as it was. -/
import Derived.Test.YtndjgilheleplabRAlive
import Derived.Test.YtndjgilheleplabRCases
import Derived.Test.YtndjgilheleplabRSameC
set_option linter.unusedSimpArgs false
set_option linter.unusedVariables false
namespace Go.Proofs.Ytndjgilheleplab
open Go.RowKit

theorem chs_small {l : List ChD} (h : l.all chOk = true) : ∀ x ∈ l, chSm x := fun x hx => by
  have h1 := List.all_eq_true.mp h x hx
  unfold chOk at h1
  rw [Bool.and_eq_true] at h1
  exact small16 h1.1

set_option maxHeartbeats 8000000 in
set_option maxRecDepth 1000000 in
theorem turned_long (w : World) (vl vb : Value) (l : List ChD) (bs : List UInt8) (hl : SlAt 3 chCells w w.heap.size vl l) (hsm : ∀ x ∈ l, chSm x) (hb : InAt w w.heap.size vb bs) (hlong : 200 < l.length) :
    Calls Try.prog 3 #[vl, vb] w fun e w' => e = .returned (.bool true) ∧ Below w.heap.size w w' := by
  have kA := alive_any w
  have kS := fun W (hW : Below w.heap.size w W) => chsSize_any W w.heap.size vl l (hl.below hW (Nat.le_refl _)) hsm
  have hl0 := hl
  obtain ⟨ao0, ca0, rfl, hlc, hlm, hc⟩ := hl0
  have hb0 := hb
  obtain ⟨ab0, cb0, rfl, hbc, hbm, -⟩ := hb0
  unfold maxLen at hlm hbm
  clear hc kS
  go_enter Try.func3, Try.ntmps3
  go_wp2_with fail
  refine kA.mono ?_
  rintro e w1 ⟨rfl, b1⟩
  have b2 := b1
  clear kA b1
  generalize w1 = w3 at *
  go_wp2_with fail
  refine (alive_any _).mono ?_
  rintro e w4 ⟨rfl, b4⟩
  have b5 := b2.trans (b4.mono b2.size)
  go_wp2
  go_ret
  exact ⟨rfl, b5⟩


set_option maxHeartbeats 8000000 in
set_option maxRecDepth 1000000 in
theorem turned_big (w : World) (vl vb : Value) (l : List ChD) (bs : List UInt8) (hl : SlAt 3 chCells w w.heap.size vl l) (hsm : ∀ x ∈ l, chSm x) (hb : InAt w w.heap.size vb bs) (hlong : ¬ 200 < l.length) (hbig : 70000 < bs.length) :
    Calls Try.prog 3 #[vl, vb] w fun e w' => e = .returned (.bool true) ∧ Below w.heap.size w w' := by
  have kA := alive_any w
  have kS := fun W (hW : Below w.heap.size w W) => chsSize_any W w.heap.size vl l (hl.below hW (Nat.le_refl _)) hsm
  have hl0 := hl
  obtain ⟨ao0, ca0, rfl, hlc, hlm, hc⟩ := hl0
  have hb0 := hb
  obtain ⟨ab0, cb0, rfl, hbc, hbm, -⟩ := hb0
  unfold maxLen at hlm hbm
  clear hc
  go_enter Try.func3, Try.ntmps3
  go_wp2_with fail
  refine kA.mono ?_
  rintro e w1 ⟨rfl, b1⟩
  go_wp2_with fail
  refine (kS w1 b1).mono ?_
  rintro e w2 ⟨⟨z, rfl⟩, n, rfl⟩
  have b2 := b1.trans ((below_drewN w1 n).mono b1.size)
  generalize w1.drewN n = w3 at *
  clear kA kS b1
  by_cases hz : 5000 < z
  · go_wp2_with fail
    refine (alive_any _).mono ?_
    rintro e w4 ⟨rfl, b4⟩
    have b5 := b2.trans (b4.mono b2.size)
    go_wp2
    go_ret
    exact ⟨rfl, b5⟩

  · go_wp2_with fail
    refine (alive_any _).mono ?_
    rintro e w4 ⟨rfl, b4⟩
    have b5 := b2.trans (b4.mono b2.size)
    go_wp2
    go_ret
    exact ⟨rfl, b5⟩


set_option maxHeartbeats 8000000 in
set_option maxRecDepth 1000000 in
theorem turned_arg_none (w : World) (vl vb : Value) (l : List ChD) (bs : List UInt8) (hl : SlAt 3 chCells w w.heap.size vl l) (hsm : ∀ x ∈ l, chSm x) (hb : InAt w w.heap.size vb bs) (hok : l.all chOk = false) (hlong : ¬ 200 < l.length) (hbig : ¬ 70000 < bs.length) (hg : getChs bs = ([], 4)) :
    Calls Try.prog 3 #[vl, vb] w fun e w' => e = .returned (.bool true) ∧ Below w.heap.size w w' := by
  have kA := alive_any w
  have kS := fun W (hW : Below w.heap.size w W) => chsSize_any W w.heap.size vl l (hl.below hW (Nat.le_refl _)) hsm
  have kP := fun W (hW : Below w.heap.size w W) => PutChanges_arg ((hl.below hW (Nat.le_refl _)).mono hW.size) hsm hok
  have hl0 := hl
  obtain ⟨ao0, ca0, rfl, hlc, hlm, hc⟩ := hl0
  have hb0 := hb
  obtain ⟨ab0, cb0, rfl, hbc, hbm, -⟩ := hb0
  unfold maxLen at hlm hbm
  go_enter Try.func3, Try.ntmps3
  go_wp2_with fail
  refine kA.mono ?_
  rintro e w1 ⟨rfl, b1⟩
  go_wp2_with fail
  refine (kS w1 b1).mono ?_
  rintro e w2 ⟨⟨z, rfl⟩, n, rfl⟩
  have b2 := b1.trans ((below_drewN w1 n).mono b1.size)
  generalize w1.drewN n = w3 at *
  clear kA kS b1
  by_cases hz : 5000 < z
  · clear hc kP
    go_wp2_with fail
    refine (alive_any _).mono ?_
    rintro e w4 ⟨rfl, b4⟩
    have b5 := b2.trans (b4.mono b2.size)
    go_wp2
    go_ret
    exact ⟨rfl, b5⟩

  · go_wp2_with fail
    refine (kP w3 b2).mono ?_
    rintro e w4 ⟨ao, c, rfl, b4⟩
    have b5 := b2.trans (b4.mono b2.size)
    clear b4 kP
    go_wp2
    go_loopw [7, 8] (fun m i wr => ∃ k : Nat, k ≤ l.length ∧ i = .int .i64 k ∧ m = .bool ((l.take k).all chOk) ∧ Below w4.heap.size w4 wr) (fun _ i _ => l.length - (intOf i).toNat)
    case atStart => exact ⟨0, by omega, rfl, rfl, Below.refl _ _⟩
    case round =>
      obtain ⟨k, hk, rfl, rfl, hB⟩ := hrel
      by_cases h1 : k < l.length
      · obtain ⟨b, off, rfl, hbl, hcell⟩ := hc (by omega)
        have z5 := b5.size
        have zB := hB.size
        obtain ⟨x, hx⟩ : ∃ x, x = l[k]'h1 := ⟨_, rfl⟩
        have cc : ∀ j u, (chCells x)[j]? = some u → wr.cell? ⟨b, off + k * 3 + j, none⟩ = some u := fun j u hu => (hB.cell (by simp; omega)).trans ((b5.cell hbl).trans (hcell k h1 j u (by rw [← hx]; exact hu)))
        have c0 := cc 0 _ rfl
        have c1 := cc 1 _ rfl
        have c2 := cc 2 _ rfl
        simp only [Nat.add_zero] at c0
        have kc := check_any x.key wr (hsm x (by rw [hx]; exact List.getElem_mem _))
        have e1 : Hid ((l.take (k + 1)).all chOk = ((l.take k).all chOk && chOk x)) := by
          show _ = _
          rw [List.take_succ_eq_append_getElem h1, List.all_append, ← hx]; simp
        clear cc hx hcell hc
        have i1 : (k : Int) < (l.length : Int) := by omega
        cases hm : (l.take k).all chOk with
        | false =>
          rw [hm] at e1
          clear kc
          go_wp2
          go_roundw
          case rel => exact ⟨k + 1, by omega, by go_num, by rw [e1.out]; rfl, hB⟩
          case measure => simp [intOf]; omega
        | true =>
        rw [hm] at e1
        obtain ⟨key, value, gone⟩ := x
        rw [chOk_parts] at e1
        simp only at kc c0 c1 c2
        generalize (value.toNat : Int) = vl at *
        generalize chk key = ck at *
        cases ck with
        | false =>
          go_wp2_with fail
          refine kc.mono ?_
          rintro e w5 ⟨rfl, b6⟩
          have d1 := (b6.cell (p := ⟨b, off + k * 3 + 1, none⟩) (by simp; omega)).trans c1
          have d2 := (b6.cell (p := ⟨b, off + k * 3 + 2, none⟩) (by simp; omega)).trans c2
          have b7 := hB.trans (b6.mono zB)
          clear kc b6 c0 c1 c2
          go_wp2
          go_roundw
          case rel => exact ⟨k + 1, by omega, by go_num, by rw [e1.out]; rfl, b7⟩
          case measure => simp [intOf]; omega
        | true =>
        cases gone with
        | false =>
          go_wp2_with fail
          refine kc.mono ?_
          rintro e w5 ⟨rfl, b6⟩
          have d1 := (b6.cell (p := ⟨b, off + k * 3 + 1, none⟩) (by simp; omega)).trans c1
          have d2 := (b6.cell (p := ⟨b, off + k * 3 + 2, none⟩) (by simp; omega)).trans c2
          have b7 := hB.trans (b6.mono zB)
          clear kc b6 c0 c1 c2
          go_wp2
          go_roundw
          case rel => exact ⟨k + 1, by omega, by go_num, by rw [e1.out]; rfl, b7⟩
          case measure => simp [intOf]; omega
        | true =>
          go_wp2_with fail
          refine kc.mono ?_
          rintro e w5 ⟨rfl, b6⟩
          have d1 := (b6.cell (p := ⟨b, off + k * 3 + 1, none⟩) (by simp; omega)).trans c1
          have d2 := (b6.cell (p := ⟨b, off + k * 3 + 2, none⟩) (by simp; omega)).trans c2
          have b7 := hB.trans (b6.mono zB)
          clear kc b6 c0 c1 c2
          go_wp2
          go_roundw
          case rel => exact ⟨k + 1, by omega, by go_num, by rw [e1.out]; simp, b7⟩
          case measure => simp [intOf]; omega
      · have e1 : l.take k = l := List.take_of_length_le (by omega)
        have z5 := b5.size
        have zB := hB.size
        have b6 := b5.trans (hB.mono z5)
        rw [e1, hok]
        clear hc e1 hok
        have b8 := b6
        clear hB
        generalize wr = w7 at *
        have kg2 := GetChanges_none ((hb.below b8 (Nat.le_refl _)).mono b8.size) hg
        go_wp2_with fail
        refine kg2.mono ?_
        rintro e w8 ⟨ao8, c8, rfl, b9⟩
        have b10 := b8.trans (b9.mono b8.size)
        clear kg2 b9
        go_wp2
        go_ret
        exact ⟨rfl, b10⟩


set_option maxHeartbeats 8000000 in
set_option maxRecDepth 1000000 in
theorem turned_arg_some (w : World) (vl vb : Value) (l : List ChD) (bs : List UInt8) (hl : SlAt 3 chCells w w.heap.size vl l) (hsm : ∀ x ∈ l, chSm x) (hb : InAt w w.heap.size vb bs) (hok : l.all chOk = false) (hlong : ¬ 200 < l.length) (hbig : ¬ 70000 < bs.length) (l2 : List ChD) (hg : getChs bs = (l2, 0)) (hg2 : l2.all chOk = true) (hg3 : l2.length ≤ 4096) (hg4 : encList encCh l2 = bs) :
    Calls Try.prog 3 #[vl, vb] w fun e w' => e = .returned (.bool true) ∧ Below w.heap.size w w' := by
  have kA := alive_any w
  have kS := fun W (hW : Below w.heap.size w W) => chsSize_any W w.heap.size vl l (hl.below hW (Nat.le_refl _)) hsm
  have kP := fun W (hW : Below w.heap.size w W) => PutChanges_arg ((hl.below hW (Nat.le_refl _)).mono hW.size) hsm hok
  have hsm2 := chs_small hg2
  have hl0 := hl
  obtain ⟨ao0, ca0, rfl, hlc, hlm, hc⟩ := hl0
  have hb0 := hb
  obtain ⟨ab0, cb0, rfl, hbc, hbm, -⟩ := hb0
  unfold maxLen at hlm hbm
  go_enter Try.func3, Try.ntmps3
  go_wp2_with fail
  refine kA.mono ?_
  rintro e w1 ⟨rfl, b1⟩
  go_wp2_with fail
  refine (kS w1 b1).mono ?_
  rintro e w2 ⟨⟨z, rfl⟩, n, rfl⟩
  have b2 := b1.trans ((below_drewN w1 n).mono b1.size)
  generalize w1.drewN n = w3 at *
  clear kA kS b1
  by_cases hz : 5000 < z
  · clear hc kP
    go_wp2_with fail
    refine (alive_any _).mono ?_
    rintro e w4 ⟨rfl, b4⟩
    have b5 := b2.trans (b4.mono b2.size)
    go_wp2
    go_ret
    exact ⟨rfl, b5⟩

  · go_wp2_with fail
    refine (kP w3 b2).mono ?_
    rintro e w4 ⟨ao, c, rfl, b4⟩
    have b5 := b2.trans (b4.mono b2.size)
    clear b4 kP
    go_wp2
    go_loopw [7, 8] (fun m i wr => ∃ k : Nat, k ≤ l.length ∧ i = .int .i64 k ∧ m = .bool ((l.take k).all chOk) ∧ Below w4.heap.size w4 wr) (fun _ i _ => l.length - (intOf i).toNat)
    case atStart => exact ⟨0, by omega, rfl, rfl, Below.refl _ _⟩
    case round =>
      obtain ⟨k, hk, rfl, rfl, hB⟩ := hrel
      by_cases h1 : k < l.length
      · obtain ⟨b, off, rfl, hbl, hcell⟩ := hc (by omega)
        have z5 := b5.size
        have zB := hB.size
        obtain ⟨x, hx⟩ : ∃ x, x = l[k]'h1 := ⟨_, rfl⟩
        have cc : ∀ j u, (chCells x)[j]? = some u → wr.cell? ⟨b, off + k * 3 + j, none⟩ = some u := fun j u hu => (hB.cell (by simp; omega)).trans ((b5.cell hbl).trans (hcell k h1 j u (by rw [← hx]; exact hu)))
        have c0 := cc 0 _ rfl
        have c1 := cc 1 _ rfl
        have c2 := cc 2 _ rfl
        simp only [Nat.add_zero] at c0
        have kc := check_any x.key wr (hsm x (by rw [hx]; exact List.getElem_mem _))
        have e1 : Hid ((l.take (k + 1)).all chOk = ((l.take k).all chOk && chOk x)) := by
          show _ = _
          rw [List.take_succ_eq_append_getElem h1, List.all_append, ← hx]; simp
        clear cc hx hcell hc
        have i1 : (k : Int) < (l.length : Int) := by omega
        cases hm : (l.take k).all chOk with
        | false =>
          rw [hm] at e1
          clear kc
          go_wp2
          go_roundw
          case rel => exact ⟨k + 1, by omega, by go_num, by rw [e1.out]; rfl, hB⟩
          case measure => simp [intOf]; omega
        | true =>
        rw [hm] at e1
        obtain ⟨key, value, gone⟩ := x
        rw [chOk_parts] at e1
        simp only at kc c0 c1 c2
        generalize (value.toNat : Int) = vl at *
        generalize chk key = ck at *
        cases ck with
        | false =>
          go_wp2_with fail
          refine kc.mono ?_
          rintro e w5 ⟨rfl, b6⟩
          have d1 := (b6.cell (p := ⟨b, off + k * 3 + 1, none⟩) (by simp; omega)).trans c1
          have d2 := (b6.cell (p := ⟨b, off + k * 3 + 2, none⟩) (by simp; omega)).trans c2
          have b7 := hB.trans (b6.mono zB)
          clear kc b6 c0 c1 c2
          go_wp2
          go_roundw
          case rel => exact ⟨k + 1, by omega, by go_num, by rw [e1.out]; rfl, b7⟩
          case measure => simp [intOf]; omega
        | true =>
        cases gone with
        | false =>
          go_wp2_with fail
          refine kc.mono ?_
          rintro e w5 ⟨rfl, b6⟩
          have d1 := (b6.cell (p := ⟨b, off + k * 3 + 1, none⟩) (by simp; omega)).trans c1
          have d2 := (b6.cell (p := ⟨b, off + k * 3 + 2, none⟩) (by simp; omega)).trans c2
          have b7 := hB.trans (b6.mono zB)
          clear kc b6 c0 c1 c2
          go_wp2
          go_roundw
          case rel => exact ⟨k + 1, by omega, by go_num, by rw [e1.out]; rfl, b7⟩
          case measure => simp [intOf]; omega
        | true =>
          go_wp2_with fail
          refine kc.mono ?_
          rintro e w5 ⟨rfl, b6⟩
          have d1 := (b6.cell (p := ⟨b, off + k * 3 + 1, none⟩) (by simp; omega)).trans c1
          have d2 := (b6.cell (p := ⟨b, off + k * 3 + 2, none⟩) (by simp; omega)).trans c2
          have b7 := hB.trans (b6.mono zB)
          clear kc b6 c0 c1 c2
          go_wp2
          go_roundw
          case rel => exact ⟨k + 1, by omega, by go_num, by rw [e1.out]; simp, b7⟩
          case measure => simp [intOf]; omega
      · have e1 : l.take k = l := List.take_of_length_le (by omega)
        have z5 := b5.size
        have zB := hB.size
        have b6 := b5.trans (hB.mono z5)
        rw [e1, hok]
        clear hc e1 hok
        have b8 := b6
        clear hB
        generalize wr = w7 at *
        have kg2 := GetChanges_some ((hb.below b8 (Nat.le_refl _)).mono b8.size) hg
        go_wp2_with fail
        refine kg2.mono ?_
        rintro e w8 ⟨ao8, c8, rfl, o8, b9⟩
        have b10 := b8.trans (b9.mono b8.size)
        clear kg2 b9
        have kp2 := PutChanges_fits (sl_own chCells_len o8) hsm2 hg2 hg3
        rw [hg4] at kp2
        go_wp2_with fail
        refine kp2.mono ?_
        rintro e w9 ⟨ao9, c9, rfl, o9, b11⟩
        have b12 := b10.trans (b11.mono b10.size)
        clear kp2 b11 o8
        have ks2 := sameBytes_any w9 _ _ _ _ bs (in_own o9) (hb.below b12 (Nat.le_refl _))
        go_wp2_with fail
        refine ks2.mono ?_
        rintro e w10 ⟨rfl, n10, rfl⟩
        have b13 := b12.trans ((below_drewN w9 n10).mono b12.size)
        generalize w9.drewN n10 = w10 at *
        clear ks2
        go_wp2
        go_ret
        exact ⟨rfl, b13⟩


set_option maxHeartbeats 8000000 in
set_option maxRecDepth 1000000 in
theorem turned_fits_none (w : World) (vl vb : Value) (l : List ChD) (bs : List UInt8) (hl : SlAt 3 chCells w w.heap.size vl l) (hsm : ∀ x ∈ l, chSm x) (hb : InAt w w.heap.size vb bs) (hok : l.all chOk = true) (hlong : ¬ 200 < l.length) (hbig : ¬ 70000 < bs.length) (hg : getChs bs = ([], 4)) :
    Calls Try.prog 3 #[vl, vb] w fun e w' => e = .returned (.bool true) ∧ Below w.heap.size w w' := by
  have kA := alive_any w
  have kS := fun W (hW : Below w.heap.size w W) => chsSize_any W w.heap.size vl l (hl.below hW (Nat.le_refl _)) hsm
  have hn : l.length ≤ 4096 := by omega
  have kP := fun W (hW : Below w.heap.size w W) => PutChanges_fits ((hl.below hW (Nat.le_refl _)).mono hW.size) hsm hok hn
  have hgp := getChs_put hok hn
  have hl0 := hl
  obtain ⟨ao0, ca0, rfl, hlc, hlm, hc⟩ := hl0
  have hb0 := hb
  obtain ⟨ab0, cb0, rfl, hbc, hbm, -⟩ := hb0
  unfold maxLen at hlm hbm
  go_enter Try.func3, Try.ntmps3
  go_wp2_with fail
  refine kA.mono ?_
  rintro e w1 ⟨rfl, b1⟩
  go_wp2_with fail
  refine (kS w1 b1).mono ?_
  rintro e w2 ⟨⟨z, rfl⟩, n, rfl⟩
  have b2 := b1.trans ((below_drewN w1 n).mono b1.size)
  generalize w1.drewN n = w3 at *
  clear kA kS b1
  by_cases hz : 5000 < z
  · clear hc kP
    go_wp2_with fail
    refine (alive_any _).mono ?_
    rintro e w4 ⟨rfl, b4⟩
    have b5 := b2.trans (b4.mono b2.size)
    go_wp2
    go_ret
    exact ⟨rfl, b5⟩

  · go_wp2_with fail
    refine (kP w3 b2).mono ?_
    rintro e w4 ⟨ao, c, rfl, o4, b4⟩
    have b5 := b2.trans (b4.mono b2.size)
    clear b4 kP
    go_wp2
    go_loopw [7, 8] (fun m i wr => ∃ k : Nat, k ≤ l.length ∧ i = .int .i64 k ∧ m = .bool ((l.take k).all chOk) ∧ Below w4.heap.size w4 wr) (fun _ i _ => l.length - (intOf i).toNat)
    case atStart => exact ⟨0, by omega, rfl, rfl, Below.refl _ _⟩
    case round =>
      obtain ⟨k, hk, rfl, rfl, hB⟩ := hrel
      by_cases h1 : k < l.length
      · obtain ⟨b, off, rfl, hbl, hcell⟩ := hc (by omega)
        have z5 := b5.size
        have zB := hB.size
        obtain ⟨x, hx⟩ : ∃ x, x = l[k]'h1 := ⟨_, rfl⟩
        have cc : ∀ j u, (chCells x)[j]? = some u → wr.cell? ⟨b, off + k * 3 + j, none⟩ = some u := fun j u hu => (hB.cell (by simp; omega)).trans ((b5.cell hbl).trans (hcell k h1 j u (by rw [← hx]; exact hu)))
        have c0 := cc 0 _ rfl
        have c1 := cc 1 _ rfl
        have c2 := cc 2 _ rfl
        simp only [Nat.add_zero] at c0
        have kc := check_any x.key wr (hsm x (by rw [hx]; exact List.getElem_mem _))
        have e1 : Hid ((l.take (k + 1)).all chOk = ((l.take k).all chOk && chOk x)) := by
          show _ = _
          rw [List.take_succ_eq_append_getElem h1, List.all_append, ← hx]; simp
        clear cc hx hcell hc
        have i1 : (k : Int) < (l.length : Int) := by omega
        cases hm : (l.take k).all chOk with
        | false =>
          rw [hm] at e1
          clear kc
          go_wp2
          go_roundw
          case rel => exact ⟨k + 1, by omega, by go_num, by rw [e1.out]; rfl, hB⟩
          case measure => simp [intOf]; omega
        | true =>
        rw [hm] at e1
        obtain ⟨key, value, gone⟩ := x
        rw [chOk_parts] at e1
        simp only at kc c0 c1 c2
        generalize (value.toNat : Int) = vl at *
        generalize chk key = ck at *
        cases ck with
        | false =>
          go_wp2_with fail
          refine kc.mono ?_
          rintro e w5 ⟨rfl, b6⟩
          have d1 := (b6.cell (p := ⟨b, off + k * 3 + 1, none⟩) (by simp; omega)).trans c1
          have d2 := (b6.cell (p := ⟨b, off + k * 3 + 2, none⟩) (by simp; omega)).trans c2
          have b7 := hB.trans (b6.mono zB)
          clear kc b6 c0 c1 c2
          go_wp2
          go_roundw
          case rel => exact ⟨k + 1, by omega, by go_num, by rw [e1.out]; rfl, b7⟩
          case measure => simp [intOf]; omega
        | true =>
        cases gone with
        | false =>
          go_wp2_with fail
          refine kc.mono ?_
          rintro e w5 ⟨rfl, b6⟩
          have d1 := (b6.cell (p := ⟨b, off + k * 3 + 1, none⟩) (by simp; omega)).trans c1
          have d2 := (b6.cell (p := ⟨b, off + k * 3 + 2, none⟩) (by simp; omega)).trans c2
          have b7 := hB.trans (b6.mono zB)
          clear kc b6 c0 c1 c2
          go_wp2
          go_roundw
          case rel => exact ⟨k + 1, by omega, by go_num, by rw [e1.out]; rfl, b7⟩
          case measure => simp [intOf]; omega
        | true =>
          go_wp2_with fail
          refine kc.mono ?_
          rintro e w5 ⟨rfl, b6⟩
          have d1 := (b6.cell (p := ⟨b, off + k * 3 + 1, none⟩) (by simp; omega)).trans c1
          have d2 := (b6.cell (p := ⟨b, off + k * 3 + 2, none⟩) (by simp; omega)).trans c2
          have b7 := hB.trans (b6.mono zB)
          clear kc b6 c0 c1 c2
          go_wp2
          go_roundw
          case rel => exact ⟨k + 1, by omega, by go_num, by rw [e1.out]; simp, b7⟩
          case measure => simp [intOf]; omega
      · have e1 : l.take k = l := List.take_of_length_le (by omega)
        have z5 := b5.size
        have zB := hB.size
        have b6 := b5.trans (hB.mono z5)
        rw [e1, hok]
        clear hc e1 hok
        have hbs := o4.below hB
        clear o4 hB
        have kg := GetChanges_some (in_own hbs) hgp
        go_wp2_with fail
        refine kg.mono ?_
        rintro e w6 ⟨ao6, c6, rfl, o6, b7⟩
        have b8 := b6.trans (b7.mono b6.size)
        clear kg hbs b7
        have ks := sameChs_any w6 _ _ _ _ l (sl_own chCells_len o6) (hl.below b8 (Nat.le_refl _))
        go_wp2_with fail
        refine ks.mono ?_
        rintro e w7 ⟨rfl, n7, rfl⟩
        replace b8 := b8.trans ((below_drewN w6 n7).mono b8.size)
        generalize w6.drewN n7 = w7 at *
        clear ks o6
        have kg2 := GetChanges_none ((hb.below b8 (Nat.le_refl _)).mono b8.size) hg
        go_wp2_with fail
        refine kg2.mono ?_
        rintro e w8 ⟨ao8, c8, rfl, b9⟩
        have b10 := b8.trans (b9.mono b8.size)
        clear kg2 b9
        go_wp2
        go_ret
        exact ⟨rfl, b10⟩


set_option maxHeartbeats 8000000 in
set_option maxRecDepth 1000000 in
theorem turned_fits_some (w : World) (vl vb : Value) (l : List ChD) (bs : List UInt8) (hl : SlAt 3 chCells w w.heap.size vl l) (hsm : ∀ x ∈ l, chSm x) (hb : InAt w w.heap.size vb bs) (hok : l.all chOk = true) (hlong : ¬ 200 < l.length) (hbig : ¬ 70000 < bs.length) (l2 : List ChD) (hg : getChs bs = (l2, 0)) (hg2 : l2.all chOk = true) (hg3 : l2.length ≤ 4096) (hg4 : encList encCh l2 = bs) :
    Calls Try.prog 3 #[vl, vb] w fun e w' => e = .returned (.bool true) ∧ Below w.heap.size w w' := by
  have kA := alive_any w
  have kS := fun W (hW : Below w.heap.size w W) => chsSize_any W w.heap.size vl l (hl.below hW (Nat.le_refl _)) hsm
  have hn : l.length ≤ 4096 := by omega
  have kP := fun W (hW : Below w.heap.size w W) => PutChanges_fits ((hl.below hW (Nat.le_refl _)).mono hW.size) hsm hok hn
  have hgp := getChs_put hok hn
  have hsm2 := chs_small hg2
  have hl0 := hl
  obtain ⟨ao0, ca0, rfl, hlc, hlm, hc⟩ := hl0
  have hb0 := hb
  obtain ⟨ab0, cb0, rfl, hbc, hbm, -⟩ := hb0
  unfold maxLen at hlm hbm
  go_enter Try.func3, Try.ntmps3
  go_wp2_with fail
  refine kA.mono ?_
  rintro e w1 ⟨rfl, b1⟩
  go_wp2_with fail
  refine (kS w1 b1).mono ?_
  rintro e w2 ⟨⟨z, rfl⟩, n, rfl⟩
  have b2 := b1.trans ((below_drewN w1 n).mono b1.size)
  generalize w1.drewN n = w3 at *
  clear kA kS b1
  by_cases hz : 5000 < z
  · clear hc kP
    go_wp2_with fail
    refine (alive_any _).mono ?_
    rintro e w4 ⟨rfl, b4⟩
    have b5 := b2.trans (b4.mono b2.size)
    go_wp2
    go_ret
    exact ⟨rfl, b5⟩

  · go_wp2_with fail
    refine (kP w3 b2).mono ?_
    rintro e w4 ⟨ao, c, rfl, o4, b4⟩
    have b5 := b2.trans (b4.mono b2.size)
    clear b4 kP
    go_wp2
    go_loopw [7, 8] (fun m i wr => ∃ k : Nat, k ≤ l.length ∧ i = .int .i64 k ∧ m = .bool ((l.take k).all chOk) ∧ Below w4.heap.size w4 wr) (fun _ i _ => l.length - (intOf i).toNat)
    case atStart => exact ⟨0, by omega, rfl, rfl, Below.refl _ _⟩
    case round =>
      obtain ⟨k, hk, rfl, rfl, hB⟩ := hrel
      by_cases h1 : k < l.length
      · obtain ⟨b, off, rfl, hbl, hcell⟩ := hc (by omega)
        have z5 := b5.size
        have zB := hB.size
        obtain ⟨x, hx⟩ : ∃ x, x = l[k]'h1 := ⟨_, rfl⟩
        have cc : ∀ j u, (chCells x)[j]? = some u → wr.cell? ⟨b, off + k * 3 + j, none⟩ = some u := fun j u hu => (hB.cell (by simp; omega)).trans ((b5.cell hbl).trans (hcell k h1 j u (by rw [← hx]; exact hu)))
        have c0 := cc 0 _ rfl
        have c1 := cc 1 _ rfl
        have c2 := cc 2 _ rfl
        simp only [Nat.add_zero] at c0
        have kc := check_any x.key wr (hsm x (by rw [hx]; exact List.getElem_mem _))
        have e1 : Hid ((l.take (k + 1)).all chOk = ((l.take k).all chOk && chOk x)) := by
          show _ = _
          rw [List.take_succ_eq_append_getElem h1, List.all_append, ← hx]; simp
        clear cc hx hcell hc
        have i1 : (k : Int) < (l.length : Int) := by omega
        cases hm : (l.take k).all chOk with
        | false =>
          rw [hm] at e1
          clear kc
          go_wp2
          go_roundw
          case rel => exact ⟨k + 1, by omega, by go_num, by rw [e1.out]; rfl, hB⟩
          case measure => simp [intOf]; omega
        | true =>
        rw [hm] at e1
        obtain ⟨key, value, gone⟩ := x
        rw [chOk_parts] at e1
        simp only at kc c0 c1 c2
        generalize (value.toNat : Int) = vl at *
        generalize chk key = ck at *
        cases ck with
        | false =>
          go_wp2_with fail
          refine kc.mono ?_
          rintro e w5 ⟨rfl, b6⟩
          have d1 := (b6.cell (p := ⟨b, off + k * 3 + 1, none⟩) (by simp; omega)).trans c1
          have d2 := (b6.cell (p := ⟨b, off + k * 3 + 2, none⟩) (by simp; omega)).trans c2
          have b7 := hB.trans (b6.mono zB)
          clear kc b6 c0 c1 c2
          go_wp2
          go_roundw
          case rel => exact ⟨k + 1, by omega, by go_num, by rw [e1.out]; rfl, b7⟩
          case measure => simp [intOf]; omega
        | true =>
        cases gone with
        | false =>
          go_wp2_with fail
          refine kc.mono ?_
          rintro e w5 ⟨rfl, b6⟩
          have d1 := (b6.cell (p := ⟨b, off + k * 3 + 1, none⟩) (by simp; omega)).trans c1
          have d2 := (b6.cell (p := ⟨b, off + k * 3 + 2, none⟩) (by simp; omega)).trans c2
          have b7 := hB.trans (b6.mono zB)
          clear kc b6 c0 c1 c2
          go_wp2
          go_roundw
          case rel => exact ⟨k + 1, by omega, by go_num, by rw [e1.out]; rfl, b7⟩
          case measure => simp [intOf]; omega
        | true =>
          go_wp2_with fail
          refine kc.mono ?_
          rintro e w5 ⟨rfl, b6⟩
          have d1 := (b6.cell (p := ⟨b, off + k * 3 + 1, none⟩) (by simp; omega)).trans c1
          have d2 := (b6.cell (p := ⟨b, off + k * 3 + 2, none⟩) (by simp; omega)).trans c2
          have b7 := hB.trans (b6.mono zB)
          clear kc b6 c0 c1 c2
          go_wp2
          go_roundw
          case rel => exact ⟨k + 1, by omega, by go_num, by rw [e1.out]; simp, b7⟩
          case measure => simp [intOf]; omega
      · have e1 : l.take k = l := List.take_of_length_le (by omega)
        have z5 := b5.size
        have zB := hB.size
        have b6 := b5.trans (hB.mono z5)
        rw [e1, hok]
        clear hc e1 hok
        have hbs := o4.below hB
        clear o4 hB
        have kg := GetChanges_some (in_own hbs) hgp
        go_wp2_with fail
        refine kg.mono ?_
        rintro e w6 ⟨ao6, c6, rfl, o6, b7⟩
        have b8 := b6.trans (b7.mono b6.size)
        clear kg hbs b7
        have ks := sameChs_any w6 _ _ _ _ l (sl_own chCells_len o6) (hl.below b8 (Nat.le_refl _))
        go_wp2_with fail
        refine ks.mono ?_
        rintro e w7 ⟨rfl, n7, rfl⟩
        replace b8 := b8.trans ((below_drewN w6 n7).mono b8.size)
        generalize w6.drewN n7 = w7 at *
        clear ks o6
        have kg2 := GetChanges_some ((hb.below b8 (Nat.le_refl _)).mono b8.size) hg
        go_wp2_with fail
        refine kg2.mono ?_
        rintro e w8 ⟨ao8, c8, rfl, o8, b9⟩
        have b10 := b8.trans (b9.mono b8.size)
        clear kg2 b9
        have kp2 := PutChanges_fits (sl_own chCells_len o8) hsm2 hg2 hg3
        rw [hg4] at kp2
        go_wp2_with fail
        refine kp2.mono ?_
        rintro e w9 ⟨ao9, c9, rfl, o9, b11⟩
        have b12 := b10.trans (b11.mono b10.size)
        clear kp2 b11 o8
        have ks2 := sameBytes_any w9 _ _ _ _ bs (in_own o9) (hb.below b12 (Nat.le_refl _))
        go_wp2_with fail
        refine ks2.mono ?_
        rintro e w10 ⟨rfl, n10, rfl⟩
        have b13 := b12.trans ((below_drewN w9 n10).mono b12.size)
        generalize w9.drewN n10 = w10 at *
        clear ks2
        go_wp2
        go_ret
        exact ⟨rfl, b13⟩


theorem turned_walk (w : World) (vl vb : Value) (l : List ChD) (bs : List UInt8) (hl : SlAt 3 chCells w w.heap.size vl l) (hsm : ∀ x ∈ l, chSm x) (hb : InAt w w.heap.size vb bs) :
    Calls Try.prog 3 #[vl, vb] w fun e w' => e = .returned (.bool true) ∧ Below w.heap.size w w' := by
  by_cases hlong : 200 < l.length
  · exact turned_long w vl vb l bs hl hsm hb hlong
  by_cases hbig : 70000 < bs.length
  · exact turned_big w vl vb l bs hl hsm hb hlong hbig
  rcases getChs_two bs with ⟨l2, hg, hg2, hg3, hg4⟩ | hg
  · cases hok : l.all chOk with
    | false => exact turned_arg_some w vl vb l bs hl hsm hb hok hlong hbig l2 hg hg2 hg3 hg4
    | true => exact turned_fits_some w vl vb l bs hl hsm hb hok hlong hbig l2 hg hg2 hg3 hg4
  · cases hok : l.all chOk with
    | false => exact turned_arg_none w vl vb l bs hl hsm hb hok hlong hbig hg
    | true => exact turned_fits_none w vl vb l bs hl hsm hb hok hlong hbig hg
end Go.Proofs.Ytndjgilheleplab
