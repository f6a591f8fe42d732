/- The walk of RowsTold: what is put is got, and what is got is put as it was. -/
import Derived.Test.YtndjgilheleplaaRAlive
import Derived.Test.YtndjgilheleplaaRCases
import Derived.Test.YtndjgilheleplaaRSameR
set_option linter.unusedSimpArgs false
set_option linter.unusedVariables false
namespace Go.Proofs.Ytndjgilheleplaa
open Go.RowKit

theorem forall_P (l : List ResP) : (∀ p ∈ l, ∀ x ∈ p.2, rowSm x) = (∀ r ∈ l.map (·.2), ∀ x ∈ r, rowSm x) := by
  apply propext
  constructor
  · intro h r hr
    obtain ⟨p, hp, rfl⟩ := List.mem_map.mp hr
    exact h p hp
  · intro h p hp
    exact h p.2 (List.mem_map.mpr ⟨p, hp, rfl⟩)
theorem rows_small {m : List (List RowD)} (h : m.all resOk = true) : ∀ r ∈ m, ∀ x ∈ r, rowSm x := fun r hr x hx => by
  have h1 := List.all_eq_true.mp h r hr
  have h2 := List.all_eq_true.mp h1 x hx
  exact small16 h2

set_option maxHeartbeats 8000000 in
set_option maxRecDepth 1000000 in
theorem told_big (w : World) (vl vb : Value) (l : List ResP) (bs : List UInt8) (hl : ResAt w w.heap.size vl l) (hb : InAt w w.heap.size vb bs) (hbig : 70000 < bs.length) :
    Calls Try.prog 5 #[vl, vb] w fun e w' => e = .returned (.bool true) ∧ Below w.heap.size w w' := by
  have kA := alive_any w
  have kS := fun W (hW : Below w.heap.size w W) => resultsSize_any W vl l ((hl.below hW (Nat.le_refl _)).mono hW.size)
  have hl0 := hl
  obtain ⟨⟨ao0, ca0, rfl, hlc, hlm, -⟩, -⟩ := hl0
  have hb0 := hb
  obtain ⟨ab0, cb0, rfl, hbc, hbm, -⟩ := hb0
  unfold maxLen at hlm hbm
  go_enter Try.func5, Try.ntmps5
  go_wp2_with fail
  refine kA.mono ?_
  rintro e w1 ⟨rfl, b1⟩
  go_wp2_with fail
  refine (kS w1 b1).mono ?_
  rintro e w3 ⟨⟨z, rfl⟩, b1'⟩
  have b2 := b1.trans (b1'.mono b1.size)
  clear kA kS b1 b1'
  by_cases hz : 3000 < z
  · go_wp2_with fail
    refine (alive_any _).mono ?_
    rintro e w4 ⟨rfl, b4⟩
    have b5 := b2.trans (b4.mono b2.size)
    go_wp2
    go_ret
    exact ⟨rfl, b5⟩

  · go_wp2_with fail
    refine (alive_any _).mono ?_
    rintro e w4 ⟨rfl, b4⟩
    have b5 := b2.trans (b4.mono b2.size)
    go_wp2
    go_ret
    exact ⟨rfl, b5⟩


set_option maxHeartbeats 8000000 in
set_option maxRecDepth 1000000 in
theorem told_arg_none (w : World) (vl vb : Value) (l : List ResP) (bs : List UInt8) (hl : ResAt w w.heap.size vl l) (hb : InAt w w.heap.size vb bs) (hok : l.all resOkP = false) (hbig : ¬ 70000 < bs.length) (hg : getRes bs = ([], 4)) :
    Calls Try.prog 5 #[vl, vb] w fun e w' => e = .returned (.bool true) ∧ Below w.heap.size w w' := by
  have kA := alive_any w
  have kS := fun W (hW : Below w.heap.size w W) => resultsSize_any W vl l ((hl.below hW (Nat.le_refl _)).mono hW.size)
  have kP := fun W (hW : Below w.heap.size w W) => PutResults_arg ((hl.below hW (Nat.le_refl _)).mono hW.size) hok
  have hl0 := hl
  obtain ⟨⟨ao0, ca0, rfl, hlc, hlm, -⟩, -⟩ := hl0
  have hb0 := hb
  obtain ⟨ab0, cb0, rfl, hbc, hbm, -⟩ := hb0
  unfold maxLen at hlm hbm
  go_enter Try.func5, Try.ntmps5
  go_wp2_with fail
  refine kA.mono ?_
  rintro e w1 ⟨rfl, b1⟩
  go_wp2_with fail
  refine (kS w1 b1).mono ?_
  rintro e w3 ⟨⟨z, rfl⟩, b1'⟩
  have b2 := b1.trans (b1'.mono b1.size)
  clear kA kS b1 b1'
  by_cases hz : 3000 < z
  · clear kP
    go_wp2_with fail
    refine (alive_any _).mono ?_
    rintro e w4 ⟨rfl, b4⟩
    have b5 := b2.trans (b4.mono b2.size)
    go_wp2
    go_ret
    exact ⟨rfl, b5⟩

  · go_wp2_with fail
    refine (kP w3 b2).mono ?_
    rintro e w4 ⟨ao, c, rfl, b4⟩
    have b6 := b2.trans (b4.mono b2.size)
    clear b4 kP
    have b8 := b6
    generalize w4 = w7 at *
    have kg2 := GetResults_none ((hb.below b8 (Nat.le_refl _)).mono b8.size) hg
    go_wp2_with fail
    refine kg2.mono ?_
    rintro e w8 ⟨ao8, c8, rfl, b9⟩
    have b10 := b8.trans (b9.mono b8.size)
    clear kg2 b9
    go_wp2
    go_ret
    exact ⟨rfl, b10⟩


set_option maxHeartbeats 8000000 in
set_option maxRecDepth 1000000 in
theorem told_arg_some (w : World) (vl vb : Value) (l : List ResP) (bs : List UInt8) (hl : ResAt w w.heap.size vl l) (hb : InAt w w.heap.size vb bs) (hok : l.all resOkP = false) (hbig : ¬ 70000 < bs.length) (l2 : List (List RowD)) (hg : getRes bs = (l2, 0)) (hg2 : l2.all resOk = true) (hg3 : l2.length ≤ 16) (hg5 : l2.all (fun r => decide (r.length ≤ 256)) = true) (hg4 : encList encRes l2 = bs) :
    Calls Try.prog 5 #[vl, vb] w fun e w' => e = .returned (.bool true) ∧ Below w.heap.size w w' := by
  have kA := alive_any w
  have kS := fun W (hW : Below w.heap.size w W) => resultsSize_any W vl l ((hl.below hW (Nat.le_refl _)).mono hW.size)
  have kP := fun W (hW : Below w.heap.size w W) => PutResults_arg ((hl.below hW (Nat.le_refl _)).mono hW.size) hok
  have hl0 := hl
  obtain ⟨⟨ao0, ca0, rfl, hlc, hlm, -⟩, -⟩ := hl0
  have hb0 := hb
  obtain ⟨ab0, cb0, rfl, hbc, hbm, -⟩ := hb0
  unfold maxLen at hlm hbm
  go_enter Try.func5, Try.ntmps5
  go_wp2_with fail
  refine kA.mono ?_
  rintro e w1 ⟨rfl, b1⟩
  go_wp2_with fail
  refine (kS w1 b1).mono ?_
  rintro e w3 ⟨⟨z, rfl⟩, b1'⟩
  have b2 := b1.trans (b1'.mono b1.size)
  clear kA kS b1 b1'
  by_cases hz : 3000 < z
  · clear kP
    go_wp2_with fail
    refine (alive_any _).mono ?_
    rintro e w4 ⟨rfl, b4⟩
    have b5 := b2.trans (b4.mono b2.size)
    go_wp2
    go_ret
    exact ⟨rfl, b5⟩

  · go_wp2_with fail
    refine (kP w3 b2).mono ?_
    rintro e w4 ⟨ao, c, rfl, b4⟩
    have b6 := b2.trans (b4.mono b2.size)
    clear b4 kP
    have b8 := b6
    generalize w4 = w7 at *
    have kg2 := GetResults_some ((hb.below b8 (Nat.le_refl _)).mono b8.size) hg
    go_wp2_with fail
    refine kg2.mono ?_
    rintro e w8 ⟨ao8, c8, l8, rfl, o8, m8, b9⟩
    have b10 := b8.trans (b9.mono b8.size)
    clear kg2 b9
    have kp2 := PutResults_fits (o8.at (by rw [forall_P, m8]; exact rows_small hg2)) (by rw [← all_P, m8]; exact hg2) ⟨by rw [← List.length_map (f := (·.2)), m8]; exact hg3, by rw [← few_P, m8]; exact hg5⟩
    rw [encList_P, m8, hg4] at kp2
    go_wp2_with fail
    refine kp2.mono ?_
    rintro e w9 ⟨ao9, c9, rfl, o9, b11⟩
    have b12 := b10.trans (b11.mono b10.size)
    clear kp2 b11 o8
    have ks2 := sameBytes_any w9 _ _ _ _ bs (in_own o9) (hb.below b12 (Nat.le_refl _))
    go_wp2_with fail
    refine ks2.mono ?_
    rintro e w10 ⟨rfl, n10, rfl⟩
    have b13 := b12.trans ((below_drewN w9 n10).mono b12.size)
    generalize w9.drewN n10 = w10 at *
    clear ks2
    go_wp2
    go_ret
    exact ⟨rfl, b13⟩


set_option maxHeartbeats 8000000 in
set_option maxRecDepth 1000000 in
theorem told_limit_none (w : World) (vl vb : Value) (l : List ResP) (bs : List UInt8) (hl : ResAt w w.heap.size vl l) (hb : InAt w w.heap.size vb bs) (hok : l.all resOkP = true) (hn : ¬ (l.length ≤ 16 ∧ l.all fewP = true)) (hbig : ¬ 70000 < bs.length) (hg : getRes bs = ([], 4)) :
    Calls Try.prog 5 #[vl, vb] w fun e w' => e = .returned (.bool true) ∧ Below w.heap.size w w' := by
  have kA := alive_any w
  have kS := fun W (hW : Below w.heap.size w W) => resultsSize_any W vl l ((hl.below hW (Nat.le_refl _)).mono hW.size)
  have kP := fun W (hW : Below w.heap.size w W) => PutResults_limit ((hl.below hW (Nat.le_refl _)).mono hW.size) hok hn
  have hl0 := hl
  obtain ⟨⟨ao0, ca0, rfl, hlc, hlm, -⟩, -⟩ := hl0
  have hb0 := hb
  obtain ⟨ab0, cb0, rfl, hbc, hbm, -⟩ := hb0
  unfold maxLen at hlm hbm
  go_enter Try.func5, Try.ntmps5
  go_wp2_with fail
  refine kA.mono ?_
  rintro e w1 ⟨rfl, b1⟩
  go_wp2_with fail
  refine (kS w1 b1).mono ?_
  rintro e w3 ⟨⟨z, rfl⟩, b1'⟩
  have b2 := b1.trans (b1'.mono b1.size)
  clear kA kS b1 b1'
  by_cases hz : 3000 < z
  · clear kP
    go_wp2_with fail
    refine (alive_any _).mono ?_
    rintro e w4 ⟨rfl, b4⟩
    have b5 := b2.trans (b4.mono b2.size)
    go_wp2
    go_ret
    exact ⟨rfl, b5⟩

  · go_wp2_with fail
    refine (kP w3 b2).mono ?_
    rintro e w4 ⟨ao, c, rfl, b4⟩
    have b6 := b2.trans (b4.mono b2.size)
    clear b4 kP
    have b8 := b6
    generalize w4 = w7 at *
    have kg2 := GetResults_none ((hb.below b8 (Nat.le_refl _)).mono b8.size) hg
    go_wp2_with fail
    refine kg2.mono ?_
    rintro e w8 ⟨ao8, c8, rfl, b9⟩
    have b10 := b8.trans (b9.mono b8.size)
    clear kg2 b9
    go_wp2
    go_ret
    exact ⟨rfl, b10⟩


set_option maxHeartbeats 8000000 in
set_option maxRecDepth 1000000 in
theorem told_limit_some (w : World) (vl vb : Value) (l : List ResP) (bs : List UInt8) (hl : ResAt w w.heap.size vl l) (hb : InAt w w.heap.size vb bs) (hok : l.all resOkP = true) (hn : ¬ (l.length ≤ 16 ∧ l.all fewP = true)) (hbig : ¬ 70000 < bs.length) (l2 : List (List RowD)) (hg : getRes bs = (l2, 0)) (hg2 : l2.all resOk = true) (hg3 : l2.length ≤ 16) (hg5 : l2.all (fun r => decide (r.length ≤ 256)) = true) (hg4 : encList encRes l2 = bs) :
    Calls Try.prog 5 #[vl, vb] w fun e w' => e = .returned (.bool true) ∧ Below w.heap.size w w' := by
  have kA := alive_any w
  have kS := fun W (hW : Below w.heap.size w W) => resultsSize_any W vl l ((hl.below hW (Nat.le_refl _)).mono hW.size)
  have kP := fun W (hW : Below w.heap.size w W) => PutResults_limit ((hl.below hW (Nat.le_refl _)).mono hW.size) hok hn
  have hl0 := hl
  obtain ⟨⟨ao0, ca0, rfl, hlc, hlm, -⟩, -⟩ := hl0
  have hb0 := hb
  obtain ⟨ab0, cb0, rfl, hbc, hbm, -⟩ := hb0
  unfold maxLen at hlm hbm
  go_enter Try.func5, Try.ntmps5
  go_wp2_with fail
  refine kA.mono ?_
  rintro e w1 ⟨rfl, b1⟩
  go_wp2_with fail
  refine (kS w1 b1).mono ?_
  rintro e w3 ⟨⟨z, rfl⟩, b1'⟩
  have b2 := b1.trans (b1'.mono b1.size)
  clear kA kS b1 b1'
  by_cases hz : 3000 < z
  · clear kP
    go_wp2_with fail
    refine (alive_any _).mono ?_
    rintro e w4 ⟨rfl, b4⟩
    have b5 := b2.trans (b4.mono b2.size)
    go_wp2
    go_ret
    exact ⟨rfl, b5⟩

  · go_wp2_with fail
    refine (kP w3 b2).mono ?_
    rintro e w4 ⟨ao, c, rfl, b4⟩
    have b6 := b2.trans (b4.mono b2.size)
    clear b4 kP
    have b8 := b6
    generalize w4 = w7 at *
    have kg2 := GetResults_some ((hb.below b8 (Nat.le_refl _)).mono b8.size) hg
    go_wp2_with fail
    refine kg2.mono ?_
    rintro e w8 ⟨ao8, c8, l8, rfl, o8, m8, b9⟩
    have b10 := b8.trans (b9.mono b8.size)
    clear kg2 b9
    have kp2 := PutResults_fits (o8.at (by rw [forall_P, m8]; exact rows_small hg2)) (by rw [← all_P, m8]; exact hg2) ⟨by rw [← List.length_map (f := (·.2)), m8]; exact hg3, by rw [← few_P, m8]; exact hg5⟩
    rw [encList_P, m8, hg4] at kp2
    go_wp2_with fail
    refine kp2.mono ?_
    rintro e w9 ⟨ao9, c9, rfl, o9, b11⟩
    have b12 := b10.trans (b11.mono b10.size)
    clear kp2 b11 o8
    have ks2 := sameBytes_any w9 _ _ _ _ bs (in_own o9) (hb.below b12 (Nat.le_refl _))
    go_wp2_with fail
    refine ks2.mono ?_
    rintro e w10 ⟨rfl, n10, rfl⟩
    have b13 := b12.trans ((below_drewN w9 n10).mono b12.size)
    generalize w9.drewN n10 = w10 at *
    clear ks2
    go_wp2
    go_ret
    exact ⟨rfl, b13⟩


set_option maxHeartbeats 8000000 in
set_option maxRecDepth 1000000 in
theorem told_fits_none (w : World) (vl vb : Value) (l : List ResP) (bs : List UInt8) (hl : ResAt w w.heap.size vl l) (hb : InAt w w.heap.size vb bs) (hok : l.all resOkP = true) (hn : l.length ≤ 16 ∧ l.all fewP = true) (hbig : ¬ 70000 < bs.length) (hg : getRes bs = ([], 4)) :
    Calls Try.prog 5 #[vl, vb] w fun e w' => e = .returned (.bool true) ∧ Below w.heap.size w w' := by
  have kA := alive_any w
  have kS := fun W (hW : Below w.heap.size w W) => resultsSize_any W vl l ((hl.below hW (Nat.le_refl _)).mono hW.size)
  have kP := fun W (hW : Below w.heap.size w W) => PutResults_fits ((hl.below hW (Nat.le_refl _)).mono hW.size) hok hn
  have hgp : getRes (encList encResP l) = (l.map (·.2), 0) := by rw [encList_P]; exact getRes_put (by rw [all_P]; exact hok) (by rw [List.length_map]; exact hn.1) (by rw [few_P]; exact hn.2)
  have hrs := rows_small (m := l.map (·.2)) (by rw [all_P]; exact hok)
  have hn1 := hn.1
  have HM : (l.map (·.2)).length = l.length := by simp
  clear hn
  have hl0 := hl
  obtain ⟨⟨ao0, ca0, rfl, hlc, hlm, -⟩, -⟩ := hl0
  have hb0 := hb
  obtain ⟨ab0, cb0, rfl, hbc, hbm, -⟩ := hb0
  unfold maxLen at hlm hbm
  go_enter Try.func5, Try.ntmps5
  go_wp2_with fail
  refine kA.mono ?_
  rintro e w1 ⟨rfl, b1⟩
  go_wp2_with fail
  refine (kS w1 b1).mono ?_
  rintro e w3 ⟨⟨z, rfl⟩, b1'⟩
  have b2 := b1.trans (b1'.mono b1.size)
  clear kA kS b1 b1'
  by_cases hz : 3000 < z
  · clear kP
    go_wp2_with fail
    refine (alive_any _).mono ?_
    rintro e w4 ⟨rfl, b4⟩
    have b5 := b2.trans (b4.mono b2.size)
    go_wp2
    go_ret
    exact ⟨rfl, b5⟩

  · go_wp2_with fail
    refine (kP w3 b2).mono ?_
    rintro e w4 ⟨ao, c, rfl, o4, b4⟩
    have b6 := b2.trans (b4.mono b2.size)
    clear b4 kP
    have kg := GetResults_some (in_own o4) hgp
    simp only [List.length_map] at kg
    go_wp2_with fail
    refine kg.mono ?_
    rintro e w6 ⟨ao6, c6, l6, rfl, o6, m6, b7⟩
    have b8 := b6.trans (b7.mono b6.size)
    clear kg o4 b7
    have ks := sameResults_any w6 _ _ l6 l (o6.at (by rw [forall_P, m6]; exact hrs)) ((hl.below b8 (Nat.le_refl _)).mono b8.size) m6
    go_wp2_with fail
    refine ks.mono ?_
    rintro e w7 ⟨rfl, b7⟩
    replace b8 := b8.trans (b7.mono b8.size)
    clear ks o6 b7
    have kg2 := GetResults_none ((hb.below b8 (Nat.le_refl _)).mono b8.size) hg
    go_wp2_with fail
    refine kg2.mono ?_
    rintro e w8 ⟨ao8, c8, rfl, b9⟩
    have b10 := b8.trans (b9.mono b8.size)
    clear kg2 b9
    go_wp2
    go_ret
    exact ⟨rfl, b10⟩


set_option maxHeartbeats 8000000 in
set_option maxRecDepth 1000000 in
theorem told_fits_some (w : World) (vl vb : Value) (l : List ResP) (bs : List UInt8) (hl : ResAt w w.heap.size vl l) (hb : InAt w w.heap.size vb bs) (hok : l.all resOkP = true) (hn : l.length ≤ 16 ∧ l.all fewP = true) (hbig : ¬ 70000 < bs.length) (l2 : List (List RowD)) (hg : getRes bs = (l2, 0)) (hg2 : l2.all resOk = true) (hg3 : l2.length ≤ 16) (hg5 : l2.all (fun r => decide (r.length ≤ 256)) = true) (hg4 : encList encRes l2 = bs) :
    Calls Try.prog 5 #[vl, vb] w fun e w' => e = .returned (.bool true) ∧ Below w.heap.size w w' := by
  have kA := alive_any w
  have kS := fun W (hW : Below w.heap.size w W) => resultsSize_any W vl l ((hl.below hW (Nat.le_refl _)).mono hW.size)
  have kP := fun W (hW : Below w.heap.size w W) => PutResults_fits ((hl.below hW (Nat.le_refl _)).mono hW.size) hok hn
  have hgp : getRes (encList encResP l) = (l.map (·.2), 0) := by rw [encList_P]; exact getRes_put (by rw [all_P]; exact hok) (by rw [List.length_map]; exact hn.1) (by rw [few_P]; exact hn.2)
  have hrs := rows_small (m := l.map (·.2)) (by rw [all_P]; exact hok)
  have hn1 := hn.1
  have HM : (l.map (·.2)).length = l.length := by simp
  clear hn
  have hl0 := hl
  obtain ⟨⟨ao0, ca0, rfl, hlc, hlm, -⟩, -⟩ := hl0
  have hb0 := hb
  obtain ⟨ab0, cb0, rfl, hbc, hbm, -⟩ := hb0
  unfold maxLen at hlm hbm
  go_enter Try.func5, Try.ntmps5
  go_wp2_with fail
  refine kA.mono ?_
  rintro e w1 ⟨rfl, b1⟩
  go_wp2_with fail
  refine (kS w1 b1).mono ?_
  rintro e w3 ⟨⟨z, rfl⟩, b1'⟩
  have b2 := b1.trans (b1'.mono b1.size)
  clear kA kS b1 b1'
  by_cases hz : 3000 < z
  · clear kP
    go_wp2_with fail
    refine (alive_any _).mono ?_
    rintro e w4 ⟨rfl, b4⟩
    have b5 := b2.trans (b4.mono b2.size)
    go_wp2
    go_ret
    exact ⟨rfl, b5⟩

  · go_wp2_with fail
    refine (kP w3 b2).mono ?_
    rintro e w4 ⟨ao, c, rfl, o4, b4⟩
    have b6 := b2.trans (b4.mono b2.size)
    clear b4 kP
    have kg := GetResults_some (in_own o4) hgp
    simp only [List.length_map] at kg
    go_wp2_with fail
    refine kg.mono ?_
    rintro e w6 ⟨ao6, c6, l6, rfl, o6, m6, b7⟩
    have b8 := b6.trans (b7.mono b6.size)
    clear kg o4 b7
    have ks := sameResults_any w6 _ _ l6 l (o6.at (by rw [forall_P, m6]; exact hrs)) ((hl.below b8 (Nat.le_refl _)).mono b8.size) m6
    go_wp2_with fail
    refine ks.mono ?_
    rintro e w7 ⟨rfl, b7⟩
    replace b8 := b8.trans (b7.mono b8.size)
    clear ks o6 b7
    have kg2 := GetResults_some ((hb.below b8 (Nat.le_refl _)).mono b8.size) hg
    go_wp2_with fail
    refine kg2.mono ?_
    rintro e w8 ⟨ao8, c8, l8, rfl, o8, m8, b9⟩
    have b10 := b8.trans (b9.mono b8.size)
    clear kg2 b9
    have kp2 := PutResults_fits (o8.at (by rw [forall_P, m8]; exact rows_small hg2)) (by rw [← all_P, m8]; exact hg2) ⟨by rw [← List.length_map (f := (·.2)), m8]; exact hg3, by rw [← few_P, m8]; exact hg5⟩
    rw [encList_P, m8, hg4] at kp2
    go_wp2_with fail
    refine kp2.mono ?_
    rintro e w9 ⟨ao9, c9, rfl, o9, b11⟩
    have b12 := b10.trans (b11.mono b10.size)
    clear kp2 b11 o8
    have ks2 := sameBytes_any w9 _ _ _ _ bs (in_own o9) (hb.below b12 (Nat.le_refl _))
    go_wp2_with fail
    refine ks2.mono ?_
    rintro e w10 ⟨rfl, n10, rfl⟩
    have b13 := b12.trans ((below_drewN w9 n10).mono b12.size)
    generalize w9.drewN n10 = w10 at *
    clear ks2
    go_wp2
    go_ret
    exact ⟨rfl, b13⟩


theorem told_walk (w : World) (vl vb : Value) (l : List ResP) (bs : List UInt8) (hl : ResAt w w.heap.size vl l) (hb : InAt w w.heap.size vb bs) :
    Calls Try.prog 5 #[vl, vb] w fun e w' => e = .returned (.bool true) ∧ Below w.heap.size w w' := by
  by_cases hbig : 70000 < bs.length
  · exact told_big w vl vb l bs hl hb hbig
  rcases getRes_two bs with ⟨l2, hg, hg2, hg3, hg5, hg4⟩ | hg
  · cases hok : l.all resOkP with
    | false => exact told_arg_some w vl vb l bs hl hb hok hbig l2 hg hg2 hg3 hg5 hg4
    | true =>
      by_cases hn : l.length ≤ 16 ∧ l.all fewP = true
      · exact told_fits_some w vl vb l bs hl hb hok hn hbig l2 hg hg2 hg3 hg5 hg4
      · exact told_limit_some w vl vb l bs hl hb hok hn hbig l2 hg hg2 hg3 hg5 hg4
  · cases hok : l.all resOkP with
    | false => exact told_arg_none w vl vb l bs hl hb hok hbig hg
    | true =>
      by_cases hn : l.length ≤ 16 ∧ l.all fewP = true
      · exact told_fits_none w vl vb l bs hl hb hok hn hbig hg
      · exact told_limit_none w vl vb l bs hl hb hok hn hbig hg
end Go.Proofs.Ytndjgilheleplaa
