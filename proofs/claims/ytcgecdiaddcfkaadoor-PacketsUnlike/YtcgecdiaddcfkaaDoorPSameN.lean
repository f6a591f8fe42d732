/- Lists, results and messages that are not the same. -/
import Derived.Test.YtcgecdiaddcfkaaDoorPSame
import Derived.Deep.QuietTactic
import Derived.Laws.StructEq
set_option linter.unusedSimpArgs false
set_option linter.unusedVariables false
namespace Go.Proofs.YtcgecdiaddcfkaaDoor
open Go.RowKit

set_option maxHeartbeats 2000000 in
set_option maxRecDepth 1000000 in
theorem sameOps_not (w : World) (la lb : Nat) (va vb : Value) (l m : List OpD) (ha : SlAt 4 opCells w la va l) (hb : SlAt 4 opCells w lb vb m) (hne : l ≠ m) :
    Calls Tryd.prog 27 #[va, vb] w fun e w' => e = .returned (.bool false) ∧ ∃ n, w' = w.drewN n := by
  obtain ⟨ao, ca, rfl, ha1, ha2, ha3⟩ := ha
  obtain ⟨bo, cb, rfl, hb1, hb2, hb3⟩ := hb
  unfold maxLen at ha2 hb2
  by_cases hlen : l.length = m.length
  · have hLE : Hid (l.length = m.length) := hlen
    rw [← hlen]
    have hb1' : l.length ≤ cb := by omega
    clear hb1
    go_enter Tryd.func27, Tryd.ntmps27
    clear hlen
    go_wp2
    go_loopw [5] (fun i wr => ∃ k n : Nat, k ≤ l.length ∧ i = .int .i64 k ∧ l.take k = m.take k ∧ wr = w.drewN n) (fun i _ => l.length - (intOf i).toNat)
    case atStart => exact ⟨0, 0, by omega, rfl, rfl, rfl⟩
    case round =>
      obtain ⟨k, n, hk, rfl, htk, rfl⟩ := hrel
      by_cases h1 : k < l.length
      · have h2 : k < m.length := by have := hLE.out; omega
        obtain ⟨b1, o1, rfl, hl1, hc1⟩ := ha3 (by omega)
        obtain ⟨b2, o2, rfl, hl2, hc2⟩ := hb3 (by omega)
        have E : Hid (l[k]'h1 = m[k]'h2 → l.take (k + 1) = m.take (k + 1)) := fun e => by
          rw [List.take_succ_eq_append_getElem h1, List.take_succ_eq_append_getElem h2, htk, e]
        have p := hc1 k h1
        have q := hc2 k h2
        clear hc1 hc2 ha3 hb3 htk
        generalize l[k]'h1 = x at *
        generalize m[k]'h2 = y at *
        obtain ⟨a1, b1, c1, d1⟩ := x
        obtain ⟨a2, b2, c2, d2⟩ := y
        have p0 := p 0 _ rfl
        have q0 := q 0 _ rfl
        have p1 := p 1 _ rfl
        have q1 := q 1 _ rfl
        have p2 := p 2 _ rfl
        have q2 := q 2 _ rfl
        have p3 := p 3 _ rfl
        have q3 := q 3 _ rfl
        simp only [Nat.add_zero, Nat.mul_one] at p0 q0
        clear p q
        have i1 : (k : Int) < (l.length : Int) := by omega
        by_cases hx : a1 = a2
        case neg =>
          have n1 : ((a1.toNat : Int) == (a2.toNat : Int)) = false := by rw [beq_eq_false_iff_ne]; intro e; exact hx (UInt8.toNat_inj.1 (by omega))
          clear E hx
          go_wp2
          go_quiet (fail)
          go_wp2
          go_ret
          exact ⟨rfl, _, World.drewN_drewN _ _ _⟩
        subst hx
        by_cases hx : b1 = b2
        case neg =>
          have n1 : (b1.toList == b2.toList) = false := by rw [beq_eq_false_iff_ne]; intro e; rw [ByteArray.toList_eq, ByteArray.toList_eq] at e; exact hx (ByteArray.ext (Array.toList_inj.1 e))
          clear E hx
          go_wp2
          go_quiet (fail)
          go_wp2
          go_ret
          exact ⟨rfl, _, World.drewN_drewN _ _ _⟩
        subst hx
        by_cases hx : c1 = c2
        case neg =>
          have n1 : (c1.toList == c2.toList) = false := by rw [beq_eq_false_iff_ne]; intro e; rw [ByteArray.toList_eq, ByteArray.toList_eq] at e; exact hx (ByteArray.ext (Array.toList_inj.1 e))
          clear E hx
          go_wp2
          go_quiet (fail)
          go_wp2
          go_ret
          exact ⟨rfl, _, World.drewN_drewN _ _ _⟩
        subst hx
        by_cases hx : d1 = d2
        case neg =>
          have n1 : ((d1.toNat : Int) == (d2.toNat : Int)) = false := by rw [beq_eq_false_iff_ne]; intro e; exact hx (UInt32.toNat_inj.1 (by omega))
          clear E hx
          go_wp2
          go_quiet (fail)
          go_wp2
          go_ret
          exact ⟨rfl, _, World.drewN_drewN _ _ _⟩
        subst hx
        have T : Hid (l.take (k + 1) = m.take (k + 1)) := E.out rfl
        clear E
        go_wp2
        go_quiet (fail)
        go_wp2
        go_roundw
        case rel => exact ⟨k + 1, _, by omega, by go_num, T.out, rfl⟩
        case measure => simp [intOf]; omega
      · exfalso
        have := hLE.out
        rw [List.take_of_length_le (by omega), List.take_of_length_le (by omega)] at htk
        exact hne htk
  · have n1 : ¬ (l.length : Int) = (m.length : Int) := by omega
    have n2 : ((l.length : Int) != (m.length : Int)) = true := by rw [bne_iff_ne]; exact n1
    clear ha3 hb3
    go_enter Tryd.func27, Tryd.ntmps27
    go_wp2
    go_ret
    exact ⟨rfl, 0, rfl⟩

set_option maxHeartbeats 2000000 in
set_option maxRecDepth 1000000 in
theorem sameRows_not (w : World) (la lb : Nat) (va vb : Value) (l m : List RowD) (ha : SlAt 2 rowCells w la va l) (hb : SlAt 2 rowCells w lb vb m) (hne : l ≠ m) :
    Calls Tryd.prog 68 #[va, vb] w fun e w' => e = .returned (.bool false) ∧ ∃ n, w' = w.drewN n := by
  obtain ⟨ao, ca, rfl, ha1, ha2, ha3⟩ := ha
  obtain ⟨bo, cb, rfl, hb1, hb2, hb3⟩ := hb
  unfold maxLen at ha2 hb2
  by_cases hlen : l.length = m.length
  · have hLE : Hid (l.length = m.length) := hlen
    rw [← hlen]
    have hb1' : l.length ≤ cb := by omega
    clear hb1
    go_enter Tryd.func68, Tryd.ntmps68
    clear hlen
    go_wp2
    go_loopw [5] (fun i wr => ∃ k n : Nat, k ≤ l.length ∧ i = .int .i64 k ∧ l.take k = m.take k ∧ wr = w.drewN n) (fun i _ => l.length - (intOf i).toNat)
    case atStart => exact ⟨0, 0, by omega, rfl, rfl, rfl⟩
    case round =>
      obtain ⟨k, n, hk, rfl, htk, rfl⟩ := hrel
      by_cases h1 : k < l.length
      · have h2 : k < m.length := by have := hLE.out; omega
        obtain ⟨b1, o1, rfl, hl1, hc1⟩ := ha3 (by omega)
        obtain ⟨b2, o2, rfl, hl2, hc2⟩ := hb3 (by omega)
        have E : Hid (l[k]'h1 = m[k]'h2 → l.take (k + 1) = m.take (k + 1)) := fun e => by
          rw [List.take_succ_eq_append_getElem h1, List.take_succ_eq_append_getElem h2, htk, e]
        have p := hc1 k h1
        have q := hc2 k h2
        clear hc1 hc2 ha3 hb3 htk
        generalize l[k]'h1 = x at *
        generalize m[k]'h2 = y at *
        obtain ⟨b1, d1⟩ := x
        obtain ⟨b2, d2⟩ := y
        have p0 := p 0 _ rfl
        have q0 := q 0 _ rfl
        have p1 := p 1 _ rfl
        have q1 := q 1 _ rfl
        simp only [Nat.add_zero, Nat.mul_one] at p0 q0
        clear p q
        have i1 : (k : Int) < (l.length : Int) := by omega
        by_cases hx : b1 = b2
        case neg =>
          have n1 : (b1.toList == b2.toList) = false := by rw [beq_eq_false_iff_ne]; intro e; rw [ByteArray.toList_eq, ByteArray.toList_eq] at e; exact hx (ByteArray.ext (Array.toList_inj.1 e))
          clear E hx
          go_wp2
          go_quiet (fail)
          go_wp2
          go_ret
          exact ⟨rfl, _, World.drewN_drewN _ _ _⟩
        subst hx
        by_cases hx : d1 = d2
        case neg =>
          have n1 : ((d1.toNat : Int) == (d2.toNat : Int)) = false := by rw [beq_eq_false_iff_ne]; intro e; exact hx (UInt32.toNat_inj.1 (by omega))
          clear E hx
          go_wp2
          go_quiet (fail)
          go_wp2
          go_ret
          exact ⟨rfl, _, World.drewN_drewN _ _ _⟩
        subst hx
        have T : Hid (l.take (k + 1) = m.take (k + 1)) := E.out rfl
        clear E
        go_wp2
        go_quiet (fail)
        go_wp2
        go_roundw
        case rel => exact ⟨k + 1, _, by omega, by go_num, T.out, rfl⟩
        case measure => simp [intOf]; omega
      · exfalso
        have := hLE.out
        rw [List.take_of_length_le (by omega), List.take_of_length_le (by omega)] at htk
        exact hne htk
  · have n1 : ¬ (l.length : Int) = (m.length : Int) := by omega
    have n2 : ((l.length : Int) != (m.length : Int)) = true := by rw [bne_iff_ne]; exact n1
    clear ha3 hb3
    go_enter Tryd.func68, Tryd.ntmps68
    go_wp2
    go_ret
    exact ⟨rfl, 0, rfl⟩

set_option maxHeartbeats 2000000 in
set_option maxRecDepth 1000000 in
theorem sameResult_not (w : World) (la lb : Nat) (x y : ResP) (ha : SlAt 2 rowCells w la x.1 x.2) (hb : SlAt 2 rowCells w lb y.1 y.2) (hxy : x.2 ≠ y.2) (hla : la ≤ w.heap.size) (hlb : lb ≤ w.heap.size) :
    Calls Tryd.prog 59 #[resV x, resV y] w fun e w' => e = .returned (.bool false) ∧ Below w.heap.size w w' := by
  obtain ⟨vx, rx⟩ := x
  obtain ⟨vy, ry⟩ := y
  simp only at ha hb hxy
  unfold resV
  simp only
  obtain ⟨W, hW⟩ : ∃ W, W = (w.alloc (.cells #[vx] 46)).alloc (.cells #[vy] 46) := ⟨_, rfl⟩
  have bW : Below w.heap.size w W := by rw [hW]; exact ((Below.refl _ _).alloc (Nat.le_refl _) _).alloc (by simp) _
  have k := sameRows_not W la lb vx vy rx ry (ha.below bW hla) (hb.below bW hlb) hxy
  obtain ⟨ax, cx, hvx, -, -, -⟩ := ha
  obtain ⟨ay, cy, hvy, -, -, -⟩ := hb
  subst hvx
  subst hvy
  have fin : ∀ n, Below w.heap.size w (W.drewN n) := fun n => bW.trans ((below_drewN W n).mono bW.size)
  clear bW
  subst hW
  go_enter Tryd.func59, Tryd.ntmps59
  go_wp2_with fail
  refine k.mono ?_
  rintro e w1 ⟨rfl, n, rfl⟩
  have f := fin n
  clear fin k
  go_wp2
  go_ret
  exact ⟨rfl, f⟩

set_option maxHeartbeats 2000000 in
set_option maxRecDepth 1000000 in
theorem sameResults_not (w : World) (va vb : Value) (l m : List ResP) (ha : ResAt w w.heap.size va l) (hb : ResAt w w.heap.size vb m) (hlm : l.map (·.2) ≠ m.map (·.2)) :
    Calls Tryd.prog 28 #[va, vb] w fun e w' => e = .returned (.bool false) ∧ Below w.heap.size w w' := by
  obtain ⟨⟨ao, ca, rfl, ha1, ha2, ha3⟩, hra⟩ := ha
  obtain ⟨⟨bo, cb, rfl, hb1, hb2, hb3⟩, hrb⟩ := hb
  unfold maxLen at ha2 hb2
  by_cases hll : m.length = l.length
  case neg =>
    have n1 : ¬ (l.length : Int) = (m.length : Int) := by omega
    have n2 : ((l.length : Int) != (m.length : Int)) = true := by rw [bne_iff_ne]; exact n1
    clear ha3 hb3 hra hrb hlm
    go_enter Tryd.func28, Tryd.ntmps28
    go_wp2
    go_ret
    exact ⟨rfl, Below.refl _ _⟩
  have hb1' : l.length ≤ cb := by omega
  rw [hll]
  have HL : Hid (m.length = l.length) := hll
  clear hll hb1
  go_enter Tryd.func28, Tryd.ntmps28
  go_wp2
  go_loopw [5] (fun i wr => ∃ k : Nat, k ≤ l.length ∧ i = .int .i64 k ∧ (l.take k).map (·.2) = (m.take k).map (·.2) ∧ Below w.heap.size w wr) (fun i _ => l.length - (intOf i).toNat)
  case atStart => exact ⟨0, by omega, rfl, rfl, Below.refl _ _⟩
  case round =>
    obtain ⟨k, hk, rfl, htk, hB⟩ := hrel
    by_cases h1 : k < l.length
    · have h2 : k < m.length := by have := HL.out; omega
      obtain ⟨b1, o1, rfl, hl1, hc1⟩ := ha3 (by omega)
      obtain ⟨b2, o2, rfl, hl2, hc2⟩ := hb3 (by omega)
      have hz := hB.size
      have p0 : wr.cell? ⟨b1, o1 + k, none⟩ = some (l[k]'h1).1 := by
        rw [hB.cell hl1]
        have := hc1 k h1 0 _ rfl
        simpa using this
      have q0 : wr.cell? ⟨b2, o2 + k, none⟩ = some (m[k]'h2).1 := by
        rw [hB.cell hl2]
        have := hc2 k h2 0 _ rfl
        simpa using this
      have R1 : RowsAt w w.heap.size (l[k]'h1) := hra _ (List.getElem_mem h1)
      have R2 : RowsAt w w.heap.size (m[k]'h2) := hrb _ (List.getElem_mem h2)
      have E : Hid ((l[k]'h1).2 = (m[k]'h2).2 → (l.take (k + 1)).map (·.2) = (m.take (k + 1)).map (·.2)) := fun e => by
        rw [List.take_succ_eq_append_getElem h1, List.take_succ_eq_append_getElem h2, List.map_append, List.map_append, htk, List.map_singleton, List.map_singleton, e]
      generalize l[k]'h1 = x at *
      generalize m[k]'h2 = y at *
      obtain ⟨vx, rx⟩ := x
      obtain ⟨vy, ry⟩ := y
      obtain ⟨ax, cx, hvx, -, -, -⟩ := id R1.1
      obtain ⟨ay, cy, hvy, -, -, -⟩ := id R2.1
      simp only at hvx hvy p0 q0 E
      subst hvx
      subst hvy
      obtain ⟨bb, hbb⟩ : ∃ b : Bool, (b = true ↔ rx = ry) := by
        by_cases h : rx = ry
        · exact ⟨true, by simp [h]⟩
        · exact ⟨false, by simp [h]⟩
      have kS : ∀ W, SrS w b1 (o1 + k) b2 (o2 + k) (.slice ax rx.length cx) (.slice ay ry.length cy) W → Calls Tryd.prog 59 #[.agg #[.slice ax rx.length cx], .agg #[.slice ay ry.length cy]] W fun e w' => e = .returned (.bool bb) ∧ SrS w b1 (o1 + k) b2 (o2 + k) (.slice ax rx.length cx) (.slice ay ry.length cy) w' := by
        intro W hW
        have z := hW.2.2.size
        have fin : ∀ w', Below W.heap.size W w' → SrS w b1 (o1 + k) b2 (o2 + k) (.slice ax rx.length cx) (.slice ay ry.length cy) w' := fun w' h' => ⟨(h'.cell (by simp; omega)).trans hW.1, (h'.cell (by simp; omega)).trans hW.2.1, hW.2.2.trans (h'.mono z)⟩
        by_cases hxy : rx = ry
        · rw [show bb = true from hbb.2 hxy]
          refine (sameResult_any W w.heap.size w.heap.size (.slice ax rx.length cx, rx) (.slice ay ry.length cy, ry) (R1.1.below hW.2.2 (Nat.le_refl _)) (R2.1.below hW.2.2 (Nat.le_refl _)) hxy hW.2.2.size hW.2.2.size).mono ?_
          rintro e w' ⟨rfl, h'⟩
          exact ⟨rfl, fin _ h'⟩
        · rw [show bb = false by cases bb with | true => exact absurd (hbb.1 rfl) hxy | false => rfl]
          refine (sameResult_not W w.heap.size w.heap.size (.slice ax rx.length cx, rx) (.slice ay ry.length cy, ry) (R1.1.below hW.2.2 (Nat.le_refl _)) (R2.1.below hW.2.2 (Nat.le_refl _)) hxy hW.2.2.size hW.2.2.size).mono ?_
          rintro e w' ⟨rfl, h'⟩
          exact ⟨rfl, fin _ h'⟩
      have hS : SrS w b1 (o1 + k) b2 (o2 + k) (.slice ax rx.length cx) (.slice ay ry.length cy) wr := ⟨p0, q0, hB⟩
      have i1 : (k : Int) < (l.length : Int) := by omega
      have E2 : Hid (bb = true → (l.take (k + 1)).map (·.2) = (m.take (k + 1)).map (·.2)) := fun h => E.out (hbb.1 h)
      clear hc1 hc2 ha3 hb3 R1 R2 hra hrb p0 q0 hB E hbb htk
      cases bb with
      | true =>
        have T : Hid ((l.take (k + 1)).map (·.2) = (m.take (k + 1)).map (·.2)) := E2.out rfl
        clear E2
        go_wp2_with fail
        go_region_held3 (fun W => W.cell? ⟨b1, o1 + k, none⟩ = some (.slice ax rx.length cx) ∧ W.cell? ⟨b2, o2 + k, none⟩ = some (.slice ay ry.length cy) ∧ Below w.heap.size w W) (first | assumption | exact SrS.drewN (by assumption) 1)
          (first | (go_at_call 59; refine (kS _ (by assumption)).mono ?_; rintro e w' ⟨rfl, hb⟩))
        all_goals
          rename_i hlast
          clear kS
          go_wp2
          go_roundw
          case rel => exact ⟨k + 1, by omega, by go_num, T.out, hlast.2.2⟩
          case measure => simp [intOf]; omega
      | false =>
        clear E2
        go_wp2_with fail
        go_region_held3 (fun W => W.cell? ⟨b1, o1 + k, none⟩ = some (.slice ax rx.length cx) ∧ W.cell? ⟨b2, o2 + k, none⟩ = some (.slice ay ry.length cy) ∧ Below w.heap.size w W) (first | assumption | exact SrS.drewN (by assumption) 1)
          (first | (go_at_call 59; refine (kS _ (by assumption)).mono ?_; rintro e w' ⟨rfl, hb⟩))
        all_goals
          rename_i hlast
          clear kS
          go_wp2
          go_ret
          exact ⟨rfl, hlast.2.2⟩
    · exfalso
      have := HL.out
      rw [List.take_of_length_le (by omega), List.take_of_length_le (by omega)] at htk
      exact hlm htk
end Go.Proofs.YtcgecdiaddcfkaaDoor
