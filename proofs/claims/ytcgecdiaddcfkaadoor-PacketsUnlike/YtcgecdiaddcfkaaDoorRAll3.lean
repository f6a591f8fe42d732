/- Results in memory; the walks of what is asked of each one of them. -/
import Derived.Test.YtcgecdiaddcfkaaDoorRAll2
set_option linter.unusedSimpArgs false
set_option linter.unusedVariables false
namespace Go.Proofs.YtcgecdiaddcfkaaDoor
open Go.RowKit

/-- A result in memory: its slice, and the rows that it holds. -/
abbrev ResP : Type := Value × List RowD
def resCells (p : ResP) : List Value := [p.1]
def resV (p : ResP) : Value := .agg #[p.1]
/-- The rows of a result lie below block number 'lim'. -/
def RowsAt (w : World) (lim : Nat) (p : ResP) : Prop := SlAt 2 rowCells w lim p.1 p.2 ∧ ∀ x ∈ p.2, rowSm x
def ResAt (w : World) (lim : Nat) (v : Value) (l : List ResP) : Prop := SlAt 1 resCells w lim v l ∧ ∀ p ∈ l, RowsAt w lim p
def resOkP (p : ResP) : Bool := resOk p.2
def fewP (p : ResP) : Bool := decide (p.2.length ≤ 256)
theorem RowsAt.below {w w' : World} {lim B : Nat} {p : ResP} (h : RowsAt w lim p) (hb : Below B w w') (hB : lim ≤ B) : RowsAt w' lim p := ⟨h.1.below hb hB, h.2⟩
theorem RowsAt.kept {w w' : World} {lim : Nat} {p : ResP} (h : RowsAt w lim p) (hb : ∀ k, k < lim → w'.heap[k]? = w.heap[k]?) : RowsAt w' lim p := ⟨h.1.kept hb, h.2⟩
theorem RowsAt.mono {w : World} {lim lim' : Nat} {p : ResP} (h : RowsAt w lim p) (hB : lim ≤ lim') : RowsAt w lim' p := ⟨h.1.mono hB, h.2⟩
theorem ResAt.kept {w w' : World} {lim : Nat} {v : Value} {l : List ResP} (h : ResAt w lim v l) (hb : ∀ k, k < lim → w'.heap[k]? = w.heap[k]?) : ResAt w' lim v l := ⟨h.1.kept hb, fun p hp => (h.2 p hp).kept hb⟩
theorem ResAt.below {w w' : World} {lim B : Nat} {v : Value} {l : List ResP} (h : ResAt w lim v l) (hb : Below B w w') (hB : lim ≤ B) : ResAt w' lim v l := h.kept (fun k hk => hb.block k (by omega))
theorem ResAt.mono {w : World} {lim lim' : Nat} {v : Value} {l : List ResP} (h : ResAt w lim v l) (hB : lim ≤ lim') : ResAt w lim' v l := ⟨h.1.mono hB, fun p hp => (h.2 p hp).mono hB⟩

set_option maxHeartbeats 2000000 in
set_option maxRecDepth 1000000 in
theorem checkResult_any (w : World) (x : ResP) (lim : Nat) (hlim : lim ≤ w.heap.size) (hs : RowsAt w lim x) :
    Calls Tryd.prog 37 #[resV x] w fun e w' => e = .returned (.bool (resOkP x)) ∧ Below w.heap.size w w' := by
  obtain ⟨v, rows⟩ := x
  unfold resV resOkP resOk
  simp only
  obtain ⟨W, hW⟩ : ∃ W, W = w.alloc (.cells #[v] 46) := ⟨_, rfl⟩
  have B0 : Below w.heap.size w W := by rw [hW]; exact (Below.refl _ _).alloc (Nat.le_refl _) _
  have Z0 : W.heap.size = w.heap.size + 1 := by rw [hW]; simp
  have hsW : SlAt 2 rowCells W W.heap.size v rows := (hs.1.below B0 hlim).mono (by omega)
  have k := allRow_any W v rows hsW hs.2
  have fin : ∀ w1, Below W.heap.size W w1 → Below w.heap.size w w1 := fun w1 hb => B0.trans (hb.mono (by omega))
  obtain ⟨ao, cap, hv, -, -, -⟩ := hs.1
  simp only at hv
  clear B0 Z0 hsW hs
  subst hW
  subst hv
  go_enter Tryd.func37, Tryd.ntmps37
  go_wp2_with fail
  refine k.mono ?_
  rintro e w1 ⟨rfl, hb⟩
  have b1 := fin w1 hb
  clear fin k hb
  go_wp2
  go_ret
  exact ⟨rfl, b1⟩

set_option maxHeartbeats 2000000 in
set_option maxRecDepth 1000000 in
theorem fewRows_any (w : World) (x : ResP) (lim : Nat) (hlim : lim ≤ w.heap.size) (hs : RowsAt w lim x) :
    Calls Tryd.prog 38 #[resV x] w fun e w' => e = .returned (.bool (fewP x)) ∧ Below w.heap.size w w' := by
  obtain ⟨v, rows⟩ := x
  unfold resV fewP
  simp only
  have B0 : Below w.heap.size w (w.alloc (.cells #[v] 46)) := (Below.refl _ _).alloc (Nat.le_refl _) _
  obtain ⟨ao, cap, hv, -, -, -⟩ := hs.1
  simp only at hv
  clear hs
  subst hv
  by_cases h : rows.length ≤ 256
  · go_enter Tryd.func38, Tryd.ntmps38
    go_wp2
    go_ret
    exact ⟨by simp [h]; try omega, B0⟩
  · go_enter Tryd.func38, Tryd.ntmps38
    go_wp2
    go_ret
    exact ⟨by simp [h]; try omega, B0⟩

set_option maxHeartbeats 2000000 in
set_option maxRecDepth 1000000 in
theorem allRes_any (w : World) (v : Value) (l : List ResP) (h0 : ResAt w w.heap.size v l) :
    Calls Tryd.prog 36 #[v, .func (.func 37) #[] #[]] w fun e w' => e = .returned (.bool (l.all resOkP)) ∧ Below w.heap.size w w' := by
  obtain ⟨⟨ao, cap, rfl, hlc, hcm, hc⟩, hrows⟩ := h0
  unfold maxLen at hcm
  go_enter Tryd.func36, Tryd.ntmps36
  go_wp2
  go_loopw [6, 9] (fun _ i wr => ∃ k : Nat, k ≤ l.length ∧ i = .int .i64 k ∧ Below w.heap.size w wr ∧ Hid ((l.take k).all resOkP = true)) (fun _ i _ => l.length - (intOf i).toNat)
  case atStart => exact ⟨0, Nat.zero_le _, rfl, Below.refl _ _, rfl⟩
  case round =>
    obtain ⟨k, hk, rfl, hb, hall⟩ := hrel
    by_cases hlt : k < l.length
    · obtain ⟨b, off, rfl, hbl, hcell⟩ := hc (by omega)
      have hz := hb.size
      obtain ⟨x, hx⟩ : ∃ x, x = l[k]'hlt := ⟨_, rfl⟩
      have cc : ∀ j u, (resCells x)[j]? = some u → wr.cell? ⟨b, off + k * 1 + j, none⟩ = some u := fun j u hu => (hb.cell hbl).trans (hcell k hlt j u (by rw [← hx]; exact hu))
      have c0 := cc 0 _ rfl
      have hrx : RowsAt w w.heap.size x := hrows x (by rw [hx]; exact List.getElem_mem _)
      obtain ⟨ax, cx, hvx, -, -, -⟩ := hrx.1
      obtain ⟨vx, rx⟩ := x
      simp only at hvx
      subst hvx
      have HX : Hid ((Value.slice ax rx.length cx, rx) = l[k]'hlt) := hx
      clear cc hx hcell hc
      simp only [Nat.add_zero, Nat.mul_one] at c0
      obtain ⟨W, hW⟩ : ∃ W, W = wr.alloc (.cells #[.slice ax rx.length cx] 46) := ⟨_, rfl⟩
      have bW : Below w.heap.size w W := by rw [hW]; exact hb.alloc hz _
      have kW := checkResult_any W (.slice ax rx.length cx, rx) w.heap.size bW.size (hrx.below bW (Nat.le_refl _))
      have fin : ∀ w1, Below W.heap.size W w1 → Below w.heap.size w w1 := fun w1 h1 => bW.trans (h1.mono bW.size)
      clear bW hrx
      subst hW
      cases hok : resOkP (.slice ax rx.length cx, rx) with
      | true =>
        rw [hok] at kW
        have hall2 : Hid ((l.take (k + 1)).all resOkP = true) := all_take_succ l _ k hlt hall.out (by rw [← HX.out]; exact hok)
        clear hok
        go_wp2_with fail
        refine kW.mono ?_
        rintro e w1 ⟨rfl, h1⟩
        have b1 := fin w1 h1
        clear fin h1 kW
        go_wp2
        go_roundw
        case rel => exact ⟨k + 1, by omega, by go_num, b1, hall2⟩
        case measure => simp [intOf]; omega
      | false =>
        rw [hok] at kW
        have H : Hid (l.all resOkP = false) := all_get_false l _ k hlt (by rw [← HX.out]; exact hok)
        clear hok
        go_wp2_with fail
        refine kW.mono ?_
        rintro e w1 ⟨rfl, h1⟩
        have b1 := fin w1 h1
        clear fin h1 kW
        go_wp2
        go_ret
        exact ⟨by rw [H.out]; rfl, b1⟩
    · have H : Hid (l.all resOkP = true) := by
        have e : l.take k = l := List.take_of_length_le (by omega)
        have h := hall.out
        rw [e] at h
        exact h
      clear hc
      go_wp2
      go_ret
      exact ⟨by rw [H.out]; rfl, hb⟩

set_option maxHeartbeats 2000000 in
set_option maxRecDepth 1000000 in
theorem allFew_any (w : World) (v : Value) (l : List ResP) (h0 : ResAt w w.heap.size v l) :
    Calls Tryd.prog 36 #[v, .func (.func 38) #[] #[]] w fun e w' => e = .returned (.bool (l.all fewP)) ∧ Below w.heap.size w w' := by
  obtain ⟨⟨ao, cap, rfl, hlc, hcm, hc⟩, hrows⟩ := h0
  unfold maxLen at hcm
  go_enter Tryd.func36, Tryd.ntmps36
  go_wp2
  go_loopw [6, 9] (fun _ i wr => ∃ k : Nat, k ≤ l.length ∧ i = .int .i64 k ∧ Below w.heap.size w wr ∧ Hid ((l.take k).all fewP = true)) (fun _ i _ => l.length - (intOf i).toNat)
  case atStart => exact ⟨0, Nat.zero_le _, rfl, Below.refl _ _, rfl⟩
  case round =>
    obtain ⟨k, hk, rfl, hb, hall⟩ := hrel
    by_cases hlt : k < l.length
    · obtain ⟨b, off, rfl, hbl, hcell⟩ := hc (by omega)
      have hz := hb.size
      obtain ⟨x, hx⟩ : ∃ x, x = l[k]'hlt := ⟨_, rfl⟩
      have cc : ∀ j u, (resCells x)[j]? = some u → wr.cell? ⟨b, off + k * 1 + j, none⟩ = some u := fun j u hu => (hb.cell hbl).trans (hcell k hlt j u (by rw [← hx]; exact hu))
      have c0 := cc 0 _ rfl
      have hrx : RowsAt w w.heap.size x := hrows x (by rw [hx]; exact List.getElem_mem _)
      obtain ⟨ax, cx, hvx, -, -, -⟩ := hrx.1
      obtain ⟨vx, rx⟩ := x
      simp only at hvx
      subst hvx
      have HX : Hid ((Value.slice ax rx.length cx, rx) = l[k]'hlt) := hx
      clear cc hx hcell hc
      simp only [Nat.add_zero, Nat.mul_one] at c0
      obtain ⟨W, hW⟩ : ∃ W, W = wr.alloc (.cells #[.slice ax rx.length cx] 46) := ⟨_, rfl⟩
      have bW : Below w.heap.size w W := by rw [hW]; exact hb.alloc hz _
      have kW := fewRows_any W (.slice ax rx.length cx, rx) w.heap.size bW.size (hrx.below bW (Nat.le_refl _))
      have fin : ∀ w1, Below W.heap.size W w1 → Below w.heap.size w w1 := fun w1 h1 => bW.trans (h1.mono bW.size)
      clear bW hrx
      subst hW
      cases hok : fewP (.slice ax rx.length cx, rx) with
      | true =>
        rw [hok] at kW
        have hall2 : Hid ((l.take (k + 1)).all fewP = true) := all_take_succ l _ k hlt hall.out (by rw [← HX.out]; exact hok)
        clear hok
        go_wp2_with fail
        refine kW.mono ?_
        rintro e w1 ⟨rfl, h1⟩
        have b1 := fin w1 h1
        clear fin h1 kW
        go_wp2
        go_roundw
        case rel => exact ⟨k + 1, by omega, by go_num, b1, hall2⟩
        case measure => simp [intOf]; omega
      | false =>
        rw [hok] at kW
        have H : Hid (l.all fewP = false) := all_get_false l _ k hlt (by rw [← HX.out]; exact hok)
        clear hok
        go_wp2_with fail
        refine kW.mono ?_
        rintro e w1 ⟨rfl, h1⟩
        have b1 := fin w1 h1
        clear fin h1 kW
        go_wp2
        go_ret
        exact ⟨by rw [H.out]; rfl, b1⟩
    · have H : Hid (l.all fewP = true) := by
        have e : l.take k = l := List.take_of_length_le (by omega)
        have h := hall.out
        rw [e] at h
        exact h
      clear hc
      go_wp2
      go_ret
      exact ⟨by rw [H.out]; rfl, hb⟩
end Go.Proofs.YtcgecdiaddcfkaaDoor
