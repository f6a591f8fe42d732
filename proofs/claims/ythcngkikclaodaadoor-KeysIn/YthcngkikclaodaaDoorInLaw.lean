/- The walk of KeysIn. -/
import Derived.Test.YthcngkikclaodaaDoorRefIn
import Derived.Test.YthcngkikclaodaaDoorRefMark
import Derived.Test.YthcngkikclaodaaDoorBeyond
import Derived.OpenShut
set_option linter.unusedSimpArgs false
set_option linter.unusedVariables false
namespace Go.Proofs.YthcngkikclaodaaDoor
open Go.RowKit

theorem tab_drewN {w : World} (h : Tab w) (n : Nat) : Tab (w.drewN n) := h
theorem below_drewN {B : Nat} {a w : World} (h : Below B a w) (n : Nat) : Below B a (w.drewN n) := h.trans ⟨rfl, rfl, rfl, Nat.le_refl _, fun _ _ => rfl⟩

/-- What stays while KeysIn asks: its span's two texts, the table, all that was there. -/
abbrev InS (w0 : World) (a b : ByteArray) (W : World) : Prop :=
  W.cell? ⟨w0.heap.size, 0, none⟩ = some (.string a) ∧ W.cell? ⟨w0.heap.size, 1, none⟩ = some (.string b) ∧ w0.heap.size < W.heap.size ∧ Tab W ∧ Below w0.heap.size w0 W
theorem InS.drewN {w0 W : World} {a b : ByteArray} (h : InS w0 a b W) (n : Nat) : InS w0 a b (W.drewN n) := ⟨h.1, h.2.1, h.2.2.1, h.2.2.2.1, below_drewN h.2.2.2.2 n⟩
theorem InS.below {w0 W W' : World} {a b : ByteArray} (h : InS w0 a b W) (hb : Below W.heap.size W W') : InS w0 a b W' :=
  ⟨by rw [hb.cell (p := ⟨w0.heap.size, 0, none⟩) h.2.2.1]; exact h.1, by rw [hb.cell (p := ⟨w0.heap.size, 1, none⟩) h.2.2.1]; exact h.2.1, Nat.lt_of_lt_of_le h.2.2.1 hb.size, tab_below h.2.2.2.1 hb, h.2.2.2.2.trans (hb.mono h.2.2.2.2.size)⟩

theorem kIn {w0 W : World} {k a b : ByteArray} {R : Bool} (hR : inB k a b = R) (h : InS w0 a b W) :
    Calls Tryd.prog 9 #[.string k, .string a, .string b] W fun e w' => e = .returned (.bool R) ∧ InS w0 a b w' := by
  refine (in_any k a b W).mono ?_
  rintro e w' ⟨rfl, rfl⟩
  exact ⟨by rw [hR], h⟩
theorem kRef {w0 W : World} {k a b : ByteArray} {R : Bool} (hR : inB k a b = R) (h : InS w0 a b W) (hk : k.size ≤ 140737488351232) (ha : a.size ≤ 140737488351232) (hb : b.size ≤ 140737488351232) :
    Calls Tryd.prog 10 #[.string k, .string a, .string b] W fun e w' => e = .returned (.bool R) ∧ InS w0 a b w' := by
  refine (refIn_any k a b W hk ha hb).mono ?_
  rintro e w' ⟨rfl, n, rfl⟩
  exact ⟨by rw [hR], h.drewN n⟩
theorem kMark {w0 W : World} {a b : ByteArray} {g : Nat} (hg : g < 4294967296) (h : InS w0 a b W) :
    Calls Tryd.prog 11 #[.int .u32 g] W fun e w' => e = .returned (.string (mark g)) ∧ InS w0 a b w' := by
  refine (marker_any g W hg h.2.2.2.1).mono ?_
  rintro e w' ⟨rfl, hb⟩
  exact ⟨rfl, h.below hb⟩
theorem kRefMark {w0 W : World} {a b : ByteArray} {g : Nat} (hg : g < 4294967296) (h : InS w0 a b W) :
    Calls Tryd.prog 12 #[.int .u32 g] W fun e w' => e = .returned (.string (mark g)) ∧ InS w0 a b w' := by
  refine (refMarker_any g W hg).mono ?_
  rintro e w' ⟨rfl, n, rfl⟩
  exact ⟨rfl, h.drewN n⟩

set_option maxHeartbeats 8000000 in
set_option maxRecDepth 1000000 in
theorem in_nat (k a b : ByteArray) (g : Nat) (w : World) (hk : k.size ≤ 140737488351232) (ha : a.size ≤ 140737488351232) (hb : b.size ≤ 140737488351232) (hg : g < 4294967296) (htab : Tab w) :
    Calls Tryd.prog 3 #[.string k, .agg #[.string a, .string b], .int .u32 g] w fun e w' => e = .returned (.bool true) ∧ Below w.heap.size w w' := by
  have B0 : Below w.heap.size w (w.alloc (.cells #[.string a, .string b] 22)) := (Below.refl _ _).alloc (Nat.le_refl _) _
  by_cases hn : 1048576 < (k.size : Int) + a.size + b.size
  · have kb := beyond_yes ((k.size : Int) + a.size + b.size) (w.alloc (.cells #[.string a, .string b] 22)) hn (by omega)
    rw [show (w.alloc (.cells #[.string a, .string b] 22)).heap.size = w.heap.size + 1 by simp] at kb
    go_enter Tryd.func3, Tryd.ntmps3
    go_wp2_with fail
    refine kb.mono ?_
    rintro e w3 ⟨rfl, rfl⟩
    go_wp2
    go_ret
    exact ⟨rfl, B0.alloc B0.size _⟩
  · have kb := beyond_no ((k.size : Int) + a.size + b.size) (w.alloc (.cells #[.string a, .string b] 22)) (by omega) hn
    rw [show (w.alloc (.cells #[.string a, .string b] 22)).heap.size = w.heap.size + 1 by simp] at kb
    have hS : InS w a b ((w.alloc (.cells #[.string a, .string b] 22)).alloc (.cells #[.int .i64 ((k.size : Int) + a.size + b.size)] 3)) :=
      ⟨by go_simp, by go_simp, by simp; omega, tab_below htab (B0.alloc B0.size _), B0.alloc B0.size _⟩
    obtain ⟨R, hR⟩ : ∃ R, inB k a b = R := ⟨_, rfl⟩
    have k1 := fun W (h : InS w a b W) => kIn (w0 := w) (k := k) hR h
    have k2 := fun W (h : InS w a b W) => kRef (w0 := w) (k := k) hR h hk ha hb
    have k3 := fun W (h : InS w a b W) => kMark (w0 := w) (a := a) (b := b) hg h
    have k4 := fun W (h : InS w a b W) => kRefMark (w0 := w) (a := a) (b := b) hg h
    generalize mark g = M at *
    have HS : Hid _ := hS
    clear hR hS
    cases R
    all_goals
      go_enter Tryd.func3, Tryd.ntmps3
      go_wp2_with fail
      refine kb.mono ?_
      rintro e w3 ⟨rfl, rfl⟩
      have hS := HS.out
      clear HS kb B0 htab
      generalize ((w.alloc (.cells #[.string a, .string b] 22)).alloc (.cells #[.int .i64 ((k.size : Int) + a.size + b.size)] 3)) = w4 at *
      go_wp2_with fail
      go_region_held3 (fun W => W.cell? ⟨w.heap.size, 0, none⟩ = some (.string a) ∧ W.cell? ⟨w.heap.size, 1, none⟩ = some (.string b) ∧ w.heap.size < W.heap.size ∧ Tab W ∧ Below w.heap.size w W) (first | assumption | exact InS.drewN (by assumption) 1)
        (first
        | (go_at_call 9; refine (k1 _ (by assumption)).mono ?_; rintro e w' ⟨rfl, hb⟩)
        | (go_at_call 10; refine (k2 _ (by assumption)).mono ?_; rintro e w' ⟨rfl, hb⟩)
        | (go_at_call 11; refine (k3 _ (by assumption)).mono ?_; rintro e w' ⟨rfl, hb⟩)
        | (go_at_call 12; refine (k4 _ (by assumption)).mono ?_; rintro e w' ⟨rfl, hb⟩))
      all_goals
        rename_i hlast
        go_wp2
        go_ret
        exact ⟨rfl, hlast.2.2.2.2⟩

theorem in_walk (k a b : ByteArray) (g : Int) (w : World) (hk : k.size ≤ 140737488351232) (ha : a.size ≤ 140737488351232) (hb : b.size ≤ 140737488351232) (wg : (Lit.int .u32 g).wf = true) (htab : Tab w) :
    Calls Tryd.prog 3 #[.string k, .agg #[.string a, .string b], .int .u32 g] w fun e w' => e = .returned (.bool true) ∧ Below w.heap.size w w' := by
  have h := bounds_u32 wg
  obtain ⟨n, rfl⟩ : ∃ n : Nat, g = n := ⟨g.toNat, by omega⟩
  exact in_nat k a b n w hk ha hb (by omega) htab
end Go.Proofs.YthcngkikclaodaaDoor
