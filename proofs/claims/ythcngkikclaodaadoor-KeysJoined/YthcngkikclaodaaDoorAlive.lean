/- The walks of keys.Marker and of alive: the answers that the document fixes are given. -/
import Derived.Test.YthcngkikclaodaaDoorCheck
import Derived.Test.YthcngkikclaodaaDoorFmt
import Derived.Test.YthcngkikclaodaaDoorIn
set_option linter.unusedSimpArgs false
set_option linter.unusedVariables false
namespace Go.Proofs.YthcngkikclaodaaDoor
open Go.RowKit

theorem tab_below {w w' : World} (h : Tab w) (hb : Below w.heap.size w w') : Tab w' := by
  unfold Tab Lib.TabIs World.var? at *
  cases hg : Tryd.prog.globalNamed "internal/strconv.uint64pow10" with
  | none => simp [hg] at h
  | some g =>
    simp only [hg, Option.bind_some] at h ⊢
    have hlt : g < w.heap.size := by
      rcases Nat.lt_or_ge g w.heap.size with h' | h'
      · exact h'
      · rw [Array.getElem?_eq_none h'] at h; simp at h
    rw [hb.block g hlt]
    exact h

/-- A number's marker. -/
def mark (g : Nat) : ByteArray := ⟨#[95, 109]⟩ ++ ⟨(Lib.decDigits g).toArray⟩

theorem nDigits_small {g : Nat} (h : g < 4294967296) : Lib.nDigits g ≤ 20 := by
  rcases Nat.eq_zero_or_pos g with rfl | h1
  · rw [← Lib.decDigits_length, Lib.decDigits_one (by omega)]; simp
  · have := Lib.numDigits_eq g h1 (by omega); split at this <;> omega

set_option maxHeartbeats 1000000 in
set_option maxRecDepth 1000000 in
theorem marker_any (g : Nat) (w : World) (hg : g < 4294967296) (htab : Tab w) :
    Calls Tryd.prog 11 #[.int .u32 g] w fun e w' => e = .returned (.string (mark g)) ∧ Below w.heap.size w w' := by
  have k := fmt_any g w (by omega) htab
  have hl : (ByteArray.mk (Lib.decDigits g).toArray).size ≤ 20 := by
    show (Lib.decDigits g).toArray.size ≤ 20
    rw [List.size_toArray, Lib.decDigits_length]; exact nDigits_small hg
  unfold mark
  generalize hS : ByteArray.mk (Lib.decDigits g).toArray = S at *
  clear hS
  go_enter Tryd.func11, Tryd.ntmps11
  go_wp2_with fail
  refine k.mono ?_
  rintro e w' ⟨rfl, hb⟩
  go_wp2
  go_ret
  exact ⟨rfl, hb⟩

theorem mark_0 : (mark 0).toList = [95, 109, 48] := by
  unfold mark
  rw [Lib.decDigits_one (by omega), ByteArray.toList_eq]
  rfl
theorem dec_step {u : Nat} (h : ¬ u < 10) : Lib.decDigits u = Lib.decDigits (u / 10) ++ [UInt8.ofNat (48 + u % 10)] := by
  rw [Lib.decDigits, dif_neg h]
theorem dec_max : Lib.decDigits 4294967295 = [52, 50, 57, 52, 57, 54, 55, 50, 57, 53] := by
  rw [dec_step (by omega), dec_step (by omega), dec_step (by omega), dec_step (by omega), dec_step (by omega), dec_step (by omega), dec_step (by omega), dec_step (by omega), dec_step (by omega), Lib.decDigits_one (by omega)]
  rfl
theorem mark_max : (mark 4294967295).toList = [95, 109, 52, 50, 57, 52, 57, 54, 55, 50, 57, 53] := by
  unfold mark
  rw [dec_max, ByteArray.toList_eq]
  rfl
/-! alive -/
theorem al0 (w : World) : Calls Tryd.prog 14 #[.string ⟨#[97, 95, 49]⟩] w fun e w' => e = .returned (.bool true) ∧ Below w.heap.size w w' := by
  have k := check_any ⟨#[97, 95, 49]⟩ w (by decide)
  rwa [show chk ⟨#[97, 95, 49]⟩ = true by decide] at k
theorem al1 (w : World) : Calls Tryd.prog 14 #[.string ⟨#[]⟩] w fun e w' => e = .returned (.bool false) ∧ Below w.heap.size w w' := by
  have k := check_any ⟨#[]⟩ w (by decide)
  rwa [show chk ⟨#[]⟩ = false by decide] at k
theorem al2 (w : World) : Calls Tryd.prog 14 #[.string ⟨#[65]⟩] w fun e w' => e = .returned (.bool false) ∧ Below w.heap.size w w' := by
  have k := check_any ⟨#[65]⟩ w (by decide)
  rwa [show chk ⟨#[65]⟩ = false by decide] at k
theorem al3 (w : World) : Calls Tryd.prog 14 #[.string ⟨#[97, 97, 97, 97, 97, 97, 97, 97, 97, 97, 97, 97, 97, 97, 97, 97, 97]⟩] w fun e w' => e = .returned (.bool false) ∧ Below w.heap.size w w' := by
  have k := check_any ⟨#[97, 97, 97, 97, 97, 97, 97, 97, 97, 97, 97, 97, 97, 97, 97, 97, 97]⟩ w (by decide)
  rwa [show chk ⟨#[97, 97, 97, 97, 97, 97, 97, 97, 97, 97, 97, 97, 97, 97, 97, 97, 97]⟩ = false by decide] at k
theorem al4 (w : World) : Calls Tryd.prog 14 #[.string ⟨#[97, 97, 97, 97, 97, 97, 97, 97, 97, 97, 97, 97, 97, 97, 97, 97]⟩] w fun e w' => e = .returned (.bool true) ∧ Below w.heap.size w w' := by
  have k := check_any ⟨#[97, 97, 97, 97, 97, 97, 97, 97, 97, 97, 97, 97, 97, 97, 97, 97]⟩ w (by decide)
  rwa [show chk ⟨#[97, 97, 97, 97, 97, 97, 97, 97, 97, 97, 97, 97, 97, 97, 97, 97]⟩ = true by decide] at k
theorem al5 (w : World) : Calls Tryd.prog 15 #[.string ⟨#[95, 97]⟩] w fun e w' => e = .returned (.bool true) ∧ Below w.heap.size w w' := by
  have k := reserved_any ⟨#[95, 97]⟩ w (by decide)
  rwa [show rsv ⟨#[95, 97]⟩ = true by decide] at k
theorem al6 (w : World) : Calls Tryd.prog 15 #[.string ⟨#[97, 95]⟩] w fun e w' => e = .returned (.bool false) ∧ Below w.heap.size w w' := by
  have k := reserved_any ⟨#[97, 95]⟩ w (by decide)
  rwa [show rsv ⟨#[97, 95]⟩ = false by decide] at k
theorem al7 (w : World) : Calls Tryd.prog 15 #[.string ⟨#[95, 65]⟩] w fun e w' => e = .returned (.bool false) ∧ Below w.heap.size w w' := by
  have k := reserved_any ⟨#[95, 65]⟩ w (by decide)
  rwa [show rsv ⟨#[95, 65]⟩ = false by decide] at k
theorem al8 (w : World) : Calls Tryd.prog 9 #[.string ⟨#[98]⟩, .string ⟨#[97]⟩, .string ⟨#[99]⟩] w fun e w' => e = .returned (.bool true) ∧ w' = w := by
  have k := in_any ⟨#[98]⟩ ⟨#[97]⟩ ⟨#[99]⟩ w
  rwa [show inB ⟨#[98]⟩ ⟨#[97]⟩ ⟨#[99]⟩ = true by unfold inB leB; simp only [ByteArray.toList_eq]; decide] at k
theorem al9 (w : World) : Calls Tryd.prog 9 #[.string ⟨#[97, 98]⟩, .string ⟨#[97]⟩, .string ⟨#[98]⟩] w fun e w' => e = .returned (.bool true) ∧ w' = w := by
  have k := in_any ⟨#[97, 98]⟩ ⟨#[97]⟩ ⟨#[98]⟩ w
  rwa [show inB ⟨#[97, 98]⟩ ⟨#[97]⟩ ⟨#[98]⟩ = true by unfold inB leB; simp only [ByteArray.toList_eq]; decide] at k
theorem al10 (w : World) : Calls Tryd.prog 9 #[.string ⟨#[99]⟩, .string ⟨#[97]⟩, .string ⟨#[98]⟩] w fun e w' => e = .returned (.bool false) ∧ w' = w := by
  have k := in_any ⟨#[99]⟩ ⟨#[97]⟩ ⟨#[98]⟩ w
  rwa [show inB ⟨#[99]⟩ ⟨#[97]⟩ ⟨#[98]⟩ = false by unfold inB leB; simp only [ByteArray.toList_eq]; decide] at k
theorem al11 (w : World) : Calls Tryd.prog 9 #[.string ⟨#[98]⟩, .string ⟨#[99]⟩, .string ⟨#[97]⟩] w fun e w' => e = .returned (.bool false) ∧ w' = w := by
  have k := in_any ⟨#[98]⟩ ⟨#[99]⟩ ⟨#[97]⟩ w
  rwa [show inB ⟨#[98]⟩ ⟨#[99]⟩ ⟨#[97]⟩ = false by unfold inB leB; simp only [ByteArray.toList_eq]; decide] at k

set_option maxHeartbeats 4000000 in
set_option maxRecDepth 1000000 in
theorem alive_any (w : World) (htab : Tab w) : Calls Tryd.prog 13 #[] w fun e w' => e = .returned (.bool true) ∧ Below w.heap.size w w' := by
  have B := Below.refl w.heap.size w
  have m0 := mark_0
  have mm := mark_max
  go_enter Tryd.func13, Tryd.ntmps13
  go_wp2_with fail
  refine (al0 _).mono ?_
  rintro e w' ⟨rfl, hb⟩
  replace B := B.trans (hb.mono B.size)
  clear hb
  go_wp2_with fail
  refine (al1 _).mono ?_
  rintro e w' ⟨rfl, hb⟩
  replace B := B.trans (hb.mono B.size)
  clear hb
  go_wp2_with fail
  refine (al2 _).mono ?_
  rintro e w' ⟨rfl, hb⟩
  replace B := B.trans (hb.mono B.size)
  clear hb
  go_wp2_with fail
  refine (al3 _).mono ?_
  rintro e w' ⟨rfl, hb⟩
  replace B := B.trans (hb.mono B.size)
  clear hb
  go_wp2_with fail
  refine (al4 _).mono ?_
  rintro e w' ⟨rfl, hb⟩
  replace B := B.trans (hb.mono B.size)
  clear hb
  go_wp2_with fail
  refine (al5 _).mono ?_
  rintro e w' ⟨rfl, hb⟩
  replace B := B.trans (hb.mono B.size)
  clear hb
  go_wp2_with fail
  refine (al6 _).mono ?_
  rintro e w' ⟨rfl, hb⟩
  replace B := B.trans (hb.mono B.size)
  clear hb
  go_wp2_with fail
  refine (al7 _).mono ?_
  rintro e w' ⟨rfl, hb⟩
  replace B := B.trans (hb.mono B.size)
  clear hb
  go_wp2_with fail
  refine (al8 _).mono ?_
  rintro e w' ⟨rfl, rfl⟩
  go_wp2_with fail
  refine (al9 _).mono ?_
  rintro e w' ⟨rfl, rfl⟩
  go_wp2_with fail
  refine (al10 _).mono ?_
  rintro e w' ⟨rfl, rfl⟩
  go_wp2_with fail
  refine (al11 _).mono ?_
  rintro e w' ⟨rfl, rfl⟩
  go_wp2_with fail
  refine (marker_any 0 _ (by decide) (tab_below htab B)).mono ?_
  rintro e w' ⟨rfl, hb⟩
  replace B := B.trans (hb.mono B.size)
  clear hb
  go_wp2_with fail
  refine (marker_any 4294967295 _ (by decide) (tab_below htab B)).mono ?_
  rintro e w' ⟨rfl, hb⟩
  replace B := B.trans (hb.mono B.size)
  clear hb
  go_wp2
  go_ret
  exact ⟨rfl, B⟩
end Go.Proofs.YthcngkikclaodaaDoor
