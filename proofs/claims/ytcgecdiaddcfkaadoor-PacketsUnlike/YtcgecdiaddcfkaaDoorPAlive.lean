/- The walk of alive: the answers that the document fixes are given. -/
import Derived.Test.YtcgecdiaddcfkaaDoorPSame
import Derived.Test.YtcgecdiaddcfkaaDoorPText
import Derived.Lib.SlBytesConst
set_option linter.unusedSimpArgs false
set_option linter.unusedVariables false
namespace Go.Proofs.YtcgecdiaddcfkaaDoor
open Go.RowKit

def mA : MsgD := ⟨2, 2, 0, 5, [], [[]]⟩
def bA : List UInt8 := [2, 2, 0, 0, 0, 0, 5, 0, 0, 0, 2, 0, 0, 0, 1, 0, 0]
def mB : MsgD := ⟨1, 4, 0, 0, [], []⟩
def opC : List OpD := [⟨1, ⟨#[65]⟩, ⟨#[]⟩, 0⟩]
def mC : MsgD := ⟨1, 0, 0, 0, opC, []⟩
theorem encA : encM mA = bA := by decide
theorem putA : putM mA = (bA, 0) := by decide
theorem getA : getM bA = (mA, 0) := by
  have := getM_put (m := mA) (by decide) (by decide)
  rwa [encA] at this
theorem putZ : putM zeroM = ([], 1) := by decide
theorem putB : putM mB = ([], 1) := by decide
theorem putC : putM mC = ([], 1) := by decide
theorem getZ : getM [] = (zeroM, 4) := by unfold getM; rw [if_pos (by simp)]
theorem at_nil (w : World) (lim : Nat) (m : MsgD) (h1 : m.ops = []) (h2 : m.res = []) : MsgAt w lim (.slice none 0 0) (.slice none 0 0) m [] :=
  ⟨by rw [h1]; exact ⟨none, 0, rfl, Nat.le_refl _, by unfold maxLen; omega, fun h => by simp at h⟩, by rw [h1]; simp, ⟨⟨none, 0, rfl, Nat.le_refl _, by unfold maxLen; omega, fun h => by simp at h⟩, fun p hp => by cases hp⟩, by rw [h2]; rfl⟩
theorem at_A (w : World) : MsgAt (w.alloc (.cells #[.slice none 0 0] 46)) (w.heap.size + 1) (.slice none 0 0) (.slice (some ⟨w.heap.size, 0, none⟩) 1 1) mA [(.slice none 0 0, [])] := by
  have o2 : (w.alloc (.cells #[.slice none 0 0] 46)).ownsRow w.heap.size 46 1 (.slice (some ⟨w.heap.size, 0, none⟩) 1 1) 1 (([(.slice none 0 0, [])] : List ResP).flatMap resCells) := lit_own w 46 1 resCells_len ([(.slice none 0 0, [])] : List ResP) (by show 1 ≤ maxLen; decide) rfl
  have s2 := sl_own resCells_len o2
  refine ⟨⟨none, 0, rfl, Nat.le_refl _, by unfold maxLen; omega, fun h => by simp [mA] at h⟩, (by simp [mA]), ⟨s2.mono (by simp), fun p hp => ?_⟩, rfl⟩
  rw [List.mem_singleton] at hp
  subst hp
  exact ⟨⟨none, 0, rfl, Nat.le_refl _, by unfold maxLen; omega, fun h => by simp at h⟩, fun x hx => by cases hx⟩
theorem at_C (w : World) : MsgAt (w.alloc (.cells #[.int .u8 1, .string ⟨#[65]⟩, .string ⟨#[]⟩, .int .u32 0] 49)) (w.heap.size + 1) (.slice (some ⟨w.heap.size, 0, none⟩) 1 1) (.slice none 0 0) mC [] := by
  have o : (w.alloc (.cells #[.int .u8 1, .string ⟨#[65]⟩, .string ⟨#[]⟩, .int .u32 0] 49)).ownsRow w.heap.size 49 4 (.slice (some ⟨w.heap.size, 0, none⟩) 1 1) 1 (opC.flatMap opCells) := lit_own w 49 4 opCells_len opC (by decide) rfl
  refine ⟨(sl_own opCells_len o).mono (by simp), ?_, ⟨⟨none, 0, rfl, Nat.le_refl _, by unfold maxLen; omega, fun h => by simp at h⟩, fun p hp => by cases hp⟩, rfl⟩
  intro x hx
  simp only [mC, opC, List.mem_singleton] at hx
  subst hx
  exact ⟨by show 1 ≤ maxLen; decide, by show 0 ≤ maxLen; decide⟩
theorem strEqP (a : List UInt8) (b : Array UInt8) (h : a = b.toList) : ((⟨a.toArray⟩ : ByteArray).toList == (⟨b⟩ : ByteArray).toList) = true := by
  rw [ByteArray.toList_eq, ByteArray.toList_eq]; subst h; simp
theorem lineA : lineN 2 2 0 5 3 = ⟨#[50, 32, 50, 32, 48, 32, 53]⟩ := by
  unfold lineN numB spB
  rw [Lib.decDigits_one (by omega), Lib.decDigits_one (by omega), Lib.decDigits_one (by omega)]
  apply ByteArray.ext
  simp only [ByteArray.data_append]
  decide
theorem lineZ : lineN 0 0 0 0 3 = ⟨#[48, 32, 48, 32, 48, 32, 48]⟩ := by
  unfold lineN numB spB
  rw [Lib.decDigits_one (by omega)]
  apply ByteArray.ext
  simp only [ByteArray.data_append]
  decide
theorem pA {w : World} {vo vr : Value} {l : List ResP} (h : MsgAt w w.heap.size vo vr mA l) : Calls Tryd.prog 9 #[.agg #[.int .u8 2, .int .u8 2, .int .u8 0, .int .u32 5, vo, vr]] w fun e w' => ∃ a c, e = .returned (.tuple #[.slice a 17 c, .int .i64 0]) ∧ BsAt w' w.heap.size (.slice a 17 c) bA ∧ Below w.heap.size w w' := by
  have k := h.put
  rw [putA] at k
  exact k
theorem pB {w : World} {vo vr : Value} {l : List ResP} {m : MsgD} (h : MsgAt w w.heap.size vo vr m l) (hp : putM m = ([], 1)) : Calls Tryd.prog 9 #[msgV m vo vr] w fun e w' => ∃ a c, e = .returned (.tuple #[.slice a 0 c, .int .i64 1]) ∧ Below w.heap.size w w' := by
  have k := h.put
  rw [hp] at k
  refine k.mono ?_
  rintro e w' ⟨a, c, rfl, -, b⟩
  exact ⟨a, c, rfl, b⟩
theorem gA {w : World} {v : Value} (h : InAt w w.heap.size v bA) : Calls Tryd.prog 10 #[v] w fun e w' => ∃ oa oc ra rn rc, e = .returned (.tuple #[.agg #[.int .u8 2, .int .u8 2, .int .u8 0, .int .u32 5, .slice oa 0 oc, .slice ra rn rc], .int .i64 0]) ∧ (∃ l, MsgAt w' w'.heap.size (.slice oa 0 oc) (.slice ra rn rc) mA l) ∧ Below w.heap.size w w' := by
  have k := Get_any w v bA h
  rw [getA] at k
  refine k.mono ?_
  rintro e w' ⟨oa, on, oc, ra, rn, rc, rfl, hm, b⟩
  obtain ⟨a', c', e'⟩ := own_len hm.1
  cases e'
  exact ⟨_, _, _, _, _, rfl, hm.at (by decide), b⟩
theorem gZ (w : World) : Calls Tryd.prog 10 #[.slice none 0 0] w fun e w' => ∃ oa on oc ra rn rc, e = .returned (.tuple #[.agg #[.int .u8 0, .int .u8 0, .int .u8 0, .int .u32 0, .slice oa on oc, .slice ra rn rc], .int .i64 4]) ∧ Below w.heap.size w w' := by
  have k := Get_any w _ [] (InAt_nil w w.heap.size)
  rw [getZ] at k
  refine k.mono ?_
  rintro e w' ⟨oa, on, oc, ra, rn, rc, rfl, hm, b⟩
  exact ⟨_, _, _, _, _, _, rfl, b⟩

set_option maxHeartbeats 4000000 in
set_option maxRecDepth 1000000 in
theorem alive_any (w : World) (htab : Tab w) : Calls Tryd.prog 7 #[] w fun e w' => e = .returned (.bool true) ∧ Below w.heap.size w w' := by
  have M1 := at_A w
  have B1 := below_one w (.cells #[.slice none 0 0] 46)
  obtain ⟨W1, hW1⟩ : ∃ W1, W1 = (w.alloc (.cells #[.slice none 0 0] 46)).alloc (.cells #[.int .u8 2, .int .u8 2, .int .u8 0, .int .u32 5, .slice none 0 0, .slice (some ⟨w.heap.size, 0, none⟩) 1 1] 27) := ⟨_, rfl⟩
  have B2 : Below w.heap.size w W1 := by rw [hW1]; exact B1.alloc B1.size _
  have M2 : MsgAt W1 W1.heap.size (.slice none 0 0) (.slice (some ⟨w.heap.size, 0, none⟩) 1 1) mA [(.slice none 0 0, [])] := by
    have b := below_one (w.alloc (.cells #[.slice none 0 0] 46)) (.cells #[.int .u8 2, .int .u8 2, .int .u8 0, .int .u32 5, .slice none 0 0, .slice (some ⟨w.heap.size, 0, none⟩) 1 1] 27)
    rw [hW1]
    exact (M1.mono (by simp)).up b
  have P1 : W1.heap[w.heap.size + 1]? = some (.cells #[.int .u8 2, .int .u8 2, .int .u8 0, .int .u32 5, .slice none 0 0, .slice (some ⟨w.heap.size, 0, none⟩) 1 1] 27 (0, 0)) := by
    rw [hW1]
    have := heap_alloc_new (w.alloc (.cells #[.slice none 0 0] 46)) (.cells #[.int .u8 2, .int .u8 2, .int .u8 0, .int .u32 5, .slice none 0 0, .slice (some ⟨w.heap.size, 0, none⟩) 1 1] 27)
    simpa using this
  have z1 : w.heap.size + 1 < W1.heap.size := by rw [hW1]; simp
  clear B1 M1
  go_enter Tryd.func7, Tryd.ntmps7
  obtain ⟨m0, m1, m2, m3, m4, m5⟩ := six_cells P1
  rw [hW1] at m0 m1 m2 m3 m4 m5
  go_wp2_with fail
  rw [← hW1]
  clear m0 m1 m2 m3 m4 m5 hW1
  refine (pA M2).mono ?_
  rintro e w2 ⟨a2, c2, rfl, o2, b2⟩
  have B3 := B2.trans (b2.mono B2.size)
  have M3 := M2.up b2
  have P2 := (b2.block _ z1).trans P1
  have z2 := Nat.lt_of_lt_of_le z1 b2.size
  clear B2 b2 M2 P1 z1
  go_wp2_with fail
  refine (gA (in_own o2)).mono ?_
  rintro e w3 ⟨oa, oc, ra, rn, rc, rfl, ⟨l3, N3⟩, b3⟩
  have B4 := B3.trans (b3.mono B3.size)
  have M4 := M3.up b3
  have P3 := (b3.block _ z2).trans P2
  have z3 := Nat.lt_of_lt_of_le z2 b3.size
  have o3 := o2.below b3
  clear B3 b3 M3 P2 z2 o2
  have ba := below_one w3 (.cells #[.int .u8 2, .int .u8 2, .int .u8 0, .int .u32 5, .slice oa 0 oc, .slice ra rn rc] 27)
  have Q4 := heap_alloc_new w3 (.cells #[.int .u8 2, .int .u8 2, .int .u8 0, .int .u32 5, .slice oa 0 oc, .slice ra rn rc] 27)
  have y4 : w3.heap.size < (w3.alloc (.cells #[.int .u8 2, .int .u8 2, .int .u8 0, .int .u32 5, .slice oa 0 oc, .slice ra rn rc] 27)).heap.size := by simp
  have B5 := B4.trans (ba.mono B4.size)
  have M5 := M4.up ba
  have N5 := N3.up ba
  have P5 := (ba.block _ z3).trans P3
  have z5 := Nat.lt_of_lt_of_le z3 ba.size
  have o5 := o3.below ba
  clear B4 M4 N3 P3 z3 o3 ba
  go_wp2_with fail
  generalize w3.alloc (.cells #[.int .u8 2, .int .u8 2, .int .u8 0, .int .u32 5, .slice oa 0 oc, .slice ra rn rc] 27) = w5 at *
  generalize w3.heap.size = X at *
  refine (pB (at_nil w5 w5.heap.size zeroM rfl rfl) putZ).mono ?_
  rintro e w6 ⟨a6, c6, rfl, b6⟩
  have B6 := B5.trans (b6.mono B5.size)
  have M6 := M5.up b6
  have N6 := N5.up b6
  have P6 := (b6.block _ z5).trans P5
  have z6 := Nat.lt_of_lt_of_le z5 b6.size
  have Q6 := (b6.block _ y4).trans Q4
  have y6 := Nat.lt_of_lt_of_le y4 b6.size
  have o6 := o5.below b6
  clear B5 M5 N5 P5 z5 o5 b6 Q4 y4
  go_wp2_with fail
  refine (pB (at_nil w6 w6.heap.size mB rfl rfl) putB).mono ?_
  rintro e w7 ⟨a7, c7, rfl, b7⟩
  have B7 := B6.trans (b7.mono B6.size)
  have M7 := M6.up b7
  have N7 := N6.up b7
  have P7 := (b7.block _ z6).trans P6
  have z7 := Nat.lt_of_lt_of_le z6 b7.size
  have Q7 := (b7.block _ y6).trans Q6
  have y7 := Nat.lt_of_lt_of_le y6 b7.size
  have o7 := o6.below b7
  clear B6 M6 N6 P6 z6 o6 b7 Q6 y6
  go_wp2_with fail
  refine (pB ((at_C w7).mono (by simp)) putC).mono ?_
  rintro e w8 ⟨a8, c8, rfl, b8⟩
  replace b8 := (below_one w7 _).trans (b8.mono (below_one w7 _).size)
  have B8 := B7.trans (b8.mono B7.size)
  have M8 := M7.up b8
  have N8 := N7.up b8
  have P8 := (b8.block _ z7).trans P7
  have z8 := Nat.lt_of_lt_of_le z7 b8.size
  have Q8 := (b8.block _ y7).trans Q7
  have y8 := Nat.lt_of_lt_of_le y7 b8.size
  have o8 := o7.below b8
  clear B7 M7 N7 P7 z7 o7 b8 Q7 y7
  go_wp2_with fail
  refine (gZ w8).mono ?_
  rintro e w9 ⟨pa, pn, pc, qa, qn, qc, rfl, b9⟩
  replace b9 := b9.alloc b9.size (.cells #[.int .u8 0, .int .u8 0, .int .u8 0, .int .u32 0, .slice pa pn pc, .slice qa qn qc] 27)
  have B9 := B8.trans (b9.mono B8.size)
  have M9 := M8.up b9
  have N9 := N8.up b9
  have P9 := (b9.block _ z8).trans P8
  have z9 := Nat.lt_of_lt_of_le z8 b9.size
  have Q9 := (b9.block _ y8).trans Q8
  have y9 := Nat.lt_of_lt_of_le y8 b9.size
  have o9 := o8.below b9
  have T9 := tab_below htab B9
  clear B8 M8 N8 P8 z8 o8 b9 Q8 y8
  have cv1 := conv_in (in_own o9)
  have e1 := strEqP bA #[2, 2, 0, 0, 0, 0, 5, 0, 0, 0, 2, 0, 0, 0, 1, 0, 0] rfl
  obtain ⟨m0, m1, m2, m3, m4, m5⟩ := six_cells P9
  obtain ⟨n0, n1, n2, n3, n4, n5⟩ := six_cells Q9
  go_wp2_with fail
  generalize w9.alloc (.cells #[.int .u8 0, .int .u8 0, .int .u8 0, .int .u32 0, .slice pa pn pc, .slice qa qn qc] 27) = wa at *
  refine (sameMsg_any wa _ _ _ _ mA _ _ N9 M9).mono ?_
  rintro e wb ⟨rfl, bb⟩
  have Bb := B9.trans (bb.mono B9.size)
  have Tb := tab_below T9 bb
  have Pb := (bb.block _ z9).trans P9
  clear M9 N9 z9 Q9 y9 o9 cv1 e1 bb B9 T9 m0 m1 m2 m3 m4 m5 n0 n1 n2 n3 n4 n5 P9
  obtain ⟨m0, m1, m2, m3, m4, m5⟩ := six_cells Pb
  have kt := Text_any wb 2 2 0 5 (by omega) (by omega) (by omega) (by omega) none (some ⟨w.heap.size, 0, none⟩) 0 0 1 1 Tb
  rw [lineA] at kt
  go_wp2_with fail
  refine kt.mono ?_
  rintro e wc ⟨rfl, bc⟩
  have Bc := Bb.trans (bc.mono Bb.size)
  have Tc := tab_below Tb bc
  clear kt bc Bb Tb Pb m0 m1 m2 m3 m4 m5
  have kt := Text_any wc 0 0 0 0 (by omega) (by omega) (by omega) (by omega) none none 0 0 0 0 Tc
  rw [lineZ] at kt
  go_wp2_with fail
  refine kt.mono ?_
  rintro e wd ⟨rfl, bd⟩
  have Bd := Bc.trans (bd.mono Bc.size)
  clear kt bd Bc Tc
  go_wp2
  go_ret
  exact ⟨rfl, Bd⟩
end Go.Proofs.YtcgecdiaddcfkaaDoor
