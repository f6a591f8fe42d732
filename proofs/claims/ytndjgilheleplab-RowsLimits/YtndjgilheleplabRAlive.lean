/- The walk of alive: the answers that the document fixes are given. -/
import Derived.Test.YtndjgilheleplabRLaw
import Derived.Lib.SlBytesConst
set_option linter.unusedSimpArgs false
set_option linter.unusedVariables false
namespace Go.Proofs.Ytndjgilheleplab
open Go.RowKit

/-! alive -/
def opA : List OpD := [⟨2, ⟨#[97]⟩, ⟨#[]⟩, 5⟩, ⟨4, ⟨#[97]⟩, ⟨#[98]⟩, 0⟩]
theorem sm_lit {s : ByteArray} (h : s.size ≤ 1) : s.size ≤ maxLen := by unfold maxLen; omega

theorem al0 (w : World) : Calls Try.prog 15 #[.slice (some ⟨w.heap.size, 0, none⟩) 2 2] (w.alloc (.cells #[.int .u8 2, .string ⟨#[97]⟩, .string ⟨#[]⟩, .int .u32 5, .int .u8 4, .string ⟨#[97]⟩, .string ⟨#[98]⟩, .int .u32 0] 40)) fun e w' =>
    ∃ v, e = .returned (.tuple #[v, .int .i64 0]) ∧ BsAt w' w.heap.size v [0, 2, 2, 1, 97, 0, 0, 0, 0, 5, 4, 1, 97, 1, 98, 0, 0, 0, 0] ∧ Below w.heap.size w w' := by
  have o : (w.alloc (.cells #[.int .u8 2, .string ⟨#[97]⟩, .string ⟨#[]⟩, .int .u32 5, .int .u8 4, .string ⟨#[97]⟩, .string ⟨#[98]⟩, .int .u32 0] 40)).ownsRow w.heap.size 40 4 (.slice (some ⟨w.heap.size, 0, none⟩) 2 2) 2 (opA.flatMap opCells) := lit_own w 40 4 opCells_len opA (by decide) rfl
  have k := PutOps_any _ _ opA (sl_own opCells_len o) (by
    intro x hx
    simp [opA] at hx
    rcases hx with rfl | rfl
    · exact ⟨sm_lit (by decide), sm_lit (by decide)⟩
    · exact ⟨sm_lit (by decide), sm_lit (by decide)⟩)
  rw [show putOps opA = ([0, 2, 2, 1, 97, 0, 0, 0, 0, 5, 4, 1, 97, 1, 98, 0, 0, 0, 0], 0) by decide] at k
  refine k.mono ?_
  rintro e w' ⟨v, rfl, h1, h2⟩
  exact ⟨v, rfl, h1.mono (by simp), (below_one w _).trans (h2.mono (by simp))⟩

def opB : List OpD := [⟨1, ⟨#[65]⟩, ⟨#[]⟩, 0⟩]
theorem al3 (w : World) : Calls Try.prog 15 #[.slice (some ⟨w.heap.size, 0, none⟩) 1 1] (w.alloc (.cells #[.int .u8 1, .string ⟨#[65]⟩, .string ⟨#[]⟩, .int .u32 0] 40)) fun e w' =>
    ∃ v, e = .returned (.tuple #[v, .int .i64 1]) ∧ BsAt w' w.heap.size v [] ∧ Below w.heap.size w w' := by
  have o : (w.alloc (.cells #[.int .u8 1, .string ⟨#[65]⟩, .string ⟨#[]⟩, .int .u32 0] 40)).ownsRow w.heap.size 40 4 (.slice (some ⟨w.heap.size, 0, none⟩) 1 1) 1 (opB.flatMap opCells) := lit_own w 40 4 opCells_len opB (by decide) rfl
  have k := PutOps_any _ _ opB (sl_own opCells_len o) (by
    intro x hx
    simp [opB] at hx
    subst hx
    exact ⟨sm_lit (by decide), sm_lit (by decide)⟩)
  rw [show putOps opB = ([], 1) by decide] at k
  refine k.mono ?_
  rintro e w' ⟨v, rfl, h1, h2⟩
  exact ⟨v, rfl, h1.mono (by simp), (below_one w _).trans (h2.mono (by simp))⟩

def chA : List ChD := [⟨⟨#[97]⟩, 7, false⟩, ⟨⟨#[98]⟩, 0, true⟩]
theorem al2 (w : World) : Calls Try.prog 9 #[.slice (some ⟨w.heap.size, 0, none⟩) 2 2] (w.alloc (.cells #[.string ⟨#[97]⟩, .int .u32 7, .bool false, .string ⟨#[98]⟩, .int .u32 0, .bool true] 32)) fun e w' =>
    ∃ v, e = .returned (.tuple #[v, .int .i64 0]) ∧ BsAt w' w.heap.size v [0, 2, 1, 97, 0, 0, 0, 0, 7, 1, 98, 1, 0, 0, 0, 0] ∧ Below w.heap.size w w' := by
  have o : (w.alloc (.cells #[.string ⟨#[97]⟩, .int .u32 7, .bool false, .string ⟨#[98]⟩, .int .u32 0, .bool true] 32)).ownsRow w.heap.size 32 3 (.slice (some ⟨w.heap.size, 0, none⟩) 2 2) 2 (chA.flatMap chCells) := lit_own w 32 3 chCells_len chA (by decide) rfl
  have k := PutChanges_any _ _ chA (sl_own chCells_len o) (by
    intro x hx
    simp [chA] at hx
    rcases hx with rfl | rfl
    · exact sm_lit (by decide)
    · exact sm_lit (by decide))
  rw [show putChs chA = ([0, 2, 1, 97, 0, 0, 0, 0, 7, 1, 98, 1, 0, 0, 0, 0], 0) by decide] at k
  refine k.mono ?_
  rintro e w' ⟨v, rfl, h1, h2⟩
  exact ⟨v, rfl, h1.mono (by simp), (below_one w _).trans (h2.mono (by simp))⟩

def rowA : List RowD := [⟨⟨#[97]⟩, 1⟩]
theorem al1 (w : World) : Calls Try.prog 16 #[.slice (some ⟨w.heap.size + 1, 0, none⟩) 2 2] ((w.alloc (.cells #[.string ⟨#[97]⟩, .int .u32 1] 49)).alloc (.cells #[.slice (some ⟨w.heap.size, 0, none⟩) 1 1, .slice none 0 0] 47)) fun e w' =>
    ∃ v, e = .returned (.tuple #[v, .int .i64 0]) ∧ BsAt w' w.heap.size v [0, 2, 0, 1, 1, 97, 0, 0, 0, 1, 0, 0] ∧ Below w.heap.size w w' := by
  have o : (w.alloc (.cells #[.string ⟨#[97]⟩, .int .u32 1] 49)).ownsRow w.heap.size 49 2 (.slice (some ⟨w.heap.size, 0, none⟩) 1 1) 1 (rowA.flatMap rowCells) := lit_own w 49 2 rowCells_len rowA (by decide) rfl
  obtain ⟨W, hW⟩ : ∃ W, W = w.alloc (.cells #[.string ⟨#[97]⟩, .int .u32 1] 49) := ⟨_, rfl⟩
  have zW : W.heap.size = w.heap.size + 1 := by rw [hW]; simp
  have bW : Below w.heap.size w W := by rw [hW]; exact below_one w _
  rw [← hW] at o ⊢
  rw [← zW]
  have o2 : (W.alloc (.cells #[.slice (some ⟨w.heap.size, 0, none⟩) 1 1, .slice none 0 0] 47)).ownsRow W.heap.size 47 1 (.slice (some ⟨W.heap.size, 0, none⟩) 2 2) 2 (([(.slice (some ⟨w.heap.size, 0, none⟩) 1 1, rowA), (.slice none 0 0, [])] : List ResP).flatMap resCells) := lit_own W 47 1 resCells_len ([(.slice (some ⟨w.heap.size, 0, none⟩) 1 1, rowA), (.slice none 0 0, [])] : List ResP) (by show 2 ≤ maxLen; decide) rfl
  have o3 := own_below o (below_one W (.cells #[.slice (some ⟨w.heap.size, 0, none⟩) 1 1, .slice none 0 0] 47))
  have k := PutResults_any _ _ ([(.slice (some ⟨w.heap.size, 0, none⟩) 1 1, rowA), (.slice none 0 0, [])] : List ResP) ⟨sl_own resCells_len o2, by
    intro p hp
    rw [List.mem_cons, List.mem_singleton] at hp
    rcases hp with rfl | rfl
    · refine ⟨sl_own rowCells_len o3, fun x hx => ?_⟩
      simp [rowA] at hx
      subst hx
      exact sm_lit (by decide)
    · exact ⟨sl_own (e := 0) (base := 0) rowCells_len (World.ownsRow_nil _ _ _ _), fun x hx => by cases hx⟩⟩
  rw [show putRes (([(.slice (some ⟨w.heap.size, 0, none⟩) 1 1, rowA), (.slice none 0 0, [])] : List ResP).map (·.2)) = ([0, 2, 0, 1, 1, 97, 0, 0, 0, 1, 0, 0], 0) by show putRes [rowA, []] = _; decide] at k
  refine k.mono ?_
  rintro e w' ⟨v, rfl, h1, h2⟩
  exact ⟨v, rfl, h1.mono (by simp; omega), bW.trans ((below_one W _).trans (h2.mono (by simp)) |>.mono (by omega))⟩

theorem al4 (w : World) : Calls Try.prog 19 #[.slice (some ⟨w.heap.size, 0, none⟩) 2 2] (w.alloc (.cells #[.int .u8 0, .int .u8 1] 5)) fun e w' =>
    ∃ ao n c, e = .returned (.tuple #[.slice ao n c, .int .i64 4]) ∧ Below w.heap.size w w' := by
  have o : (w.alloc (.cells #[.int .u8 0, .int .u8 1] 5)).ownsRow w.heap.size 5 1 (.slice (some ⟨w.heap.size, 0, none⟩) 2 2) 2 (([0, 1] : List UInt8).flatMap bCell) := lit_own w 5 1 (fun _ => rfl) [0, 1] (by decide) rfl
  have k := GetOps_any _ _ [0, 1] (sl_own (fun _ => rfl) o)
  have e2 : (getOps [0, 1]).2 = 4 := by decide
  rw [e2] at k
  refine k.mono ?_
  rintro e w' ⟨v, rfl, h1, h2⟩
  obtain ⟨ao, n, c, rfl⟩ := own_slice h1
  exact ⟨ao, n, c, rfl, (below_one w _).trans (h2.mono (by simp))⟩
theorem in_mark (w : World) (t : TypeId) (fr : Nat × Nat) (bs : List UInt8) (n : Nat) (hn : bs.length = n) (h9 : n ≤ maxLen) : InAt (w.alloc (.cells (bs.flatMap bCell).toArray t fr)) (w.heap.size + 1) (.slice (some ⟨w.heap.size, 0, none⟩) n n) bs := by
  subst hn
  refine ⟨_, bs.length, rfl, Nat.le_refl _, h9, fun hp => ⟨w.heap.size, 0, rfl, by omega, fun i hi j u hu => ?_⟩⟩
  have hj : j < 1 := by
    rcases Nat.lt_or_ge j 1 with h' | h'
    · exact h'
    · rw [List.getElem?_eq_none (by exact h')] at hu; cases hu
  rw [Nat.zero_add, World.cell?_alloc_mark]
  have := flat_get (f := bCell) (size := 1) (fun _ => rfl) bs i hi j hj
  rw [List.getElem?_toArray, this]
  exact hu
theorem al5 (w : World) : Calls Try.prog 11 #[.slice (some ⟨w.heap.size, 0, none⟩) 9 9] (w.alloc (.cells #[.int .u8 0, .int .u8 1, .int .u8 1, .int .u8 97, .int .u8 1, .int .u8 0, .int .u8 0, .int .u8 0, .int .u8 7] 5 (9, 10))) fun e w' =>
    ∃ ao n c, e = .returned (.tuple #[.slice ao n c, .int .i64 4]) ∧ Below w.heap.size w w' := by
  have o : InAt (w.alloc (.cells #[.int .u8 0, .int .u8 1, .int .u8 1, .int .u8 97, .int .u8 1, .int .u8 0, .int .u8 0, .int .u8 0, .int .u8 7] 5 (9, 10))) (w.heap.size + 1) (.slice (some ⟨w.heap.size, 0, none⟩) 9 9) [0, 1, 1, 97, 1, 0, 0, 0, 7] := in_mark w 5 (9, 10) [0, 1, 1, 97, 1, 0, 0, 0, 7] 9 rfl (by decide)
  have k := GetChanges_any _ _ [0, 1, 1, 97, 1, 0, 0, 0, 7] (o.mono (by simp))
  have e2 : (getChs [0, 1, 1, 97, 1, 0, 0, 0, 7]).2 = 4 := by decide
  rw [e2] at k
  refine k.mono ?_
  rintro e w' ⟨v, rfl, h1, h2⟩
  obtain ⟨ao, n, c, rfl⟩ := own_slice h1
  exact ⟨ao, n, c, rfl, (below_one w _).trans (h2.mono (by simp))⟩
theorem al6 (w : World) : Calls Try.prog 14 #[.agg #[.int .u8 1, .string ⟨#[97]⟩, .string ⟨#[]⟩, .int .u32 5]] w fun e w' => e = .returned (.bool false) ∧ Below w.heap.size w w' := by
  have k := rcheck_any w ⟨1, ⟨#[97]⟩, ⟨#[]⟩, 5⟩ ⟨sm_lit (by decide), sm_lit (by decide)⟩
  rw [show opOk ⟨1, ⟨#[97]⟩, ⟨#[]⟩, 5⟩ = false by decide] at k
  exact k
theorem al7 (w : World) : Calls Try.prog 14 #[.agg #[.int .u8 4, .string ⟨#[97]⟩, .string ⟨#[]⟩, .int .u32 0]] w fun e w' => e = .returned (.bool false) ∧ Below w.heap.size w w' := by
  have k := rcheck_any w ⟨4, ⟨#[97]⟩, ⟨#[]⟩, 0⟩ ⟨sm_lit (by decide), sm_lit (by decide)⟩
  rw [show opOk ⟨4, ⟨#[97]⟩, ⟨#[]⟩, 0⟩ = false by decide] at k
  exact k
theorem str_eq (a : List UInt8) (b : Array UInt8) (h : a = b.toList) : ((⟨a.toArray⟩ : ByteArray).toList == (⟨b⟩ : ByteArray).toList) = true := by
  rw [ByteArray.toList_eq, ByteArray.toList_eq]; subst h; simp

set_option maxHeartbeats 4000000 in
set_option maxRecDepth 1000000 in
theorem alive_any (w : World) : Calls Try.prog 7 #[] w fun e w' => e = .returned (.bool true) ∧ Below w.heap.size w w' := by
  have B := Below.refl w.heap.size w
  go_enter Try.func7, Try.ntmps7
  go_wp2_with fail
  refine (al0 _).mono ?_
  rintro e w1 ⟨v1, rfl, o1, hb⟩
  have z1 := hb.size
  replace B := B.trans hb
  clear hb
  obtain ⟨a1, n1, c1, rfl⟩ := own_slice o1
  go_wp2_with fail
  refine (al1 _).mono ?_
  rintro e w2 ⟨v2, rfl, o2, hb⟩
  replace o1 := o1.below hb
  replace B := B.trans (hb.mono B.size)
  clear hb
  obtain ⟨a2, n2, c2, rfl⟩ := own_slice o2
  go_wp2_with fail
  refine (al2 _).mono ?_
  rintro e w3 ⟨v3, rfl, o3, hb⟩
  replace o1 := o1.below hb
  replace o2 := o2.below hb
  replace B := B.trans (hb.mono B.size)
  clear hb
  obtain ⟨a3, n3, c3, rfl⟩ := own_slice o3
  go_wp2_with fail
  refine (al3 _).mono ?_
  rintro e w4 ⟨v4, rfl, o4, hb⟩
  replace o1 := o1.below hb
  replace o2 := o2.below hb
  replace o3 := o3.below hb
  replace B := B.trans (hb.mono B.size)
  clear hb
  obtain ⟨a4, n4, c4, rfl⟩ := own_slice o4
  clear o4
  go_wp2_with fail
  refine (al4 _).mono ?_
  rintro e w5 ⟨a5, n5, c5, rfl, hb⟩
  replace o1 := o1.below hb
  replace o2 := o2.below hb
  replace o3 := o3.below hb
  replace B := B.trans (hb.mono B.size)
  clear hb
  have hcc := fun (w : World) (C : Array Value) (n c : Nat) => Lib.run_convert_bytes_const (P := Try.prog) w 23 5 C n c Try.underlying23 Try.underlying5
  go_wp2_with fail
  clear hcc
  refine (al5 _).mono ?_
  rintro e w6 ⟨a6, n6, c6, rfl, hb⟩
  replace o1 := o1.below hb
  replace o2 := o2.below hb
  replace o3 := o3.below hb
  replace B := B.trans (hb.mono B.size)
  clear hb
  have cv1 := conv_in (in_own o1)
  have cv2 := conv_in (in_own o2)
  have cv3 := conv_in (in_own o3)
  have e1 := str_eq [0, 2, 2, 1, 97, 0, 0, 0, 0, 5, 4, 1, 97, 1, 98, 0, 0, 0, 0] #[0, 2, 2, 1, 97, 0, 0, 0, 0, 5, 4, 1, 97, 1, 98, 0, 0, 0, 0] rfl
  have e2 := str_eq [0, 2, 0, 1, 1, 97, 0, 0, 0, 1, 0, 0] #[0, 2, 0, 1, 1, 97, 0, 0, 0, 1, 0, 0] rfl
  have e3 := str_eq [0, 2, 1, 97, 0, 0, 0, 0, 7, 1, 98, 1, 0, 0, 0, 0] #[0, 2, 1, 97, 0, 0, 0, 0, 7, 1, 98, 1, 0, 0, 0, 0] rfl
  go_wp2_with fail
  refine (al6 _).mono ?_
  rintro e w7 ⟨rfl, hb⟩
  replace B := B.trans (hb.mono B.size)
  clear hb cv1 cv2 cv3 e1 e2 e3
  go_wp2_with fail
  refine (al7 _).mono ?_
  rintro e w8 ⟨rfl, hb⟩
  replace B := B.trans (hb.mono B.size)
  clear hb
  go_wp2
  go_ret
  exact ⟨rfl, B⟩
end Go.Proofs.Ytndjgilheleplab
