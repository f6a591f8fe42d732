/- Texts of this proof, laid into one. -/
import Derived.Test.YtcgecdiaddcfkaaGreatDoorM18
import Derived.Test.YtcgecdiaddcfkaaGreatDoorPTextM
import Derived.Lib.SlBytesConst
/- The walk of alive: the answers that the document fixes are given. -/
set_option linter.unusedSimpArgs false
set_option linter.unusedVariables false
namespace Go.Proofs.YtcgecdiaddcfkaaGreatDoor
open Go.RowKit

def mA : MsgD := ⟨2, 2, 0, 5, [], [[]]⟩
def bA : List UInt8 := [2, 2, 0, 0, 0, 0, 5, 0, 0, 0, 2, 0, 0, 0, 1, 0, 0]
def mB : MsgD := ⟨1, 4, 0, 0, [], []⟩
def opC : List OpD := [⟨1, ⟨#[65]⟩, ⟨#[]⟩, 0⟩]
def mC : MsgD := ⟨1, 0, 0, 0, opC, []⟩
theorem encA : encM mA = bA := by decide
theorem putA : putM mA = (bA, 0) := by decide
theorem getA : getM bA = (mA, 0) := by
  have := getM_put (m := mA) (by decide) (by decide)
  rwa [encA] at this
theorem putZ : putM zeroM = ([], 1) := by decide
theorem putB : putM mB = ([], 1) := by decide
theorem putC : putM mC = ([], 1) := by decide
theorem getZ : getM [] = (zeroM, 4) := by unfold getM; rw [if_pos (by simp)]
theorem at_nil (w : World) (lim : Nat) (m : MsgD) (h1 : m.ops = []) (h2 : m.res = []) : MsgAt w lim (.slice none 0 0) (.slice none 0 0) m [] :=
  ⟨by rw [h1]; exact ⟨none, 0, rfl, Nat.le_refl _, by unfold maxLen; omega, fun h => by simp at h⟩, by rw [h1]; simp, ⟨⟨none, 0, rfl, Nat.le_refl _, by unfold maxLen; omega, fun h => by simp at h⟩, fun p hp => by cases hp⟩, by rw [h2]; rfl⟩
theorem at_A (w : World) : MsgAt (w.alloc (.cells #[.slice none 0 0] 89)) (w.heap.size + 1) (.slice none 0 0) (.slice (some ⟨w.heap.size, 0, none⟩) 1 1) mA [(.slice none 0 0, [])] := by
  have o2 : (w.alloc (.cells #[.slice none 0 0] 89)).ownsRow w.heap.size 89 1 (.slice (some ⟨w.heap.size, 0, none⟩) 1 1) 1 (([(.slice none 0 0, [])] : List ResP).flatMap resCells) := lit_own w 89 1 resCells_len ([(.slice none 0 0, [])] : List ResP) (by show 1 ≤ maxLen; decide) rfl
  have s2 := sl_own resCells_len o2
  refine ⟨⟨none, 0, rfl, Nat.le_refl _, by unfold maxLen; omega, fun h => by simp [mA] at h⟩, (by simp [mA]), ⟨s2.mono (by simp), fun p hp => ?_⟩, rfl⟩
  rw [List.mem_singleton] at hp
  subst hp
  exact ⟨⟨none, 0, rfl, Nat.le_refl _, by unfold maxLen; omega, fun h => by simp at h⟩, fun x hx => by cases hx⟩
theorem at_C (w : World) : MsgAt (w.alloc (.cells #[.int .u8 1, .string ⟨#[65]⟩, .string ⟨#[]⟩, .int .u32 0] 85)) (w.heap.size + 1) (.slice (some ⟨w.heap.size, 0, none⟩) 1 1) (.slice none 0 0) mC [] := by
  have o : (w.alloc (.cells #[.int .u8 1, .string ⟨#[65]⟩, .string ⟨#[]⟩, .int .u32 0] 85)).ownsRow w.heap.size 85 4 (.slice (some ⟨w.heap.size, 0, none⟩) 1 1) 1 (opC.flatMap opCells) := lit_own w 85 4 opCells_len opC (by decide) rfl
  refine ⟨(sl_own opCells_len o).mono (by simp), ?_, ⟨⟨none, 0, rfl, Nat.le_refl _, by unfold maxLen; omega, fun h => by simp at h⟩, fun p hp => by cases hp⟩, rfl⟩
  intro x hx
  simp only [mC, opC, List.mem_singleton] at hx
  subst hx
  exact ⟨by show 1 ≤ maxLen; decide, by show 0 ≤ maxLen; decide⟩
theorem strEqP (a : List UInt8) (b : Array UInt8) (h : a = b.toList) : ((⟨a.toArray⟩ : ByteArray).toList == (⟨b⟩ : ByteArray).toList) = true := by
  rw [ByteArray.toList_eq, ByteArray.toList_eq]; subst h; simp
theorem lineA : lineN 2 2 0 5 3 = ⟨#[50, 32, 50, 32, 48, 32, 53]⟩ := by
  unfold lineN numB spB
  rw [Lib.decDigits_one (by omega), Lib.decDigits_one (by omega), Lib.decDigits_one (by omega)]
  apply ByteArray.ext
  simp only [ByteArray.data_append]
  decide
theorem lineZ : lineN 0 0 0 0 3 = ⟨#[48, 32, 48, 32, 48, 32, 48]⟩ := by
  unfold lineN numB spB
  rw [Lib.decDigits_one (by omega)]
  apply ByteArray.ext
  simp only [ByteArray.data_append]
  decide
theorem pA {w : World} {vo vr : Value} {l : List ResP} (h : MsgAt w w.heap.size vo vr mA l) : Calls Tryz.prog 7 #[.agg #[.int .u8 2, .int .u8 2, .int .u8 0, .int .u32 5, vo, vr]] w fun e w' => ∃ a c, e = .returned (.tuple #[.slice a 17 c, .int .i64 0]) ∧ BsAt w' w.heap.size (.slice a 17 c) bA ∧ Below w.heap.size w w' := by
  have k := h.put
  rw [putA] at k
  exact k
theorem pB {w : World} {vo vr : Value} {l : List ResP} {m : MsgD} (h : MsgAt w w.heap.size vo vr m l) (hp : putM m = ([], 1)) : Calls Tryz.prog 7 #[msgV m vo vr] w fun e w' => ∃ a c, e = .returned (.tuple #[.slice a 0 c, .int .i64 1]) ∧ Below w.heap.size w w' := by
  have k := h.put
  rw [hp] at k
  refine k.mono ?_
  rintro e w' ⟨a, c, rfl, -, b⟩
  exact ⟨a, c, rfl, b⟩
theorem gA {w : World} {v : Value} (h : InAt w w.heap.size v bA) : Calls Tryz.prog 17 #[v] w fun e w' => ∃ oa oc ra rn rc, e = .returned (.tuple #[.agg #[.int .u8 2, .int .u8 2, .int .u8 0, .int .u32 5, .slice oa 0 oc, .slice ra rn rc], .int .i64 0]) ∧ (∃ l, MsgAt w' w'.heap.size (.slice oa 0 oc) (.slice ra rn rc) mA l) ∧ Below w.heap.size w w' := by
  have k := Get_any w v bA h
  rw [getA] at k
  refine k.mono ?_
  rintro e w' ⟨oa, on, oc, ra, rn, rc, rfl, hm, b⟩
  obtain ⟨a', c', e'⟩ := own_len hm.1
  cases e'
  exact ⟨_, _, _, _, _, rfl, hm.at (by decide), b⟩
theorem gZ (w : World) : Calls Tryz.prog 17 #[.slice none 0 0] w fun e w' => ∃ oa on oc ra rn rc, e = .returned (.tuple #[.agg #[.int .u8 0, .int .u8 0, .int .u8 0, .int .u32 0, .slice oa on oc, .slice ra rn rc], .int .i64 4]) ∧ Below w.heap.size w w' := by
  have k := Get_any w _ [] (InAt_nil w w.heap.size)
  rw [getZ] at k
  refine k.mono ?_
  rintro e w' ⟨oa, on, oc, ra, rn, rc, rfl, hm, b⟩
  exact ⟨_, _, _, _, _, _, rfl, b⟩

end Go.Proofs.YtcgecdiaddcfkaaGreatDoor
/- Two messages' lines are the same just if their four numbers are. -/
set_option linter.unusedSimpArgs false
set_option linter.unusedVariables false
namespace Go.Proofs.YtcgecdiaddcfkaaGreatDoor
open Go.RowKit

theorem dec_step {u : Nat} (h : ¬ u < 10) : Lib.decDigits u = Lib.decDigits (u / 10) ++ [UInt8.ofNat (48 + u % 10)] := by
  rw [Lib.decDigits, dif_neg h]
theorem ofNat_digit {d : Nat} (h : d < 10) : (UInt8.ofNat (48 + d)).toNat = 48 + d := by
  simp; omega
theorem dec_digit : ∀ (n u : Nat), u < n → ∀ c ∈ Lib.decDigits u, 48 ≤ c.toNat ∧ c.toNat ≤ 57
  | 0, u, h => by omega
  | n + 1, u, h => by
    intro c hc
    by_cases hu : u < 10
    · rw [Lib.decDigits_one hu, List.mem_singleton] at hc
      subst hc
      rw [ofNat_digit hu]; omega
    · rw [dec_step hu, List.mem_append, List.mem_singleton] at hc
      rcases hc with hc | hc
      · exact dec_digit n (u / 10) (by omega) c hc
      · subst hc
        rw [ofNat_digit (by omega)]; omega
/-- The number that a row of digits tells. -/
def val (l : List UInt8) : Nat := l.foldl (fun n c => 10 * n + (c.toNat - 48)) 0
theorem val_snoc (l : List UInt8) (c : UInt8) : val (l ++ [c]) = 10 * val l + (c.toNat - 48) := by
  unfold val; rw [List.foldl_append]; rfl
theorem val_dec : ∀ (n u : Nat), u < n → val (Lib.decDigits u) = u
  | 0, u, h => by omega
  | n + 1, u, h => by
    by_cases hu : u < 10
    · rw [Lib.decDigits_one hu]
      show 10 * 0 + _ = _
      rw [ofNat_digit hu]; omega
    · rw [dec_step hu, val_snoc, val_dec n (u / 10) (by omega), ofNat_digit (by omega)]; omega
theorem dec_inj {a b : Nat} (h : Lib.decDigits a = Lib.decDigits b) : a = b := by
  rw [← val_dec (a + 1) a (by omega), h, val_dec (b + 1) b (by omega)]
theorem dec_no (u : Nat) : ∀ c ∈ Lib.decDigits u, c ≠ 32 := by
  intro c hc e
  have := dec_digit (u + 1) u (by omega) c hc
  subst e
  revert this
  decide
theorem split32 : ∀ (a b x y : List UInt8), (∀ c ∈ a, c ≠ 32) → (∀ c ∈ b, c ≠ 32) → a ++ 32 :: x = b ++ 32 :: y → a = b ∧ x = y
  | [], [], x, y, _, _, h => by simpa using h
  | [], d :: b, x, y, _, hb, h => by
    simp only [List.nil_append, List.cons_append, List.cons.injEq] at h
    exact absurd h.1.symm (hb d (by simp))
  | c :: a, [], x, y, ha, _, h => by
    simp only [List.nil_append, List.cons_append, List.cons.injEq] at h
    exact absurd h.1 (ha c (by simp))
  | c :: a, d :: b, x, y, ha, hb, h => by
    simp only [List.cons_append, List.cons.injEq] at h
    obtain ⟨h1, h2⟩ := split32 a b x y (fun e he => ha e (by simp [he])) (fun e he => hb e (by simp [he])) h.2
    exact ⟨by rw [h.1, h1], h2⟩
theorem line_list (s f t g : Nat) : (lineN s f t g 3).toList = Lib.decDigits s ++ 32 :: (Lib.decDigits f ++ 32 :: (Lib.decDigits t ++ 32 :: Lib.decDigits g)) := by
  rw [ByteArray.toList_eq]
  show (numB s ++ (spB ++ numB f) ++ (spB ++ numB t) ++ (spB ++ numB g)).data.toList = _
  simp only [ByteArray.data_append, Array.toList_append]
  show ((Lib.decDigits s ++ ([32] ++ Lib.decDigits f)) ++ ([32] ++ Lib.decDigits t)) ++ ([32] ++ Lib.decDigits g) = _
  simp
theorem line_eq (s f t g s' f' t' g' : Nat) : ((lineN s f t g 3).toList == (lineN s' f' t' g' 3).toList) = decide (s = s' ∧ f = f' ∧ t = t' ∧ g = g') := by
  rw [line_list, line_list, Bool.eq_iff_iff, beq_iff_eq, decide_eq_true_iff]
  constructor
  · intro h
    obtain ⟨h1, h⟩ := split32 _ _ _ _ (dec_no s) (dec_no s') h
    obtain ⟨h2, h⟩ := split32 _ _ _ _ (dec_no f) (dec_no f') h
    obtain ⟨h3, h4⟩ := split32 _ _ _ _ (dec_no t) (dec_no t') h
    exact ⟨dec_inj h1, dec_inj h2, dec_inj h3, dec_inj h4⟩
  · rintro ⟨rfl, rfl, rfl, rfl⟩
    rfl
end Go.Proofs.YtcgecdiaddcfkaaGreatDoor
