/- A sector's cells among those of a disk: some of them written anew. -/
import Derived.Test.YtjaidhglemnakaaDWrite
set_option linter.unusedSimpArgs false
set_option linter.unusedVariables false
namespace Go.Proofs.Ytjaidhglemnakaa
open Go.RowKit Go.Maps

theorem bcells_take (s : Sec) (m : Nat) : bcells (s.take m) = (bcells s).take m := by simp [bcells, List.map_take]
theorem bcells_drop (s : Sec) (m : Nat) : bcells (s.drop m) = (bcells s).drop m := by simp [bcells, List.map_drop]
theorem flat_len {l : List Sec} (h : Full l) : (l.flatMap bcells).length = l.length * 64 := by
  induction l with
  | nil => rfl
  | cons x l ih =>
    rw [List.flatMap_cons, List.length_append, bcells_len, ih (fun i hi => h (i + 1) (by simp; omega)), List.length_cons, Nat.succ_mul]
    have := h 0 (by simp)
    simp at this
    omega
theorem flat_lay {l : List Sec} (h : Full l) {k : Nat} (hk : k < l.length) {s : Sec} {m : Nat} (hs : s.length = 64) (hm : m ≤ 64) :
    (l.set k (lay m (l.getD k []) s)).flatMap bcells = (l.flatMap bcells).take (k * 64) ++ bcells (s.take m) ++ (l.flatMap bcells).drop (k * 64 + m) := by
  induction l generalizing k with
  | nil => cases hk
  | cons x l ih =>
    have hx : x.length = 64 := by have := h 0 (by simp); simpa using this
    have hl : Full l := fun i hi => by have := h (i + 1) (by simp; omega); simpa using this
    cases k with
    | zero =>
      simp only [List.set_cons_zero, List.flatMap_cons, List.getD_cons_zero, Nat.zero_mul, List.take_zero, List.nil_append, Nat.zero_add, lay]
      rw [bcells_app, List.drop_append_of_le_length (by rw [bcells_len]; omega), bcells_drop, List.append_assoc]
    | succ k =>
      simp only [List.set_cons_succ, List.flatMap_cons, List.getD_cons_succ]
      rw [ih hl (by simpa using hk), List.take_append, List.drop_append, bcells_len, hx]
      have e1 : (bcells x).take ((k + 1) * 64) = bcells x := List.take_of_length_le (by rw [bcells_len]; omega)
      have e2 : (bcells x).drop ((k + 1) * 64 + m) = [] := List.drop_eq_nil_of_le (by rw [bcells_len]; omega)
      rw [e1, e2, show (k + 1) * 64 - 64 = k * 64 by omega, show (k + 1) * 64 + m - 64 = k * 64 + m by omega]
      simp
theorem take_splice {α : Type} (L X : List α) (o m N : Nat) (hX : X.length = m) (h : o + m ≤ N) (hN : N ≤ L.length) : (L.take o ++ X ++ L.drop (o + m)).take N = (L.take N).take o ++ X ++ (L.take N).drop (o + m) := by
  have h1 : (L.take o ++ X).length = o + m := by simp [hX]; omega
  rw [List.take_append, h1, List.take_of_length_le (by omega), List.take_take, Nat.min_eq_left (by omega), List.drop_take]
theorem set_len (l : List Sec) (k : Nat) (s : Sec) : (l.set k s).length = l.length := by simp
/-- A row of which some cells in the middle are written. -/
theorem own_mid {w : World} {G cap : Nat} {l : List Sec} (hw : w.ownsRow 0 74 64 (.slice (some ⟨G, 0, none⟩) l.length cap) l.length (l.flatMap bcells)) (hf : Full l) {k : Nat} (hk : k < l.length) {s : Sec} {m : Nat} (hs : s.length = 64) (hm : m ≤ 64) :
    ∃ cur : Array Value, w.heap[G]? = some (.cells cur 74 (0, 0)) ∧ k * 64 + m ≤ cur.size ∧
      ∀ new : Array Value, new = (cur.toList.take (k * 64) ++ bcells (s.take m) ++ cur.toList.drop (k * 64 + m)).toArray → (w.setRow G new).ownsRow 0 74 64 (.slice (some ⟨G, 0, none⟩) l.length cap) l.length ((l.set k (lay m (l.getD k []) s)).flatMap bcells) := by
  have hfl := flat_len hf
  have hkm : k * 64 + 64 ≤ l.length * 64 := by have : (k + 1) * 64 ≤ l.length * 64 := Nat.mul_le_mul_right _ hk; omega
  rcases hw.2 with ⟨e, _⟩ | ⟨g, c, cur, e, hb, hg, hnc, hcm, hcs, ht⟩
  · cases e
  · cases e
    have hcl : l.length * 64 ≤ cap * 64 := Nat.mul_le_mul_right _ hnc
    refine ⟨cur, hg, by omega, fun new hnew => ⟨?_, .inr ⟨G, cap, new, rfl, hb, setRow_heap _ _ _ _ _ _ hg, hnc, hcm, ?_, ?_⟩⟩⟩
    · rw [flat_lay hf hk hs hm]
      have : (bcells (s.take m)).length = m := by rw [bcells_len]; simp; omega
      simp [hfl, this]
      omega
    · rw [hnew]
      have : (bcells (s.take m)).length = m := by rw [bcells_len]; simp; omega
      simp [this]
      omega
    · rw [flat_lay hf hk hs hm, hnew]
      have hb2 : (bcells (s.take m)).length = m := by rw [bcells_len]; simp; omega
      rw [← ht]
      exact take_splice _ _ _ _ _ hb2 (by omega) (by simp; omega)
theorem grown_setRow (w : World) (g : Nat) (cs : Array Value) : w.grownBy (w.setRow g cs) (some g) := ⟨rfl, rfl, rfl, by simp, fun k _ hk => setRow_other w g k _ (fun e => hk (by rw [e]))⟩
/-- A sector is stored. -/
theorem store_sec {w : World} {G cap : Nat} {l : List Sec} (hw : w.ownsRow 0 74 64 (.slice (some ⟨G, 0, none⟩) l.length cap) l.length (l.flatMap bcells)) (hf : Full l) {k : Nat} (hk : k < l.length) {s : Sec} (hs : s.length = 64) :
    ∃ w', (Instr.storeAt 74 (.pointer (some ⟨G, k * 64, none⟩)) (.agg (bcells s).toArray)).run Try.prog w = .ok () w' ∧ w'.ownsRow 0 74 64 (.slice (some ⟨G, 0, none⟩) l.length cap) l.length ((l.set k s).flatMap bcells) ∧ w.grownBy w' (some G) := by
  obtain ⟨cur, hg, hsz, hn⟩ := own_mid hw hf hk hs (Nat.le_refl 64)
  have hrun := run_storeCells_at Try.prog G (k * 64) 74 (bcells s) 0 cur w hg (by rw [bcells_len, hs]; simpa using hsz) (bcells_one s)
  simp only [Nat.add_zero] at hrun
  rw [lay_all (hf.getD hk) hs, show s.take 64 = s from List.take_of_length_le (by omega)] at hn
  refine ⟨w.setRow G (cur.toList.take (k * 64) ++ bcells s ++ cur.toList.drop (k * 64 + 64)).toArray, ?_, hn _ rfl, grown_setRow _ _ _⟩
  rw [bcells_len, hs] at hrun
  have hi := zero_sec.2
  cases hq : Try.prog.info? 74 with
  | none => simp [hq] at hi
  | some i =>
    have hi2 : i.size = 64 := by simpa [hq] using hi
    simp only [Instr.storeAt, Instr.sureAddr, Sem.run_bind, Sem.run_pure, Result.andThen_ok]
    simp [storeVar, sizeOf, typeInfo, hq, Value.cells, bcells_len, hs, hi2, hrun]
end Go.Proofs.Ytjaidhglemnakaa
