/- All that is kept is there; each sector once; two disks beside each other. -/
import Derived.Test.YtapfkoojplbfmabDSeen
set_option linter.unusedSimpArgs false
set_option linter.unusedVariables false
namespace Go.Proofs.Ytapfkoojplbfmab
open Go.RowKit Go.Maps

theorem lastAt_take_succ {ws : List (Nat × Sec)} {t : Nat} (ht : t < ws.length) (a : Nat) : lastAt (ws.take (t + 1)) a = if (ws[t]'ht).1 = a then some (ws[t]'ht).2 else lastAt (ws.take t) a := by
  rw [List.take_succ_eq_append_getElem ht]
  exact lastAt_snoc _ _ _ _
/-- Where all writes are kept, and none is torn, what is left is what is seen. -/
theorem fail_all_to {d : Dk} (h : d.ok) (keep : Nat) (torn : Int) (hk : ∀ i, i < d.ws.length → keep.testBit i = true) (ht : torn < 0) (t : Nat) (hl : t ≤ d.ws.length) (a : Nat) (ha : a < d.sure.length) :
    (failTo d.sure d.ws keep torn t).getD a [] = (lastAt (d.ws.take t) a).getD (d.sure.getD a []) := by
  induction t with
  | zero => simp [failTo, lastAt]
  | succ t ih =>
    have hlt : t < d.ws.length := by omega
    rw [failTo_succ hlt, lastAt_take_succ hlt]
    unfold failStep
    rw [if_pos (hk t hlt)]
    have htn : tornN torn t = 64 := by unfold tornN; rw [if_neg (by omega)]
    have hfl := failTo_len d.sure d.ws keep torn t
    have hff := failTo_full keep torn h.full h.ats t
    have hin := h.ats _ (List.getElem_mem hlt)
    rw [htn, lay_all (hff.getD (by rw [hfl]; exact hin.1)) hin.2]
    by_cases e : (d.ws[t]'hlt).1 = a
    · rw [if_pos e, e]
      simp [List.getElem?_set_self (show a < (failTo d.sure d.ws keep torn t).length by rw [hfl]; exact ha)]
    · rw [if_neg e, ← ih (by omega)]
      simp only [List.getD_eq_getElem?_getD]
      rw [List.getElem?_set_ne e]
theorem fail_all {d : Dk} (h : d.ok) (keep : Nat) (torn : Int) (hk : ∀ i, i < d.ws.length → keep.testBit i = true) (ht : torn < 0) (h64 : d.ws.length ≤ 64) (a : Nat) (ha : a < d.sure.length) : (d.fail keep torn).view a = d.view a := by
  show (failTo d.sure d.ws keep torn (min 64 d.ws.length)).getD a [] = _
  rw [Nat.min_eq_right h64, fail_all_to h keep torn hk ht _ (Nat.le_refl _) a ha, List.take_length]
  rfl

/-- The sectors, each once, as they come first. -/
def onceTo (l : List UInt8) : Nat → List Nat
  | 0 => []
  | j + 1 => if (l.getD j 0).toNat % 16 ∈ onceTo l j then onceTo l j else onceTo l j ++ [(l.getD j 0).toNat % 16]
theorem once_lt {l : List UInt8} {j r : Nat} (h : r ∈ onceTo l j) : r < 16 := by
  induction j with
  | zero => cases h
  | succ j ih =>
    rw [onceTo] at h
    split at h
    · exact ih h
    · rcases List.mem_append.1 h with h | h
      · exact ih h
      · simp at h; omega
theorem once_nodup (l : List UInt8) (j : Nat) : (onceTo l j).Nodup := by
  induction j with
  | zero => exact List.nodup_nil
  | succ j ih =>
    rw [onceTo]
    split
    · exact ih
    · rename_i hn
      rw [List.nodup_append]
      refine ⟨ih, by simp, ?_⟩
      intro a ha b hb e
      simp at hb
      subst e hb
      exact hn ha
theorem nodup_len : ∀ (n : Nat) (l : List Nat), l.Nodup → (∀ x ∈ l, x < n) → l.length ≤ n := by
  intro n
  induction n with
  | zero => intro l _ h; cases l with
    | nil => simp
    | cons x l => have := h x (by simp); omega
  | succ n ih =>
    intro l hd hl
    by_cases hm : n ∈ l
    · have h1 := ih (l.erase n) (hd.erase n) (fun x hx => by
        have h2 := hl x (List.mem_of_mem_erase hx)
        have h3 : x ≠ n := fun e => by subst e; exact (List.Nodup.not_mem_erase hd) hx
        omega)
      rw [List.length_erase_of_mem hm] at h1
      omega
    · have := ih l hd (fun x hx => by
        have h2 := hl x hx
        have h3 : x ≠ n := fun e => by subst e; exact hm hx
        omega)
      omega
theorem once_len (l : List UInt8) (j : Nat) : (onceTo l j).length ≤ 16 := nodup_len 16 _ (once_nodup l j) (fun x hx => once_lt hx)
/-- What is written of a sector. -/
def oneB (r : Nat) : List UInt8 := [UInt8.ofNat (1 + r)]
/-- The disk on which those sectors are written, in that order. -/
def wrote : List Nat → Dk
  | [] => Dk.new 16
  | r :: l => (wrote l).write r (oneB r)
theorem wrote_len (l : List Nat) : (wrote l).sure.length = 16 := by
  induction l with
  | nil => simp [wrote, Dk.new]
  | cons r l ih => exact ih
theorem wrote_ws (l : List Nat) : (wrote l).ws.length = l.length := by
  induction l with
  | nil => simp [wrote, Dk.new]
  | cons r l ih => rw [wrote, ws_len, ih]; rfl
theorem wrote_ok {l : List Nat} (h : ∀ r ∈ l, r < 16) : (wrote l).ok := by
  induction l with
  | nil => exact Dk.ok_new (by omega) (by omega)
  | cons r l ih => exact (ih (fun x hx => h x (by simp [hx]))).write (by rw [wrote_len]; exact h r (by simp)) (by simp [oneB])
theorem wrote_view (l : List Nat) (a : Nat) (ha : a < 16) : (wrote l).view a = if a ∈ l then pad (oneB a) else z64 := by
  induction l with
  | nil => rw [wrote, Dk.view_new ha]; simp [z64]
  | cons r l ih =>
    rw [wrote, Dk.view_write, ih]
    by_cases e : r = a
    · simp [e]
    · have e' : ¬ a = r := fun h => e h.symm
      simp [e, e']
/-- The first j of them, the last one first. -/
def firstJ (O : List Nat) : Nat → List Nat
  | 0 => []
  | j + 1 => O.getD j 0 :: firstJ O j
/-- The first j of them from f on, round and round. -/
def roundJ (O : List Nat) (f : Nat) : Nat → List Nat
  | 0 => []
  | j + 1 => O.getD ((j + f) % O.length) 0 :: roundJ O f j
theorem firstJ_mem {O : List Nat} {j a : Nat} (hj : j ≤ O.length) : a ∈ firstJ O j ↔ ∃ i, i < j ∧ O.getD i 0 = a := by
  induction j with
  | zero => simp [firstJ]
  | succ j ih =>
    rw [firstJ, List.mem_cons, ih (by omega)]
    constructor
    · rintro (h | ⟨i, h1, h2⟩)
      · exact ⟨j, by omega, h.symm⟩
      · exact ⟨i, by omega, h2⟩
    · rintro ⟨i, h1, h2⟩
      by_cases e : i = j
      · subst e; exact .inl h2.symm
      · exact .inr ⟨i, by omega, h2⟩
theorem roundJ_mem {O : List Nat} {f j a : Nat} : a ∈ roundJ O f j ↔ ∃ i, i < j ∧ O.getD ((i + f) % O.length) 0 = a := by
  induction j with
  | zero => simp [roundJ]
  | succ j ih =>
    rw [roundJ, List.mem_cons, ih]
    constructor
    · rintro (h | ⟨i, h1, h2⟩)
      · exact ⟨j, by omega, h.symm⟩
      · exact ⟨i, by omega, h2⟩
    · rintro ⟨i, h1, h2⟩
      by_cases e : i = j
      · subst e; exact .inl h2.symm
      · exact .inr ⟨i, by omega, h2⟩
theorem firstJ_all (O : List Nat) (a : Nat) : a ∈ firstJ O O.length ↔ a ∈ O := by
  rw [firstJ_mem (Nat.le_refl _)]
  constructor
  · rintro ⟨i, h1, h2⟩
    rw [← h2]
    simp [h1]
  · intro h
    obtain ⟨i, hi, e⟩ := List.getElem_of_mem h
    exact ⟨i, hi, by simp [hi, e]⟩
theorem roundJ_all (O : List Nat) (f a : Nat) : a ∈ roundJ O f O.length ↔ a ∈ O := by
  rw [roundJ_mem]
  constructor
  · rintro ⟨i, h1, h2⟩
    have : (i + f) % O.length < O.length := Nat.mod_lt _ (by omega)
    rw [← h2]
    simp [this]
  · intro h
    obtain ⟨m, hm, e⟩ := List.getElem_of_mem h
    refine ⟨(m + (O.length - f % O.length)) % O.length, Nat.mod_lt _ (by omega), ?_⟩
    have hf := Nat.mod_lt f (show O.length > 0 by omega)
    have hm2 : ((m + (O.length - f % O.length)) % O.length + f) % O.length = m := by
      have : m + (O.length - f % O.length) + f % O.length = m + O.length := by omega
      rw [Nat.mod_add_mod, ← Nat.add_mod_mod, this, Nat.add_mod_right, Nat.mod_eq_of_lt hm]
    rw [hm2]
    simp [hm, e]
theorem firstJ_lt {O : List Nat} (h : ∀ x ∈ O, x < 16) {j : Nat} (hj : j ≤ O.length) : ∀ x ∈ firstJ O j, x < 16 := by
  intro x hx
  obtain ⟨i, h1, h2⟩ := (firstJ_mem hj).1 hx
  have hi : i < O.length := by omega
  rw [← h2]
  simp [hi]
  exact h _ (List.getElem_mem hi)
theorem roundJ_lt {O : List Nat} (h : ∀ x ∈ O, x < 16) {f j : Nat} (hj : j ≤ O.length) : ∀ x ∈ roundJ O f j, x < 16 := by
  intro x hx
  obtain ⟨i, h1, h2⟩ := roundJ_mem.1 hx
  have hi : (i + f) % O.length < O.length := Nat.mod_lt _ (by omega)
  rw [← h2]
  simp [hi]
  exact h _ (List.getElem_mem hi)
theorem firstJ_len (O : List Nat) (j : Nat) : (firstJ O j).length = j := by
  induction j with
  | zero => rfl
  | succ j ih => rw [firstJ, List.length_cons, ih]
theorem roundJ_len (O : List Nat) (f j : Nat) : (roundJ O f j).length = j := by
  induction j with
  | zero => rfl
  | succ j ih => rw [roundJ, List.length_cons, ih]

/-- Two disks that have nothing in common, both from block 'base' on. -/
def Two (base : Nat) (w : World) (B1 : Nat) (d1 : Dk) (B2 : Nat) (d2 : Dk) : Prop := ∃ S1 S2, DkAt w B1 S1 d1 ∧ DkAt w B2 S2 d2 ∧ (∀ x ∈ S1, x ∉ S2) ∧ (∀ x ∈ S1, base ≤ x) ∧ ∀ x ∈ S2, base ≤ x
theorem Two.own1 {base : Nat} {w : World} {B1 B2 : Nat} {d1 d2 : Dk} (h : Two base w B1 d1 B2 d2) : Own base w B1 d1 := by
  obtain ⟨S1, S2, h1, h2, h3, h4, h5⟩ := h
  exact ⟨S1, h1, h4⟩
theorem Two.own2 {base : Nat} {w : World} {B1 B2 : Nat} {d1 d2 : Dk} (h : Two base w B1 d1 B2 d2) : Own base w B2 d2 := by
  obtain ⟨S1, S2, h1, h2, h3, h4, h5⟩ := h
  exact ⟨S2, h2, h5⟩
theorem Two.below {base : Nat} {w w' : World} {B1 B2 : Nat} {d1 d2 : Dk} (h : Two base w B1 d1 B2 d2) (hb : Below w.heap.size w w') : Two base w' B1 d1 B2 d2 := by
  obtain ⟨S1, S2, h1, h2, h3, h4, h5⟩ := h
  exact ⟨S1, S2, h1.below hb, h2.below hb, h3, h4, h5⟩
theorem Two.drew {base : Nat} {w : World} {B1 B2 : Nat} {d1 d2 : Dk} (h : Two base w B1 d1 B2 d2) : Two base w.drew B1 d1 B2 d2 := by
  obtain ⟨S1, S2, h1, h2, h3, h4, h5⟩ := h
  exact ⟨S1, S2, h1.kept (fun _ _ => rfl), h2.kept (fun _ _ => rfl), h3, h4, h5⟩
theorem Two.swap {base : Nat} {w : World} {B1 B2 : Nat} {d1 d2 : Dk} (h : Two base w B1 d1 B2 d2) : Two base w B2 d2 B1 d1 := by
  obtain ⟨S1, S2, h1, h2, h3, h4, h5⟩ := h
  exact ⟨S2, S1, h2, h1, fun x hx hm => h3 x hm hx, h5, h4⟩
theorem two_of {b1 : Nat} {w : World} {B1 B2 : Nat} {d1 d2 : Dk} {w0 : World} (h1 : Own b1 w0 B1 d1) (h2 : Own w0.heap.size w B2 d2) (hb : Below w0.heap.size w0 w) (hb1 : b1 ≤ w0.heap.size) : Two b1 w B1 d1 B2 d2 := by
  obtain ⟨S1, k1, k2⟩ := h1
  obtain ⟨S2, k3, k4⟩ := h2
  exact ⟨S1, S2, k1.below hb, k3, fun x hx hm => by have := k1.lt x hx; have := k4 x hm; omega, k2, fun x hx => Nat.le_trans hb1 (k4 x hx)⟩
theorem two_write {base : Nat} {w : World} {B1 B2 : Nat} {d1 d2 : Dk} (h : Two base w B1 d1 B2 d2) (hb : base ≤ w.heap.size) (i : Nat) (hi : i < d1.sure.length) (v : Value) (b : List UInt8) {lim : Nat} (hv : InAt w lim v b) (hl : b.length ≤ 64) (hn : d1.ws.length ≤ 1000000) :
    Calls Try.prog 12 #[.pointer (some ⟨B1, 0, none⟩), .int .i64 (i : Int), v] w fun e w' => e = .returned (.int .i64 0) ∧ Two base w' B1 (d1.write i b) B2 d2 ∧ Below base w w' := by
  obtain ⟨S1, S2, h1, h2, h3, h4, h5⟩ := h
  refine (write_ok h1 i hi v b hv hl hn).mono fun e w' ⟨k1, S', k2, k3, k4⟩ => ⟨k1, ⟨S', S2, k2, h2.chg k3 (fun x hx hm => h3 x hm hx), fun x hx hm => ?_, fun x hx => (k4 x hx).elim (h4 x) (fun h => Nat.le_trans hb h), h5⟩, k3.belowOf h4 hb⟩
  rcases k4 x hx with h | h
  · exact h3 x h hm
  · have := h2.lt x hm; omega
end Go.Proofs.Ytapfkoojplbfmab
