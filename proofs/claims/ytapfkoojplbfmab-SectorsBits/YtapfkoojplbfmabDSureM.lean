/- What is left of a disk on which some sectors of 8 were written, plainly. -/
import Derived.Test.YtapfkoojplbfmabDWritten
set_option linter.unusedSimpArgs false
set_option linter.unusedVariables false
namespace Go.Proofs.Ytapfkoojplbfmab

/-- The last number below n of which P holds. -/
def lastK (P : Nat → Bool) : Nat → Option Nat
  | 0 => none
  | n + 1 => if P n = true then some n else lastK P n
theorem lastK_lt {P : Nat → Bool} {n m : Nat} (h : lastK P n = some m) : m < n := by
  induction n with
  | zero => cases h
  | succ n ih =>
    rw [lastK] at h
    split at h
    · cases h; omega
    · have := ih h; omega
theorem lastK_congr {P Q : Nat → Bool} {n : Nat} (h : ∀ i, i < n → P i = Q i) : lastK P n = lastK Q n := by
  induction n with
  | zero => rfl
  | succ n ih => rw [lastK, lastK, h n (by omega), ih (fun i hi => h i (by omega))]
theorem lastK_more {P : Nat → Bool} {n m : Nat} (h : n ≤ m) (hn : ∀ i, n ≤ i → i < m → P i = false) : lastK P m = lastK P n := by
  induction m with
  | zero => rw [show n = 0 by omega]
  | succ m ih =>
    rcases Nat.lt_or_ge n (m + 1) with h' | h'
    · rw [lastK, hn m (by omega) (by omega), ih (by omega) (fun i h1 h2 => hn i h1 (by omega))]
      simp
    · rw [show n = m + 1 by omega]
/-- Which sector the i-th write is to. -/
def wrA (l : List UInt16) (i : Nat) : Nat := (l.getD i 0).toNat % 8
def sel (l : List UInt16) : Option Nat → Sec
  | none => z64
  | some i => pad (wrB l i)
theorem wrB_pad (l : List UInt16) (i : Nat) : (pad (wrB l i)).length = 64 := pad_len (by simp [wrB])
theorem wrA_lt (l : List UInt16) (i : Nat) : wrA l i < 8 := Nat.mod_lt _ (by omega)
/-- What was written from k on. -/
def wrWs (l : List UInt16) (k n : Nat) : List (Nat × Sec) := (List.range n).map fun m => (wrA l (k + m), pad (wrB l (k + m)))
theorem wrWs_succ (l : List UInt16) (k n : Nat) : wrWs l k (n + 1) = wrWs l k n ++ [(wrA l (k + n), pad (wrB l (k + n)))] := by
  unfold wrWs
  rw [List.range_succ, List.map_append]
  rfl
theorem wrWs_len (l : List UInt16) (k n : Nat) : (wrWs l k n).length = n := by simp [wrWs]
theorem getD_map_range {f : Nat → Sec} {n i : Nat} (h : i < n) : ((List.range n).map f).getD i [] = f i := by simp [h]
theorem wrTo_view (l : List UInt16) (k j : Nat) (a : Nat) (ha : a < 8) : (wrTo l k j).view a = sel l (lastK (fun i => wrA l i == a) j) := by
  induction j with
  | zero => rw [wrTo, Dk.view_new ha]; rfl
  | succ j ih =>
    rw [wrTo, Dk.view_write, lastK]
    have hv : (if j = k then (wrTo l k j).sync else wrTo l k j).view a = (wrTo l k j).view a := by
      split
      · rw [Dk.view_sync (by rw [wrTo_len]; exact ha)]
      · rfl
    rw [hv, ih]
    show (if wrA l j = a then _ else _) = _
    by_cases e : wrA l j = a
    · simp [e, sel]
    · simp [e]
theorem wrTo_ws_before (l : List UInt16) (k j : Nat) (h : j ≤ k) : (wrTo l k j).ws = wrWs l 0 j := by
  induction j with
  | zero => rfl
  | succ j ih =>
    show (if j = k then (wrTo l k j).sync else wrTo l k j).ws ++ [_] = _
    rw [if_neg (by omega), ih (by omega), wrWs_succ]
    simp [wrA]
theorem wrTo_after (l : List UInt16) (k n : Nat) : (wrTo l k (k + 1 + n)).ws = wrWs l k (n + 1) ∧ ∀ a, a < 8 → (wrTo l k (k + 1 + n)).sure.getD a [] = sel l (lastK (fun i => wrA l i == a) k) := by
  induction n with
  | zero =>
    constructor
    · show (if k = k then (wrTo l k k).sync else wrTo l k k).ws ++ [_] = _
      rw [if_pos rfl, wrWs_succ]
      simp [Dk.sync, wrWs, wrA]
    · intro a ha
      show (if k = k then (wrTo l k k).sync else wrTo l k k).sure.getD a [] = _
      rw [if_pos rfl]
      show ((List.range (wrTo l k k).sure.length).map (wrTo l k k).view).getD a [] = _
      rw [getD_map_range (by rw [wrTo_len]; exact ha), wrTo_view l k k a ha]
  | succ n ih =>
    constructor
    · show (if k + 1 + n = k then (wrTo l k (k + 1 + n)).sync else wrTo l k (k + 1 + n)).ws ++ [_] = _
      rw [if_neg (by omega), ih.1, wrWs_succ l k (n + 1)]
      simp [wrA, show k + 1 + n = k + (n + 1) by omega]
    · intro a ha
      show (if k + 1 + n = k then (wrTo l k (k + 1 + n)).sync else wrTo l k (k + 1 + n)).sure.getD a [] = _
      rw [if_neg (by omega)]
      exact ih.2 a ha
/-- The disk, n writes done, those from k on not sure. -/
def wrD (l : List UInt16) (k n : Nat) : Dk := if k = n then (wrTo l k n).sync else wrTo l k n
theorem wrD_is (l : List UInt16) (k n : Nat) (h : k ≤ n) : (wrD l k n).sure.length = 8 ∧ (wrD l k n).ws = wrWs l k (n - k) ∧ ∀ a, a < 8 → (wrD l k n).sure.getD a [] = sel l (lastK (fun i => wrA l i == a) k) := by
  unfold wrD
  by_cases e : k = n
  · subst e
    rw [if_pos rfl]
    refine ⟨by simp [Dk.sync, wrTo_len], by simp [Dk.sync, wrWs], fun a ha => ?_⟩
    show ((List.range (wrTo l k k).sure.length).map (wrTo l k k).view).getD a [] = _
    rw [getD_map_range (by rw [wrTo_len]; exact ha), wrTo_view l k k a ha]
  · rw [if_neg e]
    obtain ⟨m, rfl⟩ : ∃ m, n = k + 1 + m := ⟨n - k - 1, by omega⟩
    obtain ⟨h1, h2⟩ := wrTo_after l k m
    exact ⟨wrTo_len _ _ _, by rw [h1, show k + 1 + m - k = m + 1 by omega], h2⟩
/-- Is the i-th write kept? -/
def keptB (k keep i : Nat) : Bool := decide (i < k) || (decide (i - k < 64) && keep.testBit (i - k))
theorem wrFail (l : List UInt16) (k n keep : Nat) (h : k ≤ n) (t : Nat) (ht : t ≤ min 64 (n - k)) (a : Nat) (ha : a < 8) :
    (failTo (wrD l k n).sure (wrD l k n).ws keep (-1) t).getD a [] = sel l (lastK (fun i => wrA l i == a && keptB k keep i) (k + t)) := by
  obtain ⟨h1, h2, h3⟩ := wrD_is l k n h
  induction t with
  | zero =>
    rw [failTo, h3 a ha]
    congr 1
    exact lastK_congr (fun i hi => by simp [keptB]; omega)
  | succ t ih =>
    have hlt : t < (wrD l k n).ws.length := by rw [h2, wrWs_len]; omega
    have hget : (wrD l k n).ws[t]'hlt = (wrA l (k + t), pad (wrB l (k + t))) := by
      simp only [h2, wrWs, List.getElem_map, List.getElem_range]
    have hfl := failTo_len (wrD l k n).sure (wrD l k n).ws keep (-1) t
    have hif : (failTo (wrD l k n).sure (wrD l k n).ws keep (-1) t).length = 8 := by rw [hfl, h1]
    have ih' := ih (by omega)
    rw [show k + (t + 1) = (k + t) + 1 by omega, lastK]
    have hst : failTo (wrD l k n).sure (wrD l k n).ws keep (-1) (t + 1) = failStep keep (-1) (failTo (wrD l k n).sure (wrD l k n).ws keep (-1) t) t (wrA l (k + t), pad (wrB l (k + t))) := by
      rw [failTo]
      have : (wrD l k n).ws[t]? = some (wrA l (k + t), pad (wrB l (k + t))) := by rw [List.getElem?_eq_getElem hlt, hget]
      rw [this]
    rw [hst]
    unfold failStep
    have hk : keptB k keep (k + t) = keep.testBit t := by
      unfold keptB
      rw [show k + t - k = t by omega, decide_eq_false (show ¬ k + t < k by omega), decide_eq_true (show t < 64 by omega), Bool.false_or, Bool.true_and]
    rw [hk]
    have htn : tornN (-1) t = 64 := by unfold tornN; rw [if_neg (by omega)]
    by_cases hb : keep.testBit t = true
    · rw [if_pos hb, htn]
      by_cases e : wrA l (k + t) = a
      · simp only [e, hb, beq_self_eq_true, Bool.and_self, if_true]
        have hal : a < (failTo (wrD l k n).sure (wrD l k n).ws keep (-1) t).length := by omega
        simp only [List.getD_eq_getElem?_getD, List.getElem?_set_self hal, Option.getD_some]
        have hfull : Full (failTo (wrD l k n).sure (wrD l k n).ws keep (-1) t) := by
          refine failTo_full keep (-1) ?_ ?_ t
          · intro i hi
            have := h3 i (by omega)
            rw [List.getD_eq_getElem?_getD, List.getElem?_eq_getElem hi, Option.getD_some] at this
            rw [this]
            cases lastK (fun x => wrA l x == i) k with
            | none => simp [sel, z64]
            | some m => exact wrB_pad l m
          · intro p hp
            rw [h2] at hp
            obtain ⟨m, _, rfl⟩ := List.mem_map.1 hp
            exact ⟨by rw [h1]; exact wrA_lt l _, wrB_pad l _⟩
        have := hfull.getD hal
        rw [List.getD_eq_getElem?_getD] at this
        rw [lay_all this (wrB_pad l _)]
        rfl
      · have e' : (wrA l (k + t) == a) = false := by simpa using e
        simp only [e', Bool.false_and, Bool.false_eq_true, if_false]
        rw [← ih']
        simp only [List.getD_eq_getElem?_getD]
        rw [List.getElem?_set_ne e]
    · have hb' : keep.testBit t = false := by simpa using hb
      simp only [hb', Bool.and_false, Bool.false_eq_true, if_false]
      exact ih'
theorem wrFail_view (l : List UInt16) (k n keep : Nat) (h : k ≤ n) (a : Nat) (ha : a < 8) : ((wrD l k n).fail keep (-1)).view a = sel l (lastK (fun i => wrA l i == a && keptB k keep i) n) := by
  have h2 := (wrD_is l k n h).2.1
  have hl : (wrD l k n).ws.length = n - k := by rw [h2, wrWs_len]
  show (failTo (wrD l k n).sure (wrD l k n).ws keep (-1) (min 64 (wrD l k n).ws.length)).getD a [] = _
  rw [hl, wrFail l k n keep h _ (Nat.le_refl _) a ha]
  congr 1
  refine (lastK_more (by omega) (fun i h1 h2 => ?_)).symm
  have : keptB k keep i = false := by
    unfold keptB
    rw [decide_eq_false (by omega), decide_eq_false (by omega)]
    rfl
  simp [this]
end Go.Proofs.Ytapfkoojplbfmab
