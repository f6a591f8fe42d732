/- What is left, where all is kept; disks, plainly. -/
import Derived.Test.YtjaidhglemnakaaWDisk
import Derived.Test.YtjaidhglemnakaaDFail
set_option linter.unusedSimpArgs false
set_option linter.unusedVariables false
namespace Go.Proofs.Ytjaidhglemnakaa

theorem lastAt_take_succ {ws : List (Nat × Sec)} {t : Nat} (ht : t < ws.length) (a : Nat) : lastAt (ws.take (t + 1)) a = if (ws[t]'ht).1 = a then some (ws[t]'ht).2 else lastAt (ws.take t) a := by
  rw [List.take_succ_eq_append_getElem ht]
  exact lastAt_snoc _ _ _ _
/-- Where all writes are kept, and none is torn, what is left is what is seen. -/
theorem fail_all_to {d : Dk} (h : d.ok) (keep : Nat) (torn : Int) (hk : ∀ i, i < d.ws.length → keep.testBit i = true) (ht : torn < 0) (t : Nat) (hl : t ≤ d.ws.length) (a : Nat) (ha : a < d.sure.length) :
    (failTo d.sure d.ws keep torn t).getD a [] = (lastAt (d.ws.take t) a).getD (d.sure.getD a []) := by
  induction t with
  | zero => simp [failTo, lastAt]
  | succ t ih =>
    have hlt : t < d.ws.length := by omega
    rw [failTo_succ hlt, lastAt_take_succ hlt]
    unfold failStep
    rw [if_pos (hk t hlt)]
    have htn : tornN torn t = 64 := by unfold tornN; rw [if_neg (by omega)]
    have hfl := failTo_len d.sure d.ws keep torn t
    have hff := failTo_full keep torn h.full h.ats t
    have hin := h.ats _ (List.getElem_mem hlt)
    rw [htn, lay_all (hff.getD (by rw [hfl]; exact hin.1)) hin.2]
    by_cases e : (d.ws[t]'hlt).1 = a
    · rw [if_pos e, e]
      simp [List.getElem?_set_self (show a < (failTo d.sure d.ws keep torn t).length by rw [hfl]; exact ha)]
    · rw [if_neg e, ← ih (by omega)]
      simp only [List.getD_eq_getElem?_getD]
      rw [List.getElem?_set_ne e]
theorem fail_all {d : Dk} (h : d.ok) (keep : Nat) (torn : Int) (hk : ∀ i, i < d.ws.length → keep.testBit i = true) (ht : torn < 0) (h64 : d.ws.length ≤ 64) (a : Nat) (ha : a < d.sure.length) : (d.fail keep torn).view a = d.view a := by
  show (failTo d.sure d.ws keep torn (min 64 d.ws.length)).getD a [] = _
  rw [Nat.min_eq_right h64, fail_all_to h keep torn hk ht _ (Nat.le_refl _) a ha, List.take_length]
  rfl

theorem Dk.fail_len (d : Dk) (keep : Nat) (torn : Int) : (d.fail keep torn).sure.length = d.sure.length := by unfold Dk.fail; rw [failTo_len]
/-- If all that waits is kept, all is there. -/
theorem Dk.fail_same {d : Dk} (h : d.ok) (keep : Nat) (torn : Int) (hk : ∀ i, i < d.ws.length → keep.testBit i = true) (ht : torn < 0) (h64 : d.ws.length ≤ 64) : (d.fail keep torn).all = d.all := by
  refine Dk.all_eq (h.fail keep torn) (by rw [Dk.fail_len, Dk.all_len h]) (fun i hi => ?_)
  rw [Dk.fail_len] at hi
  rw [Dk.all_chunk h hi, fail_all h keep torn hk ht h64 i hi]
theorem failTo_nil (sure : List Sec) (keep : Nat) (torn : Int) (t : Nat) : failTo sure [] keep torn t = sure := by
  induction t with
  | zero => rfl
  | succ t ih => rw [failTo]; simpa using ih
/-- If nothing waits, a failure changes nothing. -/
theorem Dk.fail_quiet {d : Dk} (hw : d.ws = []) (keep : Nat) (torn : Int) : d.fail keep torn = d := by
  obtain ⟨s, ws⟩ := d
  have e : ws = [] := hw
  subst e
  unfold Dk.fail
  simp only [failTo_nil]
end Go.Proofs.Ytjaidhglemnakaa
