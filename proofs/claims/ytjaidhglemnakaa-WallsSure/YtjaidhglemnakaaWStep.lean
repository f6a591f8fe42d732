/- What is left, where all is kept; disks, plainly; Records that are added one by one; two disks. -/
import Derived.Test.YtjaidhglemnakaaWDisk
import Derived.Test.YtjaidhglemnakaaDFail
import Derived.Test.YtjaidhglemnakaaWAlive
import Derived.Test.YtjaidhglemnakaaWArgs
set_option linter.unusedSimpArgs false
set_option linter.unusedVariables false
namespace Go.Proofs.Ytjaidhglemnakaa

theorem lastAt_take_succ {ws : List (Nat × Sec)} {t : Nat} (ht : t < ws.length) (a : Nat) : lastAt (ws.take (t + 1)) a = if (ws[t]'ht).1 = a then some (ws[t]'ht).2 else lastAt (ws.take t) a := by
  rw [List.take_succ_eq_append_getElem ht]
  exact lastAt_snoc _ _ _ _
/-- Where all writes are kept, and none is torn, what is left is what is seen. -/
theorem fail_all_to {d : Dk} (h : d.ok) (keep : Nat) (torn : Int) (hk : ∀ i, i < d.ws.length → keep.testBit i = true) (ht : torn < 0) (t : Nat) (hl : t ≤ d.ws.length) (a : Nat) (ha : a < d.sure.length) :
    (failTo d.sure d.ws keep torn t).getD a [] = (lastAt (d.ws.take t) a).getD (d.sure.getD a []) := by
  induction t with
  | zero => simp [failTo, lastAt]
  | succ t ih =>
    have hlt : t < d.ws.length := by omega
    rw [failTo_succ hlt, lastAt_take_succ hlt]
    unfold failStep
    rw [if_pos (hk t hlt)]
    have htn : tornN torn t = 64 := by unfold tornN; rw [if_neg (by omega)]
    have hfl := failTo_len d.sure d.ws keep torn t
    have hff := failTo_full keep torn h.full h.ats t
    have hin := h.ats _ (List.getElem_mem hlt)
    rw [htn, lay_all (hff.getD (by rw [hfl]; exact hin.1)) hin.2]
    by_cases e : (d.ws[t]'hlt).1 = a
    · rw [if_pos e, e]
      simp [List.getElem?_set_self (show a < (failTo d.sure d.ws keep torn t).length by rw [hfl]; exact ha)]
    · rw [if_neg e, ← ih (by omega)]
      simp only [List.getD_eq_getElem?_getD]
      rw [List.getElem?_set_ne e]
theorem fail_all {d : Dk} (h : d.ok) (keep : Nat) (torn : Int) (hk : ∀ i, i < d.ws.length → keep.testBit i = true) (ht : torn < 0) (h64 : d.ws.length ≤ 64) (a : Nat) (ha : a < d.sure.length) : (d.fail keep torn).view a = d.view a := by
  show (failTo d.sure d.ws keep torn (min 64 d.ws.length)).getD a [] = _
  rw [Nat.min_eq_right h64, fail_all_to h keep torn hk ht _ (Nat.le_refl _) a ha, List.take_length]
  rfl

theorem Dk.fail_len (d : Dk) (keep : Nat) (torn : Int) : (d.fail keep torn).sure.length = d.sure.length := by unfold Dk.fail; rw [failTo_len]
/-- If all that waits is kept, all is there. -/
theorem Dk.fail_same {d : Dk} (h : d.ok) (keep : Nat) (torn : Int) (hk : ∀ i, i < d.ws.length → keep.testBit i = true) (ht : torn < 0) (h64 : d.ws.length ≤ 64) : (d.fail keep torn).all = d.all := by
  refine Dk.all_eq (h.fail keep torn) (by rw [Dk.fail_len, Dk.all_len h]) (fun i hi => ?_)
  rw [Dk.fail_len] at hi
  rw [Dk.all_chunk h hi, fail_all h keep torn hk ht h64 i hi]
theorem failTo_nil (sure : List Sec) (keep : Nat) (torn : Int) (t : Nat) : failTo sure [] keep torn t = sure := by
  induction t with
  | zero => rfl
  | succ t ih => rw [failTo]; simpa using ih
/-- If nothing waits, a failure changes nothing. -/
theorem Dk.fail_quiet {d : Dk} (hw : d.ws = []) (keep : Nat) (torn : Int) : d.fail keep torn = d := by
  obtain ⟨s, ws⟩ := d
  have e : ws = [] := hw
  subst e
  unfold Dk.fail
  simp only [failTo_nil]
end Go.Proofs.Ytjaidhglemnakaa
namespace Go.Proofs.Ytjaidhglemnakaa
open Go.RowKit Go.Maps

/-- The first k records of a list. -/
def pfx (l : List (Value × List UInt8)) (k : Nat) : List (List UInt8) := (l.take k).map (·.2)
theorem pfx_zero (l : List (Value × List UInt8)) : pfx l 0 = [] := rfl
theorem pfx_all {l : List (Value × List UInt8)} {k : Nat} (h : l.length ≤ k) : pfx l k = l.map (·.2) := by unfold pfx; rw [List.take_of_length_le h]
theorem pfx_succ {l : List (Value × List UInt8)} {k : Nat} (h : k < l.length) : pfx l (k + 1) = pfx l k ++ [(l[k]'h).2] := by
  unfold pfx
  rw [List.take_succ_eq_append_getElem h, List.map_append]
  rfl
theorem span_pfx (l : List (Value × List UInt8)) (k : Nat) : span (pfx l k) ≤ span (l.map (·.2)) := by
  unfold pfx
  have h := List.take_append_drop k l
  have h2 : span (l.map (·.2)) = span ((l.take k).map (·.2)) + span ((l.drop k).map (·.2)) := by rw [← span_app, ← List.map_append, h]
  omega
theorem span_sum (R : List (List UInt8)) : span R * 64 ≤ (R.map List.length).sum + 71 * R.length := by
  induction R with
  | nil => simp [span]
  | cons r R ih =>
    rw [span_cons, List.map_cons, List.sum_cons, List.length_cons]
    have : secs r.length * 64 ≤ r.length + 71 := by unfold secs; omega
    omega
theorem span_weigh {l : List (Value × List UInt8)} {a b : Nat} (h : weigh l ≤ a) (hl : l.length ≤ b) : span (l.map (·.2)) * 64 ≤ a + 71 * b := by
  have h1 := span_sum (l.map (·.2))
  rw [List.map_map, List.length_map] at h1
  have h2 : ((l.map (List.length ∘ fun x => x.2)).sum) = (l.map (fun x => x.2.length)).sum := rfl
  unfold weigh at h
  omega
theorem secs_most {n : Nat} (h : n ≤ 16384) : secs n ≤ 257 := by unfold secs; omega
/-- What holds when j records were added. -/
structure AddI (w wr : World) (L B size : Nat) (l : List (Value × List UInt8)) (j : Nat) (d : Dk) : Prop where
  ls : LS w.heap.size wr L B d (pfx l j)
  ds : d.sure.length = size
  dw : d.ws.length ≤ j * 260
  be : Below w.heap.size w wr
theorem AddI.start {w w0 wr : World} {L B size : Nat} {l : List (Value × List UInt8)} (h : LS w.heap.size wr L B (Dk.new size).opened []) (be : Below w.heap.size w wr) : AddI w wr L B size l 0 (Dk.new size).opened :=
  ⟨h, by rw [Dk.opened_len, Dk.new_len], by rw [Dk.opened_ws]; simp, be⟩
theorem add_step {w wr : World} {L B size : Nat} {l : List (Value × List UInt8)} {j : Nat} {d : Dk} (h : AddI w wr L B size l j d) (hj : j < l.length) (v : Value) (hv : InAt wr wr.heap.size v (l[j]'hj).2) (hr : (l[j]'hj).2.length ≤ 16384) (hf : span (l.map (·.2)) ≤ size) (h3 : j ≤ 3000) :
    Calls Try.prog 8 #[.pointer (some ⟨L, 0, none⟩), v] wr fun e w' => e = .returned (.int .i64 0) ∧ AddI w w' L B size l (j + 1) (d.added (span (pfx l j)) (l[j]'hj).2) := by
  have hd := h.dw
  have hs := h.ds
  have hsp := span_pfx l (j + 1)
  rw [pfx_succ hj, span_snoc] at hsp
  have hse := secs_most hr
  refine (ls_add h.ls h.be.size v _ hv hr (by omega) (by omega)).mono ?_
  rintro e w' ⟨rfl, k1, k2, -⟩
  exact ⟨rfl, ⟨by rw [pfx_succ hj]; exact k1, by rw [Dk.added_len]; exact hs, by unfold Dk.added; rw [Dk.puts_wlen]; omega, h.be.trans k2⟩⟩
theorem force_step {w wr : World} {L B size : Nat} {l : List (Value × List UInt8)} {j : Nat} {d : Dk} (h : AddI w wr L B size l j d) :
    Calls Try.prog 9 #[.pointer (some ⟨L, 0, none⟩)] wr fun e w' => e = .returned (.int .i64 0) ∧ AddI w w' L B size l j d.sync := by
  refine (ls_force h.ls h.be.size).mono ?_
  rintro e w' ⟨rfl, k1, k2, -⟩
  exact ⟨rfl, ⟨k1, by rw [Dk.sync_len]; exact h.ds, Nat.zero_le _, h.be.trans k2⟩⟩
/-- Two disks that share no memory. -/
def TwoD (base : Nat) (w : World) (B1 : Nat) (d1 : Dk) (B2 : Nat) (d2 : Dk) : Prop := ∃ S1 S2, DkAt w B1 S1 d1 ∧ DkAt w B2 S2 d2 ∧ (∀ x ∈ S1, x ∉ S2) ∧ (∀ x ∈ S1, base ≤ x) ∧ ∀ x ∈ S2, base ≤ x
theorem two_of {base : Nat} {w w' : World} {B1 B2 : Nat} {d1 d2 : Dk} (h1 : Own base w B1 d1) (h2 : Own w.heap.size w' B2 d2) (hb : Below w.heap.size w w') (hz : base ≤ w.heap.size) : TwoD base w' B1 d1 B2 d2 := by
  obtain ⟨S1, a1, a2⟩ := h1
  obtain ⟨S2, b1, b2⟩ := h2
  exact ⟨S1, S2, a1.below hb, b1, fun x hx hx2 => by have := a1.lt x hx; have := b2 x hx2; omega, a2, fun x hx => Nat.le_trans hz (b2 x hx)⟩
theorem two_open {base : Nat} {w : World} {B1 B2 : Nat} {d1 d2 : Dk} (h : TwoD base w B1 d1 B2 d2) (hb : base ≤ w.heap.size) (hw : d1.ws.length ≤ 800000) : Calls Try.prog 11 #[.pointer (some ⟨B1, 0, none⟩)] w fun e w' =>
    ∃ L v X, e = .returned (.tuple #[.pointer (some ⟨L, 0, none⟩), v, .int .i64 0]) ∧ Own base w' B1 d1.opened ∧ Own base w' B2 d2 ∧ RcOwn w' w.heap.size v X ∧ X.map (·.2) = recs d1.all ∧ Below base w w' ∧ OChg (KT true lT) w w' := by
  obtain ⟨S1, S2, h1, h2, h3, h4, h5⟩ := h
  refine (open_ok h1 hw).mono ?_
  rintro e w' ⟨L, v, X, S', rfl, k1, k2, k3, k4, k5, k6⟩
  exact ⟨L, v, X, rfl, ⟨S', k2.dk, fun x hx => (k6 x hx).elim (h4 x) (fun h => Nat.le_trans hb h)⟩, ⟨S2, h2.chg k5 (fun x hx hx1 => h3 x hx1 hx), h5⟩, k3, k4, chg_base k5 h4 hb, (h1.och k5).mono (fun o => dT_lT)⟩
theorem bits64 : ∀ i, i < 64 → Nat.testBit 18446744073709551615 i = true := by decide
end Go.Proofs.Ytjaidhglemnakaa
