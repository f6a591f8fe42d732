import Derived.Test.YtndjgilheleplaaGreatDoorM5
import Derived.Deep.QuietTactic
/- The walks of the document's own reader. -/
set_option linter.unusedSimpArgs false
set_option linter.unusedVariables false
namespace Go.Proofs.YtndjgilheleplaaGreatDoor
open Go.RowKit

def takeR (n : Nat) (s : St) : List UInt8 × St := if s.bad = true ∨ s.rest.length < n then (List.replicate n 0, ⟨s.rest, true⟩) else (s.rest.take n, ⟨s.rest.drop n, s.bad⟩)
def highR (n : Nat) (s : St) : Nat × St := (hiN (takeR n s).1, (takeR n s).2)
def textR (s : St) : ByteArray × St := (⟨(takeR (highR 1 s).1 (highR 1 s).2).1.toArray⟩, (takeR (highR 1 s).1 (highR 1 s).2).2)
theorem takeR_len (n : Nat) (s : St) : (takeR n s).1.length = n := by
  unfold takeR
  split
  · simp
  · simp only [List.length_take]; omega
theorem takeR_no {n : Nat} {s : St} (h : s.bad = true ∨ s.rest.length < n) : takeR n s = (List.replicate n 0, ⟨s.rest, true⟩) := by unfold takeR; rw [if_pos h]
theorem takeR_yes {n : Nat} {s : St} (h : ¬ (s.bad = true ∨ s.rest.length < n)) : takeR n s = (s.rest.take n, ⟨s.rest.drop n, s.bad⟩) := by unfold takeR; rw [if_neg h]

/-- The document's reader in block R stands at s. -/
def RfAt (w : World) (R lim : Nat) (s : St) : Prop :=
  ∃ v, w.heap[R]? = some (.cells #[v, .bool s.bad] 99 (0, 0)) ∧ InAt w lim v s.rest ∧ lim ≤ R ∧ R < w.heap.size
theorem RfAt.kept {w w' : World} {R lim : Nat} {s : St} (h : RfAt w R lim s) (hz : w.heap.size ≤ w'.heap.size) (hb : ∀ k, k < w.heap.size → w'.heap[k]? = w.heap[k]?) : RfAt w' R lim s := by
  obtain ⟨v, h1, h2, h3, h4⟩ := h
  exact ⟨v, by rw [hb R h4]; exact h1, h2.kept (fun k hk => hb k (by omega)), h3, by omega⟩
theorem RfAt.drewN {w : World} {R lim : Nat} {s : St} (h : RfAt w R lim s) (n : Nat) : RfAt (w.drewN n) R lim s := h.kept (Nat.le_refl _) (fun _ _ => rfl)
theorem Kept.drewN {B base : Nat} {a w : World} (h : Kept B base a w) (n : Nat) : Kept B base a (w.drewN n) := ⟨h.os, h.tape, h.output, h.size, h.block⟩
theorem RfAt.below {w w' : World} {R lim : Nat} {s : St} (h : RfAt w R lim s) (hb : Below w.heap.size w w') : RfAt w' R lim s := h.kept hb.size hb.block

theorem made_zero (n : Nat) : (madeCells (Value.cells (.int .u8 0)) (n * 1)).toList = bcells (List.replicate n 0) := by
  rw [Nat.mul_one]
  show (madeCells #[.int .u8 0] n).toList = _
  rw [toList_madeCells_one]
  simp [bcells, bv]

set_option maxHeartbeats 2000000 in
set_option maxRecDepth 1000000 in
theorem rftake_any (w : World) (R lim n : Nat) (s : St) (h : RfAt w R lim s) (hn : n ≤ 65536) :
    Calls Tryz.prog 57 #[ptr R, .int .i64 (n : Int)] w fun e w' => ∃ v, e = .returned v ∧ InAt w' w'.heap.size v (takeR n s).1 ∧ RfAt w' R lim (takeR n s).2 ∧ Kept R w.heap.size w w' := by
  obtain ⟨i0, hi, hz0, hz1, hz2⟩ := info_parts info_u8
  obtain ⟨v, h1, h2, h3, h4⟩ := h
  obtain ⟨c0, c1⟩ := pair_cell h1
  have f0 := box_frozen (i := 0) h1
  have f1 := box_frozen (i := 1) h1
  have h2' := h2
  obtain ⟨ao, cap, rfl, hlc, hcm, hc⟩ := h2
  unfold maxLen at hcm
  by_cases hs : s.bad = true ∨ s.rest.length < n
  · rw [takeR_no hs]
    have R1 : RfAt (w.setCell ⟨R, 1, none⟩ (.bool true)) R lim ⟨s.rest, true⟩ := ⟨_, pair_set1 _ h1, h2'.set h3 _, h3, by simp [World.setCell]; omega⟩
    have K1 : Kept R w.heap.size w (w.setCell ⟨R, 1, none⟩ (.bool true)) := Kept.set _
    have Z1 : w.heap.size ≤ (w.setCell ⟨R, 1, none⟩ (.bool true)).heap.size := K1.size
    have hb : i0.bytes * n ≤ 281474976710656 := by rw [hz2]; omega
    have hnm : n ≤ maxLen := by unfold maxLen; omega
    have fin : ∀ w1 v, w1.ownsRow w.heap.size 5 1 v n (madeCells (Value.cells (.int .u8 0)) (n * 1)).toList → (w.setCell ⟨R, 1, none⟩ (.bool true)).grownBy w1 none → InAt w1 w1.heap.size v (List.replicate n 0) ∧ RfAt w1 R lim ⟨s.rest, true⟩ ∧ Kept R w.heap.size w w1 := by
      intro w1 v ho hg
      have hB : Below (w.setCell ⟨R, 1, none⟩ (.bool true)).heap.size (w.setCell ⟨R, 1, none⟩ (.bool true)) w1 := (Below.refl _ _).grown hg (Nat.le_refl _) (fun k e => by cases e)
      refine ⟨?_, R1.below hB, K1.trans ((Kept.of_below hB).mono Z1)⟩
      rw [made_zero] at ho
      have : BsAt w1 w.heap.size v (List.replicate n 0) := by unfold BsAt; rw [List.length_replicate]; exact ho
      exact in_own this
    clear h1 h2' hc R1 K1
    cases hbad : s.bad with
    | true =>
      rw [hbad] at c1
      clear hs hbad
      go_enter Tryz.func57, Tryz.ntmps57
      go_wp2_with (at_make; refine wpList_make_full _ rfl _ _ 27 rfl w.heap.size 5 i0 (.int .u8 0) 1 Tryz.underlying27 hi hz0 hz1 .i64 .i64 _ _ n rfl rfl rfl rfl hb hnm Z1 ?_; intro w1 hown hgr; have F := fin w1 _ hown hgr)
      rw [show (w.setCell ⟨R, 1, none⟩ (.bool true)).heap.size = w.heap.size by simp [World.setCell]] at F
      go_ret
      exact ⟨_, rfl, F⟩
    | false =>
      rw [hbad] at c1
      have hs2 : s.rest.length < n := by
        rcases hs with hs | hs
        · rw [hbad] at hs; cases hs
        · exact hs
      clear hs hbad
      go_enter Tryz.func57, Tryz.ntmps57
      go_wp2_with (at_make; refine wpList_make_full _ rfl _ _ 27 rfl w.heap.size 5 i0 (.int .u8 0) 1 Tryz.underlying27 hi hz0 hz1 .i64 .i64 _ _ n rfl rfl rfl rfl hb hnm Z1 ?_; intro w1 hown hgr; have F := fin w1 _ hown hgr)
      rw [show (w.setCell ⟨R, 1, none⟩ (.bool true)).heap.size = w.heap.size by simp [World.setCell]] at F
      go_ret
      exact ⟨_, rfl, F⟩
  · rw [takeR_yes hs]
    rw [not_or] at hs
    have hb : s.bad = false := Bool.eq_false_iff.mpr hs.1
    have hs2 := hs.2
    rw [hb] at h1 c1
    have T1 := in_take h2' (n := n) (by omega)
    have H : Hid (∀ ao', (n < cap → ∀ b off, ao = some ⟨b, off, none⟩ → ao' = some ⟨b, off + n, none⟩) → RfAt (w.setCell ⟨R, 0, none⟩ (.slice ao' (s.rest.length - n) (cap - n))) R lim ⟨s.rest.drop n, s.bad⟩) := fun ao' ha =>
      ⟨_, by rw [hb]; exact pair_set0 _ h1, (in_drop h2' (by omega) ha).set h3 _, h3, by simp [World.setCell]; omega⟩
    have T3 : ∀ u, InAt (w.setCell ⟨R, 0, none⟩ u) (w.setCell ⟨R, 0, none⟩ u).heap.size (.slice ao n cap) (s.rest.take n) := fun u => (T1.set h3 u).mono (by simp [World.setCell]; omega)
    clear h1 h2' hc hs T1
    go_enter Tryz.func57, Tryz.ntmps57
    go_wp2
    case inl =>
      subst h
      go_ret
      refine ⟨_, rfl, T3 _, ?_, Kept.set _⟩
      have := H.out ao (fun h => by omega)
      rwa [Nat.sub_self, hb] at this
    case inr =>
      go_ret
      refine ⟨_, rfl, T3 _, ?_, Kept.set _⟩
      have := H.out (Option.map (fun x => x.add n) ao) (fun _ b off e => by rw [e]; simp [Addr.add_lit])
      rwa [hb] at this

theorem list_2 {l : List UInt8} (h : l.length = 2) : ∃ a b, l = [a, b] := by
  match l, h with
  | [a, b], _ => exact ⟨a, b, rfl⟩
theorem list_4 {l : List UInt8} (h : l.length = 4) : ∃ a b c d, l = [a, b, c, d] := by
  match l, h with
  | [a, b, c, d], _ => exact ⟨a, b, c, d, rfl⟩
theorem list_1 {l : List UInt8} (h : l.length = 1) : ∃ a, l = [a] := by
  match l, h with
  | [a], _ => exact ⟨a, rfl⟩
theorem in_parts {w : World} {lim : Nat} {v : Value} {bs : List UInt8} (h : InAt w lim v bs) (hp : 0 < bs.length) : ∃ b off cap, v = .slice (some ⟨b, off, none⟩) bs.length cap ∧ bs.length ≤ cap ∧ cap ≤ maxLen ∧ ∀ i (hi : i < bs.length), w.cell? ⟨b, off + i, none⟩ = some (bv (bs[i]'hi)) := by
  obtain ⟨ao, cap, rfl, h1, h2, h3⟩ := h
  obtain ⟨b, off, rfl, _, hc⟩ := h3 hp
  refine ⟨b, off, cap, rfl, h1, h2, fun i hi => ?_⟩
  have := hc i hi 0 _ rfl
  simpa using this

theorem wrap_u32 {x : Int} (h0 : 0 ≤ x) (h1 : x < 4294967296) : IntKind.u32.wrap x = x := by
  rw [IntKind.wrap_u32]; omega
theorem wrap_i64 {x : Int} (h0 : 0 ≤ x) (h1 : x < 4294967296) : IntKind.i64.wrap x = x := by
  rw [IntKind.wrap_i64]; omega

set_option maxHeartbeats 2000000 in
set_option maxRecDepth 1000000 in
theorem rfcount_any (w : World) (R lim : Nat) (s : St) (h : RfAt w R lim s) :
    Calls Tryz.prog 56 #[ptr R] w fun e w' => e = .returned (.int .i64 ((highR 2 s).1 : Int)) ∧ RfAt w' R lim (highR 2 s).2 ∧ Kept R w.heap.size w w' := by
  have k := rftake_any w R lim 2 s h (by omega)
  have hl := takeR_len 2 s
  unfold highR
  generalize takeR 2 s = T at *
  obtain ⟨bs, s2⟩ := T
  simp only at k hl ⊢
  obtain ⟨a, b, rfl⟩ := list_2 hl
  rw [hiN_2]
  have ha := u8_lt a
  have hb := u8_lt b
  go_enter Tryz.func56, Tryz.ntmps56
  go_wp2_with fail
  refine k.mono ?_
  rintro e w1 ⟨v, rfl, hin, hr, q⟩
  clear k
  obtain ⟨bk, off, cap, rfl, h1, h2, h3⟩ := in_parts hin (by simp)
  have c0 := h3 0 (by simp)
  have c1 := h3 1 (by simp)
  simp only [Nat.add_zero, List.getElem_cons_zero, List.getElem_cons_succ, bv] at c0 c1
  unfold maxLen at h2
  simp only [List.length_cons, List.length_nil] at h1
  clear h3 hin
  simp only [List.length_cons, List.length_nil]
  go_wp2
  go_quiet (fail)
  go_wp2
  go_ret
  refine ⟨?_, hr.drewN _, q.drewN _⟩
  show Ending.returned (Value.int .i64 _) = _
  have e1 : IntKind.i64.wrap (a.toNat : Int) = (a.toNat : Int) := wrap_i64 (by omega) (by omega)
  have e2 : IntKind.i64.wrap (b.toNat : Int) = (b.toNat : Int) := wrap_i64 (by omega) (by omega)
  rw [e1, e2]
  have e3 : IntKind.i64.wrap (256 * (a.toNat : Int)) = 256 * (a.toNat : Int) := wrap_i64 (by omega) (by omega)
  rw [e3]
  have e4 : IntKind.i64.wrap (256 * (a.toNat : Int) + (b.toNat : Int)) = 256 * (a.toNat : Int) + (b.toNat : Int) := wrap_i64 (by omega) (by omega)
  rw [e4]
  congr 2
  omega

set_option maxHeartbeats 2000000 in
set_option maxRecDepth 1000000 in
theorem rfnumber_any (w : World) (R lim : Nat) (s : St) (h : RfAt w R lim s) :
    Calls Tryz.prog 59 #[ptr R] w fun e w' => e = .returned (.int .u32 ((highR 4 s).1 : Int)) ∧ RfAt w' R lim (highR 4 s).2 ∧ Kept R w.heap.size w w' := by
  have k := rftake_any w R lim 4 s h (by omega)
  have hl := takeR_len 4 s
  unfold highR
  generalize takeR 4 s = T at *
  obtain ⟨bs, s2⟩ := T
  simp only at k hl ⊢
  obtain ⟨a, b, c, d, rfl⟩ := list_4 hl
  rw [hiN_4]
  have ha := u8_lt a
  have hb := u8_lt b
  have hc := u8_lt c
  have hd := u8_lt d
  go_enter Tryz.func59, Tryz.ntmps59
  go_wp2_with fail
  refine k.mono ?_
  rintro e w1 ⟨v, rfl, hin, hr, q⟩
  clear k
  obtain ⟨bk, off, cap, rfl, h1, h2, h3⟩ := in_parts hin (by simp)
  have c0 := h3 0 (by simp)
  have c1 := h3 1 (by simp)
  have c2 := h3 2 (by simp)
  have c3 := h3 3 (by simp)
  simp only [Nat.add_zero, List.getElem_cons_zero, List.getElem_cons_succ, bv] at c0 c1 c2 c3
  unfold maxLen at h2
  simp only [List.length_cons, List.length_nil] at h1
  clear h3 hin
  simp only [List.length_cons, List.length_nil]
  go_wp2
  go_quiet (fail)
  go_wp2
  go_ret
  refine ⟨?_, hr.drewN _, q.drewN _⟩
  show Ending.returned (Value.int .u32 _) = _
  simp only [IntKind.wrap_u32]
  congr 2
  omega

set_option maxHeartbeats 2000000 in
set_option maxRecDepth 1000000 in
theorem rftext_any (w : World) (R lim : Nat) (s : St) (h : RfAt w R lim s) :
    Calls Tryz.prog 58 #[ptr R] w fun e w' => e = .returned (.string (textR s).1) ∧ RfAt w' R lim (textR s).2 ∧ Kept R w.heap.size w w' := by
  have k := rftake_any w R lim 1 s h (by omega)
  have hl := takeR_len 1 s
  unfold textR highR
  simp only
  generalize takeR 1 s = T at *
  obtain ⟨bs, s1⟩ := T
  simp only at k hl ⊢
  obtain ⟨a, rfl⟩ := list_1 hl
  rw [hiN_1]
  have ha := u8_lt a
  have k2 : ∀ w1, RfAt w1 R lim s1 → _ := fun w1 h1 => rftake_any w1 R lim a.toNat s1 h1 (by omega)
  generalize takeR a.toNat s1 = T at *
  obtain ⟨bs, s2⟩ := T
  simp only at k2 ⊢
  go_enter Tryz.func58, Tryz.ntmps58
  go_wp2_with fail
  refine k.mono ?_
  rintro e w1 ⟨v, rfl, hin, hr, q⟩
  clear k
  obtain ⟨bk, off, cap, rfl, h1, h2, h3⟩ := in_parts hin (by simp)
  have c0 := h3 0 (by simp)
  simp only [Nat.add_zero, List.getElem_cons_zero, bv] at c0
  unfold maxLen at h2
  simp only [List.length_cons, List.length_nil] at h1
  clear h3 hin
  simp only [List.length_cons, List.length_nil]
  have k3 := k2 w1 hr
  clear k2
  go_wp2_with fail
  refine k3.mono ?_
  rintro e w2 ⟨v, rfl, hin, h2, q2⟩
  clear k3
  have hcv := conv_in hin
  have q3 := q.trans (q2.mono q.size)
  obtain ⟨ao, cap, rfl, -, -, -⟩ := hin
  go_wp2
  go_ret
  exact ⟨rfl, h2, q3⟩

set_option maxHeartbeats 2000000 in
set_option maxRecDepth 1000000 in
theorem refSame_any (w : World) (la lb : Nat) (va vb : Value) (a b : List UInt8) (ha : InAt w la va a) (hb : InAt w lb vb b) :
    Calls Tryz.prog 60 #[va, vb] w fun e w' => e = .returned (.bool (decide (a = b))) ∧ ∃ n, w' = w.drewN n := by
  have h1 := conv_in ha
  have h2 := conv_in hb
  have h1' := fun n => conv_in (w := w.drewN n) (ha.kept (fun _ _ => rfl))
  have h2' := fun n => conv_in (w := w.drewN n) (hb.kept (fun _ _ => rfl))
  obtain ⟨ao, ca, rfl, -, -, -⟩ := ha
  obtain ⟨bo, cb, rfl, -, -, -⟩ := hb
  go_enter Tryz.func60, Tryz.ntmps60
  go_wp2
  go_ret
  refine ⟨?_, 0, rfl⟩
  show Ending.returned (Value.bool (a == b)) = _
  congr 2
  rw [Bool.eq_iff_iff]; simp
end Go.Proofs.YtndjgilheleplaaGreatDoor
