import Derived.Test.YtcgecdiaddcfkaaGreatDoorPHeadM
/- The walk of Put: a message's bytes, or the error. -/
set_option linter.unusedSimpArgs false
set_option linter.unusedVariables false
namespace Go.Proofs.YtcgecdiaddcfkaaGreatDoor
open Go.RowKit

/-! The three parts: the error's number, and the bytes. -/
def pe (m : MsgD) : Nat → Nat
  | 0 => if m.head then 0 else 1
  | 1 => (putOps m.ops).2
  | _ => (putRes m.res).2
def pb (m : MsgD) : Nat → List UInt8
  | 0 => if m.head then headM m else []
  | 1 => if (putOps m.ops).2 = 0 then be4 (putOps m.ops).1.length ++ (putOps m.ops).1 else []
  | _ => (putRes m.res).1
def psd (m : MsgD) : Nat → Nat
  | 0 => 0
  | k + 1 => if pe m k = 0 then psd m k else pe m k
def pre (m : MsgD) : Nat → List UInt8
  | 0 => []
  | k + 1 => pre m k ++ pb m k

theorem putOps_cases (l : List OpD) : (l.all opOk = true ∧ l.length ≤ 16 ∧ putOps l = (encList encOp l, 0)) ∨ (l.all opOk = true ∧ ¬ l.length ≤ 16 ∧ putOps l = ([], 3)) ∨ (l.all opOk = false ∧ putOps l = ([], 1)) := by
  cases h : l.all opOk with
  | false => exact .inr (.inr ⟨rfl, putOps_arg h⟩)
  | true =>
    by_cases hn : l.length ≤ 16
    · exact .inl ⟨rfl, hn, putOps_fits h hn⟩
    · exact .inr (.inl ⟨rfl, hn, putOps_limit h hn⟩)
theorem putRes_cases (l : List (List RowD)) : (l.all resOk = true ∧ (l.length ≤ 16 ∧ l.all (fun r => decide (r.length ≤ 256)) = true) ∧ putRes l = (encList encRes l, 0)) ∨ (l.all resOk = true ∧ ¬ (l.length ≤ 16 ∧ l.all (fun r => decide (r.length ≤ 256)) = true) ∧ putRes l = ([], 3)) ∨ (l.all resOk = false ∧ putRes l = ([], 1)) := by
  cases h : l.all resOk with
  | false => exact .inr (.inr ⟨rfl, by unfold putRes; rw [h]; rfl⟩)
  | true =>
    by_cases hn : l.length ≤ 16 ∧ l.all (fun r => decide (r.length ≤ 256)) = true
    · exact .inl ⟨rfl, hn, by unfold putRes; rw [if_pos h, if_pos hn]⟩
    · exact .inr (.inl ⟨rfl, hn, by unfold putRes; rw [if_pos h, if_neg hn]⟩)
theorem pe_cases (m : MsgD) (k : Nat) : pe m k = 0 ∨ pe m k = 1 ∨ (pe m k = 3 ∧ pb m k = []) := by
  match k with
  | 0 =>
    show (if m.head then 0 else 1) = 0 ∨ (if m.head then 0 else 1) = 1 ∨ _
    cases m.head <;> simp
  | 1 =>
    show (putOps m.ops).2 = 0 ∨ (putOps m.ops).2 = 1 ∨ ((putOps m.ops).2 = 3 ∧ (if (putOps m.ops).2 = 0 then _ else []) = [])
    rcases putOps_cases m.ops with ⟨_, _, h⟩ | ⟨_, _, h⟩ | ⟨_, h⟩ <;> rw [h] <;> simp
  | k + 2 =>
    show (putRes m.res).2 = 0 ∨ (putRes m.res).2 = 1 ∨ ((putRes m.res).2 = 3 ∧ (putRes m.res).1 = [])
    rcases putRes_cases m.res with ⟨_, _, h⟩ | ⟨_, _, h⟩ | ⟨_, h⟩ <;> rw [h] <;> simp
theorem pb_len (m : MsgD) (k : Nat) : (pb m k).length ≤ 101000 := by
  match k with
  | 0 =>
    show (if m.head then headM m else []).length ≤ _
    cases m.head <;> simp [headM, be4]
  | 1 =>
    show (if (putOps m.ops).2 = 0 then be4 (putOps m.ops).1.length ++ (putOps m.ops).1 else []).length ≤ _
    rcases putOps_cases m.ops with ⟨h1, h2, h⟩ | ⟨_, _, h⟩ | ⟨_, h⟩
    · rw [h]
      have := encOps_small h1 h2
      simp only [if_true, List.length_append, be4_len]; omega
    · rw [h]; simp
    · rw [h]; simp
  | k + 2 =>
    show (putRes m.res).1.length ≤ _
    rcases putRes_cases m.res with ⟨h1, h2, h⟩ | ⟨_, _, h⟩ | ⟨_, h⟩
    · rw [h]
      have := encRes_small h1 h2.1 h2.2
      show (encList encRes m.res).length ≤ _
      omega
    · rw [h]; simp
    · rw [h]; simp
theorem pre_len (m : MsgD) : ∀ k, (pre m k).length ≤ 101000 * k
  | 0 => by simp [pre]
  | k + 1 => by
    show (pre m k ++ pb m k).length ≤ _
    have h1 := pre_len m k
    have h2 := pb_len m k
    rw [List.length_append]; omega
theorem put_one (m : MsgD) (k : Nat) (hk : k < 3) (h : pe m k = 1) : putM m = ([], 1) := by
  have hno : m.ok = false := by
    unfold MsgD.ok
    rcases (show k = 0 ∨ k = 1 ∨ k = 2 by omega) with rfl | rfl | rfl
    · have : m.head = false := by
        revert h
        show (if m.head then 0 else 1) = 1 → _
        cases m.head <;> simp
      rw [this]; rfl
    · have : m.ops.all opOk = false := by
        revert h
        show (putOps m.ops).2 = 1 → _
        rcases putOps_cases m.ops with ⟨_, _, h⟩ | ⟨_, _, h⟩ | ⟨h1, h⟩ <;> rw [h]
        · simp
        · simp
        · exact fun _ => h1
      rw [this]; simp
    · have : m.res.all resOk = false := by
        revert h
        show (putRes m.res).2 = 1 → _
        rcases putRes_cases m.res with ⟨_, _, h⟩ | ⟨_, _, h⟩ | ⟨h1, h⟩ <;> rw [h]
        · simp
        · simp
        · exact fun _ => h1
      rw [this]; simp
  unfold putM
  rw [if_neg (by simp [hno])]
theorem ok_of {m : MsgD} (h1 : m.head = true) (h2 : m.ops.all opOk = true) (h3 : m.res.all resOk = true) : m.ok = true := by unfold MsgD.ok; rw [h1, h2, h3]; rfl
theorem put_sum (m : MsgD) (h : ∀ j, j < 3 → pe m j ≠ 1) : (psd m 3 = 0 ∧ putM m = (pre m 3, 0)) ∨ (psd m 3 = 3 ∧ putM m = ([], 3)) := by
  have h0 := h 0 (by omega)
  have h1 := h 1 (by omega)
  have h2 := h 2 (by omega)
  have e0 : m.head = true := by
    revert h0
    show (if m.head then 0 else 1) ≠ 1 → _
    cases m.head <;> simp
  have p0 : pe m 0 = 0 := by show (if m.head then 0 else 1) = 0; rw [e0]; rfl
  have q0 : pb m 0 = headM m := by show (if m.head then headM m else []) = _; rw [e0]; rfl
  have s3 : psd m 3 = if pe m 2 = 0 then (if pe m 1 = 0 then (if pe m 0 = 0 then 0 else pe m 0) else pe m 1) else pe m 2 := rfl
  have r3 : pre m 3 = (([] ++ pb m 0) ++ pb m 1) ++ pb m 2 := rfl
  rw [s3, r3, p0, q0]
  have p1 : pe m 1 = (putOps m.ops).2 := rfl
  have p2 : pe m 2 = (putRes m.res).2 := rfl
  have q1 : pb m 1 = if (putOps m.ops).2 = 0 then be4 (putOps m.ops).1.length ++ (putOps m.ops).1 else [] := rfl
  have q2 : pb m 2 = (putRes m.res).1 := rfl
  rw [q1, q2]
  rw [p1] at h1 ⊢
  rw [p2] at h2 ⊢
  rcases putOps_cases m.ops with ⟨a1, a2, a⟩ | ⟨a1, a2, a⟩ | ⟨_, a⟩
  · rcases putRes_cases m.res with ⟨b1, b2, b⟩ | ⟨b1, b2, b⟩ | ⟨_, b⟩
    · left
      rw [a, b]
      refine ⟨rfl, ?_⟩
      unfold putM
      rw [if_pos (ok_of e0 a1 b1), if_pos ⟨a2, b2⟩]
      rfl
    · right
      rw [a, b]
      refine ⟨rfl, ?_⟩
      unfold putM
      rw [if_pos (ok_of e0 a1 b1), if_neg (fun hf => b2 hf.2)]
    · rw [b] at h2; exact absurd rfl h2
  · rcases putRes_cases m.res with ⟨b1, b2, b⟩ | ⟨b1, b2, b⟩ | ⟨_, b⟩
    · right
      rw [a, b]
      refine ⟨rfl, ?_⟩
      unfold putM
      rw [if_pos (ok_of e0 a1 b1), if_neg (fun hf => a2 hf.1)]
    · right
      rw [a, b]
      refine ⟨rfl, ?_⟩
      unfold putM
      rw [if_pos (ok_of e0 a1 b1), if_neg (fun hf => a2 hf.1)]
    · rw [b] at h2; exact absurd rfl h2
  · rw [a] at h1; exact absurd rfl h1

/-- A message's cells in block X. -/
structure MCell (W : World) (X : Nat) (s f t g : Int) (vo vr : Value) : Prop where
  c0 : W.cell? ⟨X, 0, none⟩ = some (.int .u8 s)
  c1 : W.cell? ⟨X, 1, none⟩ = some (.int .u8 f)
  c2 : W.cell? ⟨X, 2, none⟩ = some (.int .u8 t)
  c3 : W.cell? ⟨X, 3, none⟩ = some (.int .u32 g)
  c4 : W.cell? ⟨X, 4, none⟩ = some vo
  c5 : W.cell? ⟨X, 5, none⟩ = some vr
theorem MCell.below {W W' : World} {X : Nat} {s f t g : Int} {vo vr : Value} {H : Nat} (h : MCell W X s f t g vo vr) (hX : X < H) (hb : Below H W W') : MCell W' X s f t g vo vr :=
  ⟨(hb.cell hX).trans h.c0, (hb.cell hX).trans h.c1, (hb.cell hX).trans h.c2, (hb.cell hX).trans h.c3, (hb.cell hX).trans h.c4, (hb.cell hX).trans h.c5⟩
/-- What a part of a message tells. -/
abbrev Part (F : FuncId) (X : Nat) (er : Nat) (bs : List UInt8) (W : World) : Prop :=
  Calls Tryz.prog F #[.pointer (some ⟨X, 0, none⟩)] W fun e w' => ∃ a n c, e = .returned (.tuple #[.slice a n c, .int .i64 (er : Int)]) ∧ BsAt w' W.heap.size (.slice a n c) bs ∧ Below W.heap.size W w'

set_option maxHeartbeats 2000000 in
set_option maxRecDepth 1000000 in
theorem part0 (W : World) (X : Nat) (m : MsgD) (ao bo : Option Addr) (na ca nb cb : Nat) (h : MCell W X (m.say.toNat : Int) (m.src.toNat : Int) (m.dst.toNat : Int) (m.g.toNat : Int) (.slice ao na ca) (.slice bo nb cb)) :
    Part 25 X (pe m 0) (pb m 0) W := by
  obtain ⟨c0, c1, c2, c3, c4, c5⟩ := h
  cases hh : m.head with
  | true =>
    have kh := fun W => putHead_ok W m.say m.src m.dst m.g.toNat (u32_lt m.g) ao bo na ca nb cb hh
    have e1 : pe m 0 = 0 := by show (if m.head then 0 else 1) = 0; rw [hh]; rfl
    have e2 : pb m 0 = m.say :: m.src :: m.dst :: be4 m.g.toNat := by show (if m.head then headM m else []) = _; rw [hh]; rfl
    rw [e1, e2]
    clear e1 e2 hh
    go_enter Tryz.func25, Tryz.ntmps25
    go_wp2_with fail
    refine (kh _).mono ?_
    rintro e w1 ⟨a, c, rfl, o1, b1⟩
    clear kh
    go_wp2
    go_ret2
    exact ⟨_, _, _, rfl, o1, b1⟩
  | false =>
    have kh := fun W => putHead_no W m.say.toNat m.src.toNat m.dst.toNat m.g.toNat ao bo na ca nb cb hh
    have e1 : pe m 0 = 1 := by show (if m.head then 0 else 1) = 1; rw [hh]; rfl
    have e2 : pb m 0 = [] := by show (if m.head then headM m else []) = _; rw [hh]; rfl
    rw [e1, e2]
    clear e1 e2 hh
    go_enter Tryz.func25, Tryz.ntmps25
    go_wp2_with fail
    refine (kh _).mono ?_
    rintro e w1 ⟨rfl, b1⟩
    clear kh
    go_wp2
    go_ret2
    exact ⟨_, _, _, rfl, BsAt_nil _ _, b1⟩

set_option maxHeartbeats 2000000 in
set_option maxRecDepth 1000000 in
theorem part1 (W : World) (X : Nat) (m : MsgD) (ao bo : Option Addr) (na ca nb cb : Nat) (s f t g : Int) (h : MCell W X s f t g (.slice ao na ca) (.slice bo nb cb))
    (ho : SlAt 4 opCells W W.heap.size (.slice ao na ca) m.ops) (hs : ∀ x ∈ m.ops, opSm x) :
    Part 27 X (pe m 1) (pb m 1) W := by
  have c4 := h.c4
  clear h
  have kp := PutOps_any W _ m.ops ho hs
  clear ho hs
  show Calls _ _ _ _ fun e w' => ∃ a n c, e = .returned (.tuple #[.slice a n c, .int .i64 ((putOps m.ops).2 : Int)]) ∧ BsAt w' W.heap.size (.slice a n c) (if (putOps m.ops).2 = 0 then be4 (putOps m.ops).1.length ++ (putOps m.ops).1 else []) ∧ Below W.heap.size W w'
  have hlen : (putOps m.ops).1.length ≤ 1000 := by
    rcases putOps_cases m.ops with ⟨h1, h2, h⟩ | ⟨_, _, h⟩ | ⟨_, h⟩
    · rw [h]; exact encOps_small h1 h2
    · rw [h]; simp
    · rw [h]; simp
  generalize (putOps m.ops).1 = bs at *
  generalize (putOps m.ops).2 = er at *
  by_cases he : er = 0
  · subst he
    rw [if_pos rfl]
    go_enter Tryz.func27, Tryz.ntmps27
    go_wp2_with fail
    refine kp.mono ?_
    rintro e w1 ⟨v, rfl, o1, b1⟩
    have kc := counted_ok w1 v bs (in_own o1) (by omega)
    obtain ⟨a1, c1, rfl⟩ := own_len o1
    clear kp c4
    go_wp2_with fail
    refine kc.mono ?_
    rintro e w2 ⟨a2, n2, c2, rfl, o2, b2⟩
    have b3 := b1.trans (b2.mono b1.size)
    have o3 := o2.mono b1.size
    clear kc o1 b1 o2 b2
    go_wp2
    go_ret2
    exact ⟨_, _, _, rfl, o3, b3⟩
  · rw [if_neg he]
    go_enter Tryz.func27, Tryz.ntmps27
    go_wp2_with fail
    refine kp.mono ?_
    rintro e w1 ⟨v, rfl, o1, b1⟩
    obtain ⟨a1, c1, rfl⟩ := own_len o1
    have kc := counted_no w1 a1 bs.length c1 (er : Int) (by omega)
    clear kp c4
    go_wp2_with fail
    refine kc.mono ?_
    rintro e w2 ⟨rfl, rfl⟩
    clear kc o1
    go_wp2
    go_ret2
    exact ⟨_, _, _, rfl, BsAt_nil _ _, b1⟩

set_option maxHeartbeats 2000000 in
set_option maxRecDepth 1000000 in
theorem part2 (W : World) (X : Nat) (m : MsgD) (ao bo : Option Addr) (na ca nb cb : Nat) (s f t g : Int) (h : MCell W X s f t g (.slice ao na ca) (.slice bo nb cb))
    (l : List ResP) (hr : ResAt W W.heap.size (.slice bo nb cb) l) (hm : l.map (·.2) = m.res) :
    Part 30 X (pe m 2) (pb m 2) W := by
  have c5 := h.c5
  clear h
  have kp := PutResults_any W _ l hr
  rw [hm] at kp
  clear hr hm
  show Calls _ _ _ _ fun e w' => ∃ a n c, e = .returned (.tuple #[.slice a n c, .int .i64 ((putRes m.res).2 : Int)]) ∧ BsAt w' W.heap.size (.slice a n c) (putRes m.res).1 ∧ Below W.heap.size W w'
  generalize (putRes m.res).1 = bs at *
  generalize (putRes m.res).2 = er at *
  go_enter Tryz.func30, Tryz.ntmps30
  go_wp2_with fail
  refine kp.mono ?_
  rintro e w1 ⟨v, rfl, o1, b1⟩
  obtain ⟨a1, c1, rfl⟩ := own_len o1
  clear kp c5
  go_wp2
  go_ret2
  exact ⟨_, _, _, rfl, o1, b1⟩
end Go.Proofs.YtcgecdiaddcfkaaGreatDoor
