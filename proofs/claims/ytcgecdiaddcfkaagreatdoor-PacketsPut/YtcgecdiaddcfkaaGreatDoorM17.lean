/- Texts of this proof, laid into one. -/
import Derived.Test.YtcgecdiaddcfkaaGreatDoorPGetM
import Derived.Test.YtcgecdiaddcfkaaGreatDoorPHeadM
/- Get, of any bytes. -/
set_option linter.unusedSimpArgs false
set_option linter.unusedVariables false
namespace Go.Proofs.YtcgecdiaddcfkaaGreatDoor
open Go.RowKit

def msgV (m : MsgD) (vo vr : Value) : Value := .agg #[.int .u8 (m.say.toNat : Int), .int .u8 (m.src.toNat : Int), .int .u8 (m.dst.toNat : Int), .int .u32 (m.g.toNat : Int), vo, vr]
theorem MsgOwn_zero (w : World) (base : Nat) : MsgOwn w base (.slice none 0 0) (.slice none 0 0) zeroM :=
  ⟨World.ownsRow_nil _ _ _ _, [], ⟨World.ownsRow_nil _ _ _ _, fun p hp => (by cases hp), fun p hp => (by cases hp), List.Pairwise.nil⟩, rfl⟩
set_option maxHeartbeats 2000000 in
set_option maxRecDepth 1000000 in
theorem Get_short (w : World) (vb : Value) (bs : List UInt8) (hb : InAt w w.heap.size vb bs) (hl : bs.length < 11) :
    Calls Tryz.prog 17 #[vb] w fun e w' => e = .returned (.tuple #[.agg #[.int .u8 0, .int .u8 0, .int .u8 0, .int .u32 0, .slice none 0 0, .slice none 0 0], .int .i64 4]) ∧ Below w.heap.size w w' := by
  obtain ⟨ao, cap, rfl, h1, h2, -⟩ := hb
  unfold maxLen at h2
  have i1 : (bs.length : Int) < 11 := by omega
  have B1 := below_one w (.cells #[.int .u8 0, .int .u8 0, .int .u8 0, .int .u32 0, .slice none 0 0, .slice none 0 0] 27)
  have P1 := heap_alloc_new w (.cells #[.int .u8 0, .int .u8 0, .int .u8 0, .int .u32 0, .slice none 0 0, .slice none 0 0] 27)
  go_enter Tryz.func17, Tryz.ntmps17
  go_wp2
  generalize w.alloc (.cells #[.int .u8 0, .int .u8 0, .int .u8 0, .int .u32 0, .slice none 0 0, .slice none 0 0] 27) = w1 at *
  obtain ⟨t0, t1, t2, t3, t4, t5⟩ := six_cells P1
  refine bodyPost_ret (v := .tuple #[.agg #[.int .u8 0, .int .u8 0, .int .u8 0, .int .u32 0, .slice none 0 0, .slice none 0 0], .int .i64 4]) (by simp [results, Tryz.results17, go_sem, t0, t1, t2, t3, t4, t5]) rfl ⟨rfl, B1⟩

theorem Get_any (w : World) (vb : Value) (bs : List UInt8) (hb : InAt w w.heap.size vb bs) :
    Calls Tryz.prog 17 #[vb] w fun e w' => ∃ oa on oc ra rn rc, e = .returned (.tuple #[msgV (getM bs).1 (.slice oa on oc) (.slice ra rn rc), .int .i64 ((getM bs).2 : Int)]) ∧ MsgOwn w' w.heap.size (.slice oa on oc) (.slice ra rn rc) (getM bs).1 ∧ Below w.heap.size w w' := by
  have zero : getM bs = (zeroM, 4) → Calls Tryz.prog 17 #[vb] w (fun e w' => e = .returned (.tuple #[.agg #[.int .u8 0, .int .u8 0, .int .u8 0, .int .u32 0, .slice none 0 0, .slice none 0 0], .int .i64 4]) ∧ Below w.heap.size w w') → Calls Tryz.prog 17 #[vb] w fun e w' => ∃ oa on oc ra rn rc, e = .returned (.tuple #[msgV (getM bs).1 (.slice oa on oc) (.slice ra rn rc), .int .i64 ((getM bs).2 : Int)]) ∧ MsgOwn w' w.heap.size (.slice oa on oc) (.slice ra rn rc) (getM bs).1 ∧ Below w.heap.size w w' := by
    intro h k
    rw [h]
    refine k.mono ?_
    rintro e w' ⟨rfl, b⟩
    exact ⟨none, 0, 0, none, 0, 0, rfl, MsgOwn_zero _ _, b⟩
  by_cases hl : bs.length < 11
  · exact zero (by unfold getM; rw [if_pos hl]) (Get_short w vb bs hb hl)
  cases hh : (rawM bs).head with
  | false => exact zero (by unfold getM; rw [if_neg hl, if_neg (by simp [hh])]) (Get_head w vb bs hb hl hh)
  | true =>
    by_cases ho : numAt 7 bs ≤ bs.length - 11
    case neg => exact zero (by unfold getM; rw [if_neg hl, if_neg (fun h => ho h.2)]) (Get_over w vb bs hb hl hh ho)
    rcases getOps_cases ((bs.drop 11).take (numAt 7 bs)) with ⟨lo, hpo, -, -, -⟩ | hpo
    · rcases getRes_cases ((bs.drop 11).drop (numAt 7 bs)) with ⟨lr, hpr, -, -, -, -⟩ | hpr
      · have e1 : getM bs = (rawM bs, 0) := by unfold getM; rw [if_neg hl, if_pos ⟨hh, ho⟩, hpo, hpr, if_pos ⟨rfl, rfl⟩]
        have e2 : (rawM bs).ops = lo := by unfold rawM; rw [hpo]
        have e3 : (rawM bs).res = lr := by unfold rawM; rw [hpr]
        rw [e1]
        refine (Get_ok w vb bs hb hl hh ho lo lr hpo hpr).mono ?_
        rintro e w' ⟨oa, on, oc, ra, rn, rc, rfl, o1, o2, b⟩
        exact ⟨oa, on, oc, ra, rn, rc, rfl, ⟨by rw [e2]; exact o1, by rw [e3]; exact o2⟩, b⟩
      · exact zero (by unfold getM; rw [if_neg hl, if_pos ⟨hh, ho⟩, hpo, hpr, if_neg (by simp)]) (Get_badR w vb bs hb hl hh ho lo [] hpo hpr)
    · obtain ⟨lr, er, hpr⟩ : ∃ lr er, getRes ((bs.drop 11).drop (numAt 7 bs)) = (lr, er) := ⟨_, _, rfl⟩
      exact zero (by unfold getM; rw [if_neg hl, if_pos ⟨hh, ho⟩, hpo, if_neg (by simp)]) (Get_badO w vb bs hb hl hh ho [] lr er hpo hpr)
end Go.Proofs.YtcgecdiaddcfkaaGreatDoor
/- The walk of Put: a message's bytes, or the error. -/
set_option linter.unusedSimpArgs false
set_option linter.unusedVariables false
namespace Go.Proofs.YtcgecdiaddcfkaaGreatDoor
open Go.RowKit

/-! The three parts: the error's number, and the bytes. -/
def pe (m : MsgD) : Nat → Nat
  | 0 => if m.head then 0 else 1
  | 1 => (putOps m.ops).2
  | _ => (putRes m.res).2
def pb (m : MsgD) : Nat → List UInt8
  | 0 => if m.head then headM m else []
  | 1 => if (putOps m.ops).2 = 0 then be4 (putOps m.ops).1.length ++ (putOps m.ops).1 else []
  | _ => (putRes m.res).1
def psd (m : MsgD) : Nat → Nat
  | 0 => 0
  | k + 1 => if pe m k = 0 then psd m k else pe m k
def pre (m : MsgD) : Nat → List UInt8
  | 0 => []
  | k + 1 => pre m k ++ pb m k

theorem putOps_cases (l : List OpD) : (l.all opOk = true ∧ l.length ≤ 16 ∧ putOps l = (encList encOp l, 0)) ∨ (l.all opOk = true ∧ ¬ l.length ≤ 16 ∧ putOps l = ([], 3)) ∨ (l.all opOk = false ∧ putOps l = ([], 1)) := by
  cases h : l.all opOk with
  | false => exact .inr (.inr ⟨rfl, putOps_arg h⟩)
  | true =>
    by_cases hn : l.length ≤ 16
    · exact .inl ⟨rfl, hn, putOps_fits h hn⟩
    · exact .inr (.inl ⟨rfl, hn, putOps_limit h hn⟩)
theorem putRes_cases (l : List (List RowD)) : (l.all resOk = true ∧ (l.length ≤ 16 ∧ l.all (fun r => decide (r.length ≤ 256)) = true) ∧ putRes l = (encList encRes l, 0)) ∨ (l.all resOk = true ∧ ¬ (l.length ≤ 16 ∧ l.all (fun r => decide (r.length ≤ 256)) = true) ∧ putRes l = ([], 3)) ∨ (l.all resOk = false ∧ putRes l = ([], 1)) := by
  cases h : l.all resOk with
  | false => exact .inr (.inr ⟨rfl, by unfold putRes; rw [h]; rfl⟩)
  | true =>
    by_cases hn : l.length ≤ 16 ∧ l.all (fun r => decide (r.length ≤ 256)) = true
    · exact .inl ⟨rfl, hn, by unfold putRes; rw [if_pos h, if_pos hn]⟩
    · exact .inr (.inl ⟨rfl, hn, by unfold putRes; rw [if_pos h, if_neg hn]⟩)
theorem pe_cases (m : MsgD) (k : Nat) : pe m k = 0 ∨ pe m k = 1 ∨ (pe m k = 3 ∧ pb m k = []) := by
  match k with
  | 0 =>
    show (if m.head then 0 else 1) = 0 ∨ (if m.head then 0 else 1) = 1 ∨ _
    cases m.head <;> simp
  | 1 =>
    show (putOps m.ops).2 = 0 ∨ (putOps m.ops).2 = 1 ∨ ((putOps m.ops).2 = 3 ∧ (if (putOps m.ops).2 = 0 then _ else []) = [])
    rcases putOps_cases m.ops with ⟨_, _, h⟩ | ⟨_, _, h⟩ | ⟨_, h⟩ <;> rw [h] <;> simp
  | k + 2 =>
    show (putRes m.res).2 = 0 ∨ (putRes m.res).2 = 1 ∨ ((putRes m.res).2 = 3 ∧ (putRes m.res).1 = [])
    rcases putRes_cases m.res with ⟨_, _, h⟩ | ⟨_, _, h⟩ | ⟨_, h⟩ <;> rw [h] <;> simp
theorem pb_len (m : MsgD) (k : Nat) : (pb m k).length ≤ 101000 := by
  match k with
  | 0 =>
    show (if m.head then headM m else []).length ≤ _
    cases m.head <;> simp [headM, be4]
  | 1 =>
    show (if (putOps m.ops).2 = 0 then be4 (putOps m.ops).1.length ++ (putOps m.ops).1 else []).length ≤ _
    rcases putOps_cases m.ops with ⟨h1, h2, h⟩ | ⟨_, _, h⟩ | ⟨_, h⟩
    · rw [h]
      have := encOps_small h1 h2
      simp only [if_true, List.length_append, be4_len]; omega
    · rw [h]; simp
    · rw [h]; simp
  | k + 2 =>
    show (putRes m.res).1.length ≤ _
    rcases putRes_cases m.res with ⟨h1, h2, h⟩ | ⟨_, _, h⟩ | ⟨_, h⟩
    · rw [h]
      have := encRes_small h1 h2.1 h2.2
      show (encList encRes m.res).length ≤ _
      omega
    · rw [h]; simp
    · rw [h]; simp
theorem pre_len (m : MsgD) : ∀ k, (pre m k).length ≤ 101000 * k
  | 0 => by simp [pre]
  | k + 1 => by
    show (pre m k ++ pb m k).length ≤ _
    have h1 := pre_len m k
    have h2 := pb_len m k
    rw [List.length_append]; omega
theorem put_one (m : MsgD) (k : Nat) (hk : k < 3) (h : pe m k = 1) : putM m = ([], 1) := by
  have hno : m.ok = false := by
    unfold MsgD.ok
    rcases (show k = 0 ∨ k = 1 ∨ k = 2 by omega) with rfl | rfl | rfl
    · have : m.head = false := by
        revert h
        show (if m.head then 0 else 1) = 1 → _
        cases m.head <;> simp
      rw [this]; rfl
    · have : m.ops.all opOk = false := by
        revert h
        show (putOps m.ops).2 = 1 → _
        rcases putOps_cases m.ops with ⟨_, _, h⟩ | ⟨_, _, h⟩ | ⟨h1, h⟩ <;> rw [h]
        · simp
        · simp
        · exact fun _ => h1
      rw [this]; simp
    · have : m.res.all resOk = false := by
        revert h
        show (putRes m.res).2 = 1 → _
        rcases putRes_cases m.res with ⟨_, _, h⟩ | ⟨_, _, h⟩ | ⟨h1, h⟩ <;> rw [h]
        · simp
        · simp
        · exact fun _ => h1
      rw [this]; simp
  unfold putM
  rw [if_neg (by simp [hno])]
theorem ok_of {m : MsgD} (h1 : m.head = true) (h2 : m.ops.all opOk = true) (h3 : m.res.all resOk = true) : m.ok = true := by unfold MsgD.ok; rw [h1, h2, h3]; rfl
theorem put_sum (m : MsgD) (h : ∀ j, j < 3 → pe m j ≠ 1) : (psd m 3 = 0 ∧ putM m = (pre m 3, 0)) ∨ (psd m 3 = 3 ∧ putM m = ([], 3)) := by
  have h0 := h 0 (by omega)
  have h1 := h 1 (by omega)
  have h2 := h 2 (by omega)
  have e0 : m.head = true := by
    revert h0
    show (if m.head then 0 else 1) ≠ 1 → _
    cases m.head <;> simp
  have p0 : pe m 0 = 0 := by show (if m.head then 0 else 1) = 0; rw [e0]; rfl
  have q0 : pb m 0 = headM m := by show (if m.head then headM m else []) = _; rw [e0]; rfl
  have s3 : psd m 3 = if pe m 2 = 0 then (if pe m 1 = 0 then (if pe m 0 = 0 then 0 else pe m 0) else pe m 1) else pe m 2 := rfl
  have r3 : pre m 3 = (([] ++ pb m 0) ++ pb m 1) ++ pb m 2 := rfl
  rw [s3, r3, p0, q0]
  have p1 : pe m 1 = (putOps m.ops).2 := rfl
  have p2 : pe m 2 = (putRes m.res).2 := rfl
  have q1 : pb m 1 = if (putOps m.ops).2 = 0 then be4 (putOps m.ops).1.length ++ (putOps m.ops).1 else [] := rfl
  have q2 : pb m 2 = (putRes m.res).1 := rfl
  rw [q1, q2]
  rw [p1] at h1 ⊢
  rw [p2] at h2 ⊢
  rcases putOps_cases m.ops with ⟨a1, a2, a⟩ | ⟨a1, a2, a⟩ | ⟨_, a⟩
  · rcases putRes_cases m.res with ⟨b1, b2, b⟩ | ⟨b1, b2, b⟩ | ⟨_, b⟩
    · left
      rw [a, b]
      refine ⟨rfl, ?_⟩
      unfold putM
      rw [if_pos (ok_of e0 a1 b1), if_pos ⟨a2, b2⟩]
      rfl
    · right
      rw [a, b]
      refine ⟨rfl, ?_⟩
      unfold putM
      rw [if_pos (ok_of e0 a1 b1), if_neg (fun hf => b2 hf.2)]
    · rw [b] at h2; exact absurd rfl h2
  · rcases putRes_cases m.res with ⟨b1, b2, b⟩ | ⟨b1, b2, b⟩ | ⟨_, b⟩
    · right
      rw [a, b]
      refine ⟨rfl, ?_⟩
      unfold putM
      rw [if_pos (ok_of e0 a1 b1), if_neg (fun hf => a2 hf.1)]
    · right
      rw [a, b]
      refine ⟨rfl, ?_⟩
      unfold putM
      rw [if_pos (ok_of e0 a1 b1), if_neg (fun hf => a2 hf.1)]
    · rw [b] at h2; exact absurd rfl h2
  · rw [a] at h1; exact absurd rfl h1

/-- A message's cells in block X. -/
structure MCell (W : World) (X : Nat) (s f t g : Int) (vo vr : Value) : Prop where
  c0 : W.cell? ⟨X, 0, none⟩ = some (.int .u8 s)
  c1 : W.cell? ⟨X, 1, none⟩ = some (.int .u8 f)
  c2 : W.cell? ⟨X, 2, none⟩ = some (.int .u8 t)
  c3 : W.cell? ⟨X, 3, none⟩ = some (.int .u32 g)
  c4 : W.cell? ⟨X, 4, none⟩ = some vo
  c5 : W.cell? ⟨X, 5, none⟩ = some vr
theorem MCell.below {W W' : World} {X : Nat} {s f t g : Int} {vo vr : Value} {H : Nat} (h : MCell W X s f t g vo vr) (hX : X < H) (hb : Below H W W') : MCell W' X s f t g vo vr :=
  ⟨(hb.cell hX).trans h.c0, (hb.cell hX).trans h.c1, (hb.cell hX).trans h.c2, (hb.cell hX).trans h.c3, (hb.cell hX).trans h.c4, (hb.cell hX).trans h.c5⟩
/-- What a part of a message tells. -/
abbrev Part (F : FuncId) (X : Nat) (er : Nat) (bs : List UInt8) (W : World) : Prop :=
  Calls Tryz.prog F #[.pointer (some ⟨X, 0, none⟩)] W fun e w' => ∃ a n c, e = .returned (.tuple #[.slice a n c, .int .i64 (er : Int)]) ∧ BsAt w' W.heap.size (.slice a n c) bs ∧ Below W.heap.size W w'

set_option maxHeartbeats 2000000 in
set_option maxRecDepth 1000000 in
theorem part0 (W : World) (X : Nat) (m : MsgD) (ao bo : Option Addr) (na ca nb cb : Nat) (h : MCell W X (m.say.toNat : Int) (m.src.toNat : Int) (m.dst.toNat : Int) (m.g.toNat : Int) (.slice ao na ca) (.slice bo nb cb)) :
    Part 25 X (pe m 0) (pb m 0) W := by
  obtain ⟨c0, c1, c2, c3, c4, c5⟩ := h
  cases hh : m.head with
  | true =>
    have kh := fun W => putHead_ok W m.say m.src m.dst m.g.toNat (u32_lt m.g) ao bo na ca nb cb hh
    have e1 : pe m 0 = 0 := by show (if m.head then 0 else 1) = 0; rw [hh]; rfl
    have e2 : pb m 0 = m.say :: m.src :: m.dst :: be4 m.g.toNat := by show (if m.head then headM m else []) = _; rw [hh]; rfl
    rw [e1, e2]
    clear e1 e2 hh
    go_enter Tryz.func25, Tryz.ntmps25
    go_wp2_with fail
    refine (kh _).mono ?_
    rintro e w1 ⟨a, c, rfl, o1, b1⟩
    clear kh
    go_wp2
    go_ret2
    exact ⟨_, _, _, rfl, o1, b1⟩
  | false =>
    have kh := fun W => putHead_no W m.say.toNat m.src.toNat m.dst.toNat m.g.toNat ao bo na ca nb cb hh
    have e1 : pe m 0 = 1 := by show (if m.head then 0 else 1) = 1; rw [hh]; rfl
    have e2 : pb m 0 = [] := by show (if m.head then headM m else []) = _; rw [hh]; rfl
    rw [e1, e2]
    clear e1 e2 hh
    go_enter Tryz.func25, Tryz.ntmps25
    go_wp2_with fail
    refine (kh _).mono ?_
    rintro e w1 ⟨rfl, b1⟩
    clear kh
    go_wp2
    go_ret2
    exact ⟨_, _, _, rfl, BsAt_nil _ _, b1⟩

set_option maxHeartbeats 2000000 in
set_option maxRecDepth 1000000 in
theorem part1 (W : World) (X : Nat) (m : MsgD) (ao bo : Option Addr) (na ca nb cb : Nat) (s f t g : Int) (h : MCell W X s f t g (.slice ao na ca) (.slice bo nb cb))
    (ho : SlAt 4 opCells W W.heap.size (.slice ao na ca) m.ops) (hs : ∀ x ∈ m.ops, opSm x) :
    Part 27 X (pe m 1) (pb m 1) W := by
  have c4 := h.c4
  clear h
  have kp := PutOps_any W _ m.ops ho hs
  clear ho hs
  show Calls _ _ _ _ fun e w' => ∃ a n c, e = .returned (.tuple #[.slice a n c, .int .i64 ((putOps m.ops).2 : Int)]) ∧ BsAt w' W.heap.size (.slice a n c) (if (putOps m.ops).2 = 0 then be4 (putOps m.ops).1.length ++ (putOps m.ops).1 else []) ∧ Below W.heap.size W w'
  have hlen : (putOps m.ops).1.length ≤ 1000 := by
    rcases putOps_cases m.ops with ⟨h1, h2, h⟩ | ⟨_, _, h⟩ | ⟨_, h⟩
    · rw [h]; exact encOps_small h1 h2
    · rw [h]; simp
    · rw [h]; simp
  generalize (putOps m.ops).1 = bs at *
  generalize (putOps m.ops).2 = er at *
  by_cases he : er = 0
  · subst he
    rw [if_pos rfl]
    go_enter Tryz.func27, Tryz.ntmps27
    go_wp2_with fail
    refine kp.mono ?_
    rintro e w1 ⟨v, rfl, o1, b1⟩
    have kc := counted_ok w1 v bs (in_own o1) (by omega)
    obtain ⟨a1, c1, rfl⟩ := own_len o1
    clear kp c4
    go_wp2_with fail
    refine kc.mono ?_
    rintro e w2 ⟨a2, n2, c2, rfl, o2, b2⟩
    have b3 := b1.trans (b2.mono b1.size)
    have o3 := o2.mono b1.size
    clear kc o1 b1 o2 b2
    go_wp2
    go_ret2
    exact ⟨_, _, _, rfl, o3, b3⟩
  · rw [if_neg he]
    go_enter Tryz.func27, Tryz.ntmps27
    go_wp2_with fail
    refine kp.mono ?_
    rintro e w1 ⟨v, rfl, o1, b1⟩
    obtain ⟨a1, c1, rfl⟩ := own_len o1
    have kc := counted_no w1 a1 bs.length c1 (er : Int) (by omega)
    clear kp c4
    go_wp2_with fail
    refine kc.mono ?_
    rintro e w2 ⟨rfl, rfl⟩
    clear kc o1
    go_wp2
    go_ret2
    exact ⟨_, _, _, rfl, BsAt_nil _ _, b1⟩

set_option maxHeartbeats 2000000 in
set_option maxRecDepth 1000000 in
theorem part2 (W : World) (X : Nat) (m : MsgD) (ao bo : Option Addr) (na ca nb cb : Nat) (s f t g : Int) (h : MCell W X s f t g (.slice ao na ca) (.slice bo nb cb))
    (l : List ResP) (hr : ResAt W W.heap.size (.slice bo nb cb) l) (hm : l.map (·.2) = m.res) :
    Part 30 X (pe m 2) (pb m 2) W := by
  have c5 := h.c5
  clear h
  have kp := PutResults_any W _ l hr
  rw [hm] at kp
  clear hr hm
  show Calls _ _ _ _ fun e w' => ∃ a n c, e = .returned (.tuple #[.slice a n c, .int .i64 ((putRes m.res).2 : Int)]) ∧ BsAt w' W.heap.size (.slice a n c) (putRes m.res).1 ∧ Below W.heap.size W w'
  generalize (putRes m.res).1 = bs at *
  generalize (putRes m.res).2 = er at *
  go_enter Tryz.func30, Tryz.ntmps30
  go_wp2_with fail
  refine kp.mono ?_
  rintro e w1 ⟨v, rfl, o1, b1⟩
  obtain ⟨a1, c1, rfl⟩ := own_len o1
  clear kp c5
  go_wp2
  go_ret2
  exact ⟨_, _, _, rfl, o1, b1⟩
end Go.Proofs.YtcgecdiaddcfkaaGreatDoor
/- The walk of Put itself. -/
set_option linter.unusedSimpArgs false
set_option linter.unusedVariables false
namespace Go.Proofs.YtcgecdiaddcfkaaGreatDoor
open Go.RowKit

theorem put_ix0 (X : Nat) (W : World) : (Instr.index 67 (.agg #[(.func (.func 25) #[] #[.pointer (some ⟨X, 0, none⟩)]), (.func (.func 27) #[] #[.pointer (some ⟨X, 0, none⟩)]), (.func (.func 30) #[] #[.pointer (some ⟨X, 0, none⟩)])]) (.int .i64 0)).run Tryz.prog W = .ok (.func (.func 25) #[] #[.pointer (some ⟨X, 0, none⟩)]) W := by kernel_rfl
theorem put_ix1 (X : Nat) (W : World) : (Instr.index 67 (.agg #[(.func (.func 25) #[] #[.pointer (some ⟨X, 0, none⟩)]), (.func (.func 27) #[] #[.pointer (some ⟨X, 0, none⟩)]), (.func (.func 30) #[] #[.pointer (some ⟨X, 0, none⟩)])]) (.int .i64 1)).run Tryz.prog W = .ok (.func (.func 27) #[] #[.pointer (some ⟨X, 0, none⟩)]) W := by kernel_rfl
theorem put_ix2 (X : Nat) (W : World) : (Instr.index 67 (.agg #[(.func (.func 25) #[] #[.pointer (some ⟨X, 0, none⟩)]), (.func (.func 27) #[] #[.pointer (some ⟨X, 0, none⟩)]), (.func (.func 30) #[] #[.pointer (some ⟨X, 0, none⟩)])]) (.int .i64 2)).run Tryz.prog W = .ok (.func (.func 30) #[] #[.pointer (some ⟨X, 0, none⟩)]) W := by kernel_rfl

set_option maxHeartbeats 2000000 in
set_option maxRecDepth 1000000 in
theorem Put_any (w : World) (m : MsgD) (vo vr : Value) (l : List ResP) (ho : SlAt 4 opCells w w.heap.size vo m.ops) (hs : ∀ x ∈ m.ops, opSm x) (hr : ResAt w w.heap.size vr l) (hm : l.map (·.2) = m.res) :
    Calls Tryz.prog 7 #[.agg #[.int .u8 (m.say.toNat : Int), .int .u8 (m.src.toNat : Int), .int .u8 (m.dst.toNat : Int), .int .u32 (m.g.toNat : Int), vo, vr]] w fun e w' => ∃ a c, e = .returned (.tuple #[.slice a (putM m).1.length c, .int .i64 ((putM m).2 : Int)]) ∧ BsAt w' w.heap.size (.slice a (putM m).1.length c) (putM m).1 ∧ Below w.heap.size w w' := by
  obtain ⟨i0, hi, hz0, hz1, hz2⟩ := info_parts info_u8
  obtain ⟨ao, ca, hvo, -, -, -⟩ := id ho
  obtain ⟨bo, cb, hvr, -, -, -⟩ := id hr.1
  obtain ⟨na, hna⟩ : ∃ n, n = m.ops.length := ⟨_, rfl⟩
  obtain ⟨nb, hnb⟩ : ∃ n, n = l.length := ⟨_, rfl⟩
  rw [← hna] at hvo
  rw [← hnb] at hvr
  subst hvo
  subst hvr
  clear hna hnb
  have hmf : ∀ (fn : Fn) (first cap : Array Value) (w : World), (Instr.makeFunc fn first cap).run Tryz.prog w = .ok (.func fn first cap) w := fun _ _ _ _ => rfl
  obtain ⟨X, hX⟩ : ∃ X, X = w.heap.size := ⟨_, rfl⟩
  obtain ⟨W1, hW1⟩ : ∃ W1, W1 = w.alloc (.cells #[.int .u8 (m.say.toNat : Int), .int .u8 (m.src.toNat : Int), .int .u8 (m.dst.toNat : Int), .int .u32 (m.g.toNat : Int), .slice ao na ca, .slice bo nb cb] 27) := ⟨_, rfl⟩
  have B1 : Below w.heap.size w W1 := by rw [hW1]; exact below_one w _
  have Z1 : W1.heap.size = X + 1 := by rw [hW1, hX]; simp
  have C1 : MCell W1 X (m.say.toNat : Int) (m.src.toNat : Int) (m.dst.toNat : Int) (m.g.toNat : Int) (.slice ao na ca) (.slice bo nb cb) := by
    rw [hW1, hX]
    constructor <;> go_simp
  have k0 : ∀ W, Below W1.heap.size W1 W → Part 25 X (pe m 0) (pb m 0) W := fun W hW => part0 W X m ao bo na ca nb cb (C1.below (by omega) hW)
  have k1 : ∀ W, Below W1.heap.size W1 W → Part 27 X (pe m 1) (pb m 1) W := fun W hW => by
    have b := B1.trans (hW.mono B1.size)
    exact part1 W X m ao bo na ca nb cb _ _ _ _ (C1.below (by omega) hW) ((ho.below b (Nat.le_refl _)).mono b.size) hs
  have k2 : ∀ W, Below W1.heap.size W1 W → Part 30 X (pe m 2) (pb m 2) W := fun W hW => by
    have b := B1.trans (hW.mono B1.size)
    exact part2 W X m ao bo na ca nb cb _ _ _ _ (C1.below (by omega) hW) l ((hr.below b (Nat.le_refl _)).mono b.size) hm
  have pl := pre_len m
  have ql := pb_len m
  have one := put_one m
  have sum := put_sum m
  have pc := pe_cases m
  have s0 : psd m 0 = 0 := rfl
  have r0 : pre m 0 = [] := rfl
  have ss : ∀ k, psd m (k + 1) = if pe m k = 0 then psd m k else pe m k := fun _ => rfl
  have rs : ∀ k, pre m (k + 1) = pre m k ++ pb m k := fun _ => rfl
  clear ho hs hr hm C1
  generalize pe m = er at *
  generalize pb m = bs at *
  generalize psd m = sd at *
  generalize pre m = pr at *
  generalize putM m = pm at *
  obtain ⟨W2, hW2⟩ : ∃ W2, W2 = W1.alloc (.cells #[.func (.func 25) #[] #[.pointer (some ⟨w.heap.size, 0, none⟩)], .func (.func 27) #[] #[.pointer (some ⟨w.heap.size, 0, none⟩)], .func (.func 30) #[] #[.pointer (some ⟨w.heap.size, 0, none⟩)]] 67) := ⟨_, rfl⟩
  have B2 : Below W1.heap.size W1 W2 := by rw [hW2]; exact below_one W1 _
  have bw2 := B1.trans (B2.mono B1.size)
  replace k0 : ∀ W, Below W2.heap.size W2 W → Part 25 X (er 0) (bs 0) W := fun W hW => k0 W (B2.trans (hW.mono B2.size))
  replace k1 : ∀ W, Below W2.heap.size W2 W → Part 27 X (er 1) (bs 1) W := fun W hW => k1 W (B2.trans (hW.mono B2.size))
  replace k2 : ∀ W, Below W2.heap.size W2 W → Part 30 X (er 2) (bs 2) W := fun W hW => k2 W (B2.trans (hW.mono B2.size))
  clear B2 Z1 B1
  subst hX
  subst hW1
  have hi0 := put_ix0 w.heap.size
  have hi1 := put_ix1 w.heap.size
  have hi2 := put_ix2 w.heap.size
  go_enter Tryz.func7, Tryz.ntmps7
  go_wp2
  rw [← hW2]
  clear hW2
  go_loopw [5, 6, 16] (fun made said i wr => ∃ k : Nat, k ≤ 3 ∧ i = .int .i64 (k : Int) ∧ said = .int .i64 (sd k : Int) ∧ (∀ j, j < k → er j ≠ 1) ∧ BsAt wr W2.heap.size made (pr k) ∧ Below W2.heap.size W2 wr) (fun _ _ i _ => 3 - (intOf i).toNat)
  case atStart => exact ⟨0, by omega, rfl, by rw [s0]; rfl, fun j hj => by omega, by rw [r0]; exact BsAt_nil _ _, Below.refl _ _⟩
  case round =>
    obtain ⟨k, hk, rfl, rfl, hne, hO, hB⟩ := hrel
    obtain ⟨ma, mc, rfl⟩ := own_len hO
    by_cases h3 : k < 3
    · have hz := hB.size
      have plk := pl k
      have qlk := ql k
      have fin : ∀ v' w3, w3.ownsRow W2.heap.size 5 1 v' ((pr k).length + (bs k).length) (bcells (pr k) ++ bcells (bs k)) → ∀ u, Below wr.heap.size wr u → u.grownBy w3 (Value.ownBlock (.slice ma (pr k).length mc)) → BsAt w3 W2.heap.size v' (pr (k + 1)) ∧ Below W2.heap.size W2 w3 := fun v' w3 ho u hu hg => by
        rw [rs k]
        have R := bs_next (W := u) (hO.below hu) (hB.trans (hu.mono hz)) (Nat.le_trans hz hu.size) ho hg
        exact R
      have hsk := ss k
      have kk : Calls Tryz.prog (if k = 0 then 25 else if k = 1 then 27 else 30) #[.pointer (some ⟨w.heap.size, 0, none⟩)] wr fun e w' => ∃ a c, e = .returned (.tuple #[.slice a (bs k).length c, .int .i64 (er k : Int)]) ∧ BsAt w' wr.heap.size (.slice a (bs k).length c) (bs k) ∧ Below wr.heap.size wr w' := by
        rcases (show k = 0 ∨ k = 1 ∨ k = 2 by omega) with rfl | rfl | rfl
        · refine (k0 wr hB).mono ?_
          rintro e w' ⟨a, n, c, rfl, o, b⟩
          obtain ⟨a', c', e⟩ := own_len o
          cases e
          exact ⟨_, _, rfl, o, b⟩
        · refine (k1 wr hB).mono ?_
          rintro e w' ⟨a, n, c, rfl, o, b⟩
          obtain ⟨a', c', e⟩ := own_len o
          cases e
          exact ⟨_, _, rfl, o, b⟩
        · refine (k2 wr hB).mono ?_
          rintro e w' ⟨a, n, c, rfl, o, b⟩
          obtain ⟨a', c', e⟩ := own_len o
          cases e
          exact ⟨_, _, rfl, o, b⟩
      have hn1 : Hid (er k ≠ 1 → ∀ j, j < k + 1 → er j ≠ 1) := fun h j hj => by
        by_cases e : j = k
        · rw [e]; exact h
        · exact hne j (by omega)
      have o1 := one k h3
      clear k0 k1 k2 pl ql hne s0 r0 ss rs
      rcases pc k with h0 | h1 | ⟨h4, h5⟩
      · have hs1 : Hid (sd (k + 1) = sd k) := by show _ = _; rw [hsk, if_pos h0]
        have hn2 : Hid (∀ j, j < k + 1 → er j ≠ 1) := hn1.out (by omega)
        rw [h0] at kk
        clear hsk o1 h0 one hn1 pc sum
        rcases (show k = 0 ∨ k = 1 ∨ k = 2 by omega) with rfl | rfl | rfl
        all_goals
          simp only [if_true, if_false, Nat.one_ne_zero, Nat.reduceEqDiff, Nat.reduceAdd, ↓reduceIte] at kk
          simp only [show ((0 : Nat) : Int) = 0 from rfl, show ((1 : Nat) : Int) = 1 from rfl, show ((2 : Nat) : Int) = 2 from rfl]
          go_wp2_with fail
          refine kk.mono ?_
          rintro e w4 ⟨a, c, rfl, o4, b4⟩
          have hO4 := hO.below b4
          have sr := src_inP (in_own o4)
          have z4 := Nat.le_trans hz b4.size
          clear kk
          go_wp2_with (at_builtin; refine wpList_append_own_src _ rfl (.tmp 30) (.tmp 31) 30 30 rfl W2.heap.size 5 i0 (.int .u8 0) 1 1 Tryz.underlying30 hi hz0 hz1 hz2 rfl (by decide) _ _ _ rfl hO4 _ _ _ rfl sr (by unfold maxLen; omega) (by omega) z4 ?_; intro v' w5 ho5 hg5 _; have R := fin v' w5 ho5 w4 b4 hg5; obtain ⟨a5, n5, c5, rfl⟩ := own_slice ho5)
          go_roundw
          case rel => exact ⟨_ + 1, by omega, by first | rfl | go_num, by rw [hs1.out] <;> rfl, hn2.out, R⟩
          case measure => simp [intOf]
      · rw [h1] at kk
        obtain rfl := o1 h1
        clear hsk o1 h1 one hn1 pc sum
        rcases (show k = 0 ∨ k = 1 ∨ k = 2 by omega) with rfl | rfl | rfl
        all_goals
          simp only [if_true, if_false, Nat.one_ne_zero, Nat.reduceEqDiff, Nat.reduceAdd, ↓reduceIte] at kk
          simp only [show ((0 : Nat) : Int) = 0 from rfl, show ((1 : Nat) : Int) = 1 from rfl, show ((2 : Nat) : Int) = 2 from rfl]
          go_wp2_with fail
          refine kk.mono ?_
          rintro e w4 ⟨a, c, rfl, o4, b4⟩
          have b5 := bw2.trans ((hB.trans (b4.mono hz)).mono bw2.size)
          clear kk o4 b4 fin
          go_wp2
          go_ret2
          exact ⟨_, _, rfl, BsAt_nil _ _, b5⟩
      · have hs1 : Hid (sd (k + 1) = 3) := by show _ = _; rw [hsk, if_neg (by omega), h4]
        have hn2 : Hid (∀ j, j < k + 1 → er j ≠ 1) := hn1.out (by omega)
        rw [h4] at kk
        clear hsk o1 h4 one hn1 pc sum h5
        rcases (show k = 0 ∨ k = 1 ∨ k = 2 by omega) with rfl | rfl | rfl
        all_goals
          simp only [if_true, if_false, Nat.one_ne_zero, Nat.reduceEqDiff, Nat.reduceAdd, ↓reduceIte] at kk
          simp only [show ((0 : Nat) : Int) = 0 from rfl, show ((1 : Nat) : Int) = 1 from rfl, show ((2 : Nat) : Int) = 2 from rfl]
          go_wp2_with fail
          refine kk.mono ?_
          rintro e w4 ⟨a, c, rfl, o4, b4⟩
          have hO4 := hO.below b4
          have sr := src_inP (in_own o4)
          have z4 := Nat.le_trans hz b4.size
          clear kk
          go_wp2_with (at_builtin; refine wpList_append_own_src _ rfl (.tmp 30) (.tmp 31) 30 30 rfl W2.heap.size 5 i0 (.int .u8 0) 1 1 Tryz.underlying30 hi hz0 hz1 hz2 rfl (by decide) _ _ _ rfl hO4 _ _ _ rfl sr (by unfold maxLen; omega) (by omega) z4 ?_; intro v' w5 ho5 hg5 _; have R := fin v' w5 ho5 w4 b4 hg5; obtain ⟨a5, n5, c5, rfl⟩ := own_slice ho5)
          go_roundw
          case rel => exact ⟨_ + 1, by omega, by first | rfl | go_num, by rw [hs1.out] <;> rfl, hn2.out, R⟩
          case measure => simp [intOf]
    · obtain rfl : k = 3 := by omega
      have b5 := bw2.trans (hB.mono bw2.size)
      have o5 := hO.mono bw2.size
      rcases sum hne with ⟨h1, h2⟩ | ⟨h1, h2⟩
      · subst h2
        rw [h1]
        clear k0 k1 k2 pl ql hne one sum pc ss rs hB hO
        go_wp2
        go_ret2
        exact ⟨_, _, rfl, o5, b5⟩
      · subst h2
        rw [h1]
        clear k0 k1 k2 pl ql hne one sum pc ss rs hB hO
        go_wp2
        go_ret2
        exact ⟨_, _, rfl, BsAt_nil _ _, b5⟩
end Go.Proofs.YtcgecdiaddcfkaaGreatDoor
