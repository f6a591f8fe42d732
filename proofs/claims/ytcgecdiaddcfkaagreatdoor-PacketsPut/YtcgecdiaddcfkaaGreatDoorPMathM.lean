import Derived.Test.YtcgecdiaddcfkaaGreatDoorM1
/- Plain facts on messages: how they are put as bytes, how bytes are read; what is put is got, and what is got was put. -/
set_option linter.unusedSimpArgs false
set_option linter.unusedVariables false
namespace Go.Proofs.YtcgecdiaddcfkaaGreatDoor

/-- A message. -/
structure MsgD where
  say : UInt8
  src : UInt8
  dst : UInt8
  g : UInt32
  ops : List OpD
  res : List (List RowD)

/-- May it be, as far as its ops and results don't matter? -/
def headOk (s f t : Nat) : Bool := decide (1 ≤ s ∧ s ≤ 7 ∧ f ≤ 3 ∧ t ≤ 3)
def MsgD.head (m : MsgD) : Bool := headOk m.say.toNat m.src.toNat m.dst.toNat
/-- May it be? -/
def MsgD.ok (m : MsgD) : Bool := m.head && (m.ops.all opOk && m.res.all resOk)
/-- Is there no more of anything than there may be? -/
def fewM (ops : List OpD) (res : List (List RowD)) : Prop := ops.length ≤ 16 ∧ res.length ≤ 16 ∧ res.all (fun r => decide (r.length ≤ 256)) = true
instance (ops : List OpD) (res : List (List RowD)) : Decidable (fewM ops res) := by unfold fewM; infer_instance
/-- Its first bytes. -/
def headM (m : MsgD) : List UInt8 := m.say :: m.src :: m.dst :: be4 m.g.toNat
/-- Its bytes. -/
def encM (m : MsgD) : List UInt8 := headM m ++ (be4 (encList encOp m.ops).length ++ encList encOp m.ops) ++ encList encRes m.res
/-- Bytes, and the error's number. -/
def putM (m : MsgD) : List UInt8 × Nat := if m.ok then (if fewM m.ops m.res then (encM m, 0) else ([], 3)) else ([], 1)
def zeroM : MsgD := ⟨0, 0, 0, 0, [], []⟩
/-- The number of the bytes from the k-th on, four of them. -/
def numAt (k : Nat) (bs : List UInt8) : Nat := hiN ((bs.drop k).take 4)
/-- The message whose bytes these are, if each of them is fine by itself. -/
def rawM (bs : List UInt8) : MsgD := ⟨bs.getD 0 0, bs.getD 1 0, bs.getD 2 0, UInt32.ofNat (numAt 3 bs), (getOps ((bs.drop 11).take (numAt 7 bs))).1, (getRes ((bs.drop 11).drop (numAt 7 bs))).1⟩
def getM (bs : List UInt8) : MsgD × Nat :=
  if bs.length < 11 then (zeroM, 4)
  else if (rawM bs).head = true ∧ numAt 7 bs ≤ bs.length - 11 then
    (if (getOps ((bs.drop 11).take (numAt 7 bs))).2 = 0 ∧ (getRes ((bs.drop 11).drop (numAt 7 bs))).2 = 0 then (rawM bs, 0) else (zeroM, 4))
  else (zeroM, 4)

theorem okFew' (m : List (List RowD)) : m.all (fun l => resOk l && decide (l.length ≤ 256)) = (m.all resOk && m.all (fun r => decide (r.length ≤ 256))) := by
  induction m with
  | nil => rfl
  | cons x m ih => simp only [List.all_cons, ih]; cases resOk x <;> cases decide (x.length ≤ 256) <;> simp
theorem getOps_cases (bs : List UInt8) : (∃ l, getOps bs = (l, 0) ∧ l.all opOk = true ∧ l.length ≤ 16 ∧ encList encOp l = bs) ∨ getOps bs = ([], 4) := by
  rcases whole_iff good_op (most := 16) (by omega) bs with h | h
  · exact .inl h
  · exact .inr h.1
theorem getOps_enc {l : List OpD} (h : l.all opOk = true) (hn : l.length ≤ 16) : getOps (encList encOp l) = (l, 0) := whole_put good_op (by omega) l h hn
theorem getRes_cases (bs : List UInt8) : (∃ m, getRes bs = (m, 0) ∧ m.all resOk = true ∧ m.length ≤ 16 ∧ m.all (fun r => decide (r.length ≤ 256)) = true ∧ encList encRes m = bs) ∨ getRes bs = ([], 4) := by
  rcases whole_iff good_res (most := 16) (by omega) bs with ⟨m, h1, h2, h3, h4⟩ | h
  · rw [okFew', Bool.and_eq_true] at h2
    exact .inl ⟨m, h1, h2.1, h3, h2.2, h4⟩
  · exact .inr h.1
theorem getRes_enc {m : List (List RowD)} (h : m.all resOk = true) (hn : m.length ≤ 16) (hf : m.all (fun r => decide (r.length ≤ 256)) = true) : getRes (encList encRes m) = (m, 0) :=
  whole_put good_res (by omega) m (by rw [okFew', h, hf]; rfl) hn

theorem hiN_of_be4 {n : Nat} (hn : n < 4294967296) : hiN (be4 n) = n := by
  unfold be4; rw [hiN_4]; simp; omega
theorem be4_of_hiN {l : List UInt8} (h : l.length = 4) : be4 (hiN l) = l := by
  match l, h with
  | [a, b, c, d], _ =>
    rw [hiN_4]
    have ha := u8_lt a
    have hb := u8_lt b
    have hc := u8_lt c
    have hd := u8_lt d
    unfold be4
    rw [show (((a.toNat * 256 + b.toNat) * 256 + c.toNat) * 256 + d.toNat) / 16777216 = a.toNat by omega, u8_of]
    simp only [List.cons.injEq, true_and, and_true]
    refine ⟨?_, ?_, ?_⟩ <;> (apply UInt8.toNat_inj.mp; first | (simp; done) | (simp; omega))
theorem hiN4_lt {l : List UInt8} (h : l.length = 4) : hiN l < 4294967296 := by
  match l, h with
  | [a, b, c, d], _ =>
    rw [hiN_4]
    have ha := u8_lt a
    have hb := u8_lt b
    have hc := u8_lt c
    have hd := u8_lt d
    omega
theorem numAt_lt {k : Nat} {bs : List UInt8} (h : k + 4 ≤ bs.length) : numAt k bs < 4294967296 := hiN4_lt (by simp; omega)
theorem be4_numAt {k : Nat} {bs : List UInt8} (h : k + 4 ≤ bs.length) : be4 (numAt k bs) = (bs.drop k).take 4 := be4_of_hiN (by simp; omega)

theorem encOps_small {l : List OpD} (h : l.all opOk = true) (hn : l.length ≤ 16) : (encList encOp l).length ≤ 1000 := by
  have key : ∀ l : List OpD, l.all opOk = true → (l.flatMap encOp).length ≤ 40 * l.length := by
    intro l
    induction l with
    | nil => intro _; simp
    | cons x l ih =>
      intro h
      rw [List.all_cons, Bool.and_eq_true] at h
      have h1 := ih h.2
      have h2 := opOk_key h.1
      have h3 := opOk_to h.1
      have e1 : (encOp x).length = 7 + x.key.size + x.to.size := by
        have a1 : x.key.data.toList.length = x.key.size := by rw [Array.length_toList]; rfl
        have a2 : x.to.data.toList.length = x.to.size := by rw [Array.length_toList]; rfl
        simp only [encOp, txt, be4, List.length_cons, List.length_append, List.length_nil, a1, a2]
        omega
      rw [List.flatMap_cons, List.length_append, List.length_cons, e1]
      omega
  have := key l h
  unfold encList
  rw [List.length_append, be2_len]
  omega

theorem encM_eq (m : MsgD) : encM m = m.say :: m.src :: m.dst :: (be4 m.g.toNat ++ (be4 (encList encOp m.ops).length ++ (encList encOp m.ops ++ encList encRes m.res))) := by
  simp [encM, headM]

theorem getM_put {m : MsgD} (h : m.ok = true) (hf : fewM m.ops m.res) : getM (encM m) = (m, 0) := by
  obtain ⟨say, src, dst, g, ops, res⟩ := m
  unfold MsgD.ok at h
  rw [Bool.and_eq_true, Bool.and_eq_true] at h
  obtain ⟨h1, h2, h3⟩ := h
  obtain ⟨f1, f2, f3⟩ := hf
  simp only at h2 h3 f1 f2 f3
  have g1 := getOps_enc h2 f1
  have g2 := getRes_enc h3 f2 f3
  have hsm := encOps_small h2 f1
  rw [encM_eq]
  simp only
  obtain ⟨A, hA⟩ : ∃ A, A = encList encOp ops := ⟨_, rfl⟩
  obtain ⟨B, hB⟩ : ∃ B, B = encList encRes res := ⟨_, rfl⟩
  rw [← hA] at g1 hsm ⊢
  rw [← hB] at g2 ⊢
  obtain ⟨p, hp⟩ : ∃ p, p = be4 g.toNat := ⟨_, rfl⟩
  obtain ⟨q, hq⟩ : ∃ q, q = be4 A.length := ⟨_, rfl⟩
  have np : hiN p = g.toNat := by rw [hp]; exact hiN_of_be4 (u32_lt g)
  have nq : hiN q = A.length := by rw [hq]; exact hiN_of_be4 (by omega)
  have lp : p.length = 4 := by rw [hp]; rfl
  have lq : q.length = 4 := by rw [hq]; rfl
  rw [← hp, ← hq]
  clear hp hq
  obtain ⟨p0, p1, p2, p3, rfl⟩ : ∃ a b c d, p = [a, b, c, d] := by
    match p, lp with
    | [a, b, c, d], _ => exact ⟨a, b, c, d, rfl⟩
  obtain ⟨q0, q1, q2, q3, rfl⟩ : ∃ a b c d, q = [a, b, c, d] := by
    match q, lq with
    | [a, b, c, d], _ => exact ⟨a, b, c, d, rfl⟩
  have n3 : numAt 3 (say :: src :: dst :: ([p0, p1, p2, p3] ++ ([q0, q1, q2, q3] ++ (A ++ B)))) = g.toNat := np
  have n7 : numAt 7 (say :: src :: dst :: ([p0, p1, p2, p3] ++ ([q0, q1, q2, q3] ++ (A ++ B)))) = A.length := nq
  have d11 : (say :: src :: dst :: ([p0, p1, p2, p3] ++ ([q0, q1, q2, q3] ++ (A ++ B)))).drop 11 = A ++ B := rfl
  have t11 : ((say :: src :: dst :: ([p0, p1, p2, p3] ++ ([q0, q1, q2, q3] ++ (A ++ B)))).drop 11).take A.length = A := by rw [d11]; simp
  have u11 : ((say :: src :: dst :: ([p0, p1, p2, p3] ++ ([q0, q1, q2, q3] ++ (A ++ B)))).drop 11).drop A.length = B := by rw [d11]; simp
  have raw : rawM (say :: src :: dst :: ([p0, p1, p2, p3] ++ ([q0, q1, q2, q3] ++ (A ++ B)))) = ⟨say, src, dst, g, ops, res⟩ := by
    unfold rawM
    rw [n3, n7, t11, u11, g1, g2, u32_of]
    rfl
  unfold getM
  rw [if_neg (by simp), raw, n7, t11, u11, g1, g2, if_pos ⟨h1, by simp⟩, if_pos ⟨rfl, rfl⟩]

theorem head3 {bs : List UInt8} (h : 3 ≤ bs.length) : ∃ a b c t, bs = a :: b :: c :: t ∧ t.length + 3 = bs.length := by
  rcases bs with _ | ⟨a, _ | ⟨b, _ | ⟨c, t⟩⟩⟩
  · simp at h
  · simp at h
  · simp at h
  · exact ⟨a, b, c, t, rfl, rfl⟩
theorem getM_two (bs : List UInt8) : (∃ m, getM bs = (m, 0) ∧ m.ok = true ∧ fewM m.ops m.res ∧ encM m = bs) ∨ getM bs = (zeroM, 4) := by
  unfold getM
  by_cases h0 : bs.length < 11
  · exact .inr (by rw [if_pos h0])
  rw [if_neg h0]
  by_cases h1 : (rawM bs).head = true ∧ numAt 7 bs ≤ bs.length - 11
  case neg => exact .inr (by rw [if_neg h1])
  rw [if_pos h1]
  by_cases h2 : (getOps ((bs.drop 11).take (numAt 7 bs))).2 = 0 ∧ (getRes ((bs.drop 11).drop (numAt 7 bs))).2 = 0
  case neg => exact .inr (by rw [if_neg h2])
  rw [if_pos h2]
  refine .inl ⟨_, rfl, ?_⟩
  rcases getOps_cases ((bs.drop 11).take (numAt 7 bs)) with ⟨l, a1, a2, a3, a4⟩ | a
  case inr => rw [a] at h2; exact absurd h2.1 (by decide)
  rcases getRes_cases ((bs.drop 11).drop (numAt 7 bs)) with ⟨m, b1, b2, b3, b4, b5⟩ | b
  case inr => rw [b] at h2; exact absurd h2.2 (by decide)
  have e1 : (rawM bs).ops = l := by unfold rawM; rw [a1]
  have e2 : (rawM bs).res = m := by unfold rawM; rw [b1]
  refine ⟨?_, ?_, ?_⟩
  · unfold MsgD.ok
    rw [h1.1, e1, e2, a2, b2]; rfl
  · rw [e1, e2]; exact ⟨a3, b3, b4⟩
  · rw [encM_eq, e1, e2, a4, b5, List.take_append_drop]
    have hl : ((bs.drop 11).take (numAt 7 bs)).length = numAt 7 bs := by simp; omega
    rw [hl, be4_numAt (by omega)]
    have eg : (rawM bs).g.toNat = numAt 3 bs := u32_nat (numAt_lt (by omega))
    rw [eg, be4_numAt (by omega)]
    obtain ⟨a, b, c, t, rfl, ht⟩ := head3 (bs := bs) (by omega)
    show a :: b :: c :: (t.take 4 ++ ((t.drop 4).take 4 ++ t.drop 8)) = _
    rw [show t.drop 8 = (t.drop 4).drop 4 by rw [List.drop_drop], List.take_append_drop, List.take_append_drop]

theorem encM_inj {m n : MsgD} (hm : m.ok = true) (fm : fewM m.ops m.res) (hn : n.ok = true) (fn : fewM n.ops n.res) (h : encM m = encM n) : m = n := by
  have h1 := getM_put hm fm
  rw [h, getM_put hn fn] at h1
  exact (congrArg Prod.fst h1).symm
theorem encRes_small {m : List (List RowD)} (h : m.all resOk = true) (hn : m.length ≤ 16) (hf : m.all (fun r => decide (r.length ≤ 256)) = true) : (encList encRes m).length ≤ 100000 := by
  have k1 : ∀ l : List RowD, l.all rowOk = true → (l.flatMap encRow).length ≤ 21 * l.length := by
    intro l
    induction l with
    | nil => intro _; simp
    | cons x l ih =>
      intro h
      rw [List.all_cons, Bool.and_eq_true] at h
      have h1 := ih h.2
      have h2 : x.key.size ≤ 16 := chk_size h.1
      have e1 : (encRow x).length = 5 + x.key.size := by
        simp only [encRow, txt, be4, List.length_cons, List.length_append, List.length_nil]
        show x.key.data.toList.length + 1 + 4 = 5 + x.key.data.size
        rw [Array.length_toList]; omega
      rw [List.flatMap_cons, List.length_append, List.length_cons, e1]
      omega
  have k2 : ∀ m : List (List RowD), m.all resOk = true → m.all (fun r => decide (r.length ≤ 256)) = true → (m.flatMap encRes).length ≤ 5378 * m.length := by
    intro m
    induction m with
    | nil => intro _ _; simp
    | cons x m ih =>
      intro h hf
      rw [List.all_cons, Bool.and_eq_true] at h hf
      have h1 := ih h.2 hf.2
      have h2 := k1 x h.1
      have h3 : x.length ≤ 256 := of_decide_eq_true hf.1
      have e1 : (encRes x).length = 2 + (x.flatMap encRow).length := by
        unfold encRes encList
        rw [List.length_append, be2_len]
      rw [List.flatMap_cons, List.length_append, List.length_cons, e1]
      omega
  have := k2 m h hf
  unfold encList
  rw [List.length_append, be2_len]
  omega
end Go.Proofs.YtcgecdiaddcfkaaGreatDoor
