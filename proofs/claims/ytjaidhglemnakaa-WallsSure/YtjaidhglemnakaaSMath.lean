/- CRC-32, plain facts: one bit down, eight bits down, dividing on over bytes; it is linear, and one to one. -/
set_option linter.unusedSimpArgs false
set_option linter.unusedVariables false
namespace Go.Proofs.Ytjaidhglemnakaa

/-- What a number is taken against when a 1 falls off. -/
def dsr : BitVec 32 := 3988292384#32
/-- One bit down. -/
def mv (n : BitVec 32) : BitVec 32 := if n.getLsbD 0 = true then (n >>> 1) ^^^ dsr else n >>> 1
/-- So many bits down. -/
def mvN : Nat → BitVec 32 → BitVec 32
  | 0, n => n
  | k + 1, n => mvN k (mv n)

theorem xor_four (a b c d : BitVec 32) : (a ^^^ b) ^^^ (c ^^^ d) = (a ^^^ c) ^^^ (b ^^^ d) := by
  rw [BitVec.xor_assoc, BitVec.xor_assoc, ← BitVec.xor_assoc b c d, BitVec.xor_comm b c, BitVec.xor_assoc c b d]
theorem xor_same (a b : BitVec 32) : a ^^^ b ^^^ b = a := by rw [BitVec.xor_assoc, BitVec.xor_self, BitVec.xor_zero]
theorem mv_xor (a b : BitVec 32) : mv (a ^^^ b) = mv a ^^^ mv b := by
  unfold mv
  rw [BitVec.getLsbD_xor, BitVec.ushiftRight_xor_distrib]
  cases a.getLsbD 0 <;> cases b.getLsbD 0
  · rfl
  · simp [BitVec.xor_assoc]
  · simp only [Bool.xor_false, if_true, Bool.false_eq_true, if_false]
    rw [BitVec.xor_assoc, BitVec.xor_comm (b >>> 1) dsr, ← BitVec.xor_assoc]
  · simp only [Bool.xor_self, Bool.false_eq_true, if_false, if_true]
    rw [xor_four, BitVec.xor_self, BitVec.xor_zero]
theorem mv_zero : mv 0#32 = 0#32 := by decide
theorem mvN_xor (k : Nat) : ∀ a b : BitVec 32, mvN k (a ^^^ b) = mvN k a ^^^ mvN k b := by
  induction k with
  | zero => intro a b; rfl
  | succ k ih => intro a b; unfold mvN; rw [mv_xor, ih]
theorem mvN_zero (k : Nat) : mvN k 0#32 = 0#32 := by
  induction k with
  | zero => rfl
  | succ k ih => unfold mvN; rw [mv_zero, ih]
theorem mvN_add (a b : Nat) : ∀ n : BitVec 32, mvN (a + b) n = mvN b (mvN a n) := by
  induction a with
  | zero => intro n; rw [Nat.zero_add]; rfl
  | succ a ih => intro n; rw [Nat.succ_add]; show mvN (a + b) (mv n) = mvN b (mvN a (mv n)); exact ih _

theorem mv_nil {n : BitVec 32} (h : mv n = 0#32) : n = 0#32 := by
  have h31 : (mv n).getLsbD 31 = n.getLsbD 0 := by
    unfold mv
    have e1 : (n >>> 1).getLsbD 31 = false := by rw [BitVec.getLsbD_ushiftRight]; exact BitVec.getLsbD_of_ge _ _ (by omega)
    have e2 : dsr.getLsbD 31 = true := by decide
    cases h0 : n.getLsbD 0 with
    | true => simp only [if_true, BitVec.getLsbD_xor, e1, e2]; rfl
    | false => simp only [Bool.false_eq_true, if_false, e1]
  have h0 : n.getLsbD 0 = false := by rw [← h31, h]; simp
  have h1 : n >>> 1 = 0#32 := by
    have := h
    unfold mv at this
    simpa only [h0, Bool.false_eq_true, if_false] using this
  apply BitVec.eq_of_getLsbD_eq
  intro i hi
  cases i with
  | zero => rw [h0]; simp
  | succ i =>
    have h2 : (n >>> 1).getLsbD i = n.getLsbD (1 + i) := BitVec.getLsbD_ushiftRight ..
    rw [Nat.add_comm, ← h2, h1]
    simp
theorem mvN_nil (k : Nat) : ∀ {n : BitVec 32}, mvN k n = 0#32 → n = 0#32 := by
  induction k with
  | zero => intro n h; exact h
  | succ k ih => intro n h; exact mv_nil (ih h)
theorem xor_eq_nil {a b : BitVec 32} (h : a ^^^ b = 0#32) : a = b := by
  have := congrArg (· ^^^ b) h
  simp only [xor_same, BitVec.zero_xor] at this
  exact this
theorem mvN_inj (k : Nat) {a b : BitVec 32} (h : mvN k a = mvN k b) : a = b := by
  apply xor_eq_nil
  apply mvN_nil k
  rw [mvN_xor, h, BitVec.xor_self]

/-- What stands above the lowest bits only moves down. -/
theorem mvN_ofNat (k : Nat) : ∀ y : Nat, y * 2 ^ k < 4294967296 → mvN k (BitVec.ofNat 32 (y * 2 ^ k)) = BitVec.ofNat 32 y := by
  induction k with
  | zero => intro y _; simp [mvN]
  | succ k ih =>
    intro y hy
    have e : y * 2 ^ (k + 1) = 2 * (y * 2 ^ k) := by rw [Nat.pow_succ]; rw [← Nat.mul_assoc]; omega
    rw [e] at hy ⊢
    have h0 : (BitVec.ofNat 32 (2 * (y * 2 ^ k))).getLsbD 0 = false := by
      rw [BitVec.getLsbD_ofNat]; simp [Nat.testBit_zero]
    have h1 : (BitVec.ofNat 32 (2 * (y * 2 ^ k))) >>> 1 = BitVec.ofNat 32 (y * 2 ^ k) := by
      apply BitVec.eq_of_toNat_eq
      rw [BitVec.toNat_ushiftRight, BitVec.toNat_ofNat, BitVec.toNat_ofNat, Nat.shiftRight_eq_div_pow]
      omega
    show mvN k (mv _) = _
    unfold mv
    simp only [h0, Bool.false_eq_true, if_false, h1]
    exact ih y (by omega)

/-- A byte as a number. -/
def bw (x : UInt8) : BitVec 32 := BitVec.ofNat 32 x.toNat
theorem bw_toNat (x : UInt8) : (bw x).toNat = x.toNat := by
  unfold bw
  rw [BitVec.toNat_ofNat]
  have := x.toNat_lt
  omega
theorem bw_xor (x y : UInt8) : bw (x ^^^ y) = bw x ^^^ bw y := by
  apply BitVec.eq_of_toNat_eq
  rw [BitVec.toNat_xor, bw_toNat, bw_toNat, bw_toNat, UInt8.toNat_xor]
theorem bw_inj {x y : UInt8} (h : bw x = bw y) : x = y := by
  apply UInt8.toNat_inj.1
  rw [← bw_toNat, ← bw_toNat, h]

/-- One byte more. -/
def stp (n : BitVec 32) (x : UInt8) : BitVec 32 := mvN 8 (n ^^^ bw x)
/-- Dividing on, over bytes. -/
def dv (n : BitVec 32) (l : List UInt8) : BitVec 32 := l.foldl stp n
/-- The sum, from a sum on. -/
def sumOn (s : BitVec 32) (l : List UInt8) : BitVec 32 := ~~~ (dv (~~~ s) l)
def sumOf (l : List UInt8) : BitVec 32 := sumOn 0#32 l

theorem dv_nil (n : BitVec 32) : dv n [] = n := rfl
theorem dv_cons (n : BitVec 32) (x : UInt8) (l : List UInt8) : dv n (x :: l) = dv (stp n x) l := rfl
theorem dv_app (n : BitVec 32) (a b : List UInt8) : dv n (a ++ b) = dv (dv n a) b := by unfold dv; exact List.foldl_append
theorem dv_snoc (n : BitVec 32) (a : List UInt8) (x : UInt8) : dv n (a ++ [x]) = stp (dv n a) x := by rw [dv_app]; rfl
theorem sumOn_nil (s : BitVec 32) : sumOn s [] = s := by unfold sumOn; rw [dv_nil, BitVec.not_not]
theorem sumOn_app (s : BitVec 32) (a b : List UInt8) : sumOn s (a ++ b) = sumOn (sumOn s a) b := by unfold sumOn; rw [dv_app, BitVec.not_not]
theorem sumOf_app (a b : List UInt8) : sumOf (a ++ b) = sumOn (sumOf a) b := sumOn_app _ _ _

/-- What a byte does, by the table: only the lowest eight bits fall off. -/
theorem stp_tab (n : BitVec 32) (x : UInt8) : stp n x = (n >>> 8) ^^^ mvN 8 (BitVec.ofNat 32 ((n.toNat % 256) ^^^ x.toNat)) := by
  have hx := x.toNat_lt
  have hn := n.isLt
  have e1 : BitVec.ofNat 32 ((n.toNat % 256) ^^^ x.toNat) = BitVec.ofNat 32 (n.toNat % 256) ^^^ bw x := by
    apply BitVec.eq_of_toNat_eq
    have h1 : n.toNat % 256 < 256 := Nat.mod_lt _ (by omega)
    have h2 : (n.toNat % 256) ^^^ x.toNat < 2 ^ 8 := Nat.xor_lt_two_pow (by omega) (by omega)
    rw [BitVec.toNat_xor, bw_toNat, BitVec.toNat_ofNat, BitVec.toNat_ofNat, Nat.mod_eq_of_lt (a := (n.toNat % 256) ^^^ x.toNat) (by omega), Nat.mod_eq_of_lt (a := n.toNat % 256) (by omega)]
  have e2 : n = BitVec.ofNat 32 ((n.toNat / 256) * 2 ^ 8) ^^^ BitVec.ofNat 32 (n.toNat % 256) := by
    apply BitVec.eq_of_toNat_eq
    have h1 : n.toNat % 256 < 256 := Nat.mod_lt _ (by omega)
    rw [BitVec.toNat_xor, BitVec.toNat_ofNat, BitVec.toNat_ofNat, Nat.mod_eq_of_lt (a := n.toNat / 256 * 2 ^ 8) (by omega), Nat.mod_eq_of_lt (a := n.toNat % 256) (by omega)]
    apply Nat.eq_of_testBit_eq
    intro i
    rw [Nat.testBit_xor, Nat.testBit_mul_two_pow, show (256 : Nat) = 2 ^ 8 from rfl, Nat.testBit_mod_two_pow, Nat.testBit_div_two_pow]
    by_cases hi : i < 8
    · have h3 : ¬ 8 ≤ i := by omega
      simp [hi, h3]
    · have h3 : 8 ≤ i := by omega
      simp [hi, h3, Nat.sub_add_cancel h3]
  have e3 : n >>> 8 = mvN 8 (BitVec.ofNat 32 ((n.toNat / 256) * 2 ^ 8)) := by
    rw [mvN_ofNat 8 _ (by omega)]
    apply BitVec.eq_of_toNat_eq
    rw [BitVec.toNat_ushiftRight, BitVec.toNat_ofNat, Nat.shiftRight_eq_div_pow]
    omega
  unfold stp
  rw [e1, mvN_xor 8 (BitVec.ofNat 32 (n.toNat % 256)) (bw x), e3, ← BitVec.xor_assoc, ← mvN_xor 8 (BitVec.ofNat 32 _), ← e2, ← mvN_xor]

/-- Of the numbers, too: linear. -/
theorem dv_xor : ∀ (l : List (UInt8 × UInt8)) (n m : BitVec 32), dv (n ^^^ m) (l.map fun p => p.1 ^^^ p.2) = dv n (l.map (·.1)) ^^^ dv m (l.map (·.2))
  | [], n, m => rfl
  | p :: l, n, m => by
    simp only [List.map_cons, dv_cons]
    rw [← dv_xor l]
    congr 1
    unfold stp
    rw [← mvN_xor, bw_xor, xor_four]
theorem stp_inj {a b : BitVec 32} {x : UInt8} (h : stp a x = stp b x) : a = b := by
  have := mvN_inj 8 h
  have := congrArg (· ^^^ bw x) this
  simpa only [xor_same] using this
theorem dv_inj : ∀ (l : List UInt8) {a b : BitVec 32}, dv a l = dv b l → a = b
  | [], _, _, h => h
  | x :: l, _, _, h => stp_inj (dv_inj l h)
theorem not_inj {a b : BitVec 32} (h : ~~~ a = ~~~ b) : a = b := by rw [← BitVec.not_not (b := a), h, BitVec.not_not]
theorem sumOn_inj {l : List UInt8} {a b : BitVec 32} (h : sumOn a l = sumOn b l) : a = b := not_inj (dv_inj l (not_inj h))
theorem sumOn_iff (l : List UInt8) (a b : BitVec 32) : sumOn a l = sumOn b l ↔ a = b := ⟨sumOn_inj, fun h => by rw [h]⟩

/-- Four bytes, the lowest one first, as one number. -/
def four (a b c d : UInt8) : BitVec 32 := BitVec.ofNat 32 (a.toNat + 256 * b.toNat + 65536 * c.toNat + 16777216 * d.toNat)
theorem ofNat_xor_add (k lo hi : Nat) (h : lo < 2 ^ k) (hs : lo + hi * 2 ^ k < 4294967296) : BitVec.ofNat 32 (lo + hi * 2 ^ k) = BitVec.ofNat 32 lo ^^^ BitVec.ofNat 32 (hi * 2 ^ k) := by
  apply BitVec.eq_of_toNat_eq
  rw [BitVec.toNat_xor, BitVec.toNat_ofNat, BitVec.toNat_ofNat, BitVec.toNat_ofNat, Nat.mod_eq_of_lt (by omega), Nat.mod_eq_of_lt (by omega), Nat.mod_eq_of_lt (by omega)]
  apply Nat.eq_of_testBit_eq
  intro i
  rw [Nat.testBit_xor, Nat.testBit_mul_two_pow, Nat.add_comm, Nat.mul_comm hi, Nat.testBit_two_pow_mul_add _ h]
  by_cases hi' : i < k
  · have : ¬ k ≤ i := by omega
    simp [hi', this]
  · have h3 : k ≤ i := by omega
    have h4 : lo.testBit i = false := Nat.testBit_lt_two_pow (Nat.lt_of_lt_of_le h (Nat.pow_le_pow_right (by omega) h3))
    simp [hi', h3, h4]
/-- A byte, and what stands above it. -/
theorem stp_more (n : BitVec 32) (x : UInt8) (y : Nat) (hy : y < 16777216) : mvN 8 (n ^^^ BitVec.ofNat 32 (x.toNat + y * 2 ^ 8)) = stp n x ^^^ BitVec.ofNat 32 y := by
  have hx := x.toNat_lt
  rw [ofNat_xor_add 8 _ _ (by omega) (by omega), ← BitVec.xor_assoc, mvN_xor, mvN_ofNat 8 y (by omega)]
  rfl
theorem dv_four (n : BitVec 32) (a b c d : UInt8) : dv n [a, b, c, d] = mvN 32 (n ^^^ four a b c d) := by
  have ha := a.toNat_lt
  have hb := b.toNat_lt
  have hc := c.toNat_lt
  have hd := d.toNat_lt
  unfold four
  have e32 : ∀ x, mvN 32 x = mvN 8 (mvN 8 (mvN 8 (mvN 8 x))) := fun x => by rw [← mvN_add, ← mvN_add, ← mvN_add]
  rw [show a.toNat + 256 * b.toNat + 65536 * c.toNat + 16777216 * d.toNat = a.toNat + (b.toNat + (c.toNat + (d.toNat + 0 * 2 ^ 8) * 2 ^ 8) * 2 ^ 8) * 2 ^ 8 by omega,
    e32, stp_more _ _ _ (by omega), stp_more _ _ _ (by omega), stp_more _ _ _ (by omega), stp_more _ _ _ (by omega)]
  simp only [dv_cons, dv_nil, BitVec.ofNat_eq_ofNat, BitVec.xor_zero]
theorem four_toNat (a b c d : UInt8) : (four a b c d).toNat = a.toNat + 256 * b.toNat + 65536 * c.toNat + 16777216 * d.toNat := by
  have ha := a.toNat_lt
  have hb := b.toNat_lt
  have hc := c.toNat_lt
  have hd := d.toNat_lt
  unfold four
  rw [BitVec.toNat_ofNat]
  omega
theorem four_inj {a b c d a' b' c' d' : UInt8} (h : four a b c d = four a' b' c' d') : a = a' ∧ b = b' ∧ c = c' ∧ d = d' := by
  have := congrArg BitVec.toNat h
  rw [four_toNat, four_toNat] at this
  have ha := a.toNat_lt
  have hb := b.toNat_lt
  have hc := c.toNat_lt
  have hd := d.toNat_lt
  have ha' := a'.toNat_lt
  have hb' := b'.toNat_lt
  have hc' := c'.toNat_lt
  have hd' := d'.toNat_lt
  exact ⟨UInt8.toNat_inj.1 (by omega), UInt8.toNat_inj.1 (by omega), UInt8.toNat_inj.1 (by omega), UInt8.toNat_inj.1 (by omega)⟩

theorem not_xor_self (a : BitVec 32) : ~~~ a ^^^ a = 4294967295#32 := by
  apply BitVec.eq_of_getLsbD_eq
  intro i hi
  rw [BitVec.getLsbD_xor, BitVec.getLsbD_not]
  have : (4294967295#32).getLsbD i = true := by
    rw [show 4294967295#32 = BitVec.allOnes 32 from by decide, BitVec.getLsbD_allOnes]; simpa using hi
  rw [this]
  simp [hi]
theorem not_eq (a : BitVec 32) : ~~~ a = 4294967295#32 ^^^ a := by rw [← not_xor_self a, BitVec.xor_assoc, BitVec.xor_self, BitVec.xor_zero]
/-- Bytes with their sum behind them. -/
theorem sealed (l : List UInt8) (a b c d : UInt8) (h : sumOf l = four a b c d) : sumOf (l ++ [a, b, c, d]) = 558161692#32 := by
  rw [sumOf_app, h]
  unfold sumOn
  rw [dv_four, not_xor_self]
  decide +kernel

/-- Of two numbers ahead of the same bytes. -/
theorem dv_off : ∀ (l : List UInt8) (n m : BitVec 32), dv (n ^^^ m) l = dv n l ^^^ mvN (8 * l.length) m
  | [], n, m => rfl
  | x :: l, n, m => by
    rw [dv_cons, dv_cons, List.length_cons, Nat.mul_succ, Nat.add_comm, mvN_add, ← dv_off l]
    congr 1
    unfold stp
    rw [← mvN_xor, BitVec.xor_assoc, BitVec.xor_comm m, ← BitVec.xor_assoc]
/-- One byte turned. -/
theorem dv_set : ∀ (l : List UInt8) (i : Nat) (hi : i < l.length) (y : UInt8) (s : BitVec 32), dv s (l.set i (l[i] ^^^ y)) = dv s l ^^^ mvN (8 * (l.length - i)) (bw y)
  | x :: l, 0, _, y, s => by
    simp only [List.set_cons_zero, List.getElem_cons_zero, dv_cons, List.length_cons, Nat.sub_zero]
    rw [Nat.mul_succ, Nat.add_comm, mvN_add, ← dv_off l]
    congr 1
    unfold stp
    rw [← mvN_xor, bw_xor, BitVec.xor_assoc]
  | x :: l, i + 1, hi, y, s => by
    simp only [List.set_cons_succ, List.getElem_cons_succ, dv_cons, List.length_cons]
    rw [dv_set l i (by simpa using hi) y]
    congr 2
    omega
theorem mvN_pow (k m : Nat) (hk : k ≤ m) (h32 : k < 32) : mvN m (BitVec.ofNat 32 (2 ^ k)) = mvN (m - k) 1#32 := by
  have h := mvN_ofNat k 1 (by have := Nat.pow_lt_pow_right (a := 2) (by omega) h32; omega)
  rw [Nat.one_mul] at h
  rw [show m = k + (m - k) by omega, mvN_add, h, show k + (m - k) - k = m - k by omega]
/-- One bit turned, of bytes that are turned already. -/
theorem turn_step {l c : List UInt8} {s : BitVec 32} {frm k b : Nat} (hl : c.length = l.length) (hk : k < 32) (hf : frm + k < 8 * l.length)
    (hc : dv s c = dv s l ^^^ mvN (8 * l.length - frm) (BitVec.ofNat 32 (b % 2 ^ k))) (y : UInt8) (hy : y.toNat = 2 ^ ((frm + k) % 8)) (hb : b / 2 ^ k % 2 = 1) (hi : (frm + k) / 8 < c.length) :
    dv s (c.set ((frm + k) / 8) (c[(frm + k) / 8] ^^^ y)) = dv s l ^^^ mvN (8 * l.length - frm) (BitVec.ofNat 32 (b % 2 ^ (k + 1))) := by
  have e1 : mvN (8 * (c.length - (frm + k) / 8)) (bw y) = mvN (8 * l.length - frm) (BitVec.ofNat 32 (2 ^ k)) := by
    unfold bw
    rw [hy, mvN_pow _ _ (by omega) (by omega), mvN_pow _ _ (by omega) hk]
    congr 1
    omega
  have h2 : 2 ^ k < 2 ^ 32 := Nat.pow_lt_pow_right (by omega) hk
  have h1 : b % 2 ^ k < 2 ^ k := Nat.mod_lt _ (Nat.two_pow_pos k)
  have e2 : b % 2 ^ (k + 1) = b % 2 ^ k + 1 * 2 ^ k := by rw [Nat.pow_succ, Nat.mod_mul, hb]; omega
  have h3 : b % 2 ^ (k + 1) < 2 ^ (k + 1) := Nat.mod_lt _ (Nat.two_pow_pos _)
  have h4 : 2 ^ (k + 1) ≤ 2 ^ 32 := Nat.pow_le_pow_right (by omega) (by omega)
  rw [dv_set _ _ hi, hc, e1, e2, ofNat_xor_add k _ _ h1 (by omega), mvN_xor, BitVec.xor_assoc, Nat.one_mul]
theorem turn_skip {b k : Nat} (hb : b / 2 ^ k % 2 = 0) : b % 2 ^ (k + 1) = b % 2 ^ k := by rw [Nat.pow_succ, Nat.mod_mul, hb]; omega
theorem turn_end {l c : List UInt8} {s : BitVec 32} {m k b : Nat} (hk : k ≤ 32) (h0 : 0 < k) (hb : b % 2 = 1) (hc : dv s c = dv s l ^^^ mvN m (BitVec.ofNat 32 (b % 2 ^ k))) : ¬ dv s c = dv s l := by
  intro h
  rw [hc] at h
  have h1 := congrArg (dv s l ^^^ ·) h
  simp only [BitVec.xor_self, ← BitVec.xor_assoc, BitVec.zero_xor] at h1
  have h2 := congrArg BitVec.toNat (mvN_nil m h1)
  have h3 : b % 2 ^ k < 2 ^ k := Nat.mod_lt _ (Nat.two_pow_pos k)
  have h4 : 2 ^ k ≤ 2 ^ 32 := Nat.pow_le_pow_right (by omega) hk
  rw [BitVec.toNat_ofNat, Nat.mod_eq_of_lt (by omega)] at h2
  obtain ⟨j, rfl⟩ : ∃ j, k = j + 1 := ⟨k - 1, by omega⟩
  rw [Nat.pow_succ, Nat.mul_comm, Nat.mod_mul] at h2
  simp at h2
  omega

/-- Three, and what they differ by. -/
theorem dv_three : ∀ (l : List (UInt8 × UInt8 × UInt8)) (n m k : BitVec 32), dv n (l.map (·.1)) ^^^ dv m (l.map (·.2.1)) ^^^ dv k (l.map (·.2.2)) = dv (n ^^^ m ^^^ k) (l.map fun p => p.1 ^^^ p.2.1 ^^^ p.2.2)
  | [], n, m, k => rfl
  | p :: l, n, m, k => by
    simp only [List.map_cons, dv_cons]
    rw [dv_three l]
    congr 1
    unfold stp
    rw [← mvN_xor, ← mvN_xor, bw_xor, bw_xor, xor_four n, xor_four (n ^^^ m)]
theorem sum_three (l : List (UInt8 × UInt8 × UInt8)) : sumOf (l.map (·.1)) ^^^ sumOf (l.map (·.2.1)) ^^^ sumOf (l.map (·.2.2)) = sumOf (l.map fun p => p.1 ^^^ p.2.1 ^^^ p.2.2) := by
  unfold sumOf sumOn
  rw [not_eq (dv _ (l.map (·.1))), not_eq (dv _ (l.map (·.2.1))), not_eq (dv _ (l.map (·.2.2))), not_eq (dv _ (l.map fun p => _)), xor_four 4294967295#32 (dv _ (l.map (·.1))), xor_four (4294967295#32 ^^^ 4294967295#32), dv_three,
    show ~~~ 0#32 ^^^ ~~~ 0#32 ^^^ ~~~ 0#32 = ~~~ 0#32 by decide]
  congr 1

/-- Of at most four bytes. -/
theorem dv_few {n : BitVec 32} : ∀ {x y : List UInt8}, x.length = y.length → x.length ≤ 4 → dv n x = dv n y → x = y := by
  have pad : ∀ {x y z : List UInt8}, dv n x = dv n y → dv n (x ++ z) = dv n (y ++ z) := fun h => by rw [dv_app, dv_app, h]
  have h4 : ∀ {a b c d a' b' c' d' : UInt8}, dv n [a, b, c, d] = dv n [a', b', c', d'] → a = a' ∧ b = b' ∧ c = c' ∧ d = d' := fun h => by
    rw [dv_four, dv_four] at h
    have h1 := congrArg (n ^^^ ·) (mvN_inj 32 h)
    simp only [← BitVec.xor_assoc, BitVec.xor_self, BitVec.zero_xor] at h1
    exact four_inj h1
  intro x y hl hx h
  match x, y, hl with
  | [], [], _ => rfl
  | [a], [a'], _ => have := h4 (pad (z := [0, 0, 0]) h); simp [this.1]
  | [a, b], [a', b'], _ => have := h4 (pad (z := [0, 0]) h); simp [this.1, this.2.1]
  | [a, b, c], [a', b', c'], _ => have := h4 (pad (z := [0]) h); simp [this.1, this.2.1, this.2.2.1]
  | [a, b, c, d], [a', b', c', d'], _ => have := h4 h; simp [this.1, this.2.1, this.2.2.1, this.2.2.2]
  | _ :: _ :: _ :: _ :: _ :: _, _, _ => simp at hx
theorem sum_few {s : BitVec 32} {x y : List UInt8} (hl : x.length = y.length) (hx : x.length ≤ 4) : sumOn s x = sumOn s y ↔ x = y := ⟨fun h => dv_few hl hx (not_inj h), fun h => by rw [h]⟩
end Go.Proofs.Ytjaidhglemnakaa
