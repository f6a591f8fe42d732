/- Texts of this proof, laid into one. -/
import Derived.WalkKit
import Derived.Laws.RangeAny
/- Plain facts on texts: which bytes may stand in a key, and which texts are keys. -/
set_option linter.unusedSimpArgs false
set_option linter.unusedVariables false
namespace Go.Proofs.YtcgecdiaddcfkaaGreatDoor

/-- Which bytes may stand in a key. -/
def mayB (c : Nat) : Bool := (decide (97 ≤ c) && decide (c ≤ 122)) || ((decide (48 ≤ c) && decide (c ≤ 57)) || decide (c = 95))
/-- Which texts are keys. -/
def chk (s : ByteArray) : Bool := (decide (1 ≤ s.size) && decide (s.size ≤ 16)) && s.data.toList.all (fun b => mayB b.toNat)

theorem mayB_iff (c : Nat) : mayB c = true ↔ (97 ≤ c ∧ c ≤ 122) ∨ (48 ≤ c ∧ c ≤ 57) ∨ c = 95 := by
  unfold mayB; simp

theorem all_iff (s : ByteArray) : s.data.toList.all (fun b => mayB b.toNat) = true ↔ ∀ i (h : i < s.size), mayB (s[i]'h).toNat = true := by
  rw [List.all_eq_true]
  constructor
  · intro h i hi
    exact h _ (by
      have : s[i]'hi = s.data.toList[i]'(by simpa using hi) := rfl
      rw [this]; exact List.getElem_mem _)
  · intro h b hb
    obtain ⟨i, hi, rfl⟩ := List.getElem_of_mem hb
    exact h i (by simpa using hi)

theorem chk_iff (s : ByteArray) : chk s = true ↔ (1 ≤ s.size ∧ s.size ≤ 16) ∧ ∀ i (h : i < s.size), mayB (s[i]'h).toNat = true := by
  unfold chk; rw [Bool.and_eq_true, all_iff]; simp
theorem chk_long (s : ByteArray) (h : s.size < 1 ∨ 16 < s.size) : chk s = false := by
  rw [Bool.eq_false_iff, Ne, chk_iff]; omega
theorem chk_bad (s : ByteArray) (i : Nat) (h : i < s.size) (hb : mayB (s[i]'h).toNat = false) : chk s = false := by
  rw [Bool.eq_false_iff, Ne, chk_iff]
  rintro ⟨_, g⟩
  rw [g i h] at hb; cases hb
theorem mayB_high (c : Nat) (h : 128 ≤ c) : mayB c = false := by
  rw [Bool.eq_false_iff, Ne, mayB_iff]; omega
/-- The rune at a place may stand just if the byte there may. -/
theorem may_decode (s : ByteArray) (p : Nat) (h : p < s.size) : mayB (Utf8.decode s p).1 = mayB (s[p]'h).toNat := by
  by_cases ha : (s[p]'h).toNat < 128
  · rw [decode_ascii s p h ha]
  · rw [mayB_high _ (decode_high s p h (by omega)).1, mayB_high _ (by omega)]
theorem width_ascii (s : ByteArray) (p : Nat) (h : p < s.size) (hm : mayB (s[p]'h).toNat = true) : (Utf8.decode s p).2 = 1 := by
  have ha : (s[p]'h).toNat < 128 := by rw [mayB_iff] at hm; omega
  rw [decode_ascii s p h ha]
end Go.Proofs.YtcgecdiaddcfkaaGreatDoor
/- Plain facts on bytes: how ops, rows, results and changes are put as bytes, how bytes are read, and that what is put is got. -/
set_option linter.unusedSimpArgs false
set_option linter.unusedVariables false
namespace Go.Proofs.YtcgecdiaddcfkaaGreatDoor

/-- An op. -/
structure OpD where
  kind : UInt8
  key : ByteArray
  to : ByteArray
  value : UInt32
/-- A row. -/
structure RowD where
  key : ByteArray
  value : UInt32
/-- A change. -/
structure ChD where
  key : ByteArray
  value : UInt32
  gone : Bool

/-! How things are put. -/
def be2 (n : Nat) : List UInt8 := [UInt8.ofNat (n / 256), UInt8.ofNat n]
def be4 (n : Nat) : List UInt8 := [UInt8.ofNat (n / 16777216), UInt8.ofNat (n / 65536), UInt8.ofNat (n / 256), UInt8.ofNat n]
def txt (s : ByteArray) : List UInt8 := UInt8.ofNat s.size :: s.data.toList
def encOp (x : OpD) : List UInt8 := x.kind :: (txt x.key ++ (txt x.to ++ be4 x.value.toNat))
def encRow (x : RowD) : List UInt8 := txt x.key ++ be4 x.value.toNat
def encCh (x : ChD) : List UInt8 := txt x.key ++ ((if x.gone then 1 else 0) :: be4 x.value.toNat)
def encList {α : Type} (enc : α → List UInt8) (l : List α) : List UInt8 := be2 l.length ++ l.flatMap enc
def encRes (l : List RowD) : List UInt8 := encList encRow l

/-- Which ops may be. -/
def opOk (x : OpD) : Bool := chk x.key && (if x.kind.toNat = 1 ∨ x.kind.toNat = 3 then decide (x.to.size = 0) && decide (x.value.toNat = 0) else if x.kind.toNat = 2 then decide (x.to.size = 0) else if x.kind.toNat = 4 then chk x.to && decide (x.value.toNat = 0) else false)
def rowOk (x : RowD) : Bool := chk x.key
def chOk (x : ChD) : Bool := chk x.key && (!x.gone || decide (x.value.toNat = 0))
def resOk (l : List RowD) : Bool := l.all rowOk

/-- Bytes, and the error's number. -/
def putOps (l : List OpD) : List UInt8 × Nat := if l.all opOk then (if l.length ≤ 16 then (encList encOp l, 0) else ([], 3)) else ([], 1)
def putRes (l : List (List RowD)) : List UInt8 × Nat := if l.all resOk then (if l.length ≤ 16 ∧ l.all (fun r => decide (r.length ≤ 256)) = true then (encList encRes l, 0) else ([], 3)) else ([], 1)
def putChs (l : List ChD) : List UInt8 × Nat := if l.all chOk then (if l.length ≤ 4096 then (encList encCh l, 0) else ([], 3)) else ([], 1)

/-! How bytes are read. -/
structure St where
  rest : List UInt8
  bad : Bool
def hiN (bs : List UInt8) : Nat := bs.foldl (fun x c => x * 256 + c.toNat) 0
def takeS (n : Nat) (s : St) : List UInt8 × St := if s.rest.length < n then ([], ⟨s.rest, true⟩) else (s.rest.take n, ⟨s.rest.drop n, s.bad⟩)
def highS (n : Nat) (s : St) : Nat × St := (hiN (takeS n s).1, (takeS n s).2)
def needS (b : Bool) (s : St) : St := if b then s else ⟨s.rest, true⟩
def textS (s : St) : ByteArray × St := (⟨(takeS (highS 1 s).1 (highS 1 s).2).1.toArray⟩, (takeS (highS 1 s).1 (highS 1 s).2).2)
def markS (s : St) : Bool × St := ((highS 1 s).1 == 1, needS (decide ((highS 1 s).1 ≤ 1)) (highS 1 s).2)
def stepOp (s : St) : OpD × St :=
  let k := highS 1 s
  let key := textS k.2
  let to := textS key.2
  let v := highS 4 to.2
  let x : OpD := ⟨UInt8.ofNat k.1, key.1, to.1, UInt32.ofNat v.1⟩
  (x, needS (opOk x) v.2)
def stepRow (s : St) : RowD × St :=
  let key := textS s
  let v := highS 4 key.2
  let x : RowD := ⟨key.1, UInt32.ofNat v.1⟩
  (x, needS (rowOk x) v.2)
def stepCh (s : St) : ChD × St :=
  let key := textS s
  let g := markS key.2
  let v := highS 4 g.2
  let x : ChD := ⟨key.1, UInt32.ofNat v.1, g.1⟩
  (x, needS (chOk x) v.2)
def loopS {α : Type} (step : St → α × St) : Nat → St → List α × St
  | 0, s => ([], s)
  | n + 1, s => if s.bad then ([], s) else ((step s).1 :: (loopS step n (step s).2).1, (loopS step n (step s).2).2)
def listS {α : Type} (step : St → α × St) (most : Nat) (s : St) : List α × St := loopS step (highS 2 s).1 (needS (decide ((highS 2 s).1 ≤ most)) (highS 2 s).2)
def stepRes (s : St) : List RowD × St := listS stepRow 256 s
def whole {α : Type} (p : List α × St) : List α × Nat := if p.2.bad = true ∨ p.2.rest ≠ [] then ([], 4) else (p.1, 0)
def getOps (b : List UInt8) : List OpD × Nat := whole (listS stepOp 16 ⟨b, false⟩)
def getRes (b : List UInt8) : List (List RowD) × Nat := whole (listS stepRes 16 ⟨b, false⟩)
def getChs (b : List UInt8) : List ChD × Nat := whole (listS stepCh 4096 ⟨b, false⟩)

/-! What is put is got, and what is got was put. -/
theorem be2_len (n : Nat) : (be2 n).length = 2 := rfl
theorem be4_len (n : Nat) : (be4 n).length = 4 := rfl
theorem u8_nat {n : Nat} (h : n < 256) : (UInt8.ofNat n).toNat = n := by simp; omega
theorem u8_of (c : UInt8) : UInt8.ofNat c.toNat = c := by simp
theorem hiN_1 (a : UInt8) : hiN [a] = a.toNat := by simp [hiN]
theorem hiN_2 (a b : UInt8) : hiN [a, b] = a.toNat * 256 + b.toNat := by simp [hiN]
theorem hiN_4 (a b c d : UInt8) : hiN [a, b, c, d] = ((a.toNat * 256 + b.toNat) * 256 + c.toNat) * 256 + d.toNat := by simp [hiN]
theorem u8_lt (c : UInt8) : c.toNat < 256 := c.toNat_lt

theorem takeS_ok {n : Nat} {s : St} (h : (takeS n s).2.bad = false) : s.bad = false ∧ n ≤ s.rest.length ∧ (takeS n s).1 = s.rest.take n ∧ (takeS n s).2.rest = s.rest.drop n := by
  unfold takeS at *
  split at h
  · simp at h
  · rw [if_neg (by assumption)]; exact ⟨h, by omega, rfl, rfl⟩
theorem takeS_app {n : Nat} (p r : List UInt8) (hn : p.length = n) (b : Bool) : takeS n ⟨p ++ r, b⟩ = (p, ⟨r, b⟩) := by
  unfold takeS
  rw [if_neg (by simp; omega)]
  subst hn; simp
theorem takeS_bad {n : Nat} {s : St} (h : s.bad = true) : (takeS n s).2.bad = true := by
  unfold takeS; split <;> simp [h]
theorem high1_ok {s : St} (h : (highS 1 s).2.bad = false) : s.bad = false ∧ (highS 1 s).1 < 256 ∧ s.rest = UInt8.ofNat (highS 1 s).1 :: (highS 1 s).2.rest := by
  obtain ⟨h1, h2, h3, h4⟩ := takeS_ok (n := 1) (s := s) h
  unfold highS
  rw [h3]; show s.bad = false ∧ _ ∧ _ = _ :: (takeS 1 s).2.rest
  rw [h4]
  match hr : s.rest, h2 with
  | a :: t, _ =>
    simp only [List.take_succ_cons, List.take_zero, hiN_1, List.drop_succ_cons, List.drop_zero, u8_of]
    exact ⟨h1, u8_lt a, trivial⟩
theorem high2_ok {s : St} (h : (highS 2 s).2.bad = false) : s.bad = false ∧ (highS 2 s).1 < 65536 ∧ s.rest = be2 (highS 2 s).1 ++ (highS 2 s).2.rest := by
  obtain ⟨h1, h2, h3, h4⟩ := takeS_ok (n := 2) (s := s) h
  unfold highS
  rw [h3]; show s.bad = false ∧ _ ∧ _ = _ ++ (takeS 2 s).2.rest
  rw [h4]
  match hr : s.rest, h2 with
  | a :: b :: t, _ =>
    simp only [List.take_succ_cons, List.take_zero, hiN_2, List.drop_succ_cons, List.drop_zero]
    have ha := u8_lt a
    have hb := u8_lt b
    refine ⟨h1, by omega, ?_⟩
    unfold be2
    rw [show (a.toNat * 256 + b.toNat) / 256 = a.toNat by omega, u8_of]
    simp only [List.cons_append, List.nil_append, List.cons.injEq, true_and, and_true]
    apply UInt8.toNat_inj.mp; first | (simp; done) | (simp; omega)
theorem high4_ok {s : St} (h : (highS 4 s).2.bad = false) : s.bad = false ∧ (highS 4 s).1 < 4294967296 ∧ s.rest = be4 (highS 4 s).1 ++ (highS 4 s).2.rest := by
  obtain ⟨h1, h2, h3, h4⟩ := takeS_ok (n := 4) (s := s) h
  unfold highS
  rw [h3]; show s.bad = false ∧ _ ∧ _ = _ ++ (takeS 4 s).2.rest
  rw [h4]
  match hr : s.rest, h2 with
  | a :: b :: c :: d :: t, _ =>
    simp only [List.take_succ_cons, List.take_zero, hiN_4, List.drop_succ_cons, List.drop_zero]
    have ha := u8_lt a
    have hb := u8_lt b
    have hc := u8_lt c
    have hd := u8_lt d
    refine ⟨h1, by omega, ?_⟩
    unfold be4
    rw [show (((a.toNat * 256 + b.toNat) * 256 + c.toNat) * 256 + d.toNat) / 16777216 = a.toNat by omega, u8_of]
    simp only [List.cons_append, List.nil_append, List.cons.injEq, true_and, and_true]
    refine ⟨?_, ?_, ?_⟩ <;> (apply UInt8.toNat_inj.mp; first | (simp; done) | (simp; omega))
theorem high1_put (c : UInt8) (r : List UInt8) (b : Bool) : highS 1 ⟨c :: r, b⟩ = (c.toNat, ⟨r, b⟩) := by
  unfold highS
  rw [show c :: r = [c] ++ r from rfl, takeS_app (n := 1) [c] r rfl b, hiN_1]
theorem high2_put {n : Nat} (hn : n < 65536) (r : List UInt8) (b : Bool) : highS 2 ⟨be2 n ++ r, b⟩ = (n, ⟨r, b⟩) := by
  unfold highS
  rw [takeS_app (n := 2) (be2 n) r rfl b]
  unfold be2; rw [hiN_2]; simp; omega
theorem high4_put {n : Nat} (hn : n < 4294967296) (r : List UInt8) (b : Bool) : highS 4 ⟨be4 n ++ r, b⟩ = (n, ⟨r, b⟩) := by
  unfold highS
  rw [takeS_app (n := 4) (be4 n) r rfl b]
  unfold be4; rw [hiN_4]; simp; omega
theorem needS_ok {b : Bool} {s : St} (h : (needS b s).bad = false) : b = true ∧ s.bad = false ∧ needS b s = s := by
  cases b with
  | true => exact ⟨rfl, h, rfl⟩
  | false => cases h
theorem textS_ok {s : St} (h : (textS s).2.bad = false) : s.bad = false ∧ (textS s).1.size < 256 ∧ s.rest = txt (textS s).1 ++ (textS s).2.rest := by
  obtain ⟨h1, h2, h3, h4⟩ := takeS_ok (n := (highS 1 s).1) (s := (highS 1 s).2) h
  obtain ⟨k1, k2, k3⟩ := high1_ok h1
  unfold textS
  simp only [h3, h4]
  have hz : (ByteArray.mk (List.take (highS 1 s).1 (highS 1 s).2.rest).toArray).size = (highS 1 s).1 := by
    show (List.take (highS 1 s).1 (highS 1 s).2.rest).toArray.size = _
    simp; omega
  refine ⟨k1, by rw [hz]; exact k2, ?_⟩
  unfold txt
  rw [hz]
  show s.rest = _ :: (List.take (highS 1 s).1 (highS 1 s).2.rest ++ List.drop (highS 1 s).1 (highS 1 s).2.rest)
  rw [List.take_append_drop]; exact k3
theorem textS_put {t : ByteArray} (ht : t.size < 256) (r : List UInt8) (b : Bool) : textS ⟨txt t ++ r, b⟩ = (t, ⟨r, b⟩) := by
  unfold textS txt
  rw [List.cons_append, high1_put]
  simp only [u8_nat ht]
  rw [takeS_app (n := t.size) t.data.toList r (Array.length_toList) b]
theorem markS_ok {s : St} (h : (markS s).2.bad = false) : s.bad = false ∧ s.rest = (if (markS s).1 then 1 else 0) :: (markS s).2.rest := by
  obtain ⟨h1, h2, h3⟩ := needS_ok (b := decide ((highS 1 s).1 ≤ 1)) (s := (highS 1 s).2) h
  obtain ⟨k1, k2, k3⟩ := high1_ok h2
  unfold markS
  rw [h3]
  refine ⟨k1, ?_⟩
  rw [k3]
  have h4 : (highS 1 s).1 ≤ 1 := by simpa using h1
  rcases Nat.eq_zero_or_pos (highS 1 s).1 with e | e
  · simp [e]
  · have e1 : (highS 1 s).1 = 1 := by omega
    simp [e1]
theorem markS_put (g : Bool) (r : List UInt8) (b : Bool) : markS ⟨(if g then 1 else 0) :: r, b⟩ = (g, ⟨r, b⟩) := by
  unfold markS
  rw [high1_put]
  cases g <;> simp [needS]

/-- A step reads just what enc puts, of what may be. -/
structure Good {α : Type} (step : St → α × St) (enc : α → List UInt8) (ok : α → Bool) : Prop where
  got : ∀ s, (step s).2.bad = false → s.bad = false ∧ ok (step s).1 = true ∧ s.rest = enc (step s).1 ++ (step s).2.rest
  put : ∀ x r, ok x = true → step ⟨enc x ++ r, false⟩ = (x, ⟨r, false⟩)

theorem chk_size {s : ByteArray} (h : chk s = true) : s.size ≤ 16 := ((chk_iff s).mp h).1.2
theorem opOk_key {x : OpD} (h : opOk x = true) : x.key.size ≤ 16 := by unfold opOk at h; rw [Bool.and_eq_true] at h; exact chk_size h.1
theorem opOk_to {x : OpD} (h : opOk x = true) : x.to.size ≤ 16 := by
  unfold opOk at h; rw [Bool.and_eq_true] at h
  have h2 := h.2
  split at h2
  · simp at h2; simp [h2.1]
  · split at h2
    · simp at h2; simp [h2]
    · split at h2
      · simp at h2; exact chk_size h2.1
      · cases h2
theorem u32_nat {n : Nat} (h : n < 4294967296) : (UInt32.ofNat n).toNat = n := by simp; omega
theorem u32_of (c : UInt32) : UInt32.ofNat c.toNat = c := by simp
theorem u32_lt (c : UInt32) : c.toNat < 4294967296 := c.toNat_lt

theorem good_op : Good stepOp encOp opOk where
  got := by
    intro s h
    unfold stepOp at *
    simp only at h ⊢
    obtain ⟨h1, h2, h3⟩ := needS_ok h
    rw [h3]
    obtain ⟨v1, v2, v3⟩ := high4_ok h2
    obtain ⟨t1, t2, t3⟩ := textS_ok v1
    obtain ⟨k1, k2, k3⟩ := textS_ok t1
    obtain ⟨c1, c2, c3⟩ := high1_ok k1
    refine ⟨c1, h1, ?_⟩
    unfold encOp
    simp only [u32_nat v2]
    rw [c3, k3, t3, v3]
    simp
  put := by
    intro x r hx
    have hk := opOk_key hx
    have ht := opOk_to hx
    unfold stepOp encOp
    simp only [List.cons_append, List.append_assoc]
    rw [high1_put]
    simp only
    rw [textS_put (by omega)]
    simp only
    rw [textS_put (by omega)]
    simp only
    rw [high4_put (u32_lt _)]
    simp only [u8_of, u32_of]
    rw [show (⟨x.kind, x.key, x.to, x.value⟩ : OpD) = x from rfl, hx]
    rfl
theorem good_row : Good stepRow encRow rowOk where
  got := by
    intro s h
    unfold stepRow at *
    simp only at h ⊢
    obtain ⟨h1, h2, h3⟩ := needS_ok h
    rw [h3]
    obtain ⟨v1, v2, v3⟩ := high4_ok h2
    obtain ⟨k1, k2, k3⟩ := textS_ok v1
    refine ⟨k1, h1, ?_⟩
    unfold encRow
    simp only [u32_nat v2]
    rw [k3, v3]
    simp
  put := by
    intro x r hx
    have hk := chk_size hx
    unfold stepRow encRow
    simp only [List.cons_append, List.append_assoc]
    rw [textS_put (by omega)]
    simp only
    rw [high4_put (u32_lt _)]
    simp only [u8_of, u32_of]
    rw [show (⟨x.key, x.value⟩ : RowD) = x from rfl, hx]
    rfl
theorem good_ch : Good stepCh encCh chOk where
  got := by
    intro s h
    unfold stepCh at *
    simp only at h ⊢
    obtain ⟨h1, h2, h3⟩ := needS_ok h
    rw [h3]
    obtain ⟨v1, v2, v3⟩ := high4_ok h2
    obtain ⟨m1, m2⟩ := markS_ok v1
    obtain ⟨k1, k2, k3⟩ := textS_ok m1
    refine ⟨k1, h1, ?_⟩
    unfold encCh
    simp only [u32_nat v2]
    rw [k3, m2, v3]
    simp
  put := by
    intro x r hx
    have hk : x.key.size ≤ 16 := by unfold chOk at hx; rw [Bool.and_eq_true] at hx; exact chk_size hx.1
    unfold stepCh encCh
    simp only [List.cons_append, List.append_assoc]
    rw [textS_put (by omega)]
    simp only
    rw [markS_put]
    simp only
    rw [high4_put (u32_lt _)]
    simp only [u8_of, u32_of]
    rw [show (⟨x.key, x.value, x.gone⟩ : ChD) = x from rfl, hx]
    rfl

theorem loopS_got {α : Type} {step : St → α × St} {enc : α → List UInt8} {ok : α → Bool} (G : Good step enc ok) : ∀ (n : Nat) (s : St), (loopS step n s).2.bad = false →
    s.bad = false ∧ (loopS step n s).1.length = n ∧ (loopS step n s).1.all ok = true ∧ s.rest = (loopS step n s).1.flatMap enc ++ (loopS step n s).2.rest := by
  intro n
  induction n with
  | zero => intro s h; exact ⟨h, rfl, rfl, rfl⟩
  | succ n ih =>
    intro s h
    have hb : s.bad = false := by
      cases hs : s.bad with
      | false => rfl
      | true => rw [loopS, if_pos hs] at h; rw [hs] at h; cases h
    rw [loopS, if_neg (by simp [hb])] at h ⊢
    obtain ⟨i1, i2, i3, i4⟩ := ih (step s).2 h
    obtain ⟨g1, g2, g3⟩ := G.got s i1
    refine ⟨hb, by simp [i2], by simp only [List.all_cons, g2, i3]; rfl, ?_⟩
    simp only [List.flatMap_cons, List.append_assoc]
    rw [← i4]; exact g3
theorem loopS_put {α : Type} {step : St → α × St} {enc : α → List UInt8} {ok : α → Bool} (G : Good step enc ok) : ∀ (l : List α) (r : List UInt8), l.all ok = true →
    loopS step l.length ⟨l.flatMap enc ++ r, false⟩ = (l, ⟨r, false⟩) := by
  intro l
  induction l with
  | nil => intro r _; rfl
  | cons x l ih =>
    intro r h
    rw [List.all_cons, Bool.and_eq_true] at h
    rw [List.length_cons, loopS, if_neg (by simp)]
    simp only [List.flatMap_cons, List.append_assoc]
    rw [G.put x _ h.1, ih r h.2]
theorem listS_got {α : Type} {step : St → α × St} {enc : α → List UInt8} {ok : α → Bool} (G : Good step enc ok) {most : Nat} {s : St} (h : (listS step most s).2.bad = false) :
    s.bad = false ∧ (listS step most s).1.length ≤ most ∧ (listS step most s).1.all ok = true ∧ s.rest = encList enc (listS step most s).1 ++ (listS step most s).2.rest := by
  obtain ⟨h1, h2, h3, h4⟩ := loopS_got G _ _ h
  obtain ⟨n1, n2, n3⟩ := needS_ok h1
  obtain ⟨c1, c2, c3⟩ := high2_ok n2
  have n4 : (highS 2 s).1 ≤ most := by simpa using n1
  refine ⟨c1, by unfold listS; omega, h3, ?_⟩
  unfold encList listS
  rw [h2, List.append_assoc, ← h4, n3]; exact c3
theorem listS_put {α : Type} {step : St → α × St} {enc : α → List UInt8} {ok : α → Bool} (G : Good step enc ok) {most : Nat} (l : List α) (r : List UInt8) (h : l.all ok = true) (hm : l.length ≤ most) (h6 : most < 65536) :
    listS step most ⟨encList enc l ++ r, false⟩ = (l, ⟨r, false⟩) := by
  unfold listS encList
  rw [List.append_assoc, high2_put (by omega)]
  simp only [needS, hm, decide_true, if_true]
  exact loopS_put G l r h
theorem good_res : Good stepRes encRes (fun l => resOk l && decide (l.length ≤ 256)) where
  got := by
    intro s h
    obtain ⟨h1, h2, h3, h4⟩ := listS_got good_row h
    exact ⟨h1, by simp only [Bool.and_eq_true]; exact ⟨h3, decide_eq_true h2⟩, h4⟩
  put := by
    intro x r hx
    rw [Bool.and_eq_true] at hx
    exact listS_put good_row x r hx.1 (by simpa using hx.2) (by omega)

/-- What was got is what was put, and the other way round. -/
theorem whole_iff {α : Type} {step : St → α × St} {enc : α → List UInt8} {ok : α → Bool} (G : Good step enc ok) {most : Nat} (h6 : most < 65536) (b : List UInt8) :
    (∃ l, whole (listS step most ⟨b, false⟩) = (l, 0) ∧ l.all ok = true ∧ l.length ≤ most ∧ encList enc l = b) ∨
    (whole (listS step most ⟨b, false⟩) = ([], 4) ∧ ∀ l, l.all ok = true → l.length ≤ most → encList enc l ≠ b) := by
  by_cases h : (listS step most ⟨b, false⟩).2.bad = true ∨ (listS step most ⟨b, false⟩).2.rest ≠ []
  · right
    refine ⟨by unfold whole; rw [if_pos h], ?_⟩
    rintro l h1 h2 rfl
    have k := listS_put G l [] h1 h2 h6
    rw [List.append_nil] at k
    rw [k] at h
    simp at h
  · left
    refine ⟨(listS step most ⟨b, false⟩).1, by unfold whole; rw [if_neg h], ?_⟩
    rw [not_or] at h
    have hr : (listS step most ⟨b, false⟩).2.rest = [] := Classical.byContradiction h.2
    obtain ⟨h1, h2, h3, h4⟩ := listS_got G (Bool.eq_false_iff.mpr h.1)
    rw [hr, List.append_nil] at h4
    exact ⟨h3, h2, h4.symm⟩
theorem whole_put {α : Type} {step : St → α × St} {enc : α → List UInt8} {ok : α → Bool} (G : Good step enc ok) {most : Nat} (h6 : most < 65536) (l : List α) (h1 : l.all ok = true) (h2 : l.length ≤ most) :
    whole (listS step most ⟨encList enc l, false⟩) = (l, 0) := by
  have k := listS_put G l [] h1 h2 h6
  rw [List.append_nil] at k
  rw [k]; simp [whole]
end Go.Proofs.YtcgecdiaddcfkaaGreatDoor
