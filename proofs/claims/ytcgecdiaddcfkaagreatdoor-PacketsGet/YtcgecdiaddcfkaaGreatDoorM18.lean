/- Texts of this proof, laid into one. -/
import Derived.Test.YtcgecdiaddcfkaaGreatDoorM17
import Derived.Test.YtcgecdiaddcfkaaGreatDoorM15
import Derived.Test.YtcgecdiaddcfkaaGreatDoorRBookM
import Derived.Test.YtcgecdiaddcfkaaGreatDoorRGet3M
/- What the document's own reader reads, as plain functions; it gets what is got. No walk is here. -/
set_option linter.unusedSimpArgs false
set_option linter.unusedVariables false
namespace Go.Proofs.YtcgecdiaddcfkaaGreatDoor
open Go.RowKit

theorem takeR_app {n : Nat} (p r : List UInt8) (hn : p.length = n) : takeR n ⟨p ++ r, false⟩ = (p, ⟨r, false⟩) := by
  subst hn
  rw [takeR_yes (by simp)]
  simp
theorem hiN_be2 {n : Nat} (hn : n < 65536) : hiN (be2 n) = n := by
  have h := high2_put hn [] false
  unfold highS at h
  rw [takeS_app (n := 2) (be2 n) [] rfl] at h
  exact (Prod.mk.inj h).1
theorem hiN_be4 {n : Nat} (hn : n < 4294967296) : hiN (be4 n) = n := by
  have h := high4_put hn [] false
  unfold highS at h
  rw [takeS_app (n := 4) (be4 n) [] rfl] at h
  exact (Prod.mk.inj h).1
theorem highR2_put {n : Nat} (hn : n < 65536) (r : List UInt8) : highR 2 ⟨be2 n ++ r, false⟩ = (n, ⟨r, false⟩) := by
  unfold highR; rw [takeR_app (n := 2) (be2 n) r rfl, hiN_be2 hn]
theorem highR4_put {n : Nat} (hn : n < 4294967296) (r : List UInt8) : highR 4 ⟨be4 n ++ r, false⟩ = (n, ⟨r, false⟩) := by
  unfold highR; rw [takeR_app (n := 4) (be4 n) r rfl, hiN_be4 hn]
theorem textR_put {t : ByteArray} (ht : t.size < 256) (r : List UInt8) : textR ⟨txt t ++ r, false⟩ = (t, ⟨r, false⟩) := by
  have e1 : highR 1 ⟨txt t ++ r, false⟩ = (t.size, ⟨t.data.toList ++ r, false⟩) := by
    unfold highR txt
    rw [List.cons_append, show UInt8.ofNat t.size :: (t.data.toList ++ r) = [UInt8.ofNat t.size] ++ (t.data.toList ++ r) from rfl, takeR_app (n := 1) [UInt8.ofNat t.size] _ rfl, hiN_1, u8_nat ht]
  unfold textR
  rw [e1]
  simp only
  rw [takeR_app t.data.toList r (by rw [Array.length_toList]; rfl)]
theorem highR2_lt (s : St) : (highR 2 s).1 < 65536 := by
  unfold highR
  have hl := takeR_len 2 s
  generalize (takeR 2 s).1 = l at *
  obtain ⟨a, b, rfl⟩ := list_2 hl
  rw [hiN_2]
  have := u8_lt a
  have := u8_lt b
  show _ < _
  omega
theorem highR4_lt (s : St) : (highR 4 s).1 < 4294967296 := by
  unfold highR
  have hl := takeR_len 4 s
  generalize (takeR 4 s).1 = l at *
  obtain ⟨a, b, c, d, rfl⟩ := list_4 hl
  rw [hiN_4]
  have := u8_lt a
  have := u8_lt b
  have := u8_lt c
  have := u8_lt d
  show _ < _
  omega
theorem textR_len (s : St) : (textR s).1.size ≤ 255 := by
  have h : (highR 1 s).1 ≤ 255 := by
    unfold highR
    have hl := takeR_len 1 s
    generalize (takeR 1 s).1 = l at *
    obtain ⟨a, rfl⟩ := list_1 hl
    rw [hiN_1]
    have := u8_lt a
    show _ ≤ _
    omega
  unfold textR
  show (takeR _ _).1.toArray.size ≤ 255
  rw [List.size_toArray, takeR_len]; exact h

def stepRCh (s : St) : ChD × St :=
  (⟨(textR s).1, UInt32.ofNat (highR 4 (takeR 1 (textR s).2).2).1, decide (hiN (takeR 1 (textR s).2).1 = 1)⟩, (highR 4 (takeR 1 (textR s).2).2).2)
def stepROp (s : St) : OpD × St :=
  (⟨UInt8.ofNat (hiN (takeR 1 s).1), (textR (takeR 1 s).2).1, (textR (textR (takeR 1 s).2).2).1, UInt32.ofNat (highR 4 (textR (textR (takeR 1 s).2).2).2).1⟩, (highR 4 (textR (textR (takeR 1 s).2).2).2).2)
theorem stepRCh_put (x : ChD) (r : List UInt8) (h : chOk x = true) : stepRCh ⟨encCh x ++ r, false⟩ = (x, ⟨r, false⟩) := by
  obtain ⟨key, value, gone⟩ := x
  have hk : key.size < 256 := by
    unfold chOk at h; rw [Bool.and_eq_true] at h
    have := chk_size h.1
    simp only at this
    omega
  unfold stepRCh encCh
  simp only [List.append_assoc, List.cons_append]
  rw [textR_put hk]
  simp only
  rw [show ((if gone = true then 1 else 0) :: (be4 value.toNat ++ r) : List UInt8) = [if gone = true then 1 else 0] ++ (be4 value.toNat ++ r) from rfl, takeR_app (n := 1) _ _ rfl]
  simp only
  rw [highR4_put (u32_lt value), hiN_1]
  simp only
  cases gone <;> simp
theorem stepROp_put (x : OpD) (r : List UInt8) (h : opOk x = true) : stepROp ⟨encOp x ++ r, false⟩ = (x, ⟨r, false⟩) := by
  have hk := opOk_key h
  have ht := opOk_to h
  obtain ⟨kind, key, to, value⟩ := x
  simp only at hk ht
  unfold stepROp encOp
  simp only [List.append_assoc, List.cons_append]
  rw [show (kind :: (txt key ++ (txt to ++ (be4 value.toNat ++ r))) : List UInt8) = [kind] ++ (txt key ++ (txt to ++ (be4 value.toNat ++ r))) from rfl, takeR_app (n := 1) _ _ rfl]
  simp only
  rw [textR_put (by omega)]
  simp only
  rw [textR_put (by omega)]
  simp only
  rw [highR4_put (u32_lt value), hiN_1]
  simp
theorem loopR_put {α : Type} {step : St → α × St} {enc : α → List UInt8} {ok : α → Bool} (G : ∀ x r, ok x = true → step ⟨enc x ++ r, false⟩ = (x, ⟨r, false⟩)) : ∀ (l : List α) (r : List UInt8), l.all ok = true →
    loopS step l.length ⟨l.flatMap enc ++ r, false⟩ = (l, ⟨r, false⟩) := by
  intro l
  induction l with
  | nil => intro r _; rfl
  | cons x l ih =>
    intro r h
    rw [List.all_cons, Bool.and_eq_true] at h
    rw [List.length_cons, loopS, if_neg (by simp)]
    simp only [List.flatMap_cons, List.append_assoc]
    rw [G x _ h.1, ih r h.2]
def readCh (bs : List UInt8) : List ChD × St := loopS stepRCh (highR 2 ⟨bs, false⟩).1 (highR 2 ⟨bs, false⟩).2
def readOp (bs : List UInt8) : List OpD × St := loopS stepROp (highR 2 ⟨bs, false⟩).1 (highR 2 ⟨bs, false⟩).2
theorem read_put {α : Type} {step : St → α × St} {enc : α → List UInt8} {ok : α → Bool} (G : ∀ x r, ok x = true → step ⟨enc x ++ r, false⟩ = (x, ⟨r, false⟩)) (l : List α) (h : l.all ok = true) (hn : l.length < 65536) :
    loopS step (highR 2 ⟨encList enc l, false⟩).1 (highR 2 ⟨encList enc l, false⟩).2 = (l, ⟨[], false⟩) := by
  unfold encList
  rw [highR2_put hn]
  have := loopR_put G l [] h
  rw [List.append_nil] at this
  exact this
/-- What the document gets, of what it read. -/
theorem getChs_read (bs : List UInt8) : getChs bs = if (readCh bs).2.bad = true ∨ (putChs (readCh bs).1).2 ≠ 0 ∨ bs ≠ (putChs (readCh bs).1).1 then ([], 4) else ((readCh bs).1, 0) := by
  rcases getChs_two bs with ⟨l, h1, h2, h3, h4⟩ | h
  · have e : readCh bs = (l, ⟨[], false⟩) := by unfold readCh; rw [← h4]; exact read_put stepRCh_put l h2 (by omega)
    rw [e, putChs_fits h2 h3, h1, if_neg (by simp [h4])]
  · rw [h]
    by_cases hc : (readCh bs).2.bad = true ∨ (putChs (readCh bs).1).2 ≠ 0 ∨ bs ≠ (putChs (readCh bs).1).1
    · rw [if_pos hc]
    · exfalso
      have c2 : (putChs (readCh bs).1).2 = 0 := Classical.byContradiction fun h => hc (.inr (.inl h))
      have c3 : bs = (putChs (readCh bs).1).1 := Classical.byContradiction fun h => hc (.inr (.inr h))
      by_cases ho : (readCh bs).1.all chOk = true
      · by_cases hn : (readCh bs).1.length ≤ 4096
        · rw [putChs_fits ho hn] at c3
          have c4 : bs = encList encCh (readCh bs).1 := c3
          have := getChs_put ho hn
          rw [← c4, h] at this
          cases (Prod.mk.inj this).2
        · rw [putChs_limit ho hn] at c2; cases c2
      · rw [putChs_arg (by simpa using ho)] at c2; cases c2
theorem getOps_read (bs : List UInt8) : getOps bs = if (readOp bs).2.bad = true ∨ (putOps (readOp bs).1).2 ≠ 0 ∨ bs ≠ (putOps (readOp bs).1).1 then ([], 4) else ((readOp bs).1, 0) := by
  rcases getOps_two bs with ⟨l, h1, h2, h3, h4⟩ | h
  · have e : readOp bs = (l, ⟨[], false⟩) := by unfold readOp; rw [← h4]; exact read_put stepROp_put l h2 (by omega)
    rw [e, putOps_fits h2 h3, h1, if_neg (by simp [h4])]
  · rw [h]
    by_cases hc : (readOp bs).2.bad = true ∨ (putOps (readOp bs).1).2 ≠ 0 ∨ bs ≠ (putOps (readOp bs).1).1
    · rw [if_pos hc]
    · exfalso
      have c2 : (putOps (readOp bs).1).2 = 0 := Classical.byContradiction fun h => hc (.inr (.inl h))
      have c3 : bs = (putOps (readOp bs).1).1 := Classical.byContradiction fun h => hc (.inr (.inr h))
      by_cases ho : (readOp bs).1.all opOk = true
      · by_cases hn : (readOp bs).1.length ≤ 16
        · rw [putOps_fits ho hn] at c3
          have c4 : bs = encList encOp (readOp bs).1 := c3
          have := getOps_put ho hn
          rw [← c4, h] at this
          cases (Prod.mk.inj this).2
        · rw [putOps_limit ho hn] at c2; cases c2
      · rw [putOps_arg (by simpa using ho)] at c2; cases c2
theorem stepRCh_sm (s : St) : chSm (stepRCh s).1 := by
  unfold chSm stepRCh maxLen
  have := textR_len s
  simp only; omega
theorem stepROp_sm (s : St) : opSm (stepROp s).1 := by
  unfold opSm stepROp maxLen
  have := textR_len (takeR 1 s).2
  have := textR_len (textR (takeR 1 s).2).2
  simp only; omega

theorem below_dn (w : World) (n : Nat) : Below w.heap.size w (w.drewN n) := ⟨rfl, rfl, rfl, Nat.le_refl _, fun _ _ => rfl⟩
theorem block_cell' {w : World} {R : Nat} {arr : Array Value} {t : TypeId} (h : w.heap[R]? = some (.cells arr t (0, 0))) (i : Nat) (u : Value) (hu : arr[i]? = some u) : w.cell? ⟨R, i, none⟩ = some u := by simp [World.cell?, h, hu]
theorem RfAt.setX {u : World} {R lim X : Nat} {s : St} (h : RfAt u R lim s) (hX : R < X) (i : Nat) (v : Value) : RfAt (u.setCell ⟨X, i, none⟩ v) R lim s := by
  obtain ⟨v', h1, h2, h3, h4⟩ := h
  refine ⟨v', ?_, h2.kept (fun k hk => Below.heap_setCell _ _ _ _ (by simp; omega)), h3, by simp [World.setCell]; omega⟩
  rw [Below.heap_setCell _ _ _ _ (by simp; omega)]; exact h1
theorem RfAt.grown {w w' : World} {R lim base : Nat} {s : St} {row : Option Nat} (h : RfAt w R lim s) (hg : w.grownBy w' row) (hr : ∀ k, row = some k → base ≤ k) (hR : R < base) : RfAt w' R lim s := by
  obtain ⟨v', h1, h2, h3, h4⟩ := h
  have hb : ∀ k, k ≤ R → w'.heap[k]? = w.heap[k]? := fun k hk => hg.block k (by omega) (fun e => by have := hr k e.symm; omega)
  exact ⟨v', by rw [hb R (Nat.le_refl _)]; exact h1, h2.kept (fun k hk => hb k (by omega)), h3, Nat.lt_of_lt_of_le h4 hg.size⟩
theorem RfAt.badCell {w : World} {R lim : Nat} {s : St} (h : RfAt w R lim s) : w.cell? ⟨R, 1, none⟩ = some (.bool s.bad) := by
  obtain ⟨v', h1, -, -, -⟩ := h
  simp [World.cell?, h1]

/-- While one is read: the reader, its own block X, those that were read. -/
structure GR (W0 : World) (R lim base X : Nat) (T : TypeId) (arr : Array Value) (e : TypeId) (sz : Nat) (vk : Value) (k : Nat) (xs : List Value) (s : St) (u : World) : Prop where
  r : RfAt u R lim s
  x : u.heap[X]? = some (.cells arr T (0, 0))
  own : u.ownsRow base e sz vk k xs
  q : Kept R base W0 u
  rb : R < base
  bx : base ≤ X
  nx : vk.ownBlock ≠ some X
  xz : X < u.heap.size
section
variable {W0 u u' : World} {R lim base X : Nat} {T : TypeId} {arr : Array Value} {e : TypeId} {sz : Nat} {vk : Value} {k : Nat} {xs : List Value} {s s' : St}
theorem GR.start (r : RfAt u R lim s) (own : u.ownsRow base e sz vk k xs) (q : Kept R base W0 u) (rb : R < base) (bz : base ≤ u.heap.size) (T : TypeId) (arr : Array Value) : GR W0 R lim base u.heap.size T arr e sz vk k xs s (u.alloc (.cells arr T)) :=
  ⟨r.below (below_one u _), heap_alloc_new u _, own.alloc _, q.alloc bz _, rb, bz, fun h => by have := (own.lt _ h).2; omega, by simp⟩
theorem GR.call (g : GR W0 R lim base X T arr e sz vk k xs s u) (hr : RfAt u' R lim s') (hk : Kept R u.heap.size u u') : GR W0 R lim base X T arr e sz vk k xs s' u' :=
  ⟨hr, by rw [hk.block X g.xz (by have := g.rb; have := g.bx; omega)]; exact g.x, own_kept g.own g.rb hk, g.q.trans (hk.mono (by have := g.bx; have := g.xz; omega)), g.rb, g.bx, g.nx, Nat.lt_of_lt_of_le g.xz hk.size⟩
theorem GR.store (g : GR W0 R lim base X T arr e sz vk k xs s u) (i : Nat) (v : Value) : GR W0 R lim base X T (arr.setIfInBounds i v) e sz vk k xs s (u.setCell ⟨X, i, none⟩ v) :=
  ⟨g.r.setX (by have := g.rb; have := g.bx; omega) i v, heap_setCell_same u X i arr T v g.x, own_wrote (d := fun b => b = X) g.own (Wrote.set u X i v rfl) (fun b hb hd => g.nx (by rw [hb, hd])),
   ⟨g.q.os, g.q.tape, g.q.output, by simp [World.setCell]; exact g.q.size, fun j hj hn => by rw [Below.heap_setCell _ _ _ _ (by have := g.bx; simp; omega)]; exact g.q.block j hj hn⟩, g.rb, g.bx, g.nx, by simp [World.setCell]; exact g.xz⟩
end
end Go.Proofs.YtcgecdiaddcfkaaGreatDoor
/- Plain facts on the document's reader of results. -/
set_option linter.unusedSimpArgs false
set_option linter.unusedVariables false
namespace Go.Proofs.YtcgecdiaddcfkaaGreatDoor
open Go.RowKit

def stepRRow (s : St) : RowD × St := (⟨(textR s).1, UInt32.ofNat (highR 4 (textR s).2).1⟩, (highR 4 (textR s).2).2)
def stepRRes (s : St) : List RowD × St := loopS stepRRow (highR 2 s).1 (highR 2 s).2
theorem stepRRow_put (x : RowD) (r : List UInt8) (h : rowOk x = true) : stepRRow ⟨encRow x ++ r, false⟩ = (x, ⟨r, false⟩) := by
  obtain ⟨key, value⟩ := x
  have hk : key.size < 256 := by
    have := chk_size (show chk key = true from h)
    omega
  unfold stepRRow encRow
  simp only [List.append_assoc]
  rw [textR_put hk]
  simp only
  rw [highR4_put (u32_lt value)]
  simp
theorem stepRRes_put (l : List RowD) (r : List UInt8) (h : (resOk l && decide (l.length ≤ 256)) = true) : stepRRes ⟨encRes l ++ r, false⟩ = (l, ⟨r, false⟩) := by
  rw [Bool.and_eq_true] at h
  have hn : l.length ≤ 256 := of_decide_eq_true h.2
  unfold stepRRes encRes encList
  rw [List.append_assoc, highR2_put (by omega)]
  exact loopR_put stepRRow_put l r h.1
def readRes (bs : List UInt8) : List (List RowD) × St := loopS stepRRes (highR 2 ⟨bs, false⟩).1 (highR 2 ⟨bs, false⟩).2
theorem putRes_arg {m : List (List RowD)} (h : m.all resOk = false) : putRes m = ([], 1) := by unfold putRes; rw [h]; rfl
theorem putRes_limit {m : List (List RowD)} (h : m.all resOk = true) (hn : ¬ (m.length ≤ 16 ∧ m.all (fun r => decide (r.length ≤ 256)) = true)) : putRes m = ([], 3) := by unfold putRes; rw [if_pos h, if_neg hn]
theorem putRes_fits {m : List (List RowD)} (h : m.all resOk = true) (hn : m.length ≤ 16 ∧ m.all (fun r => decide (r.length ≤ 256)) = true) : putRes m = (encList encRes m, 0) := by unfold putRes; rw [if_pos h, if_pos hn]
/-- What the document gets, of what it read. -/
theorem getRes_read (bs : List UInt8) : getRes bs = if (readRes bs).2.bad = true ∨ (putRes (readRes bs).1).2 ≠ 0 ∨ bs ≠ (putRes (readRes bs).1).1 then ([], 4) else ((readRes bs).1, 0) := by
  rcases getRes_two bs with ⟨m, h1, h2, h3, h4, h5⟩ | h
  · have e : readRes bs = (m, ⟨[], false⟩) := by
      unfold readRes
      rw [← h5]
      exact read_put stepRRes_put m (by rw [okFew, h2, h4]; rfl) (by omega)
    rw [e, putRes_fits h2 ⟨h3, h4⟩, h1, if_neg (by simp [h5])]
  · rw [h]
    by_cases hc : (readRes bs).2.bad = true ∨ (putRes (readRes bs).1).2 ≠ 0 ∨ bs ≠ (putRes (readRes bs).1).1
    · rw [if_pos hc]
    · exfalso
      have c2 : (putRes (readRes bs).1).2 = 0 := Classical.byContradiction fun h => hc (.inr (.inl h))
      have c3 : bs = (putRes (readRes bs).1).1 := Classical.byContradiction fun h => hc (.inr (.inr h))
      by_cases ho : (readRes bs).1.all resOk = true
      · by_cases hn : (readRes bs).1.length ≤ 16 ∧ (readRes bs).1.all (fun r => decide (r.length ≤ 256)) = true
        · rw [putRes_fits ho hn] at c3
          have c4 : bs = encList encRes (readRes bs).1 := c3
          have := getRes_put ho hn.1 hn.2
          rw [← c4, h] at this
          cases (Prod.mk.inj this).2
        · rw [putRes_limit ho hn] at c2; cases c2
      · rw [putRes_arg (by simpa using ho)] at c2; cases c2
theorem stepRRow_sm (s : St) : rowSm (stepRRow s).1 := by
  unfold rowSm stepRRow maxLen
  have := textR_len s
  simp only; omega
end Go.Proofs.YtcgecdiaddcfkaaGreatDoor
