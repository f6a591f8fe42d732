/- The walks of the reader's methods: what is read, and what is left. -/
import Derived.Test.YtcgecdiaddcfkaaDoorRAll
import Derived.Laws.BytesArg
import Derived.Laws.BitsAllLaws
set_option linter.unusedSimpArgs false
set_option linter.unusedVariables false
namespace Go.Proofs.YtcgecdiaddcfkaaDoor
open Go.RowKit

def bCell (c : UInt8) : List Value := [bv c]
/-- The value v is a slice of the bytes bs, below block number 'lim'. -/
abbrev InAt (w : World) (lim : Nat) (v : Value) (bs : List UInt8) : Prop := SlAt 1 bCell w lim v bs
/-- The reader in block R stands at s; what is left to be read lies below block number 'lim'. -/
def RAt (w : World) (R lim : Nat) (s : St) : Prop :=
  ∃ v, w.heap[R]? = some (.cells #[v, .bool s.bad] 87 (0, 0)) ∧ InAt w lim v s.rest ∧ lim ≤ R ∧ R < w.heap.size

theorem pair_cell {w : World} {R : Nat} {u v : Value} {t : TypeId} (h : w.heap[R]? = some (.cells #[u, v] t (0, 0))) : w.cell? ⟨R, 0, none⟩ = some u ∧ w.cell? ⟨R, 1, none⟩ = some v := by simp [World.cell?, h]
theorem pair_set0 {w : World} {R : Nat} {u v : Value} {t : TypeId} (u' : Value) (h : w.heap[R]? = some (.cells #[u, v] t (0, 0))) : (w.setCell ⟨R, 0, none⟩ u').heap[R]? = some (.cells #[u', v] t (0, 0)) := by
  have := heap_setCell_same w R 0 #[u, v] t u' h
  simpa using this
theorem pair_set1 {w : World} {R : Nat} {u v : Value} {t : TypeId} (v' : Value) (h : w.heap[R]? = some (.cells #[u, v] t (0, 0))) : (w.setCell ⟨R, 1, none⟩ v').heap[R]? = some (.cells #[u, v'] t (0, 0)) := by
  have := heap_setCell_same w R 1 #[u, v] t v' h
  simpa using this
theorem InAt.set {w : World} {lim R i : Nat} {v : Value} {bs : List UInt8} (h : InAt w lim v bs) (hR : lim ≤ R) (u : Value) : InAt (w.setCell ⟨R, i, none⟩ u) lim v bs :=
  SlAt.kept h (fun k hk => Below.heap_setCell _ _ _ _ (by simp; omega))
theorem Kept.set {w : World} {R i : Nat} (u : Value) : Kept R w.heap.size w (w.setCell ⟨R, i, none⟩ u) := (Kept.refl _ _ _).setCell i u
theorem RAt.kept {w w' : World} {R lim : Nat} {s : St} (h : RAt w R lim s) (hz : w.heap.size ≤ w'.heap.size) (hb : ∀ k, k < w.heap.size → w'.heap[k]? = w.heap[k]?) : RAt w' R lim s := by
  obtain ⟨v, h1, h2, h3, h4⟩ := h
  exact ⟨v, by rw [hb R h4]; exact h1, h2.kept (fun k hk => hb k (by omega)), h3, by omega⟩
theorem RAt.below {w w' : World} {R lim : Nat} {s : St} (h : RAt w R lim s) (hb : Below w.heap.size w w') : RAt w' R lim s := h.kept hb.size hb.block
theorem RAt.alloc {w : World} {R lim : Nat} {s : St} (h : RAt w R lim s) (o : Obj) : RAt (w.alloc o) R lim s := h.below ((Below.refl _ _).alloc (Nat.le_refl _) o)

set_option maxHeartbeats 2000000 in
set_option maxRecDepth 1000000 in
theorem need_any (w : World) (R lim : Nat) (s : St) (b : Bool) (h : RAt w R lim s) :
    Calls Tryd.prog 51 #[ptr R, .bool b] w fun e w' => e = .returned (.tuple #[]) ∧ RAt w' R lim (needS b s) ∧ Kept R w.heap.size w w' := by
  have h0 := h
  obtain ⟨v, h1, h2, h3, h4⟩ := h
  obtain ⟨c0, c1⟩ := pair_cell h1
  have f1 := box_frozen (i := 1) h1
  cases b with
  | true =>
    clear h1
    go_enter Tryd.func51, Tryd.ntmps51
    go_wp2
    go_end0
    exact ⟨rfl, h0, Kept.refl _ _ _⟩
  | false =>
    have R1 : RAt (w.setCell ⟨R, 1, none⟩ (.bool true)) R lim (needS false s) := ⟨v, pair_set1 _ h1, h2.set h3 _, h3, by simp [World.setCell]; omega⟩
    clear h1 h0
    go_enter Tryd.func51, Tryd.ntmps51
    go_wp2
    go_end0
    exact ⟨rfl, R1, Kept.set _⟩

/-- The rest of a slice, from n on. -/
theorem in_take {w : World} {lim cap n : Nat} {ao : Option Addr} {bs : List UInt8} (h : InAt w lim (.slice ao bs.length cap) bs) (hn : n ≤ bs.length) : InAt w lim (.slice ao n cap) (bs.take n) := by
  obtain ⟨ao', cap', hv, h1, h2, h3⟩ := h
  simp only [Value.slice.injEq, true_and] at hv
  obtain ⟨rfl, rfl⟩ := hv
  have hl : (bs.take n).length = n := by simp; omega
  refine ⟨ao, cap, by rw [hl], by omega, h2, fun hp => ?_⟩
  obtain ⟨b, off, e, hb, hc⟩ := h3 (by omega)
  refine ⟨b, off, e, hb, fun i hi j u hu => hc i (by omega) j u ?_⟩
  rw [List.getElem_take] at hu; exact hu
theorem in_drop {w : World} {lim cap n : Nat} {ao ao' : Option Addr} {bs : List UInt8} (h : InAt w lim (.slice ao bs.length cap) bs) (hn : n ≤ bs.length) (ha : n < cap → ∀ b off, ao = some ⟨b, off, none⟩ → ao' = some ⟨b, off + n, none⟩) : InAt w lim (.slice ao' (bs.length - n) (cap - n)) (bs.drop n) := by
  obtain ⟨ao1, cap', hv, h1, h2, h3⟩ := h
  simp only [Value.slice.injEq, true_and] at hv
  obtain ⟨rfl, rfl⟩ := hv
  have hl : (bs.drop n).length = bs.length - n := by simp
  refine ⟨ao', cap - n, by rw [hl], by omega, by omega, fun hp => ?_⟩
  obtain ⟨b, off, e, hb, hc⟩ := h3 (by omega)
  refine ⟨b, off + n, ha (by omega) b off e, hb, fun i hi j u hu => ?_⟩
  rw [List.getElem_drop] at hu
  have := hc (n + i) (by omega) j u hu
  rwa [show off + (n + i) * 1 + j = off + n + i * 1 + j by omega] at this

theorem takeS_short {n : Nat} {s : St} (h : s.rest.length < n) : takeS n s = ([], ⟨s.rest, true⟩) := by unfold takeS; rw [if_pos h]
theorem takeS_enough {n : Nat} {s : St} (h : ¬ s.rest.length < n) : takeS n s = (s.rest.take n, ⟨s.rest.drop n, s.bad⟩) := by unfold takeS; rw [if_neg h]
theorem InAt_nil (w : World) (lim : Nat) : InAt w lim (.slice none 0 0) [] := ⟨none, 0, rfl, Nat.le_refl _, Nat.zero_le _, fun h => by simp at h⟩

set_option maxHeartbeats 2000000 in
set_option maxRecDepth 1000000 in
theorem take_any (w : World) (R lim n : Nat) (s : St) (h : RAt w R lim s) (hn : n ≤ 65536) :
    Calls Tryd.prog 67 #[ptr R, .int .i64 (n : Int)] w fun e w' => ∃ v, e = .returned v ∧ InAt w' lim v (takeS n s).1 ∧ RAt w' R lim (takeS n s).2 ∧ Kept R w.heap.size w w' := by
  obtain ⟨v, h1, h2, h3, h4⟩ := h
  obtain ⟨c0, c1⟩ := pair_cell h1
  have f0 := box_frozen (i := 0) h1
  have f1 := box_frozen (i := 1) h1
  have h2' := h2
  obtain ⟨ao, cap, rfl, hlc, hcm, hc⟩ := h2
  unfold maxLen at hcm
  by_cases hs : s.rest.length < n
  · rw [takeS_short hs]
    have R1 : RAt (w.setCell ⟨R, 1, none⟩ (.bool true)) R lim ⟨s.rest, true⟩ := ⟨_, pair_set1 _ h1, h2'.set h3 _, h3, by simp [World.setCell]; omega⟩
    clear h1 h2' hc
    go_enter Tryd.func67, Tryd.ntmps67
    go_wp2
    go_ret
    exact ⟨_, rfl, InAt_nil _ _, R1, Kept.set _⟩
  · rw [takeS_enough hs]
    have T1 := in_take h2' (n := n) (by omega)
    have T2 : ∀ ao', (n < cap → ∀ b off, ao = some ⟨b, off, none⟩ → ao' = some ⟨b, off + n, none⟩) → RAt (w.setCell ⟨R, 0, none⟩ (.slice ao' (s.rest.length - n) (cap - n))) R lim ⟨s.rest.drop n, s.bad⟩ := fun ao' ha =>
      ⟨_, pair_set0 _ h1, (in_drop h2' (by omega) ha).set h3 _, h3, by simp [World.setCell]; omega⟩
    have H : Hid (∀ ao', (n < cap → ∀ b off, ao = some ⟨b, off, none⟩ → ao' = some ⟨b, off + n, none⟩) → RAt (w.setCell ⟨R, 0, none⟩ (.slice ao' (s.rest.length - n) (cap - n))) R lim ⟨s.rest.drop n, s.bad⟩) := T2
    clear h1 h2' hc T2
    go_enter Tryd.func67, Tryd.ntmps67
    go_wp2
    case inl =>
      subst h
      go_ret
      refine ⟨_, rfl, T1.set h3 _, ?_, Kept.set _⟩
      have := H.out ao (fun h => by omega)
      rwa [Nat.sub_self] at this
    case inr =>
      go_ret
      refine ⟨_, rfl, T1.set h3 _, ?_, Kept.set _⟩
      exact H.out _ (fun _ b off e => by rw [e]; simp [Addr.add_lit])

theorem hiN_snoc (l : List UInt8) (c : UInt8) : hiN (l ++ [c]) = hiN l * 256 + c.toNat := by simp [hiN]
theorem fold_lt (l : List UInt8) : ∀ x : Nat, l.foldl (fun x c => x * 256 + c.toNat) x < (x + 1) * 256 ^ l.length := by
  induction l with
  | nil => intro x; simp
  | cons c l ih =>
    intro x
    have h := ih (x * 256 + c.toNat)
    have hc := u8_lt c
    rw [List.foldl_cons, List.length_cons, Nat.pow_succ]
    have h2 : (x * 256 + c.toNat + 1) * 256 ^ l.length ≤ ((x + 1) * 256) * 256 ^ l.length := Nat.mul_le_mul_right _ (by omega)
    rw [Nat.mul_assoc, Nat.mul_comm 256] at h2
    exact Nat.lt_of_lt_of_le h h2
theorem hiN_lt (l : List UInt8) : hiN l < 256 ^ l.length := by
  have := fold_lt l 0
  simpa [hiN] using this
theorem hiN_small {l : List UInt8} (h : l.length ≤ 3) : hiN l < 16777216 := by
  have h1 := hiN_lt l
  have h2 : 256 ^ l.length ≤ 256 ^ 3 := Nat.pow_le_pow_right (by omega) h
  omega
theorem or_step {a : Nat} (c : UInt8) (ha : a < 16777216) : bits .or .u32 ((a : Int) * 256 % 4294967296) ((c.toNat : Int) % 4294967296) = ((a * 256 + c.toNat : Nat) : Int) := by
  have hc := u8_lt c
  have e1 : (a : Int) * 256 % 4294967296 = ((a * 256 : Nat) : Int) := by omega
  have e2 : (c.toNat : Int) % 4294967296 = (c.toNat : Int) := by omega
  rw [e1, e2, u32_or_nat _ _ (by omega) (by omega)]
  have := Nat.two_pow_add_eq_or_of_lt (i := 8) (b := c.toNat) (by omega) a
  rw [show a * 256 = 2 ^ 8 * a by omega, ← this]
theorem hi_succ {bs : List UInt8} {k : Nat} (hk : k < bs.length) (h4 : bs.length ≤ 4) : bits .or .u32 ((hiN (bs.take k) : Int) * 256 % 4294967296) (((bs[k]'hk).toNat : Int) % 4294967296) = (hiN (bs.take (k + 1)) : Int) := by
  rw [or_step _ (hiN_small (by simp; omega)), List.take_succ_eq_append_getElem hk, hiN_snoc]

set_option maxHeartbeats 2000000 in
set_option maxRecDepth 1000000 in
theorem high_any (w : World) (R lim n : Nat) (s : St) (h : RAt w R lim s) (hn : n ≤ 4) :
    Calls Tryd.prog 66 #[ptr R, .int .i64 (n : Int)] w fun e w' => e = .returned (.int .u32 ((highS n s).1 : Int)) ∧ RAt w' R lim (highS n s).2 ∧ Kept R w.heap.size w w' := by
  have kt := take_any w R lim n s h (by omega)
  have hlen : (takeS n s).1.length ≤ 4 := by unfold takeS; split <;> simp; omega
  show Calls _ _ _ _ fun e w' => e = .returned (.int .u32 (hiN (takeS n s).1 : Int)) ∧ RAt w' R lim (takeS n s).2 ∧ Kept R w.heap.size w w'
  generalize (takeS n s).1 = bs at *
  generalize (takeS n s).2 = s' at *
  go_enter Tryd.func66, Tryd.ntmps66
  go_wp2_with fail
  refine kt.mono ?_
  rintro e w1 ⟨v, rfl, hin, hr, hk⟩
  clear kt
  obtain ⟨ao, cap, rfl, hlc, hcm, hc⟩ := hin
  unfold maxLen at hcm
  go_wp2
  go_loop [5, 7, 12] (fun x _ i => ∃ k : Nat, k ≤ bs.length ∧ i = .int .i64 k ∧ x = .int .u32 (hiN (bs.take k) : Int)) (fun _ _ i => bs.length - (intOf i).toNat)
  case atStart => exact ⟨0, Nat.zero_le _, rfl, rfl⟩
  case round =>
    obtain ⟨k, hk, rfl, rfl⟩ := hrel
    by_cases hlt : k < bs.length
    · obtain ⟨b, off, rfl, hbl, hcell⟩ := hc (by omega)
      have c0 := hcell k hlt 0 _ rfl
      simp only [Nat.add_zero, Nat.mul_one, bv] at c0
      clear hcell hc
      go_wp2
      go_round
      case rel => exact ⟨k + 1, by omega, by go_num, by rw [hi_succ hlt hlen]⟩
      case measure => simp [intOf]; omega
    · have e : bs.take k = bs := List.take_of_length_le (by omega)
      rw [e]
      clear hc e
      go_wp2
      go_ret
      exact ⟨rfl, hr, by assumption⟩
end Go.Proofs.YtcgecdiaddcfkaaDoor
