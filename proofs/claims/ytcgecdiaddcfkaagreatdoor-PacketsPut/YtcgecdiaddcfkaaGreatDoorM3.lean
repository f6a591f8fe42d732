/- Texts of this proof, laid into one. -/
import Derived.Test.YtcgecdiaddcfkaaGreatDoorRMemM
import Derived.Laws.BytesArg
import Derived.Laws.BitsAllLaws
/- Lists in memory; the walks of rows.Check and of the functions that ask something of each one of a list. -/
set_option linter.unusedSimpArgs false
set_option linter.unusedVariables false
namespace Go.Proofs.YtcgecdiaddcfkaaGreatDoor
open Go.RowKit

/-- The value v is a slice below block number 'lim' whose elements, of 'size' cells each, are those of l. -/
def SlAt {α : Type} (size : Nat) (cellsOf : α → List Value) (w : World) (lim : Nat) (v : Value) (l : List α) : Prop :=
  ∃ ao cap, v = .slice ao l.length cap ∧ l.length ≤ cap ∧ cap ≤ maxLen ∧
    (0 < l.length → ∃ b off, ao = some ⟨b, off, none⟩ ∧ b < lim ∧ ∀ i (hi : i < l.length) j u, (cellsOf (l[i]'hi))[j]? = some u → w.cell? ⟨b, off + i * size + j, none⟩ = some u)

theorem SlAt.kept {α : Type} {size : Nat} {cellsOf : α → List Value} {w w' : World} {lim : Nat} {v : Value} {l : List α} (h : SlAt size cellsOf w lim v l) (hb : ∀ k, k < lim → w'.heap[k]? = w.heap[k]?) : SlAt size cellsOf w' lim v l := by
  obtain ⟨ao, cap, rfl, h1, h2, h3⟩ := h
  refine ⟨ao, cap, rfl, h1, h2, fun hl => ?_⟩
  obtain ⟨b, off, rfl, hlt, hc⟩ := h3 hl
  exact ⟨b, off, rfl, hlt, fun i hi j u hu => by rw [World.cell?_of_block (w := w) (hb b hlt)]; exact hc i hi j u hu⟩
theorem SlAt.below {α : Type} {size : Nat} {cellsOf : α → List Value} {w w' : World} {lim B : Nat} {v : Value} {l : List α} (h : SlAt size cellsOf w lim v l) (hb : Below B w w') (hB : lim ≤ B) : SlAt size cellsOf w' lim v l :=
  h.kept (fun k hk => hb.block k (by omega))
theorem SlAt.mono {α : Type} {size : Nat} {cellsOf : α → List Value} {w : World} {lim lim' : Nat} {v : Value} {l : List α} (h : SlAt size cellsOf w lim v l) (hB : lim ≤ lim') : SlAt size cellsOf w lim' v l := by
  obtain ⟨ao, cap, rfl, h1, h2, h3⟩ := h
  refine ⟨ao, cap, rfl, h1, h2, fun hl => ?_⟩
  obtain ⟨b, off, rfl, hlt, hc⟩ := h3 hl
  exact ⟨b, off, rfl, by omega, hc⟩

def opCells (x : OpD) : List Value := [.int .u8 (x.kind.toNat : Int), .string x.key, .string x.to, .int .u32 (x.value.toNat : Int)]
def rowCells (x : RowD) : List Value := [.string x.key, .int .u32 (x.value.toNat : Int)]
def chCells (x : ChD) : List Value := [.string x.key, .int .u32 (x.value.toNat : Int), .bool x.gone]
def opV (x : OpD) : Value := .agg #[.int .u8 (x.kind.toNat : Int), .string x.key, .string x.to, .int .u32 (x.value.toNat : Int)]
def rowV (x : RowD) : Value := .agg #[.string x.key, .int .u32 (x.value.toNat : Int)]
def chV (x : ChD) : Value := .agg #[.string x.key, .int .u32 (x.value.toNat : Int), .bool x.gone]

def opSm (x : OpD) : Prop := x.key.size ≤ maxLen ∧ x.to.size ≤ maxLen
def rowSm (x : RowD) : Prop := x.key.size ≤ maxLen
def chSm (x : ChD) : Prop := x.key.size ≤ maxLen

theorem opOk_bad {x : OpD} (h : chk x.key = false) : opOk x = false := by unfold opOk; rw [h]; rfl
theorem isEmpty_size (s : ByteArray) : s.toList.isEmpty = decide (s.size = 0) := by
  rw [ByteArray.toList_eq, Bool.eq_iff_iff, List.isEmpty_iff, decide_eq_true_iff]
  constructor
  · intro h; show s.data.size = 0; rw [← Array.length_toList (xs := s.data), h]; rfl
  · intro h; exact List.eq_nil_of_length_eq_zero (by rw [Array.length_toList]; exact h)
/-- Whether an op may be, by its kind's number. -/
def okN (ck : Bool) (kd : Nat) (te ct : Bool) (vl : Nat) : Bool := ck && (if kd = 1 ∨ kd = 3 then te && decide (vl = 0) else if kd = 2 then te else if kd = 4 then ct && decide (vl = 0) else false)
theorem opOk_okN (x : OpD) : opOk x = okN (chk x.key) x.kind.toNat x.to.toList.isEmpty (chk x.to) x.value.toNat := by
  unfold opOk okN; rw [isEmpty_size]
theorem int_eq_nat (a b : Nat) : ((a : Int) == (b : Int)) = decide (a = b) := by rw [Bool.eq_iff_iff]; simp; omega
theorem int_eq_zero (a : Nat) : ((a : Int) == 0) = decide (a = 0) := int_eq_nat a 0

set_option maxHeartbeats 2000000 in
set_option maxRecDepth 1000000 in
theorem rcheck_any (w : World) (x : OpD) (hs : opSm x) :
    Calls Tryz.prog 91 #[opV x] w fun e w' => e = .returned (.bool (opOk x)) ∧ Below w.heap.size w w' := by
  rw [opOk_okN]
  obtain ⟨kind, key, to, value⟩ := x
  unfold opV
  obtain ⟨hs1, hs2⟩ := hs
  simp only at hs1 hs2 ⊢
  obtain ⟨kd, hkd⟩ : ∃ kd, kd = kind.toNat := ⟨_, rfl⟩
  obtain ⟨vl, hvl⟩ : ∃ vl, vl = value.toNat := ⟨_, rfl⟩
  rw [← hkd, ← hvl]
  clear hkd hvl
  obtain ⟨W, hW⟩ : ∃ W, W = w.alloc (.cells #[.int .u8 (kd : Int), .string key, .string to, .int .u32 (vl : Int)] 85) := ⟨_, rfl⟩
  have B0 : Below w.heap.size w W := by rw [hW]; exact (Below.refl _ _).alloc (Nat.le_refl _) _
  have Z0 : W.heap.size = w.heap.size + 1 := by rw [hW]; simp
  have a0 : W.cell? ⟨w.heap.size, 0, none⟩ = some (.int .u8 (kd : Int)) := by rw [hW]; go_simp
  have a2 : W.cell? ⟨w.heap.size, 2, none⟩ = some (.string to) := by rw [hW]; go_simp
  have a3 : W.cell? ⟨w.heap.size, 3, none⟩ = some (.int .u32 (vl : Int)) := by rw [hW]; go_simp
  have k := check_any key W hs1
  have k2 := fun w' => check_any to w' hs2
  generalize chk key = ck at *
  generalize chk to = ct at *
  have fin : ∀ w1, Below W.heap.size W w1 → Below w.heap.size w w1 ∧ w1.cell? ⟨w.heap.size, 0, none⟩ = some (.int .u8 (kd : Int)) ∧ w1.cell? ⟨w.heap.size, 2, none⟩ = some (.string to) ∧ w1.cell? ⟨w.heap.size, 3, none⟩ = some (.int .u32 (vl : Int)) ∧ w.heap.size + 1 ≤ w1.heap.size := by
    intro w1 hb
    have hz := hb.size
    exact ⟨B0.trans (hb.mono (by omega)), (hb.cell (by simp; omega)).trans a0, (hb.cell (by simp; omega)).trans a2, (hb.cell (by simp; omega)).trans a3, by omega⟩
  clear B0 Z0 a0 a2 a3
  subst hW
  by_cases hck : ck = true
  case neg =>
    rw [Bool.not_eq_true] at hck
    subst hck
    go_enter Tryz.func91, Tryz.ntmps91
    go_wp2_with fail
    refine k.mono ?_
    rintro e w1 ⟨rfl, hb⟩
    obtain ⟨b1, c0, c2, c3, z1⟩ := fin w1 hb
    clear fin k k2 hb
    go_wp2
    go_ret
    exact ⟨rfl, b1⟩
  subst hck
  by_cases h1 : kd = 1
  · subst h1
    cases hte : to.toList.isEmpty with
    | true =>
      have H : okN true 1 true ct vl = ((vl : Int) == 0) := by rw [int_eq_zero]; simp [okN]
      rw [H]; clear H
      go_enter Tryz.func91, Tryz.ntmps91
      go_wp2_with fail
      refine k.mono ?_
      rintro e w1 ⟨rfl, hb⟩
      obtain ⟨b1, c0, c2, c3, z1⟩ := fin w1 hb
      clear fin k k2 hb
      go_wp2
      go_ret
      exact ⟨rfl, b1⟩
    | false =>
      have H : okN true 1 false ct vl = false := by simp [okN]
      rw [H]; clear H
      go_enter Tryz.func91, Tryz.ntmps91
      go_wp2_with fail
      refine k.mono ?_
      rintro e w1 ⟨rfl, hb⟩
      obtain ⟨b1, c0, c2, c3, z1⟩ := fin w1 hb
      clear fin k k2 hb
      go_wp2
      go_ret
      exact ⟨rfl, b1⟩
  have n1 : ((kd : Int) == 1) = false := by rw [show (1 : Int) = ((1 : Nat) : Int) from rfl, int_eq_nat]; simpa using h1
  by_cases h3 : kd = 3
  · subst h3
    clear h1 n1
    cases hte : to.toList.isEmpty with
    | true =>
      have H : okN true 3 true ct vl = ((vl : Int) == 0) := by rw [int_eq_zero]; simp [okN]
      rw [H]; clear H
      go_enter Tryz.func91, Tryz.ntmps91
      go_wp2_with fail
      refine k.mono ?_
      rintro e w1 ⟨rfl, hb⟩
      obtain ⟨b1, c0, c2, c3, z1⟩ := fin w1 hb
      clear fin k k2 hb
      go_wp2
      go_ret
      exact ⟨rfl, b1⟩
    | false =>
      have H : okN true 3 false ct vl = false := by simp [okN]
      rw [H]; clear H
      go_enter Tryz.func91, Tryz.ntmps91
      go_wp2_with fail
      refine k.mono ?_
      rintro e w1 ⟨rfl, hb⟩
      obtain ⟨b1, c0, c2, c3, z1⟩ := fin w1 hb
      clear fin k k2 hb
      go_wp2
      go_ret
      exact ⟨rfl, b1⟩
  have n3 : ((kd : Int) == 3) = false := by rw [show (3 : Int) = ((3 : Nat) : Int) from rfl, int_eq_nat]; simpa using h3
  by_cases h2 : kd = 2
  · subst h2
    clear h1 n1 h3 n3
    have H : okN true 2 to.toList.isEmpty ct vl = to.toList.isEmpty := by simp [okN]
    rw [H]; clear H
    go_enter Tryz.func91, Tryz.ntmps91
    go_wp2_with fail
    refine k.mono ?_
    rintro e w1 ⟨rfl, hb⟩
    obtain ⟨b1, c0, c2, c3, z1⟩ := fin w1 hb
    clear fin k k2 hb
    go_wp2
    go_ret
    exact ⟨rfl, b1⟩
  have n2 : ((kd : Int) == 2) = false := by rw [show (2 : Int) = ((2 : Nat) : Int) from rfl, int_eq_nat]; simpa using h2
  by_cases h4 : kd = 4
  · subst h4
    clear h1 n1 h3 n3 h2 n2
    cases ct with
    | true =>
      have H : okN true 4 to.toList.isEmpty true vl = ((vl : Int) == 0) := by rw [int_eq_zero]; simp [okN]
      rw [H]; clear H
      go_enter Tryz.func91, Tryz.ntmps91
      go_wp2_with fail
      refine k.mono ?_
      rintro e w1 ⟨rfl, hb⟩
      obtain ⟨b1, c0, c2, c3, z1⟩ := fin w1 hb
      clear fin k hb
      go_wp2_with fail
      refine (k2 _).mono ?_
      rintro e w2 ⟨rfl, hb2⟩
      have d3 := (hb2.cell (p := ⟨w.heap.size, 3, none⟩) (by simp; omega)).trans c3
      have b2 := b1.trans (hb2.mono (by omega))
      clear k2 hb2 c0 c2 c3
      go_wp2
      go_ret
      exact ⟨rfl, b2⟩
    | false =>
      have H : okN true 4 to.toList.isEmpty false vl = false := by simp [okN]
      rw [H]; clear H
      go_enter Tryz.func91, Tryz.ntmps91
      go_wp2_with fail
      refine k.mono ?_
      rintro e w1 ⟨rfl, hb⟩
      obtain ⟨b1, c0, c2, c3, z1⟩ := fin w1 hb
      clear fin k hb
      go_wp2_with fail
      refine (k2 _).mono ?_
      rintro e w2 ⟨rfl, hb2⟩
      have d3 := (hb2.cell (p := ⟨w.heap.size, 3, none⟩) (by simp; omega)).trans c3
      have b2 := b1.trans (hb2.mono (by omega))
      clear k2 hb2 c0 c2 c3
      go_wp2
      go_ret
      exact ⟨rfl, b2⟩
  have n4 : ((kd : Int) == 4) = false := by rw [show (4 : Int) = ((4 : Nat) : Int) from rfl, int_eq_nat]; simpa using h4
  have H : okN true kd to.toList.isEmpty ct vl = false := by simp [okN, h1, h2, h3, h4]
  rw [H]; clear H
  go_enter Tryz.func91, Tryz.ntmps91
  go_wp2_with fail
  refine k.mono ?_
  rintro e w1 ⟨rfl, hb⟩
  obtain ⟨b1, c0, c2, c3, z1⟩ := fin w1 hb
  clear fin k k2 hb
  go_wp2
  go_ret
  exact ⟨rfl, b1⟩
end Go.Proofs.YtcgecdiaddcfkaaGreatDoor
/- The walks of the reader's methods: what is read, and what is left. -/
set_option linter.unusedSimpArgs false
set_option linter.unusedVariables false
namespace Go.Proofs.YtcgecdiaddcfkaaGreatDoor
open Go.RowKit

def bCell (c : UInt8) : List Value := [bv c]
/-- The value v is a slice of the bytes bs, below block number 'lim'. -/
abbrev InAt (w : World) (lim : Nat) (v : Value) (bs : List UInt8) : Prop := SlAt 1 bCell w lim v bs
/-- The reader in block R stands at s; what is left to be read lies below block number 'lim'. -/
def RAt (w : World) (R lim : Nat) (s : St) : Prop :=
  ∃ v, w.heap[R]? = some (.cells #[v, .bool s.bad] 180 (0, 0)) ∧ InAt w lim v s.rest ∧ lim ≤ R ∧ R < w.heap.size

theorem pair_cell {w : World} {R : Nat} {u v : Value} {t : TypeId} (h : w.heap[R]? = some (.cells #[u, v] t (0, 0))) : w.cell? ⟨R, 0, none⟩ = some u ∧ w.cell? ⟨R, 1, none⟩ = some v := by simp [World.cell?, h]
theorem pair_set0 {w : World} {R : Nat} {u v : Value} {t : TypeId} (u' : Value) (h : w.heap[R]? = some (.cells #[u, v] t (0, 0))) : (w.setCell ⟨R, 0, none⟩ u').heap[R]? = some (.cells #[u', v] t (0, 0)) := by
  have := heap_setCell_same w R 0 #[u, v] t u' h
  simpa using this
theorem pair_set1 {w : World} {R : Nat} {u v : Value} {t : TypeId} (v' : Value) (h : w.heap[R]? = some (.cells #[u, v] t (0, 0))) : (w.setCell ⟨R, 1, none⟩ v').heap[R]? = some (.cells #[u, v'] t (0, 0)) := by
  have := heap_setCell_same w R 1 #[u, v] t v' h
  simpa using this
theorem InAt.set {w : World} {lim R i : Nat} {v : Value} {bs : List UInt8} (h : InAt w lim v bs) (hR : lim ≤ R) (u : Value) : InAt (w.setCell ⟨R, i, none⟩ u) lim v bs :=
  SlAt.kept h (fun k hk => Below.heap_setCell _ _ _ _ (by simp; omega))
theorem Kept.set {w : World} {R i : Nat} (u : Value) : Kept R w.heap.size w (w.setCell ⟨R, i, none⟩ u) := (Kept.refl _ _ _).setCell i u
theorem RAt.kept {w w' : World} {R lim : Nat} {s : St} (h : RAt w R lim s) (hz : w.heap.size ≤ w'.heap.size) (hb : ∀ k, k < w.heap.size → w'.heap[k]? = w.heap[k]?) : RAt w' R lim s := by
  obtain ⟨v, h1, h2, h3, h4⟩ := h
  exact ⟨v, by rw [hb R h4]; exact h1, h2.kept (fun k hk => hb k (by omega)), h3, by omega⟩
theorem RAt.below {w w' : World} {R lim : Nat} {s : St} (h : RAt w R lim s) (hb : Below w.heap.size w w') : RAt w' R lim s := h.kept hb.size hb.block
theorem RAt.alloc {w : World} {R lim : Nat} {s : St} (h : RAt w R lim s) (o : Obj) : RAt (w.alloc o) R lim s := h.below ((Below.refl _ _).alloc (Nat.le_refl _) o)

set_option maxHeartbeats 2000000 in
set_option maxRecDepth 1000000 in
theorem need_any (w : World) (R lim : Nat) (s : St) (b : Bool) (h : RAt w R lim s) :
    Calls Tryz.prog 142 #[ptr R, .bool b] w fun e w' => e = .returned (.tuple #[]) ∧ RAt w' R lim (needS b s) ∧ Kept R w.heap.size w w' := by
  have h0 := h
  obtain ⟨v, h1, h2, h3, h4⟩ := h
  obtain ⟨c0, c1⟩ := pair_cell h1
  have f1 := box_frozen (i := 1) h1
  cases b with
  | true =>
    clear h1
    go_enter Tryz.func142, Tryz.ntmps142
    go_wp2
    go_end0
    exact ⟨rfl, h0, Kept.refl _ _ _⟩
  | false =>
    have R1 : RAt (w.setCell ⟨R, 1, none⟩ (.bool true)) R lim (needS false s) := ⟨v, pair_set1 _ h1, h2.set h3 _, h3, by simp [World.setCell]; omega⟩
    clear h1 h0
    go_enter Tryz.func142, Tryz.ntmps142
    go_wp2
    go_end0
    exact ⟨rfl, R1, Kept.set _⟩

/-- The rest of a slice, from n on. -/
theorem in_take {w : World} {lim cap n : Nat} {ao : Option Addr} {bs : List UInt8} (h : InAt w lim (.slice ao bs.length cap) bs) (hn : n ≤ bs.length) : InAt w lim (.slice ao n cap) (bs.take n) := by
  obtain ⟨ao', cap', hv, h1, h2, h3⟩ := h
  simp only [Value.slice.injEq, true_and] at hv
  obtain ⟨rfl, rfl⟩ := hv
  have hl : (bs.take n).length = n := by simp; omega
  refine ⟨ao, cap, by rw [hl], by omega, h2, fun hp => ?_⟩
  obtain ⟨b, off, e, hb, hc⟩ := h3 (by omega)
  refine ⟨b, off, e, hb, fun i hi j u hu => hc i (by omega) j u ?_⟩
  rw [List.getElem_take] at hu; exact hu
theorem in_drop {w : World} {lim cap n : Nat} {ao ao' : Option Addr} {bs : List UInt8} (h : InAt w lim (.slice ao bs.length cap) bs) (hn : n ≤ bs.length) (ha : n < cap → ∀ b off, ao = some ⟨b, off, none⟩ → ao' = some ⟨b, off + n, none⟩) : InAt w lim (.slice ao' (bs.length - n) (cap - n)) (bs.drop n) := by
  obtain ⟨ao1, cap', hv, h1, h2, h3⟩ := h
  simp only [Value.slice.injEq, true_and] at hv
  obtain ⟨rfl, rfl⟩ := hv
  have hl : (bs.drop n).length = bs.length - n := by simp
  refine ⟨ao', cap - n, by rw [hl], by omega, by omega, fun hp => ?_⟩
  obtain ⟨b, off, e, hb, hc⟩ := h3 (by omega)
  refine ⟨b, off + n, ha (by omega) b off e, hb, fun i hi j u hu => ?_⟩
  rw [List.getElem_drop] at hu
  have := hc (n + i) (by omega) j u hu
  rwa [show off + (n + i) * 1 + j = off + n + i * 1 + j by omega] at this

theorem takeS_short {n : Nat} {s : St} (h : s.rest.length < n) : takeS n s = ([], ⟨s.rest, true⟩) := by unfold takeS; rw [if_pos h]
theorem takeS_enough {n : Nat} {s : St} (h : ¬ s.rest.length < n) : takeS n s = (s.rest.take n, ⟨s.rest.drop n, s.bad⟩) := by unfold takeS; rw [if_neg h]
theorem InAt_nil (w : World) (lim : Nat) : InAt w lim (.slice none 0 0) [] := ⟨none, 0, rfl, Nat.le_refl _, Nat.zero_le _, fun h => by simp at h⟩

set_option maxHeartbeats 2000000 in
set_option maxRecDepth 1000000 in
theorem take_any (w : World) (R lim n : Nat) (s : St) (h : RAt w R lim s) (hn : n ≤ 65536) :
    Calls Tryz.prog 170 #[ptr R, .int .i64 (n : Int)] w fun e w' => ∃ v, e = .returned v ∧ InAt w' lim v (takeS n s).1 ∧ RAt w' R lim (takeS n s).2 ∧ Kept R w.heap.size w w' := by
  obtain ⟨v, h1, h2, h3, h4⟩ := h
  obtain ⟨c0, c1⟩ := pair_cell h1
  have f0 := box_frozen (i := 0) h1
  have f1 := box_frozen (i := 1) h1
  have h2' := h2
  obtain ⟨ao, cap, rfl, hlc, hcm, hc⟩ := h2
  unfold maxLen at hcm
  by_cases hs : s.rest.length < n
  · rw [takeS_short hs]
    have R1 : RAt (w.setCell ⟨R, 1, none⟩ (.bool true)) R lim ⟨s.rest, true⟩ := ⟨_, pair_set1 _ h1, h2'.set h3 _, h3, by simp [World.setCell]; omega⟩
    clear h1 h2' hc
    go_enter Tryz.func170, Tryz.ntmps170
    go_wp2
    go_ret
    exact ⟨_, rfl, InAt_nil _ _, R1, Kept.set _⟩
  · rw [takeS_enough hs]
    have T1 := in_take h2' (n := n) (by omega)
    have T2 : ∀ ao', (n < cap → ∀ b off, ao = some ⟨b, off, none⟩ → ao' = some ⟨b, off + n, none⟩) → RAt (w.setCell ⟨R, 0, none⟩ (.slice ao' (s.rest.length - n) (cap - n))) R lim ⟨s.rest.drop n, s.bad⟩ := fun ao' ha =>
      ⟨_, pair_set0 _ h1, (in_drop h2' (by omega) ha).set h3 _, h3, by simp [World.setCell]; omega⟩
    have H : Hid (∀ ao', (n < cap → ∀ b off, ao = some ⟨b, off, none⟩ → ao' = some ⟨b, off + n, none⟩) → RAt (w.setCell ⟨R, 0, none⟩ (.slice ao' (s.rest.length - n) (cap - n))) R lim ⟨s.rest.drop n, s.bad⟩) := T2
    clear h1 h2' hc T2
    go_enter Tryz.func170, Tryz.ntmps170
    go_wp2
    case inl =>
      subst h
      go_ret
      refine ⟨_, rfl, T1.set h3 _, ?_, Kept.set _⟩
      have := H.out ao (fun h => by omega)
      rwa [Nat.sub_self] at this
    case inr =>
      go_ret
      refine ⟨_, rfl, T1.set h3 _, ?_, Kept.set _⟩
      exact H.out _ (fun _ b off e => by rw [e]; simp [Addr.add_lit])

theorem hiN_snoc (l : List UInt8) (c : UInt8) : hiN (l ++ [c]) = hiN l * 256 + c.toNat := by simp [hiN]
theorem fold_lt (l : List UInt8) : ∀ x : Nat, l.foldl (fun x c => x * 256 + c.toNat) x < (x + 1) * 256 ^ l.length := by
  induction l with
  | nil => intro x; simp
  | cons c l ih =>
    intro x
    have h := ih (x * 256 + c.toNat)
    have hc := u8_lt c
    rw [List.foldl_cons, List.length_cons, Nat.pow_succ]
    have h2 : (x * 256 + c.toNat + 1) * 256 ^ l.length ≤ ((x + 1) * 256) * 256 ^ l.length := Nat.mul_le_mul_right _ (by omega)
    rw [Nat.mul_assoc, Nat.mul_comm 256] at h2
    exact Nat.lt_of_lt_of_le h h2
theorem hiN_lt (l : List UInt8) : hiN l < 256 ^ l.length := by
  have := fold_lt l 0
  simpa [hiN] using this
theorem hiN_small {l : List UInt8} (h : l.length ≤ 3) : hiN l < 16777216 := by
  have h1 := hiN_lt l
  have h2 : 256 ^ l.length ≤ 256 ^ 3 := Nat.pow_le_pow_right (by omega) h
  omega
theorem or_step {a : Nat} (c : UInt8) (ha : a < 16777216) : bits .or .u32 ((a : Int) * 256 % 4294967296) ((c.toNat : Int) % 4294967296) = ((a * 256 + c.toNat : Nat) : Int) := by
  have hc := u8_lt c
  have e1 : (a : Int) * 256 % 4294967296 = ((a * 256 : Nat) : Int) := by omega
  have e2 : (c.toNat : Int) % 4294967296 = (c.toNat : Int) := by omega
  rw [e1, e2, u32_or_nat _ _ (by omega) (by omega)]
  have := Nat.two_pow_add_eq_or_of_lt (i := 8) (b := c.toNat) (by omega) a
  rw [show a * 256 = 2 ^ 8 * a by omega, ← this]
theorem hi_succ {bs : List UInt8} {k : Nat} (hk : k < bs.length) (h4 : bs.length ≤ 4) : bits .or .u32 ((hiN (bs.take k) : Int) * 256 % 4294967296) (((bs[k]'hk).toNat : Int) % 4294967296) = (hiN (bs.take (k + 1)) : Int) := by
  rw [or_step _ (hiN_small (by simp; omega)), List.take_succ_eq_append_getElem hk, hiN_snoc]

set_option maxHeartbeats 2000000 in
set_option maxRecDepth 1000000 in
theorem high_any (w : World) (R lim n : Nat) (s : St) (h : RAt w R lim s) (hn : n ≤ 4) :
    Calls Tryz.prog 169 #[ptr R, .int .i64 (n : Int)] w fun e w' => e = .returned (.int .u32 ((highS n s).1 : Int)) ∧ RAt w' R lim (highS n s).2 ∧ Kept R w.heap.size w w' := by
  have kt := take_any w R lim n s h (by omega)
  have hlen : (takeS n s).1.length ≤ 4 := by unfold takeS; split <;> simp; omega
  show Calls _ _ _ _ fun e w' => e = .returned (.int .u32 (hiN (takeS n s).1 : Int)) ∧ RAt w' R lim (takeS n s).2 ∧ Kept R w.heap.size w w'
  generalize (takeS n s).1 = bs at *
  generalize (takeS n s).2 = s' at *
  go_enter Tryz.func169, Tryz.ntmps169
  go_wp2_with fail
  refine kt.mono ?_
  rintro e w1 ⟨v, rfl, hin, hr, hk⟩
  clear kt
  obtain ⟨ao, cap, rfl, hlc, hcm, hc⟩ := hin
  unfold maxLen at hcm
  go_wp2
  go_loop [5, 7, 12] (fun x _ i => ∃ k : Nat, k ≤ bs.length ∧ i = .int .i64 k ∧ x = .int .u32 (hiN (bs.take k) : Int)) (fun _ _ i => bs.length - (intOf i).toNat)
  case atStart => exact ⟨0, Nat.zero_le _, rfl, rfl⟩
  case round =>
    obtain ⟨k, hk, rfl, rfl⟩ := hrel
    by_cases hlt : k < bs.length
    · obtain ⟨b, off, rfl, hbl, hcell⟩ := hc (by omega)
      have c0 := hcell k hlt 0 _ rfl
      simp only [Nat.add_zero, Nat.mul_one, bv] at c0
      clear hcell hc
      go_wp2
      go_round
      case rel => exact ⟨k + 1, by omega, by go_num, by rw [hi_succ hlt hlen]⟩
      case measure => simp [intOf]; omega
    · have e : bs.take k = bs := List.take_of_length_le (by omega)
      rw [e]
      clear hc e
      go_wp2
      go_ret
      exact ⟨rfl, hr, by assumption⟩
end Go.Proofs.YtcgecdiaddcfkaaGreatDoor
