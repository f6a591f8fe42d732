/- Lists in memory; the walks of rows.Check and of the functions that ask something of each one of a list. -/
import Derived.Test.YtcgecdiaddcfkaaDoorRMem
set_option linter.unusedSimpArgs false
set_option linter.unusedVariables false
namespace Go.Proofs.YtcgecdiaddcfkaaDoor
open Go.RowKit

/-- The value v is a slice below block number 'lim' whose elements, of 'size' cells each, are those of l. -/
def SlAt {α : Type} (size : Nat) (cellsOf : α → List Value) (w : World) (lim : Nat) (v : Value) (l : List α) : Prop :=
  ∃ ao cap, v = .slice ao l.length cap ∧ l.length ≤ cap ∧ cap ≤ maxLen ∧
    (0 < l.length → ∃ b off, ao = some ⟨b, off, none⟩ ∧ b < lim ∧ ∀ i (hi : i < l.length) j u, (cellsOf (l[i]'hi))[j]? = some u → w.cell? ⟨b, off + i * size + j, none⟩ = some u)

theorem SlAt.kept {α : Type} {size : Nat} {cellsOf : α → List Value} {w w' : World} {lim : Nat} {v : Value} {l : List α} (h : SlAt size cellsOf w lim v l) (hb : ∀ k, k < lim → w'.heap[k]? = w.heap[k]?) : SlAt size cellsOf w' lim v l := by
  obtain ⟨ao, cap, rfl, h1, h2, h3⟩ := h
  refine ⟨ao, cap, rfl, h1, h2, fun hl => ?_⟩
  obtain ⟨b, off, rfl, hlt, hc⟩ := h3 hl
  exact ⟨b, off, rfl, hlt, fun i hi j u hu => by rw [World.cell?_of_block (w := w) (hb b hlt)]; exact hc i hi j u hu⟩
theorem SlAt.below {α : Type} {size : Nat} {cellsOf : α → List Value} {w w' : World} {lim B : Nat} {v : Value} {l : List α} (h : SlAt size cellsOf w lim v l) (hb : Below B w w') (hB : lim ≤ B) : SlAt size cellsOf w' lim v l :=
  h.kept (fun k hk => hb.block k (by omega))
theorem SlAt.mono {α : Type} {size : Nat} {cellsOf : α → List Value} {w : World} {lim lim' : Nat} {v : Value} {l : List α} (h : SlAt size cellsOf w lim v l) (hB : lim ≤ lim') : SlAt size cellsOf w lim' v l := by
  obtain ⟨ao, cap, rfl, h1, h2, h3⟩ := h
  refine ⟨ao, cap, rfl, h1, h2, fun hl => ?_⟩
  obtain ⟨b, off, rfl, hlt, hc⟩ := h3 hl
  exact ⟨b, off, rfl, by omega, hc⟩

def opCells (x : OpD) : List Value := [.int .u8 (x.kind.toNat : Int), .string x.key, .string x.to, .int .u32 (x.value.toNat : Int)]
def rowCells (x : RowD) : List Value := [.string x.key, .int .u32 (x.value.toNat : Int)]
def chCells (x : ChD) : List Value := [.string x.key, .int .u32 (x.value.toNat : Int), .bool x.gone]
def opV (x : OpD) : Value := .agg #[.int .u8 (x.kind.toNat : Int), .string x.key, .string x.to, .int .u32 (x.value.toNat : Int)]
def rowV (x : RowD) : Value := .agg #[.string x.key, .int .u32 (x.value.toNat : Int)]
def chV (x : ChD) : Value := .agg #[.string x.key, .int .u32 (x.value.toNat : Int), .bool x.gone]

def opSm (x : OpD) : Prop := x.key.size ≤ maxLen ∧ x.to.size ≤ maxLen
def rowSm (x : RowD) : Prop := x.key.size ≤ maxLen
def chSm (x : ChD) : Prop := x.key.size ≤ maxLen

theorem opOk_bad {x : OpD} (h : chk x.key = false) : opOk x = false := by unfold opOk; rw [h]; rfl
theorem isEmpty_size (s : ByteArray) : s.toList.isEmpty = decide (s.size = 0) := by
  rw [ByteArray.toList_eq, Bool.eq_iff_iff, List.isEmpty_iff, decide_eq_true_iff]
  constructor
  · intro h; show s.data.size = 0; rw [← Array.length_toList (xs := s.data), h]; rfl
  · intro h; exact List.eq_nil_of_length_eq_zero (by rw [Array.length_toList]; exact h)
/-- Whether an op may be, by its kind's number. -/
def okN (ck : Bool) (kd : Nat) (te ct : Bool) (vl : Nat) : Bool := ck && (if kd = 1 ∨ kd = 3 then te && decide (vl = 0) else if kd = 2 then te else if kd = 4 then ct && decide (vl = 0) else false)
theorem opOk_okN (x : OpD) : opOk x = okN (chk x.key) x.kind.toNat x.to.toList.isEmpty (chk x.to) x.value.toNat := by
  unfold opOk okN; rw [isEmpty_size]
theorem int_eq_nat (a b : Nat) : ((a : Int) == (b : Int)) = decide (a = b) := by rw [Bool.eq_iff_iff]; simp; omega
theorem int_eq_zero (a : Nat) : ((a : Int) == 0) = decide (a = 0) := int_eq_nat a 0

set_option maxHeartbeats 2000000 in
set_option maxRecDepth 1000000 in
theorem rcheck_any (w : World) (x : OpD) (hs : opSm x) :
    Calls Tryd.prog 30 #[opV x] w fun e w' => e = .returned (.bool (opOk x)) ∧ Below w.heap.size w w' := by
  rw [opOk_okN]
  obtain ⟨kind, key, to, value⟩ := x
  unfold opV
  obtain ⟨hs1, hs2⟩ := hs
  simp only at hs1 hs2 ⊢
  obtain ⟨kd, hkd⟩ : ∃ kd, kd = kind.toNat := ⟨_, rfl⟩
  obtain ⟨vl, hvl⟩ : ∃ vl, vl = value.toNat := ⟨_, rfl⟩
  rw [← hkd, ← hvl]
  clear hkd hvl
  obtain ⟨W, hW⟩ : ∃ W, W = w.alloc (.cells #[.int .u8 (kd : Int), .string key, .string to, .int .u32 (vl : Int)] 49) := ⟨_, rfl⟩
  have B0 : Below w.heap.size w W := by rw [hW]; exact (Below.refl _ _).alloc (Nat.le_refl _) _
  have Z0 : W.heap.size = w.heap.size + 1 := by rw [hW]; simp
  have a0 : W.cell? ⟨w.heap.size, 0, none⟩ = some (.int .u8 (kd : Int)) := by rw [hW]; go_simp
  have a2 : W.cell? ⟨w.heap.size, 2, none⟩ = some (.string to) := by rw [hW]; go_simp
  have a3 : W.cell? ⟨w.heap.size, 3, none⟩ = some (.int .u32 (vl : Int)) := by rw [hW]; go_simp
  have k := check_any key W hs1
  have k2 := fun w' => check_any to w' hs2
  generalize chk key = ck at *
  generalize chk to = ct at *
  have fin : ∀ w1, Below W.heap.size W w1 → Below w.heap.size w w1 ∧ w1.cell? ⟨w.heap.size, 0, none⟩ = some (.int .u8 (kd : Int)) ∧ w1.cell? ⟨w.heap.size, 2, none⟩ = some (.string to) ∧ w1.cell? ⟨w.heap.size, 3, none⟩ = some (.int .u32 (vl : Int)) ∧ w.heap.size + 1 ≤ w1.heap.size := by
    intro w1 hb
    have hz := hb.size
    exact ⟨B0.trans (hb.mono (by omega)), (hb.cell (by simp; omega)).trans a0, (hb.cell (by simp; omega)).trans a2, (hb.cell (by simp; omega)).trans a3, by omega⟩
  clear B0 Z0 a0 a2 a3
  subst hW
  by_cases hck : ck = true
  case neg =>
    rw [Bool.not_eq_true] at hck
    subst hck
    go_enter Tryd.func30, Tryd.ntmps30
    go_wp2_with fail
    refine k.mono ?_
    rintro e w1 ⟨rfl, hb⟩
    obtain ⟨b1, c0, c2, c3, z1⟩ := fin w1 hb
    clear fin k k2 hb
    go_wp2
    go_ret
    exact ⟨rfl, b1⟩
  subst hck
  by_cases h1 : kd = 1
  · subst h1
    cases hte : to.toList.isEmpty with
    | true =>
      have H : okN true 1 true ct vl = ((vl : Int) == 0) := by rw [int_eq_zero]; simp [okN]
      rw [H]; clear H
      go_enter Tryd.func30, Tryd.ntmps30
      go_wp2_with fail
      refine k.mono ?_
      rintro e w1 ⟨rfl, hb⟩
      obtain ⟨b1, c0, c2, c3, z1⟩ := fin w1 hb
      clear fin k k2 hb
      go_wp2
      go_ret
      exact ⟨rfl, b1⟩
    | false =>
      have H : okN true 1 false ct vl = false := by simp [okN]
      rw [H]; clear H
      go_enter Tryd.func30, Tryd.ntmps30
      go_wp2_with fail
      refine k.mono ?_
      rintro e w1 ⟨rfl, hb⟩
      obtain ⟨b1, c0, c2, c3, z1⟩ := fin w1 hb
      clear fin k k2 hb
      go_wp2
      go_ret
      exact ⟨rfl, b1⟩
  have n1 : ((kd : Int) == 1) = false := by rw [show (1 : Int) = ((1 : Nat) : Int) from rfl, int_eq_nat]; simpa using h1
  by_cases h3 : kd = 3
  · subst h3
    clear h1 n1
    cases hte : to.toList.isEmpty with
    | true =>
      have H : okN true 3 true ct vl = ((vl : Int) == 0) := by rw [int_eq_zero]; simp [okN]
      rw [H]; clear H
      go_enter Tryd.func30, Tryd.ntmps30
      go_wp2_with fail
      refine k.mono ?_
      rintro e w1 ⟨rfl, hb⟩
      obtain ⟨b1, c0, c2, c3, z1⟩ := fin w1 hb
      clear fin k k2 hb
      go_wp2
      go_ret
      exact ⟨rfl, b1⟩
    | false =>
      have H : okN true 3 false ct vl = false := by simp [okN]
      rw [H]; clear H
      go_enter Tryd.func30, Tryd.ntmps30
      go_wp2_with fail
      refine k.mono ?_
      rintro e w1 ⟨rfl, hb⟩
      obtain ⟨b1, c0, c2, c3, z1⟩ := fin w1 hb
      clear fin k k2 hb
      go_wp2
      go_ret
      exact ⟨rfl, b1⟩
  have n3 : ((kd : Int) == 3) = false := by rw [show (3 : Int) = ((3 : Nat) : Int) from rfl, int_eq_nat]; simpa using h3
  by_cases h2 : kd = 2
  · subst h2
    clear h1 n1 h3 n3
    have H : okN true 2 to.toList.isEmpty ct vl = to.toList.isEmpty := by simp [okN]
    rw [H]; clear H
    go_enter Tryd.func30, Tryd.ntmps30
    go_wp2_with fail
    refine k.mono ?_
    rintro e w1 ⟨rfl, hb⟩
    obtain ⟨b1, c0, c2, c3, z1⟩ := fin w1 hb
    clear fin k k2 hb
    go_wp2
    go_ret
    exact ⟨rfl, b1⟩
  have n2 : ((kd : Int) == 2) = false := by rw [show (2 : Int) = ((2 : Nat) : Int) from rfl, int_eq_nat]; simpa using h2
  by_cases h4 : kd = 4
  · subst h4
    clear h1 n1 h3 n3 h2 n2
    cases ct with
    | true =>
      have H : okN true 4 to.toList.isEmpty true vl = ((vl : Int) == 0) := by rw [int_eq_zero]; simp [okN]
      rw [H]; clear H
      go_enter Tryd.func30, Tryd.ntmps30
      go_wp2_with fail
      refine k.mono ?_
      rintro e w1 ⟨rfl, hb⟩
      obtain ⟨b1, c0, c2, c3, z1⟩ := fin w1 hb
      clear fin k hb
      go_wp2_with fail
      refine (k2 _).mono ?_
      rintro e w2 ⟨rfl, hb2⟩
      have d3 := (hb2.cell (p := ⟨w.heap.size, 3, none⟩) (by simp; omega)).trans c3
      have b2 := b1.trans (hb2.mono (by omega))
      clear k2 hb2 c0 c2 c3
      go_wp2
      go_ret
      exact ⟨rfl, b2⟩
    | false =>
      have H : okN true 4 to.toList.isEmpty false vl = false := by simp [okN]
      rw [H]; clear H
      go_enter Tryd.func30, Tryd.ntmps30
      go_wp2_with fail
      refine k.mono ?_
      rintro e w1 ⟨rfl, hb⟩
      obtain ⟨b1, c0, c2, c3, z1⟩ := fin w1 hb
      clear fin k hb
      go_wp2_with fail
      refine (k2 _).mono ?_
      rintro e w2 ⟨rfl, hb2⟩
      have d3 := (hb2.cell (p := ⟨w.heap.size, 3, none⟩) (by simp; omega)).trans c3
      have b2 := b1.trans (hb2.mono (by omega))
      clear k2 hb2 c0 c2 c3
      go_wp2
      go_ret
      exact ⟨rfl, b2⟩
  have n4 : ((kd : Int) == 4) = false := by rw [show (4 : Int) = ((4 : Nat) : Int) from rfl, int_eq_nat]; simpa using h4
  have H : okN true kd to.toList.isEmpty ct vl = false := by simp [okN, h1, h2, h3, h4]
  rw [H]; clear H
  go_enter Tryd.func30, Tryd.ntmps30
  go_wp2_with fail
  refine k.mono ?_
  rintro e w1 ⟨rfl, hb⟩
  obtain ⟨b1, c0, c2, c3, z1⟩ := fin w1 hb
  clear fin k k2 hb
  go_wp2
  go_ret
  exact ⟨rfl, b1⟩
end Go.Proofs.YtcgecdiaddcfkaaDoor
