/- A disk that is not there, or that no call made; sectors that are not there; more bytes than there may be. -/
import Derived.Test.YtjaidhglemnakaaDFail
set_option linter.unusedSimpArgs false
set_option linter.unusedVariables false
namespace Go.Proofs.Ytjaidhglemnakaa
open Go.RowKit Go.Maps

/-- A disk that is not there, or that no call made. -/
def NoDk (w : World) (v : Value) : Prop := v = .pointer none ∨ ∃ B, v = .pointer (some ⟨B, 0, none⟩) ∧ w.cell? ⟨B, 0, none⟩ = some (.slice none 0 0)
theorem NoDk.below {w w' : World} {v : Value} (h : NoDk w v) (hb : Below w.heap.size w w') : NoDk w' v := by
  rcases h with h | ⟨B, h, hc⟩
  · exact .inl h
  · refine .inr ⟨B, h, ?_⟩
    rw [World.cell?_of_block (w := w) (hb.block B (World.block_lt_of_cell? w _ hc))]
    exact hc
theorem there_no {w : World} {v : Value} (h : NoDk w v) : Calls Try.prog 31 #[v] w fun e w' => e = .returned (.bool false) ∧ w = w' := by
  rcases h with rfl | ⟨B, rfl, hc⟩
  · exact there_nil w
  · exact there_zero w B hc
theorem size_no {w : World} {v : Value} (h : NoDk w v) : Calls Try.prog 37 #[v] w fun e w' => e = .returned (.int .i64 0) ∧ w = w' := by
  have kt := there_no h
  clear h
  go_enter Try.func37, Try.ntmps37
  go_wp2_with (go_at_call 31; refine kt.mono ?_; rintro e w' ⟨rfl, rfl⟩)
  go_ret
  exact ⟨rfl, rfl⟩
theorem waits_no {w : World} {v : Value} (h : NoDk w v) : Calls Try.prog 18 #[v] w fun e w' => e = .returned (.int .i64 0) ∧ w = w' := by
  have kt := there_no h
  clear h
  go_enter Try.func18, Try.ntmps18
  go_wp2_with (go_at_call 31; refine kt.mono ?_; rintro e w' ⟨rfl, rfl⟩)
  go_ret
  exact ⟨rfl, rfl⟩
theorem sync_no {w : World} {v : Value} (h : NoDk w v) : Calls Try.prog 25 #[v] w fun e w' => e = .returned (.int .i64 2) ∧ w = w' := by
  have kt := there_no h
  clear h
  go_enter Try.func25, Try.ntmps25
  go_wp2_with (go_at_call 31; refine kt.mono ?_; rintro e w' ⟨rfl, rfl⟩)
  go_ret
  exact ⟨rfl, rfl⟩
theorem write_no {w : World} {v : Value} (h : NoDk w v) (i : Int) (b : Value) : Calls Try.prog 19 #[v, .int .i64 i, b] w fun e w' => e = .returned (.int .i64 2) ∧ w = w' := by
  have kt := there_no h
  clear h
  go_enter Try.func19, Try.ntmps19
  go_wp2_with (go_at_call 31; refine kt.mono ?_; rintro e w' ⟨rfl, rfl⟩)
  go_ret
  exact ⟨rfl, rfl⟩
theorem read_no {w : World} {v : Value} (h : NoDk w v) (i : Int) : Calls Try.prog 20 #[v, .int .i64 i] w fun e w' => e = .returned (.tuple #[.slice none 0 0, .int .i64 2]) ∧ w = w' := by
  have kt := there_no h
  clear h
  go_enter Try.func20, Try.ntmps20
  go_wp2_with (go_at_call 31; refine kt.mono ?_; rintro e w' ⟨rfl, rfl⟩)
  go_ret2
  exact ⟨rfl, rfl⟩
theorem fail_no {w : World} {v : Value} (h : NoDk w v) (keep torn : Int) : Calls Try.prog 15 #[v, .int .u64 keep, .int .i64 torn] w fun e w' => e = .returned (.tuple #[.pointer none, .int .i64 2]) ∧ w = w' := by
  have kt := there_no h
  clear h
  go_enter Try.func15, Try.ntmps15
  go_wp2_with (go_at_call 31; refine kt.mono ?_; rintro e w' ⟨rfl, rfl⟩)
  go_ret2
  exact ⟨rfl, rfl⟩
theorem read_bad {w : World} {B : Nat} {S : List Nat} {d : Dk} (h : DkAt w B S d) (i : Int) (hi : i < 0 ∨ (d.sure.length : Int) ≤ i) :
    Calls Try.prog 20 #[.pointer (some ⟨B, 0, none⟩), .int .i64 i] w fun e w' => e = .returned (.tuple #[.slice none 0 0, .int .i64 1]) ∧ w = w' := by
  obtain ⟨G, M, cap, F, D, rfl, h⟩ := h
  have kt := there_ok h
  have kh := has_ok h i
  rw [show decide (0 ≤ i ∧ i < (d.sure.length : Int)) = false by simp; omega] at kh
  clear h hi
  go_enter Try.func20, Try.ntmps20
  go_wp2_with (first
    | (go_at_call 31; refine kt.mono ?_; rintro e w' ⟨rfl, rfl⟩)
    | (go_at_call 33; refine kh.mono ?_; rintro e w' ⟨rfl, rfl⟩))
  go_ret2
  exact ⟨rfl, rfl⟩
theorem write_bad {w : World} {B : Nat} {S : List Nat} {d : Dk} (h : DkAt w B S d) (i : Int) (ao : Option Addr) (n c : Nat) (hn : n ≤ 9223372036854775807) (hi : (i < 0 ∨ (d.sure.length : Int) ≤ i) ∨ 64 < n) :
    Calls Try.prog 19 #[.pointer (some ⟨B, 0, none⟩), .int .i64 i, .slice ao n c] w fun e w' => e = .returned (.int .i64 1) ∧ w = w' := by
  obtain ⟨G, M, cap, F, D, rfl, h⟩ := h
  have kt := there_ok h
  have kh := has_ok h i
  by_cases hin : 0 ≤ i ∧ i < (d.sure.length : Int)
  · have i1 : (64 : Int) < (n : Int) := by omega
    rw [show decide (0 ≤ i ∧ i < (d.sure.length : Int)) = true by simpa using hin] at kh
    clear h hi hin
    go_enter Try.func19, Try.ntmps19
    go_wp2_with (first
      | (go_at_call 31; refine kt.mono ?_; rintro e w' ⟨rfl, rfl⟩)
      | (go_at_call 33; refine kh.mono ?_; rintro e w' ⟨rfl, rfl⟩))
    go_ret
    exact ⟨rfl, rfl⟩
  · rw [show decide (0 ≤ i ∧ i < (d.sure.length : Int)) = false by simpa using hin] at kh
    clear h hi hin
    go_enter Try.func19, Try.ntmps19
    go_wp2_with (first
      | (go_at_call 31; refine kt.mono ?_; rintro e w' ⟨rfl, rfl⟩)
      | (go_at_call 33; refine kh.mono ?_; rintro e w' ⟨rfl, rfl⟩))
    go_ret
    exact ⟨rfl, rfl⟩

/-- A disk that lies wholly from block 'base' on. -/
def Own (base : Nat) (w : World) (B : Nat) (d : Dk) : Prop := ∃ S, DkAt w B S d ∧ ∀ x ∈ S, base ≤ x
theorem Own.below {base : Nat} {w w' : World} {B : Nat} {d : Dk} (h : Own base w B d) (hb : Below w.heap.size w w') : Own base w' B d := by
  obtain ⟨S, h1, h2⟩ := h
  exact ⟨S, h1.below hb, h2⟩
theorem Own.ok {base : Nat} {w : World} {B : Nat} {d : Dk} (h : Own base w B d) : d.ok := by
  obtain ⟨S, h1, h2⟩ := h
  exact h1.ok
theorem Chg.belowOf {S : List Nat} {w w' : World} (h : Chg S w w') {base : Nat} (hS : ∀ x ∈ S, base ≤ x) (hb : base ≤ w.heap.size) : Below base w w' := h.to_below (Below.refl _ _) hb hS
theorem new_own (w : World) (n : Nat) (h1 : 1 ≤ n) (h2 : n ≤ 4096) : Calls Try.prog 14 #[.int .i64 (n : Int)] w fun e w' =>
    ∃ B, e = .returned (.tuple #[.pointer (some ⟨B, 0, none⟩), .int .i64 0]) ∧ Below w.heap.size w w' ∧ Own w.heap.size w' B (Dk.new n) :=
  (new_ok w n h1 h2).mono fun e w' ⟨B, S, h1, h2, h3, h4⟩ => ⟨B, h1, h2, S, h3, h4⟩
theorem write_own {base : Nat} {w : World} {B : Nat} {d : Dk} (h : Own base w B d) (hb : base ≤ w.heap.size) (i : Nat) (hi : i < d.sure.length) (v : Value) (b : List UInt8) {lim : Nat} (hv : InAt w lim v b) (hl : b.length ≤ 64) (hn : d.ws.length ≤ 1000000) :
    Calls Try.prog 19 #[.pointer (some ⟨B, 0, none⟩), .int .i64 (i : Int), v] w fun e w' => e = .returned (.int .i64 0) ∧ Own base w' B (d.write i b) ∧ Below base w w' := by
  obtain ⟨S, h1, h2⟩ := h
  exact (write_ok h1 i hi v b hv hl hn).mono fun e w' ⟨k1, S', k2, k3, k4⟩ => ⟨k1, ⟨S', k2, fun x hx => (k4 x hx).elim (h2 x) (fun h => Nat.le_trans hb h)⟩, k3.belowOf h2 hb⟩
theorem sync_own {base : Nat} {w : World} {B : Nat} {d : Dk} (h : Own base w B d) (hb : base ≤ w.heap.size) :
    Calls Try.prog 25 #[.pointer (some ⟨B, 0, none⟩)] w fun e w' => e = .returned (.int .i64 0) ∧ Own base w' B d.sync ∧ Below base w w' := by
  obtain ⟨S, h1, h2⟩ := h
  exact (sync_ok h1).mono fun e w' ⟨k1, S', k2, k3, k4⟩ => ⟨k1, ⟨S', k2, fun x hx => (k4 x hx).elim (h2 x) (fun h => Nat.le_trans hb h)⟩, k3.belowOf h2 hb⟩
theorem fail_own {base : Nat} {w : World} {B : Nat} {d : Dk} (h : Own base w B d) (keep : Nat) (hkeep : keep < 18446744073709551616) (torn : Int) (ht : -1 ≤ torn) :
    Calls Try.prog 15 #[.pointer (some ⟨B, 0, none⟩), .int .u64 (keep : Int), .int .i64 torn] w fun e w' =>
      ∃ B', e = .returned (.tuple #[.pointer (some ⟨B', 0, none⟩), .int .i64 0]) ∧ Below w.heap.size w w' ∧ Own w.heap.size w' B' (d.fail keep torn) := by
  obtain ⟨S, h1, h2⟩ := h
  exact (fail_ok h1 keep hkeep torn ht).mono fun e w' ⟨B', S', k1, k2, k3, k4⟩ => ⟨B', k1, k2, S', k3, k4⟩
theorem read_own {base : Nat} {w : World} {B : Nat} {d : Dk} (h : Own base w B d) (i : Nat) (hi : i < d.sure.length) :
    Calls Try.prog 20 #[.pointer (some ⟨B, 0, none⟩), .int .i64 (i : Int)] w fun e w' =>
      e = .returned (.tuple #[.slice (some ⟨w.heap.size + 1, 0, none⟩) 64 64, .int .i64 0]) ∧ w'.heap[w.heap.size + 1]? = some (.cells (bcells (d.view i)).toArray 5 (0, 0)) ∧ Below w.heap.size w w' := by
  obtain ⟨S, h1, h2⟩ := h
  exact read_ok h1 i hi
theorem waits_own {base : Nat} {w : World} {B : Nat} {d : Dk} (h : Own base w B d) : Calls Try.prog 18 #[.pointer (some ⟨B, 0, none⟩)] w fun e w' => e = .returned (.int .i64 (d.ws.length : Int)) ∧ w = w' := by
  obtain ⟨S, h1, h2⟩ := h
  exact waits_ok h1
end Go.Proofs.Ytjaidhglemnakaa
