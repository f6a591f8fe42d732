/- The walks of there, has, of, New, Size, Waits. -/
import Derived.Test.YtjaidhglemnakaaDMem
set_option linter.unusedSimpArgs false
set_option linter.unusedVariables false
namespace Go.Proofs.Ytjaidhglemnakaa
open Go.RowKit Go.Maps

set_option maxRecDepth 1000000 in
theorem info_sec : (Try.prog.info? 74).map (fun i => (i.zero, i.size)) = some (some (.agg (Array.replicate 64 (.int .u8 0))), 64) := by kernel_rfl

theorem there_ok {w : World} {B G M cap : Nat} {F : Value} {D : DataW Unit} {d : Dk} (h : DkAtX w B G M cap F D d) :
    Calls Try.prog 31 #[.pointer (some ⟨B, 0, none⟩)] w fun e w' => e = .returned (.bool true) ∧ w = w' := by
  obtain ⟨c0, c1, c2, c3⟩ := h.cells
  have hp := h.ok.pos
  have hm := h.ok.max
  clear h c1 c2 c3
  go_enter Try.func31, Try.ntmps31
  go_wp2
  all_goals
    go_ret
    exact ⟨by first | (simp; done) | (simp; omega), rfl⟩
theorem there_nil (w : World) : Calls Try.prog 31 #[.pointer none] w fun e w' => e = .returned (.bool false) ∧ w = w' := by
  go_enter Try.func31, Try.ntmps31
  go_wp2
  go_ret
  exact ⟨rfl, rfl⟩
theorem there_zero (w : World) (B : Nat) (c0 : w.cell? ⟨B, 0, none⟩ = some (.slice none 0 0)) : Calls Try.prog 31 #[.pointer (some ⟨B, 0, none⟩)] w fun e w' => e = .returned (.bool false) ∧ w = w' := by
  go_enter Try.func31, Try.ntmps31
  go_wp2
  go_ret
  exact ⟨rfl, rfl⟩
theorem has_ok {w : World} {B G M cap : Nat} {F : Value} {D : DataW Unit} {d : Dk} (h : DkAtX w B G M cap F D d) (at_ : Int) :
    Calls Try.prog 33 #[.pointer (some ⟨B, 0, none⟩), .int .i64 at_] w fun e w' => e = .returned (.bool (decide (0 ≤ at_ ∧ at_ < (d.sure.length : Int)))) ∧ w = w' := by
  obtain ⟨c0, c1, c2, c3⟩ := h.cells
  have hm := h.ok.max
  clear h c1 c2 c3
  go_enter Try.func33, Try.ntmps33
  by_cases h0 : 0 ≤ at_
  · by_cases h1 : at_ < (d.sure.length : Int)
    all_goals
      go_wp2
      go_ret
      exact ⟨by simp [h0, h1], rfl⟩
  · go_wp2
    go_ret
    exact ⟨by simp; omega, rfl⟩
theorem size_ok {w : World} {B : Nat} {S : List Nat} {d : Dk} (h : DkAt w B S d) :
    Calls Try.prog 37 #[.pointer (some ⟨B, 0, none⟩)] w fun e w' => e = .returned (.int .i64 (d.sure.length : Int)) ∧ w = w' := by
  obtain ⟨G, M, cap, F, D, rfl, h⟩ := h
  have kt := there_ok h
  obtain ⟨c0, c1, c2, c3⟩ := h.cells
  have hm := h.ok.max
  clear h c1 c2 c3
  go_enter Try.func37, Try.ntmps37
  go_wp2_with (go_at_call 31; refine kt.mono ?_; rintro e w' ⟨rfl, rfl⟩)
  go_ret
  exact ⟨rfl, rfl⟩
theorem waits_ok {w : World} {B : Nat} {S : List Nat} {d : Dk} (h : DkAt w B S d) :
    Calls Try.prog 18 #[.pointer (some ⟨B, 0, none⟩)] w fun e w' => e = .returned (.int .i64 (d.ws.length : Int)) ∧ w = w' := by
  obtain ⟨G, M, cap, F, D, rfl, h⟩ := h
  have kt := there_ok h
  obtain ⟨c0, c1, c2, c3⟩ := h.cells
  clear h c1 c2 c0
  go_enter Try.func18, Try.ntmps18
  go_wp2_with (go_at_call 31; refine kt.mono ?_; rintro e w' ⟨rfl, rfl⟩)
  go_ret
  exact ⟨rfl, rfl⟩
/-- of: a disk on which these sectors are sure. -/
theorem of_ok {w : World} {G cap : Nat} {l : List Sec} (hs : w.ownsRow 0 74 64 (.slice (some ⟨G, 0, none⟩) l.length cap) l.length (l.flatMap bcells)) (hok : (Dk.mk l []).ok) :
    Calls Try.prog 30 #[.slice (some ⟨G, 0, none⟩) l.length cap] w fun e w' => e = .returned (.pointer (some ⟨w.heap.size + 1, 0, none⟩)) ∧ Below w.heap.size w w' ∧ DkAt w' (w.heap.size + 1) [w.heap.size + 1, G, w.heap.size] ⟨l, []⟩ := by
  have hmm := @run_makeMap Try.prog
  have hG := (hs.lt G rfl).2
  go_enter Try.func30, Try.ntmps30
  go_wp2
  go_ret
  refine ⟨rfl, ((Below.refl _ _).alloc (Nat.le_refl _) _).alloc (by simp) _, G, w.heap.size, cap, .slice none 0 0, .map [], rfl, hok, ?_, ?_, ?_, FreshOf.nil, World.ownsRow_nil _ _ _ _, by omega, by simp [Value.ownBlock], by simp [Value.ownBlock]⟩
  · have := heap_alloc_last (w.alloc (.map #[] 0)) (.cells #[.slice (some ⟨G, 0, none⟩) l.length cap, .map (some w.heap.size), .slice none 0 0, .int .i64 0] 41)
    simpa using this
  · refine own_kept hs (fun b e => ?_)
    cases e
    rw [Below.heap_alloc _ _ _ (by simp; omega), Below.heap_alloc _ _ _ hG]
  · exact (World.ownsMap_made _ _ _ _).alloc _
theorem made_const (z : Array Value) (v : Value) (m : Nat) (hz : z = Array.replicate 64 v) : (madeCells z m).toList = List.replicate m v := by
  subst hz
  apply List.ext_getElem
  · simp [madeCells]
  · intro i h1 h2
    simp only [madeCells, Array.toList_map, Array.toList_range, List.getElem_map, List.getElem_range, List.getElem_replicate]
    rw [getElem!_pos _ _ (by simp; omega)]
    simp
theorem bcells_zero (n : Nat) : (List.replicate n (List.replicate 64 (0 : UInt8))).flatMap bcells = List.replicate (n * 64) (.int .u8 0) := by
  induction n with
  | zero => rfl
  | succ n ih =>
    rw [List.replicate_succ, List.flatMap_cons, ih, Nat.succ_mul, Nat.add_comm (n * 64) 64, ← List.replicate_append_replicate]
    rfl
theorem new_bad (w : World) (n : Int) (h : n < 1 ∨ 4096 < n) : Calls Try.prog 14 #[.int .i64 n] w fun e w' => e = .returned (.tuple #[.pointer none, .int .i64 1]) ∧ w = w' := by
  by_cases h1 : n < 1
  · go_enter Try.func14, Try.ntmps14
    go_wp2
    go_ret2
    exact ⟨rfl, rfl⟩
  · have h2 : 4096 < n := by omega
    go_enter Try.func14, Try.ntmps14
    go_wp2
    go_ret2
    exact ⟨rfl, rfl⟩
set_option maxRecDepth 1000000 in
theorem info_sec3 : (Try.prog.info? 74).map (fun i => (i.zero, i.size, i.bytes)) = some (some (.agg (Array.replicate 64 (.int .u8 0))), 64, 64) := by kernel_rfl
set_option maxRecDepth 1000000 in
theorem new_ok (w : World) (n : Nat) (h1 : 1 ≤ n) (h2 : n ≤ 4096) : Calls Try.prog 14 #[.int .i64 (n : Int)] w fun e w' =>
    ∃ B S, e = .returned (.tuple #[.pointer (some ⟨B, 0, none⟩), .int .i64 0]) ∧ Below w.heap.size w w' ∧ DkAt w' B S (Dk.new n) ∧ ∀ x ∈ S, w.heap.size ≤ x := by
  obtain ⟨i0, hi, hz0, hz1, hz2⟩ := info_parts info_sec3
  have i1 : ¬ ((n : Int) < 1) := by omega
  have i2 : ¬ ((4096 : Int) < (n : Int)) := by omega
  go_enter Try.func14, Try.ntmps14
  go_wp2_with (first
    | (at_make; refine wpList_make_full _ rfl _ _ 37 rfl 0 74 i0 (.agg (Array.replicate 64 (.int .u8 0))) 64 Try.underlying37 hi hz0 hz1 .i64 .i64 _ _ n rfl rfl rfl rfl (by rw [hz2]; omega) (by unfold maxLen; omega) (Nat.zero_le _) ?_; intro w1 hown hgr)
    | (go_at_call 30; fail))
  rw [show (madeCells (Value.agg (Array.replicate 64 (.int .u8 0))).cells (n * 64)).toList = _ from made_const _ _ _ rfl, ← bcells_zero] at hown
  have b1 : Below w.heap.size w w1 := (Below.refl _ _).grown hgr (Nat.le_refl _) (fun k e => by cases e)
  have hlen : (List.replicate n (List.replicate 64 (0 : UInt8))).length = n := by simp
  have ko := of_ok (w := w1) (G := w.heap.size) (cap := n) (l := List.replicate n (List.replicate 64 0)) (by rw [hlen]; exact hown) (Dk.ok_new h1 h2)
  rw [hlen] at ko
  go_wp2_with (go_at_call 30; refine ko.mono ?_; rintro e w2 ⟨rfl, b2, hd⟩)
  go_ret2
  refine ⟨_, _, rfl, b1.trans (b2.mono b1.size), hd, fun x hx => ?_⟩
  have := b1.size
  simp at hx
  omega
end Go.Proofs.Ytjaidhglemnakaa
