/- The walk of slices.Clone of sectors. -/
import Derived.Test.YtjaidhglemnakaaDSync
import Derived.Lib.SliceRun
set_option linter.unusedSimpArgs false
set_option linter.unusedVariables false
namespace Go.Proofs.Ytjaidhglemnakaa
open Go.RowKit Go.Maps

theorem secs_one (l : List Sec) : ∀ u ∈ l.flatMap bcells, u.oneCell' = true := by
  intro u hu
  obtain ⟨s, _, hs⟩ := List.mem_flatMap.1 hu
  exact bcells_one s u hs
set_option maxRecDepth 1000000 in
theorem none_secs (W : World) : (Instr.buildSlice 37 0 #[]).run Try.prog W = .ok (.slice (some ⟨W.heap.size, 0, none⟩) 0 0) (W.alloc (.cells #[] 74)) := by kernel_rfl
set_option maxHeartbeats 1000000 in
set_option maxRecDepth 1000000 in
theorem clone_ok {w : World} {G cap n : Nat} {xs : List Value} (hs : w.ownsRow 0 74 64 (.slice (some ⟨G, 0, none⟩) n cap) n xs) (h0 : 0 < n) (hn : n ≤ 4096) (h1 : ∀ u ∈ xs, u.oneCell' = true) :
    Calls Try.prog 32 #[.slice (some ⟨G, 0, none⟩) n cap] w fun e w' =>
      ∃ G' cap', e = .returned (.slice (some ⟨G', 0, none⟩) n cap') ∧ w'.ownsRow w.heap.size 74 64 (.slice (some ⟨G', 0, none⟩) n cap') n xs ∧ Below w.heap.size w w' := by
  obtain ⟨i0, hi, hz0, hz1, hz2⟩ := info_parts info_sec3
  have hnil := fun (W : World) (a : Option Addr) (l c : Nat) => Lib.run_eql_slice_nil (P := Try.prog) W 37 74 a l c 0 0 Try.underlying37
  have hbs := none_secs
  have ho0 : (w.alloc (.cells #[] 74)).ownsRow w.heap.size 74 64 (.slice (some ⟨w.heap.size, 0, none⟩) 0 0) 0 [] := World.ownsRow_made w #[] 0 (Nat.le_refl _) (Nat.zero_le _) (by simp)
  have hsrc : Src Try.prog 64 37 (.slice (some ⟨G, 0, none⟩) n cap) n xs (w.alloc (.cells #[] 74)) :=
    Src.ofSlice _ Try.underlying37 _ _ _ _ hs.1 (fun j u hu => (hs.alloc _).cells rfl j u hu) h1
  have hb0 := below_one w (.cells #[] 74)
  clear hs
  go_enter Try.func32, Try.ntmps32
  go_wp2_with (at_builtin; refine wpList_append_own_src _ rfl (.tmp 5) (.tmp 6) 37 37 rfl w.heap.size 74 i0 (.agg (Array.replicate 64 (.int .u8 0))) 64 64 Try.underlying37 hi hz0 hz1 hz2 ?ha ?hb _ 0 _ rfl ho0 (.slice (some ⟨G, 0, none⟩) n cap) n xs rfl hsrc ?hc ?hd ?he ?_)
  case ha => simp [Value.cells]
  case hb => omega
  case hc => unfold maxLen; omega
  case hd => omega
  case he => simp
  intro v' w1 ho hg hl
  try simp only [Nat.zero_add, List.nil_append] at ho
  obtain ⟨ao, c, hv, hc1, hc2⟩ := own_len' ho
  have hex : ∃ g, v' = .slice (some ⟨g, 0, none⟩) n c := by
    rcases ho.2 with ⟨e, e2⟩ | ⟨g, c', cur, e, _⟩
    · omega
    · rw [hv] at e; cases e; exact ⟨g, hv⟩
  obtain ⟨g, hv'⟩ := hex
  have hb1 : Below w.heap.size w w1 := hb0.grown hg hb0.size (fun k e => by cases e; exact Nat.le_refl _)
  go_wp2
  go_ret
  rw [hv'] at ho ⊢
  exact ⟨g, c, rfl, ho, hb1⟩
end Go.Proofs.Ytjaidhglemnakaa
