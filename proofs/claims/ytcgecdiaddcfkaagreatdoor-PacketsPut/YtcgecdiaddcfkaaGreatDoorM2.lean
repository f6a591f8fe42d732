/- Texts of this proof, laid into one. -/
import Derived.Test.YtcgecdiaddcfkaaGreatDoorMayM
import Derived.Deep.LoopGhost
/- The walk of keys.Check: which texts are keys. -/
set_option linter.unusedSimpArgs false
set_option linter.unusedVariables false
namespace Go.Proofs.YtcgecdiaddcfkaaGreatDoor
open Go.RowKit

theorem iterPos_of {w : World} {k : Nat} {s : ByteArray} {p : Nat} (h : w.heap[k]? = some (.stringIter s p)) : w.iterPos k = p := by simp [World.iterPos, h]

set_option maxHeartbeats 1000000 in
set_option maxRecDepth 1000000 in
theorem check_any (s : ByteArray) (w : World) (hs : s.size ≤ maxLen) :
    Calls Tryz.prog 158 #[.string s] w fun e w' => e = .returned (.bool (chk s)) ∧ Below w.heap.size w w' := by
  unfold maxLen at hs
  by_cases h1 : s.size < 1
  · have H := chk_long s (.inl h1)
    rw [H]; clear H
    go_enter Tryz.func158, Tryz.ntmps158
    go_wp2
    go_ret
    exact ⟨rfl, Below.refl _ _⟩
  · by_cases h2 : 16 < s.size
    · have H := chk_long s (.inr h2)
      rw [H]; clear H
      go_enter Tryz.func158, Tryz.ntmps158
      go_wp2
      go_ret
      exact ⟨rfl, Below.refl _ _⟩
    · have k9 := mayStand_any w
      go_enter Tryz.func158, Tryz.ntmps158
      go_wp2_with fail
      refine k9.mono ?_
      rintro e w1 ⟨rfl, hm1, hb1, hz1⟩
      clear k9
      go_wp2
      go_loopw [5] (fun _ wr => ∃ pos : Nat, wr.heap[w.heap.size + 6]? = some (.stringIter s pos) ∧ MayAt wr w.heap.size ∧ Below w.heap.size w wr ∧ Hid (∀ i (h : i < s.size), i < pos → mayB (s[i]'h).toNat = true)) (fun _ wr => s.size - wr.iterPos (w.heap.size + 6))
      case atStart =>
        refine ⟨0, ?_, ?_, ?_, fun i _ hi => absurd hi (Nat.not_lt_zero _)⟩
        · have := World.iter_heap w1 s 0; rw [hz1] at this; exact this
        · exact hm1.of_block (fun k _ hk => Below.heap_alloc _ _ _ (by omega))
        · exact hb1.alloc (by omega) _
      case round =>
        clear hm1 hb1 hz1
        obtain ⟨pos, hit, hm, hb, hall⟩ := hrel
        have hpos0 := iterPos_of hit
        by_cases hp : pos < s.size
        · have hnx : ∀ ty, (Instr.next (.pointer (some ⟨w.heap.size + 6, 0, none⟩)) true ty).run Tryz.prog wr = _ := fun ty => Lib.run_next_any_at wr (w.heap.size + 6) s pos ty hit hp
          have hit2 := Lib.iterAt_heap wr (w.heap.size + 6) s pos (pos + (Utf8.decode s pos).2) hit
          have hb2 := Lib.below_iterAt hb (k := w.heap.size + 6) (by omega) s (pos + (Utf8.decode s pos).2)
          have hm2 : MayAt (wr.iterAt (w.heap.size + 6) s (pos + (Utf8.decode s pos).2)) w.heap.size := hm.of_block (fun k _ hk => Lib.iterAt_other _ _ _ _ _ (by omega))
          obtain ⟨W1, hW1⟩ : ∃ W1, W1 = wr.iterAt (w.heap.size + 6) s (pos + (Utf8.decode s pos).2) := ⟨_, rfl⟩
          rw [← hW1] at hnx hit2 hb2 hm2
          clear hW1 hit hm hb
          have k11 := may_any W1 w.heap.size ((Utf8.decode s pos).1 : Int) hm2
          rw [mayI_nat, may_decode s pos hp] at k11
          have hpos2 := iterPos_of hit2
          by_cases hc : mayB (s[pos]'hp).toNat = true
          · have hwd := width_ascii s pos hp hc
            rw [hc] at k11
            rw [hwd] at hit2 hpos2
            go_wp2_with fail
            refine k11.mono ?_
            rintro e w' ⟨rfl, rfl⟩
            go_wp2
            go_roundw
            case rel =>
              refine ⟨pos + 1, hit2, hm2, hb2, fun i h hi => ?_⟩
              by_cases e : i = pos
              · subst e; exact hc
              · exact hall.out i h (by omega)
            case measure => rw [hpos2, hpos0]; omega
          · rw [Bool.not_eq_true] at hc
            have H := chk_bad s pos hp hc
            rw [hc] at k11
            go_wp2_with fail
            refine k11.mono ?_
            rintro e w' ⟨rfl, rfl⟩
            go_wp2
            go_ret
            exact ⟨by rw [H]; rfl, hb2⟩
        · have hnx : ∀ ty, (Instr.next (.pointer (some ⟨w.heap.size + 6, 0, none⟩)) true ty).run Tryz.prog wr = _ := fun ty => Lib.run_next_end_at wr (w.heap.size + 6) s pos ty hit hp
          have H : chk s = true := (chk_iff s).mpr ⟨by omega, fun i h => hall.out i h (by omega)⟩
          go_wp2
          go_ret
          exact ⟨by rw [H]; rfl, hb⟩

end Go.Proofs.YtcgecdiaddcfkaaGreatDoor
/- The walks of the document's own Check and Reserved, and of Beyond. -/
set_option linter.unusedSimpArgs false
set_option linter.unusedVariables false
namespace Go.Proofs.YtcgecdiaddcfkaaGreatDoor
open Go.RowKit

theorem mayB_no {c : Nat} (h : mayB c = false) : c < 48 ∨ (57 < c ∧ c < 95) ∨ c = 96 ∨ 122 < c := by
  rw [Bool.eq_false_iff, Ne, mayB_iff] at h; omega

set_option maxHeartbeats 1000000 in
set_option maxRecDepth 1000000 in
theorem refCheck_any (s : ByteArray) (w : World) (hs : s.size ≤ maxLen) :
    Calls Tryz.prog 105 #[.string s] w fun e w' => e = .returned (.bool (chk s)) ∧ w' = w := by
  unfold maxLen at hs
  go_enter Tryz.func105, Tryz.ntmps105
  go_wp2
  go_loop [3, 4] (fun i _ => ∃ k : Nat, k ≤ s.size ∧ i = .int .i64 k ∧ Hid (∀ j (h : j < s.size), j < k → mayB (s[j]'h).toNat = true)) (fun i _ => s.size - (intOf i).toNat)
  case atStart => exact ⟨0, Nat.zero_le _, rfl, fun i _ hi => absurd hi (Nat.not_lt_zero _)⟩
  case round =>
    obtain ⟨k, hk, rfl, hall⟩ := hrel
    by_cases hlt : k < s.size
    · by_cases hc : mayB (s[k]'hlt).toNat = true
      · have hall2 : Hid (∀ j (h : j < s.size), j < k + 1 → mayB (s[j]'h).toNat = true) := fun j h hj => by
          by_cases e : j = k
          · subst e; exact hc
          · exact hall.out j h (by omega)
        have hcc := (mayB_iff _).mp hc
        clear hall hc
        rcases hcc with ⟨a, b⟩ | ⟨a, b⟩ | a
        all_goals
          go_wp2
          go_round
          case rel => exact ⟨k + 1, by omega, by go_num, hall2⟩
          case measure => simp [intOf]; omega
      · rw [Bool.not_eq_true] at hc
        have H := chk_bad s k hlt hc
        have hcc := mayB_no hc
        have hne : (((s[k]'hlt).toNat : Int) != 95) = true := by simp; omega
        clear hall hc
        rcases hcc with a | ⟨a, b⟩ | a | a
        all_goals
          go_wp2
          go_ret
          exact ⟨rfl, rfl⟩
    · have H : Hid (chk s = (decide (1 ≤ s.size) && decide (s.size ≤ 16))) := by
        show _ = _
        unfold chk
        rw [(all_iff s).mpr (fun i h => hall.out i h (by omega)), Bool.and_true]
      clear hall
      by_cases h1 : 1 ≤ s.size
      · by_cases h2 : s.size ≤ 16
        · go_wp2
          go_ret
          exact ⟨by rw [H.out]; simp [h1, h2]; try omega, rfl⟩
        · go_wp2
          go_ret
          exact ⟨by rw [H.out]; simp [h1, h2]; try omega, rfl⟩
      · go_wp2
        go_ret
        exact ⟨by rw [H.out]; simp [h1]; try omega, rfl⟩
end Go.Proofs.YtcgecdiaddcfkaaGreatDoor
