/- The walks of Set, Clear, Left, Tick. -/
import Derived.Test.YtboinccdnaddmaaGreatDoorCkDrop
set_option linter.unusedSimpArgs false
set_option linter.unusedVariables false
set_option maxRecDepth 1000000
namespace Go.Proofs.YtboinccdnaddmaaGreatDoor
open Go.RowKit Go.Maps

section
variable {S0 : Nat → Prop} {w0 w w' : World} {L : List Part} {C now n : Nat} {f : Nat → Option Nat}
/-- Nobody is set for a tick that is too far. -/
def Near (f : Nat → Option Nat) : Prop := ∀ j t, f j = some t → j < 4294967296 ∧ t ≤ 4000000000
theorem Near.set (h : Near f) {id t : Nat} (h1 : id < 4294967296) (h2 : t ≤ 4000000000) : Near (updF f id (some t)) := fun j u hj => by
  by_cases e : j = id
  · subst e; rw [updF_same] at hj; cases hj; exact ⟨h1, h2⟩
  · rw [updF_other _ _ e] at hj; exact h j u hj
theorem Near.clear (h : Near f) (id : Nat) : Near (updF f id none) := fun j u hj => by
  by_cases e : j = id
  · subst e; rw [updF_same] at hj; cases hj
  · rw [updF_other _ _ e] at hj; exact h j u hj
theorem Near.told (h : Near f) (k : Nat) : Near (fun j => if f j = some k then none else f j) := fun j u hj => by
  dsimp only at hj
  split at hj
  · cases hj
  · exact h j u hj
theorem near_none : Near noneD := fun j t h => by cases h
set_option maxHeartbeats 1000000 in
set_option maxRecDepth 1000000 in
theorem Set_ok (id t : Nat) (hid : id < 4294967296) (h1 : 1 ≤ t) (h2 : t ≤ 1073741824) (hnow : now < 1000000000) (hn : n < 1000000000) (hN : Near f) (h : St S0 w0 w (clkP C now f n :: L)) :
    Calls Tryz.prog 5 #[ptr C, .int .u32 (id : Int), .int .i64 (t : Int)] w fun e w' => e = .returned (.int .i64 0) ∧ St S0 w0 w' (clkP C now (updF f id (some (now + t))) (n + 1) :: L) := by
  have kd := drop_ok id hid (fun j t hj => by have := (hN j t hj).2; omega) h
  obtain ⟨D, ho, s1⟩ := clk_open h
  have kt := there_ok w C D s1.blk.1
  clear h s1 ho
  go_enter Tryz.func5, Tryz.ntmps5
  go_wp2_with fail
  refine kt.mono ?_
  rintro e w1 ⟨rfl, ew⟩
  rw [← ew]
  clear ew w1 kt
  go_wp2_with fail
  refine kd.mono ?_
  rintro e w2 ⟨rfl, s2⟩
  obtain ⟨D2, ho2, s3⟩ := clk_open s2
  obtain ⟨c0, c1, c2, c3⟩ := s3.clk
  have ki := in_ok w2 D2.nb now t (by omega) h2 (s3.pick 1 rfl).blk.1
  have kp := put_ok id (now + t) hid (updF_same f id none) (by omega) (by omega) hn s2
  rw [updF_updF] at kp
  rw [show ((now + t : Nat) : Int) = (now : Int) + (t : Int) by omega] at kp
  have HP : Hid (Calls Tryz.prog 19 #[ptr C, .int .u32 (id : Int), .int .u64 ((now : Int) + (t : Int))] w2 fun e w' => e = .returned (.tuple #[]) ∧ St S0 w0 w' (clkP C now (updF f id (some (now + t))) (n + 1) :: L)) := kp
  unfold inV at c1
  clear s2 s3 ho2 kd kp
  go_wp2_with fail
  refine ki.mono ?_
  rintro e w3 ⟨rfl, ew⟩
  rw [← ew]
  clear ew w3 ki
  go_wp2_with fail
  refine HP.out.mono ?_
  rintro e w4 ⟨rfl, s4⟩
  go_wp2
  go_ret
  exact ⟨rfl, s4⟩
theorem Set_bad (id : Int) (t : Int) (ht : t < 1 ∨ 1073741824 < t) (h : St S0 w0 w (clkP C now f n :: L)) :
    Calls Tryz.prog 5 #[ptr C, .int .u32 id, .int .i64 t] w fun e w' => e = .returned (.int .i64 1) ∧ w = w' := by
  obtain ⟨D, ho, s1⟩ := clk_open h
  have kt := there_ok w C D s1.blk.1
  clear h s1 ho
  by_cases h1 : t < 1
  · clear ht
    go_enter Tryz.func5, Tryz.ntmps5
    go_wp2_with fail
    refine kt.mono ?_
    rintro e w1 ⟨rfl, rfl⟩
    go_wp2
    go_ret
    exact ⟨rfl, rfl⟩
  · have h2 : 1073741824 < t := by omega
    clear ht
    go_enter Tryz.func5, Tryz.ntmps5
    go_wp2_with fail
    refine kt.mono ?_
    rintro e w1 ⟨rfl, rfl⟩
    go_wp2
    go_ret
    exact ⟨rfl, rfl⟩
set_option maxHeartbeats 1000000 in
set_option maxRecDepth 1000000 in
theorem Clear_ok (id : Nat) (hid : id < 4294967296) (hN : Near f) (h : St S0 w0 w (clkP C now f n :: L)) :
    Calls Tryz.prog 7 #[ptr C, .int .u32 (id : Int)] w fun e w' => e = .returned (.int .i64 (if (f id).isSome then 0 else 6)) ∧ St S0 w0 w' (clkP C now (updF f id none) n :: L) := by
  have kd := drop_ok id hid (fun j t hj => by have := (hN j t hj).2; omega) h
  obtain ⟨D, ho, s1⟩ := clk_open h
  have kt := there_ok w C D s1.blk.1
  clear h s1 ho
  cases hf : (f id).isSome with
  | true =>
    rw [hf] at kd
    go_enter Tryz.func7, Tryz.ntmps7
    go_wp2_with fail
    refine kt.mono ?_
    rintro e w1 ⟨rfl, ew⟩
    rw [← ew]
    clear ew w1 kt
    go_wp2_with fail
    refine kd.mono ?_
    rintro e w2 ⟨rfl, s2⟩
    go_wp2
    go_ret
    exact ⟨rfl, s2⟩
  | false =>
    rw [hf] at kd
    go_enter Tryz.func7, Tryz.ntmps7
    go_wp2_with fail
    refine kt.mono ?_
    rintro e w1 ⟨rfl, ew⟩
    rw [← ew]
    clear ew w1 kt
    go_wp2_with fail
    refine kd.mono ?_
    rintro e w2 ⟨rfl, s2⟩
    go_wp2
    go_ret
    exact ⟨rfl, s2⟩
set_option maxHeartbeats 1000000 in
set_option maxRecDepth 1000000 in
theorem Left_none (id : Nat) (hid : id < 4294967296) (hf : f id = none) (h : St S0 w0 w (clkP C now f n :: L)) :
    Calls Tryz.prog 13 #[ptr C, .int .u32 (id : Int)] w fun e w' => e = .returned (.tuple #[.int .i64 0, .bool false]) ∧ w = w' := by
  obtain ⟨D, ho, s1⟩ := clk_open h
  have kt := there_ok w C D s1.blk.1
  obtain ⟨c0, c1, c2, c3⟩ := s1.clk
  have q1 := when_look (s1.pick 3 rfl) id hid
  rw [hf] at q1
  clear h s1 ho hf
  go_enter Tryz.func13, Tryz.ntmps13
  go_wp2_with fail
  refine kt.mono ?_
  rintro e w1 ⟨rfl, rfl⟩
  go_wp2
  go_ret2
  exact ⟨rfl, rfl⟩
set_option maxHeartbeats 1000000 in
set_option maxRecDepth 1000000 in
theorem Left_some (id t : Nat) (hid : id < 4294967296) (hf : f id = some t) (hnow : now < 1000000000) (ht : t ≤ 4000000000) (h : St S0 w0 w (clkP C now f n :: L)) :
    Calls Tryz.prog 13 #[ptr C, .int .u32 (id : Int)] w fun e w' => e = .returned (.tuple #[.int .i64 ((t : Int) - (now : Int)), .bool true]) ∧ w = w' := by
  obtain ⟨D, ho, s1⟩ := clk_open h
  have kt := there_ok w C D s1.blk.1
  obtain ⟨c0, c1, c2, c3⟩ := s1.clk
  have q1 := when_look (s1.pick 3 rfl) id hid
  rw [hf] at q1
  simp only [Option.getD_some, Option.isSome_some] at q1
  have ki := in_ok w D.nb now 0 (by omega) (by omega) (s1.pick 1 rfl).blk.1
  have hlt := ho.late id t hf
  unfold inV at c1
  rw [show ((0 : Nat) : Int) = 0 from rfl, Int.add_zero] at ki
  clear h s1 ho hf
  go_enter Tryz.func13, Tryz.ntmps13
  go_wp2_with fail
  refine kt.mono ?_
  rintro e w1 ⟨rfl, ew⟩
  rw [← ew]
  clear ew w1 kt
  go_wp2_with fail
  refine ki.mono ?_
  rintro e w1 ⟨rfl, rfl⟩
  go_wp2
  go_ret2
  exact ⟨rfl, rfl⟩
end
end Go.Proofs.YtboinccdnaddmaaGreatDoor
