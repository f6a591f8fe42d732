/- The walk of FramesGet. -/
import Derived.Test.YtogmoemeppnieaaGreatDoorBKp
import Derived.Test.YtogmoemeppnieaaGreatDoorFRefGet
import Derived.Test.YtogmoemeppnieaaGreatDoorFGet
import Derived.Test.YtogmoemeppnieaaGreatDoorGTwByte
import Derived.Test.YtogmoemeppnieaaGreatDoorGSame
set_option linter.unusedSimpArgs false
set_option linter.unusedVariables false
namespace Go.Proofs.YtogmoemeppnieaaGreatDoor
open Go.RowKit

theorem twin_inF {w : World} {base cap : Nat} {g : Nat} {l : List UInt8} (h : w.ownsRow base 5 1 (.slice (some ⟨g, 0, none⟩) (l.length + 1) cap) (l.length + 1) (l.flatMap bCell ++ spareByte)) : InAt w w.heap.size (.slice (some ⟨g, 0, none⟩) l.length cap) l := by
  obtain ⟨h1, -, h3, h4⟩ := cell_twByte h
  refine ⟨_, _, rfl, by omega, h4, fun hp => ⟨g, 0, rfl, ?_, fun i hi j u hu => by rw [Nat.zero_add]; exact h1 i hi j u hu⟩⟩
  exact World.block_lt_of_cell? w _ (h1 0 hp 0 _ rfl)
theorem own_len9 {w : World} {base n : Nat} {al : Option Addr} {cl : Nat} {bs : List UInt8} (h : BsAt w base (.slice al n cl) bs) : w.ownsRow base 5 1 (.slice al n cl) n (bcells bs) := by
  obtain ⟨ao, cap, e, -, -⟩ := own_len' h
  simp only [Value.slice.injEq] at e
  obtain ⟨-, rfl, -⟩ := e
  exact h
set_option maxHeartbeats 8000000 in
set_option maxRecDepth 1000000 in
theorem fget_walk (w : World) (v : Value) (l : List UInt8) (hl : InAt w w.heap.size v l) :
    Calls Tryz.prog 3 #[v] w fun e w' => e = .returned (.bool true) ∧ Below w.heap.size w w' := by
  have hl0 := hl
  obtain ⟨ao, cap, rfl, hlc, hcm, -⟩ := hl
  unfold maxLen at hcm
  by_cases hlong : 30000 < l.length
  · have i1 : (30000 : Int) < (l.length : Int) := by omega
    clear hl0
    go_enter Tryz.func3, Tryz.ntmps3
    go_wp2
    go_ret
    exact ⟨rfl, Below.refl _ _⟩
  have i1 : ¬ (30000 : Int) < (l.length : Int) := by omega
  have kT := twinByte_any w _ l hl0 (by omega)
  cases hc : getF l with
  | some r =>
    obtain ⟨S, hS⟩ : ∃ S, S = ((secs r.length : Nat) : Int) := ⟨_, rfl⟩
    have hrl := (getF_some hc).1
    have kP : ∀ W v, InAt W W.heap.size v l → Calls Tryz.prog 5 #[v] W fun e w' => ∃ g, e = .returned (.tuple #[.slice (some ⟨g, 0, none⟩) r.length r.length, .int .i64 S, .int .i64 0]) ∧ BsAt w' W.heap.size (.slice (some ⟨g, 0, none⟩) r.length r.length) r ∧ W.heap.size ≤ g ∧ Below W.heap.size W w' := fun W v hv => by rw [hS]; exact get_some W v l r hv hc
    have kR : ∀ W v, InAt W W.heap.size v l → Calls Tryz.prog 6 #[v] W fun e w' => ∃ u, e = .returned (.tuple #[u, .int .i64 S, .int .i64 0]) ∧ BsAt w' W.heap.size u r ∧ Below W.heap.size W w' := fun W v hv => by rw [hS]; exact refGet_some W v l r hv hc
    clear hS hc
    go_enter Tryz.func3, Tryz.ntmps3
    go_wp2_with fail
    refine kT.mono ?_
    rintro e w1 ⟨rfl, o1, b1⟩
    have z1 := (o1.lt _ rfl).2
    clear kT
    have kp := kP w1 _ (twin_inF o1)
    go_wp2_with fail
    refine kp.mono ?_
    rintro e w2 ⟨ga, rfl, O2, hga, b2⟩
    have o2 := own_below o1 b2
    have za := (O2.lt _ rfl).2
    have B2 := b1.trans (b2.mono b1.size)
    clear kp
    have kp := kP w2 _ (twin_inF o2)
    go_wp2_with fail
    refine kp.mono ?_
    rintro e w3 ⟨gc, rfl, O3, hgc, b3⟩
    have o3 := own_below o2 b3
    have B3 := B2.trans (b3.mono B2.size)
    have O23 := O2.below b3
    clear kp kP o1 o2 O2
    have kr := kR w3 _ ((hl0.below B3 (Nat.le_refl _)).mono B3.size)
    go_wp2_with fail
    refine kr.mono ?_
    rintro e w4 ⟨u, rfl, O4, b4⟩
    have o5 := own_below o3 b4
    have B5 := B3.trans (b4.mono B3.size)
    have A5 := O23.below b4
    have C5 := O3.below b4
    have y1 := b2.size
    have y2 := b3.size
    clear kr kR o3 O23 O3 B3 B2 b2 b3
    have kS1 := sameBytes_any w4 _ _ _ _ r A5.in O4.in
    have kS2 : ∀ m, Calls Tryz.prog 7 #[.slice (some ⟨gc, 0, none⟩) r.length r.length, u] (w4.drewN m) fun e w' => e = .returned (.bool true) ∧ ∃ n, w' = (w4.drewN m).drewN n := fun m => sameBytes_any (w4.drewN m) _ _ _ _ r (C5.below (below_drewN w4 m)).in (O4.below (below_drewN w4 m)).in
    have kL : ∀ W, Below w4.heap.size w4 W → Calls Tryz.prog 8 #[.slice (some ⟨w.heap.size, 0, none⟩) l.length (l.length + 1), .slice ao l.length cap] W fun e w' => e = .returned (.bool true) ∧ Below W.heap.size W w' := fun W hW => leftByte_any W _ _ _ _ _ l (own_below o5 hW) (hl0.below (B5.trans (hW.mono B5.size)) (Nat.le_refl _))
    have q1 := b1.size
    have kE : ∀ W, Below w4.heap.size w4 W → KpI w (W.alloc (.cells #[.int .i64 0, .slice none 0 0, .slice none 0 0, .slice none 0 0, .slice none 0 0, .slice none 0 0, .slice none 0 0, .slice none 0 0, .slice none 0 0, .slice none 0 0, .slice none 0 0, .slice none 0 0, .slice none 0 0] 41)) W.heap.size 0 [.slice (some ⟨w.heap.size, 0, none⟩) l.length (l.length + 1), .slice (some ⟨ga, 0, none⟩) r.length r.length, .slice (some ⟨gc, 0, none⟩) r.length r.length] := fun W hW => by
      refine kp_new (B5.trans (hW.mono B5.size)) (fun p hp => ?_) ?_
      · simp only [List.mem_cons, List.not_mem_nil, or_false] at hp
        rcases hp with rfl | rfl | rfl
        · exact ⟨_, _, _, _, rfl, by omega, twin_own (fun _ => rfl) (own_below o5 hW)⟩
        · exact ⟨_, _, _, _, rfl, by omega, own_from (own_len9 (A5.below hW)) (by omega)⟩
        · exact ⟨_, _, _, _, rfl, by omega, own_from (own_len9 (C5.below hW)) (by omega)⟩
      · simp only [List.pairwise_cons, List.mem_cons, List.not_mem_nil, or_false, Value.ownBlock, Option.map]
        simp
        omega
    have bK := B5
    have z5 := B5.size
    clear o5 hl0 A5 C5 O4
    go_wp2_with fail
    refine kS1.mono ?_
    rintro e w5 ⟨rfl, m5, e5⟩
    rw [e5]
    clear e5 w5 kS1
    go_wp2_with fail
    refine (kS2 m5).mono ?_
    rintro e w5 ⟨rfl, m6, e5⟩
    have b56 : Below w4.heap.size w4 w5 := by rw [e5]; exact (below_drewN w4 m5).trans ((below_drewN _ m6).mono (Nat.le_refl _))
    have kl := kL w5 b56
    clear e5 kS2 kL
    go_wp2_with fail
    refine kl.mono ?_
    rintro e w6 ⟨rfl, b6⟩
    have ke := kE w6 (b56.trans (b6.mono b56.size))
    clear kl kE b6 b56
    go_wp2_with fail
    generalize w6.alloc (.cells #[.int .i64 0, .slice none 0 0, .slice none 0 0, .slice none 0 0, .slice none 0 0, .slice none 0 0, .slice none 0 0, .slice none 0 0, .slice none 0 0, .slice none 0 0, .slice none 0 0, .slice none 0 0, .slice none 0 0] 41) = w7 at ke ⊢
    generalize w6.heap.size = bk at ke ⊢
    refine (kp_keep ke (by omega)).mono ?_
    rintro e w8 ⟨rfl, ke8⟩
    clear ke
    go_wp2_with fail
    refine (kp_keep ke8 (by omega)).mono ?_
    rintro e w9 ⟨rfl, ke9⟩
    clear ke8
    go_wp2_with fail
    refine (kp_keep ke9 (by omega)).mono ?_
    rintro e w10 ⟨rfl, ke10⟩
    clear ke9
    go_wp2_with fail
    refine (kp_apart ke10).mono ?_
    rintro e w11 ⟨rfl, bF⟩
    go_wp2
    go_ret
    exact ⟨rfl, bF⟩
  | none =>
    have kP : ∀ W v, InAt W W.heap.size v l → Calls Tryz.prog 5 #[v] W fun e w' => e = .returned (.tuple #[.slice none 0 0, .int .i64 0, .int .i64 4]) ∧ Below W.heap.size W w' := fun W v hv => get_none W v l hv hc
    have kR : ∀ W v, InAt W W.heap.size v l → Calls Tryz.prog 6 #[v] W fun e w' => e = .returned (.tuple #[.slice none 0 0, .int .i64 0, .int .i64 4]) ∧ Below W.heap.size W w' := fun W v hv => refGet_none W v l hv hc
    clear hc
    go_enter Tryz.func3, Tryz.ntmps3
    go_wp2_with fail
    refine kT.mono ?_
    rintro e w1 ⟨rfl, o1, b1⟩
    have z1 := (o1.lt _ rfl).2
    clear kT
    have kp := kP w1 _ (twin_inF o1)
    go_wp2_with fail
    refine kp.mono ?_
    rintro e w2 ⟨rfl, b2⟩
    have o2 := own_below o1 b2
    have B2 := b1.trans (b2.mono b1.size)
    clear kp
    have kp := kP w2 _ (twin_inF o2)
    go_wp2_with fail
    refine kp.mono ?_
    rintro e w3 ⟨rfl, b3⟩
    have o3 := own_below o2 b3
    have B3 := B2.trans (b3.mono B2.size)
    clear kp kP o1 o2
    have kr := kR w3 _ ((hl0.below B3 (Nat.le_refl _)).mono B3.size)
    go_wp2_with fail
    refine kr.mono ?_
    rintro e w4 ⟨rfl, b4⟩
    have o5 := own_below o3 b4
    have B5 := B3.trans (b4.mono B3.size)
    clear kr kR o3 B3 B2 b2 b3 b4
    have kS1 := sameBytes_any w4 _ _ _ _ [] (InAt_nil w4 0) (InAt_nil w4 0)
    have kS2 : ∀ m, Calls Tryz.prog 7 #[.slice none 0 0, .slice none 0 0] (w4.drewN m) fun e w' => e = .returned (.bool true) ∧ ∃ n, w' = (w4.drewN m).drewN n := fun m => sameBytes_any (w4.drewN m) _ _ _ _ [] (InAt_nil _ 0) (InAt_nil _ 0)
    have kL : ∀ W, Below w4.heap.size w4 W → Calls Tryz.prog 8 #[.slice (some ⟨w.heap.size, 0, none⟩) l.length (l.length + 1), .slice ao l.length cap] W fun e w' => e = .returned (.bool true) ∧ Below W.heap.size W w' := fun W hW => leftByte_any W _ _ _ _ _ l (own_below o5 hW) (hl0.below (B5.trans (hW.mono B5.size)) (Nat.le_refl _))
    have q1 := b1.size
    have kE : ∀ W, Below w4.heap.size w4 W → KpI w (W.alloc (.cells #[.int .i64 0, .slice none 0 0, .slice none 0 0, .slice none 0 0, .slice none 0 0, .slice none 0 0, .slice none 0 0, .slice none 0 0, .slice none 0 0, .slice none 0 0, .slice none 0 0, .slice none 0 0, .slice none 0 0] 41)) W.heap.size 0 [.slice (some ⟨w.heap.size, 0, none⟩) l.length (l.length + 1), .slice none 0 0, .slice none 0 0] := fun W hW => by
      refine kp_new (B5.trans (hW.mono B5.size)) (fun p hp => ?_) ?_
      · simp only [List.mem_cons, List.not_mem_nil, or_false] at hp
        rcases hp with rfl | rfl | rfl
        · exact ⟨_, _, _, _, rfl, by omega, twin_own (fun _ => rfl) (own_below o5 hW)⟩
        · exact ⟨_, _, _, _, rfl, by omega, World.ownsRow_nil _ _ _ _⟩
        · exact ⟨_, _, _, _, rfl, by omega, World.ownsRow_nil _ _ _ _⟩
      · simp only [List.pairwise_cons, List.mem_cons, List.not_mem_nil, or_false, Value.ownBlock, Option.map]
        simp
    have bK := B5
    have z5 := B5.size
    clear o5 hl0 
    go_wp2_with fail
    refine kS1.mono ?_
    rintro e w5 ⟨rfl, m5, e5⟩
    rw [e5]
    clear e5 w5 kS1
    go_wp2_with fail
    refine (kS2 m5).mono ?_
    rintro e w5 ⟨rfl, m6, e5⟩
    have b56 : Below w4.heap.size w4 w5 := by rw [e5]; exact (below_drewN w4 m5).trans ((below_drewN _ m6).mono (Nat.le_refl _))
    have kl := kL w5 b56
    clear e5 kS2 kL
    go_wp2_with fail
    refine kl.mono ?_
    rintro e w6 ⟨rfl, b6⟩
    have ke := kE w6 (b56.trans (b6.mono b56.size))
    clear kl kE b6 b56
    go_wp2_with fail
    generalize w6.alloc (.cells #[.int .i64 0, .slice none 0 0, .slice none 0 0, .slice none 0 0, .slice none 0 0, .slice none 0 0, .slice none 0 0, .slice none 0 0, .slice none 0 0, .slice none 0 0, .slice none 0 0, .slice none 0 0, .slice none 0 0] 41) = w7 at ke ⊢
    generalize w6.heap.size = bk at ke ⊢
    refine (kp_keep ke (by omega)).mono ?_
    rintro e w8 ⟨rfl, ke8⟩
    clear ke
    go_wp2_with fail
    refine (kp_keep ke8 (by omega)).mono ?_
    rintro e w9 ⟨rfl, ke9⟩
    clear ke8
    go_wp2_with fail
    refine (kp_keep ke9 (by omega)).mono ?_
    rintro e w10 ⟨rfl, ke10⟩
    clear ke9
    go_wp2_with fail
    refine (kp_apart ke10).mono ?_
    rintro e w11 ⟨rfl, bF⟩
    go_wp2
    go_ret
    exact ⟨rfl, bF⟩
end Go.Proofs.YtogmoemeppnieaaGreatDoor
