/- The walks of a bag's calls: Take, Copy. -/
import Derived.Test.YtpmmdbdooclcoabBaBag
set_option linter.unusedSimpArgs false
set_option linter.unusedVariables false
namespace Go.Proofs.Ytpmmdbdooclcoab
open Go.RowKit

theorem map_erase {α β : Type} (f : α → β) : ∀ (l : List α) (i : Nat), (l.map f).eraseIdx i = (l.eraseIdx i).map f := by
  intro l
  induction l with
  | nil => intro i; rfl
  | cons x l ih => intro i; cases i with
    | zero => rfl
    | succ i => simp [ih]
theorem all_pick {S0 : Nat → Prop} {w0 w : World} {L : List Part} {ms : List MsgO} {i : Nat} {x : MsgO} (h : St S0 w0 w (Part.all (ms.map MsgO.part) :: L)) (hx : ms[i]? = some x) : St S0 w0 w (Part.all ((ms.eraseIdx i).map MsgO.part) :: x.part :: L) := by
  have h1 := h.open_all
  have h2 := h1.perm (((pick_perm i (P := x.part) (by rw [List.getElem?_map, hx]; rfl)).append_right L))
  rw [map_erase] at h2
  have h3 : St S0 w0 w ((ms.eraseIdx i).map MsgO.part ++ (x.part :: L)) := h2.perm List.perm_middle.symm
  exact h3.shut_all
set_option maxHeartbeats 2000000 in
set_option maxRecDepth 1000000 in
theorem Take_ok {S0 : Nat → Prop} {w0 w : World} {L : List Part} (B most : Nat) (ms : List MsgO) (i : Nat) (x : MsgO) (hx : ms[i]? = some x) (h : St S0 w0 w (bagP B most ms :: L)) (h0 : 0 < most) (hn : most ≤ 256) (hl : ms.length ≤ most) :
    Calls Try.prog 9 #[ptr B, .int .i64 (i : Int)] w fun e w' => e = .returned (.tuple #[x.v, .int .i64 0]) ∧ St S0 w0 w' (bagP B most (ms.eraseIdx i) :: x.part :: L) := by
  obtain ⟨v, h1⟩ := bag_open h
  have hi : i < ms.length := (List.getElem?_eq_some_iff.mp hx).1
  have hsl : ∀ x ∈ ms, x.slices := fun x hx => MsgO.slices_of (bag_mem h hx).2
  obtain ⟨⟨a1, n1, d1, e1⟩, a2, n2, d2, e2⟩ := hsl x (List.mem_of_getElem? hx)
  obtain ⟨⟨av, cv, rfl, -, -⟩, -⟩ := h1.form
  have b1 : Below w.heap.size w (w.alloc (.cells zM 27)) := below_one _ _
  have hB1 : (w.alloc (.cells zM 27)).heap[B]? = some (bagO most (.slice av ms.length cv)) := alloc_block (h1.pick 1 rfl).blk.1 _
  have st1 := h1.alloc (.cells zM 27)
  obtain ⟨W, hW⟩ : ∃ W, W = w.alloc (.cells zM 27) := ⟨_, rfl⟩
  rw [← hW] at b1 hB1 st1
  have k1 := there_ok W B most _ hB1 h0
  have k2 := some_ok W B (i : Int)
  have k3 : Hid (∀ w2, Below W.heap.size W w2 → Calls Try.prog 17 #[.slice (some ⟨w2.heap.size, 0, none⟩) 1 1] (w2.alloc (.cells #[.int .i64 (i : Int), .func (.func 29) #[ptr B] #[], .int .i64 1] 54)) fun e w' => e = .returned (.int .i64 0) ∧ Below W.heap.size W w') := fun w2 hb => by
    have hq : qSome (i : Int) ms.length = ⟨(i : Int), true, 1, true⟩ := by unfold qSome; rw [decide_eq_true (by omega)]
    refine (first_lit w2 B most ms.length cv av ((hb.block B (blk_lt hB1)).trans hB1) [qSome (i : Int) ms.length] 1 rfl (by omega) (fun q hq => .inr ⟨_, List.mem_singleton.mp hq⟩)).mono (fun e w' ⟨e1, e2⟩ => ⟨?_, hb.trans (e2.mono hb.size)⟩)
    rw [e1, hq]; rfl
  have k5 : Hid (∀ w3, Below W.heap.size W w3 → Calls Try.prog 22 #[ptr B, .int .i64 (i : Int)] w3 fun e w4 => e = .returned (.agg #[.int .u8 (x.d.say.toNat : Int), .int .u8 (x.d.src.toNat : Int), .int .u8 (x.d.dst.toNat : Int), .int .u32 (x.d.g.toNat : Int), .slice a1 n1 d1, .slice a2 n2 d2]) ∧
      St S0 w0 w4 (Part.blk w.heap.size (.cells zM 27 (0, 0)) :: bagP B most (ms.eraseIdx i) :: x.part :: L)) := fun w3 hb => by
    have st3 := (st1.up hb).rt (K := [_, _, _]) 3 [1, 2, 0] (by decide)
    refine (pull_ok B most i _ ms x hx hsl (by omega) st3).mono ?_
    rintro e w4 ⟨rfl, v', st4⟩
    have hv : x.v = .agg #[.int .u8 (x.d.say.toNat : Int), .int .u8 (x.d.src.toNat : Int), .int .u8 (x.d.dst.toNat : Int), .int .u32 (x.d.g.toNat : Int), .slice a1 n1 d1, .slice a2 n2 d2] := by show msgV _ _ _ = _; rw [e1, e2]; rfl
    refine ⟨congrArg _ hv, ?_⟩
    have s5 := all_pick ((st4.rt (K := [_, _, _, _]) 4 [3, 0, 1, 2] (by decide))) hx
    have s6 := (s5.rt (K := [_, _, _, _, _]) 5 [2, 3, 0, 1, 4] (by decide))
    exact (bag_shut (L := [_, _] ++ L) s6).rt (K := [_, _, _]) 3 [2, 0, 1] (by decide)
  have hv : x.v = .agg #[.int .u8 (x.d.say.toNat : Int), .int .u8 (x.d.src.toNat : Int), .int .u8 (x.d.dst.toNat : Int), .int .u32 (x.d.g.toNat : Int), .slice a1 n1 d1, .slice a2 n2 d2] := by show msgV _ _ _ = _; rw [e1, e2]; rfl
  rw [hv]
  unfold zM at hW
  clear h h1 hB1 st1 b1
  clear hx hsl e1 e2 hv
  subst hW
  go_enter Try.func9, Try.ntmps9
  go_wp2_with fail
  refine k1.mono ?_
  rintro e w1 ⟨rfl, ew⟩
  rw [← ew]
  clear ew w1 k1
  go_wp2_with fail
  refine k2.mono ?_
  rintro e w2 ⟨rfl, bk⟩
  have k4 := k3.out w2 bk
  clear k3 k2 bk
  unfold askV
  go_wp2_with fail
  refine k4.mono ?_
  rintro e w3 ⟨rfl, b3⟩
  clear k4
  have k6 := k5.out w3 b3
  clear k5 b3
  go_wp2_with fail
  refine k6.mono ?_
  rintro e w4 ⟨rfl, s4⟩
  obtain ⟨z0, z1, z2, z3, z4, z5⟩ := six_cells s4.blk.1
  have fz := fun i => box_frozen (i := i) s4.blk.1
  have s5 := St.set6 s4 (.int .u8 (x.d.say.toNat : Int)) (.int .u8 (x.d.src.toNat : Int)) (.int .u8 (x.d.dst.toNat : Int)) (.int .u32 (x.d.g.toNat : Int)) (.slice a1 n1 d1) (.slice a2 n2 d2)
  have t := six_cells s5.blk.1
  have S5 : Hid _ := s5
  clear k6 s4 s5
  go_wp2
  obtain ⟨t0, t1, t2, t3, t4, t5⟩ := t
  refine bodyPost_ret (v := .tuple #[.agg #[.int .u8 (x.d.say.toNat : Int), .int .u8 (x.d.src.toNat : Int), .int .u8 (x.d.dst.toNat : Int), .int .u32 (x.d.g.toNat : Int), .slice a1 n1 d1, .slice a2 n2 d2], .int .i64 0]) (by simp [results, Try.results9, go_sem, t0, t1, t2, t3, t4, t5]) rfl ⟨rfl, S5.out.drop⟩
set_option maxHeartbeats 2000000 in
set_option maxRecDepth 1000000 in
theorem Take_bad {S0 : Nat → Prop} {w0 w : World} {L : List Part} (B most : Nat) (ms : List MsgO) (at_ : Int) (hf : at_ < 0 ∨ (ms.length : Int) ≤ at_) (h : St S0 w0 w (bagP B most ms :: L)) (h0 : 0 < most) (hn : most ≤ 256) (hl : ms.length ≤ most) :
    Calls Try.prog 9 #[ptr B, .int .i64 at_] w fun e w' => e = .returned (.tuple #[.agg #[.int .u8 0, .int .u8 0, .int .u8 0, .int .u32 0, .slice none 0 0, .slice none 0 0], .int .i64 1]) ∧ Below w.heap.size w w' := by
  obtain ⟨v, h1⟩ := bag_open h
  obtain ⟨⟨av, cv, rfl, -, -⟩, -⟩ := h1.form
  have b1 : Below w.heap.size w (w.alloc (.cells zM 27)) := below_one _ _
  have hB1 : (w.alloc (.cells zM 27)).heap[B]? = some (bagO most (.slice av ms.length cv)) := alloc_block (h1.pick 1 rfl).blk.1 _
  have st1 := h1.alloc (.cells zM 27)
  obtain ⟨W, hW⟩ : ∃ W, W = w.alloc (.cells zM 27) := ⟨_, rfl⟩
  rw [← hW] at b1 hB1 st1
  have k1 := there_ok W B most _ hB1 h0
  have k2 := some_ok W B at_
  have k3 : Hid (∀ w2, Below W.heap.size W w2 → Calls Try.prog 17 #[.slice (some ⟨w2.heap.size, 0, none⟩) 1 1] (w2.alloc (.cells #[.int .i64 at_, .func (.func 29) #[ptr B] #[], .int .i64 1] 54)) fun e w' => e = .returned (.int .i64 1) ∧ Below W.heap.size W w') := fun w2 hb => by
    have hq : qSome at_ ms.length = ⟨at_, true, 1, false⟩ := by unfold qSome; rw [decide_eq_false (by omega)]
    refine (first_lit w2 B most ms.length cv av ((hb.block B (blk_lt hB1)).trans hB1) [qSome at_ ms.length] 1 rfl (by omega) (fun q hq => .inr ⟨_, List.mem_singleton.mp hq⟩)).mono (fun e w' ⟨e1, e2⟩ => ⟨?_, hb.trans (e2.mono hb.size)⟩)
    rw [e1, hq]; rfl
  have k5 : Hid (∀ w3, Below W.heap.size W w3 → St noB w w3 [Part.blk w.heap.size (.cells zM 27 (0, 0))]) := fun w3 hb => by
    have s := (St.nil w).alloc (.cells zM 27)
    rw [← hW] at s
    exact s.up hb
  unfold zM at hW
  clear h h1 hB1 st1 b1
  skip
  subst hW
  go_enter Try.func9, Try.ntmps9
  go_wp2_with fail
  refine k1.mono ?_
  rintro e w1 ⟨rfl, ew⟩
  rw [← ew]
  clear ew w1 k1
  go_wp2_with fail
  refine k2.mono ?_
  rintro e w2 ⟨rfl, bk⟩
  have k4 := k3.out w2 bk
  clear k3 k2 bk
  unfold askV
  go_wp2_with fail
  refine k4.mono ?_
  rintro e w3 ⟨rfl, b3⟩
  clear k4
  have s4 := k5.out w3 b3
  clear k5 b3
  obtain ⟨z0, z1, z2, z3, z4, z5⟩ := six_cells s4.blk.1
  have fz := fun i => box_frozen (i := i) s4.blk.1
  have s5 := St.set6 s4 (.int .u8 0) (.int .u8 0) (.int .u8 0) (.int .u32 0) (.slice none 0 0) (.slice none 0 0)
  have t := six_cells s5.blk.1
  have S5 : Hid _ := s5
  clear s4 s5
  go_wp2
  obtain ⟨t0, t1, t2, t3, t4, t5⟩ := t
  refine bodyPost_ret (v := .tuple #[.agg #[.int .u8 0, .int .u8 0, .int .u8 0, .int .u32 0, .slice none 0 0, .slice none 0 0], .int .i64 1]) (by simp [results, Try.results9, go_sem, t0, t1, t2, t3, t4, t5]) rfl ⟨rfl, S5.out.below⟩
set_option maxHeartbeats 2000000 in
set_option maxRecDepth 1000000 in
theorem Copy_bad {S0 : Nat → Prop} {w0 w : World} {L : List Part} (B most : Nat) (ms : List MsgO) (at_ : Int) (hf : at_ < 0 ∨ (ms.length : Int) ≤ at_) (h : St S0 w0 w (bagP B most ms :: L)) (h0 : 0 < most) (hn : most ≤ 256) (hl : ms.length ≤ most) :
    Calls Try.prog 10 #[ptr B, .int .i64 at_] w fun e w' => e = .returned (.int .i64 1) ∧ Below w.heap.size w w' := by
  obtain ⟨v, h1⟩ := bag_open h
  obtain ⟨⟨av, cv, rfl, hcv, hmv⟩, -⟩ := h1.form
  have hB1 : w.heap[B]? = some (bagO most (.slice av ms.length cv)) := (h1.pick 1 rfl).blk.1
  have k1 := there_ok w B most _ hB1 h0
  have k2 := some_ok w B at_
  have k2m : Hid (∀ w2, Below w.heap.size w w2 → Calls Try.prog 18 #[ptr B] w2 fun e w' => e = .returned (askV (ms.length : Int) 25 B 5) ∧ Below w2.heap.size w2 w') := fun w2 hb => more_ok w2 B most _ _ _ ((hb.block B (blk_lt hB1)).trans hB1)
  have k3 : Hid (∀ w2, Below w.heap.size w w2 → Calls Try.prog 17 #[.slice (some ⟨w2.heap.size, 0, none⟩) 2 2] (w2.alloc (.cells #[.int .i64 at_, .func (.func 29) #[ptr B] #[], .int .i64 1, .int .i64 (ms.length : Int), .func (.func 25) #[ptr B] #[], .int .i64 5] 54)) fun e w' => e = .returned (.int .i64 1) ∧ Below w.heap.size w w') := fun w2 hb => by
    have hq : qSome at_ ms.length = ⟨at_, true, 1, false⟩ := by unfold qSome; rw [decide_eq_false (by omega)]
    refine (first_lit w2 B most ms.length cv av ((hb.block B (blk_lt hB1)).trans hB1) [qSome at_ ms.length, qMore ms.length most] 2 rfl (by omega) (fun q hq => by
      rcases List.mem_cons.1 hq with rfl | hq
      · exact .inr ⟨_, rfl⟩
      · exact .inl (List.mem_singleton.mp hq))).mono (fun e w' ⟨e1, e2⟩ => ⟨?_, hb.trans (e2.mono hb.size)⟩)
    rw [e1, hq]; rfl
  clear h h1 hB1
  go_enter Try.func10, Try.ntmps10
  go_wp2_with fail
  refine k1.mono ?_
  rintro e w1 ⟨rfl, ew⟩
  rw [← ew]
  clear ew w1 k1
  go_wp2_with fail
  refine k2.mono ?_
  rintro e w2 ⟨rfl, bk⟩
  have km := k2m.out w2 bk
  unfold askV
  clear k2 k2m
  go_wp2_with fail
  refine km.mono ?_
  rintro e w3 ⟨rfl, bm⟩
  have k4 := k3.out w3 (bk.trans (bm.mono bk.size))
  unfold askV
  clear km k3 bm bk
  go_wp2_with fail
  refine k4.mono ?_
  rintro e w4 ⟨rfl, b4⟩
  clear k4
  go_wp2
  go_ret
  exact ⟨rfl, b4⟩
set_option maxHeartbeats 2000000 in
set_option maxRecDepth 1000000 in
theorem Copy_full {S0 : Nat → Prop} {w0 w : World} {L : List Part} (B most : Nat) (ms : List MsgO) (i : Nat) (x : MsgO) (hx : ms[i]? = some x) (hf : most ≤ ms.length) (h : St S0 w0 w (bagP B most ms :: L)) (h0 : 0 < most) (hn : most ≤ 256) (hl : ms.length ≤ most) :
    Calls Try.prog 10 #[ptr B, .int .i64 (i : Int)] w fun e w' => e = .returned (.int .i64 5) ∧ Below w.heap.size w w' := by
  obtain ⟨v, h1⟩ := bag_open h
  obtain ⟨⟨av, cv, rfl, hcv, hmv⟩, -⟩ := h1.form
  have hi : i < ms.length := (List.getElem?_eq_some_iff.mp hx).1
  have hB1 : w.heap[B]? = some (bagO most (.slice av ms.length cv)) := (h1.pick 1 rfl).blk.1
  have k1 := there_ok w B most _ hB1 h0
  have k2 := some_ok w B (i : Int)
  have k2m : Hid (∀ w2, Below w.heap.size w w2 → Calls Try.prog 18 #[ptr B] w2 fun e w' => e = .returned (askV (ms.length : Int) 25 B 5) ∧ Below w2.heap.size w2 w') := fun w2 hb => more_ok w2 B most _ _ _ ((hb.block B (blk_lt hB1)).trans hB1)
  have k3 : Hid (∀ w2, Below w.heap.size w w2 → Calls Try.prog 17 #[.slice (some ⟨w2.heap.size, 0, none⟩) 2 2] (w2.alloc (.cells #[.int .i64 (i : Int), .func (.func 29) #[ptr B] #[], .int .i64 1, .int .i64 (ms.length : Int), .func (.func 25) #[ptr B] #[], .int .i64 5] 54)) fun e w' => e = .returned (.int .i64 5) ∧ Below w.heap.size w w') := fun w2 hb => by
    have hq : qSome (i : Int) ms.length = ⟨(i : Int), true, 1, true⟩ := by unfold qSome; rw [decide_eq_true (by omega)]
    have hq2 : qMore ms.length most = ⟨(ms.length : Int), false, 5, false⟩ := by unfold qMore; rw [decide_eq_false (by omega)]
    refine (first_lit w2 B most ms.length cv av ((hb.block B (blk_lt hB1)).trans hB1) [qSome (i : Int) ms.length, qMore ms.length most] 2 rfl (by omega) (fun q hq => by
      rcases List.mem_cons.1 hq with rfl | hq
      · exact .inr ⟨_, rfl⟩
      · exact .inl (List.mem_singleton.mp hq))).mono (fun e w' ⟨e1, e2⟩ => ⟨?_, hb.trans (e2.mono hb.size)⟩)
    rw [e1, hq, hq2]; rfl
  clear h h1 hB1
  go_enter Try.func10, Try.ntmps10
  go_wp2_with fail
  refine k1.mono ?_
  rintro e w1 ⟨rfl, ew⟩
  rw [← ew]
  clear ew w1 k1
  go_wp2_with fail
  refine k2.mono ?_
  rintro e w2 ⟨rfl, bk⟩
  have km := k2m.out w2 bk
  unfold askV
  clear k2 k2m
  go_wp2_with fail
  refine km.mono ?_
  rintro e w3 ⟨rfl, bm⟩
  have k4 := k3.out w3 (bk.trans (bm.mono bk.size))
  unfold askV
  clear km k3 bm bk
  go_wp2_with fail
  refine k4.mono ?_
  rintro e w4 ⟨rfl, b4⟩
  clear k4
  go_wp2
  go_ret
  exact ⟨rfl, b4⟩
set_option maxHeartbeats 2000000 in
set_option maxRecDepth 1000000 in
theorem Copy_ok {S0 : Nat → Prop} {w0 w : World} {L : List Part} (B most : Nat) (ms : List MsgO) (i : Nat) (x : MsgO) (hx : ms[i]? = some x) (hf : ms.length < most) (h : St S0 w0 w (bagP B most ms :: L)) (h0 : 0 < most) (hn : most ≤ 256) (hl : ms.length ≤ most) :
    Calls Try.prog 10 #[ptr B, .int .i64 (i : Int)] w fun e w' => e = .returned (.int .i64 0) ∧ ∃ y : MsgO, y.d = x.d ∧ St S0 w0 w' (bagP B most (ms ++ [y]) :: L) := by
  obtain ⟨v, h1⟩ := bag_open h
  obtain ⟨⟨av, cv, rfl, hcv, hmv⟩, -⟩ := h1.form
  have hi : i < ms.length := (List.getElem?_eq_some_iff.mp hx).1
  have hB1 : w.heap[B]? = some (bagO most (.slice av ms.length cv)) := (h1.pick 1 rfl).blk.1
  have k1 := there_ok w B most _ hB1 h0
  have k2 := some_ok w B (i : Int)
  have k2m : Hid (∀ w2, Below w.heap.size w w2 → Calls Try.prog 18 #[ptr B] w2 fun e w' => e = .returned (askV (ms.length : Int) 25 B 5) ∧ Below w2.heap.size w2 w') := fun w2 hb => more_ok w2 B most _ _ _ ((hb.block B (blk_lt hB1)).trans hB1)
  have k3 : Hid (∀ w2, Below w.heap.size w w2 → Calls Try.prog 17 #[.slice (some ⟨w2.heap.size, 0, none⟩) 2 2] (w2.alloc (.cells #[.int .i64 (i : Int), .func (.func 29) #[ptr B] #[], .int .i64 1, .int .i64 (ms.length : Int), .func (.func 25) #[ptr B] #[], .int .i64 5] 54)) fun e w' => e = .returned (.int .i64 0) ∧ Below w.heap.size w w') := fun w2 hb => by
    have hq : qSome (i : Int) ms.length = ⟨(i : Int), true, 1, true⟩ := by unfold qSome; rw [decide_eq_true (by omega)]
    have hq2 : qMore ms.length most = ⟨(ms.length : Int), false, 5, true⟩ := by unfold qMore; rw [decide_eq_true hf]
    refine (first_lit w2 B most ms.length cv av ((hb.block B (blk_lt hB1)).trans hB1) [qSome (i : Int) ms.length, qMore ms.length most] 2 rfl (by omega) (fun q hq => by
      rcases List.mem_cons.1 hq with rfl | hq
      · exact .inr ⟨_, rfl⟩
      · exact .inl (List.mem_singleton.mp hq))).mono (fun e w' ⟨e1, e2⟩ => ⟨?_, hb.trans (e2.mono hb.size)⟩)
    rw [e1, hq, hq2]; rfl
  obtain ⟨g, cap', e'⟩ := h1.form.2 (by omega)
  simp only [Value.slice.injEq, true_and] at e'
  obtain ⟨rfl, -⟩ := e'
  have hxe : ms[i]'hi = x := (List.getElem?_eq_some_iff.mp hx).2
  have hxm : x ∈ ms := List.mem_of_getElem? hx
  have hfx := bag_mem h hxm
  obtain ⟨⟨ax, nx, dx, ex⟩, ay, ny, dy, ey⟩ := MsgO.slices_of hfx.2
  have hvx : x.v = .agg #[.int .u8 (x.d.say.toNat : Int), .int .u8 (x.d.src.toNat : Int), .int .u8 (x.d.dst.toNat : Int), .int .u32 (x.d.g.toNat : Int), .slice ax nx dx, .slice ay ny dy] := by show msgV _ _ _ = _; rw [ex, ey]; rfl
  have k5 : Hid (∀ w3, Below w.heap.size w w3 → (w3.drew.cell? ⟨B, 1, none⟩ = some (.slice (some ⟨g, 0, none⟩) ms.length cv) ∧ w3.drew.cell? ⟨g, i * 6, none⟩ = some (.int .u8 (x.d.say.toNat : Int)) ∧ w3.drew.cell? ⟨g, i * 6 + 1, none⟩ = some (.int .u8 (x.d.src.toNat : Int)) ∧ w3.drew.cell? ⟨g, i * 6 + 2, none⟩ = some (.int .u8 (x.d.dst.toNat : Int)) ∧ w3.drew.cell? ⟨g, i * 6 + 3, none⟩ = some (.int .u32 (x.d.g.toNat : Int)) ∧ w3.drew.cell? ⟨g, i * 6 + 4, none⟩ = some (.slice ax nx dx) ∧ w3.drew.cell? ⟨g, i * 6 + 5, none⟩ = some (.slice ay ny dy)) ∧
      Calls Try.prog 20 #[.agg #[.int .u8 (x.d.say.toNat : Int), .int .u8 (x.d.src.toNat : Int), .int .u8 (x.d.dst.toNat : Int), .int .u32 (x.d.g.toNat : Int), .slice ax nx dx, .slice ay ny dy]] w3.drew fun e w4 => ∃ (d1 d2 n1 n2 : Nat) (a1 a2 : Option Addr), e = .returned (.agg #[.int .u8 (x.d.say.toNat : Int), .int .u8 (x.d.src.toNat : Int), .int .u8 (x.d.dst.toNat : Int), .int .u32 (x.d.g.toNat : Int), .slice a1 n1 d1, .slice a2 n2 d2]) ∧
        Calls Try.prog 19 #[ptr B, .agg #[.int .u8 (x.d.say.toNat : Int), .int .u8 (x.d.src.toNat : Int), .int .u8 (x.d.dst.toNat : Int), .int .u32 (x.d.g.toNat : Int), .slice a1 n1 d1, .slice a2 n2 d2]] w4 fun e w' => e = .returned (.tuple #[]) ∧ ∃ y : MsgO, y.d = x.d ∧ St S0 w0 w' (bagP B most (ms ++ [y]) :: L)) := fun w3 hb => by
    have b3 : Below w.heap.size w w3.drew := hb.trans ⟨rfl, rfl, rfl, Nat.le_refl _, fun _ _ => rfl⟩
    have st3 := h1.up b3
    have cc : ∀ j u, x.cells[j]? = some u → w3.drew.cell? ⟨g, i * 6 + j, none⟩ = some u := fun j u hu => by
      have hj : j < 6 := by
        rcases Nat.lt_or_ge j 6 with h' | h'
        · exact h'
        · rw [List.getElem?_eq_none (by exact h')] at hu; cases hu
      have := st3.row.cells (g := g) rfl (i * 6 + j) u (by rw [flat_get MsgO.cells_len ms i hi j hj, hxe]; exact hu)
      rw [Addr.add_lit] at this
      simpa using this
    refine ⟨⟨(two_cells (st3.pick 1 rfl).blk.1).2, by simpa using cc 0 _ rfl, cc 1 _ rfl, cc 2 _ rfl, cc 3 _ rfl, by rw [cc 4 _ rfl, ex], by rw [cc 5 _ rfl, ey]⟩, ?_⟩
    rw [← hvx]
    refine (apart_any w3.drew x.d _ _ x.rs (hfx.2.up b3) hfx.1.lo hfx.1.lr hfx.1.lw).mono ?_
    rintro e w4 ⟨y, rfl, ed, sy⟩
    have st4 := (st3.and sy)
    have hy := MsgO.at st4
    obtain ⟨a1, n1, a2, n2, e1, e2⟩ := hy.2.form
    have hv : y.v = .agg #[.int .u8 (x.d.say.toNat : Int), .int .u8 (x.d.src.toNat : Int), .int .u8 (x.d.dst.toNat : Int), .int .u32 (x.d.g.toNat : Int), .slice a1 y.d.ops.length n1, .slice a2 y.rs.length n2] := by show msgV _ _ _ = _; rw [e1, e2, ed]; rfl
    refine ⟨_, _, _, _, _, _, congrArg _ hv, ?_⟩
    rw [← hv]
    refine (push_ok B most ms.length _ _ y a1 a2 _ _ _ _ e1 e2 (by omega) (st4.rt (K := [_, _, _, _]) 4 [1, 2, 3, 0] (by decide))).mono ?_
    rintro e w' ⟨rfl, v', st5⟩
    refine ⟨rfl, y, ed, bag_shut (v := v') ?_⟩
    have e3 : (ms ++ [y]).flatMap MsgO.cells = ms.flatMap MsgO.cells ++ y.cells := by simp
    have e4 : (ms ++ [y]).map MsgO.part = ms.map MsgO.part ++ [y.part] := by simp
    rw [e3, e4, List.length_append, List.length_singleton]
    exact ((st5.rt (K := [_, _, _, _]) 4 [2, 3, 0, 1] (by decide)).snoc).rt (K := [_, _, _]) 3 [1, 2, 0] (by decide)
  unfold maxLen at hmv
  obtain ⟨N, hN⟩ : ∃ N, N = ms.length := ⟨_, rfl⟩
  have i1 : (i : Int) < (N : Int) := by omega
  have i2 : N ≤ cv := by omega
  rw [← hN] at k3 k2m k5
  clear hx hxe hxm hfx ex ey hvx hN
  clear h h1 hB1
  go_enter Try.func10, Try.ntmps10
  go_wp2_with fail
  refine k1.mono ?_
  rintro e w1 ⟨rfl, ew⟩
  rw [← ew]
  clear ew w1 k1
  go_wp2_with fail
  refine k2.mono ?_
  rintro e w2 ⟨rfl, bk⟩
  have km := k2m.out w2 bk
  unfold askV
  clear k2 k2m
  go_wp2_with fail
  refine km.mono ?_
  rintro e w3 ⟨rfl, bm⟩
  have k4 := k3.out w3 (bk.trans (bm.mono bk.size))
  unfold askV
  clear km k3 bm bk
  go_wp2_with fail
  refine k4.mono ?_
  rintro e w4 ⟨rfl, b4⟩
  clear k4
  obtain ⟨⟨cB, c0, c1, c2, c3, c4, c5⟩, kp⟩ := k5.out w4 b4
  clear k5 b4
  go_wp2_with fail
  go_region_law (first | (go_simp; go_at_call 20; refine kp.mono ?_; rintro e w5 ⟨d1, d2, n1, n2, a1, a2, rfl, kq⟩; clear kp c0 c1 c2 c3 c4 c5 cB) | (go_simp; go_at_call 19; refine kq.mono ?_; rintro e w6 ⟨rfl, R⟩; clear kq))
  all_goals
    go_wp2
    go_ret
    exact ⟨rfl, R⟩
end Go.Proofs.Ytpmmdbdooclcoab
