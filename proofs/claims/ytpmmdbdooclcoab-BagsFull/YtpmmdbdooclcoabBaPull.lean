/- The walk of a queue's pull. -/
import Derived.Test.YtpmmdbdooclcoabBaDelete
set_option linter.unusedSimpArgs false
set_option linter.unusedVariables false
namespace Go.Proofs.Ytpmmdbdooclcoab
open Go.RowKit

theorem flat_erase (ms : List MsgO) : ∀ (i : Nat), i < ms.length → (ms.flatMap MsgO.cells).take (i * 6) ++ (ms.flatMap MsgO.cells).drop ((i + 1) * 6) = (ms.eraseIdx i).flatMap MsgO.cells := by
  induction ms with
  | nil => intro i h; simp at h
  | cons x ms ih =>
    intro i h
    match i, h with
    | 0, h =>
      rw [List.eraseIdx_zero, List.tail_cons, List.flatMap_cons, List.drop_append]
      simp [MsgO.cells]
    | i + 1, h =>
      have := ih i (by simpa using h)
      rw [List.eraseIdx_cons_succ, List.flatMap_cons, List.flatMap_cons, ← this, List.take_append, List.drop_append]
      have e1 : x.cells.take ((i + 1) * 6) = x.cells := List.take_of_length_le (by rw [MsgO.cells_len]; omega)
      have e2 : x.cells.drop ((i + 1 + 1) * 6) = [] := List.drop_eq_nil_of_le (by rw [MsgO.cells_len]; omega)
      rw [e1, e2, MsgO.cells_len, List.nil_append, List.append_assoc, show (i + 1) * 6 - 6 = i * 6 by omega, show (i + 1 + 1) * 6 - 6 = (i + 1) * 6 by omega]
/-- The values of a message's lists are slices. -/
def MsgO.slices (x : MsgO) : Prop := (∃ a n c, x.vo = .slice a n c) ∧ ∃ a n c, x.vr = .slice a n c
theorem msgs_one {ms : List MsgO} (h : ∀ x ∈ ms, x.slices) : ∀ u ∈ ms.flatMap MsgO.cells, u.oneCell' = true := fun u hu => by
  obtain ⟨x, hx, hu⟩ := List.mem_flatMap.1 hu
  obtain ⟨⟨a, n, c, e⟩, a2, n2, c2, e2⟩ := h x hx
  exact MsgO.cells_one (by rw [e]; exact one_slice _ _ _) (by rw [e2]; exact one_slice _ _ _) u hu
set_option maxHeartbeats 2000000 in
set_option maxRecDepth 1000000 in
theorem pull_ok {S0 : Nat → Prop} {w0 w : World} {L : List Part} (B most i : Nat) (v : Value) (ms : List MsgO) (x : MsgO) (hx : ms[i]? = some x) (hs : ∀ x ∈ ms, x.slices) (hn : ms.length ≤ 1000000)
    (h : St S0 w0 w (Part.row 27 6 v ms.length (ms.flatMap MsgO.cells) :: Part.blk B (bagO most v) :: L)) :
    Calls Try.prog 22 #[ptr B, .int .i64 (i : Int)] w fun e w' => e = .returned x.v ∧ ∃ v', St S0 w0 w' (Part.row 27 6 v' (ms.eraseIdx i).length ((ms.eraseIdx i).flatMap MsgO.cells) :: Part.blk B (bagO most v') :: L) := by
  have hi : i < ms.length := (List.getElem?_eq_some_iff.mp hx).1
  have hxe : ms[i]'hi = x := (List.getElem?_eq_some_iff.mp hx).2
  obtain ⟨g, cap, rfl⟩ := h.form.2 (by omega)
  obtain ⟨⟨ao', c', e, hcap, hm⟩, -⟩ := h.form
  simp only [Value.slice.injEq, true_and] at e
  obtain ⟨-, rfl⟩ := e
  unfold maxLen at hm
  have hlen2 : (ms.eraseIdx i).length = ms.length - 1 := List.length_eraseIdx_of_lt hi
  obtain ⟨⟨a1, n1, d1, e1⟩, a2, n2, d2, e2⟩ := hs x (List.mem_of_getElem? hx)
  obtain ⟨d, vo, vr, rs⟩ := x
  simp only at e1 e2
  subst e1
  subst e2
  have cc : ∀ j u, (MsgO.cells ⟨d, .slice a1 n1 d1, .slice a2 n2 d2, rs⟩)[j]? = some u → (w.alloc (.cells zM 27)).cell? ⟨g, i * 6 + j, none⟩ = some u := fun j u hu => by
    have hg : g < w.heap.size := (h.row.lt g rfl).2
    rw [World.cell?_alloc_lt _ _ _ hg]
    have hj : j < 6 := by
      rcases Nat.lt_or_ge j 6 with h' | h'
      · exact h'
      · rw [List.getElem?_eq_none (by exact h')] at hu; cases hu
    have := h.row.cells (g := g) rfl (i * 6 + j) u (by rw [flat_get MsgO.cells_len ms i hi j hj, hxe]; exact hu)
    rw [Addr.add_lit] at this
    simpa using this
  have p0 := cc 0 _ rfl
  have p1 := cc 1 _ rfl
  have p2 := cc 2 _ rfl
  have p3 := cc 3 _ rfl
  have p4 := cc 4 _ rfl
  have p5 := cc 5 _ rfl
  simp only [Nat.add_zero] at p0
  have c1 : (w.alloc (.cells zM 27)).cell? ⟨B, 1, none⟩ = some (.slice (some ⟨g, 0, none⟩) ms.length cap) := (World.cell?_alloc_lt _ _ _ (h.pick 1 rfl).blk.2).trans (two_cells (h.pick 1 rfl).blk.1).2
  have s1 : St S0 w0 ((w.alloc (.cells zM 27)).alloc (.cells (mdCells d (.slice a1 n1 d1) (.slice a2 n2 d2)) 27)) _ := (h.alloc (.cells zM 27)).alloc (.cells (mdCells d (.slice a1 n1 d1) (.slice a2 n2 d2)) 27)
  rw [show (w.alloc (.cells zM 27)).heap.size = w.heap.size + 1 by simp] at s1
  have s2 := s1.pick 2 rfl
  have hB2 := (two_cells (s2.pick 3 rfl).blk.1).2
  have kd := delete_ok g ms.length cap i (ms.flatMap MsgO.cells) hi hn (msgs_one hs) s2
  rw [show ((i + 1 : Nat) : Int) = (i : Int) + 1 by omega] at kd
  have i1 : (i : Int) < (ms.length : Int) := by omega
  have ih : (i : Int) + 1 < 9223372036854775807 := by omega
  unfold zM at p0 p1 p2 p3 p4 p5 c1
  unfold zM mdCells at kd s1 hB2
  unfold MsgO.v msgV
  have HL : Hid ((ms.eraseIdx i).length = ms.length - 1) := hlen2
  have HF : Hid ((ms.flatMap MsgO.cells).take (i * 6) ++ (ms.flatMap MsgO.cells).drop ((i + 1) * 6) = (ms.eraseIdx i).flatMap MsgO.cells) := flat_erase ms i hi
  have HS := hs
  obtain ⟨N, hN⟩ : ∃ N, N = ms.length := ⟨_, rfl⟩
  rw [← hN] at kd s1 hB2 i1 hi hcap c1
  have HN : Hid (N = ms.length) := hN
  clear h s2 cc hlen2 hx hxe hs hN
  go_enter Try.func22, Try.ntmps22
  go_wp2_with fail
  refine kd.mono ?_
  rintro e w1 ⟨rfl, s3⟩
  have s4 := (s3.pick 3 rfl)
  have b1 := (two_cells s4.blk.1).2
  have f1 := box_frozen (i := 1) s4.blk.1
  have s5 := s4.set' (i := 1) (u := .slice (some ⟨g, 0, none⟩) (N - 1) cap) #[.int .i64 (most : Int), .slice (some ⟨g, 0, none⟩) (N - 1) cap] (by simp) rfl
  obtain ⟨q0, q1, q2, q3, q4, q5⟩ := six_cells (s5.pick 2 rfl).blk.1
  obtain ⟨z0, z1, z2, z3, z4, z5⟩ := six_cells (s5.pick 3 rfl).blk.1
  have fz := fun i => box_frozen (i := i) (s5.pick 3 rfl).blk.1
  have S5 : Hid _ := s5
  clear kd s1 hB2 s3 s4 s5 p0 p1 p2 p3 p4 p5 c1
  go_wp2
  have s6 := St.set6 (S5.out.pick 3 rfl) (.int .u8 (d.say.toNat : Int)) (.int .u8 (d.src.toNat : Int)) (.int .u8 (d.dst.toNat : Int)) (.int .u32 (d.g.toNat : Int)) (.slice a1 n1 d1) (.slice a2 n2 d2)
  have s7 := (s6.rt (K := [_, _, _, _]) 4 [0, 3, 2, 1] (by decide)).drop.drop
  refine bodyPost_ret (v := msgV d (.slice a1 n1 d1) (.slice a2 n2 d2)) (results_cell_row rfl _ _ w.heap.size 27 _ (0, 0) _ rfl s6.blk.1 Try.underlying27 rfl (by kernel_rfl)) rfl ⟨rfl, .slice (some ⟨g, 0, none⟩) (N - 1) cap, ?_⟩
  rw [← HF.out, HL.out, ← HN.out]
  exact s7
end Go.Proofs.Ytpmmdbdooclcoab
