/- The walk of a bag's List; what a bag that is not there answers. -/
import Derived.Test.YtpmmdbdooclcoabBaTake
set_option linter.unusedSimpArgs false
set_option linter.unusedVariables false
namespace Go.Proofs.Ytpmmdbdooclcoab
open Go.RowKit

theorem flat_take1 (ms : List MsgO) (k : Nat) (x : MsgO) (hx : ms[k]? = some x) : ms.drop k = x :: ms.drop (k + 1) := by
  have hk := (List.getElem?_eq_some_iff.mp hx)
  obtain ⟨h, e⟩ := hk
  rw [← e]; exact List.drop_eq_getElem_cons h
/-- While the messages are gone through: k of them are new ones. -/
def LiI (S0 : Nat → Prop) (w0 wr : World) (B most : Nat) (ms : List MsgO) (v0 v1 : Value) (L : List Part) (k : Nat) : Prop :=
  ∃ N : List MsgO, N.map (·.d) = (ms.take k).map (·.d) ∧ St S0 w0 wr (Part.row 27 6 v1 ms.length (N.flatMap MsgO.cells ++ (ms.drop k).flatMap MsgO.cells) :: Part.all (N.map MsgO.part) :: Part.row 27 6 v0 ms.length (ms.flatMap MsgO.cells) :: Part.blk B (bagO most v0) :: Part.all (ms.map MsgO.part) :: L)
theorem setCells6 (w : World) (g o : Nat) (a0 a1 a2 a3 a4 a5 : Value) : w.setCells g o [a0, a1, a2, a3, a4, a5] = (((((w.setCell ⟨g, o, none⟩ a0).setCell ⟨g, o + 1, none⟩ a1).setCell ⟨g, o + 2, none⟩ a2).setCell ⟨g, o + 3, none⟩ a3).setCell ⟨g, o + 4, none⟩ a4).setCell ⟨g, o + 5, none⟩ a5 := rfl
set_option maxHeartbeats 4000000 in
set_option maxRecDepth 1000000 in
theorem List_ok {S0 : Nat → Prop} {w0 w : World} {L : List Part} (B most : Nat) (ms : List MsgO) (h : St S0 w0 w (bagP B most ms :: L)) (h0 : 0 < most) (hn : most ≤ 256) (hl : ms.length ≤ most) :
    Calls Try.prog 12 #[ptr B] w fun e w' => ∃ v, e = .returned v ∧ ∃ ms', ms'.map (·.d) = ms.map (·.d) ∧ St S0 w0 w' (msgsP v ms' :: bagP B most ms :: L) := by
  obtain ⟨v, h1⟩ := bag_open h
  have hmem : ∀ x ∈ ms, x.fine ∧ MsgAt w w.heap.size x.vo x.vr x.d x.rs := fun x hx => bag_mem h hx
  have hsl : ∀ x ∈ ms, x.slices := fun x hx => MsgO.slices_of (hmem x hx).2
  obtain ⟨⟨av, cv, rfl, hcv, hmv⟩, -⟩ := h1.form
  have hB1 : w.heap[B]? = some (bagO most (.slice av ms.length cv)) := (h1.pick 1 rfl).blk.1
  have k1 := there_ok w B most _ hB1 h0
  have cB := (two_cells hB1).2
  have k2 := freshMsg_any w (.slice av ms.length cv) ms.length (ms.flatMap MsgO.cells) (src_sl (by decide) MsgO.cells_len (fun x hx u hu => msgs_one hsl u (List.mem_flatMap.2 ⟨x, hx, hu⟩)) Try.underlying41 (sl_own MsgO.cells_len h1.row)) (by omega)
  have st0 : Hid _ := h1
  obtain ⟨N, hN⟩ : ∃ N, N = ms.length := ⟨_, rfl⟩
  rw [← hN] at k2 cB
  have HN : Hid (N = ms.length) := hN
  have hN2 : N ≤ 256 := by omega
  clear h h1 hB1 hl hcv hN
  go_enter Try.func12, Try.ntmps12
  go_wp2_with fail
  refine k1.mono ?_
  rintro e w1 ⟨rfl, ew⟩
  rw [← ew]
  clear ew w1 k1
  go_wp2_with fail
  refine k2.mono ?_
  rintro e w2 ⟨v1, rfl, o2, b2⟩
  have st2 := st0.out.and (St.row_new o2 b2)
  obtain ⟨a1, c1, rfl, hc1, hm1⟩ := own_len' o2
  unfold maxLen at hm1
  have hI0 : Hid (LiI S0 w0 w2 B most ms (.slice av ms.length cv) (.slice a1 N c1) L 0) := by
    refine ⟨[], rfl, ?_⟩
    have s := (St.shut_all (K := []) st2)
    have e : ([] : List MsgO).flatMap MsgO.cells ++ (ms.drop 0).flatMap MsgO.cells = ms.flatMap MsgO.cells := by simp
    rw [e]
    rw [HN.out] at s ⊢
    exact s.rt (K := [_, _, _, _, _]) 5 [1, 0, 2, 3, 4] (by decide)
  clear k2 st0 o2 b2 st2 cB
  go_wp2
  go_loopw [17] (fun i wr => ∃ k : Nat, k ≤ N ∧ i = .int .i64 (k : Int) ∧ Hid (LiI S0 w0 wr B most ms (.slice av ms.length cv) (.slice a1 N c1) L k)) (fun i _ => N - (intOf i).toNat)
  case atStart => exact ⟨0, by omega, rfl, hI0⟩
  case round =>
    clear hI0
    obtain ⟨k, hk, rfl, hI⟩ := hrel
    by_cases hkn : k < N
    · obtain ⟨Q, hQ, st⟩ := hI.out
      have hkm : k < ms.length := by rw [← HN.out]; exact hkn
      obtain ⟨x, hx⟩ : ∃ x, ms[k]? = some x := ⟨_, List.getElem?_eq_getElem hkm⟩
      have hxm : x ∈ ms := List.mem_of_getElem? hx
      have hQl : Q.length = k := by have := congrArg List.length hQ; simp at this; omega
      have hdrop := flat_take1 ms k x hx
      obtain ⟨g, c3, e⟩ := st.form.2 (by omega)
      simp only [Value.slice.injEq, true_and] at e
      obtain ⟨rfl, hNl, -⟩ := e
      have hQc : (Q.flatMap MsgO.cells).length = k * 6 := by rw [flat_lenB MsgO.cells_len, hQl]
      have hcell : ∀ {W : World} {M : List Part}, St S0 w0 W (Part.row 27 6 (.slice (some ⟨g, 0, none⟩) N c1) ms.length (Q.flatMap MsgO.cells ++ (ms.drop k).flatMap MsgO.cells) :: M) → ∀ j u, x.cells[j]? = some u → W.cell? ⟨g, k * 6 + j, none⟩ = some u ∧ W.frozen? ⟨g, k * 6 + j, none⟩ = false := fun {W M} hW j u hu => by
        have hj : j < 6 := by
          rcases Nat.lt_or_ge j 6 with h' | h'
          · exact h'
          · rw [List.getElem?_eq_none (by exact h')] at hu; cases hu
        have hW' := hW.row
        rw [hNl] at hW'
        have := hW'.cells (g := g) rfl (k * 6 + j) u (by rw [hdrop, List.getElem?_append_right (by omega), hQc, List.flatMap_cons, List.getElem?_append_left (by show _ < 6; omega)]; rw [← hu]; congr 1; omega)
        rw [Addr.add_lit] at this
        exact ⟨by simpa using this, hW'.frozenAt _⟩
      obtain ⟨⟨ax, nx, dx, ex⟩, ay, ny, dy, ey⟩ := hsl x hxm
      have pc := fun j u hu => (hcell st j u hu).1
      have p0 := pc 0 _ rfl
      have p1 := pc 1 _ rfl
      have p2 := pc 2 _ rfl
      have p3 := pc 3 _ rfl
      have p4 := pc 4 _ rfl
      have p5 := pc 5 _ rfl
      rw [ex] at p4
      rw [ey] at p5
      simp only [Nat.add_zero] at p0
      have hvx : x.v = .agg #[.int .u8 (x.d.say.toNat : Int), .int .u8 (x.d.src.toNat : Int), .int .u8 (x.d.dst.toNat : Int), .int .u32 (x.d.g.toNat : Int), .slice ax nx dx, .slice ay ny dy] := by show msgV _ _ _ = _; rw [ex, ey]; rfl
      have st3 := st.alloc (.cells (mdCells x.d (.slice ax nx dx) (.slice ay ny dy)) 27)
      have hM3 := (all_mem (st.pick 4 rfl) hxm).2.up (below_one wr (.cells (mdCells x.d (.slice ax nx dx) (.slice ay ny dy)) 27))
      have ka := apart_any _ x.d _ _ x.rs hM3 (hmem x hxm).1.lo (hmem x hxm).1.lr (hmem x hxm).1.lw
      have hv' : msgV x.d x.vo x.vr = x.v := rfl
      rw [hv', hvx] at ka
      have FIN : Hid (∀ w4 (y : MsgO), y.d = x.d → St noB (wr.alloc (.cells (mdCells x.d (.slice ax nx dx) (.slice ay ny dy)) 27)) w4 [y.part] → ∃ b1 m1 e1 b2 m2 e2, y.v = .agg #[.int .u8 (x.d.say.toNat : Int), .int .u8 (x.d.src.toNat : Int), .int .u8 (x.d.dst.toNat : Int), .int .u32 (x.d.g.toNat : Int), .slice b1 m1 e1, .slice b2 m2 e2] ∧
          ((w4.cell? ⟨g, k * 6, none⟩ = some (.int .u8 (x.d.say.toNat : Int)) ∧ w4.cell? ⟨g, k * 6 + 1, none⟩ = some (.int .u8 (x.d.src.toNat : Int)) ∧ w4.cell? ⟨g, k * 6 + 2, none⟩ = some (.int .u8 (x.d.dst.toNat : Int)) ∧ w4.cell? ⟨g, k * 6 + 3, none⟩ = some (.int .u32 (x.d.g.toNat : Int)) ∧ w4.cell? ⟨g, k * 6 + 4, none⟩ = some (.slice ax nx dx) ∧ w4.cell? ⟨g, k * 6 + 5, none⟩ = some (.slice ay ny dy)) ∧
            ∀ o, w4.frozen? ⟨g, o, none⟩ = false) ∧
          Hid (LiI S0 w0 ((((((w4.setCell ⟨g, k * 6, none⟩ (.int .u8 (x.d.say.toNat : Int))).setCell ⟨g, k * 6 + 1, none⟩ (.int .u8 (x.d.src.toNat : Int))).setCell ⟨g, k * 6 + 2, none⟩ (.int .u8 (x.d.dst.toNat : Int))).setCell ⟨g, k * 6 + 3, none⟩ (.int .u32 (x.d.g.toNat : Int))).setCell ⟨g, k * 6 + 4, none⟩ (.slice b1 m1 e1)).setCell ⟨g, k * 6 + 5, none⟩ (.slice b2 m2 e2)) B most ms (.slice av ms.length cv) (.slice (some ⟨g, 0, none⟩) N c1) L (k + 1))) := fun w4 y hy sy => by
        have st4 := (st3.and sy)
        have hyo := MsgO.at st4
        obtain ⟨b1, m1, b2, m2, e1, e2⟩ := hyo.2.form
        have hv : y.v = .agg #[.int .u8 (x.d.say.toNat : Int), .int .u8 (x.d.src.toNat : Int), .int .u8 (x.d.dst.toNat : Int), .int .u32 (x.d.g.toNat : Int), .slice b1 y.d.ops.length m1, .slice b2 y.rs.length m2] := by show msgV _ _ _ = _; rw [e1, e2, hy]; rfl
        have st5 := st4.pick 2 rfl
        have hc := hcell st5
        have q5 := hc 5 _ rfl
        have q4 := hc 4 _ rfl
        rw [ey] at q5
        rw [ex] at q4
        have hrow := st5.row
        rw [hNl] at hrow
        refine ⟨b1, _, m1, b2, _, m2, hv, ⟨⟨by simpa using (hc 0 _ rfl).1, (hc 1 _ rfl).1, (hc 2 _ rfl).1, (hc 3 _ rfl).1, q4.1, q5.1⟩, fun o => hrow.frozenAt _⟩, ?_⟩
        · refine ⟨Q ++ [y], ?_, ?_⟩
          · rw [List.map_append, hQ, List.take_add_one, hx, List.map_append, List.map_cons, List.map_nil, hy]; rfl
          · have hNl' := hNl
            rw [hNl] at st5
            have s6 := St.setCells (g := g) y.cells w4 _ (k * 6) (by rw [List.length_append, hQc, hdrop, List.flatMap_cons, List.length_append]; show _ + 6 ≤ _ + (6 + _); omega) st5
            have e5 : (Q.flatMap MsgO.cells ++ (ms.drop k).flatMap MsgO.cells).take (k * 6) ++ y.cells ++ (Q.flatMap MsgO.cells ++ (ms.drop k).flatMap MsgO.cells).drop (k * 6 + y.cells.length) = (Q ++ [y]).flatMap MsgO.cells ++ (ms.drop (k + 1)).flatMap MsgO.cells := by
              rw [List.take_append_of_le_length (by omega), List.take_of_length_le (by omega), List.drop_append, List.drop_eq_nil_of_le (by omega), hQc, hdrop, List.flatMap_cons, List.drop_append, List.drop_eq_nil_of_le (by show 6 ≤ k * 6 + 6 - k * 6; omega)]
              rw [List.flatMap_append]
              have e6 : k * 6 + y.cells.length - k * 6 - x.cells.length = 0 := by show k * 6 + 6 - k * 6 - 6 = 0; omega
              rw [e6]
              simp
            rw [e5] at s6
            have e7 : (Q ++ [y]).map MsgO.part = Q.map MsgO.part ++ [y.part] := by simp
            rw [e7, hNl]
            have e8 : y.cells = [.int .u8 (x.d.say.toNat : Int), .int .u8 (x.d.src.toNat : Int), .int .u8 (x.d.dst.toNat : Int), .int .u32 (x.d.g.toNat : Int), .slice b1 y.d.ops.length m1, .slice b2 y.rs.length m2] := by unfold MsgO.cells; rw [e1, e2, hy]
            rw [e8, setCells6] at s6
            exact (((s6.rt (K := [_, _, _, _]) 4 [3, 1, 0, 2] (by decide)).snoc).rt (K := [_, _, _]) 3 [2, 1, 0] (by decide)).drop
      unfold mdCells at ka FIN
      clear hI st st3 hQ hQl hQc hdrop hcell pc hM3 hv' hvx ex ey hx hNl
      go_wp2_with fail
      refine ka.mono ?_
      rintro e w4 ⟨y, rfl, hy, sy⟩
      obtain ⟨b1, m1, e1, b2, m2, e2, hv, ⟨⟨q0, q1, q2, q3, q4, q5⟩, fq⟩, R1⟩ := FIN.out w4 y hy sy
      rw [hv]
      clear ka FIN sy hy hv
      go_wp2
      go_roundw
      case rel => exact ⟨k + 1, by omega, by go_num, R1⟩
      case measure => simp [intOf]; omega
    · obtain ⟨Q, hQ, st⟩ := hI.out
      obtain rfl : k = N := by omega
      have hN' := HN.out
      have hQ' : Q.map (·.d) = ms.map (·.d) := by rw [hQ, hN', List.take_length]
      have hQl : Q.length = ms.length := by have := congrArg List.length hQ'; simpa using this
      have FIN : Hid (St S0 w0 wr (msgsP (.slice a1 k c1) Q :: bagP B most ms :: L)) := by
        have e : Q.flatMap MsgO.cells ++ (ms.drop k).flatMap MsgO.cells = Q.flatMap MsgO.cells := by rw [hN', List.drop_length]; simp
        rw [e] at st
        have s1 := bag_shut ((st.rt (K := [_, _, _, _, _]) 5 [2, 3, 4, 0, 1] (by decide)))
        have s2 := (s1.rt (K := [_, _, _]) 3 [1, 2, 0] (by decide))
        refine St.shut_all (K := [_, _]) ?_
        rw [hQl]
        exact s2
      clear hI st hN'
      go_wp2
      go_ret
      exact ⟨_, rfl, Q, hQ', FIN.out⟩
end Go.Proofs.Ytpmmdbdooclcoab
