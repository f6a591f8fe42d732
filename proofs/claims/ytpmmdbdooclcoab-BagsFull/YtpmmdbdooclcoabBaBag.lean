/- The walks of a bag's calls: New, Add, Take, Copy. -/
import Derived.Test.YtpmmdbdooclcoabBaPull
import Derived.Test.YtpmmdbdooclcoabBaApart
set_option linter.unusedSimpArgs false
set_option linter.unusedVariables false
namespace Go.Proofs.Ytpmmdbdooclcoab
open Go.RowKit

/-- A bag at B for 'most' messages, and its messages. -/
def bagP (B most : Nat) (ms : List MsgO) : Part := Part.ex (fun v => Part.all [Part.row 27 6 v ms.length (ms.flatMap MsgO.cells), Part.blk B (bagO most v), Part.all (ms.map MsgO.part)])
theorem bag_open {S0 : Nat → Prop} {w0 w : World} {L : List Part} {B most : Nat} {ms : List MsgO} (h : St S0 w0 w (bagP B most ms :: L)) : ∃ v, St S0 w0 w (Part.row 27 6 v ms.length (ms.flatMap MsgO.cells) :: Part.blk B (bagO most v) :: Part.all (ms.map MsgO.part) :: L) := by
  obtain ⟨v, h1⟩ := h.open_ex
  exact ⟨v, h1.open_all⟩
theorem bag_shut {S0 : Nat → Prop} {w0 w : World} {L : List Part} {B most : Nat} {ms : List MsgO} {v : Value} (h : St S0 w0 w (Part.row 27 6 v ms.length (ms.flatMap MsgO.cells) :: Part.blk B (bagO most v) :: Part.all (ms.map MsgO.part) :: L)) : St S0 w0 w (bagP B most ms :: L) :=
  St.shut_ex v (St.shut_all (K := [_, _, _]) h)
theorem all_mem {S0 : Nat → Prop} {w0 w : World} {L : List Part} {ms : List MsgO} (h : St S0 w0 w (Part.all (ms.map MsgO.part) :: L)) {x : MsgO} (hx : x ∈ ms) : x.fine ∧ MsgAt w w.heap.size x.vo x.vr x.d x.rs := by
  obtain ⟨S, h1, -⟩ := h.head
  obtain ⟨T, h2, -⟩ := parts_mem (P := x.part) h1 (List.mem_map.2 ⟨x, hx, rfl⟩)
  exact MsgO.holds h2
theorem MsgO.slices_of {w : World} {x : MsgO} (h : MsgAt w w.heap.size x.vo x.vr x.d x.rs) : x.slices := by
  obtain ⟨a, c, a2, c2, e, e2⟩ := h.form
  exact ⟨⟨_, _, _, e⟩, _, _, _, e2⟩
theorem bag_mem {S0 : Nat → Prop} {w0 w : World} {L : List Part} {B most : Nat} {ms : List MsgO} (h : St S0 w0 w (bagP B most ms :: L)) {x : MsgO} (hx : x ∈ ms) : x.fine ∧ MsgAt w w.heap.size x.vo x.vr x.d x.rs := by
  obtain ⟨v, h1⟩ := bag_open h
  exact all_mem (h1.pick 2 rfl) hx

set_option maxHeartbeats 2000000 in
set_option maxRecDepth 1000000 in
theorem New_bad (w : World) (most : Int) (h : most < 1 ∨ 256 < most) :
    Calls Try.prog 6 #[.int .i64 most] w fun e w' => e = .returned (.tuple #[.pointer none, .int .i64 1]) ∧ w = w' := by
  by_cases h1 : most < 1
  · clear h
    go_enter Try.func6, Try.ntmps6
    go_wp2
    go_ret2
    exact ⟨rfl, rfl⟩
  · have h2 : 256 < most := by omega
    clear h
    go_enter Try.func6, Try.ntmps6
    go_wp2
    go_ret2
    exact ⟨rfl, rfl⟩
set_option maxHeartbeats 2000000 in
set_option maxRecDepth 1000000 in
theorem New_ok (w : World) (most : Nat) (h1 : 1 ≤ most) (h2 : most ≤ 256) :
    Calls Try.prog 6 #[.int .i64 (most : Int)] w fun e w' => e = .returned (.tuple #[ptr w.heap.size, .int .i64 0]) ∧ St noB w w' [bagP w.heap.size most []] := by
  have i1 : ¬ (most : Int) < 1 := by omega
  have i2 : ¬ 256 < (most : Int) := by omega
  have st : Hid (St noB w (w.alloc (bagO most (.slice none 0 0))) [bagP w.heap.size most []]) := by
    refine bag_shut (v := .slice none 0 0) ?_
    have h := ((St.nil w).alloc (bagO most (.slice none 0 0)))
    have h2 := (h.more (Q := [Part.row 27 6 (.slice none 0 0) 0 []]) (T := fun _ => False) (Below.refl _ _) (parts_one.2 ⟨World.ownsRow_nil _ _ _ _, fun x => ⟨fun h => h.elim, fun h => by cases h⟩⟩) (fun _ h => h.elim))
    exact (St.shut_all (K := []) h2).rt (K := [_, _, _]) 3 [1, 2, 0] (by decide)
  unfold bagO at st
  go_enter Try.func6, Try.ntmps6
  go_wp2
  go_ret2
  exact ⟨rfl, st.out⟩

def qMore (n most : Nat) : AskD := ⟨(n : Int), false, 5, decide (n < most)⟩
def qSome (at_ : Int) (n : Nat) : AskD := ⟨at_, true, 1, decide (0 ≤ at_ ∧ at_ < n)⟩
theorem askCells_len (B : Nat) (q : AskD) : (askCells B q).length = 3 := rfl
/-- Questions that are asked of the bag at B. -/
theorem first_lit (w : World) (B most n c : Nat) (a : Option Addr) (hB : w.heap[B]? = some (bagO most (.slice a n c))) (qs : List AskD) (k : Nat) (hk : qs.length = k) (hl : k ≤ 10) (hq : ∀ q ∈ qs, q = qMore n most ∨ ∃ at_, q = qSome at_ n) :
    Calls Try.prog 17 #[.slice (some ⟨w.heap.size, 0, none⟩) k k] (w.alloc (.cells (qs.flatMap (askCells B)).toArray 54)) fun e w' => e = .returned (.int .i64 (firstE qs)) ∧ Below w.heap.size w w' := by
  have hb := below_one w (.cells (qs.flatMap (askCells B)).toArray 54)
  have ho := lit_own w 54 3 (askCells_len B) qs (by unfold maxLen; omega) (flat_lenB (askCells_len B) qs)
  rw [hk] at ho
  refine (first_ok _ B _ qs ?_ (fun q hqm W hW => ?_)).mono (fun e w' ⟨e1, e2⟩ => ⟨e1, hb.trans (e2.mono hb.size)⟩)
  · rw [← hk] at ho ⊢
    exact sl_own (askCells_len B) ho
  · have hBW := ((hb.trans (hW.mono hb.size)).block B (blk_lt hB)).trans hB
    rcases hq q hqm with rfl | ⟨at_, rfl⟩
    · exact free_ok W B most n c a hBW
    · exact taken_ok W B most n c a at_ hBW
set_option maxHeartbeats 2000000 in
set_option maxRecDepth 1000000 in
theorem Add_full {S0 : Nat → Prop} {w0 w : World} {L : List Part} (B most : Nat) (ms : List MsgO) (vo vr : Value) (m : MsgD) (l : List ResP) (h : St S0 w0 w (bagP B most ms :: L)) (hm : MsgAt w w.heap.size vo vr m l) (h0 : 0 < most) (hn : most ≤ 256) (hf : most ≤ ms.length) :
    Calls Try.prog 7 #[ptr B, msgV m vo vr] w fun e w' => e = .returned (.int .i64 5) ∧ Below w.heap.size w w' := by
  obtain ⟨v, h1⟩ := bag_open h
  obtain ⟨ao, ca, bo, cb, rfl, rfl⟩ := hm.form
  obtain ⟨⟨av, cv, rfl, -, -⟩, -⟩ := h1.form
  have b1 : Below w.heap.size w (w.alloc (.cells (mdCells m (.slice ao m.ops.length ca) (.slice bo l.length cb)) 27)) := below_one _ _
  have hB1 : (w.alloc (.cells (mdCells m (.slice ao m.ops.length ca) (.slice bo l.length cb)) 27)).heap[B]? = some (bagO most (.slice av ms.length cv)) := alloc_block (h1.pick 1 rfl).blk.1 _
  have st1 := h1.alloc (.cells (mdCells m (.slice ao m.ops.length ca) (.slice bo l.length cb)) 27)
  obtain ⟨W, hW⟩ : ∃ W, W = w.alloc (.cells (mdCells m (.slice ao m.ops.length ca) (.slice bo l.length cb)) 27) := ⟨_, rfl⟩
  rw [← hW] at b1 hB1 st1
  have k1 := there_ok W B most _ hB1 h0
  have k2 := more_ok W B most _ _ _ hB1
  have k3 : Hid (∀ w2, Below W.heap.size W w2 → Calls Try.prog 17 #[.slice (some ⟨w2.heap.size, 0, none⟩) 1 1] (w2.alloc (.cells #[.int .i64 (ms.length : Int), .func (.func 25) #[ptr B] #[], .int .i64 5] 54)) fun e w' => e = .returned (.int .i64 5) ∧ Below W.heap.size W w') := fun w2 hb => by
    have hq : qMore ms.length most = ⟨(ms.length : Int), false, 5, false⟩ := by unfold qMore; rw [decide_eq_false (by omega)]
    refine (first_lit w2 B most ms.length cv av ((hb.block B (blk_lt hB1)).trans hB1) [qMore ms.length most] 1 rfl (by omega) (fun q hq => .inl (List.mem_singleton.mp hq))).mono (fun e w' ⟨e1, e2⟩ => ⟨?_, hb.trans (e2.mono hb.size)⟩)
    rw [e1, hq]; rfl
  have b2 : Hid (∀ w2, Below W.heap.size W w2 → Below w.heap.size w w2) := fun w2 hb => b1.trans (hb.mono b1.size)
  unfold mdCells at hW
  unfold msgV
  clear h h1 hB1 hm st1 b1
  subst hW
  go_enter Try.func7, Try.ntmps7
  go_wp2_with fail
  refine k1.mono ?_
  rintro e w1 ⟨rfl, ew⟩
  rw [← ew]
  clear ew w1 k1
  go_wp2_with fail
  refine k2.mono ?_
  rintro e w2 ⟨rfl, bk⟩
  have k4 := k3.out w2 bk
  clear k3 k2 bk
  unfold askV
  go_wp2_with fail
  refine k4.mono ?_
  rintro e w3 ⟨rfl, b3⟩
  clear k4
  have B3 := b2.out w3 b3
  clear b2 b3
  go_wp2
  go_ret
  exact ⟨rfl, B3⟩
set_option maxHeartbeats 2000000 in
set_option maxRecDepth 1000000 in
theorem Add_ok {S0 : Nat → Prop} {w0 w : World} {L : List Part} (B most : Nat) (ms : List MsgO) (vo vr : Value) (m : MsgD) (l : List ResP) (h : St S0 w0 w (bagP B most ms :: L)) (hm : MsgAt w w.heap.size vo vr m l) (h0 : 0 < most) (hn : most ≤ 256) (hf : ms.length < most) (hlo : m.ops.length ≤ 1000000) (hlr : l.length ≤ 1000000) (hlw : ∀ p ∈ l, p.2.length ≤ 1000000) :
    Calls Try.prog 7 #[ptr B, msgV m vo vr] w fun e w' => e = .returned (.int .i64 0) ∧ ∃ y : MsgO, y.d = m ∧ St S0 w0 w' (bagP B most (ms ++ [y]) :: L) := by
  obtain ⟨v, h1⟩ := bag_open h
  obtain ⟨ao, ca, bo, cb, rfl, rfl⟩ := hm.form
  obtain ⟨⟨av, cv, rfl, -, -⟩, -⟩ := h1.form
  have b1 : Below w.heap.size w (w.alloc (.cells (mdCells m (.slice ao m.ops.length ca) (.slice bo l.length cb)) 27)) := below_one _ _
  have hB1 : (w.alloc (.cells (mdCells m (.slice ao m.ops.length ca) (.slice bo l.length cb)) 27)).heap[B]? = some (bagO most (.slice av ms.length cv)) := alloc_block (h1.pick 1 rfl).blk.1 _
  have st1 := h1.alloc (.cells (mdCells m (.slice ao m.ops.length ca) (.slice bo l.length cb)) 27)
  obtain ⟨W, hW⟩ : ∃ W, W = w.alloc (.cells (mdCells m (.slice ao m.ops.length ca) (.slice bo l.length cb)) 27) := ⟨_, rfl⟩
  rw [← hW] at b1 hB1 st1
  have k1 := there_ok W B most _ hB1 h0
  have k2 := more_ok W B most _ _ _ hB1
  have k3 : Hid (∀ w2, Below W.heap.size W w2 → Calls Try.prog 17 #[.slice (some ⟨w2.heap.size, 0, none⟩) 1 1] (w2.alloc (.cells #[.int .i64 (ms.length : Int), .func (.func 25) #[ptr B] #[], .int .i64 5] 54)) fun e w' => e = .returned (.int .i64 0) ∧ Below W.heap.size W w') := fun w2 hb => by
    have hq : qMore ms.length most = ⟨(ms.length : Int), false, 5, true⟩ := by unfold qMore; rw [decide_eq_true hf]
    refine (first_lit w2 B most ms.length cv av ((hb.block B (blk_lt hB1)).trans hB1) [qMore ms.length most] 1 rfl (by omega) (fun q hq => .inl (List.mem_singleton.mp hq))).mono (fun e w' ⟨e1, e2⟩ => ⟨?_, hb.trans (e2.mono hb.size)⟩)
    rw [e1, hq]; rfl
  have k5 : Hid (∀ w3, Below W.heap.size W w3 → (w3.drew.cell? ⟨w.heap.size, 0, none⟩ = some (.int .u8 (m.say.toNat : Int)) ∧ w3.drew.cell? ⟨w.heap.size, 1, none⟩ = some (.int .u8 (m.src.toNat : Int)) ∧ w3.drew.cell? ⟨w.heap.size, 2, none⟩ = some (.int .u8 (m.dst.toNat : Int)) ∧ w3.drew.cell? ⟨w.heap.size, 3, none⟩ = some (.int .u32 (m.g.toNat : Int)) ∧ w3.drew.cell? ⟨w.heap.size, 4, none⟩ = some (.slice ao m.ops.length ca) ∧ w3.drew.cell? ⟨w.heap.size, 5, none⟩ = some (.slice bo l.length cb)) ∧
      Calls Try.prog 20 #[.agg #[.int .u8 (m.say.toNat : Int), .int .u8 (m.src.toNat : Int), .int .u8 (m.dst.toNat : Int), .int .u32 (m.g.toNat : Int), .slice ao m.ops.length ca, .slice bo l.length cb]] w3.drew fun e w4 => ∃ (d1 d2 n1 n2 : Nat) (a1 a2 : Option Addr), e = .returned (.agg #[.int .u8 (m.say.toNat : Int), .int .u8 (m.src.toNat : Int), .int .u8 (m.dst.toNat : Int), .int .u32 (m.g.toNat : Int), .slice a1 n1 d1, .slice a2 n2 d2]) ∧
        Calls Try.prog 19 #[ptr B, .agg #[.int .u8 (m.say.toNat : Int), .int .u8 (m.src.toNat : Int), .int .u8 (m.dst.toNat : Int), .int .u32 (m.g.toNat : Int), .slice a1 n1 d1, .slice a2 n2 d2]] w4 fun e w' => e = .returned (.tuple #[]) ∧ ∃ y : MsgO, y.d = m ∧ St S0 w0 w' (bagP B most (ms ++ [y]) :: L)) := fun w3 hb => by
    have b3 : Below W.heap.size W w3.drew := hb.trans ⟨rfl, rfl, rfl, Nat.le_refl _, fun _ _ => rfl⟩
    have st3 := st1.up b3
    refine ⟨six_cells st3.blk.1, ?_⟩
    have hm3 := ((hm.up b1).up b3)
    refine (apart_any w3.drew m _ _ l hm3 hlo hlr hlw).mono ?_
    rintro e w4 ⟨y, rfl, rfl, sy⟩
    have st4 := ((st3.drop).and sy)
    have hy := MsgO.at st4
    obtain ⟨a1, n1, a2, n2, e1, e2⟩ := hy.2.form
    have hv : y.v = .agg #[.int .u8 (y.d.say.toNat : Int), .int .u8 (y.d.src.toNat : Int), .int .u8 (y.d.dst.toNat : Int), .int .u32 (y.d.g.toNat : Int), .slice a1 y.d.ops.length n1, .slice a2 y.rs.length n2] := by show msgV _ _ _ = _; rw [e1, e2]; rfl
    refine ⟨_, _, _, _, _, _, congrArg _ hv, ?_⟩
    rw [← hv]
    refine (push_ok B most ms.length _ _ y a1 a2 _ _ _ _ e1 e2 (by omega) (st4.rt (K := [_, _, _, _]) 4 [1, 2, 3, 0] (by decide))).mono ?_
    rintro e w' ⟨rfl, v', st5⟩
    refine ⟨rfl, y, rfl, bag_shut (v := v') ?_⟩
    have e3 : (ms ++ [y]).flatMap MsgO.cells = ms.flatMap MsgO.cells ++ y.cells := by simp
    have e4 : (ms ++ [y]).map MsgO.part = ms.map MsgO.part ++ [y.part] := by simp
    rw [e3, e4, List.length_append, List.length_singleton]
    exact ((st5.rt (K := [_, _, _, _]) 4 [2, 3, 0, 1] (by decide)).snoc).rt (K := [_, _, _]) 3 [1, 2, 0] (by decide)
  unfold mdCells at hW
  unfold msgV
  clear h h1 hB1 hm st1 b1
  subst hW
  go_enter Try.func7, Try.ntmps7
  go_wp2_with fail
  refine k1.mono ?_
  rintro e w1 ⟨rfl, ew⟩
  rw [← ew]
  clear ew w1 k1
  go_wp2_with fail
  refine k2.mono ?_
  rintro e w2 ⟨rfl, bk⟩
  have k4 := k3.out w2 bk
  clear k3 k2 bk
  unfold askV
  go_wp2_with fail
  refine k4.mono ?_
  rintro e w3 ⟨rfl, b3⟩
  clear k4
  obtain ⟨⟨c0, c1, c2, c3, c4, c5⟩, kp⟩ := k5.out w3 b3
  clear k5 b3
  go_wp2_with fail
  go_region_law (first | (go_simp; go_at_call 20; refine kp.mono ?_; rintro e w4 ⟨d1, d2, n1, n2, a1, a2, rfl, kq⟩; clear kp c0 c1 c2 c3 c4 c5) | (go_simp; go_at_call 19; refine kq.mono ?_; rintro e w5 ⟨rfl, R⟩; clear kq))
  all_goals
    go_wp2
    go_ret
    exact ⟨rfl, R⟩
end Go.Proofs.Ytpmmdbdooclcoab
