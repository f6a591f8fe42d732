/- Messages that are not the same. -/
import Derived.Test.YtcgecdiaddcfkaaDoorPSameN
set_option linter.unusedSimpArgs false
set_option linter.unusedVariables false
namespace Go.Proofs.YtcgecdiaddcfkaaDoor
open Go.RowKit

set_option maxHeartbeats 2000000 in
set_option maxRecDepth 1000000 in
theorem sameBytes_not (w : World) (la lb : Nat) (va vb : Value) (l m : List UInt8) (ha : InAt w la va l) (hb : InAt w lb vb m) (hne : l ≠ m) :
    Calls Tryd.prog 12 #[va, vb] w fun e w' => e = .returned (.bool false) ∧ ∃ n, w' = w.drewN n := by
  obtain ⟨ao, ca, rfl, ha1, ha2, ha3⟩ := ha
  obtain ⟨bo, cb, rfl, hb1, hb2, hb3⟩ := hb
  unfold maxLen at ha2 hb2
  by_cases hlen : l.length = m.length
  · have hLE : Hid (l.length = m.length) := hlen
    rw [← hlen]
    go_enter Tryd.func12, Tryd.ntmps12
    clear hlen
    go_wp2
    go_loopw [5] (fun i wr => ∃ k n : Nat, k ≤ l.length ∧ i = .int .i64 k ∧ l.take k = m.take k ∧ wr = w.drewN n) (fun i _ => l.length - (intOf i).toNat)
    case atStart => exact ⟨0, 0, by omega, rfl, rfl, rfl⟩
    case round =>
      obtain ⟨k, n, hk, rfl, htk, rfl⟩ := hrel
      by_cases h1 : k < l.length
      · have h2 : k < m.length := by have := hLE.out; omega
        obtain ⟨b1, o1, rfl, hl1, hc1⟩ := ha3 (by omega)
        obtain ⟨b2, o2, rfl, hl2, hc2⟩ := hb3 (by omega)
        have p0 := hc1 k h1 0 _ rfl
        have q0 := hc2 k h2 0 _ rfl
        simp only [Nat.add_zero, Nat.mul_one, bv] at p0 q0
        have E : Hid (l[k]'h1 = m[k]'h2 → l.take (k + 1) = m.take (k + 1)) := fun e => by
          rw [List.take_succ_eq_append_getElem h1, List.take_succ_eq_append_getElem h2, htk, e]
        clear hc1 hc2 ha3 hb3 htk
        generalize l[k]'h1 = x at *
        generalize m[k]'h2 = y at *
        have i1 : (k : Int) < (l.length : Int) := by omega
        by_cases hxy : x = y
        · subst hxy
          have T : Hid (l.take (k + 1) = m.take (k + 1)) := E.out rfl
          clear E
          go_wp2
          go_quiet (fail)
          go_wp2
          go_roundw
          case rel => exact ⟨k + 1, _, by omega, by go_num, T.out, rfl⟩
          case measure => simp [intOf]; omega
        · have n1 : ((x.toNat : Int) != (y.toNat : Int)) = true := by
            rw [bne_iff_ne]
            intro e
            exact hxy (UInt8.toNat_inj.1 (by omega))
          go_wp2
          go_quiet (fail)
          go_wp2
          go_ret
          exact ⟨rfl, _, World.drewN_drewN _ _ _⟩
      · exfalso
        have := hLE.out
        rw [List.take_of_length_le (by omega), List.take_of_length_le (by omega)] at htk
        exact hne htk
  · have n1 : ¬ (l.length : Int) = (m.length : Int) := by omega
    have n2 : ((l.length : Int) != (m.length : Int)) = true := by rw [bne_iff_ne]; exact n1
    clear ha3 hb3
    go_enter Tryd.func12, Tryd.ntmps12
    go_wp2
    go_ret
    exact ⟨rfl, 0, rfl⟩
set_option maxHeartbeats 2000000 in
set_option maxRecDepth 1000000 in
theorem sameMsg_n0 (w : World) (vo vr uo ur : Value) (m n : MsgD) (l k : List ResP) (h1 : MsgAt w w.heap.size vo vr m l) (h2 : MsgAt w w.heap.size uo ur n k) (e0 : m.say ≠ n.say) :
    Calls Tryd.prog 11 #[msgV m vo vr, msgV n uo ur] w fun e w' => e = .returned (.bool false) ∧ Below w.heap.size w w' := by
  obtain ⟨ao, ca, bo, cb, rfl, rfl⟩ := h1.form
  obtain ⟨co, cc, eo, ce, rfl, rfl⟩ := h2.form
  unfold msgV
  have t0 : ((m.say.toNat : Int) == (n.say.toNat : Int)) = false := by rw [beq_eq_false_iff_ne]; intro e; exact e0 (UInt8.toNat_inj.1 (by omega))
  obtain ⟨W, hW⟩ : ∃ W, W = (w.alloc (.cells #[.int .u8 (m.say.toNat : Int), .int .u8 (m.src.toNat : Int), .int .u8 (m.dst.toNat : Int), .int .u32 (m.g.toNat : Int), .slice ao m.ops.length ca, .slice bo l.length cb] 27)).alloc (.cells #[.int .u8 (n.say.toNat : Int), .int .u8 (n.src.toNat : Int), .int .u8 (n.dst.toNat : Int), .int .u32 (n.g.toNat : Int), .slice co n.ops.length cc, .slice eo k.length ce] 27) := ⟨_, rfl⟩
  have B0 : Below w.heap.size w W := by rw [hW]; exact ((Below.refl _ _).alloc (Nat.le_refl _) _).alloc (by simp) _
  have z0 : Hid _ := B0
  clear h1 h2 e0 B0
  subst hW
  go_enter Tryd.func11, Tryd.ntmps11
  go_wp2
  go_ret
  exact ⟨rfl, z0.out⟩

set_option maxHeartbeats 2000000 in
set_option maxRecDepth 1000000 in
theorem sameMsg_n1 (w : World) (vo vr uo ur : Value) (m n : MsgD) (l k : List ResP) (h1 : MsgAt w w.heap.size vo vr m l) (h2 : MsgAt w w.heap.size uo ur n k) (e0 : m.say = n.say) (e1 : m.src ≠ n.src) :
    Calls Tryd.prog 11 #[msgV m vo vr, msgV n uo ur] w fun e w' => e = .returned (.bool false) ∧ Below w.heap.size w w' := by
  obtain ⟨ao, ca, bo, cb, rfl, rfl⟩ := h1.form
  obtain ⟨co, cc, eo, ce, rfl, rfl⟩ := h2.form
  unfold msgV
  have t0 : ((m.say.toNat : Int) == (n.say.toNat : Int)) = true := by rw [e0]; exact beq_self_eq_true _
  have t1 : ((m.src.toNat : Int) == (n.src.toNat : Int)) = false := by rw [beq_eq_false_iff_ne]; intro e; exact e1 (UInt8.toNat_inj.1 (by omega))
  obtain ⟨W, hW⟩ : ∃ W, W = (w.alloc (.cells #[.int .u8 (m.say.toNat : Int), .int .u8 (m.src.toNat : Int), .int .u8 (m.dst.toNat : Int), .int .u32 (m.g.toNat : Int), .slice ao m.ops.length ca, .slice bo l.length cb] 27)).alloc (.cells #[.int .u8 (n.say.toNat : Int), .int .u8 (n.src.toNat : Int), .int .u8 (n.dst.toNat : Int), .int .u32 (n.g.toNat : Int), .slice co n.ops.length cc, .slice eo k.length ce] 27) := ⟨_, rfl⟩
  have B0 : Below w.heap.size w W := by rw [hW]; exact ((Below.refl _ _).alloc (Nat.le_refl _) _).alloc (by simp) _
  have z0 : Hid _ := B0
  clear h1 h2 e0 e1 B0
  subst hW
  go_enter Tryd.func11, Tryd.ntmps11
  go_wp2
  go_ret
  exact ⟨rfl, z0.out⟩

set_option maxHeartbeats 2000000 in
set_option maxRecDepth 1000000 in
theorem sameMsg_n2 (w : World) (vo vr uo ur : Value) (m n : MsgD) (l k : List ResP) (h1 : MsgAt w w.heap.size vo vr m l) (h2 : MsgAt w w.heap.size uo ur n k) (e0 : m.say = n.say) (e1 : m.src = n.src) (e2 : m.dst ≠ n.dst) :
    Calls Tryd.prog 11 #[msgV m vo vr, msgV n uo ur] w fun e w' => e = .returned (.bool false) ∧ Below w.heap.size w w' := by
  obtain ⟨ao, ca, bo, cb, rfl, rfl⟩ := h1.form
  obtain ⟨co, cc, eo, ce, rfl, rfl⟩ := h2.form
  unfold msgV
  have t0 : ((m.say.toNat : Int) == (n.say.toNat : Int)) = true := by rw [e0]; exact beq_self_eq_true _
  have t1 : ((m.src.toNat : Int) == (n.src.toNat : Int)) = true := by rw [e1]; exact beq_self_eq_true _
  have t2 : ((m.dst.toNat : Int) == (n.dst.toNat : Int)) = false := by rw [beq_eq_false_iff_ne]; intro e; exact e2 (UInt8.toNat_inj.1 (by omega))
  obtain ⟨W, hW⟩ : ∃ W, W = (w.alloc (.cells #[.int .u8 (m.say.toNat : Int), .int .u8 (m.src.toNat : Int), .int .u8 (m.dst.toNat : Int), .int .u32 (m.g.toNat : Int), .slice ao m.ops.length ca, .slice bo l.length cb] 27)).alloc (.cells #[.int .u8 (n.say.toNat : Int), .int .u8 (n.src.toNat : Int), .int .u8 (n.dst.toNat : Int), .int .u32 (n.g.toNat : Int), .slice co n.ops.length cc, .slice eo k.length ce] 27) := ⟨_, rfl⟩
  have B0 : Below w.heap.size w W := by rw [hW]; exact ((Below.refl _ _).alloc (Nat.le_refl _) _).alloc (by simp) _
  have z0 : Hid _ := B0
  clear h1 h2 e0 e1 e2 B0
  subst hW
  go_enter Tryd.func11, Tryd.ntmps11
  go_wp2
  go_ret
  exact ⟨rfl, z0.out⟩

set_option maxHeartbeats 2000000 in
set_option maxRecDepth 1000000 in
theorem sameMsg_n3 (w : World) (vo vr uo ur : Value) (m n : MsgD) (l k : List ResP) (h1 : MsgAt w w.heap.size vo vr m l) (h2 : MsgAt w w.heap.size uo ur n k) (e0 : m.say = n.say) (e1 : m.src = n.src) (e2 : m.dst = n.dst) (e3 : m.g ≠ n.g) :
    Calls Tryd.prog 11 #[msgV m vo vr, msgV n uo ur] w fun e w' => e = .returned (.bool false) ∧ Below w.heap.size w w' := by
  obtain ⟨ao, ca, bo, cb, rfl, rfl⟩ := h1.form
  obtain ⟨co, cc, eo, ce, rfl, rfl⟩ := h2.form
  unfold msgV
  have t0 : ((m.say.toNat : Int) == (n.say.toNat : Int)) = true := by rw [e0]; exact beq_self_eq_true _
  have t1 : ((m.src.toNat : Int) == (n.src.toNat : Int)) = true := by rw [e1]; exact beq_self_eq_true _
  have t2 : ((m.dst.toNat : Int) == (n.dst.toNat : Int)) = true := by rw [e2]; exact beq_self_eq_true _
  have t3 : ((m.g.toNat : Int) == (n.g.toNat : Int)) = false := by rw [beq_eq_false_iff_ne]; intro e; exact e3 (UInt32.toNat_inj.1 (by omega))
  obtain ⟨W, hW⟩ : ∃ W, W = (w.alloc (.cells #[.int .u8 (m.say.toNat : Int), .int .u8 (m.src.toNat : Int), .int .u8 (m.dst.toNat : Int), .int .u32 (m.g.toNat : Int), .slice ao m.ops.length ca, .slice bo l.length cb] 27)).alloc (.cells #[.int .u8 (n.say.toNat : Int), .int .u8 (n.src.toNat : Int), .int .u8 (n.dst.toNat : Int), .int .u32 (n.g.toNat : Int), .slice co n.ops.length cc, .slice eo k.length ce] 27) := ⟨_, rfl⟩
  have B0 : Below w.heap.size w W := by rw [hW]; exact ((Below.refl _ _).alloc (Nat.le_refl _) _).alloc (by simp) _
  have z0 : Hid _ := B0
  clear h1 h2 e0 e1 e2 e3 B0
  subst hW
  go_enter Tryd.func11, Tryd.ntmps11
  go_wp2
  go_ret
  exact ⟨rfl, z0.out⟩

set_option maxHeartbeats 2000000 in
set_option maxRecDepth 1000000 in
theorem sameMsg_n4 (w : World) (vo vr uo ur : Value) (m n : MsgD) (l k : List ResP) (h1 : MsgAt w w.heap.size vo vr m l) (h2 : MsgAt w w.heap.size uo ur n k) (e0 : m.say = n.say) (e1 : m.src = n.src) (e2 : m.dst = n.dst) (e3 : m.g = n.g) (e4 : m.ops ≠ n.ops) :
    Calls Tryd.prog 11 #[msgV m vo vr, msgV n uo ur] w fun e w' => e = .returned (.bool false) ∧ Below w.heap.size w w' := by
  obtain ⟨ao, ca, bo, cb, rfl, rfl⟩ := h1.form
  obtain ⟨co, cc, eo, ce, rfl, rfl⟩ := h2.form
  unfold msgV
  have t0 : ((m.say.toNat : Int) == (n.say.toNat : Int)) = true := by rw [e0]; exact beq_self_eq_true _
  have t1 : ((m.src.toNat : Int) == (n.src.toNat : Int)) = true := by rw [e1]; exact beq_self_eq_true _
  have t2 : ((m.dst.toNat : Int) == (n.dst.toNat : Int)) = true := by rw [e2]; exact beq_self_eq_true _
  have t3 : ((m.g.toNat : Int) == (n.g.toNat : Int)) = true := by rw [e3]; exact beq_self_eq_true _
  obtain ⟨W, hW⟩ : ∃ W, W = (w.alloc (.cells #[.int .u8 (m.say.toNat : Int), .int .u8 (m.src.toNat : Int), .int .u8 (m.dst.toNat : Int), .int .u32 (m.g.toNat : Int), .slice ao m.ops.length ca, .slice bo l.length cb] 27)).alloc (.cells #[.int .u8 (n.say.toNat : Int), .int .u8 (n.src.toNat : Int), .int .u8 (n.dst.toNat : Int), .int .u32 (n.g.toNat : Int), .slice co n.ops.length cc, .slice eo k.length ce] 27) := ⟨_, rfl⟩
  have B0 : Below w.heap.size w W := by rw [hW]; exact ((Below.refl _ _).alloc (Nat.le_refl _) _).alloc (by simp) _
  have ko := sameOps_not W _ _ _ _ _ _ (h1.up B0).ops (h2.up B0).ops e4
  have fin : ∀ n, Below w.heap.size w (W.drewN n) := fun n => B0.trans ((below_drewN W n).mono B0.size)
  clear h1 h2 e0 e1 e2 e3 e4 B0
  subst hW
  go_enter Tryd.func11, Tryd.ntmps11
  go_wp2_with fail
  refine ko.mono ?_
  rintro e w1 ⟨rfl, n1, rfl⟩
  have b1 := fin n1
  clear ko fin
  go_wp2
  go_ret
  exact ⟨rfl, b1⟩

set_option maxHeartbeats 2000000 in
set_option maxRecDepth 1000000 in
theorem sameMsg_n5 (w : World) (vo vr uo ur : Value) (m n : MsgD) (l k : List ResP) (h1 : MsgAt w w.heap.size vo vr m l) (h2 : MsgAt w w.heap.size uo ur n k) (e0 : m.say = n.say) (e1 : m.src = n.src) (e2 : m.dst = n.dst) (e3 : m.g = n.g) (e4 : m.ops = n.ops) (e5 : m.res ≠ n.res) :
    Calls Tryd.prog 11 #[msgV m vo vr, msgV n uo ur] w fun e w' => e = .returned (.bool false) ∧ Below w.heap.size w w' := by
  obtain ⟨ao, ca, bo, cb, rfl, rfl⟩ := h1.form
  obtain ⟨co, cc, eo, ce, rfl, rfl⟩ := h2.form
  unfold msgV
  have t0 : ((m.say.toNat : Int) == (n.say.toNat : Int)) = true := by rw [e0]; exact beq_self_eq_true _
  have t1 : ((m.src.toNat : Int) == (n.src.toNat : Int)) = true := by rw [e1]; exact beq_self_eq_true _
  have t2 : ((m.dst.toNat : Int) == (n.dst.toNat : Int)) = true := by rw [e2]; exact beq_self_eq_true _
  have t3 : ((m.g.toNat : Int) == (n.g.toNat : Int)) = true := by rw [e3]; exact beq_self_eq_true _
  obtain ⟨W, hW⟩ : ∃ W, W = (w.alloc (.cells #[.int .u8 (m.say.toNat : Int), .int .u8 (m.src.toNat : Int), .int .u8 (m.dst.toNat : Int), .int .u32 (m.g.toNat : Int), .slice ao m.ops.length ca, .slice bo l.length cb] 27)).alloc (.cells #[.int .u8 (n.say.toNat : Int), .int .u8 (n.src.toNat : Int), .int .u8 (n.dst.toNat : Int), .int .u32 (n.g.toNat : Int), .slice co n.ops.length cc, .slice eo k.length ce] 27) := ⟨_, rfl⟩
  have B0 : Below w.heap.size w W := by rw [hW]; exact ((Below.refl _ _).alloc (Nat.le_refl _) _).alloc (by simp) _
  have H1 := h1.up B0
  have H2 := h2.up B0
  have H2o : SlAt 4 opCells W W.heap.size (.slice co n.ops.length cc) m.ops := by rw [e4]; exact H2.ops
  have ko := sameOps_any W _ _ _ _ m.ops H1.ops H2o
  have kr := fun q => sameResults_not (W.drewN q) _ _ l k (H1.up (below_drewN W q)).res (H2.up (below_drewN W q)).res (by rw [h1.eq, h2.eq]; exact e5)
  have c5 : ∀ q, (W.drewN q).cell? ⟨w.heap.size, 5, none⟩ = some (.slice bo l.length cb) := fun q => by
    show W.cell? ⟨w.heap.size, 5, none⟩ = _
    rw [hW]; go_simp
  have d5 : ∀ q, (W.drewN q).cell? ⟨w.heap.size + 1, 5, none⟩ = some (.slice eo k.length ce) := fun q => by
    show W.cell? ⟨w.heap.size + 1, 5, none⟩ = _
    rw [hW]; go_simp
  have fin : ∀ q, Below w.heap.size w (W.drewN q) := fun q => B0.trans ((below_drewN W q).mono B0.size)
  clear h1 h2 H1 H2 H2o e0 e1 e2 e3 e4 e5 B0
  subst hW
  go_enter Tryd.func11, Tryd.ntmps11
  go_wp2_with fail
  refine ko.mono ?_
  rintro e w1 ⟨rfl, n1, rfl⟩
  have b1 := fin n1
  have k3 := kr n1
  have f5 := c5 n1
  have g5 := d5 n1
  clear ko kr fin c5 d5
  generalize World.drewN _ n1 = w2 at *
  go_wp2_with fail
  refine k3.mono ?_
  rintro e w3 ⟨rfl, b3⟩
  have b4 := b1.trans (b3.mono b1.size)
  clear k3 f5 g5 b1 b3
  go_wp2
  go_ret
  exact ⟨rfl, b4⟩

theorem sameMsg_not (w : World) (vo vr uo ur : Value) (m n : MsgD) (l k : List ResP) (h1 : MsgAt w w.heap.size vo vr m l) (h2 : MsgAt w w.heap.size uo ur n k) (hne : m ≠ n) :
    Calls Tryd.prog 11 #[msgV m vo vr, msgV n uo ur] w fun e w' => e = .returned (.bool false) ∧ Below w.heap.size w w' := by
  by_cases e0 : m.say = n.say
  case neg => exact sameMsg_n0 w vo vr uo ur m n l k h1 h2 e0
  by_cases e1 : m.src = n.src
  case neg => exact sameMsg_n1 w vo vr uo ur m n l k h1 h2 e0 e1
  by_cases e2 : m.dst = n.dst
  case neg => exact sameMsg_n2 w vo vr uo ur m n l k h1 h2 e0 e1 e2
  by_cases e3 : m.g = n.g
  case neg => exact sameMsg_n3 w vo vr uo ur m n l k h1 h2 e0 e1 e2 e3
  by_cases e4 : m.ops = n.ops
  case neg => exact sameMsg_n4 w vo vr uo ur m n l k h1 h2 e0 e1 e2 e3 e4
  by_cases e5 : m.res = n.res
  case neg => exact sameMsg_n5 w vo vr uo ur m n l k h1 h2 e0 e1 e2 e3 e4 e5
  exfalso
  apply hne
  cases m
  cases n
  simp only at e0 e1 e2 e3 e4 e5
  rw [e0, e1, e2, e3, e4, e5]
end Go.Proofs.YtcgecdiaddcfkaaDoor
