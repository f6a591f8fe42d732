/- Texts of this proof, laid into one. -/
import Derived.Test.YtcgecdiaddcfkaaGreatDoorM24
import Derived.Test.YtcgecdiaddcfkaaGreatDoorM23
/- The walks of how much a message has in it, with bounds from above and below. -/
set_option linter.unusedSimpArgs false
set_option linter.unusedVariables false
namespace Go.Proofs.YtcgecdiaddcfkaaGreatDoor
open Go.RowKit

set_option maxHeartbeats 2000000 in
set_option maxRecDepth 1000000 in
theorem sizeOpB_any (w : World) (la : Nat) (va : Value) (l : List OpD) (ha : SlAt 4 opCells w la va l) (hsm : ∀ x ∈ l, opSz x) (hbl : l.length ≤ 140737488351232) :
    Calls Tryz.prog 21 #[va] w fun e w' => (∃ z : Int, e = .returned (.int .i64 z) ∧ (l.length : Int) ≤ z ∧ z ≤ 562949953421312) ∧ ∃ n, w' = w.drewN n := by
  obtain ⟨ao, ca, rfl, ha1, ha2, ha3⟩ := ha
  unfold maxLen at ha2
  go_enter Tryz.func21, Tryz.ntmps21
  go_wp2
  go_loopw [3, 4] (fun s i wr => ∃ (k n : Nat) (z : Int), k ≤ l.length ∧ i = .int .i64 k ∧ s = .int .i64 z ∧ (l.length : Int) ≤ z ∧ z ≤ 562949953421312 ∧ wr = w.drewN n) (fun _ i _ => l.length - (intOf i).toNat)
  case atStart => exact ⟨0, 0, _, by omega, rfl, rfl, Int.le_refl _, by omega, rfl⟩
  case round =>
    obtain ⟨k, n, z, hk, rfl, rfl, hzl, hzu, rfl⟩ := hrel
    by_cases h1 : k < l.length
    · by_cases h2 : z ≤ 1048576
      · obtain ⟨b1, o1, rfl, hl1, hc1⟩ := ha3 (by omega)
        obtain ⟨x, hx⟩ : ∃ x, x = l[k]'h1 := ⟨_, rfl⟩
        have hxs := hsm x (by rw [hx]; exact List.getElem_mem _)
        have p : ∀ j u, (opCells x)[j]? = some u → w.cell? ⟨b1, o1 + k * 4 + j, none⟩ = some u := fun j u hu => hc1 k h1 j u (by rw [← hx]; exact hu)
        have p0 := p 0 _ rfl
        have p1 := p 1 _ rfl
        have p2 := p 2 _ rfl
        have p3 := p 3 _ rfl
        simp only [Nat.add_zero, Nat.mul_one] at p0
        have HS : Hid (opSz x) := hxs
        clear p hx hc1 ha3 hxs
        have i1 : (k : Int) < (l.length : Int) := by omega
        go_wp2
        go_quiet (fail)
        go_wp2
        go_roundw
        case rel =>
          have hS := HS.out
          unfold opSz at hS
          refine ⟨k + 1, _, _, by omega, by go_num, rfl, ?_, ?_, rfl⟩
          all_goals
            try unfold wrap64
            try simp only [IntKind.wrap_i64]
            omega
        case measure => simp [intOf]; omega
      · clear ha3
        go_wp2
        go_ret
        exact ⟨⟨_, rfl, hzl, hzu⟩, n, rfl⟩
    · clear ha3
      go_wp2
      go_ret
      exact ⟨⟨_, rfl, hzl, hzu⟩, n, rfl⟩

set_option maxHeartbeats 2000000 in
set_option maxRecDepth 1000000 in
theorem sizeResultsB_any (w : World) (va : Value) (l : List ResP) (ha : ResAt w w.heap.size va l) (hs : ∀ p ∈ l, resSz p) (hbl : l.length ≤ 140737488351232) :
    Calls Tryz.prog 22 #[va] w fun e w' => (∃ z : Int, e = .returned (.int .i64 z) ∧ (l.length : Int) ≤ z ∧ z ≤ 562949953421312 ∧ (z ≤ 1048576 → ∀ p ∈ l, (p.2.length : Int) ≤ z)) ∧ Below w.heap.size w w' := by
  obtain ⟨⟨ao, ca, rfl, ha1, ha2, ha3⟩, hra⟩ := ha
  unfold maxLen at ha2
  go_enter Tryz.func22, Tryz.ntmps22
  go_wp2
  go_loopw [3, 4] (fun s i wr => ∃ (k : Nat) (z : Int), k ≤ l.length ∧ i = .int .i64 k ∧ s = .int .i64 z ∧ (l.length : Int) ≤ z ∧ z ≤ 562949953421312 ∧ (∀ p ∈ l.take k, (p.2.length : Int) ≤ z) ∧ Below w.heap.size w wr) (fun _ i _ => l.length - (intOf i).toNat)
  case atStart => exact ⟨0, _, by omega, rfl, rfl, Int.le_refl _, by omega, (fun p hp => by simp at hp), Below.refl _ _⟩
  case round =>
    obtain ⟨k, z, hk, rfl, rfl, hzl, hzu, hzp0, hB⟩ := hrel
    have hzp : Hid (∀ p ∈ l.take k, (p.2.length : Int) ≤ z) := hzp0
    clear hzp0
    by_cases h1 : k < l.length
    · by_cases h2 : z ≤ 1048576
      · obtain ⟨b1, o1, rfl, hl1, hc1⟩ := ha3 (by omega)
        have hz := hB.size
        obtain ⟨x, hx⟩ : ∃ x, x = l[k]'h1 := ⟨_, rfl⟩
        have hxm : x ∈ l := by rw [hx]; exact List.getElem_mem _
        have p0 : wr.cell? ⟨b1, o1 + k, none⟩ = some x.1 := by
          rw [hB.cell hl1]
          have := hc1 k h1 0 x.1 (by rw [← hx]; rfl)
          simpa using this
        have r1 : RowsAt wr w.heap.size x := (hra x hxm).below hB (Nat.le_refl _)
        have kS := sizeResult_any wr w.heap.size x r1 (hs x hxm) hz
        have hzn : Hid (∀ z' : Int, z ≤ z' → (x.2.length : Int) ≤ z' → ∀ p ∈ l.take (k + 1), (p.2.length : Int) ≤ z') := fun z' h1' h2' p hp => by
          rw [List.take_succ_eq_append_getElem h1] at hp
          rcases List.mem_append.mp hp with hp | hp
          · have := hzp.out p hp; omega
          · rw [List.mem_singleton.mp hp, ← hx]; exact h2'
        clear hx hxm
        obtain ⟨vx, rx⟩ := x
        obtain ⟨ax, cx, hvx, -, -, -⟩ := r1.1
        simp only at hvx p0
        subst hvx
        unfold resV at kS
        simp only at kS
        clear hc1 ha3 r1 hra hs
        have i1 : (k : Int) < (l.length : Int) := by omega
        go_wp2_with fail
        refine kS.mono ?_
        rintro e w1 ⟨⟨z1, rfl, hz1, hz2⟩, b1'⟩
        have f1 := hB.trans (b1'.mono hz)
        clear kS b1'
        go_wp2
        go_roundw
        case rel =>
          refine ⟨k + 1, _, by omega, by go_num, rfl, ?_, ?_, hzn.out _ ?_ ?_, f1⟩
          all_goals
            try unfold wrap64
            try simp only [IntKind.wrap_i64]
            omega
        case measure => simp [intOf]; omega
      · clear ha3 hra hs
        go_wp2
        go_ret
        exact ⟨⟨_, rfl, hzl, hzu, fun h => absurd h (by omega)⟩, hB⟩
    · obtain rfl : k = l.length := by omega
      have hzp2 : Hid (∀ p ∈ l, (p.2.length : Int) ≤ z) := fun p hp => hzp.out p (by rw [List.take_of_length_le (Nat.le_refl _)]; exact hp)
      clear ha3 hra hs hzp
      go_wp2
      go_ret
      exact ⟨⟨_, rfl, hzl, hzu, fun _ => hzp2.out⟩, hB⟩

set_option maxHeartbeats 2000000 in
set_option maxRecDepth 1000000 in
theorem msgSizeB_any (w : World) (vo vr : Value) (m : MsgD) (l : List ResP) (h : MsgAt w w.heap.size vo vr m l) (ho : ∀ x ∈ m.ops, opSz x) (hr : ∀ p ∈ l, resSz p) (hl1 : m.ops.length ≤ 140737488351232) (hl2 : l.length ≤ 140737488351232) :
    Calls Tryz.prog 5 #[msgV m vo vr] w fun e w' => (∃ z : Int, e = .returned (.int .i64 z) ∧ (z ≤ 5000 → m.ops.length ≤ 5000 ∧ l.length ≤ 5000 ∧ ∀ p ∈ l, p.2.length ≤ 5000)) ∧ Below w.heap.size w w' := by
  obtain ⟨ao, ca, bo, cb, rfl, rfl⟩ := h.form
  unfold msgV
  obtain ⟨W, hW⟩ : ∃ W, W = w.alloc (.cells #[.int .u8 (m.say.toNat : Int), .int .u8 (m.src.toNat : Int), .int .u8 (m.dst.toNat : Int), .int .u32 (m.g.toNat : Int), .slice ao m.ops.length ca, .slice bo l.length cb] 27) := ⟨_, rfl⟩
  have B0 : Below w.heap.size w W := by rw [hW]; exact below_one w _
  have HW := h.up B0
  have k1 := sizeOpB_any W _ _ _ HW.ops ho hl1
  have k2 := fun n => sizeResultsB_any (W.drewN n) _ l (HW.up (below_drewN W n)).res hr hl2
  have c5 : ∀ n, (W.drewN n).cell? ⟨w.heap.size, 5, none⟩ = some (.slice bo l.length cb) := fun n => by
    show W.cell? ⟨w.heap.size, 5, none⟩ = _
    rw [hW]; go_simp
  have fin : ∀ n, Below w.heap.size w (W.drewN n) := fun n => B0.trans ((below_drewN W n).mono B0.size)
  have hout : Hid (∀ z1 z2 z : Int, (m.ops.length : Int) ≤ z1 → (l.length : Int) ≤ z2 → 0 ≤ z1 → 0 ≤ z2 → (z2 ≤ 1048576 → ∀ p ∈ l, (p.2.length : Int) ≤ z2) → z = 1 + z1 + z2 → z ≤ 5000 → m.ops.length ≤ 5000 ∧ l.length ≤ 5000 ∧ ∀ p ∈ l, p.2.length ≤ 5000) := fun z1 z2 z h1 h2 h3 h4 h5 h6 h7 => ⟨by omega, by omega, fun p hp => by have := h5 (by omega) p hp; omega⟩
  clear B0 HW h ho hr
  subst hW
  go_enter Tryz.func5, Tryz.ntmps5
  go_wp2_with fail
  refine k1.mono ?_
  rintro e w1 ⟨⟨z1, rfl, hz1, hz1u⟩, n1, rfl⟩
  obtain ⟨y, hy⟩ : ∃ y, IntKind.i64.wrap (1 + z1) = y := ⟨_, rfl⟩
  have hy2 : Hid (y = 1 + z1) := by show _ = _; rw [← hy, IntKind.wrap_i64]; omega
  have b1 := fin n1
  have k3 := k2 n1
  have d5 := c5 n1
  clear k1 k2 fin c5
  generalize World.drewN _ n1 = w2 at *
  by_cases hle : y ≤ 1048576
  · go_wp2_with fail
    refine k3.mono ?_
    rintro e w3 ⟨⟨z2, rfl, hz2, hz2u, hz2p⟩, b3⟩
    have b4 := b1.trans (b3.mono b1.size)
    have hz2p' : Hid _ := hz2p
    clear k3 d5 b1 b3 hz2p
    go_wp2
    go_ret
    have e1 := hy2.out
    refine ⟨⟨_, rfl, hout.out z1 z2 _ hz1 hz2 (by omega) (by omega) hz2p'.out ?_⟩, b4⟩
    try unfold wrap64
    try simp only [IntKind.wrap_i64]
    omega
  · clear k3 d5
    go_wp2
    go_ret
    exact ⟨⟨_, rfl, fun h => absurd h (by omega)⟩, b1⟩
end Go.Proofs.YtcgecdiaddcfkaaGreatDoor
/- The walk of LeftMsg: a message's copy against what it was copied from. -/
set_option linter.unusedSimpArgs false
set_option linter.unusedVariables false
namespace Go.Proofs.YtcgecdiaddcfkaaGreatDoor
open Go.RowKit

set_option maxHeartbeats 2000000 in
set_option maxRecDepth 1000000 in
theorem leftMsg_any (w : World) (q1 q2 sb : Nat) (vo vr : Value) (m : MsgD) (l ms : List ResP) (h : MsgAt w w.heap.size vo vr m l) (hms : ms.map (·.2) = l.map (·.2))
    (o1 : w.ownsRow q1 85 4 (.slice (some ⟨q1, 0, none⟩) (m.ops.length + 1) (m.ops.length + 1)) (m.ops.length + 1) (m.ops.flatMap opCells ++ spareOp)) (hT : TwRes w q2 ms)
    (o2 : w.ownsRow q2 89 1 (.slice (some ⟨q2, 0, none⟩) (l.length + 1) (l.length + 1)) (l.length + 1) (ms.flatMap resCells ++ [.slice (some ⟨sb, 0, none⟩) 1 1])) (hsb : w.heap[sb]? = some (.cells #[.string ⟨#[115, 112, 97, 114, 101]⟩, .int .u32 0] 92 (0, 0))) :
    Calls Tryz.prog 12 #[msgV m (.slice (some ⟨q1, 0, none⟩) m.ops.length (m.ops.length + 1)) (.slice (some ⟨q2, 0, none⟩) l.length (l.length + 1)), msgV m vo vr] w fun e w' => e = .returned (.bool true) ∧ Below w.heap.size w w' := by
  obtain ⟨ao, ca, bo, cb, rfl, rfl⟩ := h.form
  unfold msgV
  obtain ⟨W, hW⟩ : ∃ W, W = (w.alloc (.cells #[.int .u8 (m.say.toNat : Int), .int .u8 (m.src.toNat : Int), .int .u8 (m.dst.toNat : Int), .int .u32 (m.g.toNat : Int), .slice (some ⟨q1, 0, none⟩) m.ops.length (m.ops.length + 1), .slice (some ⟨q2, 0, none⟩) l.length (l.length + 1)] 27)).alloc (.cells #[.int .u8 (m.say.toNat : Int), .int .u8 (m.src.toNat : Int), .int .u8 (m.dst.toNat : Int), .int .u32 (m.g.toNat : Int), .slice ao m.ops.length ca, .slice bo l.length cb] 27) := ⟨_, rfl⟩
  have B0 : Below w.heap.size w W := by rw [hW]; exact ((Below.refl _ _).alloc (Nat.le_refl _) _).alloc (by simp) _
  have H := h.up B0
  have ko := leftOp_any W q1 q1 _ _ _ m.ops (own_below o1 B0) H.ops
  have kr := fun W' (hb : Below W.heap.size W W') => leftResults_any W' q2 q2 q2 sb _ _ (.slice bo l.length cb) l ms hms (hT.below (B0.trans (hb.mono B0.size))) (own_below o2 (B0.trans (hb.mono B0.size))) (((B0.trans (hb.mono B0.size)).block _ (ltT hsb)).trans hsb) (H.up hb).res (Nat.le_refl _)
  have hp : Hid (∀ j, j < 6 → W.cell? ⟨w.heap.size, j, none⟩ = [Value.int .u8 (m.say.toNat : Int), .int .u8 (m.src.toNat : Int), .int .u8 (m.dst.toNat : Int), .int .u32 (m.g.toNat : Int), .slice (some ⟨q1, 0, none⟩) m.ops.length (m.ops.length + 1), .slice (some ⟨q2, 0, none⟩) l.length (l.length + 1)][j]?) := fun j hj => by
    rw [hW]
    match j, hj with
    | 0, _ => go_simp
    | 1, _ => go_simp
    | 2, _ => go_simp
    | 3, _ => go_simp
    | 4, _ => go_simp
    | 5, _ => go_simp
  have c5 : ∀ W', Below W.heap.size W W' → W'.cell? ⟨w.heap.size, 5, none⟩ = some (.slice (some ⟨q2, 0, none⟩) l.length (l.length + 1)) := fun W' hb => by
    rw [hb.cell (by rw [hW]; simp; omega)]
    exact hp.out 5 (by omega)
  have e5 : ∀ W', Below W.heap.size W W' → W'.cell? ⟨w.heap.size + 1, 5, none⟩ = some (.slice bo l.length cb) := fun W' hb => by
    rw [hb.cell (by rw [hW]; simp)]
    rw [hW]; go_simp
  have fin : ∀ W', Below W.heap.size W W' → Below w.heap.size w W' := fun W' hb => B0.trans (hb.mono B0.size)
  clear B0 H h hp o1 o2 hT hsb hms
  subst hW
  go_enter Tryz.func12, Tryz.ntmps12
  go_wp2_with fail
  refine ko.mono ?_
  rintro e w1 ⟨rfl, hb⟩
  have b1 := fin w1 hb
  have k3 := kr w1 hb
  have d5 := c5 w1 hb
  have f5 := e5 w1 hb
  clear ko kr fin c5 e5 hb
  go_wp2_with fail
  refine k3.mono ?_
  rintro e w3 ⟨rfl, b3⟩
  have b4 := b1.trans (b3.mono b1.size)
  clear k3 d5 f5 b1 b3
  go_wp2
  go_ret
  exact ⟨rfl, b4⟩
end Go.Proofs.YtcgecdiaddcfkaaGreatDoor
/- A message's copy in memory of its own: what holds of it, and how a book takes it. -/
set_option linter.unusedSimpArgs false
set_option linter.unusedVariables false
namespace Go.Proofs.YtcgecdiaddcfkaaGreatDoor
open Go.RowKit

/-- The copy of a message: its ops in block q1, its results (n of them, ms) in block q2, the spare ones behind them. -/
structure TwP (w : World) (q1 q2 sb : Nat) (m : MsgD) (n : Nat) (ms : List ResP) : Prop where
  ops : w.ownsRow q1 85 4 (.slice (some ⟨q1, 0, none⟩) (m.ops.length + 1) (m.ops.length + 1)) (m.ops.length + 1) (m.ops.flatMap opCells ++ spareOp)
  rows : TwRes w q2 ms
  own : w.ownsRow q2 89 1 (.slice (some ⟨q2, 0, none⟩) (n + 1) (n + 1)) (n + 1) (ms.flatMap resCells ++ [.slice (some ⟨sb, 0, none⟩) 1 1])
  sp : w.heap[sb]? = some (.cells #[.string ⟨#[115, 112, 97, 114, 101]⟩, .int .u32 0] 92 (0, 0))
  len : ms.length = n
theorem TwP.below {w w' : World} {q1 q2 sb n : Nat} {m : MsgD} {ms : List ResP} (h : TwP w q1 q2 sb m n ms) (hb : Below w.heap.size w w') : TwP w' q1 q2 sb m n ms :=
  ⟨own_below h.ops hb, h.rows.below hb, own_below h.own hb, (hb.block sb (ltT h.sp)).trans h.sp, h.len⟩
theorem TwP.first {w : World} {q1 q2 sb n : Nat} {m : MsgD} {ms : List ResP} (h : TwP w q1 q2 sb m n ms) : w.ownsRow q2 89 1 (.slice (some ⟨q2, 0, none⟩) n (n + 1)) n (ms.flatMap resCells) := own_first h.own (by rw [flat_len (s := 1) (fun _ => rfl), h.len])
theorem TwP.firstO {w : World} {q1 q2 sb n : Nat} {m : MsgD} {ms : List ResP} (h : TwP w q1 q2 sb m n ms) : w.ownsRow q1 85 4 (.slice (some ⟨q1, 0, none⟩) m.ops.length (m.ops.length + 1)) m.ops.length (m.ops.flatMap opCells) := twin_own opCells_len h.ops
theorem TwP.mat {w : World} {q1 q2 sb n : Nat} {m : MsgD} {ms : List ResP} (h : TwP w q1 q2 sb m n ms) (ho : ∀ x ∈ m.ops, opSm x) (hs : ∀ p ∈ ms, ∀ x ∈ p.2, rowSm x) (he : ms.map (·.2) = m.res) : MsgAt w w.heap.size (.slice (some ⟨q1, 0, none⟩) m.ops.length (m.ops.length + 1)) (.slice (some ⟨q2, 0, none⟩) n (n + 1)) m ms := by
  have h1 := h.first
  have h2 := h.firstO
  have hl := h.len
  subst hl
  refine ⟨sl_own opCells_len h2, ho, ⟨sl_own resCells_len h1, fun p hp => ⟨?_, hs p hp⟩⟩, he⟩
  obtain ⟨c, -, e, ho⟩ := h.rows.rows p hp
  rw [e]
  exact sl_own rowCells_len (twin_own rowCells_len ho)
theorem ldP_no {b : Nat} (h : LD [] b) : False := by
  obtain ⟨x, hx, h⟩ := h
  cases hx
theorem ldP_one {v l1 : Value} {n1 k1 b : Nat} (h : LD ([] ++ [Ent.mk l1 v n1 k1]) b) : l1.ownBlock = some b := by
  obtain ⟨x, hx, h⟩ := h
  simp at hx
  subst hx
  exact h
theorem ldP_two {v l1 l2 : Value} {n1 n2 k1 k2 b : Nat} (h : LD ([] ++ [Ent.mk l1 v n1 k1] ++ [Ent.mk l2 v n2 k2]) b) : l1.ownBlock = some b ∨ l2.ownBlock = some b := by
  obtain ⟨x, hx, h⟩ := h
  simp at hx
  rcases hx with rfl | rfl
  · exact .inl h
  · exact .inr h
theorem putM_small (m : MsgD) : (putM m).1.length ≤ 200000 := by
  unfold putM
  split
  · rename_i hok
    split
    · rename_i hf
      obtain ⟨h1, h2⟩ : m.ops.all opOk = true ∧ m.res.all resOk = true := by
        unfold MsgD.ok at hok
        rw [Bool.and_eq_true, Bool.and_eq_true] at hok
        exact hok.2
      have a := encOps_small h1 hf.1
      have b := encRes_small h2 hf.2.1 hf.2.2
      have e : (encM m).length = 11 + (encList encOp m.ops).length + (encList encRes m.res).length := by
        unfold encM
        rw [List.length_append, List.length_append, List.length_append, be4_len, show (headM m).length = 7 from rfl]
        omega
      show (encM m).length ≤ 200000
      omega
    · show 0 ≤ 200000; omega
  · show 0 ≤ 200000; omega
theorem bookTw {w : World} {bk q1 q2 sb n : Nat} {m : MsgD} {ms : List ResP} {vB vR vO vS : Value} (T : TwP w q1 q2 sb m n ms) (I : BkMsgs w bk 0 vB [] vR [] vO [] vS []) (hn1 : m.ops.length ≤ 5000) (hn2 : n ≤ 5000) (hn3 : ∀ p ∈ ms, p.2.length ≤ 5000) (h12 : q1 < q2) (hq2 : q2 < bk) (hqp : ∀ p ∈ ms, ∀ b, p.1.ownBlock = some b → b < bk) (s f t g : Int) :
    Calls Tryz.prog 13 #[ptr bk, .agg #[.int .u8 s, .int .u8 f, .int .u8 t, .int .u32 g, .slice (some ⟨q1, 0, none⟩) m.ops.length (m.ops.length + 1), .slice (some ⟨q2, 0, none⟩) n (n + 1)]] w fun e w' => e = .returned (.tuple #[]) ∧ ∃ vO vR ER vS, BkMsgs w' bk (0 + n + 2) vB [] vR ER vO ([] ++ [Ent.mk (.slice (some ⟨q1, 0, none⟩) m.ops.length (m.ops.length + 1)) (.slice none 0 0) m.ops.length (0 + 1)]) vS ([] ++ [Ent.mk (.slice (some ⟨q2, 0, none⟩) n (n + 1)) (.slice none 0 0) n (0 + n + 2)]) ∧ (∀ b, LD ER b → ∃ p ∈ ms, p.1.ownBlock = some b) ∧ Wrote (fun b => bk ≤ b) w w' := by
  have hl := T.len
  have h1 := T.first
  have h2 := T.firstO
  have hrow : ∀ p ∈ ms, ∀ b, p.1.ownBlock = some b → q2 < b := fun p hp b hb => by
    obtain ⟨c, hc, e, -⟩ := T.rows.rows p hp
    rw [e] at hb
    have : c = b := by simpa [Value.ownBlock] using hb
    omega
  have hr : ∀ p ∈ ms, p.2.length ≤ 1000000000 ∧ ∃ xs, w.ownsRow 0 92 2 p.1 p.2.length xs := fun p hp => by
    have hx := hn3 p hp
    obtain ⟨c, hc, e, ho⟩ := T.rows.rows p hp
    refine ⟨by omega, p.2.flatMap rowCells, ?_⟩
    rw [e]
    exact twin_own rowCells_len ho
  have hpair := T.rows.pair
  clear T
  subst hl
  have E1 : ∀ b, (Value.slice (some ⟨q1, 0, none⟩) m.ops.length (m.ops.length + 1)).ownBlock = some b → q1 = b := fun b hb => by simpa [Value.ownBlock] using hb
  have E2 : ∀ b, (Value.slice (some ⟨q2, 0, none⟩) ms.length (ms.length + 1)).ownBlock = some b → q2 = b := fun b hb => by simpa [Value.ownBlock] using hb
  refine (bookMsg_any I ms s f t g (by omega) (own_mono h2 (Nat.zero_le _)) (by omega)
    (fun b hb => by have := E1 b hb; exact ⟨by omega, fun h => ldP_no h, fun h => ldP_no h, fun h => ldP_no h, fun h => ldP_no h⟩)
    (own_mono h1 (Nat.zero_le _)) hr hpair
    (fun p hp b hb hb' => by have := hrow p hp b hb; have := E2 b hb'; omega)
    (fun p hp b hb => ⟨hqp p hp b hb, fun h => ldP_no h, fun h => ldP_no h, ⟨fun h => ldP_no h, fun hb' => by have := hrow p hp b hb; have := E1 b hb'; omega⟩, fun h => ldP_no h⟩)
    (fun b hb => by have := E2 b hb; exact ⟨by omega, fun h => ldP_no h, fun h => ldP_no h, ⟨fun h => ldP_no h, fun hb' => by have := E1 b hb'; omega⟩, fun h => ldP_no h⟩)).mono ?_
  rintro e w' ⟨rfl, vO', vR', ER, vS', I', he, hw⟩
  exact ⟨rfl, vO', vR', ER, vS', I', fun b hb => by rcases he b hb with h | h; exact absurd h (fun h => ldP_no h); exact h, hw⟩
end Go.Proofs.YtcgecdiaddcfkaaGreatDoor
