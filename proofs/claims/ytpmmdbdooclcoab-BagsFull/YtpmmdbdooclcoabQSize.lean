/- How much ops, results and messages have in them, at least as many as there are. -/
import Derived.Test.YtpmmdbdooclcoabQPSame
import Derived.Deep.RegionHeld3
import Derived.Deep.QuietTactic
set_option linter.unusedSimpArgs false
set_option linter.unusedVariables false
namespace Go.Proofs.Ytpmmdbdooclcoab
open Go.RowKit

def opSz (x : OpD) : Prop := x.key.size ≤ 140737488351232 ∧ x.to.size ≤ 140737488351232
def rowSz (x : RowD) : Prop := x.key.size ≤ 140737488351232

set_option maxHeartbeats 2000000 in
set_option maxRecDepth 1000000 in
theorem sizeRowB_any (w : World) (la : Nat) (va : Value) (l : List RowD) (ha : SlAt 2 rowCells w la va l) (hsm : ∀ x ∈ l, rowSz x) (hbl : l.length ≤ 140737488351232) :
    Calls Try.prog 31 #[va] w fun e w' => (∃ z : Int, e = .returned (.int .i64 z) ∧ (l.length : Int) ≤ z ∧ z ≤ 281474976710656) ∧ ∃ n, w' = w.drewN n := by
  obtain ⟨ao, ca, rfl, ha1, ha2, ha3⟩ := ha
  unfold maxLen at ha2
  go_enter Try.func31, Try.ntmps31
  go_wp2
  go_loopw [3, 4] (fun s i wr => ∃ (k n : Nat) (z : Int), k ≤ l.length ∧ i = .int .i64 k ∧ s = .int .i64 z ∧ (l.length : Int) ≤ z ∧ z ≤ 281474976710656 ∧ wr = w.drewN n) (fun _ i _ => l.length - (intOf i).toNat)
  case atStart => exact ⟨0, 0, _, by omega, rfl, rfl, Int.le_refl _, by omega, rfl⟩
  case round =>
    obtain ⟨k, n, z, hk, rfl, rfl, hzl, hzu, rfl⟩ := hrel
    by_cases h1 : k < l.length
    · by_cases h2 : z ≤ 1048576
      · obtain ⟨b1, o1, rfl, hl1, hc1⟩ := ha3 (by omega)
        obtain ⟨x, hx⟩ : ∃ x, x = l[k]'h1 := ⟨_, rfl⟩
        have hxs := hsm x (by rw [hx]; exact List.getElem_mem _)
        have p : ∀ j u, (rowCells x)[j]? = some u → w.cell? ⟨b1, o1 + k * 2 + j, none⟩ = some u := fun j u hu => hc1 k h1 j u (by rw [← hx]; exact hu)
        have p0 := p 0 _ rfl
        have p1 := p 1 _ rfl
        simp only [Nat.add_zero, Nat.mul_one] at p0
        have HS : Hid (rowSz x) := hxs
        clear p hx hc1 ha3 hxs
        have i1 : (k : Int) < (l.length : Int) := by omega
        go_wp2
        skip
        go_wp2
        go_roundw
        case rel =>
          have hS := HS.out
          unfold rowSz at hS
          refine ⟨k + 1, _, _, by omega, by go_num, rfl, ?_, ?_, rfl⟩
          all_goals
            try unfold wrap64
            try simp only [IntKind.wrap_i64]
            omega
        case measure => simp [intOf]; omega
      · clear ha3
        go_wp2
        go_ret
        exact ⟨⟨_, rfl, hzl, hzu⟩, n, rfl⟩
    · clear ha3
      go_wp2
      go_ret
      exact ⟨⟨_, rfl, hzl, hzu⟩, n, rfl⟩

def resSz (p : ResP) : Prop := p.2.length ≤ 140737488351232 ∧ ∀ x ∈ p.2, rowSz x

set_option maxHeartbeats 2000000 in
set_option maxRecDepth 1000000 in
theorem sizeResult_any (w : World) (la : Nat) (x : ResP) (ha : RowsAt w la x) (hs : resSz x) (hla : la ≤ w.heap.size) :
    Calls Try.prog 24 #[resV x] w fun e w' => (∃ z : Int, e = .returned (.int .i64 z) ∧ (x.2.length : Int) ≤ z ∧ z ≤ 281474976710657) ∧ Below w.heap.size w w' := by
  obtain ⟨vx, rx⟩ := x
  unfold resV
  simp only
  obtain ⟨W, hW⟩ : ∃ W, W = w.alloc (.cells #[vx] 67) := ⟨_, rfl⟩
  have bW : Below w.heap.size w W := by rw [hW]; exact (Below.refl _ _).alloc (Nat.le_refl _) _
  have hsW : SlAt 2 rowCells W la vx rx := ha.1.below bW hla
  have k := sizeRowB_any W la vx rx hsW hs.2 hs.1
  obtain ⟨ao, ca, hvx, -, -, -⟩ := ha.1
  simp only at hvx
  subst hvx
  have fin : ∀ n, Below w.heap.size w (W.drewN n) := fun n => bW.trans ((below_drewN W n).mono bW.size)
  clear bW hsW
  subst hW
  go_enter Try.func24, Try.ntmps24
  go_wp2_with fail
  refine k.mono ?_
  rintro e w1 ⟨⟨z, rfl, hz1, hz2⟩, n, rfl⟩
  have f := fin n
  clear fin k
  go_wp2
  go_ret
  refine ⟨⟨_, rfl, ?_, ?_⟩, f⟩
  all_goals
    try unfold wrap64
    try simp only [IntKind.wrap_i64]
    omega

set_option maxHeartbeats 2000000 in
set_option maxRecDepth 1000000 in
theorem sizeResults_any (w : World) (va : Value) (l : List ResP) (ha : ResAt w w.heap.size va l) (hs : ∀ p ∈ l, resSz p) :
    Calls Try.prog 15 #[va] w fun e w' => (∃ z : Int, e = .returned (.int .i64 z) ∧ (l.length : Int) ≤ z ∧ (z ≤ 1048576 → ∀ p ∈ l, (p.2.length : Int) ≤ z)) ∧ Below w.heap.size w w' := by
  obtain ⟨⟨ao, ca, rfl, ha1, ha2, ha3⟩, hra⟩ := ha
  unfold maxLen at ha2
  go_enter Try.func15, Try.ntmps15
  go_wp2
  go_loopw [3, 4] (fun s i wr => ∃ (k : Nat) (z : Int), k ≤ l.length ∧ i = .int .i64 k ∧ s = .int .i64 z ∧ (l.length : Int) ≤ z ∧ (∀ p ∈ l.take k, (p.2.length : Int) ≤ z) ∧ Below w.heap.size w wr) (fun _ i _ => l.length - (intOf i).toNat)
  case atStart => exact ⟨0, _, by omega, rfl, rfl, Int.le_refl _, (fun p hp => by simp at hp), Below.refl _ _⟩
  case round =>
    obtain ⟨k, z, hk, rfl, rfl, hzl, hzp0, hB⟩ := hrel
    have hzp : Hid (∀ p ∈ l.take k, (p.2.length : Int) ≤ z) := hzp0
    clear hzp0
    by_cases h1 : k < l.length
    · by_cases h2 : z ≤ 1048576
      · obtain ⟨b1, o1, rfl, hl1, hc1⟩ := ha3 (by omega)
        have hz := hB.size
        obtain ⟨x, hx⟩ : ∃ x, x = l[k]'h1 := ⟨_, rfl⟩
        have hxm : x ∈ l := by rw [hx]; exact List.getElem_mem _
        have p0 : wr.cell? ⟨b1, o1 + k, none⟩ = some x.1 := by
          rw [hB.cell hl1]
          have := hc1 k h1 0 x.1 (by rw [← hx]; rfl)
          simpa using this
        have r1 : RowsAt wr w.heap.size x := (hra x hxm).below hB (Nat.le_refl _)
        have kS := sizeResult_any wr w.heap.size x r1 (hs x hxm) hz
        have hzn : Hid (∀ z' : Int, z ≤ z' → (x.2.length : Int) ≤ z' → ∀ p ∈ l.take (k + 1), (p.2.length : Int) ≤ z') := fun z' h1' h2' p hp => by
          rw [List.take_succ_eq_append_getElem h1] at hp
          rcases List.mem_append.mp hp with hp | hp
          · have := hzp.out p hp; omega
          · rw [List.mem_singleton.mp hp, ← hx]; exact h2'
        clear hx hxm
        obtain ⟨vx, rx⟩ := x
        obtain ⟨ax, cx, hvx, -, -, -⟩ := r1.1
        simp only at hvx p0
        subst hvx
        unfold resV at kS
        simp only at kS
        clear hc1 ha3 r1 hra hs
        have i1 : (k : Int) < (l.length : Int) := by omega
        go_wp2_with fail
        refine kS.mono ?_
        rintro e w1 ⟨⟨z1, rfl, hz1, hz2⟩, b1'⟩
        have f1 := hB.trans (b1'.mono hz)
        clear kS b1'
        go_wp2
        go_roundw
        case rel =>
          refine ⟨k + 1, _, by omega, by go_num, rfl, ?_, hzn.out _ ?_ ?_, f1⟩
          all_goals
            try unfold wrap64
            try simp only [IntKind.wrap_i64]
            omega
        case measure => simp [intOf]; omega
      · clear ha3 hra hs
        go_wp2
        go_ret
        exact ⟨⟨_, rfl, hzl, fun h => absurd h (by omega)⟩, hB⟩
    · obtain rfl : k = l.length := by omega
      have hzp2 : Hid (∀ p ∈ l, (p.2.length : Int) ≤ z) := fun p hp => hzp.out p (by rw [List.take_of_length_le (Nat.le_refl _)]; exact hp)
      clear ha3 hra hs hzp
      go_wp2
      go_ret
      exact ⟨⟨_, rfl, hzl, fun _ => hzp2.out⟩, hB⟩

set_option maxHeartbeats 2000000 in
set_option maxRecDepth 1000000 in
theorem sizeOpB_any (w : World) (la : Nat) (va : Value) (l : List OpD) (ha : SlAt 4 opCells w la va l) (hsm : ∀ x ∈ l, opSz x) (hbl : l.length ≤ 140737488351232) :
    Calls Try.prog 14 #[va] w fun e w' => (∃ z : Int, e = .returned (.int .i64 z) ∧ (l.length : Int) ≤ z ∧ z ≤ 562949953421312) ∧ ∃ n, w' = w.drewN n := by
  obtain ⟨ao, ca, rfl, ha1, ha2, ha3⟩ := ha
  unfold maxLen at ha2
  go_enter Try.func14, Try.ntmps14
  go_wp2
  go_loopw [3, 4] (fun s i wr => ∃ (k n : Nat) (z : Int), k ≤ l.length ∧ i = .int .i64 k ∧ s = .int .i64 z ∧ (l.length : Int) ≤ z ∧ z ≤ 562949953421312 ∧ wr = w.drewN n) (fun _ i _ => l.length - (intOf i).toNat)
  case atStart => exact ⟨0, 0, _, by omega, rfl, rfl, Int.le_refl _, by omega, rfl⟩
  case round =>
    obtain ⟨k, n, z, hk, rfl, rfl, hzl, hzu, rfl⟩ := hrel
    by_cases h1 : k < l.length
    · by_cases h2 : z ≤ 1048576
      · obtain ⟨b1, o1, rfl, hl1, hc1⟩ := ha3 (by omega)
        obtain ⟨x, hx⟩ : ∃ x, x = l[k]'h1 := ⟨_, rfl⟩
        have hxs := hsm x (by rw [hx]; exact List.getElem_mem _)
        have p : ∀ j u, (opCells x)[j]? = some u → w.cell? ⟨b1, o1 + k * 4 + j, none⟩ = some u := fun j u hu => hc1 k h1 j u (by rw [← hx]; exact hu)
        have p0 := p 0 _ rfl
        have p1 := p 1 _ rfl
        have p2 := p 2 _ rfl
        have p3 := p 3 _ rfl
        simp only [Nat.add_zero, Nat.mul_one] at p0
        have HS : Hid (opSz x) := hxs
        clear p hx hc1 ha3 hxs
        have i1 : (k : Int) < (l.length : Int) := by omega
        go_wp2
        go_quiet (fail)
        go_wp2
        go_roundw
        case rel =>
          have hS := HS.out
          unfold opSz at hS
          refine ⟨k + 1, _, _, by omega, by go_num, rfl, ?_, ?_, rfl⟩
          all_goals
            try unfold wrap64
            try simp only [IntKind.wrap_i64]
            omega
        case measure => simp [intOf]; omega
      · clear ha3
        go_wp2
        go_ret
        exact ⟨⟨_, rfl, hzl, hzu⟩, n, rfl⟩
    · clear ha3
      go_wp2
      go_ret
      exact ⟨⟨_, rfl, hzl, hzu⟩, n, rfl⟩

set_option maxHeartbeats 2000000 in
set_option maxRecDepth 1000000 in
theorem sizeResultsB_any (w : World) (va : Value) (l : List ResP) (ha : ResAt w w.heap.size va l) (hs : ∀ p ∈ l, resSz p) (hbl : l.length ≤ 140737488351232) :
    Calls Try.prog 15 #[va] w fun e w' => (∃ z : Int, e = .returned (.int .i64 z) ∧ (l.length : Int) ≤ z ∧ z ≤ 562949953421312 ∧ (z ≤ 1048576 → ∀ p ∈ l, (p.2.length : Int) ≤ z)) ∧ Below w.heap.size w w' := by
  obtain ⟨⟨ao, ca, rfl, ha1, ha2, ha3⟩, hra⟩ := ha
  unfold maxLen at ha2
  go_enter Try.func15, Try.ntmps15
  go_wp2
  go_loopw [3, 4] (fun s i wr => ∃ (k : Nat) (z : Int), k ≤ l.length ∧ i = .int .i64 k ∧ s = .int .i64 z ∧ (l.length : Int) ≤ z ∧ z ≤ 562949953421312 ∧ (∀ p ∈ l.take k, (p.2.length : Int) ≤ z) ∧ Below w.heap.size w wr) (fun _ i _ => l.length - (intOf i).toNat)
  case atStart => exact ⟨0, _, by omega, rfl, rfl, Int.le_refl _, by omega, (fun p hp => by simp at hp), Below.refl _ _⟩
  case round =>
    obtain ⟨k, z, hk, rfl, rfl, hzl, hzu, hzp0, hB⟩ := hrel
    have hzp : Hid (∀ p ∈ l.take k, (p.2.length : Int) ≤ z) := hzp0
    clear hzp0
    by_cases h1 : k < l.length
    · by_cases h2 : z ≤ 1048576
      · obtain ⟨b1, o1, rfl, hl1, hc1⟩ := ha3 (by omega)
        have hz := hB.size
        obtain ⟨x, hx⟩ : ∃ x, x = l[k]'h1 := ⟨_, rfl⟩
        have hxm : x ∈ l := by rw [hx]; exact List.getElem_mem _
        have p0 : wr.cell? ⟨b1, o1 + k, none⟩ = some x.1 := by
          rw [hB.cell hl1]
          have := hc1 k h1 0 x.1 (by rw [← hx]; rfl)
          simpa using this
        have r1 : RowsAt wr w.heap.size x := (hra x hxm).below hB (Nat.le_refl _)
        have kS := sizeResult_any wr w.heap.size x r1 (hs x hxm) hz
        have hzn : Hid (∀ z' : Int, z ≤ z' → (x.2.length : Int) ≤ z' → ∀ p ∈ l.take (k + 1), (p.2.length : Int) ≤ z') := fun z' h1' h2' p hp => by
          rw [List.take_succ_eq_append_getElem h1] at hp
          rcases List.mem_append.mp hp with hp | hp
          · have := hzp.out p hp; omega
          · rw [List.mem_singleton.mp hp, ← hx]; exact h2'
        clear hx hxm
        obtain ⟨vx, rx⟩ := x
        obtain ⟨ax, cx, hvx, -, -, -⟩ := r1.1
        simp only at hvx p0
        subst hvx
        unfold resV at kS
        simp only at kS
        clear hc1 ha3 r1 hra hs
        have i1 : (k : Int) < (l.length : Int) := by omega
        go_wp2_with fail
        refine kS.mono ?_
        rintro e w1 ⟨⟨z1, rfl, hz1, hz2⟩, b1'⟩
        have f1 := hB.trans (b1'.mono hz)
        clear kS b1'
        go_wp2
        go_roundw
        case rel =>
          refine ⟨k + 1, _, by omega, by go_num, rfl, ?_, ?_, hzn.out _ ?_ ?_, f1⟩
          all_goals
            try unfold wrap64
            try simp only [IntKind.wrap_i64]
            omega
        case measure => simp [intOf]; omega
      · clear ha3 hra hs
        go_wp2
        go_ret
        exact ⟨⟨_, rfl, hzl, hzu, fun h => absurd h (by omega)⟩, hB⟩
    · obtain rfl : k = l.length := by omega
      have hzp2 : Hid (∀ p ∈ l, (p.2.length : Int) ≤ z) := fun p hp => hzp.out p (by rw [List.take_of_length_le (Nat.le_refl _)]; exact hp)
      clear ha3 hra hs hzp
      go_wp2
      go_ret
      exact ⟨⟨_, rfl, hzl, hzu, fun _ => hzp2.out⟩, hB⟩

set_option maxHeartbeats 2000000 in
set_option maxRecDepth 1000000 in
theorem msgSizeB_any (w : World) (vo vr : Value) (m : MsgD) (l : List ResP) (h : MsgAt w w.heap.size vo vr m l) (ho : ∀ x ∈ m.ops, opSz x) (hr : ∀ p ∈ l, resSz p) (hl1 : m.ops.length ≤ 140737488351232) (hl2 : l.length ≤ 140737488351232) :
    Calls Try.prog 5 #[msgV m vo vr] w fun e w' => (∃ z : Int, e = .returned (.int .i64 z) ∧ (z ≤ 5000 → m.ops.length ≤ 5000 ∧ l.length ≤ 5000 ∧ ∀ p ∈ l, p.2.length ≤ 5000)) ∧ Below w.heap.size w w' := by
  obtain ⟨ao, ca, bo, cb, rfl, rfl⟩ := h.form
  unfold msgV
  obtain ⟨W, hW⟩ : ∃ W, W = w.alloc (.cells #[.int .u8 (m.say.toNat : Int), .int .u8 (m.src.toNat : Int), .int .u8 (m.dst.toNat : Int), .int .u32 (m.g.toNat : Int), .slice ao m.ops.length ca, .slice bo l.length cb] 27) := ⟨_, rfl⟩
  have B0 : Below w.heap.size w W := by rw [hW]; exact below_one w _
  have HW := h.up B0
  have k1 := sizeOpB_any W _ _ _ HW.ops ho hl1
  have k2 := fun n => sizeResultsB_any (W.drewN n) _ l (HW.up (below_drewN W n)).res hr hl2
  have c5 : ∀ n, (W.drewN n).cell? ⟨w.heap.size, 5, none⟩ = some (.slice bo l.length cb) := fun n => by
    show W.cell? ⟨w.heap.size, 5, none⟩ = _
    rw [hW]; go_simp
  have fin : ∀ n, Below w.heap.size w (W.drewN n) := fun n => B0.trans ((below_drewN W n).mono B0.size)
  have hout : Hid (∀ z1 z2 z : Int, (m.ops.length : Int) ≤ z1 → (l.length : Int) ≤ z2 → 0 ≤ z1 → 0 ≤ z2 → (z2 ≤ 1048576 → ∀ p ∈ l, (p.2.length : Int) ≤ z2) → z = 1 + z1 + z2 → z ≤ 5000 → m.ops.length ≤ 5000 ∧ l.length ≤ 5000 ∧ ∀ p ∈ l, p.2.length ≤ 5000) := fun z1 z2 z h1 h2 h3 h4 h5 h6 h7 => ⟨by omega, by omega, fun p hp => by have := h5 (by omega) p hp; omega⟩
  clear B0 HW h ho hr
  subst hW
  go_enter Try.func5, Try.ntmps5
  go_wp2_with fail
  refine k1.mono ?_
  rintro e w1 ⟨⟨z1, rfl, hz1, hz1u⟩, n1, rfl⟩
  obtain ⟨y, hy⟩ : ∃ y, IntKind.i64.wrap (1 + z1) = y := ⟨_, rfl⟩
  have hy2 : Hid (y = 1 + z1) := by show _ = _; rw [← hy, IntKind.wrap_i64]; omega
  have b1 := fin n1
  have k3 := k2 n1
  have d5 := c5 n1
  clear k1 k2 fin c5
  generalize World.drewN _ n1 = w2 at *
  by_cases hle : y ≤ 1048576
  · go_wp2_with fail
    refine k3.mono ?_
    rintro e w3 ⟨⟨z2, rfl, hz2, hz2u, hz2p⟩, b3⟩
    have b4 := b1.trans (b3.mono b1.size)
    have hz2p' : Hid _ := hz2p
    clear k3 d5 b1 b3 hz2p
    go_wp2
    go_ret
    have e1 := hy2.out
    refine ⟨⟨_, rfl, hout.out z1 z2 _ hz1 hz2 (by omega) (by omega) hz2p'.out ?_⟩, b4⟩
    try unfold wrap64
    try simp only [IntKind.wrap_i64]
    omega
  · clear k3 d5
    go_wp2
    go_ret
    exact ⟨⟨_, rfl, fun h => absurd h (by omega)⟩, b1⟩

set_option maxHeartbeats 2000000 in
set_option maxRecDepth 1000000 in
theorem msgSizeC_any (w : World) (vo vr : Value) (m : MsgD) (l : List ResP) (h : MsgAt w w.heap.size vo vr m l) (ho : ∀ x ∈ m.ops, opSz x) (hr : ∀ p ∈ l, resSz p) (hl1 : m.ops.length ≤ 140737488351232) (hl2 : l.length ≤ 140737488351232) :
    Calls Try.prog 5 #[msgV m vo vr] w fun e w' => (∃ z : Int, e = .returned (.int .i64 z) ∧ 1 ≤ z ∧ z ≤ 1125899906842625 ∧ (z ≤ 5000 → m.ops.length ≤ 5000 ∧ l.length ≤ 5000 ∧ ∀ p ∈ l, p.2.length ≤ 5000)) ∧ Below w.heap.size w w' := by
  obtain ⟨ao, ca, bo, cb, rfl, rfl⟩ := h.form
  unfold msgV
  obtain ⟨W, hW⟩ : ∃ W, W = w.alloc (.cells #[.int .u8 (m.say.toNat : Int), .int .u8 (m.src.toNat : Int), .int .u8 (m.dst.toNat : Int), .int .u32 (m.g.toNat : Int), .slice ao m.ops.length ca, .slice bo l.length cb] 27) := ⟨_, rfl⟩
  have B0 : Below w.heap.size w W := by rw [hW]; exact below_one w _
  have HW := h.up B0
  have k1 := sizeOpB_any W _ _ _ HW.ops ho hl1
  have k2 := fun n => sizeResultsB_any (W.drewN n) _ l (HW.up (below_drewN W n)).res hr hl2
  have c5 : ∀ n, (W.drewN n).cell? ⟨w.heap.size, 5, none⟩ = some (.slice bo l.length cb) := fun n => by
    show W.cell? ⟨w.heap.size, 5, none⟩ = _
    rw [hW]; go_simp
  have fin : ∀ n, Below w.heap.size w (W.drewN n) := fun n => B0.trans ((below_drewN W n).mono B0.size)
  have hout : Hid (∀ z1 z2 z : Int, (m.ops.length : Int) ≤ z1 → (l.length : Int) ≤ z2 → 0 ≤ z1 → 0 ≤ z2 → (z2 ≤ 1048576 → ∀ p ∈ l, (p.2.length : Int) ≤ z2) → z = 1 + z1 + z2 → z ≤ 5000 → m.ops.length ≤ 5000 ∧ l.length ≤ 5000 ∧ ∀ p ∈ l, p.2.length ≤ 5000) := fun z1 z2 z h1 h2 h3 h4 h5 h6 h7 => ⟨by omega, by omega, fun p hp => by have := h5 (by omega) p hp; omega⟩
  clear B0 HW h ho hr
  subst hW
  go_enter Try.func5, Try.ntmps5
  go_wp2_with fail
  refine k1.mono ?_
  rintro e w1 ⟨⟨z1, rfl, hz1, hz1u⟩, n1, rfl⟩
  obtain ⟨y, hy⟩ : ∃ y, IntKind.i64.wrap (1 + z1) = y := ⟨_, rfl⟩
  have hy2 : Hid (y = 1 + z1) := by show _ = _; rw [← hy, IntKind.wrap_i64]; omega
  have b1 := fin n1
  have k3 := k2 n1
  have d5 := c5 n1
  clear k1 k2 fin c5
  generalize World.drewN _ n1 = w2 at *
  by_cases hle : y ≤ 1048576
  · go_wp2_with fail
    refine k3.mono ?_
    rintro e w3 ⟨⟨z2, rfl, hz2, hz2u, hz2p⟩, b3⟩
    have b4 := b1.trans (b3.mono b1.size)
    have hz2p' : Hid _ := hz2p
    clear k3 d5 b1 b3 hz2p
    go_wp2
    go_ret
    have e1 := hy2.out
    refine ⟨⟨_, rfl, ?_, ?_, hout.out z1 z2 _ hz1 hz2 (by omega) (by omega) hz2p'.out ?_⟩, b4⟩
    all_goals
      try unfold wrap64
      try simp only [IntKind.wrap_i64]
      omega
  · clear k3 d5
    go_wp2
    go_ret
    have e1 := hy2.out
    exact ⟨⟨_, rfl, by omega, by omega, fun h => absurd h (by omega)⟩, b1⟩
end Go.Proofs.Ytpmmdbdooclcoab
