/- Texts of this proof, laid into one. -/
import Derived.Test.YtndjgilheleplaaGreatDoorRTwResM
import Derived.Deep.RegionHeld3
import Derived.Deep.QuietTactic
/- The walks of how much results have in them, at least as many as there are; and of the look whether copies are as they were. -/
set_option linter.unusedSimpArgs false
set_option linter.unusedVariables false
namespace Go.Proofs.YtndjgilheleplaaGreatDoor
open Go.RowKit

set_option maxHeartbeats 2000000 in
set_option maxRecDepth 1000000 in
theorem sizeRowB_any (w : World) (la : Nat) (va : Value) (l : List RowD) (ha : SlAt 2 rowCells w la va l) (hsm : ∀ x ∈ l, rowSz x) (hbl : l.length ≤ 140737488351232) :
    Calls Tryz.prog 159 #[va] w fun e w' => (∃ z : Int, e = .returned (.int .i64 z) ∧ (l.length : Int) ≤ z ∧ z ≤ 281474976710656) ∧ ∃ n, w' = w.drewN n := by
  obtain ⟨ao, ca, rfl, ha1, ha2, ha3⟩ := ha
  unfold maxLen at ha2
  go_enter Tryz.func159, Tryz.ntmps159
  go_wp2
  go_loopw [3, 4] (fun s i wr => ∃ (k n : Nat) (z : Int), k ≤ l.length ∧ i = .int .i64 k ∧ s = .int .i64 z ∧ (l.length : Int) ≤ z ∧ z ≤ 281474976710656 ∧ wr = w.drewN n) (fun _ i _ => l.length - (intOf i).toNat)
  case atStart => exact ⟨0, 0, _, by omega, rfl, rfl, Int.le_refl _, by omega, rfl⟩
  case round =>
    obtain ⟨k, n, z, hk, rfl, rfl, hzl, hzu, rfl⟩ := hrel
    by_cases h1 : k < l.length
    · by_cases h2 : z ≤ 1048576
      · obtain ⟨b1, o1, rfl, hl1, hc1⟩ := ha3 (by omega)
        obtain ⟨x, hx⟩ : ∃ x, x = l[k]'h1 := ⟨_, rfl⟩
        have hxs := hsm x (by rw [hx]; exact List.getElem_mem _)
        have p : ∀ j u, (rowCells x)[j]? = some u → w.cell? ⟨b1, o1 + k * 2 + j, none⟩ = some u := fun j u hu => hc1 k h1 j u (by rw [← hx]; exact hu)
        have p0 := p 0 _ rfl
        have p1 := p 1 _ rfl
        simp only [Nat.add_zero, Nat.mul_one] at p0
        have HS : Hid (rowSz x) := hxs
        clear p hx hc1 ha3 hxs
        have i1 : (k : Int) < (l.length : Int) := by omega
        go_wp2
        skip
        go_wp2
        go_roundw
        case rel =>
          have hS := HS.out
          unfold rowSz at hS
          refine ⟨k + 1, _, _, by omega, by go_num, rfl, ?_, ?_, rfl⟩
          all_goals
            try unfold wrap64
            try simp only [IntKind.wrap_i64]
            omega
        case measure => simp [intOf]; omega
      · clear ha3
        go_wp2
        go_ret
        exact ⟨⟨_, rfl, hzl, hzu⟩, n, rfl⟩
    · clear ha3
      go_wp2
      go_ret
      exact ⟨⟨_, rfl, hzl, hzu⟩, n, rfl⟩

def resSz (p : ResP) : Prop := p.2.length ≤ 140737488351232 ∧ ∀ x ∈ p.2, rowSz x

set_option maxHeartbeats 2000000 in
set_option maxRecDepth 1000000 in
theorem sizeResult_any (w : World) (la : Nat) (x : ResP) (ha : RowsAt w la x) (hs : resSz x) (hla : la ≤ w.heap.size) :
    Calls Tryz.prog 101 #[resV x] w fun e w' => (∃ z : Int, e = .returned (.int .i64 z) ∧ (x.2.length : Int) ≤ z ∧ z ≤ 281474976710657) ∧ Below w.heap.size w w' := by
  obtain ⟨vx, rx⟩ := x
  unfold resV
  simp only
  obtain ⟨W, hW⟩ : ∃ W, W = w.alloc (.cells #[vx] 106) := ⟨_, rfl⟩
  have bW : Below w.heap.size w W := by rw [hW]; exact (Below.refl _ _).alloc (Nat.le_refl _) _
  have hsW : SlAt 2 rowCells W la vx rx := ha.1.below bW hla
  have k := sizeRowB_any W la vx rx hsW hs.2 hs.1
  obtain ⟨ao, ca, hvx, -, -, -⟩ := ha.1
  simp only at hvx
  subst hvx
  have fin : ∀ n, Below w.heap.size w (W.drewN n) := fun n => bW.trans ((below_drewN W n).mono bW.size)
  clear bW hsW
  subst hW
  go_enter Tryz.func101, Tryz.ntmps101
  go_wp2_with fail
  refine k.mono ?_
  rintro e w1 ⟨⟨z, rfl, hz1, hz2⟩, n, rfl⟩
  have f := fin n
  clear fin k
  go_wp2
  go_ret
  refine ⟨⟨_, rfl, ?_, ?_⟩, f⟩
  all_goals
    try unfold wrap64
    try simp only [IntKind.wrap_i64]
    omega

set_option maxHeartbeats 2000000 in
set_option maxRecDepth 1000000 in
theorem sizeResults_any (w : World) (va : Value) (l : List ResP) (ha : ResAt w w.heap.size va l) (hs : ∀ p ∈ l, resSz p) :
    Calls Tryz.prog 22 #[va] w fun e w' => (∃ z : Int, e = .returned (.int .i64 z) ∧ (l.length : Int) ≤ z ∧ (z ≤ 1048576 → ∀ p ∈ l, (p.2.length : Int) ≤ z)) ∧ Below w.heap.size w w' := by
  obtain ⟨⟨ao, ca, rfl, ha1, ha2, ha3⟩, hra⟩ := ha
  unfold maxLen at ha2
  go_enter Tryz.func22, Tryz.ntmps22
  go_wp2
  go_loopw [3, 4] (fun s i wr => ∃ (k : Nat) (z : Int), k ≤ l.length ∧ i = .int .i64 k ∧ s = .int .i64 z ∧ (l.length : Int) ≤ z ∧ (∀ p ∈ l.take k, (p.2.length : Int) ≤ z) ∧ Below w.heap.size w wr) (fun _ i _ => l.length - (intOf i).toNat)
  case atStart => exact ⟨0, _, by omega, rfl, rfl, Int.le_refl _, (fun p hp => by simp at hp), Below.refl _ _⟩
  case round =>
    obtain ⟨k, z, hk, rfl, rfl, hzl, hzp0, hB⟩ := hrel
    have hzp : Hid (∀ p ∈ l.take k, (p.2.length : Int) ≤ z) := hzp0
    clear hzp0
    by_cases h1 : k < l.length
    · by_cases h2 : z ≤ 1048576
      · obtain ⟨b1, o1, rfl, hl1, hc1⟩ := ha3 (by omega)
        have hz := hB.size
        obtain ⟨x, hx⟩ : ∃ x, x = l[k]'h1 := ⟨_, rfl⟩
        have hxm : x ∈ l := by rw [hx]; exact List.getElem_mem _
        have p0 : wr.cell? ⟨b1, o1 + k, none⟩ = some x.1 := by
          rw [hB.cell hl1]
          have := hc1 k h1 0 x.1 (by rw [← hx]; rfl)
          simpa using this
        have r1 : RowsAt wr w.heap.size x := (hra x hxm).below hB (Nat.le_refl _)
        have kS := sizeResult_any wr w.heap.size x r1 (hs x hxm) hz
        have hzn : Hid (∀ z' : Int, z ≤ z' → (x.2.length : Int) ≤ z' → ∀ p ∈ l.take (k + 1), (p.2.length : Int) ≤ z') := fun z' h1' h2' p hp => by
          rw [List.take_succ_eq_append_getElem h1] at hp
          rcases List.mem_append.mp hp with hp | hp
          · have := hzp.out p hp; omega
          · rw [List.mem_singleton.mp hp, ← hx]; exact h2'
        clear hx hxm
        obtain ⟨vx, rx⟩ := x
        obtain ⟨ax, cx, hvx, -, -, -⟩ := r1.1
        simp only at hvx p0
        subst hvx
        unfold resV at kS
        simp only at kS
        clear hc1 ha3 r1 hra hs
        have i1 : (k : Int) < (l.length : Int) := by omega
        go_wp2_with fail
        refine kS.mono ?_
        rintro e w1 ⟨⟨z1, rfl, hz1, hz2⟩, b1'⟩
        have f1 := hB.trans (b1'.mono hz)
        clear kS b1'
        go_wp2
        go_roundw
        case rel =>
          refine ⟨k + 1, _, by omega, by go_num, rfl, ?_, hzn.out _ ?_ ?_, f1⟩
          all_goals
            try unfold wrap64
            try simp only [IntKind.wrap_i64]
            omega
        case measure => simp [intOf]; omega
      · clear ha3 hra hs
        go_wp2
        go_ret
        exact ⟨⟨_, rfl, hzl, fun h => absurd h (by omega)⟩, hB⟩
    · obtain rfl : k = l.length := by omega
      have hzp2 : Hid (∀ p ∈ l, (p.2.length : Int) ≤ z) := fun p hp => hzp.out p (by rw [List.take_of_length_le (Nat.le_refl _)]; exact hp)
      clear ha3 hra hs hzp
      go_wp2
      go_ret
      exact ⟨⟨_, rfl, hzl, fun _ => hzp2.out⟩, hB⟩
end Go.Proofs.YtndjgilheleplaaGreatDoor
/- The walks of the look whether a copy of results is as it was. -/
set_option linter.unusedSimpArgs false
set_option linter.unusedVariables false
namespace Go.Proofs.YtndjgilheleplaaGreatDoor
open Go.RowKit

set_option maxHeartbeats 2000000 in
set_option maxRecDepth 1000000 in
theorem leftResult_any (w : World) (base g cap lim cb : Nat) (bo : Option Addr) (l : List RowD) (ht : w.ownsRow base 109 2 (.slice (some ⟨g, 0, none⟩) (l.length + 1) cap) (l.length + 1) (l.flatMap rowCells ++ spareRow)) (hl : SlAt 2 rowCells w lim (.slice bo l.length cb) l) (hlim : lim ≤ w.heap.size) :
    Calls Tryz.prog 117 #[.agg #[.slice (some ⟨g, 0, none⟩) l.length cap], .agg #[.slice bo l.length cb]] w fun e w' => e = .returned (.bool true) ∧ Below w.heap.size w w' := by
  obtain ⟨W2, hW2⟩ : ∃ W2, W2 = (w.alloc (.cells #[.slice (some ⟨g, 0, none⟩) l.length cap] 106)).alloc (.cells #[.slice bo l.length cb] 106) := ⟨_, rfl⟩
  have b2 : Below w.heap.size w W2 := by rw [hW2]; exact below_two' _ _
  have kt := leftRow_any W2 base g cap lim _ l (own_below ht b2) (hl.below b2 hlim)
  have fin : ∀ w', Below W2.heap.size W2 w' → Below w.heap.size w w' := fun w' h => b2.trans (h.mono b2.size)
  clear ht hl b2
  subst hW2
  go_enter Tryz.func117, Tryz.ntmps117
  go_wp2_with fail
  refine kt.mono ?_
  rintro e w' ⟨rfl, hb⟩
  have f := fin w' hb
  clear kt fin hb
  go_wp2
  go_ret
  exact ⟨rfl, f⟩

theorem map_get {ms l : List ResP} (h : ms.map (·.2) = l.map (·.2)) {k : Nat} (hk : k < l.length) : ∃ hk' : k < ms.length, (ms[k]'hk').2 = (l[k]'hk).2 := by
  have hl : ms.length = l.length := by have := congrArg List.length h; simpa using this
  refine ⟨by omega, ?_⟩
  have := congrArg (fun x => x[k]?) h
  simp only [List.getElem?_map, List.getElem?_eq_getElem hk, List.getElem?_eq_getElem (show k < ms.length by omega), Option.map_some, Option.some.injEq] at this
  exact this

abbrev LfS (w : World) (b1 o1 b2 o2 : Nat) (u v : Value) (W : World) : Prop := W.cell? ⟨b1, o1, none⟩ = some u ∧ W.cell? ⟨b2, o2, none⟩ = some v ∧ Below w.heap.size w W
theorem LfS.drewN {w : World} {b1 o1 b2 o2 : Nat} {u v : Value} {W : World} (h : LfS w b1 o1 b2 o2 u v W) (m : Nat) : LfS w b1 o1 b2 o2 u v (W.drewN m) := ⟨h.1, h.2.1, h.2.2.trans ((below_drewN W m).mono h.2.2.size)⟩

set_option maxHeartbeats 4000000 in
set_option maxRecDepth 1000000 in
theorem leftResults_any (w : World) (base tb g sb cap lim : Nat) (vl : Value) (l ms : List ResP) (hms : ms.map (·.2) = l.map (·.2)) (hT : TwRes w tb ms) (ht : w.ownsRow base 106 1 (.slice (some ⟨g, 0, none⟩) (l.length + 1) cap) (l.length + 1) (ms.flatMap resCells ++ [.slice (some ⟨sb, 0, none⟩) 1 1]))
    (hsb : w.heap[sb]? = some (.cells #[.string ⟨#[115, 112, 97, 114, 101]⟩, .int .u32 0] 109 (0, 0))) (hl : ResAt w lim vl l) (hlim : lim ≤ w.heap.size) :
    Calls Tryz.prog 29 #[.slice (some ⟨g, 0, none⟩) l.length cap, vl] w fun e w' => e = .returned (.bool true) ∧ Below w.heap.size w w' := by
  have hml : ms.length = l.length := by have := congrArg List.length hms; simpa using this
  have hfl : (ms.flatMap resCells).length = l.length := by rw [flat_len (s := 1) (fun _ => rfl)]; omega
  obtain ⟨aoT, capT, eT, hT4, hT5⟩ := own_len' ht
  simp only [Value.slice.injEq, true_and] at eT
  obtain ⟨-, rfl⟩ := eT
  have hg : g < w.heap.size := (ht.lt g rfl).2
  have ct : ∀ k (hk : k < ms.length), w.cell? ⟨g, k, none⟩ = some (ms[k]'hk).1 := fun k hk => by
    have h0 := flat_get (f := resCells) (size := 1) (fun _ => rfl) ms k hk 0 (by omega)
    rw [Nat.mul_one, Nat.add_zero] at h0
    have := ht.cells (g := g) rfl k (ms[k]'hk).1 (by rw [List.getElem?_append_left (by rw [hfl]; omega), h0]; rfl)
    rw [Addr.add_lit] at this
    simpa using this
  have cs : w.cell? ⟨g, l.length, none⟩ = some (.slice (some ⟨sb, 0, none⟩) 1 1) := by
    have := ht.cells (g := g) rfl l.length (.slice (some ⟨sb, 0, none⟩) 1 1) (by rw [List.getElem?_append_right (by omega), hfl, Nat.sub_self]; rfl)
    rw [Addr.add_lit] at this
    simpa using this
  have cb0 : w.cell? ⟨sb, 0, none⟩ = some (.string ⟨#[115, 112, 97, 114, 101]⟩) := block_cell hsb 0 _ rfl
  have hsl := lt_of_some hsb
  obtain ⟨⟨bo, cb, rfl, hb1, hb2, hb3⟩, hrows⟩ := hl
  unfold maxLen at hb2 hT5
  have hcap : (l.length : Int) < (cap : Int) := by omega
  clear ht hsb
  go_enter Tryz.func29, Tryz.ntmps29
  go_wp2
  go_loopw [5] (fun i wr => ∃ k : Nat, k ≤ l.length ∧ i = .int .i64 k ∧ Below w.heap.size w wr) (fun i _ => l.length - (intOf i).toNat)
  case atStart => exact ⟨0, by omega, rfl, Below.refl _ _⟩
  case round =>
    obtain ⟨k, hk, rfl, hB⟩ := hrel
    by_cases h1 : k < l.length
    · obtain ⟨b2, o2, rfl, hl2, hc2⟩ := hb3 (by omega)
      obtain ⟨hk', e12⟩ := map_get hms h1
      obtain ⟨gk, -, ek, ok⟩ := hT.rows (ms[k]'hk') (List.getElem_mem _)
      have p0 := (hB.cell (p := ⟨g, k, none⟩) hg).trans (ct k hk')
      have q0 : wr.cell? ⟨b2, o2 + k, none⟩ = some (l[k]'h1).1 := by
        rw [hB.cell (p := ⟨b2, o2 + k, none⟩) (by show b2 < _; omega)]
        have := hc2 k h1 0 _ rfl
        simpa using this
      have r2 := hrows (l[k]'h1) (List.getElem_mem _)
      rw [ek] at p0
      rw [e12] at ok p0
      generalize l[k]'h1 = y at *
      obtain ⟨vy, ry⟩ := y
      obtain ⟨ay, cy, hvy, -, -, -⟩ := id r2.1
      simp only at hvy p0 q0 ok
      subst hvy
      have kS : ∀ W, LfS w g k b2 (o2 + k) (.slice (some ⟨gk, 0, none⟩) ry.length (ry.length + 1)) (.slice ay ry.length cy) W → Calls Tryz.prog 117 #[.agg #[.slice (some ⟨gk, 0, none⟩) ry.length (ry.length + 1)], .agg #[.slice ay ry.length cy]] W fun e w' => e = .returned (.bool true) ∧ LfS w g k b2 (o2 + k) (.slice (some ⟨gk, 0, none⟩) ry.length (ry.length + 1)) (.slice ay ry.length cy) w' := by
        intro W hW
        have z := hW.2.2.size
        refine (leftResult_any W _ gk _ lim cy ay ry (own_below ok hW.2.2) (r2.1.below hW.2.2 hlim) (by omega)).mono ?_
        rintro e w' ⟨rfl, h'⟩
        exact ⟨rfl, (h'.cell (World.block_lt_of_cell? W _ hW.1)).trans hW.1, (h'.cell (World.block_lt_of_cell? W _ hW.2.1)).trans hW.2.1, hW.2.2.trans (h'.mono z)⟩
      have hS : LfS w g k b2 (o2 + k) (.slice (some ⟨gk, 0, none⟩) ry.length (ry.length + 1)) (.slice ay ry.length cy) wr := ⟨p0, q0, hB⟩
      clear hc2 hb3 r2 hrows ct cs cb0 p0 q0 hB ok ek e12 hT hms
      have i1 : (k : Int) < (l.length : Int) := by omega
      go_wp2_with fail
      go_region_held3 (fun W => W.cell? ⟨g, k, none⟩ = some (.slice (some ⟨gk, 0, none⟩) ry.length (ry.length + 1)) ∧ W.cell? ⟨b2, o2 + k, none⟩ = some (.slice ay ry.length cy) ∧ Below w.heap.size w W) (first | assumption | exact LfS.drewN (by assumption) 1)
        (first | (go_at_call 117; refine (kS _ (by assumption)).mono ?_; rintro e w' ⟨rfl, hb⟩))
      all_goals
        rename_i hlast
        clear kS
        go_wp2
        go_roundw
        case rel => exact ⟨k + 1, by omega, by go_num, hlast.2.2⟩
        case measure => simp [intOf]; omega
    · obtain rfl : k = l.length := by omega
      have cs' := (hB.cell (p := ⟨g, l.length, none⟩) hg).trans cs
      have cb' := (hB.cell (p := ⟨sb, 0, none⟩) hsl).trans cb0
      have bF := hB.trans (((Below.refl wr.heap.size wr).alloc (Nat.le_refl _) (.cells #[.slice (some ⟨sb, 0, none⟩) 1 1] 106)).mono hB.size)
      have hsl' : sb < wr.heap.size := Nat.lt_of_lt_of_le hsl hB.size
      have cb2 : (wr.alloc (.cells #[.slice (some ⟨sb, 0, none⟩) 1 1] 106)).cell? ⟨sb, 0, none⟩ = some (.string ⟨#[115, 112, 97, 114, 101]⟩) := (((Below.refl wr.heap.size wr).alloc (Nat.le_refl _) (.cells #[.slice (some ⟨sb, 0, none⟩) 1 1] 106)).cell (p := ⟨sb, 0, none⟩) hsl').trans cb'
      clear hb3 hrows ct cs cb0 hB hT hms cb'
      go_wp2
      go_ret
      exact ⟨rfl, bF⟩
end Go.Proofs.YtndjgilheleplaaGreatDoor
