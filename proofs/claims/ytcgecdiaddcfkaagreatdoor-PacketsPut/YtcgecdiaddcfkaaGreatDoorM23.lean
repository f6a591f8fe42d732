/- Texts of this proof, laid into one. -/
import Derived.Test.YtcgecdiaddcfkaaGreatDoorM22
import Derived.Deep.RegionHeld3
import Derived.Deep.QuietTactic
import Derived.Test.YtcgecdiaddcfkaaGreatDoorRBiMsgsM
import Derived.Test.YtcgecdiaddcfkaaGreatDoorRGet3M
/- The walks of how much results have in them, at least as many as there are; and of the look whether copies are as they were. -/
set_option linter.unusedSimpArgs false
set_option linter.unusedVariables false
namespace Go.Proofs.YtcgecdiaddcfkaaGreatDoor
open Go.RowKit

set_option maxHeartbeats 2000000 in
set_option maxRecDepth 1000000 in
theorem sizeRowB_any (w : World) (la : Nat) (va : Value) (l : List RowD) (ha : SlAt 2 rowCells w la va l) (hsm : ∀ x ∈ l, rowSz x) (hbl : l.length ≤ 140737488351232) :
    Calls Tryz.prog 156 #[va] w fun e w' => (∃ z : Int, e = .returned (.int .i64 z) ∧ (l.length : Int) ≤ z ∧ z ≤ 281474976710656) ∧ ∃ n, w' = w.drewN n := by
  obtain ⟨ao, ca, rfl, ha1, ha2, ha3⟩ := ha
  unfold maxLen at ha2
  go_enter Tryz.func156, Tryz.ntmps156
  go_wp2
  go_loopw [3, 4] (fun s i wr => ∃ (k n : Nat) (z : Int), k ≤ l.length ∧ i = .int .i64 k ∧ s = .int .i64 z ∧ (l.length : Int) ≤ z ∧ z ≤ 281474976710656 ∧ wr = w.drewN n) (fun _ i _ => l.length - (intOf i).toNat)
  case atStart => exact ⟨0, 0, _, by omega, rfl, rfl, Int.le_refl _, by omega, rfl⟩
  case round =>
    obtain ⟨k, n, z, hk, rfl, rfl, hzl, hzu, rfl⟩ := hrel
    by_cases h1 : k < l.length
    · by_cases h2 : z ≤ 1048576
      · obtain ⟨b1, o1, rfl, hl1, hc1⟩ := ha3 (by omega)
        obtain ⟨x, hx⟩ : ∃ x, x = l[k]'h1 := ⟨_, rfl⟩
        have hxs := hsm x (by rw [hx]; exact List.getElem_mem _)
        have p : ∀ j u, (rowCells x)[j]? = some u → w.cell? ⟨b1, o1 + k * 2 + j, none⟩ = some u := fun j u hu => hc1 k h1 j u (by rw [← hx]; exact hu)
        have p0 := p 0 _ rfl
        have p1 := p 1 _ rfl
        simp only [Nat.add_zero, Nat.mul_one] at p0
        have HS : Hid (rowSz x) := hxs
        clear p hx hc1 ha3 hxs
        have i1 : (k : Int) < (l.length : Int) := by omega
        go_wp2
        skip
        go_wp2
        go_roundw
        case rel =>
          have hS := HS.out
          unfold rowSz at hS
          refine ⟨k + 1, _, _, by omega, by go_num, rfl, ?_, ?_, rfl⟩
          all_goals
            try unfold wrap64
            try simp only [IntKind.wrap_i64]
            omega
        case measure => simp [intOf]; omega
      · clear ha3
        go_wp2
        go_ret
        exact ⟨⟨_, rfl, hzl, hzu⟩, n, rfl⟩
    · clear ha3
      go_wp2
      go_ret
      exact ⟨⟨_, rfl, hzl, hzu⟩, n, rfl⟩

def resSz (p : ResP) : Prop := p.2.length ≤ 140737488351232 ∧ ∀ x ∈ p.2, rowSz x

set_option maxHeartbeats 2000000 in
set_option maxRecDepth 1000000 in
theorem sizeResult_any (w : World) (la : Nat) (x : ResP) (ha : RowsAt w la x) (hs : resSz x) (hla : la ≤ w.heap.size) :
    Calls Tryz.prog 87 #[resV x] w fun e w' => (∃ z : Int, e = .returned (.int .i64 z) ∧ (x.2.length : Int) ≤ z ∧ z ≤ 281474976710657) ∧ Below w.heap.size w w' := by
  obtain ⟨vx, rx⟩ := x
  unfold resV
  simp only
  obtain ⟨W, hW⟩ : ∃ W, W = w.alloc (.cells #[vx] 89) := ⟨_, rfl⟩
  have bW : Below w.heap.size w W := by rw [hW]; exact (Below.refl _ _).alloc (Nat.le_refl _) _
  have hsW : SlAt 2 rowCells W la vx rx := ha.1.below bW hla
  have k := sizeRowB_any W la vx rx hsW hs.2 hs.1
  obtain ⟨ao, ca, hvx, -, -, -⟩ := ha.1
  simp only at hvx
  subst hvx
  have fin : ∀ n, Below w.heap.size w (W.drewN n) := fun n => bW.trans ((below_drewN W n).mono bW.size)
  clear bW hsW
  subst hW
  go_enter Tryz.func87, Tryz.ntmps87
  go_wp2_with fail
  refine k.mono ?_
  rintro e w1 ⟨⟨z, rfl, hz1, hz2⟩, n, rfl⟩
  have f := fin n
  clear fin k
  go_wp2
  go_ret
  refine ⟨⟨_, rfl, ?_, ?_⟩, f⟩
  all_goals
    try unfold wrap64
    try simp only [IntKind.wrap_i64]
    omega

set_option maxHeartbeats 2000000 in
set_option maxRecDepth 1000000 in
theorem sizeResults_any (w : World) (va : Value) (l : List ResP) (ha : ResAt w w.heap.size va l) (hs : ∀ p ∈ l, resSz p) :
    Calls Tryz.prog 22 #[va] w fun e w' => (∃ z : Int, e = .returned (.int .i64 z) ∧ (l.length : Int) ≤ z ∧ (z ≤ 1048576 → ∀ p ∈ l, (p.2.length : Int) ≤ z)) ∧ Below w.heap.size w w' := by
  obtain ⟨⟨ao, ca, rfl, ha1, ha2, ha3⟩, hra⟩ := ha
  unfold maxLen at ha2
  go_enter Tryz.func22, Tryz.ntmps22
  go_wp2
  go_loopw [3, 4] (fun s i wr => ∃ (k : Nat) (z : Int), k ≤ l.length ∧ i = .int .i64 k ∧ s = .int .i64 z ∧ (l.length : Int) ≤ z ∧ (∀ p ∈ l.take k, (p.2.length : Int) ≤ z) ∧ Below w.heap.size w wr) (fun _ i _ => l.length - (intOf i).toNat)
  case atStart => exact ⟨0, _, by omega, rfl, rfl, Int.le_refl _, (fun p hp => by simp at hp), Below.refl _ _⟩
  case round =>
    obtain ⟨k, z, hk, rfl, rfl, hzl, hzp0, hB⟩ := hrel
    have hzp : Hid (∀ p ∈ l.take k, (p.2.length : Int) ≤ z) := hzp0
    clear hzp0
    by_cases h1 : k < l.length
    · by_cases h2 : z ≤ 1048576
      · obtain ⟨b1, o1, rfl, hl1, hc1⟩ := ha3 (by omega)
        have hz := hB.size
        obtain ⟨x, hx⟩ : ∃ x, x = l[k]'h1 := ⟨_, rfl⟩
        have hxm : x ∈ l := by rw [hx]; exact List.getElem_mem _
        have p0 : wr.cell? ⟨b1, o1 + k, none⟩ = some x.1 := by
          rw [hB.cell hl1]
          have := hc1 k h1 0 x.1 (by rw [← hx]; rfl)
          simpa using this
        have r1 : RowsAt wr w.heap.size x := (hra x hxm).below hB (Nat.le_refl _)
        have kS := sizeResult_any wr w.heap.size x r1 (hs x hxm) hz
        have hzn : Hid (∀ z' : Int, z ≤ z' → (x.2.length : Int) ≤ z' → ∀ p ∈ l.take (k + 1), (p.2.length : Int) ≤ z') := fun z' h1' h2' p hp => by
          rw [List.take_succ_eq_append_getElem h1] at hp
          rcases List.mem_append.mp hp with hp | hp
          · have := hzp.out p hp; omega
          · rw [List.mem_singleton.mp hp, ← hx]; exact h2'
        clear hx hxm
        obtain ⟨vx, rx⟩ := x
        obtain ⟨ax, cx, hvx, -, -, -⟩ := r1.1
        simp only at hvx p0
        subst hvx
        unfold resV at kS
        simp only at kS
        clear hc1 ha3 r1 hra hs
        have i1 : (k : Int) < (l.length : Int) := by omega
        go_wp2_with fail
        refine kS.mono ?_
        rintro e w1 ⟨⟨z1, rfl, hz1, hz2⟩, b1'⟩
        have f1 := hB.trans (b1'.mono hz)
        clear kS b1'
        go_wp2
        go_roundw
        case rel =>
          refine ⟨k + 1, _, by omega, by go_num, rfl, ?_, hzn.out _ ?_ ?_, f1⟩
          all_goals
            try unfold wrap64
            try simp only [IntKind.wrap_i64]
            omega
        case measure => simp [intOf]; omega
      · clear ha3 hra hs
        go_wp2
        go_ret
        exact ⟨⟨_, rfl, hzl, fun h => absurd h (by omega)⟩, hB⟩
    · obtain rfl : k = l.length := by omega
      have hzp2 : Hid (∀ p ∈ l, (p.2.length : Int) ≤ z) := fun p hp => hzp.out p (by rw [List.take_of_length_le (Nat.le_refl _)]; exact hp)
      clear ha3 hra hs hzp
      go_wp2
      go_ret
      exact ⟨⟨_, rfl, hzl, fun _ => hzp2.out⟩, hB⟩
end Go.Proofs.YtcgecdiaddcfkaaGreatDoor
/- The walks of the look whether a copy of results is as it was. -/
set_option linter.unusedSimpArgs false
set_option linter.unusedVariables false
namespace Go.Proofs.YtcgecdiaddcfkaaGreatDoor
open Go.RowKit

set_option maxHeartbeats 2000000 in
set_option maxRecDepth 1000000 in
theorem leftResult_any (w : World) (base g cap lim cb : Nat) (bo : Option Addr) (l : List RowD) (ht : w.ownsRow base 92 2 (.slice (some ⟨g, 0, none⟩) (l.length + 1) cap) (l.length + 1) (l.flatMap rowCells ++ spareRow)) (hl : SlAt 2 rowCells w lim (.slice bo l.length cb) l) (hlim : lim ≤ w.heap.size) :
    Calls Tryz.prog 109 #[.agg #[.slice (some ⟨g, 0, none⟩) l.length cap], .agg #[.slice bo l.length cb]] w fun e w' => e = .returned (.bool true) ∧ Below w.heap.size w w' := by
  obtain ⟨W2, hW2⟩ : ∃ W2, W2 = (w.alloc (.cells #[.slice (some ⟨g, 0, none⟩) l.length cap] 89)).alloc (.cells #[.slice bo l.length cb] 89) := ⟨_, rfl⟩
  have b2 : Below w.heap.size w W2 := by rw [hW2]; exact below_two' _ _
  have kt := leftRow_any W2 base g cap lim _ l (own_below ht b2) (hl.below b2 hlim)
  have fin : ∀ w', Below W2.heap.size W2 w' → Below w.heap.size w w' := fun w' h => b2.trans (h.mono b2.size)
  clear ht hl b2
  subst hW2
  go_enter Tryz.func109, Tryz.ntmps109
  go_wp2_with fail
  refine kt.mono ?_
  rintro e w' ⟨rfl, hb⟩
  have f := fin w' hb
  clear kt fin hb
  go_wp2
  go_ret
  exact ⟨rfl, f⟩

theorem map_get {ms l : List ResP} (h : ms.map (·.2) = l.map (·.2)) {k : Nat} (hk : k < l.length) : ∃ hk' : k < ms.length, (ms[k]'hk').2 = (l[k]'hk).2 := by
  have hl : ms.length = l.length := by have := congrArg List.length h; simpa using this
  refine ⟨by omega, ?_⟩
  have := congrArg (fun x => x[k]?) h
  simp only [List.getElem?_map, List.getElem?_eq_getElem hk, List.getElem?_eq_getElem (show k < ms.length by omega), Option.map_some, Option.some.injEq] at this
  exact this

abbrev LfS (w : World) (b1 o1 b2 o2 : Nat) (u v : Value) (W : World) : Prop := W.cell? ⟨b1, o1, none⟩ = some u ∧ W.cell? ⟨b2, o2, none⟩ = some v ∧ Below w.heap.size w W
theorem LfS.drewN {w : World} {b1 o1 b2 o2 : Nat} {u v : Value} {W : World} (h : LfS w b1 o1 b2 o2 u v W) (m : Nat) : LfS w b1 o1 b2 o2 u v (W.drewN m) := ⟨h.1, h.2.1, h.2.2.trans ((below_drewN W m).mono h.2.2.size)⟩

set_option maxHeartbeats 4000000 in
set_option maxRecDepth 1000000 in
theorem leftResults_any (w : World) (base tb g sb cap lim : Nat) (vl : Value) (l ms : List ResP) (hms : ms.map (·.2) = l.map (·.2)) (hT : TwRes w tb ms) (ht : w.ownsRow base 89 1 (.slice (some ⟨g, 0, none⟩) (l.length + 1) cap) (l.length + 1) (ms.flatMap resCells ++ [.slice (some ⟨sb, 0, none⟩) 1 1]))
    (hsb : w.heap[sb]? = some (.cells #[.string ⟨#[115, 112, 97, 114, 101]⟩, .int .u32 0] 92 (0, 0))) (hl : ResAt w lim vl l) (hlim : lim ≤ w.heap.size) :
    Calls Tryz.prog 39 #[.slice (some ⟨g, 0, none⟩) l.length cap, vl] w fun e w' => e = .returned (.bool true) ∧ Below w.heap.size w w' := by
  have hml : ms.length = l.length := by have := congrArg List.length hms; simpa using this
  have hfl : (ms.flatMap resCells).length = l.length := by rw [flat_len (s := 1) (fun _ => rfl)]; omega
  obtain ⟨aoT, capT, eT, hT4, hT5⟩ := own_len' ht
  simp only [Value.slice.injEq, true_and] at eT
  obtain ⟨-, rfl⟩ := eT
  have hg : g < w.heap.size := (ht.lt g rfl).2
  have ct : ∀ k (hk : k < ms.length), w.cell? ⟨g, k, none⟩ = some (ms[k]'hk).1 := fun k hk => by
    have h0 := flat_get (f := resCells) (size := 1) (fun _ => rfl) ms k hk 0 (by omega)
    rw [Nat.mul_one, Nat.add_zero] at h0
    have := ht.cells (g := g) rfl k (ms[k]'hk).1 (by rw [List.getElem?_append_left (by rw [hfl]; omega), h0]; rfl)
    rw [Addr.add_lit] at this
    simpa using this
  have cs : w.cell? ⟨g, l.length, none⟩ = some (.slice (some ⟨sb, 0, none⟩) 1 1) := by
    have := ht.cells (g := g) rfl l.length (.slice (some ⟨sb, 0, none⟩) 1 1) (by rw [List.getElem?_append_right (by omega), hfl, Nat.sub_self]; rfl)
    rw [Addr.add_lit] at this
    simpa using this
  have cb0 : w.cell? ⟨sb, 0, none⟩ = some (.string ⟨#[115, 112, 97, 114, 101]⟩) := block_cell hsb 0 _ rfl
  have hsl := lt_of_some hsb
  obtain ⟨⟨bo, cb, rfl, hb1, hb2, hb3⟩, hrows⟩ := hl
  unfold maxLen at hb2 hT5
  have hcap : (l.length : Int) < (cap : Int) := by omega
  clear ht hsb
  go_enter Tryz.func39, Tryz.ntmps39
  go_wp2
  go_loopw [5] (fun i wr => ∃ k : Nat, k ≤ l.length ∧ i = .int .i64 k ∧ Below w.heap.size w wr) (fun i _ => l.length - (intOf i).toNat)
  case atStart => exact ⟨0, by omega, rfl, Below.refl _ _⟩
  case round =>
    obtain ⟨k, hk, rfl, hB⟩ := hrel
    by_cases h1 : k < l.length
    · obtain ⟨b2, o2, rfl, hl2, hc2⟩ := hb3 (by omega)
      obtain ⟨hk', e12⟩ := map_get hms h1
      obtain ⟨gk, -, ek, ok⟩ := hT.rows (ms[k]'hk') (List.getElem_mem _)
      have p0 := (hB.cell (p := ⟨g, k, none⟩) hg).trans (ct k hk')
      have q0 : wr.cell? ⟨b2, o2 + k, none⟩ = some (l[k]'h1).1 := by
        rw [hB.cell (p := ⟨b2, o2 + k, none⟩) (by show b2 < _; omega)]
        have := hc2 k h1 0 _ rfl
        simpa using this
      have r2 := hrows (l[k]'h1) (List.getElem_mem _)
      rw [ek] at p0
      rw [e12] at ok p0
      generalize l[k]'h1 = y at *
      obtain ⟨vy, ry⟩ := y
      obtain ⟨ay, cy, hvy, -, -, -⟩ := id r2.1
      simp only at hvy p0 q0 ok
      subst hvy
      have kS : ∀ W, LfS w g k b2 (o2 + k) (.slice (some ⟨gk, 0, none⟩) ry.length (ry.length + 1)) (.slice ay ry.length cy) W → Calls Tryz.prog 109 #[.agg #[.slice (some ⟨gk, 0, none⟩) ry.length (ry.length + 1)], .agg #[.slice ay ry.length cy]] W fun e w' => e = .returned (.bool true) ∧ LfS w g k b2 (o2 + k) (.slice (some ⟨gk, 0, none⟩) ry.length (ry.length + 1)) (.slice ay ry.length cy) w' := by
        intro W hW
        have z := hW.2.2.size
        refine (leftResult_any W _ gk _ lim cy ay ry (own_below ok hW.2.2) (r2.1.below hW.2.2 hlim) (by omega)).mono ?_
        rintro e w' ⟨rfl, h'⟩
        exact ⟨rfl, (h'.cell (World.block_lt_of_cell? W _ hW.1)).trans hW.1, (h'.cell (World.block_lt_of_cell? W _ hW.2.1)).trans hW.2.1, hW.2.2.trans (h'.mono z)⟩
      have hS : LfS w g k b2 (o2 + k) (.slice (some ⟨gk, 0, none⟩) ry.length (ry.length + 1)) (.slice ay ry.length cy) wr := ⟨p0, q0, hB⟩
      clear hc2 hb3 r2 hrows ct cs cb0 p0 q0 hB ok ek e12 hT hms
      have i1 : (k : Int) < (l.length : Int) := by omega
      go_wp2_with fail
      go_region_held3 (fun W => W.cell? ⟨g, k, none⟩ = some (.slice (some ⟨gk, 0, none⟩) ry.length (ry.length + 1)) ∧ W.cell? ⟨b2, o2 + k, none⟩ = some (.slice ay ry.length cy) ∧ Below w.heap.size w W) (first | assumption | exact LfS.drewN (by assumption) 1)
        (first | (go_at_call 109; refine (kS _ (by assumption)).mono ?_; rintro e w' ⟨rfl, hb⟩))
      all_goals
        rename_i hlast
        clear kS
        go_wp2
        go_roundw
        case rel => exact ⟨k + 1, by omega, by go_num, hlast.2.2⟩
        case measure => simp [intOf]; omega
    · obtain rfl : k = l.length := by omega
      have cs' := (hB.cell (p := ⟨g, l.length, none⟩) hg).trans cs
      have cb' := (hB.cell (p := ⟨sb, 0, none⟩) hsl).trans cb0
      have bF := hB.trans (((Below.refl wr.heap.size wr).alloc (Nat.le_refl _) (.cells #[.slice (some ⟨sb, 0, none⟩) 1 1] 89)).mono hB.size)
      have hsl' : sb < wr.heap.size := Nat.lt_of_lt_of_le hsl hB.size
      have cb2 : (wr.alloc (.cells #[.slice (some ⟨sb, 0, none⟩) 1 1] 89)).cell? ⟨sb, 0, none⟩ = some (.string ⟨#[115, 112, 97, 114, 101]⟩) := (((Below.refl wr.heap.size wr).alloc (Nat.le_refl _) (.cells #[.slice (some ⟨sb, 0, none⟩) 1 1] 89)).cell (p := ⟨sb, 0, none⟩) hsl').trans cb'
      clear hb3 hrows ct cs cb0 hB hT hms cb'
      go_wp2
      go_ret
      exact ⟨rfl, bF⟩
end Go.Proofs.YtcgecdiaddcfkaaGreatDoor
/- The walks of a book that keeps results, and of one that keeps a message: its ops, each result's rows, the results. -/
set_option linter.unusedSimpArgs false
set_option linter.unusedVariables false
namespace Go.Proofs.YtcgecdiaddcfkaaGreatDoor
open Go.RowKit

set_option maxHeartbeats 1000000 in
set_option maxRecDepth 1000000 in
theorem bookResult_any {w : World} {bk n ln cl : Nat} {al : Option Addr} {xs : List Value} {vByte vRow vOp vResult : Value} {EByte ERow EOp EResult : List Ent} (I : BkMsgs w bk n vByte EByte vRow ERow vOp EOp vResult EResult) (hn : n ≤ 100000)
    (hx : w.ownsRow 0 92 2 (.slice al ln cl) ln xs) (hln : ln ≤ 1000000000) (hf : ∀ b, (Value.slice al ln cl).ownBlock = some b → b < bk ∧ ¬ LD EByte b ∧ ¬ LD ERow b ∧ ¬ LD EOp b ∧ ¬ LD EResult b) :
    Calls Tryz.prog 111 #[ptr bk, .agg #[.slice al ln cl]] w fun e w' => e = .returned (.tuple #[]) ∧ ∃ v', BkMsgs w' bk (n + 1) vByte EByte v' (ERow ++ [Ent.mk (.slice al ln cl) (.slice none 0 0) ln (n + 1)]) vOp EOp vResult EResult ∧ Wrote (fun b => bk ≤ b) w w' := by
  have hlt := I.lt
  have W1 : Wrote (fun b => bk ≤ b) w (w.alloc (.cells #[.slice al ln cl] 89)) := Wrote.alloc w _
  have hbA := (Below.refl w.heap.size w).alloc (Nat.le_refl _) (.cells #[.slice al ln cl] 89)
  have I1 : BkMsgs (w.alloc (.cells #[.slice al ln cl] 89)) bk n vByte EByte vRow ERow vOp EOp vResult EResult :=
    { I with
      hB := (hbA.block bk hlt).trans I.hB
      kByte := I.kByte.wrote (d := fun _ => False) (.of_below hbA) (fun _ _ h => h)
      kRow := I.kRow.wrote (d := fun _ => False) (.of_below hbA) (fun _ _ h => h)
      kOp := I.kOp.wrote (d := fun _ => False) (.of_below hbA) (fun _ _ h => h)
      kResult := I.kResult.wrote (d := fun _ => False) (.of_below hbA) (fun _ _ h => h) }
  have k := keepMsgsRow I1 hn (own_of_block hx (fun b hb' => hbA.block b (hx.lt b hb').2)) hln hf
  have c0 : (w.alloc (.cells #[.slice al ln cl] 89)).cell? ⟨w.heap.size, 0, none⟩ = some (.slice al ln cl) := block_cell (heap_alloc_new w _) 0 _ rfl
  have HW : Hid (Wrote (fun b => bk ≤ b) w (w.alloc (.cells #[.slice al ln cl] 89))) := W1
  clear I I1 hbA W1
  go_enter Tryz.func111, Tryz.ntmps111
  go_wp2_with fail
  refine k.mono ?_
  rintro e w' ⟨rfl, v', I', hw⟩
  have H : Hid (∃ v', BkMsgs w' bk (n + 1) vByte EByte v' (ERow ++ [Ent.mk (.slice al ln cl) (.slice none 0 0) ln (n + 1)]) vOp EOp vResult EResult ∧ Wrote (fun b => bk ≤ b) w w') := ⟨v', I', HW.out.trans hw⟩
  clear I' hw k HW
  go_wp2
  go_end0
  exact ⟨rfl, H.out⟩

theorem take_mem {α : Type} {l : List α} {k : Nat} {p : α} (h : p ∈ l.take (k + 1)) (hk : k < l.length) : p ∈ l.take k ∨ p = l[k]'hk := by
  rw [List.take_succ_eq_append_getElem hk] at h
  rcases List.mem_append.mp h with h | h
  · exact .inl h
  · exact .inr (List.mem_singleton.mp h)
theorem pair_take {α : Type} {R : α → α → Prop} {l : List α} (h : l.Pairwise R) {k : Nat} (hk : k < l.length) {p : α} (hp : p ∈ l.take k) : R p (l[k]'hk) := by
  have h2 := h
  rw [← List.take_append_drop k l, List.pairwise_append] at h2
  exact h2.2.2 p hp _ (by rw [List.drop_eq_getElem_cons hk]; exact List.mem_cons_self)

set_option maxHeartbeats 2000000 in
set_option maxRecDepth 1000000 in
theorem bookResults_any {w : World} {bk n cl : Nat} {al : Option Addr} {vByte vRow vOp vResult : Value} {EByte ERow EOp EResult : List Ent} (I : BkMsgs w bk n vByte EByte vRow ERow vOp EOp vResult EResult) (l : List ResP) (hn : n + l.length ≤ 90000)
    (hv : w.ownsRow 0 89 1 (.slice al l.length cl) l.length (l.flatMap resCells)) (hr : ∀ p ∈ l, p.2.length ≤ 1000000000 ∧ ∃ xs, w.ownsRow 0 92 2 p.1 p.2.length xs)
    (hpair : l.Pairwise (fun p q => ∀ g, p.1.ownBlock = some g → q.1.ownBlock ≠ some g)) (hap : ∀ p ∈ l, ∀ g, p.1.ownBlock = some g → (Value.slice al l.length cl).ownBlock ≠ some g)
    (hf : ∀ p ∈ l, ∀ b, p.1.ownBlock = some b → b < bk ∧ ¬ LD EByte b ∧ ¬ LD ERow b ∧ ¬ LD EOp b ∧ ¬ LD EResult b) (hg : ∀ b, (Value.slice al l.length cl).ownBlock = some b → b < bk ∧ ¬ LD EByte b ∧ ¬ LD ERow b ∧ ¬ LD EOp b ∧ ¬ LD EResult b) :
    Calls Tryz.prog 41 #[ptr bk, .slice al l.length cl] w fun e w' => e = .returned (.tuple #[]) ∧ ∃ vR ER vS, BkMsgs w' bk (n + l.length + 1) vByte EByte vR ER vOp EOp vS (EResult ++ [Ent.mk (.slice al l.length cl) (.slice none 0 0) l.length (n + l.length + 1)]) ∧ (∀ b, LD ER b → LD ERow b ∨ ∃ p ∈ l, p.1.ownBlock = some b) ∧ Wrote (fun b => bk ≤ b) w w' := by
  have hlt := I.lt
  have hlen : l.length ≤ 90000 := by omega
  go_enter Tryz.func41, Tryz.ntmps41
  go_wp2
  go_loopw [4] (fun i wr => ∃ (k : Nat) (vR : Value) (ER : List Ent), k ≤ l.length ∧ i = .int .i64 k ∧ BkMsgs wr bk (n + k) vByte EByte vR ER vOp EOp vResult EResult ∧ (∀ b, LD ER b → LD ERow b ∨ ∃ p ∈ l.take k, p.1.ownBlock = some b) ∧ Wrote (fun b => bk ≤ b) w wr) (fun i _ => l.length - (intOf i).toNat)
  case atStart => exact ⟨0, vRow, ERow, by omega, rfl, I, fun b h => .inl h, Wrote.refl _ _⟩
  case round =>
    obtain ⟨k, vR, ER, hk, rfl, J, hE, hW⟩ := hrel
    have hvW : wr.ownsRow 0 89 1 (.slice al l.length cl) l.length (l.flatMap resCells) := own_wrote hv hW (fun b hb hd => by have := (hg b hb).1; omega)
    by_cases h1 : k < l.length
    · obtain ⟨p, hp⟩ : ∃ p, p = l[k]'h1 := ⟨_, rfl⟩
      have hpm : p ∈ l := by rw [hp]; exact List.getElem_mem _
      obtain ⟨hp1, xs, hp2⟩ := hr p hpm
      have hfp := hf p hpm
      have hp3 : wr.ownsRow 0 92 2 p.1 p.2.length xs := own_wrote hp2 hW (fun b hb hd => by have := (hfp b hb).1; omega)
      have hfr : ∀ b, p.1.ownBlock = some b → b < bk ∧ ¬ LD EByte b ∧ ¬ LD ER b ∧ ¬ LD EOp b ∧ ¬ LD EResult b := fun b hb => by
        obtain ⟨a1, a2, a3, a4⟩ := hfp b hb
        refine ⟨a1, a2, fun h => ?_, a4⟩
        rcases hE b h with h | ⟨q, hq, hqb⟩
        · exact a3 h
        · have := pair_take hpair h1 hq b hqb
          rw [← hp] at this
          exact this hb
      obtain ⟨g, cap, eg, -, hgl⟩ := hvW.form (by omega)
      simp only [Value.slice.injEq, true_and] at eg
      obtain ⟨rfl, rfl⟩ := eg
      have c0 : wr.cell? ⟨g, k, none⟩ = some p.1 := by
        have := hvW.cells (g := g) rfl k p.1 (by
          have := flat_get (f := resCells) (size := 1) (fun _ => rfl) l k h1 0 (by omega)
          rw [Nat.mul_one, Nat.add_zero] at this
          rw [this, ← hp]; rfl)
        rw [Addr.add_lit] at this
        simpa using this
      obtain ⟨ap, cp, hp4, -, -⟩ := own_len' hp3
      have kb : Calls Tryz.prog 111 #[ptr bk, .agg #[.slice ap p.2.length cp]] wr fun e w' => e = .returned (.tuple #[]) ∧ ∃ v', BkMsgs w' bk (n + k + 1) vByte EByte v' (ER ++ [Ent.mk (.slice ap p.2.length cp) (.slice none 0 0) p.2.length (n + k + 1)]) vOp EOp vResult EResult ∧ Wrote (fun b => bk ≤ b) wr w' := bookResult_any J (by omega) (by rw [← hp4]; exact hp3) hp1 (by rw [← hp4]; exact hfr)
      rw [hp4] at c0
      have fin : Hid (∀ w' v', BkMsgs w' bk (n + k + 1) vByte EByte v' (ER ++ [Ent.mk (.slice ap p.2.length cp) (.slice none 0 0) p.2.length (n + k + 1)]) vOp EOp vResult EResult → Wrote (fun b => bk ≤ b) wr w' → ∃ (vR : Value) (ER : List Ent), BkMsgs w' bk (n + (k + 1)) vByte EByte vR ER vOp EOp vResult EResult ∧ (∀ b, LD ER b → LD ERow b ∨ ∃ p ∈ l.take (k + 1), p.1.ownBlock = some b) ∧ Wrote (fun b => bk ≤ b) w w') := fun w' v' I' hw => by
        refine ⟨v', _, I', fun b h => ?_, hW.trans hw⟩
        obtain ⟨y, hy, hb⟩ := h
        rcases List.mem_append.mp hy with hy | hy
        · rcases hE b ⟨y, hy, hb⟩ with h | ⟨q, hq, hqb⟩
          · exact .inl h
          · exact .inr ⟨q, by rw [List.take_succ_eq_append_getElem h1]; exact List.mem_append_left _ hq, hqb⟩
        · rw [List.mem_singleton.mp hy] at hb
          exact .inr ⟨p, by rw [List.take_succ_eq_append_getElem h1, ← hp]; exact List.mem_append_right _ (List.mem_singleton.mpr rfl), by rw [hp4]; exact hb⟩
      have i1 : (k : Int) < (l.length : Int) := by omega
      clear J hE hW hvW hp2 hp3 hfr hfp hp
      go_wp2_with fail
      refine kb.mono ?_
      rintro e w' ⟨rfl, v', I', hw⟩
      have HF : Hid _ := fin.out w' v' I' hw
      clear kb fin I' hw
      go_wp2
      go_roundw
      case rel =>
        obtain ⟨vR, ER, q1, q2, q3⟩ := HF.out
        exact ⟨k + 1, vR, ER, by omega, by go_num, q1, q2, q3⟩
      case measure => simp [intOf]; omega
    · obtain rfl : k = l.length := by omega
      have hE2 : ∀ b, LD ER b → LD ERow b ∨ ∃ p ∈ l, p.1.ownBlock = some b := fun b h => by
        have := hE b h
        rw [List.take_of_length_le (Nat.le_refl _)] at this
        exact this
      have kb := keepMsgsResult J (by omega) hvW (by omega) (fun b hb => by
        obtain ⟨a1, a2, a3, a4⟩ := hg b hb
        refine ⟨a1, a2, fun h => ?_, a4⟩
        rcases hE2 b h with h | ⟨q, hq, hqb⟩
        · exact a3 h
        · exact hap q hq b hqb hb)
      have fin : Hid (∀ w' vS, BkMsgs w' bk (n + l.length + 1) vByte EByte vR ER vOp EOp vS (EResult ++ [Ent.mk (.slice al l.length cl) (.slice none 0 0) l.length (n + l.length + 1)]) → Wrote (fun b => bk ≤ b) wr w' → ∃ vR ER vS, BkMsgs w' bk (n + l.length + 1) vByte EByte vR ER vOp EOp vS (EResult ++ [Ent.mk (.slice al l.length cl) (.slice none 0 0) l.length (n + l.length + 1)]) ∧ (∀ b, LD ER b → LD ERow b ∨ ∃ p ∈ l, p.1.ownBlock = some b) ∧ Wrote (fun b => bk ≤ b) w w') := fun w' vS I' hw => ⟨vR, ER, vS, I', hE2, hW.trans hw⟩
      have i1 : ¬ ((l.length : Int) < (l.length : Int)) := by omega
      clear J hE hE2 hW hvW
      go_wp2_with fail
      refine kb.mono ?_
      rintro e w' ⟨rfl, vS, I', hw⟩
      have HF : Hid _ := fin.out w' vS I' hw
      clear kb fin I' hw
      go_wp2
      go_end0
      exact ⟨rfl, HF.out⟩
end Go.Proofs.YtcgecdiaddcfkaaGreatDoor
