/- Texts of this proof, laid into one. -/
import Derived.Test.YtndjgilheleplaaGreatDoorRBkResWM
import Derived.Test.YtndjgilheleplaaGreatDoorRTwResM
import Derived.Deep.RegionHeld3
/- The walk of a book's lists of results: how they grow. -/
set_option linter.unusedSimpArgs false
set_option linter.unusedVariables false
namespace Go.Proofs.YtndjgilheleplaaGreatDoor
open Go.RowKit

theorem info_bkResult : (Tryz.prog.info? 106).map (fun i => (i.zero, i.size, i.bytes)) = some (some (.agg #[.slice none 0 0]), 1, 24) := by kernel_rfl

set_option maxHeartbeats 2000000 in
set_option maxRecDepth 1000000 in
theorem growResult_any (w : World) (bk top : Nat) (v : Value) (E : List Ent) (hb : w.cell? ⟨bk, 9, none⟩ = some v) (hbk : bk < w.heap.size) (hD : ¬ DD v E bk) (h : FAtR top w 167 v E) (htop : top ≤ w.heap.size) (hT : ∀ W, Wrote (DD v E) w W → Tab W) :
    Calls Tryz.prog 85 #[ptr bk] w fun e w' => e = .returned (.tuple #[]) ∧ ∃ E', E'.map (fun x => (x.l, x.len, x.n)) = E.map (fun x => (x.l, x.len, x.n)) ∧ GAtR top w' 167 v E' ∧ Wrote (DD v E) w w' := by
  have hfew := h.few
  obtain ⟨i0, hi, hz0, hz1, hz2⟩ := info_parts info_bkResult
  go_enter Tryz.func85, Tryz.ntmps85
  go_wp2
  go_loopw [2] (fun i wr => ∃ (k : Nat) (E' : List Ent), k ≤ E'.length ∧ E'.length = E.length ∧ i = .int .i64 k ∧ GInR top w wr 167 v E E' k) (fun i _ => E.length - (intOf i).toNat)
  case atStart => exact ⟨0, E, by omega, rfl, rfl, GInR.start h⟩
  case round =>
    obtain ⟨k, E', hk, hEl0, rfl, hG⟩ := hrel
    have hEl : Hid (E'.length = E.length) := hEl0
    clear hEl0
    have hb1 : wr.cell? ⟨bk, 9, none⟩ = some v := (hG.wrote.cell (p := ⟨bk, 9, none⟩) hbk hD).trans hb
    obtain ⟨ao, cap, rfl, hc1, hc2⟩ := own_len' hG.held
    unfold maxLen at hc2
    by_cases h1 : k < E'.length
    · obtain ⟨x, hx⟩ : ∃ x, E'[k]? = some x := ⟨E'[k]'h1, by simp [h1]⟩
      obtain ⟨g, cap', e1, -, -, c0, c1, c2, -⟩ := held_cell hG.held hx
      simp only [Value.slice.injEq, true_and] at e1
      obtain ⟨rfl, rfl⟩ := e1
      obtain ⟨us, hrow, hmk⟩ := hG.rest k x (Nat.le_refl _) hx
      have hul : Hid (us.length = x.len) := by show _ = _; have := hrow.1; omega
      obtain ⟨ao, cp, hxl, hl1, hl2⟩ := own_len' hrow
      rw [hxl] at c0
      have i1 : (k : Int) < (E'.length : Int) := by omega
      have hlong := hG.fresh k x (Nat.le_refl _) hx
      rw [hlong] at c1
      obtain ⟨y, hy, ey1, ey2, ey3⟩ := same_get hG.same hx
      have hN := (h.rows y (List.mem_of_getElem? hy)).2.1
      have hLn := (h.rows y (List.mem_of_getElem? hy)).1
      rw [ey3] at hN
      rw [ey2] at hLn
      have hsz := hG.wrote.size
      have hgs : g < w.heap.size := (h.held.lt g rfl).2
      have hlt : ∀ b, x.l.ownBlock = some b → b < top := fun b hb => h.lt b (.inr ⟨y, List.mem_of_getElem? hy, by rw [ey1]; exact hb⟩)
      have hlb : ∀ b, x.l.ownBlock = some b → b < wr.heap.size ∧ b ≠ bk ∧ b ≠ g := fun b hb => ⟨(hrow.lt b hb).2, fun e => hD (.inr ⟨y, List.mem_of_getElem? hy, by rw [ey1, ← e]; exact hb⟩), fun e => h.off b ⟨y, List.mem_of_getElem? hy, by rw [ey1]; exact hb⟩ (by rw [e]; rfl)⟩
      have hlD : ∀ b, x.l.ownBlock = some b → DD (.slice (some ⟨g, 0, none⟩) E'.length cap) E b := fun b hb => .inr ⟨y, List.mem_of_getElem? hy, by rw [ey1]; exact hb⟩
      have hGa := hG.below ((Below.refl _ _).alloc (Nat.le_refl _) (.cells #[.slice ao x.len cp, .slice none 0 0, .int .i64 (x.n : Int)] 167))
      have bAl := (Below.refl wr.heap.size wr).alloc (Nat.le_refl _) (.cells #[.slice ao x.len cp, .slice none 0 0, .int .i64 (x.n : Int)] 167)
      have hLa := LInR.start (own_of_block hrow (fun b hb' => bAl.block b (hrow.lt b hb').2)) (fun u hu => (hmk u hu).below bAl) hlt
      rw [hxl] at hLa
      have hzero := own_zero hrow
      clear hmk bAl
      obtain ⟨wO, hO⟩ : ∃ x, x = wr := ⟨_, rfl⟩
      subst hO
      go_wp2
      go_loopw [4, 5] (fun lg j wq => ∃ (q : Nat) (vs : List Value), q ≤ 40 ∧ vs.length = q ∧ j = .int .i64 q ∧ LInR top (wO.alloc (.cells #[.slice ao x.len cp, .slice none 0 0, .int .i64 (x.n : Int)] 167)) wq x us vs lg) (fun _ j _ => 40 - (intOf j).toNat)
      case atStart => exact ⟨0, [], by omega, rfl, rfl, hLa⟩
      case round =>
        clear hLa hb1
        obtain ⟨q, vs, hq, hvl0, rfl, hL⟩ := hrel
        have hvl : Hid (vs.length = q) := hvl0
        have hzz := hL.wrote.size
        have zz : (wO.alloc (.cells #[.slice ao x.len cp, .slice none 0 0, .int .i64 (x.n : Int)] 167)).heap.size = wO.heap.size + 1 := by simp
        have hnot : ¬ x.l.ownBlock = some wO.heap.size := fun e => by have := (hlb _ e).1; omega
        have hB : wr.heap[wO.heap.size]? = some (.cells #[.slice ao x.len cp, .slice none 0 0, .int .i64 (x.n : Int)] 167 (0, 0)) := (hL.wrote.block _ (by omega) hnot).trans (heap_alloc_new wO _)
        obtain ⟨d0, d1, d2⟩ := triple_cell hB
        have hb1 : wr.cell? ⟨bk, 9, none⟩ = some (.slice (some ⟨g, 0, none⟩) E'.length cap) := by
          rw [hL.wrote.cell (p := ⟨bk, 9, none⟩) (by simp only [zz]; omega) (fun e => (hlb _ e).2.1 rfl)]
          exact (hGa.wrote.cell (p := ⟨bk, 9, none⟩) hbk hD).trans hb
        have hown := hL.own
        rw [hvl0] at hown
        obtain ⟨al, cl, hlg, hl3, hl4⟩ := own_len' hown
        subst hlg
        clear hvl0
        unfold maxLen at hl4
        by_cases hq1 : q < 40
        · have i2 : (q : Int) < 40 := by omega
          have km := markResult_any wr x.n hN (hT wr ((hGa.wrote).trans (hL.wrote.weak (fun b _ hb => hlD b hb))))
          have hllt : ∀ b, (Value.slice al (x.len + q) cl).ownBlock = some b → b < wr.heap.size := fun b hb => (hown.lt b hb).2
          have fin := fun (W : World) (u : Value) (hW : Below wr.heap.size wr W) => (hL.below hW).below ((Below.refl _ _).alloc (Nat.le_refl _) (.cells #[u] 106))
          have ttop : top ≤ wr.heap.size := by omega
          have b1 : Hid (x.len + q + 1 ≤ maxLen ∧ (x.len + q + 1) * 24 ≤ 140737488355328) := by show _ ∧ _; unfold maxLen; omega
          clear hL hB hown
          go_wp2_with fail
          refine km.mono ?_
          rintro e w' ⟨u, rfl, mu, hw⟩
          have hL2 := fin w' u hw
          have hu2 : MkR top (w'.alloc (.cells #[u] 106)) x.n u := (mu.weak ttop).below ((Below.refl _ _).alloc (Nat.le_refl _) _)
          have hun : ∀ b, u.ownBlock = some b → (Value.slice al (x.len + q) cl).ownBlock ≠ some b := fun b h1 h2 => by
            have := (mu.lt b h1).1
            have := hllt b h2
            omega
          have h1c : ∀ z ∈ [u], z.oneCell' = true := fun z hz => by rw [List.mem_singleton.mp hz]; exact mu.one
          have src : Src Tryz.prog 1 57 (.slice (some ⟨w'.heap.size, 0, none⟩) 1 1) 1 [u] (w'.alloc (.cells #[u] 106)) := Src.ofSlice _ Tryz.underlying57 ⟨w'.heap.size, 0, none⟩ 1 1 [u] rfl (news_ofv _ _) h1c
          have hown2 := hL2.own
          rw [hvl.out] at hown2
          have HA : Hid (∀ v' w1, w1.ownsRow 0 106 1 v' (x.len + q + 1) (us ++ vs ++ [u]) → ((v'.ownBlock = (Value.slice al (x.len + q) cl).ownBlock ∧ (w'.alloc (.cells #[u] 106)).grownBy w1 (Value.slice al (x.len + q) cl).ownBlock) ∨ (v'.ownBlock = some (w'.alloc (.cells #[u] 106)).heap.size ∧ (w'.alloc (.cells #[u] 106)).grownBy w1 none)) → LInR top (wO.alloc (.cells #[.slice ao x.len cp, .slice none 0 0, .int .i64 (x.n : Int)] 167)) w1 x us (vs ++ [u]) v') := fun v' w1 ho hg => hL2.app hul.out hzero hu2 hun (by rw [hvl.out]; exact ho) hg
          obtain ⟨ub, -, rfl, -⟩ := mu
          clear km fin hw hL2 hu2 hun h1c hllt
          go_wp2_with (at_builtin; refine wpList_append_stays _ rfl (.tmp 28) (.tmp 32) 57 57 rfl 0 106 i0 (.agg #[.slice none 0 0]) 1 24 Tryz.underlying57 hi hz0 hz1 hz2 rfl (by decide) (.slice al (x.len + q) cl) (x.len + q) (us ++ vs) rfl hown2 (.slice (some ⟨w'.heap.size, 0, none⟩) 1 1) 1 [.slice (some ⟨ub, 0, none⟩) 1 1] rfl src b1.out.1 b1.out.2 (Nat.zero_le _) ?_; intro v' w1 ho hg; have R := HA.out v' w1 ho hg; obtain ⟨av, nv, cv, rfl⟩ := own_slice ho)
          go_roundw
          case rel => exact ⟨q + 1, _, by omega, by rw [List.length_append, hvl.out]; rfl, by go_num, R⟩
          case measure => simp [intOf]; omega
        · obtain rfl : q = 40 := by omega
          have hheld := own_wrote hGa.held hL.wrote (fun b hb e => (hlb b e).2.2 (by simpa [Value.ownBlock] using hb.symm))
          obtain ⟨g', cap', e1, -, -, c0', c1', c2', f1'⟩ := held_cell hheld hx
          simp only [Value.slice.injEq, true_and, Option.some.injEq, Addr.mk.injEq, and_true] at e1
          obtain ⟨rfl, rfl⟩ := e1
          have R := hGa.store hx h htop rfl hul.out hvl.out hL
          go_wp2
          go_roundw
          case rel => exact ⟨k + 1, _, by rw [List.length_set]; omega, by rw [List.length_set]; exact hEl.out, by go_num, R⟩
          case measure => have := hEl.out; simp [intOf]; omega
    · have hkE : k = E'.length := by omega
      subst hkE
      have i1 : ¬ ((E'.length : Int) < (E'.length : Int)) := by omega
      go_wp2
      go_end0
      exact ⟨rfl, E', hG.same, hG.fin h, hG.wrote⟩
end Go.Proofs.YtndjgilheleplaaGreatDoor
/- The walks of how much results have in them, at least as many as there are; and of the look whether copies are as they were. -/
set_option linter.unusedSimpArgs false
set_option linter.unusedVariables false
namespace Go.Proofs.YtndjgilheleplaaGreatDoor
open Go.RowKit

set_option maxHeartbeats 2000000 in
set_option maxRecDepth 1000000 in
theorem sizeRowB_any (w : World) (la : Nat) (va : Value) (l : List RowD) (ha : SlAt 2 rowCells w la va l) (hsm : ∀ x ∈ l, rowSz x) (hbl : l.length ≤ 140737488351232) :
    Calls Tryz.prog 159 #[va] w fun e w' => (∃ z : Int, e = .returned (.int .i64 z) ∧ (l.length : Int) ≤ z ∧ z ≤ 281474976710656) ∧ ∃ n, w' = w.drewN n := by
  obtain ⟨ao, ca, rfl, ha1, ha2, ha3⟩ := ha
  unfold maxLen at ha2
  go_enter Tryz.func159, Tryz.ntmps159
  go_wp2
  go_loopw [3, 4] (fun s i wr => ∃ (k n : Nat) (z : Int), k ≤ l.length ∧ i = .int .i64 k ∧ s = .int .i64 z ∧ (l.length : Int) ≤ z ∧ z ≤ 281474976710656 ∧ wr = w.drewN n) (fun _ i _ => l.length - (intOf i).toNat)
  case atStart => exact ⟨0, 0, _, by omega, rfl, rfl, Int.le_refl _, by omega, rfl⟩
  case round =>
    obtain ⟨k, n, z, hk, rfl, rfl, hzl, hzu, rfl⟩ := hrel
    by_cases h1 : k < l.length
    · by_cases h2 : z ≤ 1048576
      · obtain ⟨b1, o1, rfl, hl1, hc1⟩ := ha3 (by omega)
        obtain ⟨x, hx⟩ : ∃ x, x = l[k]'h1 := ⟨_, rfl⟩
        have hxs := hsm x (by rw [hx]; exact List.getElem_mem _)
        have p : ∀ j u, (rowCells x)[j]? = some u → w.cell? ⟨b1, o1 + k * 2 + j, none⟩ = some u := fun j u hu => hc1 k h1 j u (by rw [← hx]; exact hu)
        have p0 := p 0 _ rfl
        have p1 := p 1 _ rfl
        simp only [Nat.add_zero, Nat.mul_one] at p0
        have HS : Hid (rowSz x) := hxs
        clear p hx hc1 ha3 hxs
        have i1 : (k : Int) < (l.length : Int) := by omega
        go_wp2
        skip
        go_wp2
        go_roundw
        case rel =>
          have hS := HS.out
          unfold rowSz at hS
          refine ⟨k + 1, _, _, by omega, by go_num, rfl, ?_, ?_, rfl⟩
          all_goals
            try unfold wrap64
            try simp only [IntKind.wrap_i64]
            omega
        case measure => simp [intOf]; omega
      · clear ha3
        go_wp2
        go_ret
        exact ⟨⟨_, rfl, hzl, hzu⟩, n, rfl⟩
    · clear ha3
      go_wp2
      go_ret
      exact ⟨⟨_, rfl, hzl, hzu⟩, n, rfl⟩

def resSz (p : ResP) : Prop := p.2.length ≤ 140737488351232 ∧ ∀ x ∈ p.2, rowSz x

set_option maxHeartbeats 2000000 in
set_option maxRecDepth 1000000 in
theorem sizeResult_any (w : World) (la : Nat) (x : ResP) (ha : RowsAt w la x) (hs : resSz x) (hla : la ≤ w.heap.size) :
    Calls Tryz.prog 101 #[resV x] w fun e w' => (∃ z : Int, e = .returned (.int .i64 z) ∧ (x.2.length : Int) ≤ z ∧ z ≤ 281474976710657) ∧ Below w.heap.size w w' := by
  obtain ⟨vx, rx⟩ := x
  unfold resV
  simp only
  obtain ⟨W, hW⟩ : ∃ W, W = w.alloc (.cells #[vx] 106) := ⟨_, rfl⟩
  have bW : Below w.heap.size w W := by rw [hW]; exact (Below.refl _ _).alloc (Nat.le_refl _) _
  have hsW : SlAt 2 rowCells W la vx rx := ha.1.below bW hla
  have k := sizeRowB_any W la vx rx hsW hs.2 hs.1
  obtain ⟨ao, ca, hvx, -, -, -⟩ := ha.1
  simp only at hvx
  subst hvx
  have fin : ∀ n, Below w.heap.size w (W.drewN n) := fun n => bW.trans ((below_drewN W n).mono bW.size)
  clear bW hsW
  subst hW
  go_enter Tryz.func101, Tryz.ntmps101
  go_wp2_with fail
  refine k.mono ?_
  rintro e w1 ⟨⟨z, rfl, hz1, hz2⟩, n, rfl⟩
  have f := fin n
  clear fin k
  go_wp2
  go_ret
  refine ⟨⟨_, rfl, ?_, ?_⟩, f⟩
  all_goals
    try unfold wrap64
    try simp only [IntKind.wrap_i64]
    omega

set_option maxHeartbeats 2000000 in
set_option maxRecDepth 1000000 in
theorem sizeResults_any (w : World) (va : Value) (l : List ResP) (ha : ResAt w w.heap.size va l) (hs : ∀ p ∈ l, resSz p) :
    Calls Tryz.prog 22 #[va] w fun e w' => (∃ z : Int, e = .returned (.int .i64 z) ∧ (l.length : Int) ≤ z ∧ (z ≤ 1048576 → ∀ p ∈ l, (p.2.length : Int) ≤ z)) ∧ Below w.heap.size w w' := by
  obtain ⟨⟨ao, ca, rfl, ha1, ha2, ha3⟩, hra⟩ := ha
  unfold maxLen at ha2
  go_enter Tryz.func22, Tryz.ntmps22
  go_wp2
  go_loopw [3, 4] (fun s i wr => ∃ (k : Nat) (z : Int), k ≤ l.length ∧ i = .int .i64 k ∧ s = .int .i64 z ∧ (l.length : Int) ≤ z ∧ (∀ p ∈ l.take k, (p.2.length : Int) ≤ z) ∧ Below w.heap.size w wr) (fun _ i _ => l.length - (intOf i).toNat)
  case atStart => exact ⟨0, _, by omega, rfl, rfl, Int.le_refl _, (fun p hp => by simp at hp), Below.refl _ _⟩
  case round =>
    obtain ⟨k, z, hk, rfl, rfl, hzl, hzp0, hB⟩ := hrel
    have hzp : Hid (∀ p ∈ l.take k, (p.2.length : Int) ≤ z) := hzp0
    clear hzp0
    by_cases h1 : k < l.length
    · by_cases h2 : z ≤ 1048576
      · obtain ⟨b1, o1, rfl, hl1, hc1⟩ := ha3 (by omega)
        have hz := hB.size
        obtain ⟨x, hx⟩ : ∃ x, x = l[k]'h1 := ⟨_, rfl⟩
        have hxm : x ∈ l := by rw [hx]; exact List.getElem_mem _
        have p0 : wr.cell? ⟨b1, o1 + k, none⟩ = some x.1 := by
          rw [hB.cell hl1]
          have := hc1 k h1 0 x.1 (by rw [← hx]; rfl)
          simpa using this
        have r1 : RowsAt wr w.heap.size x := (hra x hxm).below hB (Nat.le_refl _)
        have kS := sizeResult_any wr w.heap.size x r1 (hs x hxm) hz
        have hzn : Hid (∀ z' : Int, z ≤ z' → (x.2.length : Int) ≤ z' → ∀ p ∈ l.take (k + 1), (p.2.length : Int) ≤ z') := fun z' h1' h2' p hp => by
          rw [List.take_succ_eq_append_getElem h1] at hp
          rcases List.mem_append.mp hp with hp | hp
          · have := hzp.out p hp; omega
          · rw [List.mem_singleton.mp hp, ← hx]; exact h2'
        clear hx hxm
        obtain ⟨vx, rx⟩ := x
        obtain ⟨ax, cx, hvx, -, -, -⟩ := r1.1
        simp only at hvx p0
        subst hvx
        unfold resV at kS
        simp only at kS
        clear hc1 ha3 r1 hra hs
        have i1 : (k : Int) < (l.length : Int) := by omega
        go_wp2_with fail
        refine kS.mono ?_
        rintro e w1 ⟨⟨z1, rfl, hz1, hz2⟩, b1'⟩
        have f1 := hB.trans (b1'.mono hz)
        clear kS b1'
        go_wp2
        go_roundw
        case rel =>
          refine ⟨k + 1, _, by omega, by go_num, rfl, ?_, hzn.out _ ?_ ?_, f1⟩
          all_goals
            try unfold wrap64
            try simp only [IntKind.wrap_i64]
            omega
        case measure => simp [intOf]; omega
      · clear ha3 hra hs
        go_wp2
        go_ret
        exact ⟨⟨_, rfl, hzl, fun h => absurd h (by omega)⟩, hB⟩
    · obtain rfl : k = l.length := by omega
      have hzp2 : Hid (∀ p ∈ l, (p.2.length : Int) ≤ z) := fun p hp => hzp.out p (by rw [List.take_of_length_le (Nat.le_refl _)]; exact hp)
      clear ha3 hra hs hzp
      go_wp2
      go_ret
      exact ⟨⟨_, rfl, hzl, fun _ => hzp2.out⟩, hB⟩
end Go.Proofs.YtndjgilheleplaaGreatDoor
