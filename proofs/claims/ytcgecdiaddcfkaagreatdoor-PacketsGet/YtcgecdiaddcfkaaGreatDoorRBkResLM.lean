import Derived.Test.YtcgecdiaddcfkaaGreatDoorM11
/- The walk of a book's lists of this kind (Result): how they are looked at. -/
set_option linter.unusedSimpArgs false
set_option linter.unusedVariables false
namespace Go.Proofs.YtcgecdiaddcfkaaGreatDoor
open Go.RowKit Go.BigFrame

abbrev LkResult (w : World) (r b1 o1 b2 o2 n : Nat) (l lg u1 u2 : Value) (W : World) : Prop := W.cell? ⟨r, 0, none⟩ = some (l) ∧ W.cell? ⟨r, 1, none⟩ = some (lg) ∧ W.cell? ⟨r, 2, none⟩ = some (.int .i64 ((n : Nat) : Int)) ∧ W.cell? ⟨b1, o1, none⟩ = some u1 ∧ W.cell? ⟨b2, o2, none⟩ = some u2 ∧ Below w.heap.size w W
theorem LkResult.drewN {w : World} {r b1 o1 b2 o2 n : Nat} {l lg u1 u2 : Value} {W : World} (h : LkResult w r b1 o1 b2 o2 n l lg u1 u2 W) (m : Nat) : LkResult w r b1 o1 b2 o2 n l lg u1 u2 (W.drewN m) := by
  obtain ⟨h0, h1, h2, h3, h4, hb⟩ := h
  exact ⟨h0, h1, h2, h3, h4, below_drewN' hb m⟩
theorem LkResult.below {w : World} {r b1 o1 b2 o2 n : Nat} {l lg u1 u2 : Value} {W W' : World} (h : LkResult w r b1 o1 b2 o2 n l lg u1 u2 W) (hb : Below W.heap.size W W') : LkResult w r b1 o1 b2 o2 n l lg u1 u2 W' := by
  obtain ⟨h0, h1, h2, h3, h4, hB⟩ := h
  exact ⟨(hb.cell (World.block_lt_of_cell? W _ h0)).trans h0, (hb.cell (World.block_lt_of_cell? W _ h1)).trans h1, (hb.cell (World.block_lt_of_cell? W _ h2)).trans h2, (hb.cell (World.block_lt_of_cell? W _ h3)).trans h3, (hb.cell (World.block_lt_of_cell? W _ h4)).trans h4, hB.trans (hb.mono hB.size)⟩
theorem slp_cells {p : Nat → Prop} {w : World} {v : Value} {us : List Value} {q : Nat} (h : SlP p 1 oneC w v us) (hq : us.length = q) : ∃ ao cap, v = .slice ao q cap ∧ q ≤ cap ∧ cap ≤ maxLen ∧ ∀ k, k < q → ∃ b off u, ao = some ⟨b, off, none⟩ ∧ b < w.heap.size ∧ u ∈ us ∧ w.cell? ⟨b, off + k, none⟩ = some u := by
  obtain ⟨ao, cap, e1, h2, h3, h4⟩ := h
  subst hq
  refine ⟨ao, cap, e1, h2, h3, fun k hk => ?_⟩
  obtain ⟨b, off, e, -, hb, hc⟩ := h4 (by omega)
  refine ⟨b, off, us[k]'hk, e, hb, List.getElem_mem _, ?_⟩
  have := hc k hk 0 (us[k]'hk) rfl
  simpa using this

set_option maxHeartbeats 4000000 in
set_option maxRecDepth 1000000 in
theorem lookResult_any (w : World) (bk top : Nat) (v : Value) (E : List Ent) (hb : w.cell? ⟨bk, 9, none⟩ = some v) (hbk : bk < w.heap.size) (h : GAtR top w 147 v E) (htab : Tab w) :
    Calls Tryz.prog 75 #[ptr bk] w fun e w' => e = .returned (.bool true) ∧ Below w.heap.size w w' := by
  have hfew := h.few
  obtain ⟨ao, cap, rfl, hc1, hc2⟩ := own_len' h.held
  unfold maxLen at hc2
  go_enter Tryz.func75, Tryz.ntmps75
  go_wp2
  go_loopw [3] (fun i wr => ∃ k : Nat, k ≤ E.length ∧ i = .int .i64 k ∧ Below w.heap.size w wr) (fun i _ => E.length - (intOf i).toNat)
  case atStart => exact ⟨0, by omega, rfl, Below.refl _ _⟩
  case round =>
    obtain ⟨k, hk, rfl, hB⟩ := hrel
    have hb1 : wr.cell? ⟨bk, 9, none⟩ = some (.slice ao E.length cap) := (hB.cell (p := ⟨bk, 9, none⟩) hbk).trans hb
    by_cases h1 : k < E.length
    · obtain ⟨x, hx⟩ : ∃ x, E[k]? = some x := ⟨E[k]'h1, by simp [h1]⟩
      obtain ⟨hdone, hLn, hN⟩ := h.done x (List.mem_of_getElem? hx)
      obtain ⟨g, cap', e1, -, -, c0, c1, c2, -⟩ := held_cell h.held hx
      simp only [Value.slice.injEq, true_and] at e1
      obtain ⟨rfl, rfl⟩ := e1
      obtain ⟨us, vs, du, dv, dl, dm, dk⟩ := hdone
      obtain ⟨al, cl, el, hl1, hl2, hlc⟩ := slp_cells dl du
      obtain ⟨am, cm, em, hm1, hm2, hmc⟩ := slp_cells dm (show (us ++ vs).length = x.len + 40 by rw [List.length_append, du, dv])
      have dk1 : ∀ u ∈ us, MkR top w x.n u := fun u hu => dk u (List.mem_append_left _ hu)
      clear du dv dl dm
      rw [el] at c0
      rw [em] at c1
      unfold maxLen at hl2 hm2
      have hgs : g < w.heap.size := (h.held.lt g rfl).2
      rw [← hB.cell (p := ⟨g, k * 3, none⟩) hgs] at c0
      rw [← hB.cell (p := ⟨g, k * 3 + 1, none⟩) hgs] at c1
      rw [← hB.cell (p := ⟨g, k * 3 + 2, none⟩) hgs] at c2
      have i1 : (k : Int) < (E.length : Int) := by omega
      have hz := hB.size
      obtain ⟨wO, hO⟩ : ∃ x, x = wr := ⟨_, rfl⟩
      subst hO
      go_wp2
      go_loopw [5] (fun j wq => ∃ q : Nat, q ≤ x.len + 40 ∧ j = .int .i64 q ∧ Below w.heap.size w wq ∧ Below (wO.heap.size + 1) (wO.alloc (.cells #[.slice al x.len cl, .slice am (x.len + 40) cm, .int .i64 (x.n : Int)] 147)) wq) (fun j _ => x.len + 40 - (intOf j).toNat)
      case atStart => exact ⟨0, by omega, rfl, hB.trans (((Below.refl _ _).alloc (Nat.le_refl _) _).mono hz), Below.refl _ _⟩
      case round =>
        clear c0 c1 c2 hb1 hB
        obtain ⟨q, hq, rfl, hB, hBo⟩ := hrel
        have hzq : wO.heap.size < wr.heap.size := by have := hBo.size; simp at this; omega
        have hH : wr.heap[wO.heap.size]? = some (.cells #[.slice al x.len cl, .slice am (x.len + 40) cm, .int .i64 (x.n : Int)] 147 (0, 0)) := (hBo.block _ (by omega)).trans (heap_alloc_new wO _)
        obtain ⟨d0, d1, d2⟩ := triple_cell hH
        by_cases hq1 : q < x.len + 40
        · obtain ⟨b1, o1, z1, rfl, hb1, hz1, hcell1⟩ := hmc q hq1
          have hm1' : MkR top w x.n z1 := dk z1 hz1
          obtain ⟨m1, hm1a, hm1e, hm1b⟩ := id hm1'
          subst hm1e
          have e0 : wr.cell? ⟨b1, o1 + q, none⟩ = some (.slice (some ⟨m1, 0, none⟩) 1 1) := (hB.cell (p := ⟨b1, _, none⟩) hb1).trans hcell1
          have i2 : (q : Int) < (x.len : Int) + 40 := by omega
          have hbo2 := fun (W : World) (hW : Below wr.heap.size wr W) => hBo.trans (hW.mono (Nat.succ_le_of_lt hzq))
          by_cases hq2 : q < x.len
          · obtain ⟨b2, o2, z2, rfl, hb2, hz2, hcell2⟩ := hlc q hq2
            have hm2' : MkR top w x.n z2 := dk1 z2 hz2
            obtain ⟨m2, hm2a, hm2e, hm2b⟩ := id hm2'
            subst hm2e
            have g0 : wr.cell? ⟨b2, o2 + q, none⟩ = some (.slice (some ⟨m2, 0, none⟩) 1 1) := (hB.cell (p := ⟨b2, _, none⟩) hb2).trans hcell2
            have i3 : (q : Int) < (x.len : Int) := by omega
            clear hcell2
            have hS : LkResult w wO.heap.size b1 (o1 + q) b2 (o2 + q) x.n (.slice (some ⟨b2, o2, none⟩) x.len cl) (.slice (some ⟨b1, o1, none⟩) (x.len + 40) cm) (.slice (some ⟨m1, 0, none⟩) 1 1) (.slice (some ⟨m2, 0, none⟩) 1 1) wr ∧ Below wr.heap.size wr wr := ⟨⟨d0, d1, d2, e0, g0, hB⟩, Below.refl _ _⟩
            have kis : ∀ W m, MkR top w x.n (.slice (some ⟨m, 0, none⟩) 1 1) → (LkResult w wO.heap.size b1 (o1 + q) b2 (o2 + q) x.n (.slice (some ⟨b2, o2, none⟩) x.len cl) (.slice (some ⟨b1, o1, none⟩) (x.len + 40) cm) (.slice (some ⟨m1, 0, none⟩) 1 1) (.slice (some ⟨m2, 0, none⟩) 1 1) W ∧ Below wr.heap.size wr W) → Calls Tryz.prog 133 #[.agg #[.slice (some ⟨m, 0, none⟩) 1 1], .int .i64 (x.n : Int)] W fun e w' => e = .returned (.bool true) ∧ (LkResult w wO.heap.size b1 (o1 + q) b2 (o2 + q) x.n (.slice (some ⟨b2, o2, none⟩) x.len cl) (.slice (some ⟨b1, o1, none⟩) (x.len + 40) cm) (.slice (some ⟨m1, 0, none⟩) 1 1) (.slice (some ⟨m2, 0, none⟩) 1 1) w' ∧ Below wr.heap.size wr w') := by
              intro W m hm hW
              refine (isResult_any W top x.n _ (hm.below (hB.trans (hW.2.mono hB.size))) hN (tab_below htab (hB.trans (hW.2.mono hB.size)))).mono ?_
              rintro e w' ⟨rfl, h'⟩
              exact ⟨rfl, hW.1.below h', hW.2.trans (h'.mono hW.2.size)⟩
            clear hcell1 hlc hmc hH hm1b
            go_wp2_with fail
            refine wp_region_class (C := fun W => LkResult w wO.heap.size b1 (o1 + q) b2 (o2 + q) x.n (.slice (some ⟨b2, o2, none⟩) x.len cl) (.slice (some ⟨b1, o1, none⟩) (x.len + 40) cm) (.slice (some ⟨m1, 0, none⟩) 1 1) (.slice (some ⟨m2, 0, none⟩) 1 1) W ∧ Below wr.heap.size wr W) (by kernel_rfl) (by kernel_rfl) ⟨hS.1.drewN 1, below_drew wr⟩ ?_
            clear hS
            repeat (first | go_big_quiet_skip | (go_big_quiet_want; go_big_quiet_op; go_big_quiet_on) | (go_big_quiet_want; apply Exists.intro; refine ⟨fun W hW => ?_, ?_⟩; (· first | (obtain ⟨⟨D0, D1, D2, E0, G0, -⟩, -⟩ := hW; unfold Oper.quietAt; go_simp; done) | (obtain ⟨⟨D0, D1, D2, E0, G0, -⟩, -⟩ := hW; unfold Oper.quietAt; go_simp; exact rfl) | (unfold Oper.quietAt; go_simp; exact kis W _ (by first | exact hm1' | exact hm2') hW)); go_simp; go_big_quiet_on))
            refine wpQuiet_nil ?_
            intro W' hlast
            clear kis
            go_wp2
            go_roundw
            case rel => exact ⟨q + 1, by omega, by go_num, hB.trans (hlast.2.mono hB.size), hbo2 _ hlast.2⟩
            case measure => simp [intOf]; omega
          · have i3 : decide ((q : Int) < (x.len : Int)) = false := by simp; omega
            have hS : LkResult w wO.heap.size b1 (o1 + q) b1 (o1 + q) x.n (.slice al x.len cl) (.slice (some ⟨b1, o1, none⟩) (x.len + 40) cm) (.slice (some ⟨m1, 0, none⟩) 1 1) (.slice (some ⟨m1, 0, none⟩) 1 1) wr ∧ Below wr.heap.size wr wr := ⟨⟨d0, d1, d2, e0, e0, hB⟩, Below.refl _ _⟩
            have kis : ∀ W m, MkR top w x.n (.slice (some ⟨m, 0, none⟩) 1 1) → (LkResult w wO.heap.size b1 (o1 + q) b1 (o1 + q) x.n (.slice al x.len cl) (.slice (some ⟨b1, o1, none⟩) (x.len + 40) cm) (.slice (some ⟨m1, 0, none⟩) 1 1) (.slice (some ⟨m1, 0, none⟩) 1 1) W ∧ Below wr.heap.size wr W) → Calls Tryz.prog 133 #[.agg #[.slice (some ⟨m, 0, none⟩) 1 1], .int .i64 (x.n : Int)] W fun e w' => e = .returned (.bool true) ∧ (LkResult w wO.heap.size b1 (o1 + q) b1 (o1 + q) x.n (.slice al x.len cl) (.slice (some ⟨b1, o1, none⟩) (x.len + 40) cm) (.slice (some ⟨m1, 0, none⟩) 1 1) (.slice (some ⟨m1, 0, none⟩) 1 1) w' ∧ Below wr.heap.size wr w') := by
              intro W m hm hW
              refine (isResult_any W top x.n _ (hm.below (hB.trans (hW.2.mono hB.size))) hN (tab_below htab (hB.trans (hW.2.mono hB.size)))).mono ?_
              rintro e w' ⟨rfl, h'⟩
              exact ⟨rfl, hW.1.below h', hW.2.trans (h'.mono hW.2.size)⟩
            clear hcell1 hlc hmc hH hm1b
            go_wp2_with fail
            refine wp_region_class (C := fun W => LkResult w wO.heap.size b1 (o1 + q) b1 (o1 + q) x.n (.slice al x.len cl) (.slice (some ⟨b1, o1, none⟩) (x.len + 40) cm) (.slice (some ⟨m1, 0, none⟩) 1 1) (.slice (some ⟨m1, 0, none⟩) 1 1) W ∧ Below wr.heap.size wr W) (by kernel_rfl) (by kernel_rfl) ⟨hS.1.drewN 1, below_drew wr⟩ ?_
            clear hS
            repeat (first | go_big_quiet_skip | (go_big_quiet_want; go_big_quiet_op; go_big_quiet_on) | (go_big_quiet_want; apply Exists.intro; refine ⟨fun W hW => ?_, ?_⟩; (· first | (obtain ⟨⟨D0, D1, D2, E0, G0, -⟩, -⟩ := hW; unfold Oper.quietAt; go_simp; done) | (obtain ⟨⟨D0, D1, D2, E0, G0, -⟩, -⟩ := hW; unfold Oper.quietAt; go_simp; exact rfl) | (unfold Oper.quietAt; go_simp; exact kis W _ (by first | exact hm1' | exact hm2') hW)); go_simp; go_big_quiet_on))
            refine wpQuiet_nil ?_
            intro W' hlast
            clear kis
            go_wp2
            go_roundw
            case rel => exact ⟨q + 1, by omega, by go_num, hB.trans (hlast.2.mono hB.size), hbo2 _ hlast.2⟩
            case measure => simp [intOf]; omega
        · obtain rfl : q = x.len + 40 := by omega
          have i2 : ¬ (((x.len + 40 : Nat) : Int) < (x.len : Int) + 40) := by omega
          clear hlc hmc
          go_wp2
          go_roundw
          case rel => exact ⟨k + 1, by omega, by go_num, hB⟩
          case measure => simp [intOf]; omega
    · obtain rfl : k = E.length := by omega
      go_wp2
      go_ret
      exact ⟨rfl, hB⟩
end Go.Proofs.YtcgecdiaddcfkaaGreatDoor
