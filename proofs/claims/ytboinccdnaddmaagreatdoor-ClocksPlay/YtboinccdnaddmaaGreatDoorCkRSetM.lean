import Derived.Test.YtboinccdnaddmaaGreatDoorCkRefM
/- The walk of the document's clock's Set. (mk_rset.py) -/
set_option linter.unusedSimpArgs false
set_option linter.unusedVariables false
set_option maxRecDepth 1000000
namespace Go.Proofs.YtboinccdnaddmaaGreatDoor
open Go.RowKit Go.Maps

section
variable {S0 : Nat → Prop} {w0 w w' : World} {L : List Part} {M : Nat} {l : List (Nat × Nat)}
/-- Somebody is not in the list any more. -/
def Del (l : List (Nat × Nat)) (id : Nat) (l' : List (Nat × Nat)) : Prop := (l' = l ∧ ∀ x ∈ l, x.1 ≠ id) ∨ ∃ (k : Nat) (x : Nat × Nat), l[k]? = some x ∧ x.1 = id ∧ l' = l.take k ++ l.drop (k + 1)
theorem Del.len {l l' : List (Nat × Nat)} {id : Nat} (h : Del l id l') : l'.length ≤ l.length := by
  rcases h with ⟨rfl, -⟩ | ⟨k, x, h1, -, rfl⟩
  · exact Nat.le_refl _
  · rw [List.length_append, List.length_take, List.length_drop]; omega
theorem rclear_del (id : Nat) (hl : l.length ≤ 1000000) (h : St S0 w0 w (refP M l :: L)) :
    Calls Tryz.prog 8 #[ptr M, .int .u32 (id : Int)] w fun e w' => ∃ (c : Int) (l' : List (Nat × Nat)), e = .returned (.int .i64 c) ∧ Del l id l' ∧ St S0 w0 w' (refP M l' :: L) := by
  refine (rclear_ok id hl h).mono ?_
  rintro e w' (⟨rfl, h1, rfl⟩ | ⟨k, x, h1, h2, rfl, h3⟩)
  · exact ⟨_, l, rfl, .inl ⟨rfl, h1⟩, h⟩
  · exact ⟨_, _, rfl, .inr ⟨k, x, h1, h2, rfl⟩, h3⟩
theorem one_src (w : World) (id t : Nat) : Src Tryz.prog 2 26 (.slice (some ⟨w.heap.size, 0, none⟩) 1 1) 1 ([(id, t)].flatMap setC) (w.alloc (.cells #[.int .u32 (id : Int), .int .i64 (t : Int)] 69)) :=
  Src.ofSlice _ Tryz.underlying26 ⟨w.heap.size, 0, none⟩ 1 1 (setC (id, t)) rfl (news_ofv [.int .u32 (id : Int), .int .i64 (t : Int)] _) (by intro u hu; simp [setC] at hu; rcases hu with rfl | rfl <;> rfl)
set_option maxHeartbeats 1000000 in
theorem rset_bad (v : Value) (id t : Int) (ht : t < 1 ∨ 1073741824 < t) (w : World) :
    Calls Tryz.prog 6 #[ptr M, .int .u32 id, .int .i64 t] w fun e w' => e = .returned (.int .i64 1) ∧ w = w' := by
  rcases ht with ht | ht
  · go_enter Tryz.func6, Tryz.ntmps6
    go_wp2
    go_ret
    exact ⟨rfl, rfl⟩
  · have ht2 : ¬ t < 1 := by omega
    go_enter Tryz.func6, Tryz.ntmps6
    go_wp2
    go_ret
    exact ⟨rfl, rfl⟩
def RSet (S0 : Nat → Prop) (w0 : World) (L : List Part) (M : Nat) (l : List (Nat × Nat)) (id t : Nat) (e : Ending) (w' : World) : Prop :=
  e = .returned (.int .i64 0) ∧ ∃ (l' : List (Nat × Nat)) (k : Nat), Del l id l' ∧ (∀ j x, j < k → l'[j]? = some x → x.1 < id) ∧ (∀ x, l'[k]? = some x → ¬ x.1 < id) ∧ k ≤ l'.length ∧ St S0 w0 w' (refP M (l'.take k ++ [(id, t)] ++ l'.drop k) :: L)
set_option maxHeartbeats 1000000 in
theorem rset_ok (id t : Nat) (h1 : 1 ≤ t) (h2 : t ≤ 1073741824) (hl : l.length ≤ 100000) (h : St S0 w0 w (refP M l :: L)) :
    Calls Tryz.prog 6 #[ptr M, .int .u32 (id : Int), .int .i64 (t : Int)] w fun e w' => RSet S0 w0 L M l id t e w' := by
  have kc := rclear_del id (by omega) h
  obtain ⟨i0, hi, hz0, hz1, hz2⟩ := info_parts info_set
  have t1 : ¬ (t : Int) < 1 := by omega
  have t2 : ¬ (1073741824 : Int) < (t : Int) := by omega
  clear h
  go_enter Tryz.func6, Tryz.ntmps6
  go_wp2_with fail
  refine kc.mono ?_
  rintro e w1 ⟨c, l', rfl, hd, s1⟩
  have HD : Hid (Del l id l') := hd
  have hl' : l'.length ≤ 100000 := Nat.le_trans hd.len hl
  obtain ⟨v, s2⟩ := ref_open s1
  have c0 : w1.cell? ⟨M, 0, none⟩ = some v := by have := s2.blk.1; simp [World.cell?, this]
  obtain ⟨ao, cap, hv, h3, h4, h5⟩ := sets_at s2.swap
  unfold maxLen at h4
  have S2 : Hid (St S0 w0 w1 (Part.blk M (refO v) :: setsP v l' :: L)) := s2
  have HO : Hid ((ao = none ∧ cap = 0 ∧ l'.length = 0) ∨ ∃ b, ao = some ⟨b, 0, none⟩) := by
    rcases s2.swap.row.2 with ⟨q, hn⟩ | ⟨g, cap', cur, q, -⟩
    · rw [hv] at q; simp only [Value.slice.injEq] at q; exact .inl ⟨q.1, q.2.2, q.2.1⟩
    · rw [hv] at q; simp only [Value.slice.injEq] at q; exact .inr ⟨g, q.1⟩
  have HC : Hid (∀ i x, l'[i]? = some x → ∃ b off, ao = some ⟨b, off, none⟩ ∧ w1.cell? ⟨b, off + i * 2, none⟩ = some (.int .u32 (x.1 : Int))) := fun i x hi => by
    obtain ⟨hlt, he⟩ := List.getElem?_eq_some_iff.1 hi
    obtain ⟨b, off, e, hb, hc⟩ := h5 (by omega)
    refine ⟨b, off, e, ?_⟩
    have := hc i hlt 0 (.int .u32 (x.1 : Int)) (by rw [he]; rfl)
    simpa using this
  subst hv
  clear kc s1 s2 h5 hd
  go_wp2_with fail
  go_loopw [7] (fun i wr => ∃ k : Nat, i = .int .i64 k ∧ k ≤ l'.length ∧ (∀ j x, j < k → l'[j]? = some x → x.1 < id) ∧ wr = w1) (fun i _ => l'.length - (intOf i).toNat)
  case atStart => exact ⟨0, rfl, by omega, fun j x hj => (by omega), rfl⟩
  case round =>
    obtain ⟨k, rfl, hk, ha, rfl⟩ := hrel
    have HA : Hid (∀ j x, j < k → l'[j]? = some x → x.1 < id) := ha
    clear ha
    have AFTER : Hid (∀ x, l'[k]? = some x → ¬ x.1 < id) → Hid True := fun _ => trivial
    by_cases hgo : ∃ x, l'[k]? = some x ∧ x.1 < id
    · obtain ⟨x, hx, hxi⟩ := hgo
      have hkn : k < l'.length := (List.getElem?_eq_some_iff.1 hx).1
      obtain ⟨b, off, rfl, c1⟩ := HC.out k x hx
      obtain ⟨y, hy⟩ : ∃ y, y = x.1 := ⟨_, rfl⟩
      rw [← hy] at c1 hxi
      have HX : Hid (l'[k]? = some x ∧ y = x.1) := ⟨hx, hy⟩
      have i1 : (k : Int) < (l'.length : Int) := by omega
      have e1 : (y : Int) < (id : Int) := by omega
      have HI : Hid (y < id) := hxi
      clear hx HC hy hxi HO AFTER S2
      go_wp2
      go_roundw
      case rel => exact ⟨k + 1, by go_num, by omega, fun j z hj hz => by
        by_cases e : j = k
        · subst e; rw [HX.out.1] at hz; cases hz; rw [← HX.out.2]; exact HI.out
        · exact HA.out j z (by omega) hz, trivial⟩
      case measure => (simp [intOf]; try omega)
    · have HE : Hid (∀ x, l'[k]? = some x → ¬ x.1 < id) := fun x hx hxi => hgo ⟨x, hx, hxi⟩
      clear AFTER
      have GO : (k < l'.length ∧ ∃ x b off, l'[k]? = some x ∧ ao = some ⟨b, off, none⟩ ∧ wr.cell? ⟨b, off + k * 2, none⟩ = some (.int .u32 (x.1 : Int)) ∧ ¬ x.1 < id) ∨ k = l'.length := by
        by_cases q : k < l'.length
        · obtain ⟨x, hx⟩ : ∃ x, l'[k]? = some x := ⟨_, List.getElem?_eq_getElem q⟩
          obtain ⟨b, off, e, c1⟩ := HC.out k x hx
          exact .inl ⟨q, x, b, off, hx, e, c1, HE.out x hx⟩
        · exact .inr (by omega)
      clear hgo HC
      rcases HO.out with ⟨rfl, rfl, hl0⟩ | ⟨b, rfl⟩
      · obtain rfl : k = 0 := by omega
        obtain rfl : l' = [] := List.eq_nil_of_length_eq_zero hl0
        clear GO HO
        have b2 : Hid (([] : List (Nat × Nat)).length + 1 ≤ maxLen ∧ (([] : List (Nat × Nat)).length + 1) * 16 ≤ 140737488355328) := by show _ ∧ _; unfold maxLen; simp
        have F1 : Hid (St S0 w0 wr (setsP (.slice none 0 0) [] :: Part.blk M (refO (.slice none 0 0)) :: setsP (.slice none 0 0) [] :: L)) := S2.out.fresh_row 69 2
        have R2 : Hid (St S0 w0 (wr.alloc (.cells #[.int .u32 (id : Int), .int .i64 (t : Int)] 69)) (setsP (.slice none 0 0) [] :: Part.blk M (refO (.slice none 0 0)) :: setsP (.slice none 0 0) [] :: L)) := F1.out.up (below_one wr _)
        have X2 : Hid (Src Tryz.prog 2 26 (.slice (some ⟨wr.heap.size, 0, none⟩) 1 1) 1 ([(id, t)].flatMap setC) (wr.alloc (.cells #[.int .u32 (id : Int), .int .i64 (t : Int)] 69))) := one_src wr id t
        clear S2 F1
        have b3 : Hid (([] ++ [(id, t)]).length + ([] : List (Nat × Nat)).length ≤ maxLen ∧ (([] ++ [(id, t)]).length + ([] : List (Nat × Nat)).length) * 16 ≤ 140737488355328) := by show _ ∧ _; unfold maxLen; simp
        go_wp2_with (first
          | (at_builtin; refine wpList_append_own_src _ rfl (.tmp 46) (.tmp 50) 26 26 rfl 0 69 i0 (.agg #[.int .u32 0, .int .i64 0]) 2 16 Tryz.underlying26 hi hz0 hz1 hz2 rfl (by decide) (.slice none 0 0) _ _ rfl R2.out.row (.slice (some ⟨wr.heap.size, 0, none⟩) 1 1) _ _ rfl X2.out b2.out.1 b2.out.2 (Nat.zero_le _) ?_; intro v' w3 ho hg hb; have R := fin_one (B := [(id, t)]) R2.out rfl v' w3 ho hg hb; obtain ⟨d0, R⟩ := R; have X3 : Hid (Src Tryz.prog 2 26 (.slice none 0 0) ([] : List (Nat × Nat)).length (([] : List (Nat × Nat)).flatMap setC) w3) := Src.ofNil w3 Tryz.underlying26 0; obtain ⟨av2, nv2, cv2, hv'⟩ := own_slice ho; subst hv'; clear ho hg hb X2 R2)
          | (at_builtin; refine wpList_append_own_src _ rfl (.tmp 53) (.tmp 59) 26 26 rfl 0 69 i0 (.agg #[.int .u32 0, .int .i64 0]) 2 16 Tryz.underlying26 hi hz0 hz1 hz2 rfl (by decide) (.slice av2 nv2 cv2) _ _ rfl R.out.row (.slice none 0 0) _ _ rfl X3.out b3.out.1 b3.out.2 (Nat.zero_le _) ?_; intro v' w4 ho hg hb; have F := fin_two (B := []) R.out rfl v' w4 ho hg hb; obtain ⟨⟨d1, d2⟩, F⟩ := F; obtain ⟨av', nv', cv', hv'⟩ := own_slice ho; subst hv'; clear ho hg hb R X3))
        go_ret
        exact ⟨rfl, [], 0, HD.out, HA.out, HE.out, by simp, F.out⟩
      · by_cases hkc : cap = k
        · subst hkc
          obtain rfl : cap = l'.length := by omega
          have i1 : ¬ (l'.length : Int) < (l'.length : Int) := by omega
          clear GO HO
          have tl : Hid ((l'.take l'.length).length = l'.length) := by show _ = _; rw [List.length_take]; omega
          have dl : Hid ((l'.drop l'.length).length = 0) := by show _ = _; rw [List.length_drop]; omega
          have b1 : Hid (([] : List (Nat × Nat)).length + l'.length ≤ maxLen ∧ (([] : List (Nat × Nat)).length + l'.length) * 16 ≤ 140737488355328) := by show _ ∧ _; unfold maxLen; first | (simp; done) | (simp; omega)
          have b2 : Hid (([] ++ l'.take l'.length).length + 1 ≤ maxLen ∧ (([] ++ l'.take l'.length).length + 1) * 16 ≤ 140737488355328) := by show _ ∧ _; unfold maxLen; rw [List.nil_append, tl.out]; omega
          have b3 : Hid ((([] ++ l'.take l'.length) ++ [(id, t)]).length + (0) ≤ maxLen ∧ ((([] ++ l'.take l'.length) ++ [(id, t)]).length + (0)) * 16 ≤ 140737488355328) := by show _ ∧ _; unfold maxLen; rw [List.length_append, List.nil_append, tl.out]; simp only [List.length_cons, List.length_nil]; omega
          have F1 : Hid (St S0 w0 wr (setsP (.slice none 0 0) [] :: Part.blk M (refO (.slice (some ⟨b, 0, none⟩) l'.length l'.length)) :: setsP (.slice (some ⟨b, 0, none⟩) l'.length l'.length) l' :: L)) := S2.out.fresh_row 69 2
          have src1 : Hid (Src Tryz.prog 2 26 (.slice (some ⟨b, 0, none⟩) l'.length l'.length) l'.length ((l'.take l'.length).flatMap setC) wr) := src_sets (sl_take (sets_at S2.out.swap) hk) tl.out
          have HT : Hid (∀ W v, St S0 w0 W (setsP v (([] ++ l'.take l'.length) ++ [(id, t)]) :: Part.blk M (refO (.slice (some ⟨b, 0, none⟩) l'.length l'.length)) :: setsP (.slice (some ⟨b, 0, none⟩) l'.length l'.length) l' :: L) → Src Tryz.prog 2 26 (.slice (some ⟨b, 0, none⟩) 0 0) (0) ((l'.drop l'.length).flatMap setC) W) := fun W v R => src_sets (lim := W.heap.size) (⟨_, _, by rw [dl.out], by rw [dl.out]; omega, by unfold maxLen; omega, fun h => by rw [dl.out] at h; omega⟩) dl.out
          clear S2
          go_wp2_with (first
            | (at_builtin; refine wpList_append_own_src _ rfl (.tmp 39) (.tmp 45) 26 26 rfl 0 69 i0 (.agg #[.int .u32 0, .int .i64 0]) 2 16 Tryz.underlying26 hi hz0 hz1 hz2 rfl (by decide) (.slice none 0 0) _ _ rfl F1.out.row (.slice (some ⟨b, 0, none⟩) l'.length l'.length) _ _ rfl src1.out b1.out.1 b1.out.2 (Nat.zero_le _) ?_; intro v' w2 ho hg hb; have R := fin_one F1.out tl.out v' w2 ho hg hb; obtain ⟨d0, R⟩ := R; have X2 : Hid (Src Tryz.prog 2 26 (.slice (some ⟨w2.heap.size, 0, none⟩) 1 1) 1 ([(id, t)].flatMap setC) (w2.alloc (.cells #[.int .u32 (id : Int), .int .i64 (t : Int)] 69))) := one_src w2 id t; have R2 : Hid _ := R.out.up (below_one w2 (.cells #[.int .u32 (id : Int), .int .i64 (t : Int)] 69)); obtain ⟨av, nv, cv, hv'⟩ := own_slice ho; subst hv'; clear ho hg hb src1 d0 c0 F1 R)
            | (at_builtin; refine wpList_append_own_src _ rfl (.tmp 46) (.tmp 50) 26 26 rfl 0 69 i0 (.agg #[.int .u32 0, .int .i64 0]) 2 16 Tryz.underlying26 hi hz0 hz1 hz2 rfl (by decide) (.slice av nv cv) _ _ rfl R2.out.row (.slice (some ⟨w2.heap.size, 0, none⟩) 1 1) _ _ rfl X2.out b2.out.1 b2.out.2 (Nat.zero_le _) ?_; intro v' w3 ho hg hb; have R := fin_one (B := [(id, t)]) R2.out rfl v' w3 ho hg hb; obtain ⟨d0, R⟩ := R; have X3 : Hid _ := HT.out w3 v' R.out; obtain ⟨av2, nv2, cv2, hv'⟩ := own_slice ho; subst hv'; clear ho hg hb X2 R2 HT)
            | (at_builtin; refine wpList_append_own_src _ rfl (.tmp 53) (.tmp 59) 26 26 rfl 0 69 i0 (.agg #[.int .u32 0, .int .i64 0]) 2 16 Tryz.underlying26 hi hz0 hz1 hz2 rfl (by decide) (.slice av2 nv2 cv2) _ _ rfl R.out.row (.slice (some ⟨b, 0, none⟩) 0 0) _ _ rfl X3.out b3.out.1 b3.out.2 (Nat.zero_le _) ?_; intro v' w4 ho hg hb; have F := fin_two R.out dl.out v' w4 ho hg hb; obtain ⟨⟨d1, d2⟩, F⟩ := F; obtain ⟨av', nv', cv', hv'⟩ := own_slice ho; subst hv'; clear ho hg hb R X3))
          go_ret
          exact ⟨rfl, l', l'.length, HD.out, HA.out, HE.out, by omega, by have := F.out; rwa [List.nil_append] at this⟩
        · have hkc2 : k < cap := by omega
          rcases GO with ⟨hkl, x, b', off', hx, hb', c1, hni⟩ | rfl
          · simp only [Option.some.injEq, Addr.mk.injEq, and_true] at hb'
            obtain ⟨rfl, rfl⟩ := hb'
            obtain ⟨y, hy⟩ : ∃ y, y = x.1 := ⟨_, rfl⟩
            rw [← hy] at c1 hni
            rw [Nat.zero_add] at c1
            have i1 : (k : Int) < (l'.length : Int) := by omega
            have e1 : ¬ (y : Int) < (id : Int) := by omega
            clear hx hy hni HO
            have tl : Hid ((l'.take k).length = k) := by show _ = _; rw [List.length_take]; omega
            have dl : Hid ((l'.drop k).length = l'.length - k) := List.length_drop ..
            have b1 : Hid (([] : List (Nat × Nat)).length + k ≤ maxLen ∧ (([] : List (Nat × Nat)).length + k) * 16 ≤ 140737488355328) := by show _ ∧ _; unfold maxLen; first | (simp; done) | (simp; omega)
            have b2 : Hid (([] ++ l'.take k).length + 1 ≤ maxLen ∧ (([] ++ l'.take k).length + 1) * 16 ≤ 140737488355328) := by show _ ∧ _; unfold maxLen; rw [List.nil_append, tl.out]; omega
            have b3 : Hid ((([] ++ l'.take k) ++ [(id, t)]).length + (l'.length - k) ≤ maxLen ∧ ((([] ++ l'.take k) ++ [(id, t)]).length + (l'.length - k)) * 16 ≤ 140737488355328) := by show _ ∧ _; unfold maxLen; rw [List.length_append, List.nil_append, tl.out]; simp only [List.length_cons, List.length_nil]; omega
            have F1 : Hid (St S0 w0 wr (setsP (.slice none 0 0) [] :: Part.blk M (refO (.slice (some ⟨b, 0, none⟩) l'.length cap)) :: setsP (.slice (some ⟨b, 0, none⟩) l'.length cap) l' :: L)) := S2.out.fresh_row 69 2
            have src1 : Hid (Src Tryz.prog 2 26 (.slice (some ⟨b, 0, none⟩) k cap) k ((l'.take k).flatMap setC) wr) := src_sets (sl_take (sets_at S2.out.swap) hk) tl.out
            have HT : Hid (∀ W v, St S0 w0 W (setsP v (([] ++ l'.take k) ++ [(id, t)]) :: Part.blk M (refO (.slice (some ⟨b, 0, none⟩) l'.length cap)) :: setsP (.slice (some ⟨b, 0, none⟩) l'.length cap) l' :: L) → Src Tryz.prog 2 26 (.slice (some ⟨b, k * 2, none⟩) (l'.length - k) (cap - k)) (l'.length - k) ((l'.drop k).flatMap setC) W) := fun W v R => src_sets (lim := W.heap.size) (by have := sl_drop (k := k) (sets_at (R.pick 2 rfl)) hk; rwa [Nat.zero_add] at this) dl.out
            clear S2
            go_wp2_with (first
              | (at_builtin; refine wpList_append_own_src _ rfl (.tmp 39) (.tmp 45) 26 26 rfl 0 69 i0 (.agg #[.int .u32 0, .int .i64 0]) 2 16 Tryz.underlying26 hi hz0 hz1 hz2 rfl (by decide) (.slice none 0 0) _ _ rfl F1.out.row (.slice (some ⟨b, 0, none⟩) k cap) _ _ rfl src1.out b1.out.1 b1.out.2 (Nat.zero_le _) ?_; intro v' w2 ho hg hb; have R := fin_one F1.out tl.out v' w2 ho hg hb; obtain ⟨d0, R⟩ := R; have X2 : Hid (Src Tryz.prog 2 26 (.slice (some ⟨w2.heap.size, 0, none⟩) 1 1) 1 ([(id, t)].flatMap setC) (w2.alloc (.cells #[.int .u32 (id : Int), .int .i64 (t : Int)] 69))) := one_src w2 id t; have R2 : Hid _ := R.out.up (below_one w2 (.cells #[.int .u32 (id : Int), .int .i64 (t : Int)] 69)); obtain ⟨av, nv, cv, hv'⟩ := own_slice ho; subst hv'; clear ho hg hb src1 d0 c0 F1 R)
              | (at_builtin; refine wpList_append_own_src _ rfl (.tmp 46) (.tmp 50) 26 26 rfl 0 69 i0 (.agg #[.int .u32 0, .int .i64 0]) 2 16 Tryz.underlying26 hi hz0 hz1 hz2 rfl (by decide) (.slice av nv cv) _ _ rfl R2.out.row (.slice (some ⟨w2.heap.size, 0, none⟩) 1 1) _ _ rfl X2.out b2.out.1 b2.out.2 (Nat.zero_le _) ?_; intro v' w3 ho hg hb; have R := fin_one (B := [(id, t)]) R2.out rfl v' w3 ho hg hb; obtain ⟨d0, R⟩ := R; have X3 : Hid _ := HT.out w3 v' R.out; obtain ⟨av2, nv2, cv2, hv'⟩ := own_slice ho; subst hv'; clear ho hg hb X2 R2 HT)
              | (at_builtin; refine wpList_append_own_src _ rfl (.tmp 53) (.tmp 59) 26 26 rfl 0 69 i0 (.agg #[.int .u32 0, .int .i64 0]) 2 16 Tryz.underlying26 hi hz0 hz1 hz2 rfl (by decide) (.slice av2 nv2 cv2) _ _ rfl R.out.row (.slice (some ⟨b, k * 2, none⟩) (l'.length - k) (cap - k)) _ _ rfl X3.out b3.out.1 b3.out.2 (Nat.zero_le _) ?_; intro v' w4 ho hg hb; have F := fin_two R.out dl.out v' w4 ho hg hb; obtain ⟨⟨d1, d2⟩, F⟩ := F; obtain ⟨av', nv', cv', hv'⟩ := own_slice ho; subst hv'; clear ho hg hb R X3))
            go_ret
            exact ⟨rfl, l', k, HD.out, HA.out, HE.out, by omega, by have := F.out; rwa [List.nil_append] at this⟩
          · have i1 : ¬ (l'.length : Int) < (l'.length : Int) := by omega
            clear HO
            have tl : Hid ((l'.take l'.length).length = l'.length) := by show _ = _; rw [List.length_take]; omega
            have dl : Hid ((l'.drop l'.length).length = 0) := by show _ = _; rw [List.length_drop]; omega
            have b1 : Hid (([] : List (Nat × Nat)).length + l'.length ≤ maxLen ∧ (([] : List (Nat × Nat)).length + l'.length) * 16 ≤ 140737488355328) := by show _ ∧ _; unfold maxLen; first | (simp; done) | (simp; omega)
            have b2 : Hid (([] ++ l'.take l'.length).length + 1 ≤ maxLen ∧ (([] ++ l'.take l'.length).length + 1) * 16 ≤ 140737488355328) := by show _ ∧ _; unfold maxLen; rw [List.nil_append, tl.out]; omega
            have b3 : Hid ((([] ++ l'.take l'.length) ++ [(id, t)]).length + (0) ≤ maxLen ∧ ((([] ++ l'.take l'.length) ++ [(id, t)]).length + (0)) * 16 ≤ 140737488355328) := by show _ ∧ _; unfold maxLen; rw [List.length_append, List.nil_append, tl.out]; simp only [List.length_cons, List.length_nil]; omega
            have F1 : Hid (St S0 w0 wr (setsP (.slice none 0 0) [] :: Part.blk M (refO (.slice (some ⟨b, 0, none⟩) l'.length cap)) :: setsP (.slice (some ⟨b, 0, none⟩) l'.length cap) l' :: L)) := S2.out.fresh_row 69 2
            have src1 : Hid (Src Tryz.prog 2 26 (.slice (some ⟨b, 0, none⟩) l'.length cap) l'.length ((l'.take l'.length).flatMap setC) wr) := src_sets (sl_take (sets_at S2.out.swap) hk) tl.out
            have HT : Hid (∀ W v, St S0 w0 W (setsP v (([] ++ l'.take l'.length) ++ [(id, t)]) :: Part.blk M (refO (.slice (some ⟨b, 0, none⟩) l'.length cap)) :: setsP (.slice (some ⟨b, 0, none⟩) l'.length cap) l' :: L) → Src Tryz.prog 2 26 (.slice (some ⟨b, l'.length * 2, none⟩) 0 (cap - l'.length)) (0) ((l'.drop l'.length).flatMap setC) W) := fun W v R => src_sets (lim := W.heap.size) (⟨_, _, by rw [dl.out], by rw [dl.out]; omega, by unfold maxLen; omega, fun h => by rw [dl.out] at h; omega⟩) dl.out
            clear S2
            go_wp2_with (first
              | (at_builtin; refine wpList_append_own_src _ rfl (.tmp 39) (.tmp 45) 26 26 rfl 0 69 i0 (.agg #[.int .u32 0, .int .i64 0]) 2 16 Tryz.underlying26 hi hz0 hz1 hz2 rfl (by decide) (.slice none 0 0) _ _ rfl F1.out.row (.slice (some ⟨b, 0, none⟩) l'.length cap) _ _ rfl src1.out b1.out.1 b1.out.2 (Nat.zero_le _) ?_; intro v' w2 ho hg hb; have R := fin_one F1.out tl.out v' w2 ho hg hb; obtain ⟨d0, R⟩ := R; have X2 : Hid (Src Tryz.prog 2 26 (.slice (some ⟨w2.heap.size, 0, none⟩) 1 1) 1 ([(id, t)].flatMap setC) (w2.alloc (.cells #[.int .u32 (id : Int), .int .i64 (t : Int)] 69))) := one_src w2 id t; have R2 : Hid _ := R.out.up (below_one w2 (.cells #[.int .u32 (id : Int), .int .i64 (t : Int)] 69)); obtain ⟨av, nv, cv, hv'⟩ := own_slice ho; subst hv'; clear ho hg hb src1 d0 c0 F1 R)
              | (at_builtin; refine wpList_append_own_src _ rfl (.tmp 46) (.tmp 50) 26 26 rfl 0 69 i0 (.agg #[.int .u32 0, .int .i64 0]) 2 16 Tryz.underlying26 hi hz0 hz1 hz2 rfl (by decide) (.slice av nv cv) _ _ rfl R2.out.row (.slice (some ⟨w2.heap.size, 0, none⟩) 1 1) _ _ rfl X2.out b2.out.1 b2.out.2 (Nat.zero_le _) ?_; intro v' w3 ho hg hb; have R := fin_one (B := [(id, t)]) R2.out rfl v' w3 ho hg hb; obtain ⟨d0, R⟩ := R; have X3 : Hid _ := HT.out w3 v' R.out; obtain ⟨av2, nv2, cv2, hv'⟩ := own_slice ho; subst hv'; clear ho hg hb X2 R2 HT)
              | (at_builtin; refine wpList_append_own_src _ rfl (.tmp 53) (.tmp 59) 26 26 rfl 0 69 i0 (.agg #[.int .u32 0, .int .i64 0]) 2 16 Tryz.underlying26 hi hz0 hz1 hz2 rfl (by decide) (.slice av2 nv2 cv2) _ _ rfl R.out.row (.slice (some ⟨b, l'.length * 2, none⟩) 0 (cap - l'.length)) _ _ rfl X3.out b3.out.1 b3.out.2 (Nat.zero_le _) ?_; intro v' w4 ho hg hb; have F := fin_two R.out dl.out v' w4 ho hg hb; obtain ⟨⟨d1, d2⟩, F⟩ := F; obtain ⟨av', nv', cv', hv'⟩ := own_slice ho; subst hv'; clear ho hg hb R X3))
            go_ret
            exact ⟨rfl, l', l'.length, HD.out, HA.out, HE.out, by omega, by have := F.out; rwa [List.nil_append] at this⟩
end
end Go.Proofs.YtboinccdnaddmaaGreatDoor
