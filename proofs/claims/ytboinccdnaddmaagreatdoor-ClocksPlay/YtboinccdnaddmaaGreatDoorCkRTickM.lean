import Derived.Test.YtboinccdnaddmaaGreatDoorCkRSetM
/- The walk of the document's clock's Tick. -/
set_option linter.unusedSimpArgs false
set_option linter.unusedVariables false
set_option maxRecDepth 1000000
namespace Go.Proofs.YtboinccdnaddmaaGreatDoor
open Go.RowKit Go.Maps

def toldR (l : List (Nat × Nat)) : List Nat := (l.filter (fun x => decide (x.2 = 1))).map (·.1)
def restR (l : List (Nat × Nat)) : List (Nat × Nat) := (l.filter (fun x => decide (x.2 ≠ 1))).map (fun x => (x.1, x.2 - 1))
theorem toldR_snoc (l : List (Nat × Nat)) (x : Nat × Nat) : toldR (l ++ [x]) = toldR l ++ (if x.2 = 1 then [x.1] else []) := by
  unfold toldR
  rw [List.filter_append, List.map_append]
  by_cases h : x.2 = 1 <;> simp [h]
theorem restR_snoc (l : List (Nat × Nat)) (x : Nat × Nat) : restR (l ++ [x]) = restR l ++ (if x.2 = 1 then [] else [(x.1, x.2 - 1)]) := by
  unfold restR
  rw [List.filter_append, List.map_append]
  by_cases h : x.2 = 1 <;> simp [h]
theorem toldR_len (l : List (Nat × Nat)) : (toldR l).length ≤ l.length := by unfold toldR; rw [List.length_map]; exact List.length_filter_le _ _
theorem restR_len (l : List (Nat × Nat)) : (restR l).length ≤ l.length := by unfold restR; rw [List.length_map]; exact List.length_filter_le _ _
section
variable {S0 : Nat → Prop} {w0 w w' : World} {L : List Part} {M : Nat} {l : List (Nat × Nat)}
abbrev idsP (v : Value) (ys : List Nat) : Part := Part.row 43 1 v ys.length (ys.map u32V)
theorem zero_set (w : World) : (zeroValue 69).run Tryz.prog w = .ok (.agg #[.int .u32 0, .int .i64 0]) w := (zero_of_info (by kernel_rfl : (Tryz.prog.info? 69).map (fun i => (i.zero, i.size)) = some (some (.agg #[.int .u32 0, .int .i64 0]), 2))).1 w
set_option maxHeartbeats 1000000 in
theorem rtick_ok (hl : l.length ≤ 100000) (hx1 : ∀ x ∈ l, 1 ≤ x.2 ∧ x.2 ≤ 1073741824) (h : St S0 w0 w (refP M l :: L)) :
    Calls Tryz.prog 11 #[ptr M] w fun e w' => ∃ v, e = .returned v ∧ St S0 w0 w' (idsP v (toldR l) :: refP M (restR l) :: L) := by
  obtain ⟨vl, s1⟩ := ref_open h
  obtain ⟨ao, cap, hv, h3, h4, h5⟩ := sets_at s1.swap
  unfold maxLen at h4
  subst hv
  obtain ⟨n, hn⟩ : ∃ n, n = l.length := ⟨_, rfl⟩
  have HN : Hid (n = l.length) := hn
  have S1 : Hid (St S0 w0 w (idsP (.slice none 0 0) (toldR (l.take 0)) :: setsP (.slice none 0 0) (restR (l.take 0)) :: Part.blk M (refO (.slice ao n cap)) :: setsP (.slice ao n cap) l :: L)) := by
    rw [hn]; exact (s1.fresh_row 69 2).fresh_row 43 1
  have HC : Hid (∀ W (Q : List Part), St S0 w0 W (Part.blk M (refO (.slice ao n cap)) :: setsP (.slice ao n cap) l :: Q) → W.cell? ⟨M, 0, none⟩ = some (.slice ao n cap) ∧ ∀ i x, l[i]? = some x → ∃ b off, ao = some ⟨b, off, none⟩ ∧ W.cell? ⟨b, off + i * 2, none⟩ = some (.int .u32 (x.1 : Int)) ∧ W.cell? ⟨b, off + i * 2 + 1, none⟩ = some (.int .i64 (x.2 : Int))) := fun W Q R => by
    refine ⟨by have := R.blk.1; simp [World.cell?, this], fun i x hi => ?_⟩
    obtain ⟨hlt, he⟩ := List.getElem?_eq_some_iff.1 hi
    obtain ⟨ao', cap', e, -, -, h5⟩ := sets_at R.swap
    simp only [Value.slice.injEq] at e
    obtain ⟨rfl, -, rfl⟩ := e
    obtain ⟨b, off, e, hb, hc⟩ := h5 (by omega)
    refine ⟨b, off, e, ?_, ?_⟩
    · have := hc i hlt 0 (.int .u32 (x.1 : Int)) (by rw [he]; rfl)
      simpa using this
    · have := hc i hlt 1 (.int .i64 (x.2 : Int)) (by rw [he]; rfl)
      simpa using this
  have HX1 : Hid (∀ x ∈ l, 1 ≤ x.2 ∧ x.2 ≤ 1073741824) := hx1
  rw [← hn] at h3 hl
  clear h h5 s1 hn hx1
  have zs := zero_set
  obtain ⟨i0, hi, hz0, hz1, hz2⟩ := info_parts info_set
  obtain ⟨j0, hj, hj0, hj1, hj2⟩ := info_parts info_u32
  go_enter Tryz.func11, Tryz.ntmps11
  go_wp2
  go_loopw [3, 4, 5] (fun u v i W => ∃ k : Nat, i = .int .i64 k ∧ k ≤ n ∧ St S0 w0 W (idsP u (toldR (l.take k)) :: setsP v (restR (l.take k)) :: Part.blk M (refO (.slice ao n cap)) :: setsP (.slice ao n cap) l :: L)) (fun _ _ i _ => n - (intOf i).toNat)
  case atStart => exact ⟨0, rfl, by omega, S1.out⟩
  case round =>
    obtain ⟨k, rfl, hk, s⟩ := hrel
    clear S1
    have q := HC.out wr _ (s.rt (K := [_, _, _, _]) 4 [2, 3, 0, 1] (by decide))
    obtain ⟨c0, q⟩ := q
    obtain ⟨au, nu, cu, hu⟩ := own_slice s.row
    obtain ⟨av, nv, cv, hv⟩ := own_slice s.swap.row
    subst hu
    subst hv
    by_cases hkn : k < n
    · obtain ⟨x, hx⟩ : ∃ x, l[k]? = some x := ⟨_, List.getElem?_eq_getElem (by rw [← HN.out]; exact hkn)⟩
      obtain ⟨b, off, rfl, c1, c2⟩ := q k x hx
      have hb := HX1.out x (List.mem_of_getElem? hx)
      have et : l.take (k + 1) = l.take k ++ [x] := by rw [List.take_add_one, hx]; rfl
      obtain ⟨id, hid⟩ : ∃ id, id = x.1 := ⟨_, rfl⟩
      obtain ⟨lf, hlf⟩ : ∃ lf, lf = x.2 := ⟨_, rfl⟩
      have HE : Hid (toldR (l.take (k + 1)) = toldR (l.take k) ++ (if lf = 1 then [id] else []) ∧ restR (l.take (k + 1)) = restR (l.take k) ++ (if lf = 1 then [] else [(id, lf - 1)])) := by
        rw [et, toldR_snoc, restR_snoc, ← hid, ← hlf]; exact ⟨rfl, rfl⟩
      rw [← hid] at c1
      rw [← hlf] at c2 hb
      obtain ⟨hb1, hb2⟩ := hb
      have S : Hid (St S0 w0 wr (idsP (.slice au nu cu) (toldR (l.take k)) :: setsP (.slice av nv cv) (restR (l.take k)) :: Part.blk M (refO (.slice (some ⟨b, off, none⟩) n cap)) :: setsP (.slice (some ⟨b, off, none⟩) n cap) l :: L)) := s
      clear s q hx et hid hlf
      have tl := toldR_len (l.take k)
      have rl := restR_len (l.take k)
      rw [List.length_take] at tl rl
      by_cases h1 : lf = 1
      · obtain ⟨O, hO⟩ : ∃ O : Obj, O = .cells #[.int .u32 (id : Int), .int .i64 0] 69 := ⟨_, rfl⟩
        have e1 : ((lf : Int) - 1 == 0) = true := by simpa using (by omega : (lf : Int) - 1 = 0)
        have R : Hid (St S0 w0 ((wr.alloc O).alloc (.cells #[.int .u32 (id : Int)] 43)) (idsP (.slice au nu cu) (toldR (l.take k)) :: setsP (.slice av nv cv) (restR (l.take k)) :: Part.blk M (refO (.slice (some ⟨b, off, none⟩) n cap)) :: setsP (.slice (some ⟨b, off, none⟩) n cap) l :: L)) := (S.out.up (below_one wr O)).up (below_one _ _)
        have src : Hid (Src Tryz.prog 1 49 (.slice (some ⟨wr.heap.size + 1, 0, none⟩) 1 1) 1 [u32V id] ((wr.alloc O).alloc (.cells #[.int .u32 (id : Int)] 43))) := by
          have : Src Tryz.prog 1 49 (.slice (some ⟨(wr.alloc O).heap.size, 0, none⟩) 1 1) 1 [u32V id] ((wr.alloc O).alloc (.cells #[.int .u32 (id : Int)] 43)) := Src.ofSlice (P := Tryz.prog) _ Tryz.underlying49 ⟨(wr.alloc O).heap.size, 0, none⟩ 1 1 [u32V id] rfl (news_ofv _ _) (by intro u hu; simp at hu; rw [hu]; rfl)
          rwa [show (wr.alloc O).heap.size = wr.heap.size + 1 by simp] at this
        have bb : Hid ((toldR (l.take k)).length + 1 ≤ maxLen ∧ ((toldR (l.take k)).length + 1) * 4 ≤ 140737488355328) := by show _ ∧ _; unfold maxLen; omega
        have FIN : Hid (∀ v' w2, w2.ownsRow 0 43 1 v' ((toldR (l.take k)).length + 1) ((toldR (l.take k)).map u32V ++ [u32V id]) → ((wr.alloc O).alloc (.cells #[.int .u32 (id : Int)] 43)).grownBy w2 (Value.slice au nu cu).ownBlock → (v'.ownBlock = (Value.slice au nu cu).ownBlock ∨ v'.ownBlock = some ((wr.alloc O).alloc (.cells #[.int .u32 (id : Int)] 43)).heap.size) →
            Hid (St S0 w0 w2 (idsP v' (toldR (l.take (k + 1))) :: setsP (.slice av nv cv) (restR (l.take (k + 1))) :: Part.blk M (refO (.slice (some ⟨b, off, none⟩) n cap)) :: setsP (.slice (some ⟨b, off, none⟩) n cap) l :: L))) := fun v' w2 ho hg hb => by
          have s2 := R.out.append2 ho hg hb
          obtain ⟨g1, g2⟩ := HE.out
          rw [g1, g2, if_pos h1, if_pos h1, List.append_nil]
          show St _ _ _ (Part.row _ 1 v' (toldR (l.take k) ++ [id]).length ((toldR (l.take k) ++ [id]).map u32V) :: _)
          rw [List.length_append, List.map_append]
          exact s2
        have own : Hid (((wr.alloc O).alloc (.cells #[.int .u32 (id : Int)] 43)).ownsRow 0 43 1 (.slice au nu cu) (toldR (l.take k)).length ((toldR (l.take k)).map u32V)) := R.out.row
        clear S R HC tl rl
        subst hO
        go_wp2_with (at_builtin; refine wpList_append_own_src _ rfl (.tmp 30) (.tmp 33) 49 49 rfl 0 43 j0 (.int .u32 0) 1 4 Tryz.underlying49 hj hj0 hj1 hj2 rfl (by decide) (.slice au nu cu) _ _ rfl own.out (.slice (some ⟨wr.heap.size + 1, 0, none⟩) 1 1) 1 _ rfl src.out bb.out.1 bb.out.2 (Nat.zero_le _) ?_; intro v' w2 ho hg hb; have F := FIN.out v' w2 ho hg hb; obtain ⟨au2, nu2, cu2, hv'⟩ := own_slice ho; subst hv'; clear ho hg hb FIN src own)
        go_roundw
        case rel => exact ⟨k + 1, by go_num, by omega, F.out⟩
        case measure => (simp [intOf]; try omega)
      · obtain ⟨O, hO⟩ : ∃ O : Obj, O = .cells #[.int .u32 (id : Int), .int .i64 ((lf : Int) - 1)] 69 := ⟨_, rfl⟩
        have e1 : ((lf : Int) - 1 == 0) = false := by simpa using (by omega : ¬ (lf : Int) - 1 = 0)
        have R : Hid (St S0 w0 ((wr.alloc O).alloc O) (setsP (.slice av nv cv) (restR (l.take k)) :: idsP (.slice au nu cu) (toldR (l.take k)) :: Part.blk M (refO (.slice (some ⟨b, off, none⟩) n cap)) :: setsP (.slice (some ⟨b, off, none⟩) n cap) l :: L)) := ((S.out.up (below_one wr O)).up (below_one _ _)).swap
        have ec : [(id, lf - 1)].flatMap setC = [.int .u32 (id : Int), .int .i64 ((lf : Int) - 1)] := by
          have : ((lf - 1 : Nat) : Int) = (lf : Int) - 1 := by omega
          simp [setC, this]
        have src : Hid (Src Tryz.prog 2 26 (.slice (some ⟨wr.heap.size + 1, 0, none⟩) 1 1) 1 ([(id, lf - 1)].flatMap setC) ((wr.alloc O).alloc O)) := by
          rw [ec, hO]
          have : Src Tryz.prog 2 26 (.slice (some ⟨(wr.alloc O).heap.size, 0, none⟩) 1 1) 1 [.int .u32 (id : Int), .int .i64 ((lf : Int) - 1)] ((wr.alloc O).alloc O) := Src.ofSlice (P := Tryz.prog) _ Tryz.underlying26 ⟨(wr.alloc O).heap.size, 0, none⟩ 1 1 [.int .u32 (id : Int), .int .i64 ((lf : Int) - 1)] rfl (by rw [hO]; exact news_ofv _ _) (by intro u hu; simp at hu; rcases hu with rfl | rfl <;> rfl)
          rw [show (wr.alloc O).heap.size = wr.heap.size + 1 by simp] at this
          rw [hO] at this
          exact this
        have bb : Hid ((restR (l.take k)).length + 1 ≤ maxLen ∧ ((restR (l.take k)).length + 1) * 16 ≤ 140737488355328) := by show _ ∧ _; unfold maxLen; omega
        have FIN : Hid (∀ v' w2, w2.ownsRow 0 69 2 v' ((restR (l.take k)).length + 1) ((restR (l.take k)).flatMap setC ++ [(id, lf - 1)].flatMap setC) → ((wr.alloc O).alloc O).grownBy w2 (Value.slice av nv cv).ownBlock → (v'.ownBlock = (Value.slice av nv cv).ownBlock ∨ v'.ownBlock = some ((wr.alloc O).alloc O).heap.size) →
            Hid (St S0 w0 w2 (idsP (.slice au nu cu) (toldR (l.take (k + 1))) :: setsP v' (restR (l.take (k + 1))) :: Part.blk M (refO (.slice (some ⟨b, off, none⟩) n cap)) :: setsP (.slice (some ⟨b, off, none⟩) n cap) l :: L))) := fun v' w2 ho hg hb => by
          have s2 := (R.out.append2 ho hg hb).swap
          obtain ⟨g1, g2⟩ := HE.out
          rw [g1, g2, if_neg h1, if_neg h1, List.append_nil]
          show St _ _ _ (_ :: Part.row _ 2 v' (restR (l.take k) ++ [(id, lf - 1)]).length ((restR (l.take k) ++ [(id, lf - 1)]).flatMap setC) :: _)
          rw [List.length_append, List.flatMap_append]
          exact s2
        have own : Hid (((wr.alloc O).alloc O).ownsRow 0 69 2 (.slice av nv cv) (restR (l.take k)).length ((restR (l.take k)).flatMap setC)) := R.out.row
        clear S R HC tl rl ec
        subst hO
        go_wp2_with (at_builtin; refine wpList_append_own_src _ rfl (.tmp 35) (.tmp 37) 26 26 rfl 0 69 i0 (.agg #[.int .u32 0, .int .i64 0]) 2 16 Tryz.underlying26 hi hz0 hz1 hz2 rfl (by decide) (.slice av nv cv) _ _ rfl own.out (.slice (some ⟨wr.heap.size + 1, 0, none⟩) 1 1) 1 _ rfl src.out bb.out.1 bb.out.2 (Nat.zero_le _) ?_; intro v' w2 ho hg hb; have F := FIN.out v' w2 ho hg hb; obtain ⟨av2, nv2, cv2, hv'⟩ := own_slice ho; subst hv'; clear ho hg hb FIN src own)
        go_roundw
        case rel => exact ⟨k + 1, by go_num, by omega, F.out⟩
        case measure => (simp [intOf]; try omega)
    · obtain rfl : k = n := by omega
      have ek : l.take k = l := by rw [HN.out]; exact List.take_length ..
      rw [ek] at s
      have s2 := s.rt (K := [_, _, _, _]) 4 [2, 1, 0, 3] (by decide)
      have fM : wr.frozen? ⟨M, 0, none⟩ = false := box_frozen s2.blk.1
      have F : Hid (St S0 w0 (wr.setCell ⟨M, 0, none⟩ (.slice av nv cv)) (idsP (.slice au nu cu) (toldR l) :: refP M (restR l) :: L)) := by
        have s3 := s2.set 0 (.slice av nv cv)
        have s4 := s3.rt (K := [_, _, _, _]) 4 [3, 0, 1, 2] (by decide)
        have s5 := s4.drop
        have s6 : St S0 w0 (wr.setCell ⟨M, 0, none⟩ (.slice av nv cv)) (Part.blk M (refO (.slice av nv cv)) :: setsP (.slice av nv cv) (restR l) :: idsP (.slice au nu cu) (toldR l) :: L) := s5
        exact (ref_shut s6).swap
      clear s s2 q HC
      go_wp2
      go_ret
      exact ⟨_, rfl, F.out⟩
end
end Go.Proofs.YtboinccdnaddmaaGreatDoor
