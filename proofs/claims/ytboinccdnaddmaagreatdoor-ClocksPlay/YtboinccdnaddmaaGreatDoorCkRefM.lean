import Derived.Test.YtboinccdnaddmaaGreatDoorM1
import Derived.Test.YtboinccdnaddmaaGreatDoorGSrc
/- The document's clock in memory; the walks of at, Left, Clear. -/
set_option linter.unusedSimpArgs false
set_option linter.unusedVariables false
set_option maxRecDepth 1000000
namespace Go.Proofs.YtboinccdnaddmaaGreatDoor
open Go.RowKit Go.Maps

def setC (x : Nat × Nat) : List Value := [.int .u32 (x.1 : Int), .int .i64 (x.2 : Int)]
theorem setC_len (x : Nat × Nat) : (setC x).length = 2 := rfl
theorem setC_one (x : Nat × Nat) : ∀ u ∈ setC x, u.oneCell' = true := by intro u hu; simp [setC] at hu; rcases hu with rfl | rfl <;> rfl
abbrev refO (v : Value) : Obj := .cells #[v] 28
abbrev setsP (v : Value) (l : List (Nat × Nat)) : Part := Part.row 69 2 v l.length (l.flatMap setC)
/-- The document's clock: who is set, and how many ticks are left. -/
def refP (M : Nat) (l : List (Nat × Nat)) : Part := Part.ex (fun v => Part.all [Part.blk M (refO v), setsP v l])
section
variable {S0 : Nat → Prop} {w0 w w' : World} {L : List Part} {M : Nat} {l : List (Nat × Nat)}
theorem ref_open (h : St S0 w0 w (refP M l :: L)) : ∃ v, St S0 w0 w (Part.blk M (refO v) :: setsP v l :: L) := by
  obtain ⟨v, h1⟩ := h.open_ex
  exact ⟨v, h1.open_all⟩
theorem ref_shut {v : Value} (h : St S0 w0 w (Part.blk M (refO v) :: setsP v l :: L)) : St S0 w0 w (refP M l :: L) := St.shut_ex v (St.shut_all (K := [_, _]) h)
theorem sets_at {v : Value} (h : St S0 w0 w (setsP v l :: L)) : SlAt 2 setC w w.heap.size v l := sl_own setC_len h.row
def AtR (l : List (Nat × Nat)) (id : Nat) (r : Int) : Prop := (r = -1 ∧ ∀ x ∈ l, x.1 ≠ id) ∨ ∃ (k : Nat) (x : Nat × Nat), r = (k : Int) ∧ l[k]? = some x ∧ x.1 = id
set_option maxHeartbeats 1000000 in
set_option maxRecDepth 1000000 in
theorem at_ok (id : Nat) (hl : l.length ≤ 1000000) (h : St S0 w0 w (refP M l :: L)) :
    Calls Tryz.prog 20 #[ptr M, .int .u32 (id : Int)] w fun e w' => (∃ r, e = .returned (.int .i64 r) ∧ AtR l id r) ∧ w = w' := by
  obtain ⟨v, s1⟩ := ref_open h
  have c0 : w.cell? ⟨M, 0, none⟩ = some v := by have := s1.blk.1; simp [World.cell?, this]
  obtain ⟨ao, cap, rfl, h1, h2, h3⟩ := sets_at s1.swap
  obtain ⟨n, hn⟩ : ∃ n, n = l.length := ⟨_, rfl⟩
  have HN : Hid (n = l.length) := hn
  rw [← hn] at h1 c0 hl
  have HC : Hid (∀ i x, l[i]? = some x → ∃ b off, ao = some ⟨b, off, none⟩ ∧ w.cell? ⟨b, off + i * 2, none⟩ = some (.int .u32 (x.1 : Int))) := fun i x hi => by
    obtain ⟨hlt, he⟩ := List.getElem?_eq_some_iff.1 hi
    obtain ⟨b, off, e, hb, hc⟩ := h3 (by omega)
    refine ⟨b, off, e, ?_⟩
    have := hc i hlt 0 (.int .u32 (x.1 : Int)) (by rw [he]; rfl)
    simpa using this
  clear h h3 s1 hn
  unfold maxLen at h2
  go_enter Tryz.func20, Tryz.ntmps20
  go_wp2
  go_loopw [5] (fun i wr => ∃ k : Nat, i = .int .i64 k ∧ k ≤ n ∧ (∀ j x, j < k → l[j]? = some x → x.1 ≠ id) ∧ wr = w) (fun i _ => n - (intOf i).toNat)
  case atStart => exact ⟨0, rfl, by omega, fun j x hj => (by omega), rfl⟩
  case round =>
    obtain ⟨k, rfl, hk, ha, rfl⟩ := hrel
    have HA : Hid (∀ j x, j < k → l[j]? = some x → x.1 ≠ id) := ha
    clear ha
    by_cases hkn : k < n
    · obtain ⟨x, hx⟩ : ∃ x, l[k]? = some x := ⟨_, List.getElem?_eq_getElem (by rw [← HN.out]; exact hkn)⟩
      obtain ⟨b, off, rfl, c1⟩ := HC.out k x hx
      have HX : Hid (l[k]? = some x) := hx
      obtain ⟨y, hy⟩ : ∃ y, y = x.1 := ⟨_, rfl⟩
      rw [← hy] at c1
      have HY : Hid (y = x.1) := hy
      clear hx HC hy
      by_cases hid : y = id
      · have e1 : ((y : Int) == (id : Int)) = true := by simpa using (by omega : (y : Int) = (id : Int))
        go_wp2
        go_ret
        exact ⟨⟨_, rfl, .inr ⟨k, x, rfl, HX.out, by rw [← HY.out]; exact hid⟩⟩, rfl⟩
      · have e1 : ((y : Int) == (id : Int)) = false := by simpa using (by omega : ¬ (y : Int) = (id : Int))
        go_wp2
        go_roundw
        case rel => exact ⟨k + 1, by go_num, by omega, fun j z hj hz => by
          by_cases e : j = k
          · subst e; rw [HX.out] at hz; cases hz; rw [← HY.out]; exact hid
          · exact HA.out j z (by omega) hz, trivial⟩
        case measure => (simp [intOf]; try omega)
    · obtain rfl : k = n := by omega
      clear HC
      go_wp2
      go_ret
      refine ⟨⟨_, rfl, .inl ⟨rfl, fun x hx => ?_⟩⟩, rfl⟩
      obtain ⟨j, hj⟩ := List.getElem?_of_mem hx
      exact HA.out j x (by rw [HN.out]; exact (List.getElem?_eq_some_iff.1 hj).1) hj
set_option maxHeartbeats 1000000 in
set_option maxRecDepth 1000000 in
theorem rleft_ok (id : Nat) (hl : l.length ≤ 1000000) (h : St S0 w0 w (refP M l :: L)) :
    Calls Tryz.prog 14 #[ptr M, .int .u32 (id : Int)] w fun e w' => ((e = .returned (.tuple #[.int .i64 0, .bool false]) ∧ ∀ x ∈ l, x.1 ≠ id) ∨ ∃ x ∈ l, x.1 = id ∧ e = .returned (.tuple #[.int .i64 (x.2 : Int), .bool true])) ∧ w = w' := by
  have ka := at_ok id hl h
  obtain ⟨v, s1⟩ := ref_open h
  have c0 : w.cell? ⟨M, 0, none⟩ = some v := by have := s1.blk.1; simp [World.cell?, this]
  obtain ⟨ao, cap, rfl, h1, h2, h3⟩ := sets_at s1.swap
  have HC : Hid (∀ i x, l[i]? = some x → i < l.length ∧ ∃ b off, ao = some ⟨b, off, none⟩ ∧ w.cell? ⟨b, off + i * 2 + 1, none⟩ = some (.int .i64 (x.2 : Int))) := fun i x hi => by
    obtain ⟨hlt, he⟩ := List.getElem?_eq_some_iff.1 hi
    obtain ⟨b, off, e, hb, hc⟩ := h3 (by omega)
    refine ⟨hlt, b, off, e, ?_⟩
    have := hc i hlt 1 (.int .i64 (x.2 : Int)) (by rw [he]; rfl)
    simpa using this
  clear h h3 s1
  unfold maxLen at h2
  go_enter Tryz.func14, Tryz.ntmps14
  go_wp2_with fail
  refine ka.mono ?_
  rintro e w1 ⟨⟨r, rfl, hr⟩, ew⟩
  rw [← ew]
  clear ew w1 ka
  rcases hr with ⟨rfl, hno⟩ | ⟨k, x, rfl, hx, he⟩
  · go_wp2
    go_ret2
    exact ⟨.inl ⟨rfl, hno⟩, rfl⟩
  · obtain ⟨hk, b, off, rfl, c1⟩ := HC.out k x hx
    have HX : Hid (x ∈ l ∧ x.1 = id) := ⟨List.mem_of_getElem? hx, he⟩
    have k0 : ¬ (k : Int) < 0 := by omega
    obtain ⟨n, hn⟩ : ∃ n, n = l.length := ⟨_, rfl⟩
    rw [← hn] at c0 h1 hk hl
    obtain ⟨y, hy⟩ : ∃ y, y = x.2 := ⟨_, rfl⟩
    rw [← hy] at c1
    have HY : Hid (y = x.2) := hy
    clear hx he HC hn hy
    go_wp2
    go_ret2
    exact ⟨.inr ⟨x, HX.out.1, HX.out.2, by rw [← HY.out]; rfl⟩, rfl⟩
theorem info_set : (Tryz.prog.info? 69).map (fun i => (i.zero, i.size, i.bytes)) = some (some (.agg #[.int .u32 0, .int .i64 0]), 2, 16) := by kernel_rfl
theorem St.fresh_row (h : St S0 w0 w L) (e : TypeId) (s : Nat) : St S0 w0 w (Part.row e s (.slice none 0 0) 0 [] :: L) :=
  h.more (Q := [Part.row e s (.slice none 0 0) 0 []]) (T := fun _ => False) (Below.refl _ _) (parts_one.2 ⟨World.ownsRow_nil _ _ _ _, fun x => ⟨fun h => h.elim, fun h => by cases h⟩⟩) (fun _ h => h.elim)
theorem sl_take {w : World} {lim : Nat} {ao : Option Addr} {cap k : Nat} {l : List (Nat × Nat)} (h : SlAt 2 setC w lim (.slice ao l.length cap) l) (hk : k ≤ l.length) : SlAt 2 setC w lim (.slice ao k cap) (l.take k) := by
  obtain ⟨ao', cap', e, h1, h2, h3⟩ := h
  simp only [Value.slice.injEq, true_and] at e
  obtain ⟨rfl, rfl⟩ := e
  have hl : (l.take k).length = k := by rw [List.length_take]; omega
  refine ⟨ao, cap, by rw [hl], by omega, h2, fun hp => ?_⟩
  obtain ⟨b, off, e, hb, hc⟩ := h3 (by omega)
  exact ⟨b, off, e, hb, fun i hi j u hu => hc i (by omega) j u (by rw [List.getElem_take] at hu; exact hu)⟩
theorem sl_drop {w : World} {lim : Nat} {b off cap k : Nat} {l : List (Nat × Nat)} (h : SlAt 2 setC w lim (.slice (some ⟨b, off, none⟩) l.length cap) l) (hk : k ≤ l.length) : SlAt 2 setC w lim (.slice (some ⟨b, off + k * 2, none⟩) (l.length - k) (cap - k)) (l.drop k) := by
  obtain ⟨ao', cap', e, h1, h2, h3⟩ := h
  simp only [Value.slice.injEq, true_and] at e
  obtain ⟨rfl, rfl⟩ := e
  have hl : (l.drop k).length = l.length - k := by rw [List.length_drop]
  refine ⟨_, _, by rw [hl], by omega, by omega, fun hp => ?_⟩
  obtain ⟨b', off', e, hb, hc⟩ := h3 (by omega)
  simp only [Option.some.injEq, Addr.mk.injEq, and_true] at e
  obtain ⟨rfl, rfl⟩ := e
  refine ⟨b, off + k * 2, rfl, hb, fun i hi j u hu => ?_⟩
  have := hc (k + i) (by omega) j u (by rw [List.getElem_drop] at hu; exact hu)
  rw [show off + k * 2 + i * 2 + j = off + (k + i) * 2 + j by omega]
  exact this
section
variable {w2 : World} {A B : List (Nat × Nat)} {v0 v1 : Value} {m : Nat}
/-- One more was appended to a list beside the clock. -/
theorem fin_one (R : St S0 w0 w (setsP v1 A :: Part.blk M (refO v0) :: setsP v0 l :: L)) (hm : B.length = m) (v' : Value) (w2 : World) (ho : w2.ownsRow 0 69 2 v' (A.length + m) (A.flatMap setC ++ B.flatMap setC)) (hg : w.grownBy w2 v1.ownBlock) (hb : v'.ownBlock = v1.ownBlock ∨ v'.ownBlock = some w.heap.size) :
    w2.cell? ⟨M, 0, none⟩ = some v0 ∧ Hid (St S0 w0 w2 (setsP v' (A ++ B) :: Part.blk M (refO v0) :: setsP v0 l :: L)) := by
  have s2 := R.append2 ho hg hb
  refine ⟨by have := (s2.pick 1 rfl).blk.1; simp [World.cell?, this], ?_⟩
  show St _ _ _ (Part.row _ 2 v' (A ++ B).length _ :: _)
  rw [List.length_append, List.flatMap_append, hm]
  exact s2
/-- What was put together is the clock's. -/
theorem fin_two (R : St S0 w0 w (setsP v1 A :: Part.blk M (refO v0) :: setsP v0 l :: L)) (hm : B.length = m) (v' : Value) (w3 : World) (ho : w3.ownsRow 0 69 2 v' (A.length + m) (A.flatMap setC ++ B.flatMap setC)) (hg : w.grownBy w3 v1.ownBlock) (hb : v'.ownBlock = v1.ownBlock ∨ v'.ownBlock = some w.heap.size) :
    (w3.cell? ⟨M, 0, none⟩ = some v0 ∧ w3.frozen? ⟨M, 0, none⟩ = false) ∧ Hid (St S0 w0 (w3.setCell ⟨M, 0, none⟩ v') (refP M (A ++ B) :: L)) := by
  have s3 := (R.append2 ho hg hb).swap
  have p := s3.blk.1
  refine ⟨⟨by simp [World.cell?, p], box_frozen p⟩, ?_⟩
  have s4 := ((s3.set 0 v').pick 2 rfl).drop
  refine ref_shut (v := v') ?_
  show St _ _ _ (_ :: Part.row _ 2 v' (A ++ B).length _ :: _)
  rw [List.length_append, List.flatMap_append, hm]
  exact s4
theorem src_sets {w : World} {lim : Nat} {v : Value} {A : List (Nat × Nat)} (h : SlAt 2 setC w lim v A) {m : Nat} (hm : A.length = m) : Src Tryz.prog 2 26 v m (A.flatMap setC) w := by
  rw [← hm]
  exact src_sl (by omega) setC_len (fun x _ => setC_one x) (t := 26) (e := 69) Tryz.underlying26 h
end
set_option maxHeartbeats 1000000 in
set_option maxRecDepth 1000000 in
theorem rclear_ok (id : Nat) (hl : l.length ≤ 1000000) (h : St S0 w0 w (refP M l :: L)) :
    Calls Tryz.prog 8 #[ptr M, .int .u32 (id : Int)] w fun e w' => (e = .returned (.int .i64 6) ∧ (∀ x ∈ l, x.1 ≠ id) ∧ w = w') ∨ ∃ (k : Nat) (x : Nat × Nat), l[k]? = some x ∧ x.1 = id ∧ e = .returned (.int .i64 0) ∧ St S0 w0 w' (refP M (l.take k ++ l.drop (k + 1)) :: L) := by
  have ka := at_ok id hl h
  obtain ⟨v, s1⟩ := ref_open h
  have c0 : w.cell? ⟨M, 0, none⟩ = some v := by have := s1.blk.1; simp [World.cell?, this]
  have q1 := sets_at s1.swap
  obtain ⟨ao, cap, hv, h1, h2, h3⟩ := q1
  have S1 : Hid (St S0 w0 w (Part.blk M (refO v) :: setsP v l :: L)) := s1
  unfold maxLen at h2
  have H3 : Hid (0 < l.length → ∃ b, ao = some ⟨b, 0, none⟩) := fun h0 => by
    obtain ⟨b, off, e, -⟩ := h3 h0
    rcases s1.swap.row.2 with ⟨q, -⟩ | ⟨g, cap', cur, q, -⟩
    · rw [hv] at q; simp only [Value.slice.injEq] at q; rw [q.1] at e; cases e
    · rw [hv] at q; simp only [Value.slice.injEq] at q; exact ⟨g, q.1⟩
  clear h h3 s1
  go_enter Tryz.func8, Tryz.ntmps8
  go_wp2_with fail
  refine ka.mono ?_
  rintro e w1 ⟨⟨r, rfl, hr⟩, ew⟩
  rw [← ew]
  clear ew w1 ka
  rcases hr with ⟨rfl, hno⟩ | ⟨k, x, rfl, hx, he⟩
  · go_wp2
    go_ret
    exact .inl ⟨rfl, hno, rfl⟩
  · have hk : k < l.length := (List.getElem?_eq_some_iff.1 hx).1
    obtain ⟨b, rfl⟩ := H3.out (by omega)
    have HX : Hid (l[k]? = some x ∧ x.1 = id) := ⟨hx, he⟩
    have k0 : ¬ (k : Int) < 0 := by omega
    have S1' : Hid (St S0 w0 w (Part.blk M (refO (.slice (some ⟨b, 0, none⟩) l.length cap)) :: setsP (.slice (some ⟨b, 0, none⟩) l.length cap) l :: L)) := by rw [← hv]; exact S1.out
    rw [hv] at c0
    obtain ⟨i0, hi, hz0, hz1, hz2⟩ := info_parts info_set
    by_cases hcap : cap = k + 1
    · have HLEN : Hid (l.length = k + 1) := by show _ = _; omega
      subst hcap
      have b1 : Hid (([] : List (Nat × Nat)).length + k ≤ maxLen ∧ (([] : List (Nat × Nat)).length + k) * 16 ≤ 140737488355328) := by show _ ∧ _; unfold maxLen; simp; omega
      have tl : Hid ((l.take k).length = k) := by show _ = _; rw [List.length_take]; omega
      have dl : Hid ((l.drop (k + 1)).length = 0) := by show _ = _; rw [List.length_drop, HLEN.out]; omega
      have b2 : Hid (([] ++ l.take k).length + (0) ≤ maxLen ∧ (([] ++ l.take k).length + (0)) * 16 ≤ 140737488355328) := by show _ ∧ _; unfold maxLen; rw [List.nil_append, tl.out]; omega
      have F1 : Hid (St S0 w0 w (setsP (.slice none 0 0) [] :: Part.blk M (refO (.slice (some ⟨b, 0, none⟩) l.length (k + 1))) :: setsP (.slice (some ⟨b, 0, none⟩) l.length (k + 1)) l :: L)) := S1'.out.fresh_row 69 2
      have src1 : Hid (Src Tryz.prog 2 26 (.slice (some ⟨b, 0, none⟩) k (k + 1)) k ((l.take k).flatMap setC) w) := src_sets (sl_take (sets_at S1'.out.swap) (Nat.le_of_lt hk)) tl.out
      have HT : Hid (∀ W v, St S0 w0 W (setsP v ([] ++ l.take k) :: Part.blk M (refO (.slice (some ⟨b, 0, none⟩) l.length (k + 1))) :: setsP (.slice (some ⟨b, 0, none⟩) l.length (k + 1)) l :: L) → Src Tryz.prog 2 26 (.slice (some ⟨b, 0, none⟩) 0 0) (0) ((l.drop (k + 1)).flatMap setC) W) := fun W v R => src_sets (lim := W.heap.size) (⟨_, _, by rw [dl.out], by rw [dl.out]; omega, by unfold maxLen; omega, fun h => by rw [dl.out] at h; omega⟩) dl.out
      clear hx he H3 hv S1 S1'
      go_wp2_with (first
        | (at_builtin; refine wpList_append_own_src _ rfl (.tmp 12) (.tmp 18) 26 26 rfl 0 69 i0 (.agg #[.int .u32 0, .int .i64 0]) 2 16 Tryz.underlying26 hi hz0 hz1 hz2 rfl (by decide) (.slice none 0 0) _ _ rfl F1.out.row (.slice (some ⟨b, 0, none⟩) k (k + 1)) _ _ rfl src1.out b1.out.1 b1.out.2 (Nat.zero_le _) ?_; intro v' w2 ho hg hb; have R := fin_one F1.out tl.out v' w2 ho hg hb; obtain ⟨d0, R⟩ := R; have X2 : Hid _ := HT.out w2 v' R.out; obtain ⟨av, nv, cv, hv'⟩ := own_slice ho; subst hv'; clear ho hg hb src1 c0 HT F1)
        | (at_builtin; refine wpList_append_own_src _ rfl (.tmp 21) (.tmp 28) 26 26 rfl 0 69 i0 (.agg #[.int .u32 0, .int .i64 0]) 2 16 Tryz.underlying26 hi hz0 hz1 hz2 rfl (by decide) (.slice av nv cv) _ _ rfl R.out.row (.slice (some ⟨b, 0, none⟩) 0 0) _ _ rfl X2.out b2.out.1 b2.out.2 (Nat.zero_le _) ?_; intro v' w3 ho hg hb; have F := fin_two R.out dl.out v' w3 ho hg hb; obtain ⟨⟨d1, d2⟩, F⟩ := F; obtain ⟨av', nv', cv', hv'⟩ := own_slice ho; subst hv'; clear ho hg hb R X2))
      go_ret
      exact .inr ⟨k, x, HX.out.1, HX.out.2, rfl, F.out⟩
    · have hcap2 : k + 1 < cap := by omega
      have b1 : Hid (([] : List (Nat × Nat)).length + k ≤ maxLen ∧ (([] : List (Nat × Nat)).length + k) * 16 ≤ 140737488355328) := by show _ ∧ _; unfold maxLen; simp; omega
      have tl : Hid ((l.take k).length = k) := by show _ = _; rw [List.length_take]; omega
      have dl : Hid ((l.drop (k + 1)).length = l.length - (k + 1)) := List.length_drop ..
      have b2 : Hid (([] ++ l.take k).length + (l.length - (k + 1)) ≤ maxLen ∧ (([] ++ l.take k).length + (l.length - (k + 1))) * 16 ≤ 140737488355328) := by show _ ∧ _; unfold maxLen; rw [List.nil_append, tl.out]; omega
      have F1 : Hid (St S0 w0 w (setsP (.slice none 0 0) [] :: Part.blk M (refO (.slice (some ⟨b, 0, none⟩) l.length (cap))) :: setsP (.slice (some ⟨b, 0, none⟩) l.length (cap)) l :: L)) := S1'.out.fresh_row 69 2
      have src1 : Hid (Src Tryz.prog 2 26 (.slice (some ⟨b, 0, none⟩) k (cap)) k ((l.take k).flatMap setC) w) := src_sets (sl_take (sets_at S1'.out.swap) (Nat.le_of_lt hk)) tl.out
      have HT : Hid (∀ W v, St S0 w0 W (setsP v ([] ++ l.take k) :: Part.blk M (refO (.slice (some ⟨b, 0, none⟩) l.length (cap))) :: setsP (.slice (some ⟨b, 0, none⟩) l.length (cap)) l :: L) → Src Tryz.prog 2 26 (.slice (some ⟨b, (k + 1) * 2, none⟩) (l.length - (k + 1)) (cap - (k + 1))) (l.length - (k + 1)) ((l.drop (k + 1)).flatMap setC) W) := fun W v R => src_sets (lim := W.heap.size) (by have := sl_drop (k := k + 1) (sets_at (R.pick 2 rfl)) (by omega); rwa [Nat.zero_add] at this) dl.out
      clear hx he H3 hv S1 S1'
      go_wp2_with (first
        | (at_builtin; refine wpList_append_own_src _ rfl (.tmp 12) (.tmp 18) 26 26 rfl 0 69 i0 (.agg #[.int .u32 0, .int .i64 0]) 2 16 Tryz.underlying26 hi hz0 hz1 hz2 rfl (by decide) (.slice none 0 0) _ _ rfl F1.out.row (.slice (some ⟨b, 0, none⟩) k (cap)) _ _ rfl src1.out b1.out.1 b1.out.2 (Nat.zero_le _) ?_; intro v' w2 ho hg hb; have R := fin_one F1.out tl.out v' w2 ho hg hb; obtain ⟨d0, R⟩ := R; have X2 : Hid _ := HT.out w2 v' R.out; obtain ⟨av, nv, cv, hv'⟩ := own_slice ho; subst hv'; clear ho hg hb src1 c0 HT F1)
        | (at_builtin; refine wpList_append_own_src _ rfl (.tmp 21) (.tmp 28) 26 26 rfl 0 69 i0 (.agg #[.int .u32 0, .int .i64 0]) 2 16 Tryz.underlying26 hi hz0 hz1 hz2 rfl (by decide) (.slice av nv cv) _ _ rfl R.out.row (.slice (some ⟨b, (k + 1) * 2, none⟩) (l.length - (k + 1)) (cap - (k + 1))) _ _ rfl X2.out b2.out.1 b2.out.2 (Nat.zero_le _) ?_; intro v' w3 ho hg hb; have F := fin_two R.out dl.out v' w3 ho hg hb; obtain ⟨⟨d1, d2⟩, F⟩ := F; obtain ⟨av', nv', cv', hv'⟩ := own_slice ho; subst hv'; clear ho hg hb R X2))
      go_ret
      exact .inr ⟨k, x, HX.out.1, HX.out.2, rfl, F.out⟩
end
end Go.Proofs.YtboinccdnaddmaaGreatDoor
