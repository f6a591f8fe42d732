import Derived.Test.YtcgecdiaddcfkaaGreatDoorM18
import Derived.Test.YtcgecdiaddcfkaaGreatDoorM20
import Derived.Test.YtcgecdiaddcfkaaGreatDoorM8
/- The walk of the document's own GetResults. -/
set_option linter.unusedSimpArgs false
set_option linter.unusedVariables false
namespace Go.Proofs.YtcgecdiaddcfkaaGreatDoor
open Go.RowKit

theorem rf_newRes (w : World) (v : Value) (bs : List UInt8) (h : InAt w w.heap.size v bs) : RfAt (w.alloc (.cells #[v, .bool false] 196)) w.heap.size w.heap.size ⟨bs, false⟩ :=
  ⟨v, heap_alloc_new w _, h.kept (fun k hk => Below.heap_alloc w _ k hk), Nat.le_refl _, by simp⟩
theorem ResAt_nil (w : World) (lim : Nat) : ResAt w lim (.slice none 0 0) [] := ⟨⟨none, 0, rfl, Nat.le_refl _, Nat.zero_le _, fun h => by simp at h⟩, fun p hp => by cases hp⟩

/-- While one result is read: the reader in R, the result's own block X, its rows, those results that were read. -/
structure RI (W0 : World) (R base X : Nat) (vk : Value) (acc : List ResP) (vr : Value) (racc : List RowD) (s : St) (u : World) : Prop where
  r : RfAt u R R s
  x : u.heap[X]? = some (.cells #[vr] 89 (0, 0))
  row : u.ownsRow (X + 1) 92 2 vr racc.length (racc.flatMap rowCells)
  own : OwnRes u base vk acc
  lt : ∀ b, vk.ownBlock = some b → b < X
  lts : ∀ p ∈ acc, ∀ b, p.1.ownBlock = some b → b < X
  q : Kept R base W0 u
  rb : R < base
  bx : base ≤ X
  xz : X < u.heap.size
section
variable {W0 u u' : World} {R base X : Nat} {vk vr : Value} {acc : List ResP} {racc : List RowD} {s s' : St}
theorem RI.call (g : RI W0 R base X vk acc vr racc s u) (hr : RfAt u' R R s') (hk : Kept R u.heap.size u u') : RI W0 R base X vk acc vr racc s' u' :=
  ⟨hr, by rw [hk.block X g.xz (by have := g.rb; have := g.bx; omega)]; exact g.x, own_kept g.row (by have := g.rb; have := g.bx; omega) hk, g.own.kept g.rb hk, g.lt, g.lts, g.q.trans (hk.mono (by have := g.bx; have := g.xz; omega)), g.rb, g.bx, Nat.lt_of_lt_of_le g.xz hk.size⟩
theorem RI.below (g : RI W0 R base X vk acc vr racc s u) (hb : Below u.heap.size u u') : RI W0 R base X vk acc vr racc s u' := g.call (g.r.below hb) (Kept.of_below hb)
theorem RI.start (r : RfAt u R R s) (own : OwnRes u base vk acc) (q : Kept R base W0 u) (rb : R < base) (bz : base ≤ u.heap.size) : RI W0 R base u.heap.size vk acc (.slice none 0 0) [] s (u.alloc (.cells #[.slice none 0 0] 89)) :=
  ⟨r.below (below_one u _), heap_alloc_new u _, World.ownsRow_nil _ _ _ _, own.kept rb (Kept.of_below (below_one u _)), fun b hb => (own.own.lt b hb).2, fun p hp b hb => ((own.rows p hp).lt b hb).2, q.alloc bz _, rb, bz, by simp⟩
theorem RI.cell (g : RI W0 R base X vk acc vr racc s u) : u.cell? ⟨X, 0, none⟩ = some vr := box_cell g.x
/-- One row more: append to the rows, and the store. -/
theorem RI.more {v' : Value} {u1 : World} {y : RowD} (g : RI W0 R base X vk acc vr racc s u) (ho : u1.ownsRow (X + 1) 92 2 v' (racc.length + 1) (racc.flatMap rowCells ++ rowCells y))
    (hg : (v'.ownBlock = vr.ownBlock ∧ u.grownBy u1 vr.ownBlock) ∨ (v'.ownBlock = some u.heap.size ∧ u.grownBy u1 none)) :
    (u1.cell? ⟨X, 0, none⟩ = some vr ∧ u1.frozen? ⟨X, 0, none⟩ = false) ∧ RI W0 R base X vk acc v' (racc ++ [y]) s (u1.setCell ⟨X, 0, none⟩ v') := by
  have hrb := g.rb
  have hbx := g.bx
  have hrow : ∀ k, vr.ownBlock = some k → X + 1 ≤ k := own_row_ge g.row
  have hk : Kept R (X + 1) u u1 := by
    rcases hg with ⟨-, g1⟩ | ⟨-, g1⟩
    · exact ⟨g1.os, g1.tape, g1.output, g1.size, fun k hk _ => g1.block k (by have := g.xz; omega) (fun e => by have := hrow k e.symm; omega)⟩
    · exact ⟨g1.os, g1.tape, g1.output, g1.size, fun k hk _ => g1.block k (by have := g.xz; omega) (by simp)⟩
  have hR : ∀ k, k < X + 1 → u1.heap[k]? = u.heap[k]? := fun k hk' => by
    rcases hg with ⟨-, g1⟩ | ⟨-, g1⟩
    · exact g1.block k (by have := g.xz; omega) (fun e => by have := hrow k e.symm; omega)
    · exact g1.block k (by have := g.xz; omega) (by simp)
  have hx1 : u1.heap[X]? = some (.cells #[vr] 89 (0, 0)) := (hR X (by omega)).trans g.x
  have hset : ∀ k, k ≠ X → (u1.setCell ⟨X, 0, none⟩ v').heap[k]? = u1.heap[k]? := fun k hk' => Below.heap_setCell _ _ _ _ hk'
  have hall : ∀ k, k < X → (u1.setCell ⟨X, 0, none⟩ v').heap[k]? = u.heap[k]? := fun k hk' => (hset k (by omega)).trans (hR k (by omega))
  have hz1 : u.heap.size ≤ u1.heap.size := hk.size
  have hzs : (u1.setCell ⟨X, 0, none⟩ v').heap.size = u1.heap.size := by simp [World.setCell]
  refine ⟨⟨box_cell hx1, box_frozen hx1⟩, ?_, box_set v' hx1, ?_, ?_, g.lt, g.lts, ?_, g.rb, g.bx, by rw [hzs]; have := g.xz; omega⟩
  · obtain ⟨v0, h1, h2, h3, h4⟩ := g.r
    exact ⟨v0, (hall R (by omega)).trans h1, h2.kept (fun k hk' => hall k (by omega)), h3, by rw [hzs]; omega⟩
  · rw [flat_one, List.length_append, List.length_singleton]
    exact ownsRow_setCell_below ho (by show X < X + 1; omega) v'
  · exact ⟨own_of_block g.own.own (fun b hb => hall b (g.lt b hb)), fun p hp => own_of_block (g.own.rows p hp) (fun b hb => hall b (g.lts p hp b hb)), g.own.apart, g.own.pair⟩
  · exact ⟨hk.os.trans g.q.os, hk.tape.trans g.q.tape, hk.output.trans g.q.output, by rw [hzs]; exact Nat.le_trans g.q.size hz1, fun k hk' hn => (hall k (by omega)).trans (g.q.block k hk' hn)⟩
end
theorem below_drew' (w : World) : Below w.heap.size w w.drew := ⟨rfl, rfl, rfl, Nat.le_refl _, fun _ _ => rfl⟩
theorem info_rgRow : (Tryz.prog.info? 92).map (fun i => (i.zero, i.size, i.bytes)) = some (some (.agg #[.string ⟨#[]⟩, .int .u32 0]), 2, 24) := by kernel_rfl

set_option maxHeartbeats 8000000 in
set_option maxRecDepth 1000000 in
theorem refGetResults_any (w : World) (vb : Value) (bs : List UInt8) (hb : InAt w w.heap.size vb bs) :
    Calls Tryz.prog 84 #[vb] w fun e w' => ∃ v, e = .returned (.tuple #[v, .int .i64 ((getRes bs).2 : Int)]) ∧
      Hid (∃ m : List ResP, m.map (·.2) = (getRes bs).1 ∧ ResAt w' w'.heap.size v m) ∧ Below w.heap.size w w' := by
  obtain ⟨i0, hi, hz0, hz1, hz2⟩ := info_parts info_Result
  obtain ⟨j0, hj, hj0, hj1, hj2⟩ := info_parts info_rgRow
  have hR := rf_newRes w vb bs hb
  have hbs : Hid (InAt w w.heap.size vb bs) := hb
  obtain ⟨aob, capb, hvb, -, -, -⟩ := hb
  subst hvb
  have bW : Below w.heap.size w (w.alloc (.cells #[.slice aob bs.length capb, .bool false] 196)) := below_one w _
  have zW : (w.alloc (.cells #[.slice aob bs.length capb, .bool false] 196)).heap.size = w.heap.size + 1 := by simp
  have kc := rfcount_any _ w.heap.size w.heap.size ⟨bs, false⟩ hR
  have hn2 := highR2_lt ⟨bs, false⟩
  rw [getRes_read]
  unfold readRes
  generalize (highR 2 ⟨bs, false⟩).1 = n at *
  generalize (highR 2 ⟨bs, false⟩).2 = s1 at *
  obtain ⟨tot, htot⟩ : ∃ tot, tot = loopS stepRRes n s1 := ⟨_, rfl⟩
  rw [← htot]
  have HT : Hid (tot = loopS stepRRes n s1) := htot
  obtain ⟨RES, hRES⟩ : ∃ RES, RES = (if tot.2.bad = true ∨ (putRes tot.1).2 ≠ 0 ∨ bs ≠ (putRes tot.1).1 then (([] : List (List RowD)), 4) else (tot.1, 0)) := ⟨_, rfl⟩
  rw [← hRES]
  have HR : Hid (RES = (if tot.2.bad = true ∨ (putRes tot.1).2 ≠ 0 ∨ bs ≠ (putRes tot.1).1 then (([] : List (List RowD)), 4) else (tot.1, 0))) := hRES
  have HB : Hid (∀ u, Kept w.heap.size (w.heap.size + 1) (w.alloc (.cells #[.slice aob bs.length capb, .bool false] 196)) u → Below w.heap.size w u) := fun u q => bW.trans (q.below (Nat.le_refl _) (by omega))
  rw [zW] at kc
  clear htot hRES hR bW zW
  obtain ⟨W0, hW0⟩ : ∃ W0, W0 = w.alloc (.cells #[.slice aob bs.length capb, .bool false] 196) := ⟨_, rfl⟩
  have Z0 : Hid (W0.heap.size = w.heap.size + 1) := by show _ = _; rw [hW0]; simp
  rw [← hW0] at kc HB
  go_enter Tryz.func84, Tryz.ntmps84
  go_wp2_with fail
  try rw [← hW0]
  clear hW0
  refine kc.mono ?_
  rintro e w1 ⟨rfl, h1, q1⟩
  clear kc
  go_wp2
  go_loopw [5, 6] (fun vk i wr => ∃ (k : Nat) (acc : List ResP) (st : St), k ≤ n ∧ i = .int .i64 k ∧ OwnRes wr (w.heap.size + 1) vk acc ∧ RfAt wr w.heap.size w.heap.size st ∧ Kept w.heap.size (w.heap.size + 1) W0 wr ∧ Hid (acc.length + k ≤ n ∧ acc.map (·.2) ++ (loopS stepRRes k st).1 = tot.1 ∧ (loopS stepRRes k st).2 = tot.2) ∧ Hid (∀ p ∈ acc, ∀ x ∈ p.2, rowSm x)) (fun _ i _ => (intOf i).toNat)
  case atStart => exact ⟨n, [], s1, Nat.le_refl _, rfl, OwnRes_nil _ _, h1, q1, ⟨by simp, by rw [HT.out]; rfl, by rw [HT.out]⟩, (fun x hx => absurd hx List.not_mem_nil)⟩
  case round =>
    clear q1 h1 HT
    obtain ⟨k, acc, st, hk, rfl, hown, hr, hq, hH, hsm⟩ := hrel
    have hbad := hr.badCell
    have hbase : w.heap.size + 1 ≤ wr.heap.size := by have := hq.size; have := Z0.out; omega
    cases hb : st.bad with
    | true =>
      rw [hb] at hbad
      have E : Hid (tot = (acc.map (·.2), st)) := by
        have h := hH.out
        rw [loopS_bad _ _ hb, List.append_nil] at h
        exact Prod.ext h.2.1.symm h.2.2.symm
      have hbd : Hid (st.bad = true) := hb
      obtain ⟨ao, na, ca, rfl⟩ := own_slice hown.own
      by_cases hkn : 0 < k
      · have i1 : (0 : Int) < (k : Int) := by omega
        have kp := refPutResults_any wr _ acc (hown.at hsm.out)
        have hcal : Hid (∀ W, Below wr.heap.size wr W → Below w.heap.size w W ∧ W.cell? ⟨w.heap.size, 1, none⟩ = some (.bool st.bad) ∧ InAt W W.heap.size (.slice aob bs.length capb) bs ∧ ResAt W W.heap.size (.slice ao na ca) acc) := fun W hW => by
          have b1 := HB.out wr hq
          have b2 := b1.trans (hW.mono (by omega))
          exact ⟨b2, (hW.cell (p := ⟨w.heap.size, 1, none⟩) (by show w.heap.size < _; omega)).trans hr.badCell, (hbs.out.kept (fun k hk => b2.block k hk)).mono (by have := b2.size; omega), (OwnRes.below hown hW).at hsm.out⟩
        rw [hb] at hcal
        clear hown hr hq hH hb HB
        go_wp2_with fail
        refine kp.mono ?_
        rintro e w5 ⟨v5, rfl, ho5, b5⟩
        obtain ⟨d1, d2, d3, d4'⟩ := hcal.out w5 b5
        have d4 : Hid (ResAt w5 w5.heap.size (.slice ao na ca) acc) := d4'
        clear kp hcal d4'
        have E4 : Hid (RES = ([], 4)) := by show _ = _; rw [HR.out, E.out, if_pos (.inl hbd.out)]
        obtain ⟨a5, n5, c5, rfl⟩ := own_slice ho5
        clear HR E ho5 b5 d3
        generalize (putRes (acc.map (·.2))).2 = ec at *
        go_wp2
        go_ret2
        exact ⟨_, by rw [E4.out]; rfl, ⟨[], by rw [E4.out]; rfl, ResAt_nil _ _⟩, d1⟩
      · have hk0 : k = 0 := by omega
        subst hk0
        have kp := refPutResults_any wr _ acc (hown.at hsm.out)
        have hcal : Hid (∀ W, Below wr.heap.size wr W → Below w.heap.size w W ∧ W.cell? ⟨w.heap.size, 1, none⟩ = some (.bool st.bad) ∧ InAt W W.heap.size (.slice aob bs.length capb) bs ∧ ResAt W W.heap.size (.slice ao na ca) acc) := fun W hW => by
          have b1 := HB.out wr hq
          have b2 := b1.trans (hW.mono (by omega))
          exact ⟨b2, (hW.cell (p := ⟨w.heap.size, 1, none⟩) (by show w.heap.size < _; omega)).trans hr.badCell, (hbs.out.kept (fun k hk => b2.block k hk)).mono (by have := b2.size; omega), (OwnRes.below hown hW).at hsm.out⟩
        rw [hb] at hcal
        clear hown hr hq hH hb HB
        go_wp2_with fail
        refine kp.mono ?_
        rintro e w5 ⟨v5, rfl, ho5, b5⟩
        obtain ⟨d1, d2, d3, d4'⟩ := hcal.out w5 b5
        have d4 : Hid (ResAt w5 w5.heap.size (.slice ao na ca) acc) := d4'
        clear kp hcal d4'
        have E4 : Hid (RES = ([], 4)) := by show _ = _; rw [HR.out, E.out, if_pos (.inl hbd.out)]
        obtain ⟨a5, n5, c5, rfl⟩ := own_slice ho5
        clear HR E ho5 b5 d3
        generalize (putRes (acc.map (·.2))).2 = ec at *
        go_wp2
        go_ret2
        exact ⟨_, by rw [E4.out]; rfl, ⟨[], by rw [E4.out]; rfl, ResAt_nil _ _⟩, d1⟩
    | false =>
      rw [hb] at hbad
      by_cases hkn : 0 < k
      · obtain ⟨k, rfl⟩ : ∃ j, k = j + 1 := ⟨k - 1, by omega⟩
        have hH2 : Hid (∀ p : ResP, p.2 = (stepRRes st).1 → (acc ++ [p]).length + k ≤ n ∧ (acc ++ [p]).map (·.2) ++ (loopS stepRRes k (stepRRes st).2).1 = tot.1 ∧ (loopS stepRRes k (stepRRes st).2).2 = tot.2) := fun p hp => by
          have h := hH.out
          rw [loopS_next _ _ hb] at h
          refine ⟨by simp; omega, ?_, h.2.2⟩
          rw [← h.2.1, List.map_append]; simp [hp]
        have HL : Hid (acc.length ≤ 65536) := by have := hH.out.1; show _ ≤ _; omega
        have i1 : (0 : Int) < ((k + 1 : Nat) : Int) := by omega
        have gs := RI.start hr hown hq (by omega) hbase
        obtain ⟨ao, na, ca, rfl⟩ := own_slice hown.own
        have kc2 := rfcount_any _ w.heap.size w.heap.size st gs.r
        have hn3 := highR2_lt st
        unfold stepRRes at hH2
        generalize (highR 2 st).1 = n2 at *
        generalize (highR 2 st).2 = s2 at *
        obtain ⟨tot2, ht2⟩ : ∃ tot2, tot2 = loopS stepRRow n2 s2 := ⟨_, rfl⟩
        rw [← ht2] at hH2
        have HT2 : Hid (tot2 = loopS stepRRow n2 s2) := ht2
        obtain ⟨X, hX⟩ : ∃ X, X = wr.heap.size := ⟨_, rfl⟩
        have GS : Hid (RI W0 w.heap.size (w.heap.size + 1) wr.heap.size (.slice ao na ca) acc (.slice none 0 0) [] st (wr.alloc (.cells #[.slice none 0 0] 89))) := gs
        clear ht2 hH hb hown hr hq gs hbs HR
        go_wp2_with fail
        refine kc2.mono ?_
        rintro e u1 ⟨rfl, r1, q1⟩
        have G1 := GS.out.call r1 q1
        clear kc2 r1 q1 GS
        rw [← hX] at G1
        go_wp2
        rw [← hX]
        obtain ⟨wO, hO⟩ : ∃ x, x = wr := ⟨_, rfl⟩
        subst hO
        have HX : Hid (X = wO.heap.size) := hX
        clear hX hbase hbad
        go_loopw [8] (fun i wq => ∃ (j : Nat) (racc : List RowD) (vr : Value) (s3 : St), j ≤ n2 ∧ i = .int .i64 j ∧ RI W0 w.heap.size (w.heap.size + 1) X (.slice ao na ca) acc vr racc s3 wq ∧ Hid (racc.length + j ≤ n2 ∧ racc ++ (loopS stepRRow j s3).1 = tot2.1 ∧ (loopS stepRRow j s3).2 = tot2.2) ∧ Hid (∀ x ∈ racc, rowSm x)) (fun i _ => (intOf i).toNat)
        case atStart => exact ⟨n2, [], .slice none 0 0, s2, Nat.le_refl _, rfl, G1, ⟨by simp, by rw [HT2.out]; rfl, by rw [HT2.out]⟩, (fun x hx => absurd hx List.not_mem_nil)⟩
        case round =>
          clear G1 HT2
          obtain ⟨j, racc, vr, s3, hj', rfl, g, hH3, hsm3⟩ := hrel
          have hbad := g.r.badCell
          obtain ⟨av, nv, cv, rfl⟩ := own_slice g.row
          by_cases hgo : 0 < j ∧ s3.bad = false
          · obtain ⟨hj1', hb3⟩ := hgo
            rw [hb3] at hbad
            obtain ⟨j, rfl⟩ : ∃ i, j = i + 1 := ⟨j - 1, by omega⟩
            have hH4 : Hid ((racc ++ [(stepRRow s3).1]).length + j ≤ n2 ∧ (racc ++ [(stepRRow s3).1]) ++ (loopS stepRRow j (stepRRow s3).2).1 = tot2.1 ∧ (loopS stepRRow j (stepRRow s3).2).2 = tot2.2) := by
              have h := hH3.out
              rw [loopS_next _ _ hb3] at h
              refine ⟨by simp; omega, ?_, h.2.2⟩
              rw [← h.2.1]; simp
            have hsm4 : Hid (∀ x ∈ racc ++ [(stepRRow s3).1], rowSm x) := fun x hx => by
              rcases List.mem_append.mp hx with hx | hx
              · exact hsm3.out x hx
              · simp only [List.mem_singleton] at hx; rw [hx]; exact stepRRow_sm s3
            have HL3 : Hid (racc.length ≤ 65536) := by have := hH3.out.1; show _ ≤ _; omega
            have i2 : (0 : Int) < ((j + 1 : Nat) : Int) := by omega
            clear hH3 hb3 hsm3 hsm
            unfold stepRRow at hH4 hsm4
            have kt := rftext_any wr w.heap.size w.heap.size s3 g.r
            generalize textR s3 = t at *
            obtain ⟨key, s4⟩ := t
            simp only at kt hH4 hsm4
            have kn0 := fun u (h : RfAt u w.heap.size w.heap.size s4) => rfnumber_any u w.heap.size w.heap.size s4 h
            have hv4 := highR4_lt s4
            generalize highR 4 s4 = t at *
            obtain ⟨vn, s5⟩ := t
            simp only at kn0 hv4 hH4 hsm4
            have hval : (vn : Int) = ((UInt32.ofNat vn).toNat : Int) := by rw [u32_nat hv4]
            obtain ⟨y, hy⟩ : ∃ y, y = RowD.mk key (UInt32.ofNat vn) := ⟨_, rfl⟩
            rw [← hy] at hH4 hsm4
            have HY : Hid ([Value.string key, .int .u32 (vn : Int)] = rowCells y) := by show _ = _; rw [hy, hval]; rfl
            clear hy hval hv4
            have kn : ∀ W, RI W0 w.heap.size (w.heap.size + 1) X (.slice ao na ca) acc (.slice av nv cv) racc s4 W → Calls Tryz.prog 153 #[ptr w.heap.size] W fun e w' => e = .returned (.int .u32 (vn : Int)) ∧ RI W0 w.heap.size (w.heap.size + 1) X (.slice ao na ca) acc (.slice av nv cv) racc s5 w' := fun W h => (kn0 W h.r).mono (by rintro e w' ⟨rfl, r, q⟩; exact ⟨rfl, h.call r q⟩)
            have facts : Hid (∀ W, RI W0 w.heap.size (w.heap.size + 1) X (.slice ao na ca) acc (.slice av nv cv) racc s5 W → (W.alloc (.cells #[.string key, .int .u32 (vn : Int)] 92)).ownsRow (X + 1) 92 2 (.slice av nv cv) racc.length (racc.flatMap rowCells) ∧ Src Tryz.prog 2 87 (.slice (some ⟨W.heap.size, 0, none⟩) 1 1) 1 [.string key, .int .u32 (vn : Int)] (W.alloc (.cells #[.string key, .int .u32 (vn : Int)] 92)) ∧ X + 1 ≤ (W.alloc (.cells #[.string key, .int .u32 (vn : Int)] 92)).heap.size ∧
                ∀ v' u1, u1.ownsRow (X + 1) 92 2 v' (racc.length + 1) (racc.flatMap rowCells ++ [.string key, .int .u32 (vn : Int)]) → ((v'.ownBlock = (Value.slice av nv cv).ownBlock ∧ (W.alloc (.cells #[.string key, .int .u32 (vn : Int)] 92)).grownBy u1 (Value.slice av nv cv).ownBlock) ∨ (v'.ownBlock = some (W.alloc (.cells #[.string key, .int .u32 (vn : Int)] 92)).heap.size ∧ (W.alloc (.cells #[.string key, .int .u32 (vn : Int)] 92)).grownBy u1 none)) →
                  (u1.cell? ⟨X, 0, none⟩ = some (.slice av nv cv) ∧ u1.frozen? ⟨X, 0, none⟩ = false) ∧ Hid (RI W0 w.heap.size (w.heap.size + 1) X (.slice ao na ca) acc v' (racc ++ [y]) s5 (u1.setCell ⟨X, 0, none⟩ v'))) := fun W h => by
              have h2 := h.below (below_one W (.cells #[.string key, .int .u32 (vn : Int)] 92))
              exact ⟨h2.row, Src.ofSlice _ Tryz.underlying87 ⟨W.heap.size, 0, none⟩ 1 1 [.string key, .int .u32 (vn : Int)] rfl (news_ofv [.string key, .int .u32 (vn : Int)] _) (by rw [HY.out]; intro u hu; simp [rowCells] at hu; rcases hu with rfl | rfl <;> rfl), h2.xz, fun v' u1 ho hg => h2.more (y := y) (by rw [← HY.out]; exact ho) hg⟩
            have cellX : ∀ (s : St) W, RI W0 w.heap.size (w.heap.size + 1) X (.slice ao na ca) acc (.slice av nv cv) racc s W → W.cell? ⟨X, 0, none⟩ = some (.slice av nv cv) := fun s W h => h.cell
            have bb : Hid (racc.length + 1 ≤ maxLen ∧ (racc.length + 1) * 24 ≤ 140737488355328) := by have := HL3.out; show _ ∧ _; unfold maxLen; omega
            have G : Hid (RI W0 w.heap.size (w.heap.size + 1) X (.slice ao na ca) acc (.slice av nv cv) racc s3 wr) := g
            clear kn0 HY HL3 g
            go_wp2_with fail
            refine kt.mono ?_
            rintro e u2 ⟨rfl, r2, q2⟩
            have g2 := G.out.call r2 q2
            have gD : RI W0 w.heap.size (w.heap.size + 1) X (.slice ao na ca) acc (.slice av nv cv) racc s4 u2.drew := g2.below (below_drew' u2)
            have x2 := g2.cell
            have HD : Hid _ := gD
            clear kt G r2 q2 g2 hbad
            go_wp2_with fail
            go_region_law (first | (refine step_append_stays rfl (.tmp 44) (.tmp 49) 87 rfl (X + 1) 92 j0 (.agg #[.string ⟨#[]⟩, .int .u32 0]) 2 24 Tryz.underlying87 hj hj0 hj1 hj2 rfl (by decide) (.slice av nv cv) racc.length (racc.flatMap rowCells) (by simp [Act.eval, Act.put]) f1 (.slice (some ⟨w3.heap.size, 0, none⟩) 1 1) 1 _ (by simp [Act.eval, Act.put]) f2 bb.out.1 bb.out.2 f3 ?_; intro v' u5 ho hg; have F5 := f4.out v' u5 ho hg; obtain ⟨⟨k1, k2⟩, RF⟩ := F5; obtain ⟨av5, nv5, cv5, rfl⟩ := own_slice ho) | (go_simp; go_at_call 153; refine (kn _ (by assumption)).mono ?_; rintro e w3 ⟨rfl, g3⟩; have FF := facts.out w3 g3; obtain ⟨f1, f2, f3, f4'⟩ := FF; have f4 : Hid _ := f4'; have x3 := cellX _ w3 g3; have x4 := cellX _ _ (g3.below (below_one w3 (.cells #[.string key, .int .u32 (vn : Int)] 92))); clear f4' gD))
            all_goals
              go_wp2
              go_roundw
              case rel => exact ⟨j, racc ++ [y], _, s5, by omega, by go_num, RF.out, hH4, hsm4⟩
              case measure => simp [intOf]
          · have EX : Hid (racc = tot2.1 ∧ s3 = tot2.2) := by
              have h := hH3.out
              rcases Nat.eq_zero_or_pos j with hj0' | hj0'
              · subst hj0'
                exact ⟨by simpa [loopS] using h.2.1, h.2.2⟩
              · have hb3 : s3.bad = true := by
                  cases hb3 : s3.bad with
                  | true => rfl
                  | false => exact absurd ⟨hj0', hb3⟩ hgo
                rw [loopS_bad _ _ hb3, List.append_nil] at h
                exact ⟨h.2.1, h.2.2⟩
            have c3 : (0 < j ∧ s3.bad = true) ∨ j = 0 := by
              rcases Nat.eq_zero_or_pos j with hj0' | hj0'
              · exact .inr hj0'
              · refine .inl ⟨hj0', ?_⟩
                cases hb3 : s3.bad with
                | true => rfl
                | false => exact absurd ⟨hj0', hb3⟩ hgo
            have cX := g.cell
            have ROW : Hid ((wr.alloc (.cells #[.slice av nv cv] 89)).ownsRow (w.heap.size + 1) 89 1 (.slice ao na ca) acc.length (acc.flatMap resCells)) := g.own.own.alloc _
            have SRC : Hid (Src Tryz.prog 1 25 (.slice (some ⟨wr.heap.size, 0, none⟩) 1 1) 1 [.slice av nv cv] (wr.alloc (.cells #[.slice av nv cv] 89))) := Src.ofSlice _ Tryz.underlying25 ⟨wr.heap.size, 0, none⟩ 1 1 [.slice av nv cv] rfl (news_ofv [.slice av nv cv] _) (by intro u hu; rw [List.mem_singleton.mp hu]; rfl)
            have ZS : Hid (w.heap.size + 1 ≤ (wr.alloc (.cells #[.slice av nv cv] 89)).heap.size) := by
              show _ ≤ _
              have := g.bx
              have := g.xz
              simp; omega
            have fin : Hid (∀ v' w4, w4.ownsRow (w.heap.size + 1) 89 1 v' (acc.length + 1) (acc.flatMap resCells ++ [.slice av nv cv]) → (wr.alloc (.cells #[.slice av nv cv] 89)).grownBy w4 (Value.slice ao na ca).ownBlock → (v'.ownBlock = (Value.slice ao na ca).ownBlock ∨ v'.ownBlock = some (wr.alloc (.cells #[.slice av nv cv] 89)).heap.size) →
                OwnRes w4 (w.heap.size + 1) v' (acc ++ [(.slice av nv cv, racc)]) ∧ RfAt w4 w.heap.size w.heap.size s3 ∧ Kept w.heap.size (w.heap.size + 1) W0 w4) := fun v' w4 ho hg hat => by
              have hbx := g.bx
              have hxz := g.xz
              have hrow : ∀ k, (Value.slice ao na ca).ownBlock = some k → w.heap.size + 1 ≤ k := own_row_ge ROW.out
              refine ⟨OwnRes.next (w0 := wO) g.own (own_mono' g.row (by omega)) (fun b hb => ?_) (fun b hb => ?_) (fun q hq b hb => ?_) (by omega) hg hat ho, (g.r.below (below_one _ _)).grown hg hrow (by omega), (g.q.alloc (by omega) _).grown hg ZS.out hrow⟩
              · have := own_row_ge g.row b hb
                have := HX.out
                omega
              · rw [← HX.out]; exact g.lt b hb
              · rw [← HX.out]; exact g.lts q hq b hb
            have fin2 : Hid ((acc ++ [((.slice av nv cv, racc) : ResP)]).length + k ≤ n ∧ (acc ++ [((.slice av nv cv, racc) : ResP)]).map (·.2) ++ (loopS stepRRes k s3).1 = tot.1 ∧ (loopS stepRRes k s3).2 = tot.2) := by
              have := hH2.out (.slice av nv cv, racc) EX.out.1
              rw [← EX.out.2] at this
              exact this
            have fin3 : Hid (∀ p ∈ acc ++ [((.slice av nv cv, racc) : ResP)], ∀ x ∈ p.2, rowSm x) := fun p hp x hx => by
              rcases List.mem_append.mp hp with hp | hp
              · exact hsm.out p hp x hx
              · rw [List.mem_singleton.mp hp] at hx; exact hsm3.out x hx
            have bb : Hid (acc.length + 1 ≤ maxLen ∧ (acc.length + 1) * 24 ≤ 140737488355328) := by have := HL.out; show _ ∧ _; unfold maxLen; omega
            clear EX hH3 hsm3 hsm hH2 g hgo HX
            rcases c3 with ⟨hj3, hb3⟩ | hj3
            case inl =>
              rw [hb3] at hbad
              have i2 : (0 : Int) < (j : Int) := by omega
              clear hb3
              go_wp2_with (at_builtin; refine wpList_append_own_src _ rfl (.tmp 52) (.tmp 54) 25 25 rfl (w.heap.size + 1) 89 i0 (.agg #[.slice none 0 0]) 1 24 Tryz.underlying25 hi hz0 hz1 hz2 rfl (by decide) _ acc.length _ rfl ROW.out (.slice (some ⟨wr.heap.size, 0, none⟩) 1 1) 1 _ rfl SRC.out bb.out.1 bb.out.2 ZS.out ?_; intro v' w4 ho hg hat; have F := fin.out v' w4 ho hg hat)
              obtain ⟨F1, F2, F3⟩ := F
              clear fin
              go_roundw
              case rel => exact ⟨k, _, s3, by omega, by go_num, F1, F2, F3, fin2, fin3⟩
              case measure => simp [intOf]
            case inr =>
              subst hj3
              go_wp2_with (at_builtin; refine wpList_append_own_src _ rfl (.tmp 52) (.tmp 54) 25 25 rfl (w.heap.size + 1) 89 i0 (.agg #[.slice none 0 0]) 1 24 Tryz.underlying25 hi hz0 hz1 hz2 rfl (by decide) _ acc.length _ rfl ROW.out (.slice (some ⟨wr.heap.size, 0, none⟩) 1 1) 1 _ rfl SRC.out bb.out.1 bb.out.2 ZS.out ?_; intro v' w4 ho hg hat; have F := fin.out v' w4 ho hg hat)
              obtain ⟨F1, F2, F3⟩ := F
              clear fin
              go_roundw
              case rel => exact ⟨k, _, s3, by omega, by go_num, F1, F2, F3, fin2, fin3⟩
              case measure => simp [intOf]
      · have hk0 : k = 0 := by omega
        subst hk0
        have E : Hid (tot = (acc.map (·.2), st)) := by
          have h := hH.out
          exact Prod.ext (by simpa [loopS] using h.2.1.symm) h.2.2.symm
        have hbd : Hid (st.bad = false) := hb
        obtain ⟨ao, na, ca, rfl⟩ := own_slice hown.own
        have kp := refPutResults_any wr _ acc (hown.at hsm.out)
        have hcal : Hid (∀ W, Below wr.heap.size wr W → Below w.heap.size w W ∧ W.cell? ⟨w.heap.size, 1, none⟩ = some (.bool st.bad) ∧ InAt W W.heap.size (.slice aob bs.length capb) bs ∧ ResAt W W.heap.size (.slice ao na ca) acc) := fun W hW => by
          have b1 := HB.out wr hq
          have b2 := b1.trans (hW.mono (by omega))
          exact ⟨b2, (hW.cell (p := ⟨w.heap.size, 1, none⟩) (by show w.heap.size < _; omega)).trans hr.badCell, (hbs.out.kept (fun k hk => b2.block k hk)).mono (by have := b2.size; omega), (OwnRes.below hown hW).at hsm.out⟩
        rw [hb] at hcal
        clear hown hr hq hH hb HB
        go_wp2_with fail
        refine kp.mono ?_
        rintro e w5 ⟨v5, rfl, ho5, b5⟩
        obtain ⟨d1, d2, d3, d4'⟩ := hcal.out w5 b5
        have d4 : Hid (ResAt w5 w5.heap.size (.slice ao na ca) acc) := d4'
        clear kp hcal d4'
        have ks := refSame_any w5 _ _ _ _ bs (putRes (acc.map (·.2))).1 d3 (in_own ho5)
        obtain ⟨a5, n5, c5, rfl⟩ := own_slice ho5
        have e1 : RES = if (putRes (acc.map (·.2))).2 ≠ 0 ∨ bs ≠ (putRes (acc.map (·.2))).1 then ([], 4) else (acc.map (·.2), 0) := by
          rw [HR.out, E.out]
          simp only [hbd.out, Bool.false_eq_true, false_or]
        have E1 : Hid (RES = if (putRes (acc.map (·.2))).2 ≠ 0 ∨ bs ≠ (putRes (acc.map (·.2))).1 then ([], 4) else (acc.map (·.2), 0)) := e1
        clear e1 HR E b5 d3 ho5 hbs
        generalize (putRes (acc.map (·.2))).2 = ec at *
        generalize (putRes (acc.map (·.2))).1 = pc at *
        by_cases hec : ec = 0
        case neg =>
          have E4 : Hid (RES = ([], 4)) := by show _ = _; rw [E1.out, if_pos (.inl hec)]
          have hne : ((ec : Int) != 0) = true := by simp; omega
          clear E1 ks
          go_wp2
          go_ret2
          exact ⟨_, by rw [E4.out]; rfl, ⟨[], by rw [E4.out]; rfl, ResAt_nil _ _⟩, d1⟩
        subst hec
        by_cases hsame : bs = pc
        · have E4 : Hid (RES = (acc.map (·.2), 0)) := by show _ = _; rw [E1.out, if_neg (by simp [hsame])]
          rw [decide_eq_true hsame] at ks
          clear E1 hsame
          go_wp2_with fail
          refine ks.mono ?_
          rintro e w6 ⟨rfl, n6, rfl⟩
          clear ks
          go_wp2
          go_ret2
          exact ⟨_, by rw [E4.out]; rfl, ⟨acc, by rw [E4.out], d4.out.below (below_dn w5 n6) (Nat.le_refl _)⟩, d1.trans ((below_dn w5 n6).mono d1.size)⟩
        · have E4 : Hid (RES = ([], 4)) := by show _ = _; rw [E1.out, if_pos (.inr hsame)]
          rw [decide_eq_false hsame] at ks
          clear E1 hsame
          go_wp2_with fail
          refine ks.mono ?_
          rintro e w6 ⟨rfl, n6, rfl⟩
          clear ks
          go_wp2
          go_ret2
          exact ⟨_, by rw [E4.out]; rfl, ⟨[], by rw [E4.out]; rfl, ResAt_nil _ _⟩, d1.trans ((below_dn w5 n6).mono d1.size)⟩
end Go.Proofs.YtcgecdiaddcfkaaGreatDoor
