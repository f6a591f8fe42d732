import Derived.Test.YtndjgilheleplaaGreatDoorRTwRowM
import Derived.Test.YtndjgilheleplaaGreatDoorRSameRM
import Derived.Test.YtndjgilheleplaaGreatDoorRGet3M
import Derived.Test.YtndjgilheleplaaGreatDoorRKatM
import Derived.Test.YtndjgilheleplaaGreatDoorRBkResM
/- The walks of a copy of results in memory of its own, with a mark behind it. -/
set_option linter.unusedSimpArgs false
set_option linter.unusedVariables false
namespace Go.Proofs.YtndjgilheleplaaGreatDoor
open Go.RowKit

set_option maxHeartbeats 1000000 in
set_option maxRecDepth 1000000 in
theorem twinResult_any (w : World) (ao : Option Addr) (cap : Nat) (l : List RowD) (hl : SlAt 2 rowCells w w.heap.size (.slice ao l.length cap) l) (hn : l.length ≤ 1000000) :
    Calls Tryz.prog 102 #[.agg #[.slice ao l.length cap]] w fun e w' => ∃ g, e = .returned (.agg #[.slice (some ⟨g, 0, none⟩) l.length (l.length + 1)]) ∧ w.heap.size ≤ g ∧ w'.ownsRow g 109 2 (.slice (some ⟨g, 0, none⟩) (l.length + 1) (l.length + 1)) (l.length + 1) (l.flatMap rowCells ++ spareRow) ∧ Below w.heap.size w w' := by
  obtain ⟨W2, hW2⟩ : ∃ W2, W2 = (w.alloc (.cells #[.slice ao l.length cap] 106)).alloc (.cells #[.slice none 0 0] 106) := ⟨_, rfl⟩
  have z2 : W2.heap.size = w.heap.size + 2 := by rw [hW2]; simp
  have b2 : Below w.heap.size w W2 := by rw [hW2]; exact below_two' _ _
  have hB : W2.heap[w.heap.size + 1]? = some (.cells #[.slice none 0 0] 106 (0, 0)) := by
    rw [hW2]
    have := heap_alloc_new (w.alloc (.cells #[.slice ao l.length cap] 106)) (.cells #[.slice none 0 0] 106)
    rw [show (w.alloc (.cells #[.slice ao l.length cap] 106)).heap.size = w.heap.size + 1 by simp] at this
    exact this
  have kt := twinRow_any W2 _ l ((hl.below b2 (Nat.le_refl _)).mono b2.size) hn
  rw [z2] at kt
  have fin : ∀ w', Below (w.heap.size + 2) W2 w' → w'.ownsRow (w.heap.size + 2) 109 2 (.slice (some ⟨w.heap.size + 2, 0, none⟩) (l.length + 1) (l.length + 1)) (l.length + 1) (l.flatMap rowCells ++ spareRow) →
      w'.cell? ⟨w.heap.size + 1, 0, none⟩ = some (.slice none 0 0) ∧ w'.frozen? ⟨w.heap.size + 1, 0, none⟩ = false ∧ Hid ((w'.setCell ⟨w.heap.size + 1, 0, none⟩ (.slice (some ⟨w.heap.size + 2, 0, none⟩) l.length (l.length + 1))).heap[w.heap.size + 1]? = some (.cells #[.slice (some ⟨w.heap.size + 2, 0, none⟩) l.length (l.length + 1)] 106 (0, 0))) ∧
      Hid ((w'.setCell ⟨w.heap.size + 1, 0, none⟩ (.slice (some ⟨w.heap.size + 2, 0, none⟩) l.length (l.length + 1))).ownsRow (w.heap.size + 2) 109 2 (.slice (some ⟨w.heap.size + 2, 0, none⟩) (l.length + 1) (l.length + 1)) (l.length + 1) (l.flatMap rowCells ++ spareRow) ∧ Below w.heap.size w (w'.setCell ⟨w.heap.size + 1, 0, none⟩ (.slice (some ⟨w.heap.size + 2, 0, none⟩) l.length (l.length + 1)))) := fun w' hb ho => by
    have hB1 : w'.heap[w.heap.size + 1]? = some (.cells #[.slice none 0 0] 106 (0, 0)) := (hb.block _ (by omega)).trans hB
    exact ⟨box_cell hB1, box_frozen hB1, box_set _ hB1, ownsRow_setCell_below ho (by show w.heap.size + 1 < _; omega) _, (b2.trans (hb.mono (by omega))).setCell (p := ⟨w.heap.size + 1, 0, none⟩) (by show w.heap.size ≤ w.heap.size + 1; omega) _⟩
  clear hl hB b2 z2
  subst hW2
  go_enter Tryz.func102, Tryz.ntmps102
  go_wp2_with fail
  refine kt.mono ?_
  rintro e w' ⟨rfl, ho, hb⟩
  obtain ⟨f1, f2, f3, f4⟩ := fin w' hb ho
  clear fin kt ho hb
  go_wp2
  exact bodyPost_ret (results_cell_row rfl _ _ (w.heap.size + 1) 106 #[.slice (some ⟨w.heap.size + 2, 0, none⟩) l.length (l.length + 1)] (0, 0) _ rfl f3.out Tryz.underlying106 rfl (by kernel_rfl)) rfl ⟨w.heap.size + 2, rfl, by omega, f4.out.1, f4.out.2⟩

/-- Copies of results' rows, each in a block of its own beyond base. -/
structure TwRes (w : World) (base : Nat) (ms : List ResP) : Prop where
  rows : ∀ p ∈ ms, ∃ g, base < g ∧ p.1 = .slice (some ⟨g, 0, none⟩) p.2.length (p.2.length + 1) ∧ w.ownsRow 0 109 2 (.slice (some ⟨g, 0, none⟩) (p.2.length + 1) (p.2.length + 1)) (p.2.length + 1) (p.2.flatMap rowCells ++ spareRow)
  pair : ms.Pairwise (fun p q => ∀ g, p.1.ownBlock = some g → q.1.ownBlock ≠ some g)
theorem TwRes.wrote {d : Nat → Prop} {w w' : World} {base : Nat} {ms : List ResP} (h : TwRes w base ms) (hw : Wrote d w w') (hd : ∀ b, base < b → ¬ d b) : TwRes w' base ms :=
  ⟨fun p hp => by
    obtain ⟨g, h1, h2, h3⟩ := h.rows p hp
    exact ⟨g, h1, h2, own_wrote h3 hw (fun b hb => by
      have e : g = b := by simpa [Value.ownBlock] using hb
      rw [← e]; exact hd g h1)⟩, h.pair⟩
theorem TwRes.below {w w' : World} {base : Nat} {ms : List ResP} (h : TwRes w base ms) (hb : Below w.heap.size w w') : TwRes w' base ms := h.wrote (d := fun _ => False) (.of_below hb) (fun _ _ h => h)
theorem TwRes_nil (w : World) (base : Nat) : TwRes w base [] := ⟨(fun p hp => by cases hp), List.Pairwise.nil⟩
theorem TwRes.lt {w : World} {base : Nat} {ms : List ResP} (h : TwRes w base ms) : ∀ p ∈ ms, ∀ b, p.1.ownBlock = some b → base < b ∧ b < w.heap.size := fun p hp b hb => by
  obtain ⟨g, h1, h2, h3⟩ := h.rows p hp
  rw [h2] at hb
  have e : g = b := by simpa [Value.ownBlock] using hb
  rw [← e]
  exact ⟨h1, (h3.lt g rfl).2⟩
theorem TwRes.next {w w' : World} {base g : Nat} {ms : List ResP} {p : ResP} (h : TwRes w base ms) (hb : Below w.heap.size w w') (hg : w.heap.size ≤ g) (hbase : base < w.heap.size) (hp : p.1 = .slice (some ⟨g, 0, none⟩) p.2.length (p.2.length + 1))
    (ho : w'.ownsRow 0 109 2 (.slice (some ⟨g, 0, none⟩) (p.2.length + 1) (p.2.length + 1)) (p.2.length + 1) (p.2.flatMap rowCells ++ spareRow)) : TwRes w' base (ms ++ [p]) := by
  have h' := h.below hb
  refine ⟨fun q hq => ?_, ?_⟩
  · rcases List.mem_append.mp hq with hq | hq
    · exact h'.rows q hq
    · rw [List.mem_singleton.mp hq]; exact ⟨g, by omega, hp, ho⟩
  · rw [List.pairwise_append]
    refine ⟨h.pair, List.pairwise_singleton _ _, fun a ha b hb' c hc1 hc2 => ?_⟩
    rw [List.mem_singleton.mp hb', hp] at hc2
    have e : g = c := by simpa [Value.ownBlock] using hc2
    have := (h.lt a ha c hc1).2
    omega
theorem info_twResult : (Tryz.prog.info? 106).map (fun i => (i.zero, i.size, i.bytes)) = some (some (.agg #[.slice none 0 0]), 1, 24) := by kernel_rfl
theorem flat_res (ms : List ResP) (p : ResP) : (ms ++ [p]).flatMap resCells = ms.flatMap resCells ++ [p.1] := by simp [resCells]

set_option maxHeartbeats 2000000 in
set_option maxRecDepth 1000000 in
theorem twinResults_any (w : World) (vl : Value) (l : List ResP) (hl : ResAt w w.heap.size vl l) (hn : l.length ≤ 1000000) (hr : ∀ p ∈ l, p.2.length ≤ 1000000) :
    Calls Tryz.prog 23 #[vl] w fun e w' => e = .returned (.slice (some ⟨w.heap.size, 0, none⟩) l.length (l.length + 1)) ∧ ∃ ms sb, ms.map (·.2) = l.map (·.2) ∧ TwRes w' w.heap.size ms ∧ w'.ownsRow w.heap.size 106 1 (.slice (some ⟨w.heap.size, 0, none⟩) (l.length + 1) (l.length + 1)) (l.length + 1) (ms.flatMap resCells ++ [.slice (some ⟨sb, 0, none⟩) 1 1]) ∧ w.heap.size < sb ∧ w'.heap[sb]? = some (.cells #[.string ⟨#[115, 112, 97, 114, 101]⟩, .int .u32 0] 109 (0, 0)) ∧ Below w.heap.size w w' := by
  obtain ⟨i0, hi, hz0, hz1, hz2⟩ := info_parts info_twResult
  obtain ⟨⟨ao, cap, rfl, h1, h2, h3⟩, hrows⟩ := hl
  unfold maxLen at h2
  have hby : i0.bytes * (l.length + 1) ≤ 281474976710656 := by rw [hz2]; omega
  have hnm : l.length + 1 ≤ maxLen := by unfold maxLen; omega
  go_enter Tryz.func23, Tryz.ntmps23
  go_wp2_with (at_make; refine wpList_make_own _ rfl _ _ 57 rfl w.heap.size 106 i0 (.agg #[.slice none 0 0]) 1 Tryz.underlying57 hi hz0 hz1 .i64 .i64 _ (l.length + 1) rfl rfl (by omega) hby hnm (Nat.le_refl _) ?_; intro w1 hown hgr; have b1 : Below w.heap.size w w1 := (Below.refl _ _).grown hgr (Nat.le_refl _) (fun k e => by cases e))
  go_loopw [3, 4] (fun vt i wr => ∃ (k : Nat) (ms : List ResP), k ≤ l.length ∧ i = .int .i64 k ∧ vt = .slice (some ⟨w.heap.size, 0, none⟩) k (l.length + 1) ∧ ms.map (·.2) = (l.take k).map (·.2) ∧ TwRes wr w.heap.size ms ∧ wr.ownsRow w.heap.size 106 1 (.slice (some ⟨w.heap.size, 0, none⟩) k (l.length + 1)) k (ms.flatMap resCells) ∧ Below w.heap.size w wr) (fun _ i _ => l.length - (intOf i).toNat)
  case atStart => exact ⟨0, [], by omega, rfl, rfl, rfl, TwRes_nil _ _, by simpa using hown, b1⟩
  case round =>
    clear hown b1 hgr
    obtain ⟨k, ms, hk, rfl, rfl, hms, hT, hown, hb⟩ := hrel
    have hzw : w.heap.size < wr.heap.size := (hown.lt _ rfl).2
    by_cases hkl : k < l.length
    · obtain ⟨b, off, rfl, hbl, hcell⟩ := h3 (by omega)
      obtain ⟨x, hx⟩ : ∃ x, x = l[k]'hkl := ⟨_, rfl⟩
      have hxm : x ∈ l := by rw [hx]; exact List.getElem_mem _
      have c0 : wr.cell? ⟨b, off + k, none⟩ = some x.1 := by
        have := (hb.cell (p := ⟨b, off + k * 1 + 0, none⟩) hbl).trans (hcell k hkl 0 x.1 (by rw [← hx]; rfl))
        simpa using this
      have hxr := hrows x hxm
      have hxn := hr x hxm
      have hmk : Hid ((l.take (k + 1)).map (·.2) = (l.take k).map (·.2) ++ [x.2]) := by
        show _ = _
        rw [List.take_succ_eq_append_getElem hkl, List.map_append, ← hx]; rfl
      obtain ⟨xv, xr⟩ := x
      obtain ⟨ax, cx, hvx, -, -, -⟩ := id hxr.1
      simp only at hvx c0 hxn
      subst hvx
      have kt := twinResult_any wr ax cx xr ((hxr.1.below hb (Nat.le_refl _)).mono hb.size) hxn
      have i1 : (k : Int) < (l.length : Int) := by omega
      clear hxr hx hcell
      have fin : Hid (∀ g w' w2, wr.heap.size ≤ g → w'.ownsRow g 109 2 (.slice (some ⟨g, 0, none⟩) (xr.length + 1) (xr.length + 1)) (xr.length + 1) (xr.flatMap rowCells ++ spareRow) → Below wr.heap.size wr w' → w2.ownsRow w.heap.size 106 1 (.slice (some ⟨w.heap.size, 0, none⟩) (k + 1) (l.length + 1)) (k + 1) (ms.flatMap resCells ++ [.slice (some ⟨g, 0, none⟩) xr.length (xr.length + 1)]) → (w'.alloc (.cells #[.slice (some ⟨g, 0, none⟩) xr.length (xr.length + 1)] 106)).grownBy w2 (some w.heap.size) →
          ∃ ms : List ResP, ms.map (·.2) = (l.take (k + 1)).map (·.2) ∧ TwRes w2 w.heap.size ms ∧ w2.ownsRow w.heap.size 106 1 (.slice (some ⟨w.heap.size, 0, none⟩) (k + 1) (l.length + 1)) (k + 1) (ms.flatMap resCells) ∧ Below w.heap.size w w2) := fun g w' w2 hg ho hbw ho2 hgr => by
        have b3 := hbw.alloc hbw.size (.cells #[.slice (some ⟨g, 0, none⟩) xr.length (xr.length + 1)] 106)
        have b3' : Below w'.heap.size w' (w'.alloc (.cells #[.slice (some ⟨g, 0, none⟩) xr.length (xr.length + 1)] 106)) := below_one _ _
        have zz := hbw.size
        have T2 := hT.next (p := (.slice (some ⟨g, 0, none⟩) xr.length (xr.length + 1), xr)) hbw hg hzw rfl (own_mono ho (Nat.zero_le _))
        refine ⟨ms ++ [(.slice (some ⟨g, 0, none⟩) xr.length (xr.length + 1), xr)], by rw [hmk.out, List.map_append, hms]; rfl, (T2.below b3').wrote (d := fun b => b = w.heap.size) (.grown hgr (fun k e _ => by cases e; rfl)) (fun b hb e => by omega), by rw [flat_res]; exact ho2, ?_⟩
        exact (hb.trans (b3.mono (by omega))).grown hgr (by simp; omega) (fun j e => by cases e; exact Nat.le_refl _)
      have hown2 : Hid (∀ g w', Below wr.heap.size wr w' → (w'.alloc (.cells #[.slice (some ⟨g, 0, none⟩) xr.length (xr.length + 1)] 106)).ownsRow w.heap.size 106 1 (.slice (some ⟨w.heap.size, 0, none⟩) k (l.length + 1)) k (ms.flatMap resCells)) := fun g w' hbw => (own_below hown hbw).alloc _
      clear hT hown hb hms
      go_wp2_with fail
      refine kt.mono ?_
      rintro e w' ⟨g, rfl, hg, ho, hbw⟩
      have ho2 := hown2.out g w' hbw
      have F0 : Hid _ := fun w2 => fin.out g w' w2 hg ho hbw
      have hnew : ∀ j u, ([Value.slice (some ⟨g, 0, none⟩) xr.length (xr.length + 1)])[j]? = some u → (w'.alloc (.cells #[.slice (some ⟨g, 0, none⟩) xr.length (xr.length + 1)] 106)).cell? ((⟨w'.heap.size, 0, none⟩ : Addr).add j) = some u := news_ofv [Value.slice (some ⟨g, 0, none⟩) xr.length (xr.length + 1)] _
      have h1c : ∀ z ∈ [Value.slice (some ⟨g, 0, none⟩) xr.length (xr.length + 1)], z.oneCell' = true := fun z hz => by rw [List.mem_singleton.mp hz]; rfl
      clear kt fin hown2 ho hbw
      go_wp2_with (at_builtin; refine wpList_append_fits _ rfl (.tmp 15) (.tmp 21) 57 rfl w.heap.size 106 i0 1 Tryz.underlying57 hi hz1 w.heap.size k (l.length + 1) _ rfl ho2 ⟨w'.heap.size, 0, none⟩ 1 1 [Value.slice (some ⟨g, 0, none⟩) xr.length (xr.length + 1)] rfl rfl hnew h1c (by omega) ?_; intro w2 ho hg; have F := F0.out w2 ho hg)
      obtain ⟨ms', F1, F2, F3, F4⟩ := F
      clear F0
      go_roundw
      case rel => exact ⟨k + 1, ms', by omega, by go_num, rfl, F1, F2, F3, F4⟩
      case measure => simp [intOf]; omega
    · obtain rfl : k = l.length := by omega
      rw [List.take_of_length_le (Nat.le_refl _)] at hms
      clear h3 hrows hr
      have bA : Below wr.heap.size wr ((wr.alloc (.cells #[.string ⟨#[115, 112, 97, 114, 101]⟩, .int .u32 0] 109)).alloc (.cells #[.slice (some ⟨wr.heap.size, 0, none⟩) 1 1] 106)) := below_two' _ _
      have hB0 : ((wr.alloc (.cells #[.string ⟨#[115, 112, 97, 114, 101]⟩, .int .u32 0] 109)).alloc (.cells #[.slice (some ⟨wr.heap.size, 0, none⟩) 1 1] 106)).heap[wr.heap.size]? = some (.cells #[.string ⟨#[115, 112, 97, 114, 101]⟩, .int .u32 0] 109 (0, 0)) := alloc_block (heap_alloc_new wr _) _
      have ho2 : ((wr.alloc (.cells #[.string ⟨#[115, 112, 97, 114, 101]⟩, .int .u32 0] 109)).alloc (.cells #[.slice (some ⟨wr.heap.size, 0, none⟩) 1 1] 106)).ownsRow w.heap.size 106 1 (.slice (some ⟨w.heap.size, 0, none⟩) l.length (l.length + 1)) l.length (ms.flatMap resCells) := (hown.alloc _).alloc _
      have hnew : ∀ j u, ([Value.slice (some ⟨wr.heap.size, 0, none⟩) 1 1])[j]? = some u → ((wr.alloc (.cells #[.string ⟨#[115, 112, 97, 114, 101]⟩, .int .u32 0] 109)).alloc (.cells #[.slice (some ⟨wr.heap.size, 0, none⟩) 1 1] 106)).cell? ((⟨wr.heap.size + 1, 0, none⟩ : Addr).add j) = some u := by
        have this : ∀ j u, ([Value.slice (some ⟨wr.heap.size, 0, none⟩) 1 1])[j]? = some u → ((wr.alloc (.cells #[.string ⟨#[115, 112, 97, 114, 101]⟩, .int .u32 0] 109)).alloc (.cells #[.slice (some ⟨wr.heap.size, 0, none⟩) 1 1] 106)).cell? ((⟨(wr.alloc (.cells #[.string ⟨#[115, 112, 97, 114, 101]⟩, .int .u32 0] 109)).heap.size, 0, none⟩ : Addr).add j) = some u := news_ofv [Value.slice (some ⟨wr.heap.size, 0, none⟩) 1 1] _
        rw [show (wr.alloc (.cells #[.string ⟨#[115, 112, 97, 114, 101]⟩, .int .u32 0] 109)).heap.size = wr.heap.size + 1 by simp] at this
        exact this
      have h1c : ∀ z ∈ [Value.slice (some ⟨wr.heap.size, 0, none⟩) 1 1], z.oneCell' = true := fun z hz => by rw [List.mem_singleton.mp hz]; rfl
      have fin : Hid (∀ w2, w2.ownsRow w.heap.size 106 1 (.slice (some ⟨w.heap.size, 0, none⟩) (l.length + 1) (l.length + 1)) (l.length + 1) (ms.flatMap resCells ++ [.slice (some ⟨wr.heap.size, 0, none⟩) 1 1]) → ((wr.alloc (.cells #[.string ⟨#[115, 112, 97, 114, 101]⟩, .int .u32 0] 109)).alloc (.cells #[.slice (some ⟨wr.heap.size, 0, none⟩) 1 1] 106)).grownBy w2 (some w.heap.size) →
          ∃ ms sb, ms.map (·.2) = l.map (·.2) ∧ TwRes w2 w.heap.size ms ∧ w2.ownsRow w.heap.size 106 1 (.slice (some ⟨w.heap.size, 0, none⟩) (l.length + 1) (l.length + 1)) (l.length + 1) (ms.flatMap resCells ++ [.slice (some ⟨sb, 0, none⟩) 1 1]) ∧ w.heap.size < sb ∧ w2.heap[sb]? = some (.cells #[.string ⟨#[115, 112, 97, 114, 101]⟩, .int .u32 0] 109 (0, 0)) ∧ Below w.heap.size w w2) := fun w2 ho hg => by
        refine ⟨ms, wr.heap.size, hms, (hT.below bA).wrote (d := fun b => b = w.heap.size) (.grown hg (fun k e _ => by cases e; rfl)) (fun b hb e => by omega), ho, hzw, ?_, (hb.trans (bA.mono hb.size)).grown hg (by simp; omega) (fun j e => by cases e; exact Nat.le_refl _)⟩
        rw [hg.block wr.heap.size (lt_of_some hB0) (fun e => by have := Option.some.inj e; omega)]
        exact hB0
      clear bA hB0 hT hown hb hms
      go_wp2_with (at_builtin; refine wpList_append_fits _ rfl (.tmp 23) (.tmp 27) 57 rfl w.heap.size 106 i0 1 Tryz.underlying57 hi hz1 w.heap.size l.length (l.length + 1) _ rfl ho2 ⟨wr.heap.size + 1, 0, none⟩ 1 1 [Value.slice (some ⟨wr.heap.size, 0, none⟩) 1 1] rfl rfl hnew h1c (by omega) ?_; intro w2 ho hg; have F : Hid _ := fin.out w2 ho hg)
      go_ret
      first | exact ⟨rfl, F.out⟩ | (obtain ⟨ms', sb, q1, q2, q3⟩ := F.out; exact ⟨rfl, ms', q1, q2, sb, q3⟩)
end Go.Proofs.YtndjgilheleplaaGreatDoor
