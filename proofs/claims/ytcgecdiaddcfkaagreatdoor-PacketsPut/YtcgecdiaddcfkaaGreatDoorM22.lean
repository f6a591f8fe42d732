/- Texts of this proof, laid into one. -/
import Derived.Test.YtcgecdiaddcfkaaGreatDoorM21
import Derived.Test.YtcgecdiaddcfkaaGreatDoorRSameRM
import Derived.Test.YtcgecdiaddcfkaaGreatDoorRGet3M
import Derived.Test.YtcgecdiaddcfkaaGreatDoorRKatM
import Derived.Test.YtcgecdiaddcfkaaGreatDoorRBkResM
import Derived.Test.YtcgecdiaddcfkaaGreatDoorM11
/- The walks of a copy of results in memory of its own, with a mark behind it. -/
set_option linter.unusedSimpArgs false
set_option linter.unusedVariables false
namespace Go.Proofs.YtcgecdiaddcfkaaGreatDoor
open Go.RowKit

set_option maxHeartbeats 1000000 in
set_option maxRecDepth 1000000 in
theorem twinResult_any (w : World) (ao : Option Addr) (cap : Nat) (l : List RowD) (hl : SlAt 2 rowCells w w.heap.size (.slice ao l.length cap) l) (hn : l.length ≤ 1000000) :
    Calls Tryz.prog 88 #[.agg #[.slice ao l.length cap]] w fun e w' => ∃ g, e = .returned (.agg #[.slice (some ⟨g, 0, none⟩) l.length (l.length + 1)]) ∧ w.heap.size ≤ g ∧ w'.ownsRow g 92 2 (.slice (some ⟨g, 0, none⟩) (l.length + 1) (l.length + 1)) (l.length + 1) (l.flatMap rowCells ++ spareRow) ∧ Below w.heap.size w w' := by
  obtain ⟨W2, hW2⟩ : ∃ W2, W2 = (w.alloc (.cells #[.slice ao l.length cap] 89)).alloc (.cells #[.slice none 0 0] 89) := ⟨_, rfl⟩
  have z2 : W2.heap.size = w.heap.size + 2 := by rw [hW2]; simp
  have b2 : Below w.heap.size w W2 := by rw [hW2]; exact below_two' _ _
  have hB : W2.heap[w.heap.size + 1]? = some (.cells #[.slice none 0 0] 89 (0, 0)) := by
    rw [hW2]
    have := heap_alloc_new (w.alloc (.cells #[.slice ao l.length cap] 89)) (.cells #[.slice none 0 0] 89)
    rw [show (w.alloc (.cells #[.slice ao l.length cap] 89)).heap.size = w.heap.size + 1 by simp] at this
    exact this
  have kt := twinRow_any W2 _ l ((hl.below b2 (Nat.le_refl _)).mono b2.size) hn
  rw [z2] at kt
  have fin : ∀ w', Below (w.heap.size + 2) W2 w' → w'.ownsRow (w.heap.size + 2) 92 2 (.slice (some ⟨w.heap.size + 2, 0, none⟩) (l.length + 1) (l.length + 1)) (l.length + 1) (l.flatMap rowCells ++ spareRow) →
      w'.cell? ⟨w.heap.size + 1, 0, none⟩ = some (.slice none 0 0) ∧ w'.frozen? ⟨w.heap.size + 1, 0, none⟩ = false ∧ Hid ((w'.setCell ⟨w.heap.size + 1, 0, none⟩ (.slice (some ⟨w.heap.size + 2, 0, none⟩) l.length (l.length + 1))).heap[w.heap.size + 1]? = some (.cells #[.slice (some ⟨w.heap.size + 2, 0, none⟩) l.length (l.length + 1)] 89 (0, 0))) ∧
      Hid ((w'.setCell ⟨w.heap.size + 1, 0, none⟩ (.slice (some ⟨w.heap.size + 2, 0, none⟩) l.length (l.length + 1))).ownsRow (w.heap.size + 2) 92 2 (.slice (some ⟨w.heap.size + 2, 0, none⟩) (l.length + 1) (l.length + 1)) (l.length + 1) (l.flatMap rowCells ++ spareRow) ∧ Below w.heap.size w (w'.setCell ⟨w.heap.size + 1, 0, none⟩ (.slice (some ⟨w.heap.size + 2, 0, none⟩) l.length (l.length + 1)))) := fun w' hb ho => by
    have hB1 : w'.heap[w.heap.size + 1]? = some (.cells #[.slice none 0 0] 89 (0, 0)) := (hb.block _ (by omega)).trans hB
    exact ⟨box_cell hB1, box_frozen hB1, box_set _ hB1, ownsRow_setCell_below ho (by show w.heap.size + 1 < _; omega) _, (b2.trans (hb.mono (by omega))).setCell (p := ⟨w.heap.size + 1, 0, none⟩) (by show w.heap.size ≤ w.heap.size + 1; omega) _⟩
  clear hl hB b2 z2
  subst hW2
  go_enter Tryz.func88, Tryz.ntmps88
  go_wp2_with fail
  refine kt.mono ?_
  rintro e w' ⟨rfl, ho, hb⟩
  obtain ⟨f1, f2, f3, f4⟩ := fin w' hb ho
  clear fin kt ho hb
  go_wp2
  exact bodyPost_ret (results_cell_row rfl _ _ (w.heap.size + 1) 89 #[.slice (some ⟨w.heap.size + 2, 0, none⟩) l.length (l.length + 1)] (0, 0) _ rfl f3.out Tryz.underlying89 rfl (by kernel_rfl)) rfl ⟨w.heap.size + 2, rfl, by omega, f4.out.1, f4.out.2⟩

/-- Copies of results' rows, each in a block of its own beyond base. -/
structure TwRes (w : World) (base : Nat) (ms : List ResP) : Prop where
  rows : ∀ p ∈ ms, ∃ g, base < g ∧ p.1 = .slice (some ⟨g, 0, none⟩) p.2.length (p.2.length + 1) ∧ w.ownsRow 0 92 2 (.slice (some ⟨g, 0, none⟩) (p.2.length + 1) (p.2.length + 1)) (p.2.length + 1) (p.2.flatMap rowCells ++ spareRow)
  pair : ms.Pairwise (fun p q => ∀ g, p.1.ownBlock = some g → q.1.ownBlock ≠ some g)
theorem TwRes.wrote {d : Nat → Prop} {w w' : World} {base : Nat} {ms : List ResP} (h : TwRes w base ms) (hw : Wrote d w w') (hd : ∀ b, base < b → ¬ d b) : TwRes w' base ms :=
  ⟨fun p hp => by
    obtain ⟨g, h1, h2, h3⟩ := h.rows p hp
    exact ⟨g, h1, h2, own_wrote h3 hw (fun b hb => by
      have e : g = b := by simpa [Value.ownBlock] using hb
      rw [← e]; exact hd g h1)⟩, h.pair⟩
theorem TwRes.below {w w' : World} {base : Nat} {ms : List ResP} (h : TwRes w base ms) (hb : Below w.heap.size w w') : TwRes w' base ms := h.wrote (d := fun _ => False) (.of_below hb) (fun _ _ h => h)
theorem TwRes_nil (w : World) (base : Nat) : TwRes w base [] := ⟨(fun p hp => by cases hp), List.Pairwise.nil⟩
theorem TwRes.lt {w : World} {base : Nat} {ms : List ResP} (h : TwRes w base ms) : ∀ p ∈ ms, ∀ b, p.1.ownBlock = some b → base < b ∧ b < w.heap.size := fun p hp b hb => by
  obtain ⟨g, h1, h2, h3⟩ := h.rows p hp
  rw [h2] at hb
  have e : g = b := by simpa [Value.ownBlock] using hb
  rw [← e]
  exact ⟨h1, (h3.lt g rfl).2⟩
theorem TwRes.next {w w' : World} {base g : Nat} {ms : List ResP} {p : ResP} (h : TwRes w base ms) (hb : Below w.heap.size w w') (hg : w.heap.size ≤ g) (hbase : base < w.heap.size) (hp : p.1 = .slice (some ⟨g, 0, none⟩) p.2.length (p.2.length + 1))
    (ho : w'.ownsRow 0 92 2 (.slice (some ⟨g, 0, none⟩) (p.2.length + 1) (p.2.length + 1)) (p.2.length + 1) (p.2.flatMap rowCells ++ spareRow)) : TwRes w' base (ms ++ [p]) := by
  have h' := h.below hb
  refine ⟨fun q hq => ?_, ?_⟩
  · rcases List.mem_append.mp hq with hq | hq
    · exact h'.rows q hq
    · rw [List.mem_singleton.mp hq]; exact ⟨g, by omega, hp, ho⟩
  · rw [List.pairwise_append]
    refine ⟨h.pair, List.pairwise_singleton _ _, fun a ha b hb' c hc1 hc2 => ?_⟩
    rw [List.mem_singleton.mp hb', hp] at hc2
    have e : g = c := by simpa [Value.ownBlock] using hc2
    have := (h.lt a ha c hc1).2
    omega
theorem info_twResult : (Tryz.prog.info? 89).map (fun i => (i.zero, i.size, i.bytes)) = some (some (.agg #[.slice none 0 0]), 1, 24) := by kernel_rfl
theorem flat_res (ms : List ResP) (p : ResP) : (ms ++ [p]).flatMap resCells = ms.flatMap resCells ++ [p.1] := by simp [resCells]

set_option maxHeartbeats 2000000 in
set_option maxRecDepth 1000000 in
theorem twinResults_any (w : World) (vl : Value) (l : List ResP) (hl : ResAt w w.heap.size vl l) (hn : l.length ≤ 1000000) (hr : ∀ p ∈ l, p.2.length ≤ 1000000) :
    Calls Tryz.prog 24 #[vl] w fun e w' => e = .returned (.slice (some ⟨w.heap.size, 0, none⟩) l.length (l.length + 1)) ∧ ∃ ms sb, ms.map (·.2) = l.map (·.2) ∧ TwRes w' w.heap.size ms ∧ w'.ownsRow w.heap.size 89 1 (.slice (some ⟨w.heap.size, 0, none⟩) (l.length + 1) (l.length + 1)) (l.length + 1) (ms.flatMap resCells ++ [.slice (some ⟨sb, 0, none⟩) 1 1]) ∧ w.heap.size < sb ∧ w'.heap[sb]? = some (.cells #[.string ⟨#[115, 112, 97, 114, 101]⟩, .int .u32 0] 92 (0, 0)) ∧ Below w.heap.size w w' := by
  obtain ⟨i0, hi, hz0, hz1, hz2⟩ := info_parts info_twResult
  obtain ⟨⟨ao, cap, rfl, h1, h2, h3⟩, hrows⟩ := hl
  unfold maxLen at h2
  have hby : i0.bytes * (l.length + 1) ≤ 281474976710656 := by rw [hz2]; omega
  have hnm : l.length + 1 ≤ maxLen := by unfold maxLen; omega
  go_enter Tryz.func24, Tryz.ntmps24
  go_wp2_with (at_make; refine wpList_make_own _ rfl _ _ 25 rfl w.heap.size 89 i0 (.agg #[.slice none 0 0]) 1 Tryz.underlying25 hi hz0 hz1 .i64 .i64 _ (l.length + 1) rfl rfl (by omega) hby hnm (Nat.le_refl _) ?_; intro w1 hown hgr; have b1 : Below w.heap.size w w1 := (Below.refl _ _).grown hgr (Nat.le_refl _) (fun k e => by cases e))
  go_loopw [3, 4] (fun vt i wr => ∃ (k : Nat) (ms : List ResP), k ≤ l.length ∧ i = .int .i64 k ∧ vt = .slice (some ⟨w.heap.size, 0, none⟩) k (l.length + 1) ∧ ms.map (·.2) = (l.take k).map (·.2) ∧ TwRes wr w.heap.size ms ∧ wr.ownsRow w.heap.size 89 1 (.slice (some ⟨w.heap.size, 0, none⟩) k (l.length + 1)) k (ms.flatMap resCells) ∧ Below w.heap.size w wr) (fun _ i _ => l.length - (intOf i).toNat)
  case atStart => exact ⟨0, [], by omega, rfl, rfl, rfl, TwRes_nil _ _, by simpa using hown, b1⟩
  case round =>
    clear hown b1 hgr
    obtain ⟨k, ms, hk, rfl, rfl, hms, hT, hown, hb⟩ := hrel
    have hzw : w.heap.size < wr.heap.size := (hown.lt _ rfl).2
    by_cases hkl : k < l.length
    · obtain ⟨b, off, rfl, hbl, hcell⟩ := h3 (by omega)
      obtain ⟨x, hx⟩ : ∃ x, x = l[k]'hkl := ⟨_, rfl⟩
      have hxm : x ∈ l := by rw [hx]; exact List.getElem_mem _
      have c0 : wr.cell? ⟨b, off + k, none⟩ = some x.1 := by
        have := (hb.cell (p := ⟨b, off + k * 1 + 0, none⟩) hbl).trans (hcell k hkl 0 x.1 (by rw [← hx]; rfl))
        simpa using this
      have hxr := hrows x hxm
      have hxn := hr x hxm
      have hmk : Hid ((l.take (k + 1)).map (·.2) = (l.take k).map (·.2) ++ [x.2]) := by
        show _ = _
        rw [List.take_succ_eq_append_getElem hkl, List.map_append, ← hx]; rfl
      obtain ⟨xv, xr⟩ := x
      obtain ⟨ax, cx, hvx, -, -, -⟩ := id hxr.1
      simp only at hvx c0 hxn
      subst hvx
      have kt := twinResult_any wr ax cx xr ((hxr.1.below hb (Nat.le_refl _)).mono hb.size) hxn
      have i1 : (k : Int) < (l.length : Int) := by omega
      clear hxr hx hcell
      have fin : Hid (∀ g w' w2, wr.heap.size ≤ g → w'.ownsRow g 92 2 (.slice (some ⟨g, 0, none⟩) (xr.length + 1) (xr.length + 1)) (xr.length + 1) (xr.flatMap rowCells ++ spareRow) → Below wr.heap.size wr w' → w2.ownsRow w.heap.size 89 1 (.slice (some ⟨w.heap.size, 0, none⟩) (k + 1) (l.length + 1)) (k + 1) (ms.flatMap resCells ++ [.slice (some ⟨g, 0, none⟩) xr.length (xr.length + 1)]) → (w'.alloc (.cells #[.slice (some ⟨g, 0, none⟩) xr.length (xr.length + 1)] 89)).grownBy w2 (some w.heap.size) →
          ∃ ms : List ResP, ms.map (·.2) = (l.take (k + 1)).map (·.2) ∧ TwRes w2 w.heap.size ms ∧ w2.ownsRow w.heap.size 89 1 (.slice (some ⟨w.heap.size, 0, none⟩) (k + 1) (l.length + 1)) (k + 1) (ms.flatMap resCells) ∧ Below w.heap.size w w2) := fun g w' w2 hg ho hbw ho2 hgr => by
        have b3 := hbw.alloc hbw.size (.cells #[.slice (some ⟨g, 0, none⟩) xr.length (xr.length + 1)] 89)
        have b3' : Below w'.heap.size w' (w'.alloc (.cells #[.slice (some ⟨g, 0, none⟩) xr.length (xr.length + 1)] 89)) := below_one _ _
        have zz := hbw.size
        have T2 := hT.next (p := (.slice (some ⟨g, 0, none⟩) xr.length (xr.length + 1), xr)) hbw hg hzw rfl (own_mono ho (Nat.zero_le _))
        refine ⟨ms ++ [(.slice (some ⟨g, 0, none⟩) xr.length (xr.length + 1), xr)], by rw [hmk.out, List.map_append, hms]; rfl, (T2.below b3').wrote (d := fun b => b = w.heap.size) (.grown hgr (fun k e _ => by cases e; rfl)) (fun b hb e => by omega), by rw [flat_res]; exact ho2, ?_⟩
        exact (hb.trans (b3.mono (by omega))).grown hgr (by simp; omega) (fun j e => by cases e; exact Nat.le_refl _)
      have hown2 : Hid (∀ g w', Below wr.heap.size wr w' → (w'.alloc (.cells #[.slice (some ⟨g, 0, none⟩) xr.length (xr.length + 1)] 89)).ownsRow w.heap.size 89 1 (.slice (some ⟨w.heap.size, 0, none⟩) k (l.length + 1)) k (ms.flatMap resCells)) := fun g w' hbw => (own_below hown hbw).alloc _
      clear hT hown hb hms
      go_wp2_with fail
      refine kt.mono ?_
      rintro e w' ⟨g, rfl, hg, ho, hbw⟩
      have ho2 := hown2.out g w' hbw
      have F0 : Hid _ := fun w2 => fin.out g w' w2 hg ho hbw
      have hnew : ∀ j u, ([Value.slice (some ⟨g, 0, none⟩) xr.length (xr.length + 1)])[j]? = some u → (w'.alloc (.cells #[.slice (some ⟨g, 0, none⟩) xr.length (xr.length + 1)] 89)).cell? ((⟨w'.heap.size, 0, none⟩ : Addr).add j) = some u := news_ofv [Value.slice (some ⟨g, 0, none⟩) xr.length (xr.length + 1)] _
      have h1c : ∀ z ∈ [Value.slice (some ⟨g, 0, none⟩) xr.length (xr.length + 1)], z.oneCell' = true := fun z hz => by rw [List.mem_singleton.mp hz]; rfl
      clear kt fin hown2 ho hbw
      go_wp2_with (at_builtin; refine wpList_append_fits _ rfl (.tmp 15) (.tmp 21) 25 rfl w.heap.size 89 i0 1 Tryz.underlying25 hi hz1 w.heap.size k (l.length + 1) _ rfl ho2 ⟨w'.heap.size, 0, none⟩ 1 1 [Value.slice (some ⟨g, 0, none⟩) xr.length (xr.length + 1)] rfl rfl hnew h1c (by omega) ?_; intro w2 ho hg; have F := F0.out w2 ho hg)
      obtain ⟨ms', F1, F2, F3, F4⟩ := F
      clear F0
      go_roundw
      case rel => exact ⟨k + 1, ms', by omega, by go_num, rfl, F1, F2, F3, F4⟩
      case measure => simp [intOf]; omega
    · obtain rfl : k = l.length := by omega
      rw [List.take_of_length_le (Nat.le_refl _)] at hms
      clear h3 hrows hr
      have bA : Below wr.heap.size wr ((wr.alloc (.cells #[.string ⟨#[115, 112, 97, 114, 101]⟩, .int .u32 0] 92)).alloc (.cells #[.slice (some ⟨wr.heap.size, 0, none⟩) 1 1] 89)) := below_two' _ _
      have hB0 : ((wr.alloc (.cells #[.string ⟨#[115, 112, 97, 114, 101]⟩, .int .u32 0] 92)).alloc (.cells #[.slice (some ⟨wr.heap.size, 0, none⟩) 1 1] 89)).heap[wr.heap.size]? = some (.cells #[.string ⟨#[115, 112, 97, 114, 101]⟩, .int .u32 0] 92 (0, 0)) := alloc_block (heap_alloc_new wr _) _
      have ho2 : ((wr.alloc (.cells #[.string ⟨#[115, 112, 97, 114, 101]⟩, .int .u32 0] 92)).alloc (.cells #[.slice (some ⟨wr.heap.size, 0, none⟩) 1 1] 89)).ownsRow w.heap.size 89 1 (.slice (some ⟨w.heap.size, 0, none⟩) l.length (l.length + 1)) l.length (ms.flatMap resCells) := (hown.alloc _).alloc _
      have hnew : ∀ j u, ([Value.slice (some ⟨wr.heap.size, 0, none⟩) 1 1])[j]? = some u → ((wr.alloc (.cells #[.string ⟨#[115, 112, 97, 114, 101]⟩, .int .u32 0] 92)).alloc (.cells #[.slice (some ⟨wr.heap.size, 0, none⟩) 1 1] 89)).cell? ((⟨wr.heap.size + 1, 0, none⟩ : Addr).add j) = some u := by
        have this : ∀ j u, ([Value.slice (some ⟨wr.heap.size, 0, none⟩) 1 1])[j]? = some u → ((wr.alloc (.cells #[.string ⟨#[115, 112, 97, 114, 101]⟩, .int .u32 0] 92)).alloc (.cells #[.slice (some ⟨wr.heap.size, 0, none⟩) 1 1] 89)).cell? ((⟨(wr.alloc (.cells #[.string ⟨#[115, 112, 97, 114, 101]⟩, .int .u32 0] 92)).heap.size, 0, none⟩ : Addr).add j) = some u := news_ofv [Value.slice (some ⟨wr.heap.size, 0, none⟩) 1 1] _
        rw [show (wr.alloc (.cells #[.string ⟨#[115, 112, 97, 114, 101]⟩, .int .u32 0] 92)).heap.size = wr.heap.size + 1 by simp] at this
        exact this
      have h1c : ∀ z ∈ [Value.slice (some ⟨wr.heap.size, 0, none⟩) 1 1], z.oneCell' = true := fun z hz => by rw [List.mem_singleton.mp hz]; rfl
      have fin : Hid (∀ w2, w2.ownsRow w.heap.size 89 1 (.slice (some ⟨w.heap.size, 0, none⟩) (l.length + 1) (l.length + 1)) (l.length + 1) (ms.flatMap resCells ++ [.slice (some ⟨wr.heap.size, 0, none⟩) 1 1]) → ((wr.alloc (.cells #[.string ⟨#[115, 112, 97, 114, 101]⟩, .int .u32 0] 92)).alloc (.cells #[.slice (some ⟨wr.heap.size, 0, none⟩) 1 1] 89)).grownBy w2 (some w.heap.size) →
          ∃ ms sb, ms.map (·.2) = l.map (·.2) ∧ TwRes w2 w.heap.size ms ∧ w2.ownsRow w.heap.size 89 1 (.slice (some ⟨w.heap.size, 0, none⟩) (l.length + 1) (l.length + 1)) (l.length + 1) (ms.flatMap resCells ++ [.slice (some ⟨sb, 0, none⟩) 1 1]) ∧ w.heap.size < sb ∧ w2.heap[sb]? = some (.cells #[.string ⟨#[115, 112, 97, 114, 101]⟩, .int .u32 0] 92 (0, 0)) ∧ Below w.heap.size w w2) := fun w2 ho hg => by
        refine ⟨ms, wr.heap.size, hms, (hT.below bA).wrote (d := fun b => b = w.heap.size) (.grown hg (fun k e _ => by cases e; rfl)) (fun b hb e => by omega), ho, hzw, ?_, (hb.trans (bA.mono hb.size)).grown hg (by simp; omega) (fun j e => by cases e; exact Nat.le_refl _)⟩
        rw [hg.block wr.heap.size (lt_of_some hB0) (fun e => by have := Option.some.inj e; omega)]
        exact hB0
      clear bA hB0 hT hown hb hms
      go_wp2_with (at_builtin; refine wpList_append_fits _ rfl (.tmp 23) (.tmp 27) 25 rfl w.heap.size 89 i0 1 Tryz.underlying25 hi hz1 w.heap.size l.length (l.length + 1) _ rfl ho2 ⟨wr.heap.size + 1, 0, none⟩ 1 1 [Value.slice (some ⟨wr.heap.size, 0, none⟩) 1 1] rfl rfl hnew h1c (by omega) ?_; intro w2 ho hg; have F : Hid _ := fin.out w2 ho hg)
      go_ret
      first | exact ⟨rfl, F.out⟩ | (obtain ⟨ms', sb, q1, q2, q3⟩ := F.out; exact ⟨rfl, ms', q1, q2, sb, q3⟩)
end Go.Proofs.YtcgecdiaddcfkaaGreatDoor
/- The walk of a book's lists of this kind (Result): how they are looked at. -/
set_option linter.unusedSimpArgs false
set_option linter.unusedVariables false
namespace Go.Proofs.YtcgecdiaddcfkaaGreatDoor
open Go.RowKit Go.BigFrame

abbrev LkResult (w : World) (r b1 o1 b2 o2 n : Nat) (l lg u1 u2 : Value) (W : World) : Prop := W.cell? ⟨r, 0, none⟩ = some (l) ∧ W.cell? ⟨r, 1, none⟩ = some (lg) ∧ W.cell? ⟨r, 2, none⟩ = some (.int .i64 ((n : Nat) : Int)) ∧ W.cell? ⟨b1, o1, none⟩ = some u1 ∧ W.cell? ⟨b2, o2, none⟩ = some u2 ∧ Below w.heap.size w W
theorem LkResult.drewN {w : World} {r b1 o1 b2 o2 n : Nat} {l lg u1 u2 : Value} {W : World} (h : LkResult w r b1 o1 b2 o2 n l lg u1 u2 W) (m : Nat) : LkResult w r b1 o1 b2 o2 n l lg u1 u2 (W.drewN m) := by
  obtain ⟨h0, h1, h2, h3, h4, hb⟩ := h
  exact ⟨h0, h1, h2, h3, h4, below_drewN' hb m⟩
theorem LkResult.below {w : World} {r b1 o1 b2 o2 n : Nat} {l lg u1 u2 : Value} {W W' : World} (h : LkResult w r b1 o1 b2 o2 n l lg u1 u2 W) (hb : Below W.heap.size W W') : LkResult w r b1 o1 b2 o2 n l lg u1 u2 W' := by
  obtain ⟨h0, h1, h2, h3, h4, hB⟩ := h
  exact ⟨(hb.cell (World.block_lt_of_cell? W _ h0)).trans h0, (hb.cell (World.block_lt_of_cell? W _ h1)).trans h1, (hb.cell (World.block_lt_of_cell? W _ h2)).trans h2, (hb.cell (World.block_lt_of_cell? W _ h3)).trans h3, (hb.cell (World.block_lt_of_cell? W _ h4)).trans h4, hB.trans (hb.mono hB.size)⟩
theorem slp_cells {p : Nat → Prop} {w : World} {v : Value} {us : List Value} {q : Nat} (h : SlP p 1 oneC w v us) (hq : us.length = q) : ∃ ao cap, v = .slice ao q cap ∧ q ≤ cap ∧ cap ≤ maxLen ∧ ∀ k, k < q → ∃ b off u, ao = some ⟨b, off, none⟩ ∧ b < w.heap.size ∧ u ∈ us ∧ w.cell? ⟨b, off + k, none⟩ = some u := by
  obtain ⟨ao, cap, e1, h2, h3, h4⟩ := h
  subst hq
  refine ⟨ao, cap, e1, h2, h3, fun k hk => ?_⟩
  obtain ⟨b, off, e, -, hb, hc⟩ := h4 (by omega)
  refine ⟨b, off, us[k]'hk, e, hb, List.getElem_mem _, ?_⟩
  have := hc k hk 0 (us[k]'hk) rfl
  simpa using this

set_option maxHeartbeats 4000000 in
set_option maxRecDepth 1000000 in
theorem lookResult_any (w : World) (bk top : Nat) (v : Value) (E : List Ent) (hb : w.cell? ⟨bk, 9, none⟩ = some v) (hbk : bk < w.heap.size) (h : GAtR top w 147 v E) (htab : Tab w) :
    Calls Tryz.prog 75 #[ptr bk] w fun e w' => e = .returned (.bool true) ∧ Below w.heap.size w w' := by
  have hfew := h.few
  obtain ⟨ao, cap, rfl, hc1, hc2⟩ := own_len' h.held
  unfold maxLen at hc2
  go_enter Tryz.func75, Tryz.ntmps75
  go_wp2
  go_loopw [3] (fun i wr => ∃ k : Nat, k ≤ E.length ∧ i = .int .i64 k ∧ Below w.heap.size w wr) (fun i _ => E.length - (intOf i).toNat)
  case atStart => exact ⟨0, by omega, rfl, Below.refl _ _⟩
  case round =>
    obtain ⟨k, hk, rfl, hB⟩ := hrel
    have hb1 : wr.cell? ⟨bk, 9, none⟩ = some (.slice ao E.length cap) := (hB.cell (p := ⟨bk, 9, none⟩) hbk).trans hb
    by_cases h1 : k < E.length
    · obtain ⟨x, hx⟩ : ∃ x, E[k]? = some x := ⟨E[k]'h1, by simp [h1]⟩
      obtain ⟨hdone, hLn, hN⟩ := h.done x (List.mem_of_getElem? hx)
      obtain ⟨g, cap', e1, -, -, c0, c1, c2, -⟩ := held_cell h.held hx
      simp only [Value.slice.injEq, true_and] at e1
      obtain ⟨rfl, rfl⟩ := e1
      obtain ⟨us, vs, du, dv, dl, dm, dk⟩ := hdone
      obtain ⟨al, cl, el, hl1, hl2, hlc⟩ := slp_cells dl du
      obtain ⟨am, cm, em, hm1, hm2, hmc⟩ := slp_cells dm (show (us ++ vs).length = x.len + 40 by rw [List.length_append, du, dv])
      have dk1 : ∀ u ∈ us, MkR top w x.n u := fun u hu => dk u (List.mem_append_left _ hu)
      clear du dv dl dm
      rw [el] at c0
      rw [em] at c1
      unfold maxLen at hl2 hm2
      have hgs : g < w.heap.size := (h.held.lt g rfl).2
      rw [← hB.cell (p := ⟨g, k * 3, none⟩) hgs] at c0
      rw [← hB.cell (p := ⟨g, k * 3 + 1, none⟩) hgs] at c1
      rw [← hB.cell (p := ⟨g, k * 3 + 2, none⟩) hgs] at c2
      have i1 : (k : Int) < (E.length : Int) := by omega
      have hz := hB.size
      obtain ⟨wO, hO⟩ : ∃ x, x = wr := ⟨_, rfl⟩
      subst hO
      go_wp2
      go_loopw [5] (fun j wq => ∃ q : Nat, q ≤ x.len + 40 ∧ j = .int .i64 q ∧ Below w.heap.size w wq ∧ Below (wO.heap.size + 1) (wO.alloc (.cells #[.slice al x.len cl, .slice am (x.len + 40) cm, .int .i64 (x.n : Int)] 147)) wq) (fun j _ => x.len + 40 - (intOf j).toNat)
      case atStart => exact ⟨0, by omega, rfl, hB.trans (((Below.refl _ _).alloc (Nat.le_refl _) _).mono hz), Below.refl _ _⟩
      case round =>
        clear c0 c1 c2 hb1 hB
        obtain ⟨q, hq, rfl, hB, hBo⟩ := hrel
        have hzq : wO.heap.size < wr.heap.size := by have := hBo.size; simp at this; omega
        have hH : wr.heap[wO.heap.size]? = some (.cells #[.slice al x.len cl, .slice am (x.len + 40) cm, .int .i64 (x.n : Int)] 147 (0, 0)) := (hBo.block _ (by omega)).trans (heap_alloc_new wO _)
        obtain ⟨d0, d1, d2⟩ := triple_cell hH
        by_cases hq1 : q < x.len + 40
        · obtain ⟨b1, o1, z1, rfl, hb1, hz1, hcell1⟩ := hmc q hq1
          have hm1' : MkR top w x.n z1 := dk z1 hz1
          obtain ⟨m1, hm1a, hm1e, hm1b⟩ := id hm1'
          subst hm1e
          have e0 : wr.cell? ⟨b1, o1 + q, none⟩ = some (.slice (some ⟨m1, 0, none⟩) 1 1) := (hB.cell (p := ⟨b1, _, none⟩) hb1).trans hcell1
          have i2 : (q : Int) < (x.len : Int) + 40 := by omega
          have hbo2 := fun (W : World) (hW : Below wr.heap.size wr W) => hBo.trans (hW.mono (Nat.succ_le_of_lt hzq))
          by_cases hq2 : q < x.len
          · obtain ⟨b2, o2, z2, rfl, hb2, hz2, hcell2⟩ := hlc q hq2
            have hm2' : MkR top w x.n z2 := dk1 z2 hz2
            obtain ⟨m2, hm2a, hm2e, hm2b⟩ := id hm2'
            subst hm2e
            have g0 : wr.cell? ⟨b2, o2 + q, none⟩ = some (.slice (some ⟨m2, 0, none⟩) 1 1) := (hB.cell (p := ⟨b2, _, none⟩) hb2).trans hcell2
            have i3 : (q : Int) < (x.len : Int) := by omega
            clear hcell2
            have hS : LkResult w wO.heap.size b1 (o1 + q) b2 (o2 + q) x.n (.slice (some ⟨b2, o2, none⟩) x.len cl) (.slice (some ⟨b1, o1, none⟩) (x.len + 40) cm) (.slice (some ⟨m1, 0, none⟩) 1 1) (.slice (some ⟨m2, 0, none⟩) 1 1) wr ∧ Below wr.heap.size wr wr := ⟨⟨d0, d1, d2, e0, g0, hB⟩, Below.refl _ _⟩
            have kis : ∀ W m, MkR top w x.n (.slice (some ⟨m, 0, none⟩) 1 1) → (LkResult w wO.heap.size b1 (o1 + q) b2 (o2 + q) x.n (.slice (some ⟨b2, o2, none⟩) x.len cl) (.slice (some ⟨b1, o1, none⟩) (x.len + 40) cm) (.slice (some ⟨m1, 0, none⟩) 1 1) (.slice (some ⟨m2, 0, none⟩) 1 1) W ∧ Below wr.heap.size wr W) → Calls Tryz.prog 133 #[.agg #[.slice (some ⟨m, 0, none⟩) 1 1], .int .i64 (x.n : Int)] W fun e w' => e = .returned (.bool true) ∧ (LkResult w wO.heap.size b1 (o1 + q) b2 (o2 + q) x.n (.slice (some ⟨b2, o2, none⟩) x.len cl) (.slice (some ⟨b1, o1, none⟩) (x.len + 40) cm) (.slice (some ⟨m1, 0, none⟩) 1 1) (.slice (some ⟨m2, 0, none⟩) 1 1) w' ∧ Below wr.heap.size wr w') := by
              intro W m hm hW
              refine (isResult_any W top x.n _ (hm.below (hB.trans (hW.2.mono hB.size))) hN (tab_below htab (hB.trans (hW.2.mono hB.size)))).mono ?_
              rintro e w' ⟨rfl, h'⟩
              exact ⟨rfl, hW.1.below h', hW.2.trans (h'.mono hW.2.size)⟩
            clear hcell1 hlc hmc hH hm1b
            go_wp2_with fail
            refine wp_region_class (C := fun W => LkResult w wO.heap.size b1 (o1 + q) b2 (o2 + q) x.n (.slice (some ⟨b2, o2, none⟩) x.len cl) (.slice (some ⟨b1, o1, none⟩) (x.len + 40) cm) (.slice (some ⟨m1, 0, none⟩) 1 1) (.slice (some ⟨m2, 0, none⟩) 1 1) W ∧ Below wr.heap.size wr W) (by kernel_rfl) (by kernel_rfl) ⟨hS.1.drewN 1, below_drew wr⟩ ?_
            clear hS
            repeat (first | go_big_quiet_skip | (go_big_quiet_want; go_big_quiet_op; go_big_quiet_on) | (go_big_quiet_want; apply Exists.intro; refine ⟨fun W hW => ?_, ?_⟩; (· first | (obtain ⟨⟨D0, D1, D2, E0, G0, -⟩, -⟩ := hW; unfold Oper.quietAt; go_simp; done) | (obtain ⟨⟨D0, D1, D2, E0, G0, -⟩, -⟩ := hW; unfold Oper.quietAt; go_simp; exact rfl) | (unfold Oper.quietAt; go_simp; exact kis W _ (by first | exact hm1' | exact hm2') hW)); go_simp; go_big_quiet_on))
            refine wpQuiet_nil ?_
            intro W' hlast
            clear kis
            go_wp2
            go_roundw
            case rel => exact ⟨q + 1, by omega, by go_num, hB.trans (hlast.2.mono hB.size), hbo2 _ hlast.2⟩
            case measure => simp [intOf]; omega
          · have i3 : decide ((q : Int) < (x.len : Int)) = false := by simp; omega
            have hS : LkResult w wO.heap.size b1 (o1 + q) b1 (o1 + q) x.n (.slice al x.len cl) (.slice (some ⟨b1, o1, none⟩) (x.len + 40) cm) (.slice (some ⟨m1, 0, none⟩) 1 1) (.slice (some ⟨m1, 0, none⟩) 1 1) wr ∧ Below wr.heap.size wr wr := ⟨⟨d0, d1, d2, e0, e0, hB⟩, Below.refl _ _⟩
            have kis : ∀ W m, MkR top w x.n (.slice (some ⟨m, 0, none⟩) 1 1) → (LkResult w wO.heap.size b1 (o1 + q) b1 (o1 + q) x.n (.slice al x.len cl) (.slice (some ⟨b1, o1, none⟩) (x.len + 40) cm) (.slice (some ⟨m1, 0, none⟩) 1 1) (.slice (some ⟨m1, 0, none⟩) 1 1) W ∧ Below wr.heap.size wr W) → Calls Tryz.prog 133 #[.agg #[.slice (some ⟨m, 0, none⟩) 1 1], .int .i64 (x.n : Int)] W fun e w' => e = .returned (.bool true) ∧ (LkResult w wO.heap.size b1 (o1 + q) b1 (o1 + q) x.n (.slice al x.len cl) (.slice (some ⟨b1, o1, none⟩) (x.len + 40) cm) (.slice (some ⟨m1, 0, none⟩) 1 1) (.slice (some ⟨m1, 0, none⟩) 1 1) w' ∧ Below wr.heap.size wr w') := by
              intro W m hm hW
              refine (isResult_any W top x.n _ (hm.below (hB.trans (hW.2.mono hB.size))) hN (tab_below htab (hB.trans (hW.2.mono hB.size)))).mono ?_
              rintro e w' ⟨rfl, h'⟩
              exact ⟨rfl, hW.1.below h', hW.2.trans (h'.mono hW.2.size)⟩
            clear hcell1 hlc hmc hH hm1b
            go_wp2_with fail
            refine wp_region_class (C := fun W => LkResult w wO.heap.size b1 (o1 + q) b1 (o1 + q) x.n (.slice al x.len cl) (.slice (some ⟨b1, o1, none⟩) (x.len + 40) cm) (.slice (some ⟨m1, 0, none⟩) 1 1) (.slice (some ⟨m1, 0, none⟩) 1 1) W ∧ Below wr.heap.size wr W) (by kernel_rfl) (by kernel_rfl) ⟨hS.1.drewN 1, below_drew wr⟩ ?_
            clear hS
            repeat (first | go_big_quiet_skip | (go_big_quiet_want; go_big_quiet_op; go_big_quiet_on) | (go_big_quiet_want; apply Exists.intro; refine ⟨fun W hW => ?_, ?_⟩; (· first | (obtain ⟨⟨D0, D1, D2, E0, G0, -⟩, -⟩ := hW; unfold Oper.quietAt; go_simp; done) | (obtain ⟨⟨D0, D1, D2, E0, G0, -⟩, -⟩ := hW; unfold Oper.quietAt; go_simp; exact rfl) | (unfold Oper.quietAt; go_simp; exact kis W _ (by first | exact hm1' | exact hm2') hW)); go_simp; go_big_quiet_on))
            refine wpQuiet_nil ?_
            intro W' hlast
            clear kis
            go_wp2
            go_roundw
            case rel => exact ⟨q + 1, by omega, by go_num, hB.trans (hlast.2.mono hB.size), hbo2 _ hlast.2⟩
            case measure => simp [intOf]; omega
        · obtain rfl : q = x.len + 40 := by omega
          have i2 : ¬ (((x.len + 40 : Nat) : Int) < (x.len : Int) + 40) := by omega
          clear hlc hmc
          go_wp2
          go_roundw
          case rel => exact ⟨k + 1, by omega, by go_num, hB⟩
          case measure => simp [intOf]; omega
    · obtain rfl : k = E.length := by omega
      go_wp2
      go_ret
      exact ⟨rfl, hB⟩
end Go.Proofs.YtcgecdiaddcfkaaGreatDoor
