/- The keys of a map with keys of the kind uint32: the iterator's word. -/
import Derived.Test.YtboinccdnaddmaaGreatDoorGOverW
import Derived.Test.YtboinccdnaddmaaGreatDoorGMapF
import Derived.Test.YtboinccdnaddmaaGreatDoorGRound
import Derived.Sort.MapsRangeIn
import Derived.Shelf.Abstract
set_option linter.unusedSimpArgs false
set_option linter.unusedVariables false
set_option maxRecDepth 1000000
namespace Go.Proofs.YtboinccdnaddmaaGreatDoor
open Go.RowKit Go.Maps
attribute [local go_sem] Oper.semAt_some wfn wdp rfn rdp

abbrev u32V (x : Nat) : Value := .int .u32 (x : Int)
def keyEnc (x : Nat) : Array Value := #[u32V x]
theorem keyOf_u32 {k : TypeId} (hk : Tryz.prog.underlying k = some (.int .u32)) {key : Value} {kl : Lit} (h : keyOf Tryz.prog k key = some kl) : ∃ x : Nat, key = u32V x ∧ kl = .int .u32 (x : Int) ∧ (Lit.int .u32 (x : Int)).wf = true := by
  obtain ⟨x, rfl, rfl, hw⟩ := Maps.keyOf_int_inv hk h
  have h0 : 0 ≤ x := by simp [Lit.wf, IntKind.min, IntKind.max, IntKind.signed, IntKind.bits] at hw; omega
  exact ⟨x.toNat, by show _ = Value.int _ _; congr 1; omega, by congr 1; omega, by rw [show ((x.toNat : Nat) : Int) = x by omega]; exact hw⟩

/-- What came so far of a map that reads as f. -/
structure Col {β : Type} (f : Nat → Option β) (left : Lit → Bool) (ss : List Nat) : Prop where
  nd : ss.Nodup
  mem : ∀ x, x ∈ ss ↔ (f x ≠ none ∧ left (.int .u32 (x : Int)) = false)
theorem Col.start {β : Type} {enc : β → DataW Unit} {D : DataW Unit} {f : Nat → Option β} (h : FnM .u32 enc D f) : Col f (Maps.has D) [] :=
  ⟨List.nodup_nil, fun x => by rw [h.has]; cases f x <;> simp⟩
theorem Col.step {β : Type} {f : Nat → Option β} {left : Lit → Bool} {ss : List Nat} (h : Col f left ss) {x : Nat} (hx : f x ≠ none) (hl : left (.int .u32 (x : Int)) = true) : Col f (fun z => left z && !z.sameKey (.int .u32 (x : Int))) (ss ++ [x]) := by
  have hnew : x ∉ ss := fun hm => by have := ((h.mem x).1 hm).2; rw [hl] at this; cases this
  refine ⟨List.nodup_append.2 ⟨h.nd, by simp, fun a ha b hb => by simp at hb; subst hb; exact fun e => hnew (e ▸ ha)⟩, fun y => ?_⟩
  by_cases hy : y = x
  · subst hy; simp [hx, Lit.sameKey]
  · have : ¬ ((y : Int) = (x : Int)) := by omega
    simp [h.mem y, hy, Lit.sameKey, this]
theorem Col.end {β : Type} {f : Nat → Option β} {left : Lit → Bool} {ss : List Nat} (h : Col f left ss) (hl : ∀ kl, left kl = false) : ss.Nodup ∧ ∀ x, x ∈ ss ↔ f x ≠ none :=
  ⟨h.nd, fun x => by rw [h.mem x, hl]; simp⟩

theorem keysOf_ok (w : World) (m : Option Nat) : Calls Tryz.prog 22 #[.map m] w fun e w' =>
    e = .returned (.func (.func 64) #[] #[ptr w.heap.size]) ∧ w.alloc (.cells #[.map m] 76) = w' := by
  go_enter Tryz.func22, Tryz.ntmps22
  go_wp2
  go_ret
  exact ⟨rfl, rfl⟩

/-- What the iterator of a map's keys finds: the map's box, and the map, if there is one. -/
structure KeysInv (bx : Nat) (m : Option Nat) (n : Nat) (f : Nat → Option Unit) (W : World) : Prop where
  box : W.heap[bx]? = some (.cells #[.map m] 76 (0, 0))
  map : (m = none ∧ f = noneD) ∨ ∃ b D, m = some b ∧ W.ownsMap Tryz.prog 43 unitElem b n D ∧ FnM .u32 (fun _ => DataW.agg []) D f

set_option maxHeartbeats 1000000 in
set_option maxRecDepth 1000000 in
theorem keys_seq (bx : Nat) (m : Option Nat) (n : Nat) (f : Nat → Option Unit) :
    SeqW Tryz.prog 64 #[ptr bx] keyEnc (fun (_ : List Nat) W => KeysInv bx m n f W) (fun pre _ => pre.length < n) (fun xs => xs.Nodup ∧ ∀ x, x ∈ xs ↔ f x ≠ none) := by
  intro l J hInv W0 h0 hY
  refine callsIn_of_wp Tryz.func64 rfl trivial ?_ rfl
  simp only [Tryz.ntmps64, List.size_toArray, List.length_cons, List.length_nil, Nat.reduceAdd, Nat.reduceSub, Array.replicate_succ, Array.replicate_zero, List.push_toArray, List.append_toArray, List.nil_append, List.cons_append]
  obtain ⟨hbx, hm⟩ := hInv _ _ h0
  have hcb := box_cell hbx
  rcases hm with ⟨rfl, rfl⟩ | ⟨b, D, rfl, hown, hf⟩
  · have hu : Tryz.prog.underlying 76 = some (.map 43 77) := Tryz.underlying76
    have hrg := run_range_nilMap (P := Tryz.prog) W0 76 43 77 hu
    have hnx : ∀ ty, (Instr.next (.pointer (some ⟨W0.heap.size, 0, none⟩)) false ty).run Tryz.prog (W0.alloc (.mapIter none 0 #[] 0)) = _ := fun ty => run_next_nilMap _ ty 0 0 #[]
    gi_wp2
    refine wpIn_loop_rounds 1 ?_
    rw [roundsIn_succ]
    gi_wp2
    go_end0
    exact ⟨⟨_, rfl⟩, [], W0, ⟨List.nodup_nil, fun x => by simp [noneD]⟩, h0, StepW.of_below (below_one _ _)⟩
  · have hu : Tryz.prog.underlying 43 = some (.int .u32) := Tryz.underlying43
    gi_wp2_with (first
      | (gi_at_range; refine wpListIn_range_own _ rfl _ 76 rfl 43 77 (int_keyed hu) Tryz.underlying76 _ b n _ rfl hown ?_; intro w0 hrg0 hg0 hs0)
      | gi_in)
    gi_loopw [3] (fun _ wr => ∃ (left : Lit → Bool) (cnt : Nat) (ss : List Nat) (W : World), wr.ranges Tryz.prog 43 unitElem b W0.heap.size n D left cnt ∧ ss.length + cnt ≤ Maps.size D ∧ Col f left ss ∧ J ss W ∧ StepW W0.heap.size W wr)
      (fun _ wr => wr.rangeLeft b W0.heap.size)
    case atStart =>
      exact ⟨_, _, [], W0, hrg0, by simp, Col.start hf, h0, StepW.grown hg0 (fun r e => by cases e)⟩
    case round =>
      obtain ⟨left, cnt, ss, W, hrg, hcs, hC, hJ, hst⟩ := hrel
      gi_wp2_with (first
        | (gi_at_next; refine wpListIn_next_ranges _ rfl _ rfl 43 (int_keyed hu) unitElem u32V (fun (_ : Unit) => .agg #[]) (fun key kl hk => by obtain ⟨x, hx, _⟩ := keyOf_u32 hu hk; exact ⟨x, hx⟩) (fun v y hv => ⟨(), (unitElem_inv hv).1⟩) b W0.heap.size n _ _ _ rfl hrg ?_ ?_)
        | gi_in)
      · intro hc0 hl0
        gi_wp2
        go_end0
        exact ⟨⟨_, rfl⟩, ss, W, hC.end hl0, hJ, hst⟩
      · intro x c kl yd w2 cnt2 hkey hlk hv hat hrg2 hlt hg2 hs2 hen
        obtain ⟨x', ex, rfl, hwx⟩ := keyOf_u32 hu hkey
        obtain rfl : x = x' := by simp at ex; omega
        have hfx : f x ≠ none := by
          have h1 := Maps.has_true_of_atKey hat
          rw [hf.has] at h1
          cases hfx : f x with
          | none => rw [hfx] at h1; cases h1
          | some y => simp
        have hst2 : StepW W0.heap.size W w2 := hst.trans (StepW.grown hg2 (fun r e => by
          cases e
          obtain ⟨es, clock, since, seen, c0, -, -, -, -, hr, -⟩ := hrg
          exact ⟨Nat.le_refl _, _, hr, rfl⟩))
        have hsz := hown.size_le
        have hY2 := hY ss x W w2 hJ hst2 (by show ss.length < n; omega)
        obtain ⟨fn, tmps, assign, body, hy, hR⟩ := hY2
        unfold keyEnc at hy
        clear hs2
        gi_wp2
        refine hR.mono ?_
        rintro e W3 ⟨rfl, hJ3, hk3⟩
        gi_wp2
        have hrg3 := hrg2.of_walks hk3
        go_roundw
        case rel => exact ⟨_, cnt2, ss ++ [x], W3, hrg3, by simp; omega, hC.step hfx hlk, hJ3, StepW.refl _ _⟩
        case measure => rw [hrg3.left_eq, hrg.left_eq]; exact hlt
end Go.Proofs.YtboinccdnaddmaaGreatDoor
