import Derived.Test.YtcgecdiaddcfkaaGreatDoorPRefGetM
import Derived.Test.YtcgecdiaddcfkaaGreatDoorM16
/- The document's Get, of any bytes. -/
set_option linter.unusedSimpArgs false
set_option linter.unusedVariables false
namespace Go.Proofs.YtcgecdiaddcfkaaGreatDoor
open Go.RowKit

set_option maxHeartbeats 2000000 in
set_option maxRecDepth 1000000 in
theorem rGet_short (w : World) (vb : Value) (bs : List UInt8) (hb : InAt w w.heap.size vb bs) (hl : bs.length < 11) :
    Calls Tryz.prog 18 #[vb] w fun e w' => e = .returned (.tuple #[.agg #[.int .u8 0, .int .u8 0, .int .u8 0, .int .u32 0, .slice none 0 0, .slice none 0 0], .int .i64 4]) ∧ Below w.heap.size w w' := by
  obtain ⟨ao, cap, rfl, h1, h2, -⟩ := hb
  unfold maxLen at h2
  have i1 : (bs.length : Int) < 11 := by omega
  have B1 := below_one w (.cells #[.int .u8 0, .int .u8 0, .int .u8 0, .int .u32 0, .slice none 0 0, .slice none 0 0] 27)
  have P1 := heap_alloc_new w (.cells #[.int .u8 0, .int .u8 0, .int .u8 0, .int .u32 0, .slice none 0 0, .slice none 0 0] 27)
  go_enter Tryz.func18, Tryz.ntmps18
  go_wp2
  generalize w.alloc (.cells #[.int .u8 0, .int .u8 0, .int .u8 0, .int .u32 0, .slice none 0 0, .slice none 0 0] 27) = w1 at *
  obtain ⟨t0, t1, t2, t3, t4, t5⟩ := six_cells P1
  refine bodyPost_ret (v := .tuple #[.agg #[.int .u8 0, .int .u8 0, .int .u8 0, .int .u32 0, .slice none 0 0, .slice none 0 0], .int .i64 4]) (by simp [results, Tryz.results18, go_sem, t0, t1, t2, t3, t4, t5]) rfl ⟨rfl, B1⟩

theorem refGet7_any (w : World) (vb : Value) (bs : List UInt8) (hb : InAt w w.heap.size vb bs) :
    Calls Tryz.prog 18 #[vb] w fun e w' => ∃ oa on oc ra rn rc, e = .returned (.tuple #[msgV (getM bs).1 (.slice oa on oc) (.slice ra rn rc), .int .i64 ((getM bs).2 : Int)]) ∧ MsgOwn w' w.heap.size (.slice oa on oc) (.slice ra rn rc) (getM bs).1 ∧ Below w.heap.size w w' := by
  have zero : getM bs = (zeroM, 4) → Calls Tryz.prog 18 #[vb] w (fun e w' => e = .returned (.tuple #[.agg #[.int .u8 0, .int .u8 0, .int .u8 0, .int .u32 0, .slice none 0 0, .slice none 0 0], .int .i64 4]) ∧ Below w.heap.size w w') → Calls Tryz.prog 18 #[vb] w fun e w' => ∃ oa on oc ra rn rc, e = .returned (.tuple #[msgV (getM bs).1 (.slice oa on oc) (.slice ra rn rc), .int .i64 ((getM bs).2 : Int)]) ∧ MsgOwn w' w.heap.size (.slice oa on oc) (.slice ra rn rc) (getM bs).1 ∧ Below w.heap.size w w' := by
    intro h k
    rw [h]
    refine k.mono ?_
    rintro e w' ⟨rfl, b⟩
    exact ⟨none, 0, 0, none, 0, 0, rfl, MsgOwn_zero _ _, b⟩
  by_cases hl : bs.length < 11
  · exact zero (by unfold getM; rw [if_pos hl]) (rGet_short w vb bs hb hl)
  by_cases ho : numAt 7 bs ≤ bs.length - 11
  case neg => exact zero (by unfold getM; rw [if_neg hl, if_neg (fun h => ho h.2)]) (rGet_over w vb bs hb hl ho)
  rcases getOps_cases ((bs.drop 11).take (numAt 7 bs)) with ⟨lo, hpo, la, -, -⟩ | hpo
  · rcases getRes_cases ((bs.drop 11).drop (numAt 7 bs)) with ⟨lr, hpr, lb, -, -, -⟩ | hpr
    · have e2 : (rawM bs).ops = lo := by unfold rawM; rw [hpo]
      have e3 : (rawM bs).res = lr := by unfold rawM; rw [hpr]
      cases hh : (rawM bs).head with
      | false =>
        exact zero (by unfold getM; rw [if_neg hl, if_neg (by simp [hh])]) (rGet_head w vb bs hb hl ho lo lr hpo hpr la lb (ok_head hh))
      | true =>
        have e1 : getM bs = (rawM bs, 0) := by unfold getM; rw [if_neg hl, if_pos ⟨hh, ho⟩, hpo, hpr, if_pos ⟨rfl, rfl⟩]
        rw [e1]
        refine (rGet_ok w vb bs hb hl ho lo lr hpo hpr la lb (ok_of hh (by rw [e2]; exact la) (by rw [e3]; exact lb))).mono ?_
        rintro e w' ⟨oa, on, oc, ra, rn, rc, rfl, o1, o2, b⟩
        exact ⟨oa, on, oc, ra, rn, rc, rfl, ⟨by rw [e2]; exact o1, by rw [e3]; exact o2⟩, b⟩
    · refine zero ?_ (rGet_badR w vb bs hb hl ho lo [] hpo hpr)
      unfold getM
      rw [if_neg hl]
      split
      · rw [hpo, hpr, if_neg (by simp)]
      · rfl
  · obtain ⟨lr, er, hpr⟩ : ∃ lr er, getRes ((bs.drop 11).drop (numAt 7 bs)) = (lr, er) := ⟨_, _, rfl⟩
    refine zero ?_ (rGet_badO w vb bs hb hl ho [] lr er hpo hpr)
    unfold getM
    rw [if_neg hl]
    split
    · rw [hpo, if_neg (by simp)]
    · rfl
end Go.Proofs.YtcgecdiaddcfkaaGreatDoor
