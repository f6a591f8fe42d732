/- The walk of like: the disk has what the document's disk has. -/
import Derived.Test.YthnkakjelhnjdaaGreatDoorERRead
import Derived.Test.YthnkakjelhnjdaaGreatDoorGSame
set_option linter.unusedSimpArgs false
set_option linter.unusedVariables false
namespace Go.Proofs.YthnkakjelhnjdaaGreatDoor
open Go.RowKit Go.Maps

theorem sl_row {w : World} {v : Value} {s : Sec} (h : w.ownsRow 0 5 1 v 64 (bcells s)) (hs : s.length = 64) : SlAt 1 bCell w w.heap.size v s := by
  obtain ⟨g, cap, rfl, h1, h2, hl, -, hc⟩ := own_pos h (by omega)
  refine ⟨some ⟨g, 0, none⟩, cap, by rw [hs], by omega, h2, fun _ => ⟨g, 0, rfl, hl, fun i hi j u hu => ?_⟩⟩
  rcases j with _ | j
  · rw [show 0 + i * 1 + 0 = i by omega]
    refine hc i u ?_
    have : u = .int .u8 ((s[i]'hi).toNat : Int) := by
      simp [bCell] at hu
      exact hu.symm
    rw [this]
    simp [bcells, bv, hi]
  · simp [bCell] at hu
theorem size_own' {base : Nat} {w : World} {B : Nat} {d : Dk} (h : Own base w B d) : Calls Tryz.prog 28 #[.pointer (some ⟨B, 0, none⟩)] w fun e w' => e = .returned (.int .i64 (d.sure.length : Int)) ∧ w = w' := by
  obtain ⟨S, h1, h2⟩ := h
  exact size_ok h1
theorem sl_block {w : World} {g : Nat} {s : Sec} (h : w.heap[g]? = some (.cells (bcells s).toArray 5 (0, 0))) (hs : s.length = 64) : SlAt 1 bCell w w.heap.size (.slice (some ⟨g, 0, none⟩) 64 64) s := sl_row (own_row64 hs h) hs

set_option maxHeartbeats 4000000 in
set_option maxRecDepth 1000000 in
theorem like_ok {w : World} {base B C : Nat} {S : Nat → Prop} {d : Dk} (ho : Own base w B d) (hr : RfAt w C S d) (hn : d.ws.length ≤ 1000000) :
    Calls Tryz.prog 18 #[.pointer (some ⟨B, 0, none⟩), .pointer (some ⟨C, 0, none⟩)] w fun e w' => e = .returned (.bool true) ∧ Below w.heap.size w w' := by
  have h0 := hr.ok
  have hmax := h0.max
  have hpos := h0.pos
  have kz : Hid (∀ W, Below w.heap.size w W → Calls Tryz.prog 29 #[.pointer (some ⟨C, 0, none⟩)] W fun e w' => e = .returned (.int .i64 (d.sure.length : Int)) ∧ W = w') := fun W hW => rsize_ok (hr.below hW)
  have kd := size_own' ho
  have kw := waits_own ho
  have krw := rwaits_ok hr
  have kr1 : Hid (∀ W i, Below w.heap.size w W → i < d.sure.length → Calls Tryz.prog 12 #[.pointer (some ⟨B, 0, none⟩), .int .i64 (i : Int)] W fun e w' =>
      e = .returned (.tuple #[.slice (some ⟨W.heap.size + 1, 0, none⟩) 64 64, .int .i64 0]) ∧ w'.heap[W.heap.size + 1]? = some (.cells (bcells (d.view i)).toArray 5 (0, 0)) ∧ Below W.heap.size W w') := fun W i hW hi => read_own (ho.below hW) i hi
  have kr2 : Hid (∀ W i, Below w.heap.size w W → i < d.sure.length → Calls Tryz.prog 13 #[.pointer (some ⟨C, 0, none⟩), .int .i64 (i : Int)] W fun e w' =>
      ∃ v, e = .returned (.tuple #[v, .int .i64 0]) ∧ w'.ownsRow W.heap.size 5 1 v 64 (bcells (d.view i)) ∧ Below W.heap.size W w') := fun W i hW hi => rread_ok (hr.below hW) i hi hn
  have hvl : Hid (∀ i, i < d.sure.length → (d.view i).length = 64) := fun i hi => Dk.view_len h0 hi
  have kz0 := kz.out w (Below.refl _ _)
  clear ho hr h0
  obtain ⟨nS, hnS⟩ : ∃ nS, nS = d.sure.length := ⟨_, rfl⟩
  obtain ⟨nW, hnW⟩ : ∃ nW, nW = d.ws.length := ⟨_, rfl⟩
  rw [← hnS] at kz kd kr1 kr2 hvl kz0 hmax hpos
  rw [← hnW] at kw krw hn
  clear hnS hnW
  go_enter Tryz.func18, Tryz.ntmps18
  go_wp2_with (first
    | (go_at_call 28; refine kd.mono ?_; rintro e w' ⟨rfl, rfl⟩)
    | (go_at_call 29; refine kz0.mono ?_; rintro e w' ⟨rfl, rfl⟩)
    | (go_at_call 19; refine kw.mono ?_; rintro e w' ⟨rfl, rfl⟩)
    | (go_at_call 20; refine krw.mono ?_; rintro e w' ⟨rfl, rfl⟩))
  clear kd kw krw kz0
  go_loopw [6] (fun x wr => ∃ i : Nat, x = .int .i64 (i : Int) ∧ i ≤ nS + nS ∧ Below w.heap.size w wr) (fun x _ => nS - (intOf x).toNat)
  case atStart => exact ⟨0, rfl, by omega, Below.refl _ _⟩
  case round =>
    obtain ⟨i, rfl, hi, hw⟩ := hrel
    have kz1 := kz.out wr hw
    by_cases hin : i < nS
    · have i1 : (i : Int) < (nS : Int) := by omega
      have k1 := kr1.out wr i hw hin
      go_wp2_with (first
        | (go_at_call 29; refine kz1.mono ?_; rintro e w' ⟨rfl, rfl⟩)
        | (go_at_call 12; refine k1.mono ?_; rintro e w1 ⟨rfl, r1, b1⟩; have hw1 : Below w.heap.size w w1 := hw.trans (b1.mono hw.size); have k2 := kr2.out w1 i hw1 hin)
        | (go_at_call 13; refine k2.mono ?_; rintro e w2 ⟨v2, rfl, r2, b2⟩; have hw2 : Below w.heap.size w w2 := hw1.trans (b2.mono hw1.size); have k3 := sameBytes_any w2 _ _ _ _ _ (sl_block ((b2.block _ (lt_of_block r1)).trans r1) (hvl.out i hin)) (sl_row (own_nought r2) (hvl.out i hin)))
        | (go_at_call 14; refine k3.mono ?_; rintro e w3 ⟨rfl, n3, rfl⟩))
      go_roundw
      case rel => exact ⟨i + (1 + nS / 40), by go_num, by omega, hw2.trans ⟨rfl, rfl, rfl, Nat.le_refl _, fun _ _ => rfl⟩⟩
      case measure => simp [intOf]; omega
    · have i1 : ¬ (i : Int) < (nS : Int) := by omega
      go_wp2_with (go_at_call 29; refine kz1.mono ?_; rintro e w' ⟨rfl, rfl⟩)
      go_ret
      exact ⟨rfl, hw⟩
end Go.Proofs.YthnkakjelhnjdaaGreatDoor
