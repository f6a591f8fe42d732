/- The walks of the statements' own helpers: SameIds, SameMsgs, tell, is. -/
import Derived.Test.YtpmmdbdooclcoaaBaNone
import Derived.Test.YtpmmdbdooclcoaaQMsgs
import Derived.Deep.RegionHeld3
import Derived.Deep.QuietTactic
set_option linter.unusedSimpArgs false
set_option linter.unusedVariables false
namespace Go.Proofs.Ytpmmdbdooclcoaa
open Go.RowKit

def idCell (x : UInt32) : List Value := [.int .u32 (x.toNat : Int)]
theorem idCell_len (x : UInt32) : (idCell x).length = 1 := rfl
set_option maxHeartbeats 2000000 in
set_option maxRecDepth 1000000 in
theorem sameIds_any (w : World) (la lb : Nat) (va vb : Value) (l : List UInt32) (ha : SlAt 1 idCell w la va l) (hb : SlAt 1 idCell w lb vb l) :
    Calls Try.prog 28 #[va, vb] w fun e w' => e = .returned (.bool true) ∧ ∃ n, w' = w.drewN n := by
  obtain ⟨ao, ca, rfl, ha1, ha2, ha3⟩ := ha
  obtain ⟨bo, cb, rfl, hb1, hb2, hb3⟩ := hb
  unfold maxLen at ha2 hb2
  go_enter Try.func28, Try.ntmps28
  go_wp2
  go_loopw [5] (fun i wr => ∃ k n : Nat, k ≤ l.length ∧ i = .int .i64 k ∧ wr = w.drewN n) (fun i _ => l.length - (intOf i).toNat)
  case atStart => exact ⟨0, 0, by omega, rfl, rfl⟩
  case round =>
    obtain ⟨k, n, hk, rfl, rfl⟩ := hrel
    by_cases h1 : k < l.length
    · obtain ⟨b1, o1, rfl, hl1, hc1⟩ := ha3 (by omega)
      obtain ⟨b2, o2, rfl, hl2, hc2⟩ := hb3 (by omega)
      obtain ⟨x, hx⟩ : ∃ x, x = l[k]'h1 := ⟨_, rfl⟩
      have p : ∀ j u, (idCell x)[j]? = some u → w.cell? ⟨b1, o1 + k * 1 + j, none⟩ = some u := fun j u hu => hc1 k h1 j u (by rw [← hx]; exact hu)
      have q : ∀ j u, (idCell x)[j]? = some u → w.cell? ⟨b2, o2 + k * 1 + j, none⟩ = some u := fun j u hu => hc2 k h1 j u (by rw [← hx]; exact hu)
      have p0 := p 0 _ rfl
      have q0 := q 0 _ rfl
      simp only [Nat.add_zero, Nat.mul_one] at p0 q0
      clear p q hx hc1 hc2 ha3 hb3
      have i1 : (k : Int) < (l.length : Int) := by omega
      go_wp2
      go_quiet (fail)
      go_wp2
      go_roundw
      case rel => exact ⟨k + 1, _, by omega, by go_num, rfl⟩
      case measure => simp [intOf]; omega
    · clear ha3 hb3
      go_wp2
      go_ret
      exact ⟨rfl, n, rfl⟩

theorem msgsAt_of {S0 : Nat → Prop} {w0 w : World} {L : List Part} {v : Value} {ms : List MsgO} (h : St S0 w0 w (msgsP v ms :: L)) : MsgsAt w w.heap.size v ms := by
  have h1 := h.open_all (K := [_, _])
  exact ⟨sl_own MsgO.cells_len h1.row, fun x hx => (all_mem (h1.pick 1 rfl) hx).2⟩
abbrev SmS (w : World) (b1 o1 b2 o2 : Nat) (x y : MsgO) (W : World) : Prop := (∀ j u, x.cells[j]? = some u → W.cell? ⟨b1, o1 + j, none⟩ = some u) ∧ (∀ j u, y.cells[j]? = some u → W.cell? ⟨b2, o2 + j, none⟩ = some u) ∧ Below w.heap.size w W
set_option maxHeartbeats 4000000 in
set_option maxRecDepth 1000000 in
theorem sameMsgs_any (w : World) (va vb : Value) (l m : List MsgO) (ha : MsgsAt w w.heap.size va l) (hb : MsgsAt w w.heap.size vb m) (hlm : l.map (·.d) = m.map (·.d)) :
    Calls Try.prog 17 #[va, vb] w fun e w' => e = .returned (.bool true) ∧ Below w.heap.size w w' := by
  obtain ⟨⟨ao, ca, rfl, ha1, ha2, ha3⟩, hra⟩ := ha
  obtain ⟨⟨bo, cb, rfl, hb1, hb2, hb3⟩, hrb⟩ := hb
  have hll : m.length = l.length := by have := congrArg List.length hlm; simpa using this.symm
  have heq : Hid (∀ (k : Nat) (h1 : k < l.length) (h2 : k < m.length), (l[k]'h1).d = (m[k]'h2).d) := fun k h1 h2 => by
    have e1 : (l.map (·.d))[k]'(by simpa using h1) = (m.map (·.d))[k]'(by simpa using h2) := List.getElem_of_eq hlm _
    simpa using e1
  unfold maxLen at ha2 hb2
  have hb1' : l.length ≤ cb := by omega
  rw [hll]
  have HL : Hid (m.length = l.length) := hll
  clear hlm hll hb1
  go_enter Try.func17, Try.ntmps17
  go_wp2
  go_loopw [5] (fun i wr => ∃ k : Nat, k ≤ l.length ∧ i = .int .i64 k ∧ Below w.heap.size w wr) (fun i _ => l.length - (intOf i).toNat)
  case atStart => exact ⟨0, by omega, rfl, Below.refl _ _⟩
  case round =>
    obtain ⟨k, hk, rfl, hB⟩ := hrel
    by_cases h1 : k < l.length
    · have h2 : k < m.length := by have := HL.out; omega
      obtain ⟨b1, o1, rfl, hl1, hc1⟩ := ha3 (by omega)
      obtain ⟨b2, o2, rfl, hl2, hc2⟩ := hb3 (by omega)
      obtain ⟨x, hx⟩ : ∃ x, x = l[k]'h1 := ⟨_, rfl⟩
      obtain ⟨y, hy⟩ : ∃ y, y = m[k]'h2 := ⟨_, rfl⟩
      have hxy : x.d = y.d := by rw [hx, hy]; exact heq.out k h1 h2
      have R1 := hra x (by rw [hx]; exact List.getElem_mem _)
      have R2 := hrb y (by rw [hy]; exact List.getElem_mem _)
      have c1 : ∀ W, Below w.heap.size w W → ∀ j u, x.cells[j]? = some u → W.cell? ⟨b1, o1 + k * 6 + j, none⟩ = some u := fun W hW j u hu => (hW.cell (p := ⟨b1, _, none⟩) hl1).trans (hc1 k h1 j u (by rw [← hx]; exact hu))
      have c2 : ∀ W, Below w.heap.size w W → ∀ j u, y.cells[j]? = some u → W.cell? ⟨b2, o2 + k * 6 + j, none⟩ = some u := fun W hW j u hu => (hW.cell (p := ⟨b2, _, none⟩) hl2).trans (hc2 k h2 j u (by rw [← hy]; exact hu))
      obtain ⟨a1, n1, a2, n2, e1, e2⟩ := R1.form
      obtain ⟨a3, n3, a4, n4, e3, e4⟩ := R2.form
      obtain ⟨xd, xo, xr, xs⟩ := x
      obtain ⟨yd, yo, yr, ys⟩ := y
      simp only at hxy e1 e2 e3 e4 R1 R2
      subst hxy
      subst e1
      subst e2
      subst e3
      subst e4
      have kS : ∀ W, Below w.heap.size w W → Calls Try.prog 18 #[.agg #[.int .u8 (xd.say.toNat : Int), .int .u8 (xd.src.toNat : Int), .int .u8 (xd.dst.toNat : Int), .int .u32 (xd.g.toNat : Int), .slice a1 xd.ops.length n1, .slice a2 xs.length n2], .agg #[.int .u8 (xd.say.toNat : Int), .int .u8 (xd.src.toNat : Int), .int .u8 (xd.dst.toNat : Int), .int .u32 (xd.g.toNat : Int), .slice a3 xd.ops.length n3, .slice a4 ys.length n4]] W fun e w' => e = .returned (.bool true) ∧ Below w.heap.size w w' := fun W hW =>
        (sameMsg_any W _ _ _ _ xd xs ys (R1.up hW) (R2.up hW)).mono fun e w' ⟨e1, e2⟩ => ⟨e1, hW.trans (e2.mono hW.size)⟩
      have d1 : ∀ W, Below w.heap.size w W → W.cell? ⟨b1, o1 + k * 6, none⟩ = some (.int .u8 (xd.say.toNat : Int)) ∧ W.cell? ⟨b1, o1 + k * 6 + 1, none⟩ = some (.int .u8 (xd.src.toNat : Int)) ∧ W.cell? ⟨b1, o1 + k * 6 + 2, none⟩ = some (.int .u8 (xd.dst.toNat : Int)) ∧ W.cell? ⟨b1, o1 + k * 6 + 3, none⟩ = some (.int .u32 (xd.g.toNat : Int)) ∧ W.cell? ⟨b1, o1 + k * 6 + 4, none⟩ = some (.slice a1 xd.ops.length n1) ∧ W.cell? ⟨b1, o1 + k * 6 + 5, none⟩ = some (.slice a2 xs.length n2) := fun W hW =>
        ⟨by simpa using c1 W hW 0 _ rfl, c1 W hW 1 _ rfl, c1 W hW 2 _ rfl, c1 W hW 3 _ rfl, c1 W hW 4 _ rfl, c1 W hW 5 _ rfl⟩
      have d2 : ∀ W, Below w.heap.size w W → W.cell? ⟨b2, o2 + k * 6, none⟩ = some (.int .u8 (xd.say.toNat : Int)) ∧ W.cell? ⟨b2, o2 + k * 6 + 1, none⟩ = some (.int .u8 (xd.src.toNat : Int)) ∧ W.cell? ⟨b2, o2 + k * 6 + 2, none⟩ = some (.int .u8 (xd.dst.toNat : Int)) ∧ W.cell? ⟨b2, o2 + k * 6 + 3, none⟩ = some (.int .u32 (xd.g.toNat : Int)) ∧ W.cell? ⟨b2, o2 + k * 6 + 4, none⟩ = some (.slice a3 xd.ops.length n3) ∧ W.cell? ⟨b2, o2 + k * 6 + 5, none⟩ = some (.slice a4 ys.length n4) := fun W hW =>
        ⟨by simpa using c2 W hW 0 _ rfl, c2 W hW 1 _ rfl, c2 W hW 2 _ rfl, c2 W hW 3 _ rfl, c2 W hW 4 _ rfl, c2 W hW 5 _ rfl⟩
      have hD : Below w.heap.size w wr.drew := hB.trans ⟨rfl, rfl, rfl, Nat.le_refl _, fun _ _ => rfl⟩
      obtain ⟨p0, p1, p2, p3, p4, p5⟩ := d1 _ hD
      obtain ⟨q0, q1, q2, q3, q4, q5⟩ := d2 _ hD
      have ks := kS _ hD
      have i1 : (k : Int) < (l.length : Int) := by omega
      clear hc1 hc2 ha3 hb3 R1 R2 heq hra hrb hx hy c1 c2 d1 d2 kS
      go_wp2_with fail
      go_region_law (first | (go_simp; go_at_call 18; refine ks.mono ?_; rintro e w' ⟨rfl, hb⟩))
      all_goals
        go_wp2
        go_roundw
        case rel => exact ⟨k + 1, by omega, by go_num, hb⟩
        case measure => simp [intOf]; omega
    · clear ha3 hb3 hra hrb heq
      go_wp2
      go_ret
      exact ⟨rfl, hB⟩
end Go.Proofs.Ytpmmdbdooclcoaa
