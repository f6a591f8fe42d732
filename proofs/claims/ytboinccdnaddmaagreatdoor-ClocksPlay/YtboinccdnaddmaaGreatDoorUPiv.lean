/- The walks of order2Ordered, medianOrdered, medianAdjacentOrdered, choosePivotOrdered at uint32: a place between, and a hint. -/
import Derived.Test.YtboinccdnaddmaaGreatDoorUBase
import Derived.Test.YtboinccdnaddmaaGreatDoorBBook
set_option linter.unusedSimpArgs false
set_option linter.unusedVariables false
namespace Go.Proofs.YtboinccdnaddmaaGreatDoor
open Go.RowKit Go.Sort

abbrev ctrO (s : Nat) : Obj := .cells #[.int .i64 (s : Int)] 3
/-- A row of numbers, and a counter made since. -/
structure RowC (w0 : World) (g off : Nat) (d0 d : Array Nat) (sb s : Nat) (w : World) : Prop where
  row : RowIs w0 g off d0 d w
  ge : w0.heap.size ≤ sb
  ctr : w.heap[sb]? = some (ctrO s)
section
variable {w0 w : World} {g off : Nat} {d0 d : Array Nat} {sb s : Nat}
theorem RowC.drew (h : RowC w0 g off d0 d sb s w) (q : Nat) : RowC w0 g off d0 d sb s (w.drewN q) := ⟨h.row.drew q, h.ge, h.ctr⟩
theorem RowC.step (h : RowC w0 g off d0 d sb s w) (u : Nat) : RowC w0 g off d0 d sb u (w.setCell ⟨sb, 0, none⟩ (.int .i64 (u : Int))) := ⟨h.row.set h.ge _, h.ge, heap_setCell_same w sb 0 _ _ _ h.ctr⟩

set_option maxHeartbeats 1000000 in
set_option maxRecDepth 1000000 in
theorem order2_ok (h : RowC w0 g off d0 d sb s w) (h0 : Holds u32e w0 g off d0) (len cap a b : Nat) (hlen : d0.size = len) (ha : a < len) (hb : b < len) (hs : s ≤ 1000) :
    Calls Tryz.prog 112 #[.slice (some ⟨g, off, none⟩) len cap, .int .i64 a, .int .i64 b, ptr sb] w fun e w' => ∃ x y s' : Nat, e = .returned (.tuple #[.int .i64 (x : Int), .int .i64 (y : Int)]) ∧ ((x = a ∧ y = b) ∨ (x = b ∧ y = a)) ∧ s' ≤ s + 1 ∧ RowC w0 g off d0 d sb s' w' := by
  obtain ⟨G, hG⟩ : ∃ G : Nat → Nat, ∀ t, G t = d[t]! := ⟨fun t => d[t]!, fun _ => rfl⟩
  have cw : ∀ t, t < len → w.cell? ⟨g, off + t, none⟩ = some (.int .u32 (G t : Int)) := fun t ht => by rw [hG]; exact h.row.cell h0 t (by rw [hlen]; exact ht)
  have HC : Hid (RowC w0 g off d0 d sb s w) := h
  clear hG h h0 hlen
  go_enter Tryz.func112, Tryz.ntmps112
  go_wp2
  go_big_quiet (first | (go_at_call 99; refine Calls.quiet_of_same (less_u32 _ _ _)))
  have HD := HC.out.drew nq
  clear cw
  generalize w.drewN nq = w1 at HD ⊢
  have c1 := box_cell HD.ctr
  have f1 := box_frozen (i := 0) HD.ctr
  have HD2 : Hid (RowC w0 g off d0 d sb s w1) := HD
  clear HD HC
  go_wp2
  · go_ret2
    refine ⟨b, a, s + 1, rfl, .inr ⟨rfl, rfl⟩, Nat.le_refl _, ?_⟩
    exact HD2.out.step (s + 1)
  · go_ret2
    exact ⟨a, b, s, rfl, .inl ⟨rfl, rfl⟩, by omega, HD2.out⟩

set_option maxHeartbeats 1000000 in
set_option maxRecDepth 1000000 in
theorem median_ok (h : RowC w0 g off d0 d sb s w) (h0 : Holds u32e w0 g off d0) (len cap a b c : Nat) (hlen : d0.size = len) (ha : a < len) (hb : b < len) (hc : c < len) (hs : s ≤ 900) :
    Calls Tryz.prog 109 #[.slice (some ⟨g, off, none⟩) len cap, .int .i64 a, .int .i64 b, .int .i64 c, ptr sb] w fun e w' => ∃ x s' : Nat, e = .returned (.int .i64 (x : Int)) ∧ (x = a ∨ x = b ∨ x = c) ∧ s' ≤ s + 3 ∧ RowC w0 g off d0 d sb s' w' := by
  have k1 := order2_ok h h0 len cap a b hlen ha hb (by omega)
  have H0 : Hid (Holds u32e w0 g off d0) := h0
  have HL : Hid (d0.size = len) := hlen
  clear h h0 hlen
  go_enter Tryz.func109, Tryz.ntmps109
  go_wp2_with fail
  refine k1.mono ?_
  rintro e w1 ⟨x1, y1, s1, rfl, h1, l1, r1⟩
  have m1 : x1 < len ∧ y1 < len := by omega
  have k2 := order2_ok r1 H0.out len cap y1 c HL.out m1.2 hc (by omega)
  have R1 : Hid _ := h1
  clear k1 r1 h1
  go_wp2_with fail
  refine k2.mono ?_
  rintro e w2 ⟨x2, y2, s2, rfl, h2, l2, r2⟩
  have m2 : x2 < len := by omega
  have k3 := order2_ok r2 H0.out len cap x1 x2 HL.out m1.1 m2 (by omega)
  have R2 : Hid _ := h2
  clear k2 r2 h2
  go_wp2_with fail
  refine k3.mono ?_
  rintro e w3 ⟨x3, y3, s3, rfl, h3, l3, r3⟩
  have R3 : Hid _ := r3
  have M : Hid (y3 = a ∨ y3 = b ∨ y3 = c) := by have := R1.out; have := R2.out; show _ ∨ _; omega
  clear k3 r3 h3
  go_wp2
  go_ret
  exact ⟨y3, s3, rfl, M.out, by omega, R3.out⟩

set_option maxHeartbeats 1000000 in
set_option maxRecDepth 1000000 in
theorem adjacent_ok (h : RowC w0 g off d0 d sb s w) (h0 : Holds u32e w0 g off d0) (len cap a : Nat) (hlen : d0.size = len) (h1 : 1 ≤ a) (ha : a + 1 < len) (hsz : len < 4611686018427387904) (hs : s ≤ 900) :
    Calls Tryz.prog 108 #[.slice (some ⟨g, off, none⟩) len cap, .int .i64 a, ptr sb] w fun e w' => ∃ x s' : Nat, e = .returned (.int .i64 (x : Int)) ∧ a ≤ x + 1 ∧ x ≤ a + 1 ∧ s' ≤ s + 3 ∧ RowC w0 g off d0 d sb s' w' := by
  have k1 := median_ok h h0 len cap (a - 1) a (a + 1) hlen (by omega) (by omega) ha hs
  rw [show ((a - 1 : Nat) : Int) = (a : Int) - 1 by omega, show ((a + 1 : Nat) : Int) = (a : Int) + 1 by omega] at k1
  clear h h0 hlen
  go_enter Tryz.func108, Tryz.ntmps108
  go_wp2_with fail
  refine k1.mono ?_
  rintro e w1 ⟨x, s1, rfl, hx, l1, r1⟩
  have R1 : Hid _ := r1
  have M : Hid (a ≤ x + 1 ∧ x ≤ a + 1) := by show _ ∧ _; omega
  clear k1 r1 hx
  go_wp2
  go_ret
  exact ⟨x, s1, rfl, M.out.1, M.out.2, l1, R1.out⟩
end

set_option maxHeartbeats 2000000 in
set_option maxRecDepth 1000000 in
theorem pivot_ok (g off cap a L len : Nat) (d : Array Nat) (w : World) (hlen : d.size = len) (hH : Holds u32e w g off d) (hg : g < w.heap.size) (hL : 12 < L) (hb : a + L ≤ len) (hsz : len < 4611686018427387904) :
    Calls Tryz.prog 96 #[.slice (some ⟨g, off, none⟩) len cap, .int .i64 a, .int .i64 ((a + L : Nat) : Int)] w fun e w' => ∃ (x : Nat) (t : Int), e = .returned (.tuple #[.int .i64 (x : Int), .int .i64 t]) ∧ a ≤ x ∧ x < a + L ∧ RowIs w g off d d w' := by
  have HN : Hid (d.size = len) := hlen
  have HH : Hid (Holds u32e w g off d) := hH
  have RC : RowC w g off d d w.heap.size 0 (w.alloc (ctrO 0)) := ⟨(RowIs.start hH hg).alloc _, Nat.le_refl _, by show (w.heap.push _)[w.heap.size]? = _; exact Array.getElem?_push_size⟩
  have ADJ : Hid (∀ W s x, RowC w g off d d w.heap.size s W → s ≤ 900 → 1 ≤ x → x + 1 < len → Calls Tryz.prog 108 #[.slice (some ⟨g, off, none⟩) len cap, .int .i64 (x : Int), ptr w.heap.size] W fun e w' => ∃ y s' : Nat, e = .returned (.int .i64 (y : Int)) ∧ x ≤ y + 1 ∧ y ≤ x + 1 ∧ s' ≤ s + 3 ∧ RowC w g off d d w.heap.size s' w') := fun W s x hW hs h1 h2 => adjacent_ok hW hH len cap x hlen h1 h2 hsz hs
  have MED : Hid (∀ W s x y z, RowC w g off d d w.heap.size s W → s ≤ 900 → x < len → y < len → z < len → Calls Tryz.prog 109 #[.slice (some ⟨g, off, none⟩) len cap, .int .i64 (x : Int), .int .i64 (y : Int), .int .i64 (z : Int), ptr w.heap.size] W fun e w' => ∃ v s' : Nat, e = .returned (.int .i64 (v : Int)) ∧ (v = x ∨ v = y ∨ v = z) ∧ s' ≤ s + 3 ∧ RowC w g off d d w.heap.size s' w') := fun W s x y z hW hs h1 h2 h3 => median_ok hW hH len cap x y z hlen h1 h2 h3 hs
  have RC0 : Hid _ := RC
  have eL : ((a + L : Nat) : Int) - (a : Int) = (L : Int) := by omega
  obtain ⟨i, hi⟩ : ∃ i, i = a + L / 4 := ⟨_, rfl⟩
  obtain ⟨j, hj⟩ : ∃ j, j = a + L / 4 * 2 := ⟨_, rfl⟩
  obtain ⟨k, hk⟩ : ∃ k, k = a + L / 4 * 3 := ⟨_, rfl⟩
  have HE : Hid (i = a + L / 4 ∧ j = a + L / 4 * 2 ∧ k = a + L / 4 * 3) := ⟨hi, hj, hk⟩
  have B : Hid (1 ≤ i ∧ i + 1 < len ∧ 1 ≤ j ∧ j + 1 < len ∧ 1 ≤ k ∧ k + 1 < len ∧ a + 1 ≤ i ∧ a + 1 ≤ j ∧ a + 1 ≤ k ∧ i + 1 < a + L ∧ j + 1 < a + L ∧ k + 1 < a + L) := by refine ⟨?_, ?_, ?_, ?_, ?_, ?_, ?_, ?_, ?_, ?_, ?_, ?_⟩ <;> omega
  clear hH hlen RC hi hj hk
  go_enter Tryz.func96, Tryz.ntmps96
  go_wp2_with fail
  · have h50 : 50 ≤ L := by omega
    rw [show ((a : Int) + ((a : Int) + (L : Int) - (a : Int)) / 4) = (i : Int) by have := HE.out; omega, show ((a : Int) + ((a : Int) + (L : Int) - (a : Int)) / 4 * 2) = (j : Int) by have := HE.out; omega, show ((a : Int) + ((a : Int) + (L : Int) - (a : Int)) / 4 * 3) = (k : Int) by have := HE.out; omega]
    have B0 := B.out
    refine (ADJ.out _ 0 i RC0.out (by omega) (by omega) (by omega)).mono ?_
    rintro e w1 ⟨x1, s1, rfl, g1, l1, c1, r1⟩
    have q1 : x1 < len := by omega
    have P1 : Hid (a ≤ x1 ∧ x1 < a + L) := by show _ ∧ _; omega
    clear B0
    go_wp2_with fail
    have B0 := B.out
    refine (ADJ.out _ s1 j r1 (by omega) (by omega) (by omega)).mono ?_
    rintro e w2 ⟨x2, s2, rfl, g2, l2, c2, r2⟩
    have q2 : x2 < len := by omega
    have P2 : Hid (a ≤ x2 ∧ x2 < a + L) := by show _ ∧ _; omega
    clear B0
    go_wp2_with fail
    have B0 := B.out
    refine (ADJ.out _ s2 k r2 (by omega) (by omega) (by omega)).mono ?_
    rintro e w3 ⟨x3, s3, rfl, g3, l3, c3, r3⟩
    have q3 : x3 < len := by omega
    have P3 : Hid (a ≤ x3 ∧ x3 < a + L) := by show _ ∧ _; omega
    clear B0
    go_wp2_with fail
    refine (MED.out _ s3 x1 x2 x3 r3 (by omega) q1 q2 q3).mono ?_
    rintro e w4 ⟨x4, s4, rfl, h4, c4, r4⟩
    have MZ : Hid (a ≤ x4 ∧ x4 < a + L) := by have := P1.out; have := P2.out; have := P3.out; show _ ∧ _; omega
    have RF : Hid (RowIs w g off d d w4) := r4.row
    have cc := box_cell r4.ctr
    obtain ⟨Z, hZ⟩ : ∃ Z, Z = x4 := ⟨_, rfl⟩
    rw [← hZ] at MZ ⊢
    clear r4 hZ ADJ MED RC0 r1 r2 r3 h4
    go_wp2
    all_goals
      go_ret2
      exact ⟨Z, _, rfl, MZ.out.1, MZ.out.2, RF.out⟩
  · have h50 : L < 50 := by omega
    rw [show ((a : Int) + ((a : Int) + (L : Int) - (a : Int)) / 4) = (i : Int) by have := HE.out; omega, show ((a : Int) + ((a : Int) + (L : Int) - (a : Int)) / 4 * 2) = (j : Int) by have := HE.out; omega, show ((a : Int) + ((a : Int) + (L : Int) - (a : Int)) / 4 * 3) = (k : Int) by have := HE.out; omega]
    have B0 := B.out
    refine (MED.out _ 0 i j k RC0.out (by omega) (by omega) (by omega) (by omega)).mono ?_
    rintro e w4 ⟨x4, s4, rfl, h4, c4, r4⟩
    have MZ : Hid (a ≤ x4 ∧ x4 < a + L) := by have := B.out; show _ ∧ _; omega
    have RF : Hid (RowIs w g off d d w4) := r4.row
    have cc := box_cell r4.ctr
    obtain ⟨Z, hZ⟩ : ∃ Z, Z = x4 := ⟨_, rfl⟩
    rw [← hZ] at MZ ⊢
    clear r4 hZ ADJ MED RC0 h4 B0
    go_wp2
    all_goals
      go_ret2
      exact ⟨Z, _, rfl, MZ.out.1, MZ.out.2, RF.out⟩
end Go.Proofs.YtboinccdnaddmaaGreatDoor
