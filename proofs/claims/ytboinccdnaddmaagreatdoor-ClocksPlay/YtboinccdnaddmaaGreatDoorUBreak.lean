/- The walks of xorshift's Next, nextPowerOfTwo and breakPatternsOrdered at uint32: what lies between is permuted. -/
import Derived.Test.YtboinccdnaddmaaGreatDoorUBase
import Derived.Test.YtboinccdnaddmaaGreatDoorShelf
import Derived.Sort.Walk7a
set_option linter.unusedSimpArgs false
set_option linter.unusedVariables false
namespace Go.Proofs.YtboinccdnaddmaaGreatDoor
open Go.RowKit Go.Sort

abbrev rndO (x : Nat) : Obj := .cells #[.int .u64 (x : Int)] 170
theorem xor_u64 (X Y : Nat) (hX : X < 18446744073709551616) (hY : Y < 18446744073709551616) : bits .xor .u64 (X : Int) (Y : Int) = ((X ^^^ Y : Nat) : Int) ∧ X ^^^ Y < 18446744073709551616 :=
  ⟨bits_xor_u64_nat _ _ hX hY, Nat.xor_lt_two_pow (n := 64) (by omega) (by omega)⟩

set_option maxHeartbeats 1000000 in
set_option maxRecDepth 1000000 in
theorem next_ok {w0 w : World} {g off : Nat} {d0 d : Array Nat} (h : RowIs w0 g off d0 d w) (rb X : Nat) (hX : X < 18446744073709551616) (hr : w0.heap.size ≤ rb) (hc : w.heap[rb]? = some (rndO X)) :
    Calls Tryz.prog 107 #[.pointer (some ⟨rb, 0, none⟩)] w fun e w' => ∃ Y : Nat, e = .returned (.int .u64 (Y : Int)) ∧ Y < 18446744073709551616 ∧ RowIs w0 g off d0 d w' ∧ w'.heap[rb]? = some (rndO Y) := by
  obtain ⟨A, hA⟩ : ∃ A : Nat, A = X ^^^ (X * 8192 % 18446744073709551616) := ⟨_, rfl⟩
  have ea := xor_u64 X (X * 8192 % 18446744073709551616) hX (by omega)
  rw [← hA] at ea
  obtain ⟨B, hB⟩ : ∃ B : Nat, B = A ^^^ (A / 128) := ⟨_, rfl⟩
  have eb := xor_u64 A (A / 128) ea.2 (by omega)
  rw [← hB] at eb
  obtain ⟨C, hC⟩ : ∃ C : Nat, C = B ^^^ (B * 131072 % 18446744073709551616) := ⟨_, rfl⟩
  have ec := xor_u64 B (B * 131072 % 18446744073709551616) eb.2 (by omega)
  rw [← hC] at ec
  have e1 : bits .xor .u64 (X : Int) (IntKind.u64.wrap ((X : Int) * 8192)) = (A : Int) := by
    rw [IntKind.wrap_u64, show ((X : Int) * 8192 % 18446744073709551616) = ((X * 8192 % 18446744073709551616 : Nat) : Int) by omega]; exact ea.1
  have e2 : bits .xor .u64 (A : Int) ((A : Int) / 128) = (B : Int) := by
    rw [show ((A : Int) / 128) = ((A / 128 : Nat) : Int) by omega]; exact eb.1
  have e3 : bits .xor .u64 (B : Int) (IntKind.u64.wrap ((B : Int) * 131072)) = (C : Int) := by
    rw [IntKind.wrap_u64, show ((B : Int) * 131072 % 18446744073709551616) = ((B * 131072 % 18446744073709551616 : Nat) : Int) by omega]; exact ec.1
  have lC := ec.2
  have cX := box_cell hc
  have fX := box_frozen (i := 0) hc
  have hss : ∀ v v', (w.setCell ⟨rb, 0, none⟩ v).setCell ⟨rb, 0, none⟩ v' = w.setCell ⟨rb, 0, none⟩ v' := setCell_setCell w rb 0
  have K : Hid (∀ q, RowIs w0 g off d0 d ((w.setCell ⟨rb, 0, none⟩ (.int .u64 (C : Int))).drewN q) ∧ ((w.setCell ⟨rb, 0, none⟩ (.int .u64 (C : Int))).drewN q).heap[rb]? = some (rndO C)) := fun q =>
    ⟨(h.set hr _).drew q, by show (w.setCell _ _).heap[rb]? = _; exact heap_setCell_same w rb 0 _ _ _ hc⟩
  clear hA hB hC ea eb ec hc h
  go_enter Tryz.func107, Tryz.ntmps107
  go_wp2
  go_region
  all_goals go_wp2
  all_goals go_region
  all_goals go_wp2
  all_goals go_region
  all_goals go_wp2
  go_ret
  exact ⟨C, rfl, lC, K.out 3⟩

theorem nextPow_ok (n : Nat) (h0 : 0 < n) (hn : n < 4611686018427387904) (w : World) :
    Calls Tryz.prog 106 #[.int .i64 (n : Int)] w fun e w' => ∃ M : Nat, e = .returned (.int .u64 (M : Int)) ∧ 1 ≤ M ∧ M ≤ 2 * n ∧ w' = w := by
  have hL := Tryz.bits_Len (n : Int) w (by omega) (by omega)
  rw [Int.toNat_natCast, bitLen_eq _ (by omega)] at hL
  have hk : bitsLen n ≤ 62 := (bitsLen_le_iff n 62).2 (by omega)
  have hp := two_pow_bitsLen_le h0
  have hw := wrap_two_pow (bitsLen n) hk
  rw [Nat.one_shiftLeft] at hw
  obtain ⟨k, hkk⟩ : ∃ k, k = bitsLen n := ⟨_, rfl⟩
  rw [← hkk] at hL hk hp hw
  have h1 : 1 ≤ 2 ^ k := Nat.two_pow_pos _
  have HP : Hid (1 ≤ 2 ^ k ∧ 2 ^ k ≤ 2 * n) := ⟨h1, hp⟩
  clear hp hkk h1
  go_enter Tryz.func106, Tryz.ntmps106
  go_wp2_with (go_at_call 91; refine hL.mono ?_; rintro e w' ⟨rfl, rfl⟩)
  go_ret
  exact ⟨2 ^ k, by show Ending.returned (Value.int .u64 ((2 : Int) ^ k)) = _; push_cast; rfl, HP.out.1, HP.out.2, rfl⟩

set_option maxHeartbeats 2000000 in
set_option maxRecDepth 1000000 in
theorem break_ok (g off cap a L len : Nat) (d : Array Nat) (w : World) (hlen : d.size = len) (hH : Holds u32e w g off d) (hg : g < w.heap.size) (hb : a + L ≤ len) (hsz : len < 4611686018427387904) :
    Calls Tryz.prog 95 #[.slice (some ⟨g, off, none⟩) len cap, .int .i64 a, .int .i64 ((a + L : Nat) : Int)] w fun e w' => e = .returned (.tuple #[]) ∧ ∃ d', RowIs w g off d d' w' ∧ PermIn a (a + L) d d' := by
  have HN : Hid (d.size = len) := hlen
  have HH : Hid (Holds u32e w g off d) := hH
  have r0 := RowIs.start hH hg
  clear hH hlen
  by_cases h8 : 8 ≤ L
  · obtain ⟨base, hbase⟩ : ∃ base, base = a + L / 4 * 2 - 1 := ⟨_, rfl⟩
    have HB : Hid (base = a + L / 4 * 2 - 1) := hbase
    have eL : ((a + L : Nat) : Int) - (a : Int) = (L : Int) := by omega
    have kn := fun w => nextPow_ok L (by omega) (by omega) w
    have r1 : RowIs w g off d d (w.alloc (rndO L)) := r0.alloc _
    have c1 : (w.alloc (rndO L)).heap[w.heap.size]? = some (rndO L) := by show (w.heap.push _)[w.heap.size]? = _; exact Array.getElem?_push_size
    have R1 : Hid (RowIs w g off d d (w.alloc (rndO L)) ∧ (w.alloc (rndO L)).heap[w.heap.size]? = some (rndO L)) := ⟨r1, c1⟩
    clear r1 c1 r0 hbase
    go_enter Tryz.func95, Tryz.ntmps95
    go_wp2_with (first | (go_at_call 106; rw [show ((a : Int) + (L : Int) - (a : Int)) = (L : Int) by omega]; refine (kn _).mono ?_; rintro e w' ⟨M, rfl, hM1, hM2, rfl⟩))
    go_loopw [9] (fun v W => ∃ (i X : Nat) (dk : Array Nat), v = .int .i64 i ∧ base ≤ i ∧ i ≤ base + 3 ∧ X < 18446744073709551616 ∧ RowIs w g off d dk W ∧ PermIn a (a + L) d dk ∧ W.heap[w.heap.size]? = some (rndO X)) (fun v _ => base + 3 - (intOf v).toNat)
    case atStart => exact ⟨base, L, d, by rw [HB.out]; congr 1; omega, Nat.le_refl _, by omega, by omega, R1.out.1, permIn_refl _ _ _, R1.out.2⟩
    case round =>
      obtain ⟨i, X, dk, rfl, hi, hi3, hX, hR, hP, hrc⟩ := hrel
      have knx := next_ok hR w.heap.size X hX (Nat.le_refl _) hrc
      have HP : Hid (PermIn a (a + L) d dk) := hP
      have HR : Hid (RowIs w g off d dk wr) := hR
      have hbL : base + 1 = a + L / 4 * 2 := by have := HB.out; omega
      clear hP hR hrc hbL R1 kn
      go_wp2_with fail
      · have hle : i ≤ base + 2 := by have := HB.out; omega
        have hlt : i < a + L := by have := HB.out; omega
        have hai : a ≤ i := by have := HB.out; omega
        refine knx.mono ?_
        rintro e w1 ⟨Y, rfl, hY, hR1, hr1⟩
        obtain ⟨O, hO⟩ : ∃ O : Nat, O = Y &&& (M - 1) := ⟨_, rfl⟩
        have lO : O ≤ M - 1 := by rw [hO]; exact Nat.and_le_right
        have eAnd : bits .and .u64 (Y : Int) ((M : Int) - 1) = (O : Int) := by
          rw [show ((M : Int) - 1) = ((M - 1 : Nat) : Int) by omega, bits_and_u64_nat _ _ hY (by omega), hO]
        clear hO
        obtain ⟨G, hG⟩ : ∃ G : Nat → Nat, ∀ t, G t = dk[t]! := ⟨fun t => dk[t]!, fun _ => rfl⟩
        have cw : ∀ t, t < len → w1.cell? ⟨g, off + t, none⟩ = some (.int .u32 (G t : Int)) := fun t ht => by rw [hG]; exact hR1.cell HH.out t (by rw [HN.out]; exact ht)
        have fw : ∀ t, t < len → w1.frozen? ⟨g, off + t, none⟩ = false := fun t ht => hR1.frozen HH.out t (by rw [HN.out]; exact ht)
        have SW : Hid (∀ o, o < L → RowIs w g off d (swp dk i (a + o)) ((w1.setCell ⟨g, off + i, none⟩ (.int .u32 (G (a + o) : Int))).setCell ⟨g, off + (a + o), none⟩ (.int .u32 (G i : Int))).drew) := fun o ho => by
          rw [hG, hG]
          exact (hR1.swap (j := i) (k := a + o) (by rw [HN.out]; omega) (by rw [HN.out]; omega)).drew 1
        have SP : Hid (∀ o, o < L → PermIn a (a + L) d (swp dk i (a + o))) := fun o ho => permIn_trans _ _ _ _ _ HP.out (swp_permIn _ _ _ _ _ hai hlt (by omega) (by omega) (by rw [HR.out.size, HN.out]; exact hb))
        have SR : Hid (∀ p q u v, ((w1.setCell ⟨g, p, none⟩ u).setCell ⟨g, q, none⟩ v).drew.heap[w.heap.size]? = some (rndO Y)) := fun p q u v => by
          show ((w1.setCell _ _).setCell _ _).heap[w.heap.size]? = _
          rw [Below.heap_setCell _ _ _ _ (by show w.heap.size ≠ g; omega), Below.heap_setCell _ _ _ _ (by show w.heap.size ≠ g; omega)]
          exact hr1
        clear hG hR1 hr1 knx
        go_wp2_with fail
        · have hLO : L ≤ O := by omega
          by_cases hEq : i = a + (O - L)
          all_goals
            go_region
            all_goals go_wp2
            go_roundw
            case rel => exact ⟨i + 1, Y, swp dk i (a + (O - L)), by go_num, by omega, by have := HB.out; omega, hY, by first | exact SW.out (O - L) (by omega) | (have hq := SW.out (O - L) (by omega); rw [← hEq] at hq ⊢; exact hq), SP.out (O - L) (by omega), SR.out _ _ _ _⟩
            case measure => (simp [intOf]; try omega)
        · have hLO : O < L := by omega
          by_cases hEq : i = a + (O)
          all_goals
            go_region
            all_goals go_wp2
            go_roundw
            case rel => exact ⟨i + 1, Y, swp dk i (a + (O)), by go_num, by omega, by have := HB.out; omega, hY, by first | exact SW.out (O) (by omega) | (have hq := SW.out (O) (by omega); rw [← hEq] at hq ⊢; exact hq), SP.out (O) (by omega), SR.out _ _ _ _⟩
            case measure => (simp [intOf]; try omega)
      · go_wp2
        go_end0
        exact ⟨rfl, dk, HR.out, HP.out⟩
  · have h8' : ¬ (8 : Int) ≤ (a : Int) + (L : Int) - (a : Int) := by omega
    go_enter Tryz.func95, Tryz.ntmps95
    go_wp2
    go_end0
    exact ⟨rfl, d, r0, permIn_refl _ _ _⟩
end Go.Proofs.YtboinccdnaddmaaGreatDoor
