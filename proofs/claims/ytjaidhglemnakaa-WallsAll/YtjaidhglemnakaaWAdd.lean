/- The walks of Add and Room. -/
import Derived.Test.YtjaidhglemnakaaWPut
set_option linter.unusedSimpArgs false
set_option linter.unusedVariables false
namespace Go.Proofs.Ytjaidhglemnakaa
open Go.RowKit Go.Maps

theorem LgAt.drew {w : World} {L B : Nat} {S : List Nat} {d : Dk} {n : Nat} (h : LgAt w L B S d n) (k : Nat) : LgAt (w.drewN k) L B S d n := h.below (below_drewN w k)
set_option maxHeartbeats 800000 in
theorem add_ok {w : World} {L B : Nat} {S : List Nat} {d : Dk} {n : Nat} (h : LgAt w L B S d n) (v : Value) (r : List UInt8) (hv : InAt w w.heap.size v r) (hr : r.length ≤ 16384) (hn : n + secs r.length ≤ d.sure.length) (hw : d.ws.length ≤ 900000) :
    Calls Try.prog 8 #[.pointer (some ⟨L, 0, none⟩), v] w fun e w' =>
      e = .returned (.int .i64 0) ∧ ∃ S', LgAt w' L B S' (d.added n r) (n + secs r.length) ∧ Chg (L :: S) w w' ∧ ∀ x ∈ S', x ∈ S ∨ w.heap.size ≤ x := by
  have kt := lthere_ok h
  have kp := put_ok w v r hv hr
  have hfl := frame_len r
  have hsl := secs_lt r.length
  have kf := fun (W : World) (hW : LgAt W L B S d n) (ao : Option Addr) (c : Nat) => fits_ok hW (by omega) ao (secs r.length) c (by omega)
  rw [show decide (n + secs r.length ≤ d.sure.length) = true by simpa using hn] at kf
  have kw := fun (W : World) (hW : LgAt W L B S d n) (G : Nat) (hG : FrAt W G (secs r.length) (frame r)) => pwrite_ok hW G (secs r.length) (frame r) hG hfl (by omega) hn hw
  obtain ⟨ao, vc, rfl, -, -, -⟩ := hv
  have hadd : d.added n r = d.puts n (frame r) (secs r.length) := rfl
  rw [hadd]
  obtain ⟨m, hm⟩ : ∃ m, m = secs r.length := ⟨_, rfl⟩
  rw [← hm] at kp kf kw ⊢
  clear hm hadd hn hfl hsl
  go_enter Try.func8, Try.ntmps8
  go_wp2_with fail
  refine kt.mono ?_
  rintro e w1 ⟨rfl, rfl⟩
  clear kt
  go_wp2_with fail
  refine kp.mono ?_
  rintro e w2 ⟨rfl, O2, b2⟩
  clear kp
  have l2 := h.below b2
  go_wp2_with fail
  refine (kf w2 l2 _ _).mono ?_
  rintro e w3 ⟨rfl, k3, rfl⟩
  have l3 := l2.drew k3
  have O3 := BsAt.below O2 (below_drewN w2 k3)
  have b3 := b2.trans ((below_drewN w2 k3).mono b2.size)
  clear kf l2 O2 b2
  go_wp2_with fail
  refine (kw _ l3 _ (own_from' O3 (Nat.zero_le _))).mono ?_
  rintro e w4 ⟨rfl, S', q1, q2, q3⟩
  clear kw
  go_wp2
  go_ret
  have hz := b3.size
  exact ⟨rfl, S', q1, (Chg.of_below b3 _).trans q2 (fun x hx => .inl hx), fun x hx => (q3 x hx).imp id (fun h => by omega)⟩
theorem add_full {w : World} {L B : Nat} {S : List Nat} {d : Dk} {n : Nat} (h : LgAt w L B S d n) (v : Value) (r : List UInt8) (hv : InAt w w.heap.size v r) (hr : r.length ≤ 16384) (hn : n ≤ d.sure.length) (hf : ¬ n + secs r.length ≤ d.sure.length) :
    Calls Try.prog 8 #[.pointer (some ⟨L, 0, none⟩), v] w fun e w' => e = .returned (.int .i64 5) ∧ Below w.heap.size w w' := by
  have kt := lthere_ok h
  have kp := put_ok w v r hv hr
  have hsl := secs_lt r.length
  have kf := fun (W : World) (hW : LgAt W L B S d n) (ao : Option Addr) (c : Nat) => fits_ok hW (by omega) ao (secs r.length) c (by omega)
  rw [show decide (n + secs r.length ≤ d.sure.length) = false by simpa using hf] at kf
  obtain ⟨ao, vc, rfl, -, -, -⟩ := hv
  obtain ⟨m, hm⟩ : ∃ m, m = secs r.length := ⟨_, rfl⟩
  rw [← hm] at kp kf
  clear hm hf hsl
  go_enter Try.func8, Try.ntmps8
  go_wp2_with fail
  refine kt.mono ?_
  rintro e w1 ⟨rfl, rfl⟩
  clear kt
  go_wp2_with fail
  refine kp.mono ?_
  rintro e w2 ⟨rfl, O2, b2⟩
  clear kp
  have l2 := h.below b2
  go_wp2_with fail
  refine (kf w2 l2 _ _).mono ?_
  rintro e w3 ⟨rfl, k3, rfl⟩
  have b3 := b2.trans ((below_drewN w2 k3).mono b2.size)
  clear kf l2 O2 b2
  go_wp2
  go_ret
  exact ⟨rfl, b3⟩
theorem add_big {w : World} {L B : Nat} {S : List Nat} {d : Dk} {n : Nat} (h : LgAt w L B S d n) (v : Value) (r : List UInt8) (hv : InAt w w.heap.size v r) (hr : 16384 < r.length) :
    Calls Try.prog 8 #[.pointer (some ⟨L, 0, none⟩), v] w fun e w' => e = .returned (.int .i64 3) ∧ w = w' := by
  have kt := lthere_ok h
  have kp := put_big w v r hv hr
  obtain ⟨ao, vc, rfl, -, -, -⟩ := hv
  clear h
  go_enter Try.func8, Try.ntmps8
  go_wp2_with (first
    | (go_at_call 21; refine kt.mono ?_; rintro e w1 ⟨rfl, rfl⟩)
    | (go_at_call 22; refine kp.mono ?_; rintro e w1 ⟨rfl, rfl⟩))
  go_ret
  exact ⟨rfl, rfl⟩
theorem room_out {w : World} {L B : Nat} {S : List Nat} {d : Dk} {n : Nat} (h : LgAt w L B S d n) (k : Int) (hk : k < 0 ∨ 16384 < k) :
    Calls Try.prog 10 #[.pointer (some ⟨L, 0, none⟩), .int .i64 k] w fun e w' => e = .returned (.bool false) ∧ w = w' := by
  have kt := lthere_ok h
  clear h
  by_cases h0 : k < 0
  · go_enter Try.func10, Try.ntmps10
    go_wp2_with (first | (go_at_call 21; refine kt.mono ?_; rintro e w1 ⟨rfl, rfl⟩))
    go_ret
    exact ⟨rfl, rfl⟩
  · have h1 : 16384 < k := by omega
    go_enter Try.func10, Try.ntmps10
    go_wp2_with (first | (go_at_call 21; refine kt.mono ?_; rintro e w1 ⟨rfl, rfl⟩))
    go_ret
    exact ⟨rfl, rfl⟩
set_option maxHeartbeats 800000 in
set_option maxRecDepth 1000000 in
theorem room_in {w : World} {L B : Nat} {S : List Nat} {d : Dk} {n : Nat} (h : LgAt w L B S d n) (hn : n ≤ d.sure.length) (k : Nat) (hk : k ≤ 16384) :
    Calls Try.prog 10 #[.pointer (some ⟨L, 0, none⟩), .int .i64 (k : Int)] w fun e w' => e = .returned (.bool (decide (n + secs k ≤ d.sure.length))) ∧ Below w.heap.size w w' := by
  have kt := lthere_ok h
  obtain ⟨i0, hi, hz0, hz1, hz2⟩ := info_parts info_u8
  have hsl := secs_lt k
  have kf := fun (W : World) (hW : LgAt W L B S d n) (ao : Option Addr) (c : Nat) => fits_ok hW hn ao (secs k) c (by omega)
  have i1 : ¬ (k : Int) < 0 := by omega
  have i2 : ¬ (16384 : Int) < (k : Int) := by omega
  have kp : ∀ (W : World) (g base : Nat), BsAt W base (.slice (some ⟨g, 0, none⟩) k k) (List.replicate k 0) → Calls Try.prog 22 #[.slice (some ⟨g, 0, none⟩) k k] W fun e w' => e = .returned (.tuple #[.slice (some ⟨W.heap.size, 0, none⟩) (secs k * 64) (secs k * 64), .int .i64 0]) ∧ Below W.heap.size W w' := fun W g base hW => by
    have := put_ok W _ (List.replicate k 0) hW.in (by rw [List.length_replicate]; exact hk)
    rw [List.length_replicate] at this
    exact this.mono fun e w' ⟨h1, _, h2⟩ => ⟨h1, h2⟩
  obtain ⟨res, hres⟩ : ∃ res, res = decide (n + secs k ≤ d.sure.length) := ⟨_, rfl⟩
  rw [← hres] at kf ⊢
  clear hres
  obtain ⟨m, hm⟩ : ∃ m, m = secs k := ⟨_, rfl⟩
  rw [← hm] at kp kf
  clear hm hsl hn
  go_enter Try.func10, Try.ntmps10
  go_wp2_with fail
  refine kt.mono ?_
  rintro e w1 ⟨rfl, rfl⟩
  clear kt
  go_wp2_with (at_make; refine wpList_make_full _ rfl _ _ 22 rfl w.heap.size 5 i0 (.int .u8 0) 1 Try.underlying22 hi hz0 hz1 .i64 .i64 _ _ k rfl rfl rfl rfl (by rw [hz2]; omega) (by unfold maxLen; omega) (Nat.le_refl _) ?_; intro w1 hown hgr)
  rw [made_zero] at hown
  have b1 : Below w.heap.size w w1 := (Below.refl _ _).grown hgr (Nat.le_refl _) (fun k e => by cases e)
  have O1 : BsAt w1 w.heap.size (.slice (some ⟨w.heap.size, 0, none⟩) k k) (List.replicate k 0) := by unfold BsAt; rw [List.length_replicate]; exact hown
  have l1 := h.below b1
  clear hown hgr h
  refine (kp w1 _ _ O1).mono ?_
  rintro e w2 ⟨rfl, b2⟩
  have b3 := b1.trans (b2.mono b1.size)
  have l2 := l1.below b2
  clear kp O1 b1 b2 l1
  go_wp2_with fail
  refine (kf w2 l2 _ _).mono ?_
  rintro e w3 ⟨rfl, k3, rfl⟩
  have b4 := b3.trans ((below_drewN w2 k3).mono b3.size)
  clear kf l2 b3
  go_wp2
  go_ret
  exact ⟨rfl, b4⟩
end Go.Proofs.Ytjaidhglemnakaa
