/- The walk of Tick. -/
import Derived.Test.YtboinccdnaddmaaGreatDoorCkCalls
set_option linter.unusedSimpArgs false
set_option linter.unusedVariables false
set_option maxRecDepth 1000000
namespace Go.Proofs.YtboinccdnaddmaaGreatDoor
open Go.RowKit Go.Maps

theorem row_at {w : World} {base : Nat} {e : TypeId} {v : Value} {n : Nat} {xs : List Value} (h : w.ownsRow base e 1 v n xs) {g cap : Nat} (hv : v = .slice (some ⟨g, 0, none⟩) n cap) (i : Nat) (u : Value) (hu : xs[i]? = some u) (hx : xs.length = n) : w.cell? ⟨g, i, none⟩ = some u := by
  subst hv
  rcases h.2 with ⟨h1, -⟩ | ⟨g', cap', cur, e1, h2, h3, h4, h5, h6, h7⟩
  · cases h1
  · simp only [Value.slice.injEq, Option.some.injEq, Addr.mk.injEq, and_true, true_and] at e1
    obtain ⟨rfl, rfl⟩ := e1
    rw [Nat.mul_one] at h7
    have hi : i < n := by
      rcases Nat.lt_or_ge i n with h' | h'
      · exact h'
      · rw [List.getElem?_eq_none (by omega)] at hu; cases hu
    have h8 : (cur.toList.take n)[i]? = some u := by rw [h7]; exact hu
    rw [List.getElem?_take, if_pos hi, Array.getElem?_toList] at h8
    simp [World.cell?, h3, h8]
theorem row_form {w : World} {base : Nat} {e : TypeId} {v : Value} {n : Nat} {xs : List Value} (h : w.ownsRow base e 1 v n xs) : ∃ ao cap, v = .slice ao n cap ∧ (0 < n → ∃ g, ao = some ⟨g, 0, none⟩) := by
  rcases h.2 with ⟨rfl, h1⟩ | ⟨g', cap', cur, e1, -⟩
  · exact ⟨none, 0, by rw [h1], fun h => by omega⟩
  · exact ⟨_, cap', e1, fun _ => ⟨g', rfl⟩⟩

/-- The first k of ys are not set any more. -/
def cutF (f : Nat → Option Nat) (ys : List Nat) (k : Nat) : Nat → Option Nat := fun j => if j ∈ ys.take k then none else f j
theorem cutF_zero (f : Nat → Option Nat) (ys : List Nat) : cutF f ys 0 = f := by funext j; simp [cutF]
theorem cutF_step (f : Nat → Option Nat) (ys : List Nat) (k x : Nat) (hx : ys[k]? = some x) : updF (cutF f ys k) x none = cutF f ys (k + 1) := by
  funext j
  unfold cutF updF
  have ht : ys.take (k + 1) = ys.take k ++ [x] := by rw [List.take_add_one, hx]; rfl
  rw [ht]
  by_cases e : j = x
  · subst e; simp
  · simp [e]
theorem cutF_end (f : Nat → Option Nat) (ys : List Nat) (t : Nat) (h : ∀ x, x ∈ ys ↔ f x = some t) : cutF f ys ys.length = fun j => if f j = some t then none else f j := by
  funext j
  unfold cutF
  rw [List.take_length]
  simp only [h]
section
variable {S0 : Nat → Prop} {w0 w w' : World} {L : List Part} {C now n : Nat} {f : Nat → Option Nat}
/-- From where those of a tick are known: they are taken out, told. -/
theorem tick_core (D : ClkD) (cr : List Part) (s : Nat → Option Unit) (m : Option Nat) (hm : D.hd (now + 1) = m) (hnow : now < 1000000000) (hn : n ≤ 1000000000) (hN : Near f)
    (hs : ∀ j, s j ≠ none ↔ f j = some (now + 1))
    (h : St S0 w0 w (Part.blk C (clkO D) :: Part.blk D.nb (nowO now) :: dueP n D :: whenP n f D :: Part.all cr :: L))
    (hk : ∀ W, St S0 w0 W (Part.blk C (clkO D) :: Part.blk D.nb (nowO (now + 1)) :: dueP n D :: whenP n f D :: Part.all cr :: L) → ∀ b, m = some b → ∃ D', W.ownsMap Tryz.prog 43 unitElem b n D' ∧ FnM .u32 (fun _ => DataW.agg []) D' s)
    (hz : m = none → s = noneD) :
    Calls Tryz.prog 9 #[ptr C] w fun e w' => ∃ (v : Value) (ys : List Nat), e = .returned v ∧ ys.Pairwise (· < ·) ∧ (∀ x, x ∈ ys ↔ f x = some (now + 1)) ∧ ys.length ≤ 1000000000 ∧
      St S0 w0 w' (Part.row 43 1 v ys.length (ys.map u32V) :: Part.blk C (clkO D) :: Part.blk D.nb (nowO (now + 1)) :: dueP n ⟨D.nb, D.du, D.wh, updF D.hd (now + 1) none, D.cs⟩ :: whenP n (fun j => if f j = some (now + 1) then none else f j) D :: Part.all cr :: L) := by
  have kt := there_ok w C D h.blk.1
  have kp := pass_ok w D.nb now (by omega) (h.pick 1 rfl).blk.1
  obtain ⟨c0, c1, c2, c3⟩ := h.clk
  unfold passV at c0
  have s1 := (h.pick 1 rfl).set 0 (.int .u64 ((now : Int) + 1))
  rw [show (#[Value.int .u64 (now : Int)].setIfInBounds 0 (.int .u64 ((now : Int) + 1))) = #[Value.int .u64 (((now + 1 : Nat) : Int))] by simp] at s1
  have s2 : St S0 w0 _ (Part.blk C (clkO D) :: Part.blk D.nb (nowO (now + 1)) :: dueP n D :: whenP n f D :: Part.all cr :: L) := s1.swap
  obtain ⟨w1, hw1⟩ : ∃ w1, w1 = w.setCell ⟨D.nb, 0, none⟩ (.int .u64 ((now : Int) + 1)) := ⟨_, rfl⟩
  rw [← hw1] at s2 kp
  have q1 := due_look (s2.pick 2 rfl) (now + 1) (by omega)
  rw [hm, show ((now + 1 : Nat) : Int) = (now : Int) + 1 by omega] at q1
  obtain ⟨d0, d1, d2, d3⟩ := s2.clk
  have kk := keysOf_ok w1 m
  have s3 := s2.alloc (.cells #[.map m] 76)
  have hbx := s3.blk.1
  have ks := sorted_ok (w1.alloc (.cells #[.map m] 76)) w1.heap.size m n s hn (fun W hW => ⟨(hW.block _ (by simp)).trans hbx, by
    cases hmm : m with
    | none => exact .inl ⟨rfl, hz hmm⟩
    | some b =>
      obtain ⟨D', h1, h2⟩ := hk W (s3.drop.up hW) b hmm
      exact .inr ⟨b, D', rfl, h1, h2⟩⟩)
  have SS : Hid (∀ (W : World) (v : Value) (ys : List Nat), W.ownsRow (w1.alloc (.cells #[.map m] 76)).heap.size 43 1 v ys.length (ys.map u32V) → Below (w1.alloc (.cells #[.map m] 76)).heap.size (w1.alloc (.cells #[.map m] 76)) W →
      St S0 w0 W (Part.row 43 1 v ys.length (ys.map u32V) :: Part.blk C (clkO D) :: Part.blk D.nb (nowO (now + 1)) :: dueP n D :: whenP n f D :: Part.all cr :: L)) := fun W v ys h1 h2 => s3.drop.and (St.row_new h1 h2)
  clear h s1 s2 s3 hk hz hbx hw1
  go_enter Tryz.func9, Tryz.ntmps9
  go_wp2_with fail
  refine kt.mono ?_
  rintro e w2 ⟨rfl, ew⟩
  rw [← ew]
  clear ew w2 kt
  go_wp2_with fail
  refine kp.mono ?_
  rintro e w2 ⟨rfl, ew⟩
  rw [← ew]
  clear ew w2 kp c0 c1 c2 c3
  go_wp2_with fail
  refine kk.mono ?_
  rintro e w2 ⟨rfl, ew⟩
  rw [← ew]
  clear ew w2 kk
  go_wp2_with fail
  refine ks.mono ?_
  rintro e w3 ⟨v, ys, rfl, hp, hmem, hr, hb, hl⟩
  have s4 := SS.out w3 v ys hr hb
  obtain ⟨ao, cap, rfl, hao⟩ := row_form hr
  have hmem2 : Hid (∀ x, x ∈ ys ↔ f x = some (now + 1)) := fun x => (hmem x).trans (hs x)
  have HP : Hid (ys.Pairwise (· < ·)) := hp
  obtain ⟨e0, e1, e2, e3⟩ := (s4.pick 1 rfl).clk
  obtain ⟨w4, r4, s5, g4⟩ := (s4.pick 3 rfl).mdel (t := 61) (e := 76) (i := now + 1) Tryz.underlying67 Tryz.underlying61 (wf_u64 (by omega)) 0
  rw [show ((now + 1 : Nat) : Int) = (now : Int) + 1 by omega] at r4
  have S5 : Hid (St S0 w0 w4 (whenP n (cutF f ys 0) D :: Part.row 43 1 (.slice ao ys.length cap) ys.length (ys.map u32V) :: Part.blk C (clkO D) :: Part.blk D.nb (nowO (now + 1)) :: dueP n ⟨D.nb, D.du, D.wh, updF D.hd (now + 1) none, D.cs⟩ :: Part.all cr :: L)) := by
    show St _ _ _ _
    rw [cutF_zero]
    exact s5.rt (K := [_, _, _, _, _, _]) 6 [4, 1, 2, 3, 0, 5] (by decide)
  clear ks SS s4 s5 hr hb hmem hp q1 d0 d1 d2 d3 g4
  obtain ⟨Z, hZ⟩ : ∃ Z, Z = ys.length := ⟨_, rfl⟩
  have HZ : Hid (Z = ys.length) := hZ
  rw [← hZ] at hao hl ⊢
  clear hZ
  go_wp2
  go_loopw [30] (fun u W => ∃ k : Nat, u = .int .i64 k ∧ k ≤ Z ∧ St S0 w0 W (whenP n (cutF f ys k) D :: Part.row 43 1 (.slice ao ys.length cap) ys.length (ys.map u32V) :: Part.blk C (clkO D) :: Part.blk D.nb (nowO (now + 1)) :: dueP n ⟨D.nb, D.du, D.wh, updF D.hd (now + 1) none, D.cs⟩ :: Part.all cr :: L)) (fun u _ => Z - (intOf u).toNat)
  case atStart => exact ⟨0, rfl, Nat.zero_le _, S5.out⟩
  case round =>
    obtain ⟨k, rfl, hk, s6⟩ := hrel
    by_cases hlt : k < Z
    · obtain ⟨g, rfl⟩ := hao (by omega)
      have hk2 : k < ys.length := by rw [← HZ.out]; exact hlt
      obtain ⟨x, hx⟩ : ∃ x, ys[k]? = some x := ⟨ys[k]'hk2, List.getElem?_eq_getElem hk2⟩
      have hxm : x ∈ ys := List.mem_of_getElem? hx
      have hx32 := (hN x _ ((hmem2.out x).1 hxm)).1
      have cx : wr.cell? ⟨g, k, none⟩ = some (.int .u32 (x : Int)) := row_at (s6.pick 1 rfl).row rfl k _ (by rw [List.getElem?_map, hx]; rfl) (by simp)
      obtain ⟨w7, r7, s7, g7⟩ := s6.mdel (t := 62) (e := 67) (i := x) Tryz.underlying43 Tryz.underlying62 (wf_u32 hx32) 0
      rw [cutF_step f ys k x hx] at s7
      obtain ⟨f0, f1, f2, f3⟩ := (s6.pick 2 rfl).clk
      have S7 : Hid (St S0 w0 w7 (whenP n (cutF f ys (k + 1)) D :: Part.row 43 1 (.slice (some ⟨g, 0, none⟩) ys.length cap) ys.length (ys.map u32V) :: Part.blk C (clkO D) :: Part.blk D.nb (nowO (now + 1)) :: dueP n ⟨D.nb, D.du, D.wh, updF D.hd (now + 1) none, D.cs⟩ :: Part.all cr :: L)) := s7
      clear s6 s7 g7 hx hk2 hxm
      go_wp2
      go_roundw
      case rel => exact ⟨k + 1, by go_num, by omega, S7.out⟩
      case measure => (simp [intOf]; try omega)
    · obtain rfl : k = Z := by omega
      go_wp2
      go_ret
      refine ⟨_, ys, by rw [HZ.out], HP.out, hmem2.out, by rw [← HZ.out]; exact hl, ?_⟩
      rw [HZ.out, cutF_end f ys (now + 1) hmem2.out] at s6
      exact s6.rt (K := [_, _, _, _, _]) 5 [1, 2, 3, 4, 0] (by decide)
/-- Who is told at the next tick is not set any more. -/
def tickF (f : Nat → Option Nat) (t : Nat) : Nat → Option Nat := fun j => if f j = some t then none else f j
theorem Tick_ok (hnow : now < 1000000000) (hn : n ≤ 1000000000) (hN : Near f) (h : St S0 w0 w (clkP C now f n :: L)) :
    Calls Tryz.prog 9 #[ptr C] w fun e w' => ∃ (v : Value) (ys : List Nat), e = .returned v ∧ ys.Pairwise (· < ·) ∧ (∀ x, x ∈ ys ↔ f x = some (now + 1)) ∧ ys.length ≤ 1000000000 ∧
      St S0 w0 w' (Part.row 43 1 v ys.length (ys.map u32V) :: clkP C (now + 1) (tickF f (now + 1)) n :: L) := by
  obtain ⟨D, ho, s1⟩ := clk_open h
  cases hd : D.hd (now + 1) with
  | none =>
    have hid := ClkOk.idle (nb := D.nb) (du := D.du) (wh := D.wh) (cs := D.cs) ho hd
    refine (tick_core D _ noneD none hd hnow hn hN (fun j => ⟨fun h => absurd rfl h, fun h => absurd h (hid.2 j)⟩) s1 (fun _ _ b h => by cases h) (fun _ => rfl)).mono ?_
    rintro e w' ⟨v, ys, rfl, h1, h2, h3, s2⟩
    refine ⟨v, ys, rfl, h1, h2, h3, ?_⟩
    have hf : tickF f (now + 1) = f := funext fun j => if_neg (hid.2 j)
    rw [show (fun j => if f j = some (now + 1) then none else f j) = f from hf] at s2
    rw [hf]
    have s3 := clk_shut (D := ⟨D.nb, D.du, D.wh, updF D.hd (now + 1) none, D.cs⟩) (L := [Part.row 43 1 v ys.length (ys.map u32V)] ++ L) (now := now + 1) (f := f) (by rw [updF_eq _ _ _ hd]; exact hid.1) (s2.rt (K := [_, _, _, _, _, _]) 6 [1, 2, 3, 4, 5, 0] (by decide))
    exact s3.swap
  | some b =>
    obtain ⟨s, hm⟩ := (ho.hd (now + 1) b).1 hd
    obtain ⟨cs0, hp⟩ := perm_front hm
    have ho2 : ClkOk now f ⟨D.nb, D.du, D.wh, D.hd, (now + 1, b, s) :: cs0⟩ := ClkOk.perm (cs := D.cs) ho hp
    have ht := ho2.tick
    have s2 := (((s1.pick 4 rfl).all_perm (hp.map (crowdP n))).rt (K := [_, _, _, _, _]) 5 [1, 2, 3, 4, 0] (by decide))
    refine (tick_core ⟨D.nb, D.du, D.wh, D.hd, (now + 1, b, s) :: cs0⟩ _ s (some b) hd hnow hn hN ht.2 s2 (fun W hW c hc => ?_) (fun h => by cases h)).mono ?_
    · cases hc
      exact ((hW.pick 4 rfl).all_cons.mapF).1
    · rintro e w' ⟨v, ys, rfl, h1, h2, h3, s3⟩
      refine ⟨v, ys, rfl, h1, h2, h3, ?_⟩
      have s4 := ((s3.pick 5 rfl).all_cons).drop
      have s5 := clk_shut (D := ⟨D.nb, D.du, D.wh, updF D.hd (now + 1) none, cs0⟩) (L := [Part.row 43 1 v ys.length (ys.map u32V)] ++ L) ht.1 (s4.rt (K := [_, _, _, _, _, _]) 6 [2, 3, 4, 5, 0, 1] (by decide))
      exact s5.swap
end
end Go.Proofs.YtboinccdnaddmaaGreatDoor
