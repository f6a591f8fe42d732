/- The walks of drop, put, Set, Clear, Left. -/
import Derived.Test.YtboinccdnaddmaaGreatDoorCkWalk
set_option linter.unusedSimpArgs false
set_option linter.unusedVariables false
set_option maxRecDepth 1000000
namespace Go.Proofs.YtboinccdnaddmaaGreatDoor
open Go.RowKit Go.Maps

section
variable {S0 : Nat → Prop} {w0 w w' : World} {L : List Part} {C now n : Nat} {f : Nat → Option Nat} {D : ClkD}
theorem St.clk (h : St S0 w0 w (Part.blk C (clkO D) :: L)) : w.cell? ⟨C, 0, none⟩ = some (passV D.nb) ∧ w.cell? ⟨C, 1, none⟩ = some (inV D.nb) ∧ w.cell? ⟨C, 2, none⟩ = some (.map (some D.du)) ∧ w.cell? ⟨C, 3, none⟩ = some (.map (some D.wh)) := four_cells h.blk.1
set_option maxHeartbeats 1000000 in
set_option maxRecDepth 1000000 in
theorem drop_ok (id : Nat) (hid : id < 4294967296) (hl : ∀ j t, f j = some t → t < 18446744073709551616) (h : St S0 w0 w (clkP C now f n :: L)) :
    Calls Tryz.prog 18 #[ptr C, .int .u32 (id : Int)] w fun e w' => e = .returned (.bool (f id).isSome) ∧ St S0 w0 w' (clkP C now (updF f id none) n :: L) := by
  obtain ⟨D, ho, s1⟩ := clk_open h
  have q1 := when_look (s1.pick 3 rfl) id hid
  obtain ⟨c0, c1, c2, c3⟩ := s1.clk
  cases hf : f id with
  | none =>
    rw [hf] at q1
    have hS : Hid (St S0 w0 w (clkP C now (updF f id none) n :: L)) := by show St _ _ _ _; rw [updF_eq f id none hf]; exact h
    clear h s1 ho
    go_enter Tryz.func18, Tryz.ntmps18
    go_wp2
    go_ret
    exact ⟨rfl, hS.out⟩
  | some t =>
    rw [hf] at q1
    simp only [Option.getD_some, Option.isSome_some] at q1
    have ht : t < 18446744073709551616 := hl id t hf
    obtain ⟨b, s, hm, hs⟩ := (ho.mem id t).1 hf
    have hdt : D.hd t = some b := (ho.hd t b).2 ⟨s, hm⟩
    obtain ⟨cs0, hp⟩ := perm_front hm
    have ho2 : ClkOk now f ⟨D.nb, D.du, D.wh, D.hd, (t, b, s) :: cs0⟩ := ClkOk.perm (cs := D.cs) ho hp
    -- the crowd to the front
    have s2 := ((s1.pick 4 rfl).all_perm (hp.map (crowdP n))).all_cons
    -- parts: crowd, all cs0, clk, now, due, when
    have s3 := s2.rt (K := [_, _, _, _, _, _]) 6 [5, 2, 3, 4, 0, 1] (by decide)
    obtain ⟨w1, r1, s4, g1⟩ := s3.mdel (t := 62) (e := 67) (i := id) Tryz.underlying43 Tryz.underlying62 (wf_u32 hid) 0
    have q2 := due_look (s4.pick 3 rfl) t ht
    rw [hdt] at q2
    have d1 := (s4.pick 1 rfl).clk
    obtain ⟨w2, r2, s5, g2⟩ := (s4.pick 4 rfl).mdel (t := 76) (e := 77) (i := id) Tryz.underlying43 Tryz.underlying76 (wf_u32 hid) 0
    have s5' := s5.rt (K := [_, _, _, _, _, _]) 6 [2, 3, 4, 1, 0, 5] (by decide)
    have d2 := s5'.clk
    have q3 := due_look (s5'.pick 2 rfl) t ht
    rw [hdt] at q3
    obtain ⟨m, r3, hm1, hm2⟩ := s5.mlen (t := 76) (e := 77) Tryz.underlying43 Tryz.underlying76 3
    obtain ⟨w3, r4, s6, g3⟩ := (s5'.pick 2 rfl).mdel (t := 61) (e := 76) (i := t) Tryz.underlying67 Tryz.underlying61 (wf_u64 ht) 0
    have A : Hid (m ≠ 0 → St S0 w0 w2 (clkP C now (updF f id none) n :: L)) := fun hm0 => by
      refine clk_shut (D := ⟨D.nb, D.du, D.wh, D.hd, (t, b, updF s id none) :: cs0⟩) (ho2.del hf) ?_
      have := (s5'.rt (K := [_, _, _, _, _, _]) 6 [4, 5, 0, 1, 2, 3] (by decide)).cons_all
      exact this.rt (K := [_, _, _, _, _]) 5 [1, 2, 3, 4, 0] (by decide)
    have B : Hid (m = 0 → St S0 w0 w3 (clkP C now (updF f id none) n :: L)) := fun hm0 => by
      have hz : ∀ j, updF s id none j = none := fun j => by
        cases hj : updF s id none j with
        | none => rfl
        | some x => have := hm2 j (by rw [hj]; simp); omega
      refine clk_shut (D := ⟨D.nb, D.du, D.wh, updF D.hd t none, cs0⟩) ((ho2.del hf).gone hz) ?_
      exact (s6.pick 4 rfl).drop.rt (K := [_, _, _, _, _]) 5 [1, 2, 0, 3, 4] (by decide)
    obtain ⟨e0, e1, e2, e3⟩ := d1
    obtain ⟨f0, f1, f2, f3⟩ := d2
    clear h s1 s2 s3 s4 s5 s5' s6 ho ho2 hp hm hs hdt hl hm2 g1 g2 g3 hf
    by_cases hm0 : m = 0
    · subst hm0
      have HS := B.out rfl
      clear A B
      go_enter Tryz.func18, Tryz.ntmps18
      go_wp2
      go_ret
      exact ⟨rfl, HS⟩
    · have HS := A.out hm0
      have hm0z : ((m : Int) == 0) = false := by simpa using hm0
      clear A B
      go_enter Tryz.func18, Tryz.ntmps18
      go_wp2
      go_ret
      exact ⟨rfl, HS⟩
theorem Parts.map_mono {P Q : Crowd → Part} (hk : ∀ c w S, (P c).holds w S → (Q c).holds w S) : ∀ {cs : List Crowd} {w : World} {S : Nat → Prop}, Parts (cs.map P) w S → Parts (cs.map Q) w S := by
  intro cs
  induction cs with
  | nil => intro w S h; exact h
  | cons c cs ih =>
    rintro w S ⟨S1, S2, h1, h2, h3, h4⟩
    exact ⟨S1, S2, hk c w S1 h1, ih h2, h3, h4⟩
theorem St.crowds_mono {cs : List Crowd} (h : St S0 w0 w (Part.all (cs.map (crowdP n)) :: L)) : St S0 w0 w (Part.all (cs.map (crowdP (n + 1))) :: L) :=
  h.keep (fun S hS => ⟨S, Parts.map_mono (P := crowdP n) (Q := crowdP (n + 1)) (fun c w S hc => (by obtain ⟨⟨D, h1, h2⟩, h3⟩ := hc; exact ⟨⟨D, h1.mono (Nat.le_succ n), h2⟩, h3⟩)) hS, fun _ h => h⟩)
set_option maxHeartbeats 1000000 in
set_option maxRecDepth 1000000 in
theorem put_ok (id at_ : Nat) (hid : id < 4294967296) (hf : f id = none) (ht : at_ < 18446744073709551616) (hnow : now < at_) (hn : n < 1000000000) (h : St S0 w0 w (clkP C now f n :: L)) :
    Calls Tryz.prog 19 #[ptr C, .int .u32 (id : Int), .int .u64 (at_ : Int)] w fun e w' => e = .returned (.tuple #[]) ∧ St S0 w0 w' (clkP C now (updF f id (some at_)) (n + 1) :: L) := by
  have hmx : n < maxLen := by unfold maxLen; omega
  obtain ⟨D, ho, s1⟩ := clk_open h
  have q1 := due_look (s1.pick 2 rfl) at_ ht
  have d0 := s1.clk
  have hwf := wf_u32 hid
  have hwt := wf_u64 ht
  have hb := tickR_mk ht
  have hu : unitElem (H := Unit) (.agg #[]) = some (DataW.agg [], []) := unitElem_mk
  cases hh : D.hd at_ with
  | some b =>
    rw [hh] at q1
    obtain ⟨s, hm⟩ := (ho.hd at_ b).1 hh
    obtain ⟨cs0, hp⟩ := perm_front hm
    have ho2 : ClkOk now f ⟨D.nb, D.du, D.wh, D.hd, (at_, b, s) :: cs0⟩ := ClkOk.perm (cs := D.cs) ho hp
    have s2 := ((s1.pick 4 rfl).all_perm (hp.map (crowdP n))).all_cons
    have e1 := run_eql_map w (some b)
    obtain ⟨w2, r2, s3, g2⟩ := s2.mput (t := 76) (e := 77) (i := id) (x := ()) Tryz.underlying43 Tryz.underlying76 hmx hu hwf
    have s4 := s3.rt (K := [_, _, _, _, _, _]) 6 [5, 2, 3, 4, 0, 1] (by decide)
    have d2 := (s4.pick 1 rfl).clk
    obtain ⟨w3, r3, s5, g3⟩ := s4.mput (t := 62) (e := 67) (i := id) (x := at_) Tryz.underlying43 Tryz.underlying62 hmx hb hwf
    have HS : Hid (St S0 w0 w3 (clkP C now (updF f id (some at_)) (n + 1) :: L)) := by
      refine clk_shut (D := ⟨D.nb, D.du, D.wh, D.hd, (at_, b, updF s id (some ())) :: cs0⟩) (ho2.put hf hnow) ?_
      have s6 := ((s5.pick 5 rfl).crowds_mono.rt (K := [_, _, _, _, _, _]) 6 [5, 0, 1, 2, 3, 4] (by decide)).cons_all
      have s7 := s6.rt (K := [_, _, _, _, _]) 5 [4, 0, 1, 2, 3] (by decide)
      have s8 := s7.mapF_mono (Nat.le_succ n)
      exact s8.rt (K := [_, _, _, _, _]) 5 [3, 4, 0, 2, 1] (by decide)
    obtain ⟨c0, c1, c2, c3⟩ := d0
    obtain ⟨f0, f1, f2, f3⟩ := d2
    clear h s1 s2 s3 s4 s5 ho ho2 hp hm hh g2 g3 hf hb hu hwf hwt
    go_enter Tryz.func19, Tryz.ntmps19
    go_wp2
    go_end0
    exact ⟨rfl, HS.out⟩
  | none =>
    rw [hh] at q1
    have e1 := run_eql_map w none
    have hmm := @run_makeMap Tryz.prog
    have s1a := s1.mapF_new 43 .u32 unitElem (fun (_ : Unit) => DataW.agg [])
    -- parts: the new crowd, clk, now, due, when, all
    have d1 := (s1a.pick 1 rfl).clk
    obtain ⟨w1, r1, s2, g1⟩ := (s1a.pick 3 rfl).mput (t := 61) (e := 76) (i := at_) (x := w.heap.size) (val := .map (some w.heap.size)) Tryz.underlying67 Tryz.underlying61 hmx (by rfl) hwt
    have ho2 := ClkOk.fresh (nb := D.nb) (du := D.du) (wh := D.wh) (cs := D.cs) ho hh w.heap.size
    have q2 := due_look (D := ⟨D.nb, D.du, D.wh, updF D.hd at_ (some w.heap.size), []⟩) s2 at_ ht
    simp only [updF_same] at q2
    have d2 := (s2.pick 2 rfl).clk
    obtain ⟨w2, r2, s3, g2⟩ := (s2.pick 1 rfl).mput (t := 76) (e := 77) (i := id) (x := ()) Tryz.underlying43 Tryz.underlying76 (by unfold maxLen; omega) hu hwf
    -- parts: crowd, due, clk, now, when, all
    have d3 := (s3.pick 2 rfl).clk
    obtain ⟨w3, r3, s4, g3⟩ := (s3.pick 4 rfl).mput (t := 62) (e := 67) (i := id) (x := at_) Tryz.underlying43 Tryz.underlying62 hmx hb hwf
    -- parts: when, crowd, due, clk, now, all
    have HS : Hid (St S0 w0 w3 (clkP C now (updF f id (some at_)) (n + 1) :: L)) := by
      refine clk_shut (D := ⟨D.nb, D.du, D.wh, updF D.hd at_ (some w.heap.size), (at_, w.heap.size, updF noneD id (some ())) :: D.cs⟩) (ho2.put hf hnow) ?_
      have s5 := (s4.pick 5 rfl).crowds_mono
      have s6 := (s5.pick 2 rfl).mapF_mono (n' := n + 1) (by omega)
      have s7 := (s6.rt (K := [_, _, _, _, _, _]) 6 [0, 1, 2, 3, 4, 5] (by decide)).cons_all
      exact s7.rt (K := [_, _, _, _, _]) 5 [3, 4, 2, 1, 0] (by decide)
    obtain ⟨c0, c1, c2, c3⟩ := d0
    obtain ⟨e0, e4, e2, e3⟩ := d1
    obtain ⟨f0, f1, f2, f3⟩ := d2
    obtain ⟨h0, h1, h2, h3⟩ := d3
    clear h s1 s1a s2 s3 s4 ho ho2 hh g1 g2 g3 hf hb hu hwf hwt
    go_enter Tryz.func19, Tryz.ntmps19
    go_wp2
    go_end0
    exact ⟨rfl, HS.out⟩
end
end Go.Proofs.YtboinccdnaddmaaGreatDoor
