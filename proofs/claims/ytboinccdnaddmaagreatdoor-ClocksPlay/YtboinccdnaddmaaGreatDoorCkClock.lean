/- A clock in memory; the walks of its calls. -/
import Derived.Test.YtboinccdnaddmaaGreatDoorCkSorted
set_option linter.unusedSimpArgs false
set_option linter.unusedVariables false
set_option maxRecDepth 1000000
namespace Go.Proofs.YtboinccdnaddmaaGreatDoor
open Go.RowKit Go.Maps

theorem St.shut_pure {S0 : Nat → Prop} {w0 w : World} {L : List Part} {p : Prop} (h : St S0 w0 w L) (hp : p) : St S0 w0 w (Part.pure p :: L) :=
  h.more (Q := [Part.pure p]) (T := fun _ => False) (Below.refl _ _) (parts_one.2 ⟨hp, fun _ h => h⟩) (fun _ h => h.elim)
theorem four_cells {w : World} {B : Nat} {a b c d : Value} {t : TypeId} (h : w.heap[B]? = some (.cells #[a, b, c, d] t (0, 0))) : w.cell? ⟨B, 0, none⟩ = some a ∧ w.cell? ⟨B, 1, none⟩ = some b ∧ w.cell? ⟨B, 2, none⟩ = some c ∧ w.cell? ⟨B, 3, none⟩ = some d := by simp [World.cell?, h]

/-- How an element of a map of maps reads: by its block's number. -/
def hdR : Value → Option (DataW Unit × List MemPlace)
  | .map (some b) => some (.lit (.int .i64 b), [])
  | .map none => some (.lit (.bool false), [])
  | _ => none
def encH (b : Nat) : DataW Unit := .lit (.int .i64 b)
theorem hdR_inv {v : Value} {o : Option Nat} {ps : List MemPlace} (h : hdR v = some ((o.map encH).getD (.lit (.bool false)), ps)) : v = .map o := by
  unfold hdR at h
  split at h
  · rename_i b
    cases o with
    | none => simp at h
    | some c =>
      simp [encH] at h
      have : b = c := by omega
      rw [this]
  · cases o with
    | none => rfl
    | some c => simp [encH] at h
  · cases h
def encT (t : Nat) : DataW Unit := .lit (.int .u64 t)
theorem tickR_mk {t : Nat} (h : t < 18446744073709551616) : (plainElem Tryz.prog 67) (.int .u64 t) = some (encT t, []) :=
  plainElem_int Tryz.underlying67 (by simp [Lit.wf, IntKind.min, IntKind.max, IntKind.signed, IntKind.bits]; omega)
theorem tickR_inv {v : Value} {o : Option Nat} {ps : List MemPlace} (h : (plainElem Tryz.prog 67) v = some ((o.map encT).getD (encT 0), ps)) : v = .int .u64 ((o.getD 0 : Nat) : Int) := by
  obtain ⟨a, rfl, h1, h2⟩ := plainElem_int_inv Tryz.underlying67 h
  cases o with
  | none => simp [encT] at h1; simp [← h1.1]
  | some t => simp [encT] at h1; simp [← h1.1]
theorem wf_u32 {x : Nat} (h : x < 4294967296) : (Lit.int .u32 (x : Int)).wf = true := by simp [Lit.wf, IntKind.min, IntKind.max, IntKind.signed, IntKind.bits]; omega
theorem wf_u64 {x : Nat} (h : x < 18446744073709551616) : (Lit.int .u64 (x : Int)).wf = true := by simp [Lit.wf, IntKind.min, IntKind.max, IntKind.signed, IntKind.bits]; omega

/-- Those that are told at one tick: which, the block, who. -/
abbrev Crowd := Nat × Nat × (Nat → Option Unit)
def crowdP (n : Nat) (c : Crowd) : Part := Part.mapF 43 .u32 unitElem (fun _ => DataW.agg []) c.2.1 n c.2.2
/-- Where a clock lies, and who is told when. -/
structure ClkD where
  nb : Nat
  du : Nat
  wh : Nat
  hd : Nat → Option Nat
  cs : List Crowd
structure ClkOk (now : Nat) (f : Nat → Option Nat) (D : ClkD) : Prop where
  nd : (D.cs.map (·.1)).Nodup
  hd : ∀ t b, D.hd t = some b ↔ ∃ s, (t, b, s) ∈ D.cs
  mem : ∀ id t, f id = some t ↔ ∃ b s, (t, b, s) ∈ D.cs ∧ s id ≠ none
  late : ∀ id t, f id = some t → now < t
def passV (nb : Nat) : Value := .func (.func 60) #[] #[ptr nb]
def inV (nb : Nat) : Value := .func (.func 61) #[] #[ptr nb]
abbrev clkO (D : ClkD) : Obj := .cells #[passV D.nb, inV D.nb, .map (some D.du), .map (some D.wh)] 64
abbrev nowO (now : Nat) : Obj := .cells #[.int .u64 (now : Int)] 67
abbrev dueP (n : Nat) (D : ClkD) : Part := Part.mapF 67 .u64 hdR encH D.du n D.hd
abbrev whenP (n : Nat) (f : Nat → Option Nat) (D : ClkD) : Part := Part.mapF 43 .u32 (plainElem Tryz.prog 67) encT D.wh n f
/-- The clock at C: so many ticks went by; who is set, and for which tick. -/
def clkP (C now : Nat) (f : Nat → Option Nat) (n : Nat) : Part := Part.ex (fun D => Part.all [Part.pure (ClkOk now f D), Part.blk C (clkO D), Part.blk D.nb (nowO now), dueP n D, whenP n f D, Part.all (D.cs.map (crowdP n))])
section
variable {S0 : Nat → Prop} {w0 w w' : World} {L : List Part} {C now n : Nat} {f : Nat → Option Nat}
theorem clk_open (h : St S0 w0 w (clkP C now f n :: L)) : ∃ D, ClkOk now f D ∧ St S0 w0 w (Part.blk C (clkO D) :: Part.blk D.nb (nowO now) :: dueP n D :: whenP n f D :: Part.all (D.cs.map (crowdP n)) :: L) := by
  obtain ⟨D, h1⟩ := h.open_ex
  obtain ⟨h2, h3⟩ := h1.open_all.open_pure
  exact ⟨D, h2, h3⟩
theorem clk_shut {D : ClkD} (ho : ClkOk now f D) (h : St S0 w0 w (Part.blk C (clkO D) :: Part.blk D.nb (nowO now) :: dueP n D :: whenP n f D :: Part.all (D.cs.map (crowdP n)) :: L)) : St S0 w0 w (clkP C now f n :: L) :=
  St.shut_ex D (St.shut_all (K := [_, _, _, _, _, _]) (h.shut_pure ho))
end


theorem perm_front {α : Type} {l : List α} {x : α} (h : x ∈ l) : ∃ l', l.Perm (x :: l') := by
  obtain ⟨a, b, rfl⟩ := List.append_of_mem h
  exact ⟨a ++ b, List.perm_middle⟩
section
variable {now : Nat} {f : Nat → Option Nat} {nb du wh : Nat} {hd : Nat → Option Nat} {cs cs' : List Crowd} {t b : Nat} {s : Nat → Option Unit} {id : Nat}
theorem ClkOk.perm (h : ClkOk now f ⟨nb, du, wh, hd, cs⟩) (hp : cs.Perm cs') : ClkOk now f ⟨nb, du, wh, hd, cs'⟩ :=
  ⟨(hp.map _).nodup_iff.1 h.nd, fun t b => by rw [h.hd]; simp only [hp.mem_iff], fun id t => by rw [h.mem]; simp only [hp.mem_iff], h.late⟩
theorem ClkOk.tick_not (h : ClkOk now f ⟨nb, du, wh, hd, (t, b, s) :: cs⟩) {b' : Nat} {s' : Nat → Option Unit} : (t, b', s') ∉ cs := fun hm => by
  have := h.nd
  simp only [List.map_cons, List.nodup_cons] at this
  exact this.1 (List.mem_map.2 ⟨_, hm, rfl⟩)
theorem ClkOk.nd_tail (h : ClkOk now f ⟨nb, du, wh, hd, (t, b, s) :: cs⟩) : (cs.map (·.1)).Nodup := by
  have := h.nd
  simp only [List.map_cons, List.nodup_cons] at this
  exact this.2
/-- Somebody of the first crowd is not set any more. -/
theorem ClkOk.del (h : ClkOk now f ⟨nb, du, wh, hd, (t, b, s) :: cs⟩) (hf : f id = some t) : ClkOk now (updF f id none) ⟨nb, du, wh, hd, (t, b, updF s id none) :: cs⟩ := by
  refine ⟨by simpa using h.nd, fun u c => ?_, fun j u => ?_, fun j u hj => ?_⟩
  · rw [h.hd]
    constructor
    · rintro ⟨s', hm⟩
      rcases List.mem_cons.1 hm with e | e
      · cases e; exact ⟨_, List.mem_cons_self ..⟩
      · exact ⟨s', List.mem_cons_of_mem _ e⟩
    · rintro ⟨s', hm⟩
      rcases List.mem_cons.1 hm with e | e
      · cases e; exact ⟨_, List.mem_cons_self ..⟩
      · exact ⟨s', List.mem_cons_of_mem _ e⟩
  · by_cases e : j = id
    · subst e
      rw [updF_same]
      refine ⟨fun h => (by cases h), ?_⟩
      rintro ⟨b', s', hm, hs⟩
      rcases List.mem_cons.1 hm with e | e
      · cases e; rw [updF_same] at hs; exact absurd rfl hs
      · have h2 := (h.mem j u).2 ⟨b', s', List.mem_cons_of_mem _ e, hs⟩
        rw [hf] at h2
        cases h2
        exact absurd e h.tick_not
    · rw [updF_other _ _ e, h.mem]
      constructor
      · rintro ⟨b', s', hm, hs⟩
        rcases List.mem_cons.1 hm with q | q
        · cases q; exact ⟨_, _, List.mem_cons_self .., by rw [updF_other _ _ e]; exact hs⟩
        · exact ⟨b', s', List.mem_cons_of_mem _ q, hs⟩
      · rintro ⟨b', s', hm, hs⟩
        rcases List.mem_cons.1 hm with q | q
        · cases q; exact ⟨_, _, List.mem_cons_self .., by rw [updF_other _ _ e] at hs; exact hs⟩
        · exact ⟨b', s', List.mem_cons_of_mem _ q, hs⟩
  · by_cases e : j = id
    · subst e; rw [updF_same] at hj; cases hj
    · rw [updF_other _ _ e] at hj; exact h.late j u hj
/-- A crowd of nobody is gone. -/
theorem ClkOk.gone (h : ClkOk now f ⟨nb, du, wh, hd, (t, b, s) :: cs⟩) (hs : ∀ j, s j = none) : ClkOk now f ⟨nb, du, wh, updF hd t none, cs⟩ := by
  refine ⟨h.nd_tail, fun u c => ?_, fun j u => ?_, h.late⟩
  · dsimp only
    by_cases e : u = t
    · subst e
      rw [updF_same]
      exact ⟨fun h => (by cases h), fun ⟨s', hm⟩ => absurd hm h.tick_not⟩
    · rw [updF_other _ _ e, h.hd]
      constructor
      · rintro ⟨s', hm⟩
        rcases List.mem_cons.1 hm with q | q
        · cases q; exact absurd rfl e
        · exact ⟨s', q⟩
      · rintro ⟨s', hm⟩; exact ⟨s', List.mem_cons_of_mem _ hm⟩
  · rw [h.mem]
    constructor
    · rintro ⟨b', s', hm, h2⟩
      rcases List.mem_cons.1 hm with q | q
      · cases q; exact absurd (hs j) h2
      · exact ⟨b', s', q, h2⟩
    · rintro ⟨b', s', hm, h2⟩; exact ⟨b', s', List.mem_cons_of_mem _ hm, h2⟩
/-- Somebody more is of the first crowd. -/
theorem ClkOk.put (h : ClkOk now f ⟨nb, du, wh, hd, (t, b, s) :: cs⟩) (hf : f id = none) (ht : now < t) : ClkOk now (updF f id (some t)) ⟨nb, du, wh, hd, (t, b, updF s id (some ())) :: cs⟩ := by
  have hno : ∀ u b' s', (u, b', s') ∈ (t, b, s) :: cs → s' id = none := fun u b' s' hm => by
    cases hs : s' id with
    | none => rfl
    | some x =>
      have := (h.mem id u).2 ⟨b', s', hm, by rw [hs]; simp⟩
      rw [hf] at this
      cases this
  refine ⟨by simpa using h.nd, fun u c => ?_, fun j u => ?_, fun j u hj => ?_⟩
  · rw [h.hd]
    constructor
    · rintro ⟨s', hm⟩
      rcases List.mem_cons.1 hm with e | e
      · cases e; exact ⟨_, List.mem_cons_self ..⟩
      · exact ⟨s', List.mem_cons_of_mem _ e⟩
    · rintro ⟨s', hm⟩
      rcases List.mem_cons.1 hm with e | e
      · cases e; exact ⟨_, List.mem_cons_self ..⟩
      · exact ⟨s', List.mem_cons_of_mem _ e⟩
  · by_cases e : j = id
    · subst e
      rw [updF_same]
      constructor
      · intro h2; cases h2; exact ⟨_, _, List.mem_cons_self .., by rw [updF_same]; simp⟩
      · rintro ⟨b', s', hm, hs⟩
        rcases List.mem_cons.1 hm with q | q
        · cases q; rfl
        · exact absurd (hno u b' s' (List.mem_cons_of_mem _ q)) hs
    · rw [updF_other _ _ e, h.mem]
      constructor
      · rintro ⟨b', s', hm, hs⟩
        rcases List.mem_cons.1 hm with q | q
        · cases q; exact ⟨_, _, List.mem_cons_self .., by rw [updF_other _ _ e]; exact hs⟩
        · exact ⟨b', s', List.mem_cons_of_mem _ q, hs⟩
      · rintro ⟨b', s', hm, hs⟩
        rcases List.mem_cons.1 hm with q | q
        · cases q; exact ⟨_, _, List.mem_cons_self .., by rw [updF_other _ _ e] at hs; exact hs⟩
        · exact ⟨b', s', List.mem_cons_of_mem _ q, hs⟩
  · by_cases e : j = id
    · subst e; rw [updF_same] at hj; cases hj; exact ht
    · rw [updF_other _ _ e] at hj; exact h.late j u hj
/-- A crowd of nobody yet. -/
theorem ClkOk.fresh (h : ClkOk now f ⟨nb, du, wh, hd, cs⟩) (hh : hd t = none) (b : Nat) : ClkOk now f ⟨nb, du, wh, updF hd t (some b), (t, b, noneD) :: cs⟩ := by
  have hno : ∀ b' s', (t, b', s') ∉ cs := fun b' s' hm => by
    have : hd t = some b' := (h.hd t b').2 ⟨s', hm⟩
    rw [hh] at this
    cases this
  refine ⟨?_, fun u c => ?_, fun j u => ?_, h.late⟩
  · simp only [List.map_cons, List.nodup_cons]
    refine ⟨fun hm => ?_, h.nd⟩
    obtain ⟨⟨u, b', s'⟩, h1, h2⟩ := List.mem_map.1 hm
    simp only at h2
    subst h2
    exact hno b' s' h1
  · dsimp only
    by_cases e : u = t
    · subst e
      rw [updF_same]
      constructor
      · intro q; cases q; exact ⟨_, List.mem_cons_self ..⟩
      · rintro ⟨s', hm⟩
        rcases List.mem_cons.1 hm with q | q
        · cases q; rfl
        · exact absurd q (hno c s')
    · rw [updF_other _ _ e, h.hd]
      constructor
      · rintro ⟨s', hm⟩; exact ⟨s', List.mem_cons_of_mem _ hm⟩
      · rintro ⟨s', hm⟩
        rcases List.mem_cons.1 hm with q | q
        · cases q; exact absurd rfl e
        · exact ⟨s', q⟩
  · rw [h.mem]
    constructor
    · rintro ⟨b', s', hm, h2⟩; exact ⟨b', s', List.mem_cons_of_mem _ hm, h2⟩
    · rintro ⟨b', s', hm, h2⟩
      rcases List.mem_cons.1 hm with q | q
      · cases q; exact absurd rfl h2
      · exact ⟨b', s', q, h2⟩
/-- A tick goes by: those of the first crowd are told. -/
theorem ClkOk.tick (h : ClkOk now f ⟨nb, du, wh, hd, (now + 1, b, s) :: cs⟩) : ClkOk (now + 1) (fun j => if f j = some (now + 1) then none else f j) ⟨nb, du, wh, updF hd (now + 1) none, cs⟩ ∧ ∀ j, s j ≠ none ↔ f j = some (now + 1) := by
  have hs : ∀ j, s j ≠ none ↔ f j = some (now + 1) := fun j => by
    rw [h.mem]
    constructor
    · intro q; exact ⟨b, s, List.mem_cons_self .., q⟩
    · rintro ⟨b', s', hm, q⟩
      rcases List.mem_cons.1 hm with e | e
      · cases e; exact q
      · exact absurd e h.tick_not
  refine ⟨⟨h.nd_tail, fun u c => ?_, fun j u => ?_, fun j u hj => ?_⟩, hs⟩
  · dsimp only
    by_cases e : u = now + 1
    · subst e
      rw [updF_same]
      exact ⟨fun h => (by cases h), fun ⟨s', hm⟩ => absurd hm h.tick_not⟩
    · rw [updF_other _ _ e, h.hd]
      constructor
      · rintro ⟨s', hm⟩
        rcases List.mem_cons.1 hm with q | q
        · cases q; exact absurd rfl e
        · exact ⟨s', q⟩
      · rintro ⟨s', hm⟩; exact ⟨s', List.mem_cons_of_mem _ hm⟩
  · by_cases e : f j = some (now + 1)
    · rw [if_pos e]
      refine ⟨fun h => (by cases h), ?_⟩
      rintro ⟨b', s', hm, q⟩
      have := (h.mem j u).2 ⟨b', s', List.mem_cons_of_mem _ hm, q⟩
      rw [e] at this
      cases this
      exact absurd hm h.tick_not
    · rw [if_neg e, h.mem]
      constructor
      · rintro ⟨b', s', hm, q⟩
        rcases List.mem_cons.1 hm with r | r
        · cases r; exact absurd ((hs j).1 q) e
        · exact ⟨b', s', r, q⟩
      · rintro ⟨b', s', hm, q⟩; exact ⟨b', s', List.mem_cons_of_mem _ hm, q⟩
  · by_cases e : f j = some (now + 1)
    · rw [if_pos e] at hj; cases hj
    · rw [if_neg e] at hj
      have := h.late j u hj
      have : u ≠ now + 1 := fun q => e (by rw [← q]; exact hj)
      omega
/-- .. nobody is told. -/
theorem ClkOk.idle (h : ClkOk now f ⟨nb, du, wh, hd, cs⟩) (hh : hd (now + 1) = none) : ClkOk (now + 1) f ⟨nb, du, wh, hd, cs⟩ ∧ ∀ j, f j ≠ some (now + 1) := by
  have hno : ∀ j, f j ≠ some (now + 1) := fun j hj => by
    obtain ⟨b, s, hm, -⟩ := (h.mem j (now + 1)).1 hj
    have : hd (now + 1) = some b := (h.hd (now + 1) b).2 ⟨s, hm⟩
    rw [hh] at this
    cases this
  exact ⟨⟨h.nd, h.hd, h.mem, fun j u hj => by
    have := h.late j u hj
    have : u ≠ now + 1 := fun q => hno j (by rw [← q]; exact hj)
    omega⟩, hno⟩
end
section
variable {S0 : Nat → Prop} {w0 w w' : World} {K L : List Part} {P : Part}
theorem St.all_cons (h : St S0 w0 w (Part.all (P :: K) :: L)) : St S0 w0 w (P :: Part.all K :: L) :=
  (h.open_all : St S0 w0 w (P :: (K ++ L))).sub (fun S hS => ⟨S, hS.cons_mono (fun T hT => by
    obtain ⟨S1, S2, k1, k2, k3, k4⟩ := Parts.app.1 hT
    exact ⟨S1, S2, k1, k2, k3, k4⟩), fun _ h => h⟩)
theorem St.cons_all (h : St S0 w0 w (P :: Part.all K :: L)) : St S0 w0 w (Part.all (P :: K) :: L) :=
  St.shut_all (K := P :: K) (h.sub (fun S hS => ⟨S, hS.cons_mono (fun T hT => by
    obtain ⟨S1, S2, k1, k2, k3, k4⟩ := hT
    exact Parts.app.2 ⟨S1, S2, k1, k2, k3, k4⟩), fun _ h => h⟩))
theorem St.all_perm {K' : List Part} (h : St S0 w0 w (Part.all K :: L)) (hp : K.Perm K') : St S0 w0 w (Part.all K' :: L) :=
  h.keep (fun S hS => ⟨S, Parts.perm hp hS, fun _ h => h⟩)
end

set_option maxHeartbeats 1000000 in
set_option maxRecDepth 1000000 in
theorem count_ok (w : World) : Calls Tryz.prog 16 #[] w fun e w' => e = .returned (.tuple #[passV w.heap.size, inV w.heap.size]) ∧ w.alloc (nowO 0) = w' := by
  unfold passV inV nowO
  go_enter Tryz.func16, Tryz.ntmps16
  go_wp2
  go_ret2
  exact ⟨rfl, by simp⟩
theorem clk_new (w : World) : St noB w ((((w.alloc (nowO 0)).alloc (.map #[] 0)).alloc (.map #[] 0)).alloc (.cells #[passV w.heap.size, inV w.heap.size, .map (some (w.heap.size + 1)), .map (some (w.heap.size + 2))] 64)) [clkP (w.heap.size + 3) 0 noneD 0] := by
  have s1 := (((St.nil w).alloc (nowO 0)).mapF_new 67 .u64 hdR encH).mapF_new 43 .u32 (plainElem Tryz.prog 67) encT
  rw [show ((w.alloc (nowO 0)).alloc (.map #[] 0)).heap.size = w.heap.size + 2 by simp, show (w.alloc (nowO 0)).heap.size = w.heap.size + 1 by simp] at s1
  have s2 := s1.alloc (.cells #[passV w.heap.size, inV w.heap.size, .map (some (w.heap.size + 1)), .map (some (w.heap.size + 2))] 64)
  rw [show (((w.alloc (nowO 0)).alloc (.map #[] 0)).alloc (.map #[] 0)).heap.size = w.heap.size + 3 by simp] at s2
  have s3 := St.shut_all (K := []) s2
  refine clk_shut (D := ⟨w.heap.size, w.heap.size + 1, w.heap.size + 2, noneD, []⟩) ⟨by simp, fun t b => by simp [noneD], fun id t => by simp [noneD], fun id t h => by simp [noneD] at h⟩ ?_
  exact s3.rt (K := [_, _, _, _, _]) 5 [1, 4, 3, 2, 0] (by decide)
set_option maxHeartbeats 1000000 in
set_option maxRecDepth 1000000 in
theorem New_ok (w : World) : Calls Tryz.prog 4 #[] w fun e w' => e = .returned (ptr (w.heap.size + 3)) ∧ St noB w w' [clkP (w.heap.size + 3) 0 noneD 0] := by
  have kc := count_ok w
  have st : Hid _ := clk_new w
  have hmm := @run_makeMap Tryz.prog
  unfold passV inV at kc st
  go_enter Tryz.func4, Tryz.ntmps4
  go_wp2_with fail
  refine kc.mono ?_
  rintro e w1 ⟨rfl, rfl⟩
  go_wp2
  go_ret
  exact ⟨rfl, st.out⟩
end Go.Proofs.YtboinccdnaddmaaGreatDoor
