/- Logs: what is where; there, made, fits, Force; What is changed, told by what lies there. -/
import Derived.Test.YtjaidhglemnakaaWMath
import Derived.Test.YtjaidhglemnakaaDNone
import Derived.Test.YtjaidhglemnakaaFGet
import Derived.Test.YtjaidhglemnakaaFPut
import Derived.Test.YtjaidhglemnakaaSLaw
set_option linter.unusedSimpArgs false
set_option linter.unusedVariables false
namespace Go.Proofs.Ytjaidhglemnakaa
open Go.RowKit Go.Maps

/-- A log at block L, on the disk d at block B, which takes the blocks S; n: the sector behind its records. -/
structure LgAt (w : World) (L B : Nat) (S : List Nat) (d : Dk) (n : Nat) : Prop where
  dk : DkAt w B S d
  log : w.heap[L]? = some (.cells #[.pointer (some ⟨B, 0, none⟩), .int .i64 (n : Int)] 28 (0, 0))
theorem LgAt.lt {w : World} {L B : Nat} {S : List Nat} {d : Dk} {n : Nat} (h : LgAt w L B S d n) : L < w.heap.size := lt_of_block h.log
theorem LgAt.cells {w : World} {L B : Nat} {S : List Nat} {d : Dk} {n : Nat} (h : LgAt w L B S d n) : w.cell? ⟨L, 0, none⟩ = some (.pointer (some ⟨B, 0, none⟩)) ∧ w.cell? ⟨L, 1, none⟩ = some (.int .i64 (n : Int)) := pair_cell h.log
theorem own_block_ne {w : World} {b k base : Nat} {cs : Array Value} {t e : TypeId} {fr : Nat × Nat} {size n : Nat} {v : Value} {xs : List Value} (h : w.heap[k]? = some (.cells cs t fr)) (ht : t ≠ e) (ho : w.ownsRow base e size v n xs) (hb : v.ownBlock = some b) : k ≠ b := by
  rintro rfl
  rcases ho.2 with ⟨rfl, -⟩ | ⟨g, cap, cur, rfl, -, h3, -⟩
  · cases hb
  · cases hb
    rw [h] at h3
    exact ht (by cases h3; rfl)
/-- A disk's blocks are of its own kinds. -/
theorem DkAt.not {w : World} {B : Nat} {S : List Nat} {d : Dk} (h : DkAt w B S d) {k : Nat} {o : Obj} (hk : w.heap[k]? = some o) (hm : ∀ e c, o ≠ .map e c) (h1 : ∀ cs fr, o ≠ .cells cs 41 fr) (h2 : ∀ cs fr, o ≠ .cells cs 74 fr) (h3 : ∀ cs fr, o ≠ .cells cs 76 fr) : k ∉ S := by
  obtain ⟨G, M, cap, F, D, rfl, h⟩ := h
  intro hx
  simp only [blocksOf, List.mem_cons, Option.mem_toList] at hx
  rcases hx with rfl | rfl | rfl | hx
  · have := h.head
    rw [hk] at this
    exact h1 _ _ (Option.some.inj this)
  · rcases h.sure.2 with ⟨e, _⟩ | ⟨g, c, cur, e, _, h4, _⟩
    · cases e
    · cases e
      rw [hk] at h4
      exact h2 _ _ (Option.some.inj h4)
  · obtain ⟨es, clock, h4, _⟩ := h.map
    rw [hk] at h4
    exact hm _ _ (Option.some.inj h4)
  · rcases h.first.2 with ⟨e', _⟩ | ⟨g, c, cur, e', _, h4, _⟩
    · subst e'; cases hx
    · subst e'
      cases hx
      rw [hk] at h4
      exact h3 _ _ (Option.some.inj h4)
theorem DkAt.notCells {w : World} {B : Nat} {S : List Nat} {d : Dk} (h : DkAt w B S d) {k : Nat} {cs : Array Value} {t : TypeId} {fr : Nat × Nat} (hk : w.heap[k]? = some (.cells cs t fr)) (h1 : t ≠ 41) (h2 : t ≠ 74) (h3 : t ≠ 76) : k ∉ S :=
  h.not hk (fun e c he => by cases he) (fun _ _ he => by cases he; exact h1 rfl) (fun _ _ he => by cases he; exact h2 rfl) (fun _ _ he => by cases he; exact h3 rfl)
theorem LgAt.notS {w : World} {L B : Nat} {S : List Nat} {d : Dk} {n : Nat} (h : LgAt w L B S d n) : L ∉ S := h.dk.notCells h.log (by decide) (by decide) (by decide)
theorem LgAt.kept {w w' : World} {L B : Nat} {S : List Nat} {d : Dk} {n : Nat} (h : LgAt w L B S d n) (hb : ∀ x ∈ L :: S, w'.heap[x]? = w.heap[x]?) : LgAt w' L B S d n :=
  ⟨h.dk.kept (fun x hx => hb x (by simp [hx])), by rw [hb L (by simp)]; exact h.log⟩
theorem LgAt.below {w w' : World} {L B : Nat} {S : List Nat} {d : Dk} {n : Nat} (h : LgAt w L B S d n) (hb : Below w.heap.size w w') : LgAt w' L B S d n :=
  ⟨h.dk.below hb, by rw [hb.block L h.lt]; exact h.log⟩
theorem made_ok {w : World} {B : Nat} {S : List Nat} {d : Dk} (h : DkAt w B S d) : Calls Try.prog 26 #[.pointer (some ⟨B, 0, none⟩)] w fun e w' => e = .returned (.bool true) ∧ w = w' := by
  have kt := size_ok h
  have hp := h.ok.pos
  clear h
  go_enter Try.func26, Try.ntmps26
  go_wp2_with (go_at_call 37; refine kt.mono ?_; rintro e w' ⟨rfl, rfl⟩)
  go_ret
  exact ⟨by simp [hp], rfl⟩
theorem made_no {w : World} {v : Value} (h : NoDk w v) : Calls Try.prog 26 #[v] w fun e w' => e = .returned (.bool false) ∧ w = w' := by
  have kt := size_no h
  clear h
  go_enter Try.func26, Try.ntmps26
  go_wp2_with (go_at_call 37; refine kt.mono ?_; rintro e w' ⟨rfl, rfl⟩)
  go_ret
  exact ⟨rfl, rfl⟩
theorem lthere_ok {w : World} {L B : Nat} {S : List Nat} {d : Dk} {n : Nat} (h : LgAt w L B S d n) : Calls Try.prog 21 #[.pointer (some ⟨L, 0, none⟩)] w fun e w' => e = .returned (.bool true) ∧ w = w' := by
  have kt := made_ok h.dk
  obtain ⟨c0, c1⟩ := h.cells
  clear h
  go_enter Try.func21, Try.ntmps21
  go_wp2_with (go_at_call 26; refine kt.mono ?_; rintro e w' ⟨rfl, rfl⟩)
  go_ret
  exact ⟨rfl, rfl⟩
theorem force_ok {w : World} {L B : Nat} {S : List Nat} {d : Dk} {n : Nat} (h : LgAt w L B S d n) : Calls Try.prog 9 #[.pointer (some ⟨L, 0, none⟩)] w fun e w' =>
    e = .returned (.int .i64 0) ∧ ∃ S', LgAt w' L B S' d.sync n ∧ Chg S w w' ∧ ∀ x ∈ S', x ∈ S ∨ w.heap.size ≤ x := by
  have kt := lthere_ok h
  have ks := sync_ok h.dk
  obtain ⟨c0, c1⟩ := h.cells
  have h0 := h
  clear h
  go_enter Try.func9, Try.ntmps9
  go_wp2_with fail
  refine kt.mono ?_
  rintro e w1 ⟨rfl, rfl⟩
  go_wp2_with fail
  refine ks.mono ?_
  rintro e w2 ⟨rfl, S', k1, k2, k3⟩
  go_wp2
  go_ret
  exact ⟨rfl, S', ⟨k1, by rw [k2.block L h0.lt h0.notS]; exact h0.log⟩, k2, k3⟩
end Go.Proofs.Ytjaidhglemnakaa
namespace Go.Proofs.Ytjaidhglemnakaa
open Go.RowKit Go.Maps

/-- Cells of these types, and maps if so said. -/
def KT (m : Bool) (Ts : List TypeId) : Obj → Prop
  | .cells _ t _ => t ∈ Ts
  | .map _ _ => m = true
  | _ => False
theorem KT.mono {m m' : Bool} {Ts Ts' : List TypeId} (hm : m = true → m' = true) (hT : ∀ t ∈ Ts, t ∈ Ts') {o : Obj} (h : KT m Ts o) : KT m' Ts' o := by
  cases o with
  | cells cs t fr => exact hT t h
  | map e c => exact hm h
  | _ => exact h
theorem KT.no {m : Bool} {Ts : List TypeId} {t : TypeId} (h : t ∉ Ts) : ∀ cs fr, ¬ KT m Ts (.cells cs t fr) := fun _ _ => h
theorem KT.yes {m : Bool} {Ts : List TypeId} {t : TypeId} {cs : Array Value} {fr : Nat × Nat} (h : t ∈ Ts) : KT m Ts (.cells cs t fr) := h
/-- What is K alone is changed, and new memory made. -/
structure OChg (K : Obj → Prop) (w w' : World) : Prop where
  os : w'.os = w.os
  tape : w'.tape = w.tape
  output : w'.output = w.output
  size : w.heap.size ≤ w'.heap.size
  block : ∀ (k : Nat) (o : Obj), w.heap[k]? = some o → ¬ K o → w'.heap[k]? = some o
theorem OChg.refl (K : Obj → Prop) (w : World) : OChg K w w := ⟨rfl, rfl, rfl, Nat.le_refl _, fun _ _ h _ => h⟩
theorem OChg.trans {K : Obj → Prop} {a b c : World} (h : OChg K a b) (k : OChg K b c) : OChg K a c :=
  ⟨k.os.trans h.os, k.tape.trans h.tape, k.output.trans h.output, Nat.le_trans h.size k.size, fun i o hi hn => k.block i o (h.block i o hi hn) hn⟩
theorem OChg.mono {K K' : Obj → Prop} {w w' : World} (h : OChg K w w') (hK : ∀ o, K o → K' o) : OChg K' w w' :=
  ⟨h.os, h.tape, h.output, h.size, fun k o hk hn => h.block k o hk (fun x => hn (hK o x))⟩
theorem OChg.of_below {w w' : World} (h : Below w.heap.size w w') (K : Obj → Prop) : OChg K w w' := ⟨h.os, h.tape, h.output, h.size, fun k o hk _ => (h.block k (lt_of_block hk)).trans hk⟩
theorem OChg.of_chg {S : List Nat} {w w' : World} (h : Chg S w w') {K : Obj → Prop} (hK : ∀ x ∈ S, ∀ o, w.heap[x]? = some o → K o) : OChg K w w' :=
  ⟨h.os, h.tape, h.output, h.size, fun k o hk hn => (h.block k (lt_of_block hk) (fun hm => hn (hK k hm o hk))).trans hk⟩
theorem OChg.setCell {K : Obj → Prop} {w : World} {R i : Nat} {cs : Array Value} {t : TypeId} {fr : Nat × Nat} (h : w.heap[R]? = some (.cells cs t fr)) (hK : K (.cells cs t fr)) (u : Value) : OChg K w (w.setCell ⟨R, i, none⟩ u) :=
  ⟨rfl, rfl, rfl, by simp [World.setCell], fun k o hk hn => by
    have hne : k ≠ R := by rintro rfl; rw [h] at hk; cases hk; exact hn hK
    rw [Below.heap_setCell _ _ _ _ (by simpa using hne)]
    exact hk⟩
theorem OChg.grown {K : Obj → Prop} {w w' : World} {row : Option Nat} (hg : w.grownBy w' row) (hr : ∀ k o, row = some k → w.heap[k]? = some o → K o) : OChg K w w' :=
  ⟨hg.os, hg.tape, hg.output, hg.size, fun k o hk hn => (hg.block k (lt_of_block hk) (fun e => hn (hr k o e.symm hk))).trans hk⟩
theorem OChg.alloc {K : Obj → Prop} {a w : World} (h : OChg K a w) (o : Obj) : OChg K a (w.alloc o) := h.trans (OChg.of_below (below_one w o) K)
theorem own_obj {w : World} {base : Nat} {e : TypeId} {size : Nat} {v : Value} {n : Nat} {xs : List Value} (h : w.ownsRow base e size v n xs) : ∀ b, v.ownBlock = some b → ∃ cs fr, w.heap[b]? = some (.cells cs e fr) := by
  intro b hb
  rcases h.2 with ⟨rfl, _⟩ | ⟨g, cap, cur, rfl, _, h3, _⟩
  · cases hb
  · cases hb
    exact ⟨_, _, h3⟩
/-- A row whose cells are none of what is changed. -/
theorem own_ochg {K : Obj → Prop} {w w' : World} {base : Nat} {e : TypeId} {size : Nat} {v : Value} {n : Nat} {xs : List Value} (h : w.ownsRow base e size v n xs) (hc : OChg K w w') (hK : ∀ cs fr, ¬ K (.cells cs e fr)) : w'.ownsRow base e size v n xs :=
  own_kept h (fun b hb => by
    obtain ⟨cs, fr, ho⟩ := own_obj h b hb
    rw [ho]
    exact hc.block b _ ho (hK cs fr))
theorem BsAt.ochg {K : Obj → Prop} {w w' : World} {base : Nat} {v : Value} {bs : List UInt8} (h : BsAt w base v bs) (hc : OChg K w w') (hK : ∀ cs fr, ¬ K (.cells cs 5 fr)) : BsAt w' base v bs := own_ochg h hc hK

theorem own_from' {w : World} {base base' : Nat} {v : Value} {bs : List UInt8} (h : BsAt w base v bs) (hb : base' ≤ base) : BsAt w base' v bs := by
  refine ⟨h.1, ?_⟩
  rcases h.2 with h1 | ⟨g, cap, cur, h1, h2, h3⟩
  · exact .inl h1
  · exact .inr ⟨g, cap, cur, h1, by omega, h3⟩
/-- What a disk is made of. -/
def dT : List TypeId := [41, 74, 76]
/-- What a log, and its disk, are made of. -/
def lT : List TypeId := [28, 41, 74, 76]
theorem DkAt.kinds {w : World} {B : Nat} {S : List Nat} {d : Dk} (h : DkAt w B S d) : ∀ x ∈ S, ∃ o, w.heap[x]? = some o ∧ KT true dT o := by
  obtain ⟨G, M, cap, F, D, rfl, h⟩ := h
  intro x hx
  simp only [blocksOf, List.mem_cons, Option.mem_toList] at hx
  rcases hx with rfl | rfl | rfl | hx
  · exact ⟨_, h.head, by simp [KT, dT]⟩
  · obtain ⟨cs, fr, ho⟩ := own_obj h.sure _ rfl
    exact ⟨_, ho, by simp [KT, dT]⟩
  · obtain ⟨es, clock, h4, _⟩ := h.map
    exact ⟨_, h4, rfl⟩
  · obtain ⟨cs, fr, ho⟩ := own_obj h.first _ hx
    exact ⟨_, ho, by simp [KT, dT]⟩
theorem DkAt.och {w w' : World} {B : Nat} {S : List Nat} {d : Dk} (h : DkAt w B S d) (hc : Chg S w w') : OChg (KT true dT) w w' :=
  OChg.of_chg hc (fun x hx o ho => by
    obtain ⟨o', h1, h2⟩ := h.kinds x hx
    rw [h1] at ho
    cases ho
    exact h2)
theorem DkAt.ochg {K : Obj → Prop} {w w' : World} {B : Nat} {S : List Nat} {d : Dk} (h : DkAt w B S d) (hc : OChg K w w') (hK : ∀ o, KT true dT o → ¬ K o) : DkAt w' B S d :=
  h.kept (fun x hx => by
    obtain ⟨o, h1, h2⟩ := h.kinds x hx
    rw [h1]
    exact hc.block x o h1 (hK o h2))
theorem dT_lT {o : Obj} (h : KT true dT o) : KT true lT o := h.mono (fun h => h) (fun t ht => List.mem_cons_of_mem _ ht)
theorem LgAt.kinds {w : World} {L B : Nat} {S : List Nat} {d : Dk} {n : Nat} (h : LgAt w L B S d n) : ∀ x ∈ L :: S, ∃ o, w.heap[x]? = some o ∧ KT true lT o := by
  intro x hx
  rcases List.mem_cons.1 hx with rfl | hx
  · exact ⟨_, h.log, by simp [KT, lT]⟩
  · obtain ⟨o, h1, h2⟩ := h.dk.kinds x hx
    exact ⟨o, h1, dT_lT h2⟩
theorem LgAt.och {w w' : World} {L B : Nat} {S : List Nat} {d : Dk} {n : Nat} (h : LgAt w L B S d n) (hc : Chg (L :: S) w w') : OChg (KT true lT) w w' :=
  OChg.of_chg hc (fun x hx o ho => by
    obtain ⟨o', h1, h2⟩ := h.kinds x hx
    rw [h1] at ho
    cases ho
    exact h2)
/-- Types that share nothing. -/
theorem KT.off {Ts Us : List TypeId} (h : ∀ t ∈ Ts, t ∉ Us) {o : Obj} (ho : KT true Ts o) (hu : KT false Us o) : False := by
  cases o with
  | cells cs t fr => exact h t ho hu
  | map e c => cases hu
  | _ => exact hu
end Go.Proofs.Ytjaidhglemnakaa
