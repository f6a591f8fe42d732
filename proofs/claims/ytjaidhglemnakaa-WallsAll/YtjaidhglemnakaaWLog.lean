/- Logs: what is where; there, made, fits, Force. -/
import Derived.Test.YtjaidhglemnakaaWMath
import Derived.Test.YtjaidhglemnakaaDNone
import Derived.Test.YtjaidhglemnakaaFGet
import Derived.Test.YtjaidhglemnakaaFPut
set_option linter.unusedSimpArgs false
set_option linter.unusedVariables false
namespace Go.Proofs.Ytjaidhglemnakaa
open Go.RowKit Go.Maps

/-- A log at block L, on the disk d at block B, which takes the blocks S; n: the sector behind its records. -/
structure LgAt (w : World) (L B : Nat) (S : List Nat) (d : Dk) (n : Nat) : Prop where
  dk : DkAt w B S d
  log : w.heap[L]? = some (.cells #[.pointer (some ⟨B, 0, none⟩), .int .i64 (n : Int)] 28 (0, 0))
theorem LgAt.lt {w : World} {L B : Nat} {S : List Nat} {d : Dk} {n : Nat} (h : LgAt w L B S d n) : L < w.heap.size := lt_of_block h.log
theorem LgAt.cells {w : World} {L B : Nat} {S : List Nat} {d : Dk} {n : Nat} (h : LgAt w L B S d n) : w.cell? ⟨L, 0, none⟩ = some (.pointer (some ⟨B, 0, none⟩)) ∧ w.cell? ⟨L, 1, none⟩ = some (.int .i64 (n : Int)) := pair_cell h.log
theorem own_block_ne {w : World} {b k base : Nat} {cs : Array Value} {t e : TypeId} {fr : Nat × Nat} {size n : Nat} {v : Value} {xs : List Value} (h : w.heap[k]? = some (.cells cs t fr)) (ht : t ≠ e) (ho : w.ownsRow base e size v n xs) (hb : v.ownBlock = some b) : k ≠ b := by
  rintro rfl
  rcases ho.2 with ⟨rfl, -⟩ | ⟨g, cap, cur, rfl, -, h3, -⟩
  · cases hb
  · cases hb
    rw [h] at h3
    exact ht (by cases h3; rfl)
/-- A disk's blocks are of its own kinds. -/
theorem DkAt.not {w : World} {B : Nat} {S : List Nat} {d : Dk} (h : DkAt w B S d) {k : Nat} {o : Obj} (hk : w.heap[k]? = some o) (hm : ∀ e c, o ≠ .map e c) (h1 : ∀ cs fr, o ≠ .cells cs 41 fr) (h2 : ∀ cs fr, o ≠ .cells cs 74 fr) (h3 : ∀ cs fr, o ≠ .cells cs 76 fr) : k ∉ S := by
  obtain ⟨G, M, cap, F, D, rfl, h⟩ := h
  intro hx
  simp only [blocksOf, List.mem_cons, Option.mem_toList] at hx
  rcases hx with rfl | rfl | rfl | hx
  · have := h.head
    rw [hk] at this
    exact h1 _ _ (Option.some.inj this)
  · rcases h.sure.2 with ⟨e, _⟩ | ⟨g, c, cur, e, _, h4, _⟩
    · cases e
    · cases e
      rw [hk] at h4
      exact h2 _ _ (Option.some.inj h4)
  · obtain ⟨es, clock, h4, _⟩ := h.map
    rw [hk] at h4
    exact hm _ _ (Option.some.inj h4)
  · rcases h.first.2 with ⟨e', _⟩ | ⟨g, c, cur, e', _, h4, _⟩
    · subst e'; cases hx
    · subst e'
      cases hx
      rw [hk] at h4
      exact h3 _ _ (Option.some.inj h4)
theorem DkAt.notCells {w : World} {B : Nat} {S : List Nat} {d : Dk} (h : DkAt w B S d) {k : Nat} {cs : Array Value} {t : TypeId} {fr : Nat × Nat} (hk : w.heap[k]? = some (.cells cs t fr)) (h1 : t ≠ 41) (h2 : t ≠ 74) (h3 : t ≠ 76) : k ∉ S :=
  h.not hk (fun e c he => by cases he) (fun _ _ he => by cases he; exact h1 rfl) (fun _ _ he => by cases he; exact h2 rfl) (fun _ _ he => by cases he; exact h3 rfl)
theorem LgAt.notS {w : World} {L B : Nat} {S : List Nat} {d : Dk} {n : Nat} (h : LgAt w L B S d n) : L ∉ S := h.dk.notCells h.log (by decide) (by decide) (by decide)
theorem LgAt.kept {w w' : World} {L B : Nat} {S : List Nat} {d : Dk} {n : Nat} (h : LgAt w L B S d n) (hb : ∀ x ∈ L :: S, w'.heap[x]? = w.heap[x]?) : LgAt w' L B S d n :=
  ⟨h.dk.kept (fun x hx => hb x (by simp [hx])), by rw [hb L (by simp)]; exact h.log⟩
theorem LgAt.below {w w' : World} {L B : Nat} {S : List Nat} {d : Dk} {n : Nat} (h : LgAt w L B S d n) (hb : Below w.heap.size w w') : LgAt w' L B S d n :=
  ⟨h.dk.below hb, by rw [hb.block L h.lt]; exact h.log⟩
theorem made_ok {w : World} {B : Nat} {S : List Nat} {d : Dk} (h : DkAt w B S d) : Calls Try.prog 26 #[.pointer (some ⟨B, 0, none⟩)] w fun e w' => e = .returned (.bool true) ∧ w = w' := by
  have kt := size_ok h
  have hp := h.ok.pos
  clear h
  go_enter Try.func26, Try.ntmps26
  go_wp2_with (go_at_call 37; refine kt.mono ?_; rintro e w' ⟨rfl, rfl⟩)
  go_ret
  exact ⟨by simp [hp], rfl⟩
theorem made_no {w : World} {v : Value} (h : NoDk w v) : Calls Try.prog 26 #[v] w fun e w' => e = .returned (.bool false) ∧ w = w' := by
  have kt := size_no h
  clear h
  go_enter Try.func26, Try.ntmps26
  go_wp2_with (go_at_call 37; refine kt.mono ?_; rintro e w' ⟨rfl, rfl⟩)
  go_ret
  exact ⟨rfl, rfl⟩
theorem lthere_ok {w : World} {L B : Nat} {S : List Nat} {d : Dk} {n : Nat} (h : LgAt w L B S d n) : Calls Try.prog 21 #[.pointer (some ⟨L, 0, none⟩)] w fun e w' => e = .returned (.bool true) ∧ w = w' := by
  have kt := made_ok h.dk
  obtain ⟨c0, c1⟩ := h.cells
  clear h
  go_enter Try.func21, Try.ntmps21
  go_wp2_with (go_at_call 26; refine kt.mono ?_; rintro e w' ⟨rfl, rfl⟩)
  go_ret
  exact ⟨rfl, rfl⟩
theorem force_ok {w : World} {L B : Nat} {S : List Nat} {d : Dk} {n : Nat} (h : LgAt w L B S d n) : Calls Try.prog 9 #[.pointer (some ⟨L, 0, none⟩)] w fun e w' =>
    e = .returned (.int .i64 0) ∧ ∃ S', LgAt w' L B S' d.sync n ∧ Chg S w w' ∧ ∀ x ∈ S', x ∈ S ∨ w.heap.size ≤ x := by
  have kt := lthere_ok h
  have ks := sync_ok h.dk
  obtain ⟨c0, c1⟩ := h.cells
  have h0 := h
  clear h
  go_enter Try.func9, Try.ntmps9
  go_wp2_with fail
  refine kt.mono ?_
  rintro e w1 ⟨rfl, rfl⟩
  go_wp2_with fail
  refine ks.mono ?_
  rintro e w2 ⟨rfl, S', k1, k2, k3⟩
  go_wp2
  go_ret
  exact ⟨rfl, S', ⟨k1, by rw [k2.block L h0.lt h0.notS]; exact h0.log⟩, k2, k3⟩
end Go.Proofs.Ytjaidhglemnakaa
