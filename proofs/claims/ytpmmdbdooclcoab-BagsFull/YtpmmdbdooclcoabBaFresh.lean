/- The walks of bags.fresh, of each kind: a list of the same things in memory of its own. -/
import Derived.Test.YtpmmdbdooclcoabGSep
import Derived.Test.YtpmmdbdooclcoabQData
import Derived.Test.YtpmmdbdooclcoabGSteps
set_option linter.unusedSimpArgs false
set_option linter.unusedVariables false
namespace Go.Proofs.Ytpmmdbdooclcoab
open Go.RowKit

/-- A list that can be read, as what is appended. -/
theorem src_sl {α : Type} {f : α → List Value} {size : Nat} (hs : 0 < size) (hf : ∀ x, (f x).length = size) {l : List α} (h1 : ∀ x ∈ l, ∀ u ∈ f x, u.oneCell' = true) {t e : TypeId} (ht : Try.prog.underlying t = some (.slice e)) {w : World} {lim : Nat} {v : Value} (h : SlAt size f w lim v l) : Src Try.prog size t v l.length (l.flatMap f) w := by
  obtain ⟨ao, cap, rfl, h2, h3, h4⟩ := h
  have hlen : (l.flatMap f).length = l.length * size := by
    clear h2 h4 h1
    induction l with
    | nil => simp
    | cons x l ih => rw [List.flatMap_cons, List.length_append, ih, hf, List.length_cons, Nat.succ_mul]; omega
  have hone : ∀ u ∈ l.flatMap f, u.oneCell' = true := fun u hu => by
    obtain ⟨x, hm, hx⟩ := List.mem_flatMap.1 hu
    exact h1 x hm u hx
  by_cases hp : 0 < l.length
  · obtain ⟨b, off, rfl, hb, hc⟩ := h4 hp
    refine Src.ofSlice w ht _ _ _ _ hlen (fun j u hu => ?_) hone
    rw [Addr.add_lit]
    have hj : j < l.length * size := by
      rw [← hlen]
      rcases Nat.lt_or_ge j (l.flatMap f).length with h' | h'
      · exact h'
      · rw [List.getElem?_eq_none h'] at hu; cases hu
    have hi : j / size < l.length := Nat.div_lt_of_lt_mul (by rw [Nat.mul_comm]; exact hj)
    have hm : j % size < size := Nat.mod_lt _ hs
    have ej : j / size * size + j % size = j := by rw [Nat.mul_comm]; exact Nat.div_add_mod j size
    have := hc (j / size) hi (j % size) u (by rw [← hu, ← flat_get hf l (j / size) hi (j % size) hm, ej])
    rw [Nat.add_assoc, ej] at this
    exact this
  · obtain rfl : l = [] := List.eq_nil_of_length_eq_zero (by omega)
    cases ao with
    | none => exact Src.ofNil w ht cap
    | some a => exact Src.ofSlice w ht a 0 cap [] (by simp) (fun j u hu => by simp at hu) (fun u hu => by cases hu)

theorem info_freshOp : (Try.prog.info? 63).map (fun i => (i.zero, i.size, i.bytes)) = some (some (.agg #[.int .u8 0, .string ⟨#[]⟩, .string ⟨#[]⟩, .int .u32 0]), 4, 48) := by kernel_rfl
set_option maxHeartbeats 1000000 in
set_option maxRecDepth 1000000 in
theorem freshOp_any (w : World) (v : Value) (n : Nat) (xs : List Value) (hs : Src Try.prog 4 24 v n xs w) (hn : n ≤ 1000000000) :
    Calls Try.prog 26 #[v] w fun e w' => ∃ v', e = .returned v' ∧ w'.ownsRow w.heap.size 63 4 v' n xs ∧ Below w.heap.size w w' := by
  obtain ⟨i0, hi, hz0, hz1, hz2⟩ := info_parts info_freshOp
  go_enter Try.func26, Try.ntmps26
  go_wp2_with (at_builtin; refine wpList_append_own_src _ rfl (.const (.slice none 0 0)) (.tmp 3) 24 24 rfl w.heap.size 63 i0 (.agg #[.int .u8 0, .string ⟨#[]⟩, .string ⟨#[]⟩, .int .u32 0]) 4 48 Try.underlying24 hi hz0 hz1 hz2 rfl (by decide) (.slice none 0 0) 0 [] rfl (World.ownsRow_nil _ _ _ _) v n xs rfl hs (by unfold maxLen; omega) (by omega) (Nat.le_refl _) ?_; intro v' w1 ho hg hat; rw [Nat.zero_add, List.nil_append] at ho; have bb : Below w.heap.size w w1 := (Below.refl _ _).grown hg (Nat.le_refl _) (fun k e => by cases e))
  go_ret
  exact ⟨_, rfl, ho, bb⟩

theorem info_freshResult : (Try.prog.info? 67).map (fun i => (i.zero, i.size, i.bytes)) = some (some (.agg #[.slice none 0 0]), 1, 24) := by kernel_rfl
set_option maxHeartbeats 1000000 in
set_option maxRecDepth 1000000 in
theorem freshResult_any (w : World) (v : Value) (n : Nat) (xs : List Value) (hs : Src Try.prog 1 25 v n xs w) (hn : n ≤ 1000000000) :
    Calls Try.prog 27 #[v] w fun e w' => ∃ v', e = .returned v' ∧ w'.ownsRow w.heap.size 67 1 v' n xs ∧ Below w.heap.size w w' := by
  obtain ⟨i0, hi, hz0, hz1, hz2⟩ := info_parts info_freshResult
  go_enter Try.func27, Try.ntmps27
  go_wp2_with (at_builtin; refine wpList_append_own_src _ rfl (.const (.slice none 0 0)) (.tmp 3) 25 25 rfl w.heap.size 67 i0 (.agg #[.slice none 0 0]) 1 24 Try.underlying25 hi hz0 hz1 hz2 rfl (by decide) (.slice none 0 0) 0 [] rfl (World.ownsRow_nil _ _ _ _) v n xs rfl hs (by unfold maxLen; omega) (by omega) (Nat.le_refl _) ?_; intro v' w1 ho hg hat; rw [Nat.zero_add, List.nil_append] at ho; have bb : Below w.heap.size w w1 := (Below.refl _ _).grown hg (Nat.le_refl _) (fun k e => by cases e))
  go_ret
  exact ⟨_, rfl, ho, bb⟩

theorem info_freshRow : (Try.prog.info? 74).map (fun i => (i.zero, i.size, i.bytes)) = some (some (.agg #[.string ⟨#[]⟩, .int .u32 0]), 2, 24) := by kernel_rfl
set_option maxHeartbeats 1000000 in
set_option maxRecDepth 1000000 in
theorem freshRow_any (w : World) (v : Value) (n : Nat) (xs : List Value) (hs : Src Try.prog 2 65 v n xs w) (hn : n ≤ 1000000000) :
    Calls Try.prog 28 #[v] w fun e w' => ∃ v', e = .returned v' ∧ w'.ownsRow w.heap.size 74 2 v' n xs ∧ Below w.heap.size w w' := by
  obtain ⟨i0, hi, hz0, hz1, hz2⟩ := info_parts info_freshRow
  go_enter Try.func28, Try.ntmps28
  go_wp2_with (at_builtin; refine wpList_append_own_src _ rfl (.const (.slice none 0 0)) (.tmp 3) 65 65 rfl w.heap.size 74 i0 (.agg #[.string ⟨#[]⟩, .int .u32 0]) 2 24 Try.underlying65 hi hz0 hz1 hz2 rfl (by decide) (.slice none 0 0) 0 [] rfl (World.ownsRow_nil _ _ _ _) v n xs rfl hs (by unfold maxLen; omega) (by omega) (Nat.le_refl _) ?_; intro v' w1 ho hg hat; rw [Nat.zero_add, List.nil_append] at ho; have bb : Below w.heap.size w w1 := (Below.refl _ _).grown hg (Nat.le_refl _) (fun k e => by cases e))
  go_ret
  exact ⟨_, rfl, ho, bb⟩

theorem info_freshMsg : (Try.prog.info? 27).map (fun i => (i.zero, i.size, i.bytes)) = some (some (.agg #[.int .u8 0, .int .u8 0, .int .u8 0, .int .u32 0, .slice none 0 0, .slice none 0 0]), 6, 56) := by kernel_rfl
set_option maxHeartbeats 1000000 in
set_option maxRecDepth 1000000 in
theorem freshMsg_any (w : World) (v : Value) (n : Nat) (xs : List Value) (hs : Src Try.prog 6 41 v n xs w) (hn : n ≤ 1000000000) :
    Calls Try.prog 23 #[v] w fun e w' => ∃ v', e = .returned v' ∧ w'.ownsRow w.heap.size 27 6 v' n xs ∧ Below w.heap.size w w' := by
  obtain ⟨i0, hi, hz0, hz1, hz2⟩ := info_parts info_freshMsg
  go_enter Try.func23, Try.ntmps23
  go_wp2_with (at_builtin; refine wpList_append_own_src _ rfl (.const (.slice none 0 0)) (.tmp 3) 41 41 rfl w.heap.size 27 i0 (.agg #[.int .u8 0, .int .u8 0, .int .u8 0, .int .u32 0, .slice none 0 0, .slice none 0 0]) 6 56 Try.underlying41 hi hz0 hz1 hz2 rfl (by decide) (.slice none 0 0) 0 [] rfl (World.ownsRow_nil _ _ _ _) v n xs rfl hs (by unfold maxLen; omega) (by omega) (Nat.le_refl _) ?_; intro v' w1 ho hg hat; rw [Nat.zero_add, List.nil_append] at ho; have bb : Below w.heap.size w w1 := (Below.refl _ _).grown hg (Nat.le_refl _) (fun k e => by cases e))
  go_ret
  exact ⟨_, rfl, ho, bb⟩
end Go.Proofs.Ytpmmdbdooclcoab
