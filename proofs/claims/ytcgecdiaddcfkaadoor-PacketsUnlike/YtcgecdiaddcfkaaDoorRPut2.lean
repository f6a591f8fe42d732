/- The walks of rows.PutOps and rows.PutChanges: the bytes, or the error. -/
import Derived.Test.YtcgecdiaddcfkaaDoorRPut
set_option linter.unusedSimpArgs false
set_option linter.unusedVariables false
namespace Go.Proofs.YtcgecdiaddcfkaaDoor
open Go.RowKit

/-- The value v holds the bytes bs in memory of its own, from block number 'base' on. -/
def BsAt (w : World) (base : Nat) (v : Value) (bs : List UInt8) : Prop := w.ownsRow base 5 1 v bs.length (bcells bs)
theorem own_mono {w : World} {base base' : Nat} {e : TypeId} {size : Nat} {v : Value} {n : Nat} {xs : List Value} (h : w.ownsRow base e size v n xs) (hb : base' ≤ base) : w.ownsRow base' e size v n xs := by
  refine ⟨h.1, ?_⟩
  rcases h.2 with h1 | ⟨g, cap, cur, h1, h2, h3⟩
  · exact .inl h1
  · exact .inr ⟨g, cap, cur, h1, Nat.le_trans hb h2, h3⟩
theorem BsAt.mono {w : World} {base base' : Nat} {v : Value} {bs : List UInt8} (h : BsAt w base v bs) (hb : base' ≤ base) : BsAt w base' v bs := own_mono h hb
theorem BsAt_nil (w : World) (base : Nat) : BsAt w base (.slice none 0 0) [] := World.ownsRow_nil w base _ _
/-- A writer that was just made, and the variable that holds it. -/
theorem wat_new (w : World) : WAt ((w.alloc (.cells #[.slice none 0 0] 67)).alloc (.cells #[ptr w.heap.size] 65)) w.heap.size (w.heap.size + 2) [] (.slice none 0 0) ∧
    Held w.heap.size ((w.alloc (.cells #[.slice none 0 0] 67)).alloc (.cells #[ptr w.heap.size] 65)) (.slice none 0 0) (w.heap.size + 1) (.cells #[ptr w.heap.size] 65 (0, 0)) := by
  refine ⟨⟨?_, World.ownsRow_nil _ _ _ _, by omega, by simp⟩, ⟨by simp, by omega, by simp [Value.ownBlock], ?_⟩⟩
  · exact alloc_block (heap_alloc_new w _) _
  · have := heap_alloc_new (w.alloc (.cells #[.slice none 0 0] 67)) (.cells #[ptr w.heap.size] 65)
    simpa using this
theorem below_two {w : World} (a b : Obj) : Below w.heap.size w ((w.alloc a).alloc b) := ((Below.refl _ _).alloc (Nat.le_refl _) _).alloc (by simp) _

theorem putOps_arg {l : List OpD} (h : l.all opOk = false) : putOps l = ([], 1) := by unfold putOps; rw [if_neg (by simp [h])]
theorem putOps_limit {l : List OpD} (h : l.all opOk = true) (hn : ¬ l.length ≤ 16) : putOps l = ([], 3) := by unfold putOps; rw [if_pos h, if_neg hn]
theorem putOps_fits {l : List OpD} (h : l.all opOk = true) (hn : l.length ≤ 16) : putOps l = (encList encOp l, 0) := by unfold putOps; rw [if_pos h, if_pos hn]
theorem putOps_len {l : List OpD} (h : l.all opOk = true) : (l.flatMap encOp).length ≤ l.length * 40 := by
  induction l with
  | nil => simp
  | cons x l ih =>
    rw [List.all_cons, Bool.and_eq_true] at h
    have h1 := ih h.2
    have h2 : (encOp x).length ≤ 40 := by
      have h1 := opOk_key h.1
      have h2 := opOk_to h.1
      simp only [encOp, List.length_cons, List.length_append, txt_len, be4_len]; omega
    rw [List.flatMap_cons, List.length_append, List.length_cons]
    omega

set_option maxHeartbeats 2000000 in
set_option maxRecDepth 1000000 in
theorem PutOps_any (w : World) (vl : Value) (l : List OpD) (hs : SlAt 4 opCells w w.heap.size vl l) (hsm : ∀ x ∈ l, opSm x) :
    Calls Tryd.prog 13 #[vl] w fun e w' => ∃ v, e = .returned (.tuple #[v, .int .i64 ((putOps l).2 : Int)]) ∧ BsAt w' w.heap.size v (putOps l).1 ∧ Below w.heap.size w w' := by
  have ka := allOp_any w vl l hs hsm
  have hmf : ∀ (fn : Fn) (first cap : Array Value) (w : World), (Instr.makeFunc fn first cap).run Tryd.prog w = .ok (.func fn first cap) w := fun _ _ _ _ => rfl
  cases hok : l.all opOk with
  | false =>
    rw [putOps_arg hok]
    rw [hok] at ka
    obtain ⟨ao, cap, rfl, hlc, hcm, hc⟩ := hs
    clear hok hc
    go_enter Tryd.func13, Tryd.ntmps13
    go_wp2_with fail
    refine ka.mono ?_
    rintro e w1 ⟨rfl, b1⟩
    clear ka
    go_wp2
    go_ret2
    exact ⟨_, rfl, BsAt_nil _ _, b1⟩
  | true =>
    rw [hok] at ka
    by_cases hn : l.length ≤ 16
    case neg =>
      rw [putOps_limit hok hn]
      obtain ⟨ao, cap, rfl, hlc, hcm, hc⟩ := hs
      clear hok hc
      go_enter Tryd.func13, Tryd.ntmps13
      go_wp2_with fail
      refine ka.mono ?_
      rintro e w1 ⟨rfl, b1⟩
      clear ka
      go_wp2
      go_ret2
      exact ⟨_, rfl, BsAt_nil _ _, b1⟩
    rw [putOps_fits hok hn]
    have hlen := putOps_len hok
    have hxs : ∀ x ∈ l, x.key.size < 256 ∧ x.to.size < 256 := fun x hx => by
      have h := List.all_eq_true.mp hok x hx
      have h1 := opOk_key h
      have h2 := opOk_to h
      omega
    have hs0 := hs
    obtain ⟨ao, cap, rfl, hlc, hcm, hc⟩ := hs
    clear hok hc
    go_enter Tryd.func13, Tryd.ntmps13
    go_wp2_with fail
    refine ka.mono ?_
    rintro e w1 ⟨rfl, b1⟩
    clear ka
    have hN := wat_new w1
    have bN := b1.trans ((below_two (w := w1) (.cells #[.slice none 0 0] 67) (.cells #[ptr w1.heap.size] 65)).mono b1.size)
    have hsN := hs0.below bN (Nat.le_refl _)
    have kp := putListOp_any _ w1.heap.size (w1.heap.size + 2) (w1.heap.size + 1) w.heap.size 65 [] (.slice none 0 0) _ l hN.1 hN.2 b1.size hsN hxs (by omega) (by simp only [List.length_nil]; omega)
    have fin : ∀ w2 v2, WAt w2 w1.heap.size (w1.heap.size + 2) (encList encOp l) v2 → WrStep w1.heap.size ((w1.alloc (.cells #[.slice none 0 0] 67)).alloc (.cells #[ptr w1.heap.size] 65)) w2 (.slice none 0 0) v2 →
        BsAt w2 w.heap.size v2 (encList encOp l) ∧ Below w.heap.size w w2 ∧ w2.cell? ⟨w1.heap.size, 0, none⟩ = some v2 ∧ w2.cell? ⟨w1.heap.size + 1, 0, none⟩ = some (ptr w1.heap.size) := by
      intro w2 v2 h2 s2
      have z := b1.size
      exact ⟨own_mono h2.2.1 (by omega), bN.trans ((hN.1.kept s2).below (by omega) (by omega)), box_cell h2.1, (hN.2.step s2).cell 0⟩
    clear hN bN hsN hs0 hxs hsm
    go_wp2_with fail
    refine kp.mono ?_
    rintro e w2 ⟨rfl, v2, h2, s2⟩
    obtain ⟨f1, f2, f3, f4⟩ := fin w2 v2 h2 s2
    clear fin h2 s2 kp
    obtain ⟨ao2, n2, c2, rfl⟩ := own_slice f1
    go_wp2
    go_ret2
    exact ⟨_, rfl, f1, f2⟩

theorem putChs_arg {l : List ChD} (h : l.all chOk = false) : putChs l = ([], 1) := by unfold putChs; rw [if_neg (by simp [h])]
theorem putChs_limit {l : List ChD} (h : l.all chOk = true) (hn : ¬ l.length ≤ 4096) : putChs l = ([], 3) := by unfold putChs; rw [if_pos h, if_neg hn]
theorem putChs_fits {l : List ChD} (h : l.all chOk = true) (hn : l.length ≤ 4096) : putChs l = (encList encCh l, 0) := by unfold putChs; rw [if_pos h, if_pos hn]
theorem putChs_len {l : List ChD} (h : l.all chOk = true) : (l.flatMap encCh).length ≤ l.length * 40 := by
  induction l with
  | nil => simp
  | cons x l ih =>
    rw [List.all_cons, Bool.and_eq_true] at h
    have h1 := ih h.2
    have h2 : (encCh x).length ≤ 40 := by
      have h3 := h.1
      unfold chOk at h3; rw [Bool.and_eq_true] at h3
      have h1 := chk_size h3.1
      simp only [encCh, List.length_cons, List.length_append, txt_len, be4_len]; omega
    rw [List.flatMap_cons, List.length_append, List.length_cons]
    omega

end Go.Proofs.YtcgecdiaddcfkaaDoor
