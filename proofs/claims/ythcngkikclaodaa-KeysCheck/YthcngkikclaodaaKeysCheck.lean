/- For every text the call of KeysCheck returns true, and the text reads as before: keys.Check and keys.Reserved answer as the document's own Check and Reserved. No condition. -/
import Derived.Test.YthcngkikclaodaaRef
import Derived.WalkKit
import Derived.ProofKit
import Derived.OpenShut
import Derived.ShutString
import Derived.ChangeOld
import Derived.Below
namespace Go.Proofs.Ythcngkikclaodaa
open Go.ChangeShapes Go.WideShapes Go.ChangeAt Go.RowKit
open Go.ChangeMaps (open_string shut_string)
set_option linter.unusedVariables false

theorem own : ownKnob Try.prog.godebug = none := by kernel_rfl

set_option maxHeartbeats 1000000 in
set_option maxRecDepth 1000000 in
theorem walk (a0 : ByteArray) (w0 : a0.size ≤ maxLen) (w : World) :
    Calls Try.prog 3 #[.string a0] w fun e w' => e = .returned (.bool true) ∧ Below w.heap.size w w' := by
  have kb := beyond_any (a0.size : Int) w.heap.size (w.alloc (.cells #[.int .i64 a0.size] 3)) (by omega) (by unfold maxLen at w0; omega) (by go_simp)
  by_cases hn : 1048576 < (a0.size : Int)
  · rw [show decide (1048576 < (a0.size : Int)) = true by simpa using hn] at kb
    go_enter Try.func3, Try.ntmps3
    go_wp2_with fail
    refine kb.mono ?_
    rintro e w' ⟨rfl, rfl⟩
    go_wp2
    go_ret
    exact ⟨rfl, (Below.refl _ _).alloc (Nat.le_refl _) _⟩
  · rw [show decide (1048576 < (a0.size : Int)) = false by simpa using hn] at kb
    have k5 := fun w => check_any a0 w w0
    have k6 := fun w => refCheck_any a0 w w0
    have k7 := fun w => reserved_any a0 w w0
    have k8 := fun w => refReserved_any a0 w w0
    go_enter Try.func3, Try.ntmps3
    go_wp2_with fail
    refine kb.mono ?_
    rintro e w' ⟨rfl, rfl⟩
    have hb0 : Below w.heap.size w (w.alloc (.cells #[.int .i64 a0.size] 3)) := (Below.refl _ _).alloc (Nat.le_refl _) _
    have hz0 : w.heap.size ≤ (w.alloc (.cells #[.int .i64 a0.size] 3)).heap.size := by simp
    go_wp2_with fail
    refine (k5 _).mono ?_
    rintro e w1 ⟨rfl, hb1⟩
    go_wp2_with fail
    refine (k6 _).mono ?_
    rintro e w2 ⟨rfl, rfl⟩
    go_wp2_with fail
    refine (k7 _).mono ?_
    rintro e w3 ⟨rfl, hb3⟩
    go_wp2_with fail
    refine (k8 _).mono ?_
    rintro e w4 ⟨rfl, rfl⟩
    go_wp2
    go_ret
    have hz1 := hb1.size
    exact ⟨rfl, (hb0.trans (hb1.mono hz0)).trans (hb3.mono (Nat.le_trans hz0 hz1))⟩

set_option maxRecDepth 100000 in
theorem lifted (os : Os) (started : os.Started) (H : Type) (enc : TypeId × Value → H) :
    ReturnsInHanded {} Try.checked os 3 .any (Rows.keysCheckSpec.pre6 enc Try.prog Try.f3 Rows.keysCheckRow.domain false) (Rows.keysCheckSpec.post enc Try.prog Try.f3 false true false false) := by
  refine returnsInHanded_of_change (C := Try.checked) own started (by kernel_rfl) Try.func3
    (ChangeSpec.witness6 (enc := enc) (C := Try.checked) false ⟨#[], #[.string ByteArray.empty], []⟩ 8 (by kernel_rfl) (by kernel_rfl) (by kernel_rfl) (by kernel_rfl)) ?_
  intro W base args ds gs before hval0 hW hcnd _
  have hval : ∀ (j : Nat) t v, Try.f3.params[j]? = some t → args[j]? = some v → Value.okWide Try.prog W .any base t v := hval0
  have hW' := hW
  obtain ⟨p, q, hA0, hV, rfl, hfz, hnd⟩ := hW
  have hA : DataW.TrodAll enc Try.prog W 0 (fun _ => true) true Try.f3.params.toList args.toList ds p := hA0
  rw [Try.params3] at hA hval
  obtain ⟨v0, vs0, d0, ds0, p0, q0, hargs, rfl, rfl, h0, r0⟩ := trodAll_cons hA
  obtain ⟨rfl, rfl, rfl⟩ := trodAll_nil r0
  obtain rfl : args = #[v0] := by cases args; simp_all
  obtain ⟨rfl, rfl⟩ := trodVars_none hV
  obtain ⟨a0, rfl, rfl, rfl, w0⟩ := open_string Try.underlying9 (hval 0 9 v0 rfl rfl) h0
  clear hA0 hval0
  simp only [List.append_nil] at hW'
  refine (walk a0 w0 W).mono fun e W' ⟨he, bel⟩ => ?_
  subst he
  exact ⟨_, rfl, _, _, _, [], _, [], hW', trodAll_mk1 (shut_bool Try.underlying4 _), (trodAll_cons_mk (shut_string Try.underlying9 w0) trodAll_mk0), rfl, bel.frame _, fun h => by cases h⟩

theorem over : Rows.keysCheckRow.holds Try.pinned (OpenSpec.ofChange Rows.keysCheckSpec) :=
  OpenClaim.holds_of_wide 3 Try.f3 rfl rfl rfl rfl rfl rfl rfl ⟨rfl, rfl, rfl, rfl, rfl⟩ rfl rfl rfl rfl rfl (by kernel_rfl) Try.func3 (by kernel_rfl)
    (of_decide_eq_true (by kernel_rfl)) (by unfold Func.isWrapper; first | (rw [if_pos (by decide +kernel)]; kernel_rfl) | (rw [if_neg (by decide +kernel)]; exact ⟨rfl, rfl⟩))
    (fun os started H enc _ => lifted os started H enc)

/-- The statement. -/
theorem keysCheck_holds : Rows.KeysCheckSaid :=
  over
#print axioms keysCheck_holds
end Go.Proofs.Ythcngkikclaodaa
