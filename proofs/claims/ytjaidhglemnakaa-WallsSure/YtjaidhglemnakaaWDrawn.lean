/- Regions that draw their order, where a range over a function stands; loads. -/
import Derived.Test.YtjaidhglemnakaaGRound
import Derived.Test.YtjaidhglemnakaaGSteps
import Derived.Test.YtjaidhglemnakaaWBytes
set_option linter.unusedSimpArgs false
set_option linter.unusedVariables false
namespace Go.Proofs.Ytjaidhglemnakaa
open Go.RowKit

theorem op_wide {P : Program} {o : Oper} {a : Act} {w : World} {K : Act → World → Prop} {Q : Exit → Act → World → Prop} (hd : ∀ c, o.op ≠ .defer c) (h : o.wp P a w K Q) : o.wpIn Fence.wide 0 P a w K Q := by
  refine ⟨fun f _ => trivial, ?_⟩
  rw [Oper.semAt_plain Fence.wide _ _ hd]
  unfold Oper.wp at h
  generalize (execOp a.eval o).run P w = r at *
  cases r with
  | ok x w' =>
    cases x with
    | value v => exact h
    | skip => exact h
    | defer d => exact h
    | enter f args => exact ⟨fun hh => by simp [Fence.wide] at hh, callsIn_wide.2 h⟩
    | row row args => exact ⟨fun hh => by simp [Fence.wide] at hh, (fun c cs _ => let ⟨v, w2, r, s⟩ := h c cs; ⟨v, w2, r, stepsIn_wide.2 s⟩)⟩
    | _ => exact h.elim
  | halt x w' => cases x <;> exact h
theorem any_wide {P : Program} {ops : Array Oper} {Q : Exit → Act → World → Prop} {md : Region.Mode} (hd : noDefer ops = true) (hQ : ¬ LetsOut Q) : ∀ (fuel : Nat) (listed : Array Bool) (a : Act) (w : World), wpAny P md ops Q fuel listed a w → wpAnyIn Fence.wide 0 P md ops Q fuel listed a w := by
  intro fuel
  induction fuel with
  | zero => intro listed a w h; exact h
  | succ fuel ih =>
    intro listed a w h
    refine ⟨h.1, fun i hi => ?_⟩
    have h2 := h.2 i hi
    unfold wpOp at h2
    unfold wpOpIn
    cases ho : ops[i]? with
    | none => rw [ho] at h2; exact ih _ _ _ h2
    | some o =>
      rw [ho] at h2
      simp only at h2 ⊢
      split
      · rename_i hw
        rw [if_pos hw] at h2
        rcases h2 with h2 | h2
        · exact Oper.wpIn_mono (fun a w => ih _ a w) (op_wide (noDefer_at hd ho) h2)
        · exact absurd h2.2 hQ
      · rename_i hw
        rw [if_neg hw] at h2
        exact ⟨fun f _ => trivial, ih _ _ _ h2⟩
theorem wide_drawn {P : Program} {id : Nat} {ops : Array Oper} {Q : Exit → Act → World → Prop} {S : World → Prop} {a : Act} {w : World} (hm : P.follows .mixedOrders = true) (hd : noDefer ops = true) (hQ : ¬ LetsOut Q) (hS : S w.drew)
    (h : S w.drew → wpAnyH P .any ops Q S ops.size (Array.replicate ops.size false) a w.drew) : (Code.region id ops true).wpIn Fence.wide 0 P Q a w :=
  wpIn_region_any hm (any_wide hd hQ _ _ _ _ (wpAny_of_held _ _ _ _ (h hS)))
/-- Q, where a region runs off its end. -/
def Straight (Q : Exit → Act → World → Prop) : Exit → Act → World → Prop
  | .normal, a, w => Q .normal a w
  | _, _, _ => False
theorem Straight.normal {Q : Exit → Act → World → Prop} {a : Act} {w : World} (h : Q .normal a w) : Straight Q .normal a w := h
theorem Straight.imp {Q : Exit → Act → World → Prop} : ∀ (e : Exit) (a : Act) (w : World), Straight Q e a w → Q e a w := fun e a w h => by
  cases e <;> first | exact h | exact (h : False).elim
theorem calm_straight {Q : Exit → Act → World → Prop} : ¬ LetsOut (Straight Q) := by
  rintro ⟨_, _, h⟩
  exact h
theorem wide_region {P : Program} {id : Nat} {ops : Array Oper} {Q : Exit → Act → World → Prop} (S : World → Prop) {a : Act} {w : World} (hm : P.follows .mixedOrders = true) (hd : noDefer ops = true) (hS : S w.drew)
    (h : S w.drew → wpAnyH P .any ops (Straight Q) S ops.size (Array.replicate ops.size false) a w.drew) : (Code.region id ops true).wpIn Fence.wide 0 P Q a w :=
  wpIn_mono (wide_drawn hm hd calm_straight hS h) Straight.imp
theorem round_region {P : Program} {id : Nat} {ops : Array Oper} {Q : Exit → Act → World → Prop} (S : World → Prop) {a : Act} {w : World} {l : Nat} (hm : P.follows .mixedOrders = true) (hd : noDefer ops = true) (hS : S w.drew)
    (h : S w.drew → wpAnyH P .any ops (Straight Q) S ops.size (Array.replicate ops.size false) a w.drew) : (Code.region id ops true).wpIn (Fence.wide.inRound l) 0 P Q a w :=
  wpIn_mono (round_drawn hm hd calm_straight hS h) Straight.imp
theorem ld_place (b o : Nat) (v : Option Addr) (W : World) (h : W.cell? ⟨b, o, none⟩ = some (.pointer v)) : (Instr.loadAt 82 (.pointer (some ⟨b, o, none⟩))).run Try.prog W = .ok (.pointer v) W := by go_simp
theorem ld_disk (b o : Nat) (v : Option Addr) (W : World) (h : W.cell? ⟨b, o, none⟩ = some (.pointer v)) : (Instr.loadAt 24 (.pointer (some ⟨b, o, none⟩))).run Try.prog W = .ok (.pointer v) W := by go_simp
theorem ld_int (b o : Nat) (v : Int) (W : World) (h : W.cell? ⟨b, o, none⟩ = some (.int .i64 v)) : (Instr.loadAt 3 (.pointer (some ⟨b, o, none⟩))).run Try.prog W = .ok (.int .i64 v) W := by go_simp
theorem ld_log (b o : Nat) (v : Option Addr) (W : World) (h : W.cell? ⟨b, o, none⟩ = some (.pointer v)) : (Instr.loadAt 23 (.pointer (some ⟨b, o, none⟩))).run Try.prog W = .ok (.pointer v) W := by go_simp
theorem ld_recs (b o : Nat) (ao : Option Addr) (n c : Nat) (W : World) (h : W.cell? ⟨b, o, none⟩ = some (.slice ao n c)) : (Instr.loadAt 34 (.pointer (some ⟨b, o, none⟩))).run Try.prog W = .ok (.slice ao n c) W := by go_simp
end Go.Proofs.Ytjaidhglemnakaa
