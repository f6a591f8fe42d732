/- The walks of the document's own Digits and Marker. -/
import Derived.Test.YthcngkikclaodaaDoorDigits
import Derived.Deep.RegionHeld3
import Derived.Deep.QuietTactic
import Derived.BigQuiet
set_option linter.unusedSimpArgs false
set_option linter.unusedVariables false
namespace Go.Proofs.YthcngkikclaodaaDoor
open Go.RowKit

/-- One digit, as a text. -/
def digitB (d : Nat) : ByteArray := ⟨#[UInt8.ofNat (48 + d)]⟩
/-- The ten digits. -/
def tenB : ByteArray := ⟨#[48, 49, 50, 51, 52, 53, 54, 55, 56, 57]⟩
theorem ten_at : ∀ d : Nat, d < 10 → tenB.extract d (d + 1) = digitB d := by
  intro d hd
  have : ∀ x : Fin 10, (tenB.extract x.val (x.val + 1)).data = (digitB x.val).data := by decide
  exact ByteArray.ext (this ⟨d, hd⟩)
/-- A number's numeral. -/
def decB (n : Nat) : ByteArray := ⟨(Lib.decDigits n).toArray⟩
theorem decB_one {n : Nat} (h : n < 10) : decB n = digitB n := by unfold decB digitB; rw [Lib.decDigits_one h]
theorem decB_step {n : Nat} (h : ¬ n < 10) : decB n = decB (n / 10) ++ digitB (n % 10) := by
  unfold decB digitB
  rw [dec_step h]
  apply ByteArray.ext
  rw [ByteArray.data_append]
  simp
theorem decB_size {n : Nat} (h : n < 4294967296) : (decB n).size ≤ 10 := by
  have := mark_long n h
  unfold decB
  show (Lib.decDigits n).toArray.size ≤ 10
  simpa using this

set_option maxHeartbeats 4000000 in
set_option maxRecDepth 1000000 in
theorem digits_one (n : Nat) (w : World) (h : n < 10) :
    Calls Tryd.prog 18 #[.int .u32 n] w fun e w' => e = .returned (.string (decB n)) ∧ ∃ m, w' = w.drewN m := by
  have H : Hid _ := (ten_at n h).trans (decB_one h).symm
  have hsl : ∀ W : World, (Instr.slice 9 (.string tenB) (some (.int .u32 n)) (some (.int .u32 ((n : Int) + 1))) none).run Tryd.prog W = .ok (.string (tenB.extract n (n + 1))) W := fun W => by
    have e : tenB.size = 10 := rfl
    rw [run_slice_string W 9 tenB .u32 .u32 n ((n : Int) + 1) Tryd.underlying9 (by omega) (by omega) (by rw [e]; omega)]
    simp
  unfold tenB at hsl
  go_enter Tryd.func18, Tryd.ntmps18
  go_wp2
  go_ret
  refine ⟨?_, 0, rfl⟩
  rw [← H.out]
  rfl

theorem ten_run (d : Nat) (hd : d < 10) (W : World) : (Instr.slice 9 (.string ⟨#[48, 49, 50, 51, 52, 53, 54, 55, 56, 57]⟩) (some (.int .u32 d)) (some (.int .u32 ((d : Int) + 1))) none).run Tryd.prog W = .ok (.string (digitB d)) W := by
  rw [← ten_at d hd]
  have e : tenB.size = 10 := rfl
  show (Instr.slice 9 (.string tenB) (some (.int .u32 d)) (some (.int .u32 ((d : Int) + 1))) none).run Tryd.prog W = _
  rw [run_slice_string W 9 tenB .u32 .u32 d ((d : Int) + 1) Tryd.underlying9 (by omega) (by omega) (by rw [e]; omega)]
  simp

set_option maxHeartbeats 4000000 in
set_option maxRecDepth 1000000 in
theorem digits_more (n q r : Nat) (w : World) (h : ¬ n < 10) (h32 : n < 4294967296) (hq0 : q = n / 10) (hr0 : r = n % 10)
    (ih : ∀ W : World, Calls Tryd.prog 18 #[.int .u32 q] W fun e w' => e = .returned (.string (decB q)) ∧ ∃ m, w' = W.drewN m) :
    Calls Tryd.prog 18 #[.int .u32 n] w fun e w' => e = .returned (.string (decB n)) ∧ ∃ m, w' = w.drewN m := by
  have H := decB_step h
  rw [← hq0, ← hr0] at H
  rw [H]
  have hs1 := decB_size (n := q) (by omega)
  have hten := ten_run r (by omega)
  have hadd : ∀ W : World, (Op.stringOp .add (decB q) (digitB r)).run Tryd.prog W = .ok (.string (decB q ++ digitB r)) W := fun W => run_string_add_sum W _ _ (by show (decB q).size + 1 ≤ _; omega)
  generalize decB q ++ digitB r = D at *
  have hq : IntKind.u32.wrap ((n : Int) / 10) = (q : Int) := by rw [IntKind.wrap_u32]; omega
  have hr : (n : Int).tmod 10 = (r : Int) := by rw [Int.tmod_eq_emod_of_nonneg (by omega)]; omega
  have hr1 : IntKind.u32.wrap ((r : Int) + 1) = (r : Int) + 1 := by rw [IntKind.wrap_u32]; omega
  have hge : ¬ ((n : Int) < 10) := by omega
  clear hs1 hq0 hr0 H h h32
  go_enter Tryd.func18, Tryd.ntmps18
  go_wp2_with fail
  go_region_held3 (fun w' => ∃ m, w' = w.drewN m) (first | assumption | exact ⟨1, rfl⟩ | exact ⟨_, World.drewN_drew _ _⟩ | exact ⟨_, rfl⟩)
      (first
      | (go_at_call 18; refine (ih _).mono ?_; rintro e w' ⟨rfl, m, rfl⟩))
  all_goals
    go_wp2
    go_ret
    exact ⟨rfl, by first | assumption | exact ⟨_, World.drewN_drew _ _⟩ | exact ⟨_, rfl⟩⟩

theorem digits_any : ∀ (b n : Nat) (w : World), n < b → n < 4294967296 →
    Calls Tryd.prog 18 #[.int .u32 n] w fun e w' => e = .returned (.string (decB n)) ∧ ∃ m, w' = w.drewN m
  | 0, n, w, h, _ => absurd h (Nat.not_lt_zero _)
  | b + 1, n, w, h, h32 => by
    by_cases h10 : n < 10
    · exact digits_one n w h10
    · exact digits_more n (n / 10) (n % 10) w h10 h32 rfl rfl (fun W => digits_any b (n / 10) W (by omega) (by omega))

set_option maxHeartbeats 4000000 in
set_option maxRecDepth 1000000 in
theorem refMarker_any (g : Nat) (w : World) (hg : g < 4294967296) :
    Calls Tryd.prog 12 #[.int .u32 g] w fun e w' => e = .returned (.string (mark g)) ∧ ∃ m, w' = w.drewN m := by
  have k := digits_any (g + 1) g w (by omega) hg
  have hs := decB_size hg
  have hm : mark g = ⟨#[95, 109]⟩ ++ decB g := rfl
  rw [hm]
  clear hm
  generalize decB g = D at *
  go_enter Tryd.func12, Tryd.ntmps12
  go_wp2_with fail
  refine k.mono ?_
  rintro e w' ⟨rfl, m, rfl⟩
  go_wp2
  go_ret
  exact ⟨rfl, m, rfl⟩
end Go.Proofs.YthcngkikclaodaaDoor
