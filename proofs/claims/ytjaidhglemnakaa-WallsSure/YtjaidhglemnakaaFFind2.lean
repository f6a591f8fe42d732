/- The walk of find. -/
import Derived.Test.YtjaidhglemnakaaFFind
import Derived.Test.YtjaidhglemnakaaGSteps
set_option linter.unusedSimpArgs false
set_option linter.unusedVariables false
namespace Go.Proofs.Ytjaidhglemnakaa
open Go.RowKit

theorem ldf (b o : Nat) (fn : Fn) (first cp : Array Value) (W : World) (h : W.cell? ⟨b, o, none⟩ = some (.func fn first cp)) : (Instr.loadAt 100 (.pointer (some ⟨b, o, none⟩))).run Try.prog W = .ok (.func fn first cp) W := by go_simp
theorem find_short (w : World) (v : Value) (bs : List UInt8) (hb : InAt w w.heap.size v bs) (h : bs.length < 64) :
    Calls Try.prog 48 #[v] w fun e w' => e = .returned (.tuple #[.slice none 0 0, .bool false]) ∧ Below w.heap.size w w' := by
  obtain ⟨ao, cap, rfl, hb1, hb2, -⟩ := hb
  unfold maxLen at hb2
  have hmf : ∀ (fn : Fn) (first cap : Array Value) (w : World), (Instr.makeFunc fn first cap).run Try.prog w = .ok (.func fn first cap) w := fun _ _ _ _ => rfl
  have hsf : ∀ (W : World) (a : Addr) (fn : Fn) (first cp : Array Value), (store a (.func fn first cp)).run Try.prog W = stored Try.prog W a (.func fn first cp) .plain := fun W a fn first cp => run_store Try.prog W a _ .plain rfl
  have i1 : (bs.length : Int) < 64 := by omega
  go_enter Try.func48, Try.ntmps48
  go_wp2
  go_ret2
  exact ⟨rfl, ((Below.refl _ _).alloc (Nat.le_refl _) _).alloc (by simp) _⟩
set_option maxHeartbeats 8000000 in
set_option maxRecDepth 1000000 in
theorem find_long (w : World) (v : Value) (bs : List UInt8) (hb : InAt w w.heap.size v bs) (h64 : 64 ≤ bs.length) (h : 16384 < num (bs.take 4)) :
    Calls Try.prog 48 #[v] w fun e w' => e = .returned (.tuple #[.slice none 0 0, .bool false]) ∧ Below w.heap.size w w' := by
  have hb0 := hb
  obtain ⟨ao, cap, rfl, hb1, hb2, hb3⟩ := hb
  obtain ⟨b, off, rfl, hbl, -⟩ := hb3 (by omega)
  clear hb3
  unfold maxLen at hb2
  have hmf : ∀ (fn : Fn) (first cap : Array Value) (w : World), (Instr.makeFunc fn first cap).run Try.prog w = .ok (.func fn first cap) w := fun _ _ _ _ => rfl
  have hsf : ∀ (W : World) (a : Addr) (fn : Fn) (first cp : Array Value), (store a (.func fn first cp)).run Try.prog W = stored Try.prog W a (.func fn first cp) .plain := fun W a fn first cp => run_store Try.prog W a _ .plain rfl
  have i64 : ¬ (bs.length : Int) < 64 := by omega
  obtain ⟨w2, ew2⟩ : ∃ w2, w2 = (w.alloc (.cells #[.slice (some ⟨b, off, none⟩) bs.length cap] 22)).alloc (.cells #[.func (.func 52) #[] #[.pointer (some ⟨w.heap.size, 0, none⟩)]] 100) := ⟨_, rfl⟩
  have b2 : Below w.heap.size w w2 := by rw [ew2]; exact ((Below.refl _ _).alloc (Nat.le_refl _) _).alloc (by simp) _
  have X2 : w2.cell? ⟨w.heap.size, 0, none⟩ = some (.slice (some ⟨b, off, none⟩) bs.length cap) := by rw [ew2]; go_simp
  have Y2 : w2.cell? ⟨w.heap.size + 1, 0, none⟩ = some (.func (.func 52) #[] #[.pointer (some ⟨w.heap.size, 0, none⟩)]) := by rw [ew2]; go_simp
  have zX : w.heap.size < w2.heap.size := by rw [ew2]; simp; omega
  have zY : w.heap.size + 1 < w2.heap.size := by rw [ew2]; simp
  have kt0 : Calls Try.prog 53 #[.int .i64 0, .pointer (some ⟨w.heap.size + 1, 0, none⟩)] w2 fun e w' => e = .returned (.int .u32 ((num (bs.take 4) : Nat) : Int)) ∧ w2 = w' := told_any w2 w.heap.size (w.heap.size + 1) b off bs.length cap _ 0 bs Y2 X2 (hb0.below b2 (Nat.le_refl _)) (by omega) (by omega)
  have nb := num_bd (bs.take 4)
  rw [List.length_take, Nat.min_eq_left (by omega)] at nb
  replace nb : num (bs.take 4) < 4294967296 := nb
  generalize num (bs.take 4) = n at *
  go_enter Try.func48, Try.ntmps48
  go_wp2_with fail
  rw [← ew2]
  clear ew2
  refine kt0.mono ?_
  rintro e w' ⟨rfl, rfl⟩
  have i2 : (16384 : Int) < (n : Int) := by omega
  go_wp2
  go_ret2
  exact ⟨rfl, b2⟩
set_option maxHeartbeats 8000000 in
set_option maxRecDepth 1000000 in
theorem find_few (w : World) (v : Value) (bs : List UInt8) (hb : InAt w w.heap.size v bs) (h64 : 64 ≤ bs.length) (h : ¬ 16384 < num (bs.take 4)) (hW : bs.length < secs (num (bs.take 4)) * 64) :
    Calls Try.prog 48 #[v] w fun e w' => e = .returned (.tuple #[.slice none 0 0, .bool false]) ∧ Below w.heap.size w w' := by
  have hb0 := hb
  obtain ⟨ao, cap, rfl, hb1, hb2, hb3⟩ := hb
  obtain ⟨b, off, rfl, hbl, -⟩ := hb3 (by omega)
  clear hb3
  unfold maxLen at hb2
  have hmf : ∀ (fn : Fn) (first cap : Array Value) (w : World), (Instr.makeFunc fn first cap).run Try.prog w = .ok (.func fn first cap) w := fun _ _ _ _ => rfl
  have hsf : ∀ (W : World) (a : Addr) (fn : Fn) (first cp : Array Value), (store a (.func fn first cp)).run Try.prog W = stored Try.prog W a (.func fn first cp) .plain := fun W a fn first cp => run_store Try.prog W a _ .plain rfl
  have i64 : ¬ (bs.length : Int) < 64 := by omega
  obtain ⟨w2, ew2⟩ : ∃ w2, w2 = (w.alloc (.cells #[.slice (some ⟨b, off, none⟩) bs.length cap] 22)).alloc (.cells #[.func (.func 52) #[] #[.pointer (some ⟨w.heap.size, 0, none⟩)]] 100) := ⟨_, rfl⟩
  have b2 : Below w.heap.size w w2 := by rw [ew2]; exact ((Below.refl _ _).alloc (Nat.le_refl _) _).alloc (by simp) _
  have X2 : w2.cell? ⟨w.heap.size, 0, none⟩ = some (.slice (some ⟨b, off, none⟩) bs.length cap) := by rw [ew2]; go_simp
  have Y2 : w2.cell? ⟨w.heap.size + 1, 0, none⟩ = some (.func (.func 52) #[] #[.pointer (some ⟨w.heap.size, 0, none⟩)]) := by rw [ew2]; go_simp
  have zX : w.heap.size < w2.heap.size := by rw [ew2]; simp; omega
  have zY : w.heap.size + 1 < w2.heap.size := by rw [ew2]; simp
  have kt0 : Calls Try.prog 53 #[.int .i64 0, .pointer (some ⟨w.heap.size + 1, 0, none⟩)] w2 fun e w' => e = .returned (.int .u32 ((num (bs.take 4) : Nat) : Int)) ∧ w2 = w' := told_any w2 w.heap.size (w.heap.size + 1) b off bs.length cap _ 0 bs Y2 X2 (hb0.below b2 (Nat.le_refl _)) (by omega) (by omega)
  have nb := num_bd (bs.take 4)
  rw [List.length_take, Nat.min_eq_left (by omega)] at nb
  replace nb : num (bs.take 4) < 4294967296 := nb
  have ks := fun W => sectorsOf_any W (num (bs.take 4)) (by omega)
  have hge := secs_ge (num (bs.take 4))
  have hlt := secs_lt (num (bs.take 4))
  obtain ⟨N, eN⟩ : ∃ N, N = secs (num (bs.take 4)) * 64 := ⟨_, rfl⟩
  have mN : ((secs (num (bs.take 4)) : Nat) : Int) * 64 = (N : Int) := by rw [eN]; omega
  rw [← eN] at hge hlt hW
  clear eN
  generalize ((secs (num (bs.take 4)) : Nat) : Int) = S at *
  have sb : 0 ≤ S ∧ S ≤ 1000 := by omega
  obtain ⟨sb1, sb2⟩ := sb
  generalize num (bs.take 4) = n at *
  go_enter Try.func48, Try.ntmps48
  go_wp2_with fail
  rw [← ew2]
  clear ew2
  refine kt0.mono ?_
  rintro e w' ⟨rfl, rfl⟩
  have i2 : ¬ (16384 : Int) < (n : Int) := by omega
  have i3 : (bs.length : Int) < (N : Int) := by omega
  go_wp2_with (go_at_call 34; refine (ks _).mono ?_; rintro e w' ⟨rfl, rfl⟩)
  go_ret2
  exact ⟨rfl, b2⟩
end Go.Proofs.Ytjaidhglemnakaa
