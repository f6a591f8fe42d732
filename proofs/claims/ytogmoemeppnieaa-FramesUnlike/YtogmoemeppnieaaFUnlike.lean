/- The walk of FramesUnlike: unlike records have unlike frames, neither of which begins the other one. -/
import Derived.Test.YtogmoemeppnieaaFAlive
import Derived.Test.YtogmoemeppnieaaGSameN
import Derived.Deep.QuietTactic
import Derived.BigQuiet
set_option linter.unusedSimpArgs false
set_option linter.unusedVariables false
namespace Go.Proofs.Ytogmoemeppnieaa
open Go.RowKit

theorem in_takeN {w : World} {lim cap m n : Nat} {ao : Option Addr} {bs : List UInt8} (h : InAt w lim (.slice ao m cap) bs) (hm : bs.length = m) (hn : n ≤ m) : InAt w lim (.slice ao n cap) (bs.take n) := by
  subst hm
  exact in_take h hn
set_option maxHeartbeats 8000000 in
set_option maxRecDepth 1000000 in
theorem unlike_any (w : World) (va vb : Value) (a b : List UInt8) (ha : InAt w w.heap.size va a) (hb : InAt w w.heap.size vb b) :
    Calls Try.prog 6 #[va, vb] w fun e w' => e = .returned (.bool true) ∧ Below w.heap.size w w' := by
  have kA := alive_any w
  have ha0 := ha
  have hb0 := hb
  obtain ⟨ao, ca, rfl, hac, ham, -⟩ := ha
  obtain ⟨bo, cb, rfl, hbc, hbm, -⟩ := hb
  unfold maxLen at ham hbm
  by_cases h1 : 16384 < a.length
  · have i1 : (16384 : Int) < (a.length : Int) := by omega
    clear ha0 hb0
    go_enter Try.func6, Try.ntmps6
    go_wp2_with fail
    refine kA.mono ?_
    rintro e w1 ⟨rfl, b1⟩
    clear kA
    go_wp2_with fail
    refine (alive_any _).mono ?_
    rintro e w2 ⟨rfl, b2⟩
    have b3 := b1.trans (b2.mono b1.size)
    go_wp2
    go_ret
    exact ⟨rfl, b3⟩
  have i1 : ¬ (16384 : Int) < (a.length : Int) := by omega
  by_cases h2 : 16384 < b.length
  · have i2 : (16384 : Int) < (b.length : Int) := by omega
    clear ha0 hb0
    go_enter Try.func6, Try.ntmps6
    go_wp2_with fail
    refine kA.mono ?_
    rintro e w1 ⟨rfl, b1⟩
    clear kA
    go_wp2_with fail
    refine (alive_any _).mono ?_
    rintro e w2 ⟨rfl, b2⟩
    have b3 := b1.trans (b2.mono b1.size)
    go_wp2
    go_ret
    exact ⟨rfl, b3⟩
  have i2 : ¬ (16384 : Int) < (b.length : Int) := by omega
  have hap := fun n => frame_apart (a := a) (b := b) (by omega) (by omega) (n := n)
  rw [frame_len, frame_len] at hap
  have fla := frame_len a
  have flb := frame_len b
  have kPa := fun W (hW : Below w.heap.size w W) => put_ok W _ a ((ha0.below hW (Nat.le_refl _)).mono hW.size) (by omega)
  have kPb := fun W (hW : Below w.heap.size w W) => put_ok W _ b ((hb0.below hW (Nat.le_refl _)).mono hW.size) (by omega)
  have pa := secs_lt a.length
  have pb := secs_lt b.length
  generalize secs a.length * 64 = N at *
  generalize secs b.length * 64 = M at *
  by_cases hNM : N ≤ M
  · have hn := hap N (by omega)
    have mn : (N : Int) ≤ (M : Int) := by omega
    have HA : Hid ((frame a).length = N) := fla
    have HB : Hid ((frame b).length = M) := flb
    have HN : Hid ((frame a).take N = (frame b).take N ↔ a = b) := hn
    clear hap hn fla flb
    generalize frame a = fa at *
    generalize frame b = fb at *
    go_enter Try.func6, Try.ntmps6
    go_wp2_with fail
    refine kA.mono ?_
    rintro e w1 ⟨rfl, b1⟩
    have kp := kPa w1 b1
    clear kA kPa
    go_wp2_with fail
    refine kp.mono ?_
    rintro e w2 ⟨rfl, O2, b2⟩
    have B2 := b1.trans (b2.mono b1.size)
    have kq := kPb w2 B2
    clear kp b1 b2 kPb
    go_wp2_with fail
    refine kq.mono ?_
    rintro e w3 ⟨rfl, O3, b3⟩
    have B3 := B2.trans (b3.mono B2.size)
    have O2' := O2.below b3
    clear kq b3 B2 O2
    generalize w1.heap.size = g1 at *
    generalize w2.heap.size = g2 at *
    have qa : ∀ W, Below w3.heap.size w3 W → InAt W W.heap.size (.slice (some ⟨g1, 0, none⟩) N N) (fa.take N) := fun W hW =>
      in_takeN (O2'.below hW).in HA.out (by omega)
    have qb : ∀ W, Below w3.heap.size w3 W → InAt W W.heap.size (.slice (some ⟨g2, 0, none⟩) N M) (fb.take N) := fun W hW =>
      in_takeN (O3.below hW).in HB.out (by omega)
    clear O3 O2'
    by_cases hab : a = b
    · have k1 : ∀ W, Below w3.heap.size w3 W → Calls Try.prog 10 #[.slice (some ⟨g1, 0, none⟩) N N, .slice (some ⟨g2, 0, none⟩) N M] W fun e w' => e = .returned (.bool true) ∧ ∃ n, w' = W.drewN n := fun W hW => sameBytes_any W _ _ _ _ (fb.take N) (by rw [← HN.out.2 hab]; exact qa W hW) (qb W hW)
      have k2 : ∀ W, Below w3.heap.size w3 W → Calls Try.prog 10 #[.slice ao a.length ca, .slice bo b.length cb] W fun e w' => e = .returned (.bool true) ∧ ∃ n, w' = W.drewN n := fun W hW => sameBytes_any W _ _ _ _ b (by have := ha0.below (B3.trans (hW.mono B3.size)) (Nat.le_refl _); rw [hab] at this ⊢; exact this) (hb0.below (B3.trans (hW.mono B3.size)) (Nat.le_refl _))
      have kq : ∀ m args, (args = #[.slice (some ⟨g1, 0, none⟩) N N, .slice (some ⟨g2, 0, none⟩) N M] ∨ args = #[.slice ao a.length ca, .slice bo b.length cb]) → Calls Try.prog 10 args (w3.drewN m) fun e w' => e = .returned (.bool true) ∧ ∃ n, w' = (w3.drewN m).drewN n := fun m args h => by
        rcases h with rfl | rfl
        · exact k1 (w3.drewN m) (below_drewN w3 m)
        · exact k2 (w3.drewN m) (below_drewN w3 m)
      clear qa qb ha0 hb0 HN hab k1 k2 HA HB
      go_wp2
      go_quiet (first | (go_at_call 10; refine Calls.quiet_of (kq _ _ (by first | exact .inl rfl | exact .inr rfl))))
      go_wp2
      go_ret
      exact ⟨rfl, B3.trans ((below_drewN w3 _).mono B3.size)⟩
    · have k1 : ∀ W, Below w3.heap.size w3 W → Calls Try.prog 10 #[.slice (some ⟨g1, 0, none⟩) N N, .slice (some ⟨g2, 0, none⟩) N M] W fun e w' => e = .returned (.bool false) ∧ ∃ n, w' = W.drewN n := fun W hW => sameBytes_not W _ _ _ _ _ _ (qa W hW) (qb W hW) (fun e => hab (HN.out.1 e))
      have k2 : ∀ W, Below w3.heap.size w3 W → Calls Try.prog 10 #[.slice ao a.length ca, .slice bo b.length cb] W fun e w' => e = .returned (.bool false) ∧ ∃ n, w' = W.drewN n := fun W hW => sameBytes_not W _ _ _ _ a b (ha0.below (B3.trans (hW.mono B3.size)) (Nat.le_refl _)) (hb0.below (B3.trans (hW.mono B3.size)) (Nat.le_refl _)) hab
      have kq : ∀ m args, (args = #[.slice (some ⟨g1, 0, none⟩) N N, .slice (some ⟨g2, 0, none⟩) N M] ∨ args = #[.slice ao a.length ca, .slice bo b.length cb]) → Calls Try.prog 10 args (w3.drewN m) fun e w' => e = .returned (.bool false) ∧ ∃ n, w' = (w3.drewN m).drewN n := fun m args h => by
        rcases h with rfl | rfl
        · exact k1 (w3.drewN m) (below_drewN w3 m)
        · exact k2 (w3.drewN m) (below_drewN w3 m)
      clear qa qb ha0 hb0 HN hab k1 k2 HA HB
      go_wp2
      go_quiet (first | (go_at_call 10; refine Calls.quiet_of (kq _ _ (by first | exact .inl rfl | exact .inr rfl))))
      go_wp2
      go_ret
      exact ⟨rfl, B3.trans ((below_drewN w3 _).mono B3.size)⟩
  · have hn := hap M (by omega)
    have mn : (M : Int) < (N : Int) := by omega
    have HA : Hid ((frame a).length = N) := fla
    have HB : Hid ((frame b).length = M) := flb
    have HN : Hid ((frame a).take M = (frame b).take M ↔ a = b) := hn
    clear hap hn fla flb
    generalize frame a = fa at *
    generalize frame b = fb at *
    go_enter Try.func6, Try.ntmps6
    go_wp2_with fail
    refine kA.mono ?_
    rintro e w1 ⟨rfl, b1⟩
    have kp := kPa w1 b1
    clear kA kPa
    go_wp2_with fail
    refine kp.mono ?_
    rintro e w2 ⟨rfl, O2, b2⟩
    have B2 := b1.trans (b2.mono b1.size)
    have kq := kPb w2 B2
    clear kp b1 b2 kPb
    go_wp2_with fail
    refine kq.mono ?_
    rintro e w3 ⟨rfl, O3, b3⟩
    have B3 := B2.trans (b3.mono B2.size)
    have O2' := O2.below b3
    clear kq b3 B2 O2
    generalize w1.heap.size = g1 at *
    generalize w2.heap.size = g2 at *
    have qa : ∀ W, Below w3.heap.size w3 W → InAt W W.heap.size (.slice (some ⟨g1, 0, none⟩) M N) (fa.take M) := fun W hW =>
      in_takeN (O2'.below hW).in HA.out (by omega)
    have qb : ∀ W, Below w3.heap.size w3 W → InAt W W.heap.size (.slice (some ⟨g2, 0, none⟩) M M) (fb.take M) := fun W hW =>
      in_takeN (O3.below hW).in HB.out (by omega)
    clear O3 O2'
    by_cases hab : a = b
    · have k1 : ∀ W, Below w3.heap.size w3 W → Calls Try.prog 10 #[.slice (some ⟨g1, 0, none⟩) M N, .slice (some ⟨g2, 0, none⟩) M M] W fun e w' => e = .returned (.bool true) ∧ ∃ n, w' = W.drewN n := fun W hW => sameBytes_any W _ _ _ _ (fb.take M) (by rw [← HN.out.2 hab]; exact qa W hW) (qb W hW)
      have k2 : ∀ W, Below w3.heap.size w3 W → Calls Try.prog 10 #[.slice ao a.length ca, .slice bo b.length cb] W fun e w' => e = .returned (.bool true) ∧ ∃ n, w' = W.drewN n := fun W hW => sameBytes_any W _ _ _ _ b (by have := ha0.below (B3.trans (hW.mono B3.size)) (Nat.le_refl _); rw [hab] at this ⊢; exact this) (hb0.below (B3.trans (hW.mono B3.size)) (Nat.le_refl _))
      have kq : ∀ m args, (args = #[.slice (some ⟨g1, 0, none⟩) M N, .slice (some ⟨g2, 0, none⟩) M M] ∨ args = #[.slice ao a.length ca, .slice bo b.length cb]) → Calls Try.prog 10 args (w3.drewN m) fun e w' => e = .returned (.bool true) ∧ ∃ n, w' = (w3.drewN m).drewN n := fun m args h => by
        rcases h with rfl | rfl
        · exact k1 (w3.drewN m) (below_drewN w3 m)
        · exact k2 (w3.drewN m) (below_drewN w3 m)
      clear qa qb ha0 hb0 HN hab k1 k2 HA HB
      go_wp2
      go_quiet (first | (go_at_call 10; refine Calls.quiet_of (kq _ _ (by first | exact .inl rfl | exact .inr rfl))))
      go_wp2
      go_ret
      exact ⟨rfl, B3.trans ((below_drewN w3 _).mono B3.size)⟩
    · have k1 : ∀ W, Below w3.heap.size w3 W → Calls Try.prog 10 #[.slice (some ⟨g1, 0, none⟩) M N, .slice (some ⟨g2, 0, none⟩) M M] W fun e w' => e = .returned (.bool false) ∧ ∃ n, w' = W.drewN n := fun W hW => sameBytes_not W _ _ _ _ _ _ (qa W hW) (qb W hW) (fun e => hab (HN.out.1 e))
      have k2 : ∀ W, Below w3.heap.size w3 W → Calls Try.prog 10 #[.slice ao a.length ca, .slice bo b.length cb] W fun e w' => e = .returned (.bool false) ∧ ∃ n, w' = W.drewN n := fun W hW => sameBytes_not W _ _ _ _ a b (ha0.below (B3.trans (hW.mono B3.size)) (Nat.le_refl _)) (hb0.below (B3.trans (hW.mono B3.size)) (Nat.le_refl _)) hab
      have kq : ∀ m args, (args = #[.slice (some ⟨g1, 0, none⟩) M N, .slice (some ⟨g2, 0, none⟩) M M] ∨ args = #[.slice ao a.length ca, .slice bo b.length cb]) → Calls Try.prog 10 args (w3.drewN m) fun e w' => e = .returned (.bool false) ∧ ∃ n, w' = (w3.drewN m).drewN n := fun m args h => by
        rcases h with rfl | rfl
        · exact k1 (w3.drewN m) (below_drewN w3 m)
        · exact k2 (w3.drewN m) (below_drewN w3 m)
      clear qa qb ha0 hb0 HN hab k1 k2 HA HB
      go_wp2
      go_quiet (first | (go_at_call 10; refine Calls.quiet_of (kq _ _ (by first | exact .inl rfl | exact .inr rfl))))
      go_wp2
      go_ret
      exact ⟨rfl, B3.trans ((below_drewN w3 _).mono B3.size)⟩
end Go.Proofs.Ytogmoemeppnieaa
