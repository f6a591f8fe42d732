/- The walk of WallsMany. -/
import Derived.Test.YtjaidhglemnakabWStep
set_option linter.unusedSimpArgs false
set_option linter.unusedVariables false
namespace Go.Proofs.Ytjaidhglemnakab
open Go.RowKit Go.Maps Go.ChangeShapes Go.WideShapes

theorem mwrap (n : Nat) (h : n < 9223372036854775808) : IntKind.i64.wrap (n : Int) = (n : Int) := by
  simp [IntKind.wrap, IntKind.signed, IntKind.bits]
  omega
theorem secs_zero : secs 0 = 1 := by decide
theorem span_nils (j : Nat) : span (List.replicate j ([] : List UInt8)) = j := by
  induction j with
  | zero => rfl
  | succ j ih => rw [List.replicate_succ, span_cons, ih, List.length_nil, secs_zero]; omega
theorem nils_snoc (j : Nat) : List.replicate j ([] : List UInt8) ++ [[]] = List.replicate (j + 1) [] := by rw [List.replicate_succ']
set_option maxHeartbeats 1600000 in
set_option maxRecDepth 1000000 in
theorem many_nat (w : World) (nn on : Nat) (hn : nn < 256) (ho : on < 256) :
    Calls Try.prog 5 #[.int .u8 (nn : Int), .int .u8 (on : Int)] w fun e w' => e = .returned (.bool true) ∧ Below w.heap.size w w' := by
  have wn := mwrap nn (by omega)
  have wo := mwrap on (by omega)
  obtain ⟨many, hm⟩ : ∃ many, many = 1 + nn := ⟨_, rfl⟩
  have em : (1 : Int) + (nn : Int) = (many : Int) := by omega
  have hm1 : 1 ≤ many := by omega
  have hm2 : many ≤ 256 := by omega
  clear hm
  go_enter Try.func5, Try.ntmps5
  go_wp2_with fail
  refine (new_own w many (by omega) (by omega)).mono ?_
  rintro e w1 ⟨B, rfl, b1, o1⟩
  go_wp2_with fail
  refine (ls_open o1 b1.size (by show (0 : Nat) ≤ _; omega)).mono ?_
  rintro e w2 ⟨L, v, X, rfl, l2, r2, x2, b2, -⟩
  rw [(Clean.new (by omega) (by omega)).recs] at l2 x2
  obtain ⟨a3, c3, rfl⟩ := rc_nil r2 x2
  replace b2 := b1.trans b2
  have hd2 : (Dk.new many).opened.sure.length = many := by rw [Dk.opened_len, Dk.new_len]
  have hw2 : (Dk.new many).opened.ws.length ≤ 0 := by rw [Dk.opened_ws]; simp
  generalize (Dk.new many).opened = d2 at *
  clear r2 x2 o1 b1
  go_wp2_with fail
  go_loopw [8, 11] (fun a i wr => ∃ (j L : Nat) (d : Dk), j ≤ many ∧ i = .int .i64 (j : Int) ∧ a = .pointer (some ⟨L, 0, none⟩) ∧ LS w.heap.size wr L B d (List.replicate j []) ∧ d.sure.length = many ∧ d.ws.length ≤ j ∧ Below w.heap.size w wr) (fun _ i _ => many - (intOf i).toNat)
  case atStart => exact ⟨0, L, d2, by omega, rfl, rfl, l2, hd2, by omega, b2⟩
  case round =>
    obtain ⟨j, L, d, hj, rfl, rfl, hls, hds, hdw, hbe⟩ := hrel
    clear l2 hd2 hw2 b2
    have hsp := span_nils j
    by_cases hjm : j < many
    · have i3 : (j : Int) < (many : Int) := by omega
      have stp : ∀ (W : World) (L' : Nat) (d' : Dk), LS w.heap.size W L' B d' (List.replicate j []) → d'.sure.length = many → d'.ws.length ≤ j → w.heap.size ≤ W.heap.size → Calls Try.prog 14 #[.pointer (some ⟨L', 0, none⟩), .int .i64 0] W fun e w' => e = .returned (.bool true) ∧ LS w.heap.size w' L' B d' (List.replicate j []) ∧ Below W.heap.size W w' := fun W L' d' h h2 h3 h4 => by
        have k := ls_room h 0 (by omega)
        rw [show decide (span (List.replicate j []) + secs 0 ≤ d'.sure.length) = true by rw [hsp, secs_zero, h2]; simp; omega] at k
        exact k.mono fun e w' ⟨a1, a2⟩ => ⟨a1, h.below a2, a2⟩
      have sta : ∀ (W : World) (L' : Nat) (d' : Dk), LS w.heap.size W L' B d' (List.replicate j []) → d'.sure.length = many → d'.ws.length ≤ j → w.heap.size ≤ W.heap.size → Calls Try.prog 11 #[.pointer (some ⟨L', 0, none⟩), .slice none 0 0] W fun e w' => e = .returned (.int .i64 0) ∧ ∃ d'', LS w.heap.size w' L' B d'' (List.replicate (j + 1) []) ∧ d''.sure.length = many ∧ d''.ws.length ≤ j + 1 ∧ Below w.heap.size W w' := fun W L' d' h h2 h3 h4 => by
        refine (ls_add h h4 (.slice none 0 0) [] (InAt_nil _ _) (by simp) (by rw [hsp, List.length_nil, secs_zero, h2]; omega) (by omega)).mono ?_
        rintro e w' ⟨rfl, a1, a2, -⟩
        refine ⟨rfl, _, by rw [← nils_snoc]; exact a1, by rw [Dk.added_len]; exact h2, ?_, a2⟩
        unfold Dk.added
        rw [Dk.puts_wlen, List.length_nil, secs_zero]
        omega
      by_cases hjo : j = on
      · subst hjo
        have hrc := hls.clean.recs
        have ko := ls_open hls.own hbe.size (by omega)
        rw [hrc] at ko
        have hdo : d.opened.sure.length = many := by rw [Dk.opened_len]; exact hds
        have hdo2 : d.opened.ws.length ≤ j := by rw [Dk.opened_ws]; simp
        clear hls hrc hds hdw hsp
        generalize d.opened = d' at *
        go_wp2_with fail
        refine ko.mono ?_
        rintro e w3 ⟨L', p, X', rfl, l3, r3, x3, b3, -⟩
        have hX : X'.length = j := by have := congrArg List.length x3; simpa using this
        obtain ⟨ap, cp, ep, -, -⟩ := own_len' r3.row
        rw [hX] at ep
        subst ep
        have b3' := hbe.trans b3
        have kr := stp w3 L' d' l3 hdo hdo2 b3'.size
        clear ko r3 x3 hX stp b3 l3
        go_wp2_with fail
        refine kr.mono ?_
        rintro e w4 ⟨rfl, l4, b4⟩
        have b4' := b3'.trans (b4.mono b3'.size)
        have ka := sta w4 L' d' l4 hdo hdo2 b4'.size
        clear kr sta l4 b4 b3'
        go_wp2_with fail
        refine ka.mono ?_
        rintro e w5 ⟨rfl, d'', l5, q1, q2, b5⟩
        have b5' := b4'.trans b5
        clear ka
        go_wp2
        go_roundw
        case rel => exact ⟨j + 1, L', d'', by omega, by go_num, rfl, l5, q1, q2, b5'⟩
        case measure => simp [intOf]; omega
      · have i5 : ¬ (j : Int) = (on : Int) := by omega
        have kr := stp wr L d hls hds hdw hbe.size
        clear hls stp hsp hjo
        go_wp2_with fail
        refine kr.mono ?_
        rintro e w4 ⟨rfl, l4, b4⟩
        have b4' := hbe.trans (b4.mono hbe.size)
        have ka := sta w4 L d l4 hds hdw b4'.size
        clear kr sta l4 b4
        go_wp2_with fail
        refine ka.mono ?_
        rintro e w5 ⟨rfl, d'', l5, q1, q2, b5⟩
        have b5' := b4'.trans b5
        clear ka hds hdw
        go_wp2
        go_roundw
        case rel => exact ⟨j + 1, L, d'', by omega, by go_num, rfl, l5, q1, q2, b5'⟩
        case measure => simp [intOf]; omega
    · have i3 : ¬ (j : Int) < (many : Int) := by omega
      have hjm2 : j = many := by omega
      have k0 := ls_room hls 0 (by omega)
      rw [show decide (span (List.replicate j []) + secs 0 ≤ d.sure.length) = false by rw [hsp, secs_zero, hds]; simp; omega] at k0
      have kf := fun (W : World) (hW : LS w.heap.size W L B d (List.replicate j [])) => ls_full hW (.slice none 0 0) [] (InAt_nil _ _) (by simp) (by rw [hsp, List.length_nil, secs_zero, hds]; omega)
      have hdwH : Hid (d.ws.length ≤ 800000) := (by omega : d.ws.length ≤ 800000)
      have hjmH : Hid (j = many) := hjm2
      clear hsp hds hdw hjm2 hjm
      go_wp2_with fail
      refine k0.mono ?_
      rintro e w3 ⟨rfl, b3⟩
      have l3 := hls.below b3
      have b3' := hbe.trans (b3.mono hbe.size)
      clear k0 hls b3 hbe
      go_wp2_with fail
      refine (kf w3 l3).mono ?_
      rintro e w4 ⟨rfl, b4⟩
      have l4 := l3.below b4
      have b4' := b3'.trans (b4.mono b3'.size)
      clear kf l3 b4 b3'
      go_wp2_with fail
      refine (ls_force l4 b4'.size).mono ?_
      rintro e w5 ⟨rfl, l5, b5, -⟩
      have b5' := b4'.trans b5
      have ko := ls_open l5.own b5'.size (by show (0 : Nat) ≤ _; omega)
      rw [l5.clean.recs] at ko
      clear l4 b4' b5 l5
      go_wp2_with fail
      refine ko.mono ?_
      rintro e w6 ⟨L6, p, X6, rfl, -, r6, x6, b6, -⟩
      have hX : X6.length = many := by have := congrArg List.length x6; have h2 := hjmH.out; simp at this; omega
      obtain ⟨ap, cp, ep, -, -⟩ := own_len' r6.row
      rw [hX] at ep
      subst ep
      have b6' := b5'.trans b6
      clear ko r6 x6 hX b6 b5'
      go_wp2_with fail
      refine (walive_any _).mono ?_
      rintro e w7 ⟨rfl, b7⟩
      go_wp2
      go_ret
      exact ⟨rfl, b6'.trans (b7.mono b6'.size)⟩
theorem many_any (w : World) (n o : Int) (hn : (Lit.int .u8 n).wf = true) (ho : (Lit.int .u8 o).wf = true) :
    Calls Try.prog 5 #[.int .u8 n, .int .u8 o] w fun e w' => e = .returned (.bool true) ∧ Below w.heap.size w w' := by
  have nb := bounds_u8 hn
  have ob := bounds_u8 ho
  obtain ⟨nn, rfl⟩ : ∃ m : Nat, n = (m : Int) := ⟨n.toNat, by omega⟩
  obtain ⟨on, rfl⟩ : ∃ m : Nat, o = (m : Int) := ⟨o.toNat, by omega⟩
  exact many_nat w nn on (by omega) (by omega)
end Go.Proofs.Ytjaidhglemnakab
