/- The walk of alive: the answers that the document fixes are given. -/
import Derived.Test.YtjaidhglemnakaaWSame
import Derived.Test.YtjaidhglemnakaaGConv
import Derived.Test.YtjaidhglemnakaaDFail
import Derived.Lib.SlBytesConst
import Derived.Deep.OwnRows
set_option linter.unusedSimpArgs false
set_option linter.unusedVariables false
namespace Go.Proofs.Ytjaidhglemnakaa
open Go.RowKit Go.Maps

theorem wlit_in (w : World) (cs : List UInt8) (fr : Nat × Nat) (t : TypeId) (hn : cs.length ≤ 100) : InAt (w.alloc (.cells (bcells cs).toArray t fr)) (w.heap.size + 1) (.slice (some ⟨w.heap.size, 0, none⟩) cs.length cs.length) cs := by
  refine ⟨_, _, rfl, Nat.le_refl _, by unfold maxLen; omega, fun hp => ⟨w.heap.size, 0, rfl, by omega, fun i hi j u hu => ?_⟩⟩
  have hj : j < 1 := by
    rcases Nat.lt_or_ge j 1 with h' | h'
    · exact h'
    · rw [List.getElem?_eq_none (by exact h')] at hu; cases hu
  obtain rfl : j = 0 := by omega
  have hcl : (w.alloc (.cells (bcells cs).toArray t fr)).cell? ⟨w.heap.size, i, none⟩ = (bcells cs).toArray[i]? := cell_of_row _ _ _ _ _ _ (heap_alloc_last w _)
  rw [show 0 + i * 1 + 0 = i by omega, hcl]
  simp only [bCell, List.getElem?_cons_zero] at hu
  simp [bcells, hi]
  exact Option.some.inj hu
/-- A record of one byte, out of a literal. -/
theorem ls_lit {base : Nat} {w : World} {L B : Nat} {d : Dk} {Rs : List (List UInt8)} (h : LS base w L B d Rs) (hb : base ≤ w.heap.size) (c : UInt8) (i : Int) (hi : i = (c.toNat : Int)) (fr : Nat × Nat) (hn : span Rs + 1 ≤ d.sure.length) (hw : d.ws.length ≤ 900000) :
    Calls Try.prog 8 #[.pointer (some ⟨L, 0, none⟩), .slice (some ⟨w.heap.size, 0, none⟩) 1 1] (w.alloc (.cells #[.int .u8 i] 5 fr)) fun e w' =>
      e = .returned (.int .i64 0) ∧ LS base w' L B (d.added (span Rs) [c]) (Rs ++ [[c]]) ∧ Below base w w' ∧ OChg (KT true lT) w w' := by
  subst hi
  have h1 := below_one w (.cells #[.int .u8 (c.toNat : Int)] 5 fr)
  have h2 := h.below h1
  have hs : (w.alloc (.cells #[.int .u8 (c.toNat : Int)] 5 fr)).heap.size = w.heap.size + 1 := by simp
  refine (ls_add h2 (by omega) _ [c] (by rw [hs]; exact wlit_in w [c] fr 5 (by simp)) (by simp) (by have e : secs [c].length = 1 := (by decide : secs 1 = 1); rw [e]; exact hn) hw).mono ?_
  rintro e w' ⟨rfl, k1, k2, k3⟩
  exact ⟨rfl, k1, ((h1.mono hb).trans k2), (OChg.of_below h1 _).trans k3⟩
theorem fail_zero_to (sure : List Sec) (ws : List (Nat × Sec)) (torn : Int) (t : Nat) : failTo sure ws 0 torn t = sure := by
  induction t with
  | zero => rfl
  | succ t ih =>
    rw [failTo]
    split
    · unfold failStep
      rw [ih]
      simp
    · exact ih
/-- What is sure, as a disk. -/
def Dk.low (d : Dk) : Dk := { sure := d.sure, ws := [] }
theorem Dk.low_ok {d : Dk} (h : d.ok) : d.low.ok := ⟨h.pos, h.max, h.len, fun p hp => by cases hp⟩
theorem Dk.fail_zero (d : Dk) (torn : Int) : d.fail 0 torn = d.low := by unfold Dk.fail Dk.low; rw [fail_zero_to]
theorem Dk.sync_low (d : Dk) (n : Nat) (b : List UInt8) (k : Nat) : (d.sync.puts n b k).low = d.sync := by unfold Dk.low; rw [Dk.puts_sure]; rfl
theorem zeros_len (n : Nat) : (List.replicate n (0 : UInt8)).length = n := List.length_replicate
def aL : List (List UInt8) := [[97], List.replicate 100 0]
theorem aL_span : span aL = 3 := by simp only [aL, span, List.map_cons, List.map_nil, zeros_len]; decide
theorem rc_nil {w : World} {base : Nat} {v : Value} {X : List Rec} (h : RcOwn w base v X) (hX : X.map (·.2) = []) : ∃ ao c, v = .slice ao 0 c := by
  have : X = [] := by simpa using hX
  subst this
  obtain ⟨ao, c, rfl, -, -⟩ := own_len' h.row
  exact ⟨ao, c, rfl⟩
/-- The cells of k noughts. -/
def zc (k : Nat) : Array Value := madeCells #[.int .u8 0] k
theorem zc_list (k : Nat) : (zc k).toList = bcells (List.replicate k 0) := by
  have := made_zero k
  rw [Nat.mul_one] at this
  exact this
theorem run_zc (k : Nat) (hk : k ≤ 100000) (W : World) : (Instr.makeSlice 22 (.int .i64 (k : Int)) (.int .i64 (k : Int))).run Try.prog W = .ok (.slice (some ⟨W.heap.size, 0, none⟩) k k) (W.alloc (.cells (zc k) 5)) :=
  run_make_row' 22 5 (.int .u8 0) 1 Try.underlying22 info_u8 rfl .i64 .i64 k (by omega) (by omega) W
theorem zc_in (w : World) (k : Nat) (hk : k ≤ 100000) : InAt (w.alloc (.cells (zc k) 5)) (w.heap.size + 1) (.slice (some ⟨w.heap.size, 0, none⟩) k k) (List.replicate k 0) := by
  have e : zc k = (bcells (List.replicate k 0)).toArray := by rw [← zc_list]
  rw [e]
  refine ⟨_, _, by rw [zeros_len], by rw [zeros_len]; exact Nat.le_refl _, by unfold maxLen; omega, fun hp => ⟨w.heap.size, 0, rfl, by omega, fun i hi j u hu => ?_⟩⟩
  have hj : j < 1 := by
    rcases Nat.lt_or_ge j 1 with h' | h'
    · exact h'
    · rw [List.getElem?_eq_none (by exact h')] at hu; cases hu
  obtain rfl : j = 0 := by omega
  have hcl : (w.alloc (.cells (bcells (List.replicate k 0)).toArray 5)).cell? ⟨w.heap.size, i, none⟩ = (bcells (List.replicate k 0)).toArray[i]? := cell_of_row _ _ _ _ _ _ (heap_alloc_last w _)
  rw [show 0 + i * 1 + 0 = i by omega, hcl, ← hu]
  have hi' : i < k := by rw [zeros_len] at hi; exact hi
  simp [bCell, bcells, hi']
theorem ls_addZ {base : Nat} {w : World} {L B : Nat} {d : Dk} {Rs : List (List UInt8)} (h : LS base w L B d Rs) (hb : base ≤ w.heap.size) (k : Nat) (hk : k ≤ 16384) (hn : span Rs + secs k ≤ d.sure.length) (hw : d.ws.length ≤ 900000) :
    Calls Try.prog 8 #[.pointer (some ⟨L, 0, none⟩), .slice (some ⟨w.heap.size, 0, none⟩) k k] (w.alloc (.cells (zc k) 5)) fun e w' =>
      e = .returned (.int .i64 0) ∧ LS base w' L B (d.added (span Rs) (List.replicate k 0)) (Rs ++ [List.replicate k 0]) ∧ Below base w w' ∧ OChg (KT true lT) w w' := by
  have h1 := below_one w (.cells (zc k) 5)
  have hs : (w.alloc (.cells (zc k) 5)).heap.size = w.heap.size + 1 := by simp
  refine (ls_add (h.below h1) (by omega) _ _ (by rw [hs]; exact zc_in w k (by omega)) (by rw [zeros_len]; exact hk) (by rw [zeros_len]; exact hn) hw).mono ?_
  rintro e w' ⟨rfl, k1, k2, k3⟩
  exact ⟨rfl, k1, ((h1.mono hb).trans k2), (OChg.of_below h1 _).trans k3⟩
theorem ls_fullZ {base : Nat} {w : World} {L B : Nat} {d : Dk} {Rs : List (List UInt8)} (h : LS base w L B d Rs) (k : Nat) (hk : k ≤ 16384) (hn : ¬ span Rs + secs k ≤ d.sure.length) :
    Calls Try.prog 8 #[.pointer (some ⟨L, 0, none⟩), .slice (some ⟨w.heap.size, 0, none⟩) k k] (w.alloc (.cells (zc k) 5)) fun e w' => e = .returned (.int .i64 5) ∧ Below w.heap.size w w' := by
  have h1 := below_one w (.cells (zc k) 5)
  have hs : (w.alloc (.cells (zc k) 5)).heap.size = w.heap.size + 1 := by simp
  refine (ls_full (h.below h1) _ _ (by rw [hs]; exact zc_in w k (by omega)) (by rw [zeros_len]; exact hk) (by rw [zeros_len]; exact hn)).mono ?_
  rintro e w' ⟨rfl, k1⟩
  exact ⟨rfl, h1.trans (k1.mono (by omega))⟩
theorem ls_bigZ {base : Nat} {w : World} {L B : Nat} {d : Dk} {Rs : List (List UInt8)} (h : LS base w L B d Rs) (k : Nat) (hk : 16384 < k) (hk2 : k ≤ 100000) :
    Calls Try.prog 8 #[.pointer (some ⟨L, 0, none⟩), .slice (some ⟨w.heap.size, 0, none⟩) k k] (w.alloc (.cells (zc k) 5)) fun e w' => e = .returned (.int .i64 3) ∧ Below w.heap.size w w' := by
  have h1 := below_one w (.cells (zc k) 5)
  have hs : (w.alloc (.cells (zc k) 5)).heap.size = w.heap.size + 1 := by simp
  refine (ls_big (h.below h1) _ _ (by rw [hs]; exact zc_in w k (by omega)) (by rw [zeros_len]; exact hk)).mono ?_
  rintro e w' ⟨rfl, rfl⟩
  exact ⟨rfl, h1⟩
/-- Noughts that were made, as an argument. -/
theorem made_in {w w1 : World} {k : Nat} {xs : List Value} (hown : w1.ownsRow w.heap.size 5 1 (.slice (some ⟨w.heap.size, 0, none⟩) k k) k xs) (hx : xs = bcells (List.replicate k 0)) : InAt w1 w1.heap.size (.slice (some ⟨w.heap.size, 0, none⟩) k k) (List.replicate k 0) := by
  have h : BsAt w1 w.heap.size (.slice (some ⟨w.heap.size, 0, none⟩) k k) (List.replicate k 0) := by unfold BsAt; rw [List.length_replicate, ← hx]; exact hown
  exact h.in
set_option maxHeartbeats 8000000 in
set_option maxRecDepth 1000000 in
theorem walive_any (w : World) : Calls Try.prog 12 #[] w fun e w' => e = .returned (.bool true) ∧ Below w.heap.size w w' := by
  have hm1 : ∀ W : World, (Instr.makeSlice 22 (.int .i64 100) (.int .i64 100)).run Try.prog W = .ok (.slice (some ⟨W.heap.size, 0, none⟩) 100 100) (W.alloc (.cells (zc 100) 5)) := run_zc 100 (by omega)
  have hm2 : ∀ W : World, (Instr.makeSlice 22 (.int .i64 57) (.int .i64 57)).run Try.prog W = .ok (.slice (some ⟨W.heap.size, 0, none⟩) 57 57) (W.alloc (.cells (zc 57) 5)) := run_zc 57 (by omega)
  have hm3 : ∀ W : World, (Instr.makeSlice 22 (.int .i64 16385) (.int .i64 16385)).run Try.prog W = .ok (.slice (some ⟨W.heap.size, 0, none⟩) 16385 16385) (W.alloc (.cells (zc 16385) 5)) := run_zc 16385 (by omega)
  have hcc := fun (w : World) (C : Array Value) (n c : Nat) => Lib.run_convert_bytes_const (P := Try.prog) w 22 5 C n c Try.underlying22 Try.underlying5
  go_enter Try.func12, Try.ntmps12
  go_wp2_with fail
  refine (new_own w 4 (by omega) (by omega)).mono ?_
  rintro e w1 ⟨B, rfl, b1, o1⟩
  have z1 := b1.size
  go_wp2_with fail
  refine (ls_open o1 z1 (by show (0 : Nat) ≤ _; omega)).mono ?_
  rintro e w2 ⟨L, v, X, rfl, l2, r2, x2, b2, -⟩
  rw [(Clean.new (by omega) (by omega)).recs] at l2 x2
  obtain ⟨ao, c, rfl⟩ := rc_nil r2 x2
  replace b2 := b1.trans b2
  have z2 := b2.size
  have hs2 : (Dk.new 4).opened.sure.length = 4 := by rw [Dk.opened_len, Dk.new_len]
  have hw2 : (Dk.new 4).opened.ws.length ≤ 10 := by rw [Dk.opened_ws]; simp
  generalize (Dk.new 4).opened = d2 at *
  clear r2 x2 o1 b1
  go_wp2_with fail
  refine (ls_lit l2 z2 97 97 rfl _ (by rw [hs2]; decide) (by omega)).mono ?_
  rintro e w3 ⟨rfl, l3, b3, -⟩
  replace b3 := b2.trans b3
  have z3 := b3.size
  have hs3 : (d2.added (span []) [97]).sure.length = 4 := by rw [Dk.added_len]; exact hs2
  have hw3 : (d2.added (span []) [97]).ws.length ≤ 20 := by unfold Dk.added; rw [Dk.puts_wlen]; have e : secs [(97 : UInt8)].length = 1 := (by decide); omega
  generalize d2.added (span []) [97] = d3 at *
  clear l2 b2 z2 hs2 hw2
  go_wp2_with fail
  refine (ls_addZ l3 z3 100 (by omega) (by rw [hs3]; decide) (by omega)).mono ?_
  rintro e w5 ⟨rfl, l5, b5, -⟩
  replace b5 := b3.trans b5
  have z5 := b5.size
  have hL : (([] : List (List UInt8)) ++ [[97]]) ++ [List.replicate 100 0] = aL := rfl
  rw [hL] at l5
  obtain ⟨d5, hd5⟩ : ∃ d5, d5 = d3.added (span ([] ++ [[97]])) (List.replicate 100 0) := ⟨_, rfl⟩
  have hs5 : d5.sure.length = 4 := by rw [hd5, Dk.added_len]; exact hs3
  have hw5 : d5.ws.length ≤ 30 := by rw [hd5]; unfold Dk.added; rw [Dk.puts_wlen, zeros_len]; have e : secs 100 = 2 := (by decide); omega
  rw [← hd5] at l5
  clear hd5 hL l3 b3 z3 hs3 hw3
  have k1 := ls_room l5 56 (by omega)
  rw [show decide (span aL + secs 56 ≤ d5.sure.length) = true by rw [aL_span, hs5]; decide] at k1
  go_wp2_with fail
  refine k1.mono ?_
  rintro e w6 ⟨rfl, b6⟩
  have l6 := l5.below b6
  replace b6 := b5.trans (b6.mono z5)
  have z6 := b6.size
  clear k1 l5 b5 z5
  have k1 := ls_room l6 57 (by omega)
  rw [show decide (span aL + secs 57 ≤ d5.sure.length) = false by rw [aL_span, hs5]; decide] at k1
  go_wp2_with fail
  refine k1.mono ?_
  rintro e w7 ⟨rfl, b7⟩
  have l7 := l6.below b7
  replace b7 := b6.trans (b7.mono z6)
  have z7 := b7.size
  clear k1 l6 b6 z6
  go_wp2_with fail
  refine (ls_fullZ l7 57 (by omega) (by rw [aL_span, hs5]; decide)).mono ?_
  rintro e w9 ⟨rfl, b9⟩
  have l9 := l7.below b9
  replace b9 := b7.trans (b9.mono z7)
  have z9 := b9.size
  clear l7 b7 z7
  go_wp2_with fail
  refine (ls_bigZ l9 16385 (by omega) (by omega)).mono ?_
  rintro e w10 ⟨rfl, b10⟩
  have l10 := l9.below b10
  replace b10 := b9.trans (b10.mono z9)
  have z10 := b10.size
  clear l9 b9 z9
  go_wp2_with fail
  refine (ls_force l10 z10).mono ?_
  rintro e w11 ⟨rfl, l11, b11, -⟩
  replace b11 := b10.trans b11
  have z11 := b11.size
  have hs11 : d5.sync.sure.length = 4 := by rw [Dk.sync_len]; exact hs5
  clear l10 b10 z10
  go_wp2_with fail
  refine (ls_lit l11 z11 98 98 rfl _ (by rw [aL_span, hs11]; decide) (by show (0 : Nat) ≤ _; omega)).mono ?_
  rintro e w12 ⟨rfl, l12, b12, -⟩
  replace b12 := b11.trans b12
  have z12 := b12.size
  have cl11 := l11.clean
  have hlow : (d5.sync.added (span aL) [98]).low = d5.sync := Dk.sync_low _ _ _ _
  have hw12 : (d5.sync.added (span aL) [98]).ws.length ≤ 20 := by unfold Dk.added; rw [Dk.puts_wlen]; have e : secs [(98 : UInt8)].length = 1 := (by decide); have e2 : d5.sync.ws.length = 0 := rfl; omega
  generalize d5.sync.added (span aL) [98] = d12 at *
  clear l11 b11 z11
  go_wp2_with fail
  refine (fail_own l12.own 0 (by omega) (-1) (by omega)).mono ?_
  rintro e w13 ⟨C, rfl, b13, o13⟩
  rw [Dk.fail_zero, hlow] at o13
  go_wp2_with fail
  refine (ls_open o13 b13.size (by show (0 : Nat) ≤ _; omega)).mono ?_
  rintro e w14 ⟨L2, p, X2, rfl, -, r14, x14, b14, -⟩
  rw [cl11.recs] at x14
  replace b14 := b13.trans b14
  have o14 := l12.own.below b14
  replace b14 := b12.trans (b14.mono z12)
  have z14 := b14.size
  have cl12 := l12.clean
  clear b13 o13 l12 cl11 b12 z12 hlow
  go_wp2_with fail
  refine (ls_open o14 z14 (by omega)).mono ?_
  rintro e w15 ⟨L3, q, X3, rfl, -, r15, x15, b15, c15⟩
  rw [cl12.recs] at x15
  replace b15 := b14.trans b15
  have r14' := r14.ochg c15 (KT.no (by decide)) (KT.no (by decide))
  have p15 := r14'.in
  have q15 := r15.in
  obtain ⟨ap, cp, ep, -, -⟩ := own_len' r14'.row
  obtain ⟨aq, cq, eq, -, -⟩ := own_len' r15.row
  have n2 : X2.length = 2 := by have := congrArg List.length x14; simpa [aL] using this
  have n3 : X3.length = 3 := by have := congrArg List.length x15; simpa [aL] using this
  rw [n2] at ep
  rw [n3] at eq
  subst ep
  subst eq
  have y14 : (X2.map recP).map (·.2) = aL := by rw [List.map_map]; exact x14
  have y15 : (X3.map recP).map (·.2) = aL ++ [[98]] := by rw [List.map_map]; exact x15
  generalize X2.map recP = P2 at *
  generalize X3.map recP = P3 at *
  have m2 : P2.length = 2 := by have := congrArg List.length y14; simpa [aL] using this
  have m3 : P3.length = 3 := by have := congrArg List.length y15; simpa [aL] using this
  obtain ⟨g1, f1, u1, rfl, -, c1, i1, -⟩ := rc_cell p15 (k := 0) (by omega)
  obtain ⟨g1', f1', u2, e1, -, c2, i2, -⟩ := rc_cell p15 (k := 1) (by omega)
  cases e1
  obtain ⟨g3, f3, u3, rfl, -, c3, i3, -⟩ := rc_cell q15 (k := 2) (by omega)
  have v1 : (P2[0]'(by omega)).2 = [97] := by
    have := congrArg (fun x => x[0]?) y14
    simpa [m2, aL] using this
  have v2 : (P2[1]'(by omega)).2 = List.replicate 100 0 := by
    have := congrArg (fun x => x[1]?) y14
    simpa [m2, aL] using this
  have v3 : (P3[2]'(by omega)).2 = [98] := by
    have := congrArg (fun x => x[2]?) y15
    simpa [m3, aL] using this
  rw [v1] at i1
  rw [v2] at i2
  rw [v3] at i3
  have cv1 := conv_in i1
  have cv3 := conv_in i3
  obtain ⟨s1, t1, rfl⟩ := in_slice i1
  obtain ⟨s2, t2, rfl⟩ := in_slice i2
  obtain ⟨s3, t3, rfl⟩ := in_slice i3
  rw [zeros_len] at c2
  simp only [List.length_cons, List.length_nil, Nat.add_zero, Nat.zero_add] at c1 c3 cv1 cv3
  clear p15 q15 y14 y15 v1 v2 v3 i1 i2 i3 r14 r14' r15 x14 x15 c15 o14 n2 n3 m2 m3 b14 z14 cl12
  go_wp2
  go_ret
  exact ⟨rfl, b15⟩
end Go.Proofs.Ytjaidhglemnakaa
