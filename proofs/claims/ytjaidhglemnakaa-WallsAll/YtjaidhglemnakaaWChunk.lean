/- A row of bytes, gone through 64 by 64: the iterator of slices.Chunk. -/
import Derived.Test.YtjaidhglemnakaaWDrawn
import Derived.Sort.QuietIn
set_option linter.unusedSimpArgs false
set_option linter.unusedVariables false
namespace Go.Proofs.Ytjaidhglemnakaa
open Go.RowKit Go.Maps
attribute [local go_sem] Oper.semAt_some wfn wdp rfn rdp

theorem chunkOf_ok (w : World) (ao : Option Addr) (n c : Nat) : Calls Try.prog 38 #[.slice ao n c, .int .i64 64] w fun e w' =>
    e = .returned (.func (.func 47) #[] #[.pointer (some ⟨w.heap.size, 0, none⟩), .pointer (some ⟨w.heap.size + 1, 0, none⟩)]) ∧ (w.alloc (.cells #[.slice ao n c] 22)).alloc (.cells #[.int .i64 64] 3) = w' := by
  go_enter Try.func38, Try.ntmps38
  go_wp2
  go_ret
  exact ⟨rfl, rfl⟩
def chEnc (G : Nat) (i : Nat) : Array Value := #[.slice (some ⟨G, i * 64, none⟩) 64 64]
structure ChInv (bs bn G m : Nat) (W : World) : Prop where
  cs : W.heap[bs]? = some (.cells #[.slice (some ⟨G, 0, none⟩) (m * 64) (m * 64)] 22 (0, 0))
  cn : W.heap[bn]? = some (.cells #[.int .i64 64] 3 (0, 0))
set_option maxHeartbeats 2000000 in
set_option maxRecDepth 1000000 in
theorem chunk_seq (bs bn G m : Nat) (hm : m ≤ 1000) :
    SeqTo Try.prog 47 #[.pointer (some ⟨bs, 0, none⟩), .pointer (some ⟨bn, 0, none⟩)] (chEnc G) (fun (_ : List Nat) W => ChInv bs bn G m W) (fun pre i _ _ => i = pre.length ∧ i < m) (fun _ _ => True) (fun xs => xs.length = m) := by
  intro l J hInv hY W0 h0
  refine callsIn_of_wp Try.func47 rfl trivial ?_ rfl
  simp only [Try.ntmps47, List.size_toArray, List.length_cons, List.length_nil, Nat.reduceAdd, Nat.reduceSub, Array.replicate_succ, Array.replicate_zero, List.push_toArray, List.append_toArray, List.nil_append, List.cons_append]
  gi_wp2
  gi_loopw [4] (fun i wr => ∃ (pre : List Nat) (W : World), i = .int .i64 ((pre.length * 64 : Nat) : Int) ∧ pre.length ≤ m ∧ J pre W ∧ Below W.heap.size W wr) (fun i _ => m * 64 - (intOf i).toNat)
  case atStart => exact ⟨[], W0, by simp, by simp, h0, Below.refl _ _⟩
  case round =>
    obtain ⟨pre, W, rfl, hpl, hJ, hb⟩ := hrel
    have hI := hInv _ _ hJ
    have hcs := box_cell ((hb.block bs (lt_of_block hI.cs)).trans hI.cs)
    have hcn := box_cell ((hb.block bn (lt_of_block hI.cn)).trans hI.cn)
    by_cases hlt : pre.length < m
    · have yY := fun nq => hY pre pre.length W (wr.drewN nq) hJ (hb.trans ((below_drewN wr nq).mono hb.size)) ⟨rfl, hlt⟩
      dsimp only [chEnc] at yY
      obtain ⟨j, hj⟩ : ∃ j, j = pre.length * 64 := ⟨_, rfl⟩
      obtain ⟨N, hN⟩ : ∃ N, N = m * 64 := ⟨_, rfl⟩
      rw [← hN] at hcs
      rw [← hj] at yY ⊢
      have hjH : Hid (j = pre.length * 64) := hj
      have hNH : Hid (N = m * 64) := hN
      have i1 : (j : Int) < (N : Int) := by omega
      have i2 : j + 64 ≤ N := by omega
      have i3 : N ≤ 64000 := by omega
      have i4 : (64 : Int) ≤ (N : Int) - (j : Int) := by omega
      have i5 : ¬ N = j := by omega
      clear hj hN hI
      gi_wp2
      gi_quiet (fail)
      obtain ⟨fn, tmps, assign, body, hy, hR⟩ := yY nq
      clear yY
      gi_wp2
      refine hR.mono ?_
      rintro e W2 ⟨rfl, hJ2, -⟩
      have hI2 := hInv _ _ hJ2
      have hcn2 := box_cell hI2.cn
      gi_wp2
      go_roundw
      case rel => exact ⟨pre ++ [pre.length], W2, by have := hjH.out; simp; omega, by have := hjH.out; have := hNH.out; simp; omega, hJ2, Below.refl _ _⟩
      case measure => have := hNH.out; simp [intOf]; omega
    · have i1 : ¬ ((pre.length * 64 : Nat) : Int) < ((m * 64 : Nat) : Int) := by omega
      gi_wp2
      go_end0
      first | exact ⟨⟨_, rfl⟩, pre, W, (show pre.length = m by omega), hJ, hb⟩ | exact ⟨⟨_, rfl⟩, pre, (show pre.length = m by omega), W, hJ, hb⟩
end Go.Proofs.Ytjaidhglemnakaa
