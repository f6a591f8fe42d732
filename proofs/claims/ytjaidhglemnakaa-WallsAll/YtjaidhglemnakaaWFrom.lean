/- A disk's sectors, gone through one by one: the iterator's word. -/
import Derived.Test.YtjaidhglemnakaaWKeep
import Derived.Test.YtjaidhglemnakaaGRound
import Derived.Shelf.Abstract
set_option linter.unusedSimpArgs false
set_option linter.unusedVariables false
namespace Go.Proofs.Ytjaidhglemnakaa
open Go.RowKit Go.Maps
attribute [local go_sem] Oper.semAt_some wfn wdp rfn rdp

theorem sectorsFrom_ok (w : World) (v : Value) (from_ : Int) (hv : v = .pointer none ∨ ∃ B, v = .pointer (some ⟨B, 0, none⟩)) : Calls Try.prog 42 #[v, .int .i64 from_] w fun e w' =>
    e = .returned (.func (.func 49) #[] #[.pointer (some ⟨w.heap.size + 1, 0, none⟩), .pointer (some ⟨w.heap.size, 0, none⟩)]) ∧ (w.alloc (.cells #[v] 24)).alloc (.cells #[.int .i64 from_] 3) = w' := by
  rcases hv with rfl | ⟨B, rfl⟩
  all_goals
    go_enter Try.func42, Try.ntmps42
    go_wp2
    go_ret
    exact ⟨rfl, rfl⟩

/-- A sector's number, and where what is read of it lies. -/
def secEnc (x : Nat × Nat) : Array Value := #[.int .i64 (x.1 : Int), .slice (some ⟨x.2, 0, none⟩) 64 64]
structure FromInv (bf bd B from_ n : Nat) (dk : List (Nat × Nat) → Dk) (pre : List (Nat × Nat)) (W : World) : Prop where
  cf : W.heap[bf]? = some (.cells #[.int .i64 (from_ : Int)] 3 (0, 0))
  cd : W.heap[bd]? = some (.cells #[.pointer (some ⟨B, 0, none⟩)] 24 (0, 0))
  disk : ∃ S, DkAt W B S (dk pre)
  size : (dk pre).sure.length = n
structure FromHx (from_ n : Nat) (dk : List (Nat × Nat) → Dk) (pre : List (Nat × Nat)) (x : Nat × Nat) (W W' : World) : Prop where
  at_ : x.1 = from_ + pre.length
  lt : x.1 < n
  new : W.heap.size ≤ x.2
  mem : W'.heap[x.2]? = some (.cells (bcells ((dk pre).view x.1)).toArray 5 (0, 0))
theorem FromHx.put {from_ n : Nat} {dk : List (Nat × Nat) → Dk} {pre : List (Nat × Nat)} {x : Nat × Nat} {W W' : World} {k : Nat} {o : Obj} (hk : k < W.heap.size) (h : FromHx from_ n dk pre x W W') : FromHx from_ n dk pre x (W.putObj k o) (W'.putObj k o) :=
  ⟨h.at_, h.lt, by rw [World.putObj_size]; exact h.new, by rw [World.putObj_heap_other (by have := h.new; omega)]; exact h.mem⟩
set_option maxHeartbeats 2000000 in
set_option maxRecDepth 1000000 in
theorem from_seq (bf bd B from_ n : Nat) (hn : n ≤ 4096) (dk : List (Nat × Nat) → Dk) :
    SeqTo Try.prog 49 #[.pointer (some ⟨bf, 0, none⟩), .pointer (some ⟨bd, 0, none⟩)] secEnc (FromInv bf bd B from_ n dk) (FromHx from_ n dk) (fun _ _ => True) (fun xs => xs.length = n - from_) := by
  intro l J hInv hY W0 h0
  refine callsIn_of_wp Try.func49 rfl trivial ?_ rfl
  simp only [Try.ntmps49, List.size_toArray, List.length_cons, List.length_nil, Nat.reduceAdd, Nat.reduceSub, Array.replicate_succ, Array.replicate_zero, List.push_toArray, List.append_toArray, List.nil_append, List.cons_append]
  have hcf := box_cell (hInv _ _ h0).cf
  gi_wp2
  gi_loopw [4] (fun i wr => ∃ (pre : List (Nat × Nat)) (W : World), i = .int .i64 ((from_ + pre.length : Nat) : Int) ∧ pre.length ≤ n - from_ ∧ J pre W ∧ Below W.heap.size W wr) (fun i _ => n - (intOf i).toNat)
  case atStart => exact ⟨[], W0, by simp, by simp, h0, Below.refl _ _⟩
  case round =>
    obtain ⟨pre, W, rfl, hpl, hJ, hb⟩ := hrel
    have hI := hInv _ _ hJ
    obtain ⟨S, hdk⟩ := hI.disk
    have hsz := hI.size
    have hdk' := hdk.below hb
    have hcd : wr.cell? ⟨bd, 0, none⟩ = some (.pointer (some ⟨B, 0, none⟩)) := box_cell ((hb.block bd (lt_of_block hI.cd)).trans hI.cd)
    have ks := size_ok hdk'
    rw [hsz] at ks
    by_cases hlt : from_ + pre.length < n
    · have kr := read_ok hdk' (from_ + pre.length) (by rw [hsz]; exact hlt)
      have i1 : ((from_ + pre.length : Nat) : Int) < (n : Int) := by omega
      obtain ⟨at_, hat⟩ : ∃ at_, at_ = from_ + pre.length := ⟨_, rfl⟩
      rw [← hat] at kr i1 ⊢
      have hatH : Hid (at_ = from_ + pre.length) := hat
      have hlt' : at_ < n := by omega
      clear hat
      gi_wp2_with fail
      refine (callsIn_wide.2 ks).mono ?_
      rintro e w' ⟨rfl, rfl⟩
      gi_wp2_with fail
      refine (callsIn_wide.2 kr).mono ?_
      rintro e w1 ⟨rfl, r1, b1⟩
      obtain ⟨fn, tmps, assign, body, hy, hR⟩ := hY pre (at_, wr.heap.size + 1) W w1 hJ (hb.trans (b1.mono hb.size)) ⟨hatH.out, hlt', Nat.le_succ_of_le hb.size, r1⟩
      dsimp only [secEnc] at hy
      gi_wp2
      refine hR.mono ?_
      rintro e W2 ⟨rfl, hJ2, -⟩
      gi_wp2
      go_roundw
      case rel => exact ⟨pre ++ [(at_, wr.heap.size + 1)], W2, by rw [hatH.out]; go_num, by have := hatH.out; simp; omega, hJ2, Below.refl _ _⟩
      case measure => simp [intOf]; omega
    · have i1 : ¬ ((from_ + pre.length : Nat) : Int) < (n : Int) := by omega
      gi_wp2_with (gi_at_call 37; refine (callsIn_wide.2 ks).mono ?_; rintro e w' ⟨rfl, rfl⟩)
      go_end0
      exact ⟨⟨_, rfl⟩, pre, W, by show pre.length = _; omega, hJ, hb⟩
end Go.Proofs.Ytjaidhglemnakaa
