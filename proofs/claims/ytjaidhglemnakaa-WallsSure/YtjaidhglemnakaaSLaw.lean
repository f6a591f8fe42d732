/- What the walks of the statements on sums share: numbers as arguments, a list of bytes as what is appended. -/
import Derived.Test.YtjaidhglemnakaaSDiv
import Derived.Test.YtjaidhglemnakaaGOpen
set_option linter.unusedSimpArgs false
set_option linter.unusedVariables false
namespace Go.Proofs.Ytjaidhglemnakaa
open Go.RowKit

theorem u32_uv {n : Int} (h : (Lit.int .u32 n).wf = true) : ∃ s : BitVec 32, n = uv s := by
  have hb := bounds_u32 h
  exact ⟨BitVec.ofNat 32 n.toNat, by rw [show uv (BitVec.ofNat 32 n.toNat) = _ from uv_ofNat (by omega)]; omega⟩

theorem uv_eqB (a b : BitVec 32) : (uv a == uv b) = decide (a = b) := by
  rw [Bool.eq_iff_iff]
  simp only [beq_iff_eq, decide_eq_true_eq]
  exact ⟨uv_inj, fun h => by rw [h]⟩
theorem src_in {w : World} {lim : Nat} {v : Value} {l : List UInt8} (h : InAt w lim v l) : Src Try.prog 1 22 v l.length (bcells l) w := by
  obtain ⟨ao, cap, rfl, h1, h2, h3⟩ := h
  by_cases hp : 0 < l.length
  · obtain ⟨b, off, rfl, hb, hc⟩ := h3 hp
    refine Src.ofSlice w Try.underlying22 _ _ _ _ (by rw [bcells_len, Nat.mul_one]) (fun j u hu => ?_) (bcells_one l)
    rw [Addr.add_lit]
    have hj : j < l.length := by
      rcases Nat.lt_or_ge j l.length with h' | h'
      · exact h'
      · rw [List.getElem?_eq_none (by rw [bcells_len]; exact h')] at hu; cases hu
    have := hc j hj 0 u (by
      rw [← hu]
      simp [bCell, bcells, hj])
    simpa using this
  · obtain rfl : l = [] := List.eq_nil_of_length_eq_zero (by omega)
    cases ao with
    | none => exact Src.ofNil w Try.underlying22 cap
    | some a => exact Src.ofSlice w Try.underlying22 a 0 cap [] rfl (fun j u hu => by simp at hu) (fun u hu => by cases hu)
/-- The value v is a slice of the bytes bs, in memory of its own, from block 'base' on. -/
def BsAt (w : World) (base : Nat) (v : Value) (bs : List UInt8) : Prop := w.ownsRow base 5 1 v bs.length (bcells bs)
theorem BsAt.nil (w : World) (base : Nat) : BsAt w base (.slice none 0 0) [] := World.ownsRow_nil _ _ _ _
theorem BsAt.app {w : World} {base : Nat} {v : Value} {a b : List UInt8} (h : w.ownsRow base 5 1 v (a.length + b.length) (bcells a ++ bcells b)) : BsAt w base v (a ++ b) := by
  unfold BsAt
  rw [List.length_append, bcells_app]
  exact h
theorem BsAt.in {w : World} {base : Nat} {v : Value} {bs : List UInt8} (h : BsAt w base v bs) : InAt w w.heap.size v bs := in_own h
theorem BsAt.below {w w' : World} {base : Nat} {v : Value} {bs : List UInt8} (h : BsAt w base v bs) (hk : Below w.heap.size w w') : BsAt w' base v bs := own_below h hk
theorem BsAt.alloc {w : World} {base : Nat} {v : Value} {bs : List UInt8} (h : BsAt w base v bs) (o : Obj) : BsAt (w.alloc o) base v bs := h.below (below_one w o)
theorem grown_below {w w' w0 : World} {base : Nat} {e : TypeId} {s n : Nat} {xs : List Value} {v : Value} (hb : Below base w0 w) (hg : w.grownBy w' v.ownBlock) (hz : base ≤ w.heap.size) (ho : w.ownsRow base e s v n xs) : Below base w0 w' :=
  hb.grown hg hz (fun k hk => own_row_ge ho k hk)
theorem src_lit (w : World) (cs : List UInt8) (hn : cs.length ≤ 1000) : Src Try.prog 1 22 (.slice (some ⟨w.heap.size, 0, none⟩) cs.length cs.length) cs.length (bcells cs) (w.alloc (.cells (bcells cs).toArray 5)) :=
  Src.ofSlice _ Try.underlying22 _ _ _ _ (by rw [bcells_len, Nat.mul_one]) (news_of cs _) (bcells_one cs)
end Go.Proofs.Ytjaidhglemnakaa
