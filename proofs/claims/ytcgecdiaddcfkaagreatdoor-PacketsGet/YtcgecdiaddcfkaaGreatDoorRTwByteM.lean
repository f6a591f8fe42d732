import Derived.Test.YtcgecdiaddcfkaaGreatDoorM15
import Derived.Test.YtcgecdiaddcfkaaGreatDoorM6
import Derived.Test.YtcgecdiaddcfkaaGreatDoorRBookM
import Derived.Deep.QuietTactic
import Derived.BigQuiet
import Derived.Laws.StructEq
/- The walks of a copy of a list of this kind (Byte) in memory of its own, with a mark behind it, and of the look whether it is as it was. -/
set_option linter.unusedSimpArgs false
set_option linter.unusedVariables false
namespace Go.Proofs.YtcgecdiaddcfkaaGreatDoor
open Go.RowKit

def spareByte : List Value := [.int .u8 77]
theorem info_twByte : (Tryz.prog.info? 5).map (fun i => (i.zero, i.size, i.bytes)) = some (some (.int .u8 0), 1, 1) := by kernel_rfl
theorem one_twByte (x : UInt8) : ∀ u ∈ bCell x, u.oneCell' = true := by
  intro u hu
  simp [bCell] at hu
  subst hu
  all_goals rfl
theorem one_spareByte : ∀ u ∈ spareByte, u.oneCell' = true := by
  intro u hu
  simp [spareByte] at hu
  subst hu
  all_goals rfl
theorem flat_twByte (l : List UInt8) (k : Nat) (h : k < l.length) : (l.take (k + 1)).flatMap bCell = (l.take k).flatMap bCell ++ bCell (l[k]'h) := by
  rw [List.take_add_one, List.getElem?_eq_getElem h, List.flatMap_append]; simp

set_option maxHeartbeats 2000000 in
set_option maxRecDepth 1000000 in
theorem twinByte_any (w : World) (vl : Value) (l : List UInt8) (hl : SlAt 1 bCell w w.heap.size vl l) (hn : l.length ≤ 1000000) :
    Calls Tryz.prog 16 #[vl] w fun e w' => e = .returned (.slice (some ⟨w.heap.size, 0, none⟩) l.length (l.length + 1)) ∧ w'.ownsRow w.heap.size 5 1 (.slice (some ⟨w.heap.size, 0, none⟩) (l.length + 1) (l.length + 1)) (l.length + 1) (l.flatMap bCell ++ spareByte) ∧ Below w.heap.size w w' := by
  obtain ⟨i0, hi, hz0, hz1, hz2⟩ := info_parts info_twByte
  obtain ⟨ao, cap, rfl, h1, h2, h3⟩ := hl
  unfold maxLen at h2
  have hby : i0.bytes * (l.length + 1) ≤ 281474976710656 := by rw [hz2]; omega
  have hnm : l.length + 1 ≤ maxLen := by unfold maxLen; omega
  go_enter Tryz.func16, Tryz.ntmps16
  go_wp2_with (at_make; refine wpList_make_own _ rfl _ _ 30 rfl w.heap.size 5 i0 (.int .u8 0) 1 Tryz.underlying30 hi hz0 hz1 .i64 .i64 _ (l.length + 1) rfl rfl (by omega) hby hnm (Nat.le_refl _) ?_; intro w1 hown hgr; have b1 : Below w.heap.size w w1 := (Below.refl _ _).grown hgr (Nat.le_refl _) (fun k e => by cases e))
  go_loopw [3, 4] (fun vt i wr => ∃ k : Nat, k ≤ l.length ∧ i = .int .i64 k ∧ vt = .slice (some ⟨w.heap.size, 0, none⟩) k (l.length + 1) ∧ wr.ownsRow w.heap.size 5 1 (.slice (some ⟨w.heap.size, 0, none⟩) k (l.length + 1)) k ((l.take k).flatMap bCell) ∧ Below w.heap.size w wr) (fun _ i _ => l.length - (intOf i).toNat)
  case atStart => exact ⟨0, by omega, rfl, rfl, by simpa using hown, b1⟩
  case round =>
    clear hown b1 hgr
    obtain ⟨k, hk, rfl, rfl, hown, hb⟩ := hrel
    by_cases hkl : k < l.length
    · obtain ⟨b, off, rfl, hbl, hcell⟩ := h3 (by omega)
      obtain ⟨x, hx⟩ : ∃ x, x = l[k]'hkl := ⟨_, rfl⟩
      have cc : ∀ j u, (bCell x)[j]? = some u → wr.cell? ⟨b, off + k * 1 + j, none⟩ = some u := fun j u hu => (hb.cell (p := ⟨b, _, none⟩) hbl).trans (hcell k hkl j u (by rw [← hx]; exact hu))
      have c0 := cc 0 _ rfl
      simp only [Nat.mul_one, Nat.add_zero, bv] at c0
      have hE : Hid ((l.take (k + 1)).flatMap bCell = (l.take k).flatMap bCell ++ bCell x) := by show _ = _; rw [hx]; exact flat_twByte l k hkl
      have hz := hb.size
      have hown2 := hown.alloc (.cells (bCell x).toArray 5)
      have hb2 : Below w.heap.size w (wr.alloc (.cells (bCell x).toArray 5)) := hb.alloc hz _
      have hs2 : w.heap.size ≤ (wr.alloc (.cells (bCell x).toArray 5)).heap.size := by simp; omega
      have hnew : ∀ j u, (bCell x)[j]? = some u → (wr.alloc (.cells (bCell x).toArray 5)).cell? ((⟨wr.heap.size, 0, none⟩ : Addr).add j) = some u := news_ofv (bCell x) _
      have fin : ∀ w2, w2.ownsRow w.heap.size 5 1 (.slice (some ⟨w.heap.size, 0, none⟩) (k + 1) (l.length + 1)) (k + 1) ((l.take k).flatMap bCell ++ bCell x) → (wr.alloc (.cells (bCell x).toArray 5)).grownBy w2 (some w.heap.size) →
          w2.ownsRow w.heap.size 5 1 (.slice (some ⟨w.heap.size, 0, none⟩) (k + 1) (l.length + 1)) (k + 1) ((l.take (k + 1)).flatMap bCell) ∧ Below w.heap.size w w2 := by
        intro w2 ho hg
        refine ⟨by rw [hE.out]; exact ho, hb2.grown hg hs2 (fun j e => by cases e; exact Nat.le_refl _)⟩
      have i1 : (k : Int) < (l.length : Int) := by omega
      clear cc hx hcell hown hb hb2
      go_wp2_with (at_builtin; refine wpList_append_fits _ rfl (.tmp 15) (.tmp 20) 30 rfl w.heap.size 5 i0 1 Tryz.underlying30 hi hz1 w.heap.size k (l.length + 1) _ rfl hown2 ⟨wr.heap.size, 0, none⟩ 1 1 (bCell x) rfl rfl hnew (one_twByte x) (by omega) ?_; intro w2 ho hg; have F := fin w2 ho hg)
      obtain ⟨F1, F2⟩ := F
      clear fin
      go_roundw
      case rel => exact ⟨k + 1, by omega, by go_num, rfl, F1, F2⟩
      case measure => simp [intOf]; omega
    · obtain rfl : k = l.length := by omega
      rw [List.take_of_length_le (Nat.le_refl _)] at hown
      have hz := hb.size
      have hown2 := hown.alloc (.cells #[.int .u8 77] 5)
      have hb2 : Below w.heap.size w (wr.alloc (.cells #[.int .u8 77] 5)) := hb.alloc hz _
      have hs2 : w.heap.size ≤ (wr.alloc (.cells #[.int .u8 77] 5)).heap.size := by simp; omega
      have hnew : ∀ j u, (spareByte)[j]? = some u → (wr.alloc (.cells #[.int .u8 77] 5)).cell? ((⟨wr.heap.size, 0, none⟩ : Addr).add j) = some u := news_ofv spareByte _
      have fin : ∀ w2, (wr.alloc (.cells #[.int .u8 77] 5)).grownBy w2 (some w.heap.size) → Below w.heap.size w w2 := fun w2 hg => hb2.grown hg hs2 (fun j e => by cases e; exact Nat.le_refl _)
      clear h3 hown hb hb2
      go_wp2_with (at_builtin; refine wpList_append_fits _ rfl (.tmp 22) (.tmp 23) 30 rfl w.heap.size 5 i0 1 Tryz.underlying30 hi hz1 w.heap.size l.length (l.length + 1) _ rfl hown2 ⟨wr.heap.size, 0, none⟩ 1 1 spareByte rfl rfl hnew one_spareByte (by omega) ?_; intro w2 ho hg; have F := fin w2 hg)
      go_ret
      exact ⟨rfl, ho, F⟩

theorem cell_twByte {w : World} {base g cap : Nat} {l : List UInt8} (h : w.ownsRow base 5 1 (.slice (some ⟨g, 0, none⟩) (l.length + 1) cap) (l.length + 1) (l.flatMap bCell ++ spareByte)) :
    (∀ k (hk : k < l.length) j u, (bCell (l[k]'hk))[j]? = some u → w.cell? ⟨g, k * 1 + j, none⟩ = some u) ∧ (∀ j u, spareByte[j]? = some u → w.cell? ⟨g, l.length * 1 + j, none⟩ = some u) ∧ l.length < cap ∧ cap ≤ maxLen := by
  have hlen : (l.flatMap bCell).length = l.length * 1 := by
    have := h.1
    rw [List.length_append, Nat.add_mul] at this
    have e : (spareByte).length = 1 := rfl
    omega
  refine ⟨fun k hk j u hu => ?_, fun j u hu => ?_, ?_⟩
  · have hj : j < 1 := by
      rcases Nat.lt_or_ge j 1 with h' | h'
      · exact h'
      · rw [List.getElem?_eq_none (by exact h')] at hu; cases hu
    have hkj : k * 1 + j < l.length * 1 := by
      have : (k + 1) * 1 ≤ l.length * 1 := Nat.mul_le_mul_right _ hk
      omega
    have := h.cells (g := g) rfl (k * 1 + j) u (by rw [List.getElem?_append_left (by rw [hlen]; exact hkj), flat_get (size := 1) (fun _ => rfl) l k hk j hj]; exact hu)
    rw [Addr.add_lit] at this
    simpa using this
  · have := h.cells (g := g) rfl (l.length * 1 + j) u (by rw [List.getElem?_append_right (by rw [hlen]; omega), hlen, Nat.add_sub_cancel_left]; exact hu)
    rw [Addr.add_lit] at this
    simpa using this
  · obtain ⟨ao, c', e, h4, h5⟩ := own_len' h
    simp only [Value.slice.injEq, true_and] at e
    obtain ⟨-, rfl⟩ := e
    exact ⟨by omega, h5⟩

set_option maxHeartbeats 2000000 in
set_option maxRecDepth 1000000 in
theorem leftByte_any (w : World) (base g cap lim : Nat) (vl : Value) (l : List UInt8) (ht : w.ownsRow base 5 1 (.slice (some ⟨g, 0, none⟩) (l.length + 1) cap) (l.length + 1) (l.flatMap bCell ++ spareByte)) (hl : SlAt 1 bCell w lim vl l) :
    Calls Tryz.prog 20 #[.slice (some ⟨g, 0, none⟩) l.length cap, vl] w fun e w' => e = .returned (.bool true) ∧ Below w.heap.size w w' := by
  obtain ⟨t1, t2, t3, t4⟩ := cell_twByte ht
  obtain ⟨bo, cb, rfl, hb1, hb2, hb3⟩ := hl
  unfold maxLen at hb2 t4
  have s0 := t2 0 _ rfl
  simp only [Nat.mul_one, Nat.add_zero] at s0
  clear t2 ht
  have hcap : (l.length : Int) < (cap : Int) := by omega
  go_enter Tryz.func20, Tryz.ntmps20
  go_wp2
  go_loopw [5] (fun i wr => ∃ k n : Nat, k ≤ l.length ∧ i = .int .i64 k ∧ wr = w.drewN n) (fun i _ => l.length - (intOf i).toNat)
  case atStart => exact ⟨0, 0, by omega, rfl, rfl⟩
  case round =>
    obtain ⟨k, n, hk, rfl, rfl⟩ := hrel
    by_cases h1 : k < l.length
    · obtain ⟨b2, o2, rfl, hl2, hc2⟩ := hb3 (by omega)
      obtain ⟨x, hx⟩ : ∃ x, x = l[k]'h1 := ⟨_, rfl⟩
      have p : ∀ j u, (bCell x)[j]? = some u → w.cell? ⟨g, k * 1 + j, none⟩ = some u := fun j u hu => t1 k h1 j u (by rw [← hx]; exact hu)
      have q : ∀ j u, (bCell x)[j]? = some u → w.cell? ⟨b2, o2 + k * 1 + j, none⟩ = some u := fun j u hu => hc2 k h1 j u (by rw [← hx]; exact hu)
      have p0 := p 0 _ rfl
      have q0 := q 0 _ rfl
      simp only [Nat.mul_one, Nat.add_zero, bv] at p0 q0
      clear p q hx hc2 hb3 t1 s0
      have i1 : (k : Int) < (l.length : Int) := by omega
      go_wp2
      go_quiet (fail)
      go_wp2
      go_roundw
      case rel => exact ⟨k + 1, _, by omega, by go_num, rfl⟩
      case measure => simp [intOf]; omega
    · obtain rfl : k = l.length := by omega
      clear hb3 t1
      have bW := below_drewN w n
      rw [show w.cell? = (w.drewN n).cell? from rfl] at s0
      generalize w.drewN n = W at *
      go_wp2
      go_ret
      first | exact ⟨rfl, bW⟩ | exact ⟨rfl, bW.trans (((Below.refl _ _).alloc (Nat.le_refl _) _).mono bW.size)⟩
end Go.Proofs.YtcgecdiaddcfkaaGreatDoor
