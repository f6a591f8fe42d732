import Derived.Test.YtndjgilheleplaaGreatDoorM5
import Derived.Test.YtndjgilheleplaaGreatDoorRSameBM
import Derived.Test.YtndjgilheleplaaGreatDoorRBookM
import Derived.Deep.QuietTactic
import Derived.BigQuiet
import Derived.Laws.StructEq
/- The walks of a copy of a list of this kind (Op) in memory of its own, with a mark behind it, and of the look whether it is as it was. -/
set_option linter.unusedSimpArgs false
set_option linter.unusedVariables false
namespace Go.Proofs.YtndjgilheleplaaGreatDoor
open Go.RowKit

def spareOp : List Value := [.int .u8 0, .string ⟨#[115, 112, 97, 114, 101]⟩, .string ⟨#[]⟩, .int .u32 0]
theorem info_twOp : (Tryz.prog.info? 25).map (fun i => (i.zero, i.size, i.bytes)) = some (some (.agg #[.int .u8 0, .string ⟨#[]⟩, .string ⟨#[]⟩, .int .u32 0]), 4, 48) := by kernel_rfl
theorem one_twOp (x : OpD) : ∀ u ∈ opCells x, u.oneCell' = true := by
  intro u hu
  simp [opCells] at hu
  rcases hu with rfl | rfl | rfl | rfl
  all_goals rfl
theorem one_spareOp : ∀ u ∈ spareOp, u.oneCell' = true := by
  intro u hu
  simp [spareOp] at hu
  rcases hu with rfl | rfl | rfl | rfl
  all_goals rfl
theorem flat_twOp (l : List OpD) (k : Nat) (h : k < l.length) : (l.take (k + 1)).flatMap opCells = (l.take k).flatMap opCells ++ opCells (l[k]'h) := by
  rw [List.take_add_one, List.getElem?_eq_getElem h, List.flatMap_append]; simp

set_option maxHeartbeats 2000000 in
set_option maxRecDepth 1000000 in
theorem twinOp_any (w : World) (vl : Value) (l : List OpD) (hl : SlAt 4 opCells w w.heap.size vl l) (hn : l.length ≤ 1000000) :
    Calls Tryz.prog 7 #[vl] w fun e w' => e = .returned (.slice (some ⟨w.heap.size, 0, none⟩) l.length (l.length + 1)) ∧ w'.ownsRow w.heap.size 25 4 (.slice (some ⟨w.heap.size, 0, none⟩) (l.length + 1) (l.length + 1)) (l.length + 1) (l.flatMap opCells ++ spareOp) ∧ Below w.heap.size w w' := by
  obtain ⟨i0, hi, hz0, hz1, hz2⟩ := info_parts info_twOp
  obtain ⟨ao, cap, rfl, h1, h2, h3⟩ := hl
  unfold maxLen at h2
  have hby : i0.bytes * (l.length + 1) ≤ 281474976710656 := by rw [hz2]; omega
  have hnm : l.length + 1 ≤ maxLen := by unfold maxLen; omega
  go_enter Tryz.func7, Tryz.ntmps7
  go_wp2_with (at_make; refine wpList_make_own _ rfl _ _ 26 rfl w.heap.size 25 i0 (.agg #[.int .u8 0, .string ⟨#[]⟩, .string ⟨#[]⟩, .int .u32 0]) 4 Tryz.underlying26 hi hz0 hz1 .i64 .i64 _ (l.length + 1) rfl rfl (by omega) hby hnm (Nat.le_refl _) ?_; intro w1 hown hgr; have b1 : Below w.heap.size w w1 := (Below.refl _ _).grown hgr (Nat.le_refl _) (fun k e => by cases e))
  go_loopw [3, 4] (fun vt i wr => ∃ k : Nat, k ≤ l.length ∧ i = .int .i64 k ∧ vt = .slice (some ⟨w.heap.size, 0, none⟩) k (l.length + 1) ∧ wr.ownsRow w.heap.size 25 4 (.slice (some ⟨w.heap.size, 0, none⟩) k (l.length + 1)) k ((l.take k).flatMap opCells) ∧ Below w.heap.size w wr) (fun _ i _ => l.length - (intOf i).toNat)
  case atStart => exact ⟨0, by omega, rfl, rfl, by simpa using hown, b1⟩
  case round =>
    clear hown b1 hgr
    obtain ⟨k, hk, rfl, rfl, hown, hb⟩ := hrel
    by_cases hkl : k < l.length
    · obtain ⟨b, off, rfl, hbl, hcell⟩ := h3 (by omega)
      obtain ⟨x, hx⟩ : ∃ x, x = l[k]'hkl := ⟨_, rfl⟩
      have cc : ∀ j u, (opCells x)[j]? = some u → wr.cell? ⟨b, off + k * 4 + j, none⟩ = some u := fun j u hu => (hb.cell (p := ⟨b, _, none⟩) hbl).trans (hcell k hkl j u (by rw [← hx]; exact hu))
      have c0 := cc 0 _ rfl
      have c1 := cc 1 _ rfl
      have c2 := cc 2 _ rfl
      have c3 := cc 3 _ rfl
      simp only [Nat.add_zero] at c0
      have hE : Hid ((l.take (k + 1)).flatMap opCells = (l.take k).flatMap opCells ++ opCells x) := by show _ = _; rw [hx]; exact flat_twOp l k hkl
      have hz := hb.size
      have hown2 := hown.alloc (.cells (opCells x).toArray 25)
      have hb2 : Below w.heap.size w (wr.alloc (.cells (opCells x).toArray 25)) := hb.alloc hz _
      have hs2 : w.heap.size ≤ (wr.alloc (.cells (opCells x).toArray 25)).heap.size := by simp; omega
      have hnew : ∀ j u, (opCells x)[j]? = some u → (wr.alloc (.cells (opCells x).toArray 25)).cell? ((⟨wr.heap.size, 0, none⟩ : Addr).add j) = some u := news_ofv (opCells x) _
      have fin : ∀ w2, w2.ownsRow w.heap.size 25 4 (.slice (some ⟨w.heap.size, 0, none⟩) (k + 1) (l.length + 1)) (k + 1) ((l.take k).flatMap opCells ++ opCells x) → (wr.alloc (.cells (opCells x).toArray 25)).grownBy w2 (some w.heap.size) →
          w2.ownsRow w.heap.size 25 4 (.slice (some ⟨w.heap.size, 0, none⟩) (k + 1) (l.length + 1)) (k + 1) ((l.take (k + 1)).flatMap opCells) ∧ Below w.heap.size w w2 := by
        intro w2 ho hg
        refine ⟨by rw [hE.out]; exact ho, hb2.grown hg hs2 (fun j e => by cases e; exact Nat.le_refl _)⟩
      have i1 : (k : Int) < (l.length : Int) := by omega
      clear cc hx hcell hown hb hb2
      go_wp2_with (at_builtin; refine wpList_append_fits _ rfl (.tmp 15) (.tmp 20) 26 rfl w.heap.size 25 i0 4 Tryz.underlying26 hi hz1 w.heap.size k (l.length + 1) _ rfl hown2 ⟨wr.heap.size, 0, none⟩ 1 1 (opCells x) rfl rfl hnew (one_twOp x) (by omega) ?_; intro w2 ho hg; have F := fin w2 ho hg)
      obtain ⟨F1, F2⟩ := F
      clear fin
      go_roundw
      case rel => exact ⟨k + 1, by omega, by go_num, rfl, F1, F2⟩
      case measure => simp [intOf]; omega
    · obtain rfl : k = l.length := by omega
      rw [List.take_of_length_le (Nat.le_refl _)] at hown
      have hz := hb.size
      have hown2 := hown.alloc (.cells #[.int .u8 0, .string ⟨#[115, 112, 97, 114, 101]⟩, .string ⟨#[]⟩, .int .u32 0] 25)
      have hb2 : Below w.heap.size w (wr.alloc (.cells #[.int .u8 0, .string ⟨#[115, 112, 97, 114, 101]⟩, .string ⟨#[]⟩, .int .u32 0] 25)) := hb.alloc hz _
      have hs2 : w.heap.size ≤ (wr.alloc (.cells #[.int .u8 0, .string ⟨#[115, 112, 97, 114, 101]⟩, .string ⟨#[]⟩, .int .u32 0] 25)).heap.size := by simp; omega
      have hnew : ∀ j u, (spareOp)[j]? = some u → (wr.alloc (.cells #[.int .u8 0, .string ⟨#[115, 112, 97, 114, 101]⟩, .string ⟨#[]⟩, .int .u32 0] 25)).cell? ((⟨wr.heap.size, 0, none⟩ : Addr).add j) = some u := news_ofv spareOp _
      have fin : ∀ w2, (wr.alloc (.cells #[.int .u8 0, .string ⟨#[115, 112, 97, 114, 101]⟩, .string ⟨#[]⟩, .int .u32 0] 25)).grownBy w2 (some w.heap.size) → Below w.heap.size w w2 := fun w2 hg => hb2.grown hg hs2 (fun j e => by cases e; exact Nat.le_refl _)
      clear h3 hown hb hb2
      go_wp2_with (at_builtin; refine wpList_append_fits _ rfl (.tmp 22) (.tmp 24) 26 rfl w.heap.size 25 i0 4 Tryz.underlying26 hi hz1 w.heap.size l.length (l.length + 1) _ rfl hown2 ⟨wr.heap.size, 0, none⟩ 1 1 spareOp rfl rfl hnew one_spareOp (by omega) ?_; intro w2 ho hg; have F := fin w2 hg)
      go_ret
      exact ⟨rfl, ho, F⟩

theorem cell_twOp {w : World} {base g cap : Nat} {l : List OpD} (h : w.ownsRow base 25 4 (.slice (some ⟨g, 0, none⟩) (l.length + 1) cap) (l.length + 1) (l.flatMap opCells ++ spareOp)) :
    (∀ k (hk : k < l.length) j u, (opCells (l[k]'hk))[j]? = some u → w.cell? ⟨g, k * 4 + j, none⟩ = some u) ∧ (∀ j u, spareOp[j]? = some u → w.cell? ⟨g, l.length * 4 + j, none⟩ = some u) ∧ l.length < cap ∧ cap ≤ maxLen := by
  have hlen : (l.flatMap opCells).length = l.length * 4 := by
    have := h.1
    rw [List.length_append, Nat.add_mul] at this
    have e : (spareOp).length = 4 := rfl
    omega
  refine ⟨fun k hk j u hu => ?_, fun j u hu => ?_, ?_⟩
  · have hj : j < 4 := by
      rcases Nat.lt_or_ge j 4 with h' | h'
      · exact h'
      · rw [List.getElem?_eq_none (by exact h')] at hu; cases hu
    have hkj : k * 4 + j < l.length * 4 := by
      have : (k + 1) * 4 ≤ l.length * 4 := Nat.mul_le_mul_right _ hk
      omega
    have := h.cells (g := g) rfl (k * 4 + j) u (by rw [List.getElem?_append_left (by rw [hlen]; exact hkj), flat_get (size := 4) (fun _ => rfl) l k hk j hj]; exact hu)
    rw [Addr.add_lit] at this
    simpa using this
  · have := h.cells (g := g) rfl (l.length * 4 + j) u (by rw [List.getElem?_append_right (by rw [hlen]; omega), hlen, Nat.add_sub_cancel_left]; exact hu)
    rw [Addr.add_lit] at this
    simpa using this
  · obtain ⟨ao, c', e, h4, h5⟩ := own_len' h
    simp only [Value.slice.injEq, true_and] at e
    obtain ⟨-, rfl⟩ := e
    exact ⟨by omega, h5⟩

set_option maxHeartbeats 2000000 in
set_option maxRecDepth 1000000 in
theorem leftOp_any (w : World) (base g cap lim : Nat) (vl : Value) (l : List OpD) (ht : w.ownsRow base 25 4 (.slice (some ⟨g, 0, none⟩) (l.length + 1) cap) (l.length + 1) (l.flatMap opCells ++ spareOp)) (hl : SlAt 4 opCells w lim vl l) :
    Calls Tryz.prog 17 #[.slice (some ⟨g, 0, none⟩) l.length cap, vl] w fun e w' => e = .returned (.bool true) ∧ Below w.heap.size w w' := by
  obtain ⟨t1, t2, t3, t4⟩ := cell_twOp ht
  obtain ⟨bo, cb, rfl, hb1, hb2, hb3⟩ := hl
  unfold maxLen at hb2 t4
  have s0 := t2 0 _ rfl
  have s1 := t2 1 _ rfl
  have s2 := t2 2 _ rfl
  have s3 := t2 3 _ rfl
  simp only [Nat.add_zero] at s0
  clear t2 ht
  have hcap : (l.length : Int) < (cap : Int) := by omega
  go_enter Tryz.func17, Tryz.ntmps17
  go_wp2
  go_loopw [5] (fun i wr => ∃ k n : Nat, k ≤ l.length ∧ i = .int .i64 k ∧ wr = w.drewN n) (fun i _ => l.length - (intOf i).toNat)
  case atStart => exact ⟨0, 0, by omega, rfl, rfl⟩
  case round =>
    obtain ⟨k, n, hk, rfl, rfl⟩ := hrel
    by_cases h1 : k < l.length
    · obtain ⟨b2, o2, rfl, hl2, hc2⟩ := hb3 (by omega)
      obtain ⟨x, hx⟩ : ∃ x, x = l[k]'h1 := ⟨_, rfl⟩
      have p : ∀ j u, (opCells x)[j]? = some u → w.cell? ⟨g, k * 4 + j, none⟩ = some u := fun j u hu => t1 k h1 j u (by rw [← hx]; exact hu)
      have q : ∀ j u, (opCells x)[j]? = some u → w.cell? ⟨b2, o2 + k * 4 + j, none⟩ = some u := fun j u hu => hc2 k h1 j u (by rw [← hx]; exact hu)
      have p0 := p 0 _ rfl
      have q0 := q 0 _ rfl
      have p1 := p 1 _ rfl
      have q1 := q 1 _ rfl
      have p2 := p 2 _ rfl
      have q2 := q 2 _ rfl
      have p3 := p 3 _ rfl
      have q3 := q 3 _ rfl
      simp only [Nat.add_zero] at p0 q0
      clear p q hx hc2 hb3 t1 s0 s1 s2 s3
      have i1 : (k : Int) < (l.length : Int) := by omega
      go_wp2
      go_quiet (fail)
      go_wp2
      go_roundw
      case rel => exact ⟨k + 1, _, by omega, by go_num, rfl⟩
      case measure => simp [intOf]; omega
    · obtain rfl : k = l.length := by omega
      clear hb3 t1
      have bW := below_drewN w n
      rw [show w.cell? = (w.drewN n).cell? from rfl] at s0
      rw [show w.cell? = (w.drewN n).cell? from rfl] at s1
      rw [show w.cell? = (w.drewN n).cell? from rfl] at s2
      rw [show w.cell? = (w.drewN n).cell? from rfl] at s3
      generalize w.drewN n = W at *
      go_wp2
      go_ret
      first | exact ⟨rfl, bW⟩ | exact ⟨rfl, bW.trans (((Below.refl _ _).alloc (Nat.le_refl _) _).mono bW.size)⟩

def opSz (x : OpD) : Prop := x.key.size ≤ 140737488351232 ∧ x.to.size ≤ 140737488351232

set_option maxHeartbeats 2000000 in
set_option maxRecDepth 1000000 in
theorem sizeOp_any (w : World) (la : Nat) (va : Value) (l : List OpD) (ha : SlAt 4 opCells w la va l) (hsm : ∀ x ∈ l, opSz x) :
    Calls Tryz.prog 6 #[va] w fun e w' => (∃ z : Int, e = .returned (.int .i64 z) ∧ (l.length : Int) ≤ z) ∧ ∃ n, w' = w.drewN n := by
  obtain ⟨ao, ca, rfl, ha1, ha2, ha3⟩ := ha
  unfold maxLen at ha2
  go_enter Tryz.func6, Tryz.ntmps6
  go_wp2
  go_loopw [3, 4] (fun s i wr => ∃ (k n : Nat) (z : Int), k ≤ l.length ∧ i = .int .i64 k ∧ s = .int .i64 z ∧ (l.length : Int) ≤ z ∧ wr = w.drewN n) (fun _ i _ => l.length - (intOf i).toNat)
  case atStart => exact ⟨0, 0, _, by omega, rfl, rfl, Int.le_refl _, rfl⟩
  case round =>
    obtain ⟨k, n, z, hk, rfl, rfl, hzl, rfl⟩ := hrel
    by_cases h1 : k < l.length
    · by_cases h2 : z ≤ 1048576
      · obtain ⟨b1, o1, rfl, hl1, hc1⟩ := ha3 (by omega)
        obtain ⟨x, hx⟩ : ∃ x, x = l[k]'h1 := ⟨_, rfl⟩
        have hxs := hsm x (by rw [hx]; exact List.getElem_mem _)
        have p : ∀ j u, (opCells x)[j]? = some u → w.cell? ⟨b1, o1 + k * 4 + j, none⟩ = some u := fun j u hu => hc1 k h1 j u (by rw [← hx]; exact hu)
        have p0 := p 0 _ rfl
        have p1 := p 1 _ rfl
        have p2 := p 2 _ rfl
        have p3 := p 3 _ rfl
        simp only [Nat.add_zero, Nat.mul_one] at p0
        have HS : Hid (opSz x) := hxs
        clear p hx hc1 ha3 hxs
        have i1 : (k : Int) < (l.length : Int) := by omega
        go_wp2
        go_quiet (fail)
        go_wp2
        go_roundw
        case rel =>
          have hS := HS.out
          unfold opSz at hS
          refine ⟨k + 1, _, _, by omega, by go_num, rfl, ?_, rfl⟩
          try unfold wrap64
          try simp only [IntKind.wrap_i64]
          omega
        case measure => simp [intOf]; omega
      · clear ha3
        go_wp2
        go_ret
        exact ⟨⟨_, rfl, hzl⟩, n, rfl⟩
    · clear ha3
      go_wp2
      go_ret
      exact ⟨⟨_, rfl, hzl⟩, n, rfl⟩
end Go.Proofs.YtndjgilheleplaaGreatDoor
