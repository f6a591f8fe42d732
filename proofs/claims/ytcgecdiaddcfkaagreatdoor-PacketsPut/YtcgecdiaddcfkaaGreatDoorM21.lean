/- Texts of this proof, laid into one. -/
import Derived.Test.YtcgecdiaddcfkaaGreatDoorM15
import Derived.Test.YtcgecdiaddcfkaaGreatDoorM6
import Derived.Test.YtcgecdiaddcfkaaGreatDoorRBookM
import Derived.Deep.QuietTactic
import Derived.BigQuiet
import Derived.Laws.StructEq
/- The walks of a copy of a list of this kind (Op) in memory of its own, with a mark behind it, and of the look whether it is as it was. -/
set_option linter.unusedSimpArgs false
set_option linter.unusedVariables false
namespace Go.Proofs.YtcgecdiaddcfkaaGreatDoor
open Go.RowKit

def spareOp : List Value := [.int .u8 0, .string ⟨#[115, 112, 97, 114, 101]⟩, .string ⟨#[]⟩, .int .u32 0]
theorem info_twOp : (Tryz.prog.info? 85).map (fun i => (i.zero, i.size, i.bytes)) = some (some (.agg #[.int .u8 0, .string ⟨#[]⟩, .string ⟨#[]⟩, .int .u32 0]), 4, 48) := by kernel_rfl
theorem one_twOp (x : OpD) : ∀ u ∈ opCells x, u.oneCell' = true := by
  intro u hu
  simp [opCells] at hu
  rcases hu with rfl | rfl | rfl | rfl
  all_goals rfl
theorem one_spareOp : ∀ u ∈ spareOp, u.oneCell' = true := by
  intro u hu
  simp [spareOp] at hu
  rcases hu with rfl | rfl | rfl | rfl
  all_goals rfl
theorem flat_twOp (l : List OpD) (k : Nat) (h : k < l.length) : (l.take (k + 1)).flatMap opCells = (l.take k).flatMap opCells ++ opCells (l[k]'h) := by
  rw [List.take_add_one, List.getElem?_eq_getElem h, List.flatMap_append]; simp

set_option maxHeartbeats 2000000 in
set_option maxRecDepth 1000000 in
theorem twinOp_any (w : World) (vl : Value) (l : List OpD) (hl : SlAt 4 opCells w w.heap.size vl l) (hn : l.length ≤ 1000000) :
    Calls Tryz.prog 23 #[vl] w fun e w' => e = .returned (.slice (some ⟨w.heap.size, 0, none⟩) l.length (l.length + 1)) ∧ w'.ownsRow w.heap.size 85 4 (.slice (some ⟨w.heap.size, 0, none⟩) (l.length + 1) (l.length + 1)) (l.length + 1) (l.flatMap opCells ++ spareOp) ∧ Below w.heap.size w w' := by
  obtain ⟨i0, hi, hz0, hz1, hz2⟩ := info_parts info_twOp
  obtain ⟨ao, cap, rfl, h1, h2, h3⟩ := hl
  unfold maxLen at h2
  have hby : i0.bytes * (l.length + 1) ≤ 281474976710656 := by rw [hz2]; omega
  have hnm : l.length + 1 ≤ maxLen := by unfold maxLen; omega
  go_enter Tryz.func23, Tryz.ntmps23
  go_wp2_with (at_make; refine wpList_make_own _ rfl _ _ 24 rfl w.heap.size 85 i0 (.agg #[.int .u8 0, .string ⟨#[]⟩, .string ⟨#[]⟩, .int .u32 0]) 4 Tryz.underlying24 hi hz0 hz1 .i64 .i64 _ (l.length + 1) rfl rfl (by omega) hby hnm (Nat.le_refl _) ?_; intro w1 hown hgr; have b1 : Below w.heap.size w w1 := (Below.refl _ _).grown hgr (Nat.le_refl _) (fun k e => by cases e))
  go_loopw [3, 4] (fun vt i wr => ∃ k : Nat, k ≤ l.length ∧ i = .int .i64 k ∧ vt = .slice (some ⟨w.heap.size, 0, none⟩) k (l.length + 1) ∧ wr.ownsRow w.heap.size 85 4 (.slice (some ⟨w.heap.size, 0, none⟩) k (l.length + 1)) k ((l.take k).flatMap opCells) ∧ Below w.heap.size w wr) (fun _ i _ => l.length - (intOf i).toNat)
  case atStart => exact ⟨0, by omega, rfl, rfl, by simpa using hown, b1⟩
  case round =>
    clear hown b1 hgr
    obtain ⟨k, hk, rfl, rfl, hown, hb⟩ := hrel
    by_cases hkl : k < l.length
    · obtain ⟨b, off, rfl, hbl, hcell⟩ := h3 (by omega)
      obtain ⟨x, hx⟩ : ∃ x, x = l[k]'hkl := ⟨_, rfl⟩
      have cc : ∀ j u, (opCells x)[j]? = some u → wr.cell? ⟨b, off + k * 4 + j, none⟩ = some u := fun j u hu => (hb.cell (p := ⟨b, _, none⟩) hbl).trans (hcell k hkl j u (by rw [← hx]; exact hu))
      have c0 := cc 0 _ rfl
      have c1 := cc 1 _ rfl
      have c2 := cc 2 _ rfl
      have c3 := cc 3 _ rfl
      simp only [Nat.add_zero] at c0
      have hE : Hid ((l.take (k + 1)).flatMap opCells = (l.take k).flatMap opCells ++ opCells x) := by show _ = _; rw [hx]; exact flat_twOp l k hkl
      have hz := hb.size
      have hown2 := hown.alloc (.cells (opCells x).toArray 85)
      have hb2 : Below w.heap.size w (wr.alloc (.cells (opCells x).toArray 85)) := hb.alloc hz _
      have hs2 : w.heap.size ≤ (wr.alloc (.cells (opCells x).toArray 85)).heap.size := by simp; omega
      have hnew : ∀ j u, (opCells x)[j]? = some u → (wr.alloc (.cells (opCells x).toArray 85)).cell? ((⟨wr.heap.size, 0, none⟩ : Addr).add j) = some u := news_ofv (opCells x) _
      have fin : ∀ w2, w2.ownsRow w.heap.size 85 4 (.slice (some ⟨w.heap.size, 0, none⟩) (k + 1) (l.length + 1)) (k + 1) ((l.take k).flatMap opCells ++ opCells x) → (wr.alloc (.cells (opCells x).toArray 85)).grownBy w2 (some w.heap.size) →
          w2.ownsRow w.heap.size 85 4 (.slice (some ⟨w.heap.size, 0, none⟩) (k + 1) (l.length + 1)) (k + 1) ((l.take (k + 1)).flatMap opCells) ∧ Below w.heap.size w w2 := by
        intro w2 ho hg
        refine ⟨by rw [hE.out]; exact ho, hb2.grown hg hs2 (fun j e => by cases e; exact Nat.le_refl _)⟩
      have i1 : (k : Int) < (l.length : Int) := by omega
      clear cc hx hcell hown hb hb2
      go_wp2_with (at_builtin; refine wpList_append_fits _ rfl (.tmp 15) (.tmp 20) 24 rfl w.heap.size 85 i0 4 Tryz.underlying24 hi hz1 w.heap.size k (l.length + 1) _ rfl hown2 ⟨wr.heap.size, 0, none⟩ 1 1 (opCells x) rfl rfl hnew (one_twOp x) (by omega) ?_; intro w2 ho hg; have F := fin w2 ho hg)
      obtain ⟨F1, F2⟩ := F
      clear fin
      go_roundw
      case rel => exact ⟨k + 1, by omega, by go_num, rfl, F1, F2⟩
      case measure => simp [intOf]; omega
    · obtain rfl : k = l.length := by omega
      rw [List.take_of_length_le (Nat.le_refl _)] at hown
      have hz := hb.size
      have hown2 := hown.alloc (.cells #[.int .u8 0, .string ⟨#[115, 112, 97, 114, 101]⟩, .string ⟨#[]⟩, .int .u32 0] 85)
      have hb2 : Below w.heap.size w (wr.alloc (.cells #[.int .u8 0, .string ⟨#[115, 112, 97, 114, 101]⟩, .string ⟨#[]⟩, .int .u32 0] 85)) := hb.alloc hz _
      have hs2 : w.heap.size ≤ (wr.alloc (.cells #[.int .u8 0, .string ⟨#[115, 112, 97, 114, 101]⟩, .string ⟨#[]⟩, .int .u32 0] 85)).heap.size := by simp; omega
      have hnew : ∀ j u, (spareOp)[j]? = some u → (wr.alloc (.cells #[.int .u8 0, .string ⟨#[115, 112, 97, 114, 101]⟩, .string ⟨#[]⟩, .int .u32 0] 85)).cell? ((⟨wr.heap.size, 0, none⟩ : Addr).add j) = some u := news_ofv spareOp _
      have fin : ∀ w2, (wr.alloc (.cells #[.int .u8 0, .string ⟨#[115, 112, 97, 114, 101]⟩, .string ⟨#[]⟩, .int .u32 0] 85)).grownBy w2 (some w.heap.size) → Below w.heap.size w w2 := fun w2 hg => hb2.grown hg hs2 (fun j e => by cases e; exact Nat.le_refl _)
      clear h3 hown hb hb2
      go_wp2_with (at_builtin; refine wpList_append_fits _ rfl (.tmp 22) (.tmp 24) 24 rfl w.heap.size 85 i0 4 Tryz.underlying24 hi hz1 w.heap.size l.length (l.length + 1) _ rfl hown2 ⟨wr.heap.size, 0, none⟩ 1 1 spareOp rfl rfl hnew one_spareOp (by omega) ?_; intro w2 ho hg; have F := fin w2 hg)
      go_ret
      exact ⟨rfl, ho, F⟩

theorem cell_twOp {w : World} {base g cap : Nat} {l : List OpD} (h : w.ownsRow base 85 4 (.slice (some ⟨g, 0, none⟩) (l.length + 1) cap) (l.length + 1) (l.flatMap opCells ++ spareOp)) :
    (∀ k (hk : k < l.length) j u, (opCells (l[k]'hk))[j]? = some u → w.cell? ⟨g, k * 4 + j, none⟩ = some u) ∧ (∀ j u, spareOp[j]? = some u → w.cell? ⟨g, l.length * 4 + j, none⟩ = some u) ∧ l.length < cap ∧ cap ≤ maxLen := by
  have hlen : (l.flatMap opCells).length = l.length * 4 := by
    have := h.1
    rw [List.length_append, Nat.add_mul] at this
    have e : (spareOp).length = 4 := rfl
    omega
  refine ⟨fun k hk j u hu => ?_, fun j u hu => ?_, ?_⟩
  · have hj : j < 4 := by
      rcases Nat.lt_or_ge j 4 with h' | h'
      · exact h'
      · rw [List.getElem?_eq_none (by exact h')] at hu; cases hu
    have hkj : k * 4 + j < l.length * 4 := by
      have : (k + 1) * 4 ≤ l.length * 4 := Nat.mul_le_mul_right _ hk
      omega
    have := h.cells (g := g) rfl (k * 4 + j) u (by rw [List.getElem?_append_left (by rw [hlen]; exact hkj), flat_get (size := 4) (fun _ => rfl) l k hk j hj]; exact hu)
    rw [Addr.add_lit] at this
    simpa using this
  · have := h.cells (g := g) rfl (l.length * 4 + j) u (by rw [List.getElem?_append_right (by rw [hlen]; omega), hlen, Nat.add_sub_cancel_left]; exact hu)
    rw [Addr.add_lit] at this
    simpa using this
  · obtain ⟨ao, c', e, h4, h5⟩ := own_len' h
    simp only [Value.slice.injEq, true_and] at e
    obtain ⟨-, rfl⟩ := e
    exact ⟨by omega, h5⟩

set_option maxHeartbeats 2000000 in
set_option maxRecDepth 1000000 in
theorem leftOp_any (w : World) (base g cap lim : Nat) (vl : Value) (l : List OpD) (ht : w.ownsRow base 85 4 (.slice (some ⟨g, 0, none⟩) (l.length + 1) cap) (l.length + 1) (l.flatMap opCells ++ spareOp)) (hl : SlAt 4 opCells w lim vl l) :
    Calls Tryz.prog 38 #[.slice (some ⟨g, 0, none⟩) l.length cap, vl] w fun e w' => e = .returned (.bool true) ∧ Below w.heap.size w w' := by
  obtain ⟨t1, t2, t3, t4⟩ := cell_twOp ht
  obtain ⟨bo, cb, rfl, hb1, hb2, hb3⟩ := hl
  unfold maxLen at hb2 t4
  have s0 := t2 0 _ rfl
  have s1 := t2 1 _ rfl
  have s2 := t2 2 _ rfl
  have s3 := t2 3 _ rfl
  simp only [Nat.add_zero] at s0
  clear t2 ht
  have hcap : (l.length : Int) < (cap : Int) := by omega
  go_enter Tryz.func38, Tryz.ntmps38
  go_wp2
  go_loopw [5] (fun i wr => ∃ k n : Nat, k ≤ l.length ∧ i = .int .i64 k ∧ wr = w.drewN n) (fun i _ => l.length - (intOf i).toNat)
  case atStart => exact ⟨0, 0, by omega, rfl, rfl⟩
  case round =>
    obtain ⟨k, n, hk, rfl, rfl⟩ := hrel
    by_cases h1 : k < l.length
    · obtain ⟨b2, o2, rfl, hl2, hc2⟩ := hb3 (by omega)
      obtain ⟨x, hx⟩ : ∃ x, x = l[k]'h1 := ⟨_, rfl⟩
      have p : ∀ j u, (opCells x)[j]? = some u → w.cell? ⟨g, k * 4 + j, none⟩ = some u := fun j u hu => t1 k h1 j u (by rw [← hx]; exact hu)
      have q : ∀ j u, (opCells x)[j]? = some u → w.cell? ⟨b2, o2 + k * 4 + j, none⟩ = some u := fun j u hu => hc2 k h1 j u (by rw [← hx]; exact hu)
      have p0 := p 0 _ rfl
      have q0 := q 0 _ rfl
      have p1 := p 1 _ rfl
      have q1 := q 1 _ rfl
      have p2 := p 2 _ rfl
      have q2 := q 2 _ rfl
      have p3 := p 3 _ rfl
      have q3 := q 3 _ rfl
      simp only [Nat.add_zero] at p0 q0
      clear p q hx hc2 hb3 t1 s0 s1 s2 s3
      have i1 : (k : Int) < (l.length : Int) := by omega
      go_wp2
      go_quiet (fail)
      go_wp2
      go_roundw
      case rel => exact ⟨k + 1, _, by omega, by go_num, rfl⟩
      case measure => simp [intOf]; omega
    · obtain rfl : k = l.length := by omega
      clear hb3 t1
      have bW := below_drewN w n
      rw [show w.cell? = (w.drewN n).cell? from rfl] at s0
      rw [show w.cell? = (w.drewN n).cell? from rfl] at s1
      rw [show w.cell? = (w.drewN n).cell? from rfl] at s2
      rw [show w.cell? = (w.drewN n).cell? from rfl] at s3
      generalize w.drewN n = W at *
      go_wp2
      go_ret
      first | exact ⟨rfl, bW⟩ | exact ⟨rfl, bW.trans (((Below.refl _ _).alloc (Nat.le_refl _) _).mono bW.size)⟩

def opSz (x : OpD) : Prop := x.key.size ≤ 140737488351232 ∧ x.to.size ≤ 140737488351232

set_option maxHeartbeats 2000000 in
set_option maxRecDepth 1000000 in
theorem sizeOp_any (w : World) (la : Nat) (va : Value) (l : List OpD) (ha : SlAt 4 opCells w la va l) (hsm : ∀ x ∈ l, opSz x) :
    Calls Tryz.prog 21 #[va] w fun e w' => (∃ z : Int, e = .returned (.int .i64 z) ∧ (l.length : Int) ≤ z) ∧ ∃ n, w' = w.drewN n := by
  obtain ⟨ao, ca, rfl, ha1, ha2, ha3⟩ := ha
  unfold maxLen at ha2
  go_enter Tryz.func21, Tryz.ntmps21
  go_wp2
  go_loopw [3, 4] (fun s i wr => ∃ (k n : Nat) (z : Int), k ≤ l.length ∧ i = .int .i64 k ∧ s = .int .i64 z ∧ (l.length : Int) ≤ z ∧ wr = w.drewN n) (fun _ i _ => l.length - (intOf i).toNat)
  case atStart => exact ⟨0, 0, _, by omega, rfl, rfl, Int.le_refl _, rfl⟩
  case round =>
    obtain ⟨k, n, z, hk, rfl, rfl, hzl, rfl⟩ := hrel
    by_cases h1 : k < l.length
    · by_cases h2 : z ≤ 1048576
      · obtain ⟨b1, o1, rfl, hl1, hc1⟩ := ha3 (by omega)
        obtain ⟨x, hx⟩ : ∃ x, x = l[k]'h1 := ⟨_, rfl⟩
        have hxs := hsm x (by rw [hx]; exact List.getElem_mem _)
        have p : ∀ j u, (opCells x)[j]? = some u → w.cell? ⟨b1, o1 + k * 4 + j, none⟩ = some u := fun j u hu => hc1 k h1 j u (by rw [← hx]; exact hu)
        have p0 := p 0 _ rfl
        have p1 := p 1 _ rfl
        have p2 := p 2 _ rfl
        have p3 := p 3 _ rfl
        simp only [Nat.add_zero, Nat.mul_one] at p0
        have HS : Hid (opSz x) := hxs
        clear p hx hc1 ha3 hxs
        have i1 : (k : Int) < (l.length : Int) := by omega
        go_wp2
        go_quiet (fail)
        go_wp2
        go_roundw
        case rel =>
          have hS := HS.out
          unfold opSz at hS
          refine ⟨k + 1, _, _, by omega, by go_num, rfl, ?_, rfl⟩
          try unfold wrap64
          try simp only [IntKind.wrap_i64]
          omega
        case measure => simp [intOf]; omega
      · clear ha3
        go_wp2
        go_ret
        exact ⟨⟨_, rfl, hzl⟩, n, rfl⟩
    · clear ha3
      go_wp2
      go_ret
      exact ⟨⟨_, rfl, hzl⟩, n, rfl⟩
end Go.Proofs.YtcgecdiaddcfkaaGreatDoor
/- The walks of a copy of a list of this kind (Row) in memory of its own, with a mark behind it, and of the look whether it is as it was. -/
set_option linter.unusedSimpArgs false
set_option linter.unusedVariables false
namespace Go.Proofs.YtcgecdiaddcfkaaGreatDoor
open Go.RowKit

def spareRow : List Value := [.string ⟨#[115, 112, 97, 114, 101]⟩, .int .u32 0]
theorem info_twRow : (Tryz.prog.info? 92).map (fun i => (i.zero, i.size, i.bytes)) = some (some (.agg #[.string ⟨#[]⟩, .int .u32 0]), 2, 24) := by kernel_rfl
theorem one_twRow (x : RowD) : ∀ u ∈ rowCells x, u.oneCell' = true := by
  intro u hu
  simp [rowCells] at hu
  rcases hu with rfl | rfl
  all_goals rfl
theorem one_spareRow : ∀ u ∈ spareRow, u.oneCell' = true := by
  intro u hu
  simp [spareRow] at hu
  rcases hu with rfl | rfl
  all_goals rfl
theorem flat_twRow (l : List RowD) (k : Nat) (h : k < l.length) : (l.take (k + 1)).flatMap rowCells = (l.take k).flatMap rowCells ++ rowCells (l[k]'h) := by
  rw [List.take_add_one, List.getElem?_eq_getElem h, List.flatMap_append]; simp

set_option maxHeartbeats 2000000 in
set_option maxRecDepth 1000000 in
theorem twinRow_any (w : World) (vl : Value) (l : List RowD) (hl : SlAt 2 rowCells w w.heap.size vl l) (hn : l.length ≤ 1000000) :
    Calls Tryz.prog 157 #[vl] w fun e w' => e = .returned (.slice (some ⟨w.heap.size, 0, none⟩) l.length (l.length + 1)) ∧ w'.ownsRow w.heap.size 92 2 (.slice (some ⟨w.heap.size, 0, none⟩) (l.length + 1) (l.length + 1)) (l.length + 1) (l.flatMap rowCells ++ spareRow) ∧ Below w.heap.size w w' := by
  obtain ⟨i0, hi, hz0, hz1, hz2⟩ := info_parts info_twRow
  obtain ⟨ao, cap, rfl, h1, h2, h3⟩ := hl
  unfold maxLen at h2
  have hby : i0.bytes * (l.length + 1) ≤ 281474976710656 := by rw [hz2]; omega
  have hnm : l.length + 1 ≤ maxLen := by unfold maxLen; omega
  go_enter Tryz.func157, Tryz.ntmps157
  go_wp2_with (at_make; refine wpList_make_own _ rfl _ _ 87 rfl w.heap.size 92 i0 (.agg #[.string ⟨#[]⟩, .int .u32 0]) 2 Tryz.underlying87 hi hz0 hz1 .i64 .i64 _ (l.length + 1) rfl rfl (by omega) hby hnm (Nat.le_refl _) ?_; intro w1 hown hgr; have b1 : Below w.heap.size w w1 := (Below.refl _ _).grown hgr (Nat.le_refl _) (fun k e => by cases e))
  go_loopw [3, 4] (fun vt i wr => ∃ k : Nat, k ≤ l.length ∧ i = .int .i64 k ∧ vt = .slice (some ⟨w.heap.size, 0, none⟩) k (l.length + 1) ∧ wr.ownsRow w.heap.size 92 2 (.slice (some ⟨w.heap.size, 0, none⟩) k (l.length + 1)) k ((l.take k).flatMap rowCells) ∧ Below w.heap.size w wr) (fun _ i _ => l.length - (intOf i).toNat)
  case atStart => exact ⟨0, by omega, rfl, rfl, by simpa using hown, b1⟩
  case round =>
    clear hown b1 hgr
    obtain ⟨k, hk, rfl, rfl, hown, hb⟩ := hrel
    by_cases hkl : k < l.length
    · obtain ⟨b, off, rfl, hbl, hcell⟩ := h3 (by omega)
      obtain ⟨x, hx⟩ : ∃ x, x = l[k]'hkl := ⟨_, rfl⟩
      have cc : ∀ j u, (rowCells x)[j]? = some u → wr.cell? ⟨b, off + k * 2 + j, none⟩ = some u := fun j u hu => (hb.cell (p := ⟨b, _, none⟩) hbl).trans (hcell k hkl j u (by rw [← hx]; exact hu))
      have c0 := cc 0 _ rfl
      have c1 := cc 1 _ rfl
      simp only [Nat.add_zero] at c0
      have hE : Hid ((l.take (k + 1)).flatMap rowCells = (l.take k).flatMap rowCells ++ rowCells x) := by show _ = _; rw [hx]; exact flat_twRow l k hkl
      have hz := hb.size
      have hown2 := hown.alloc (.cells (rowCells x).toArray 92)
      have hb2 : Below w.heap.size w (wr.alloc (.cells (rowCells x).toArray 92)) := hb.alloc hz _
      have hs2 : w.heap.size ≤ (wr.alloc (.cells (rowCells x).toArray 92)).heap.size := by simp; omega
      have hnew : ∀ j u, (rowCells x)[j]? = some u → (wr.alloc (.cells (rowCells x).toArray 92)).cell? ((⟨wr.heap.size, 0, none⟩ : Addr).add j) = some u := news_ofv (rowCells x) _
      have fin : ∀ w2, w2.ownsRow w.heap.size 92 2 (.slice (some ⟨w.heap.size, 0, none⟩) (k + 1) (l.length + 1)) (k + 1) ((l.take k).flatMap rowCells ++ rowCells x) → (wr.alloc (.cells (rowCells x).toArray 92)).grownBy w2 (some w.heap.size) →
          w2.ownsRow w.heap.size 92 2 (.slice (some ⟨w.heap.size, 0, none⟩) (k + 1) (l.length + 1)) (k + 1) ((l.take (k + 1)).flatMap rowCells) ∧ Below w.heap.size w w2 := by
        intro w2 ho hg
        refine ⟨by rw [hE.out]; exact ho, hb2.grown hg hs2 (fun j e => by cases e; exact Nat.le_refl _)⟩
      have i1 : (k : Int) < (l.length : Int) := by omega
      clear cc hx hcell hown hb hb2
      go_wp2_with (at_builtin; refine wpList_append_fits _ rfl (.tmp 15) (.tmp 20) 87 rfl w.heap.size 92 i0 2 Tryz.underlying87 hi hz1 w.heap.size k (l.length + 1) _ rfl hown2 ⟨wr.heap.size, 0, none⟩ 1 1 (rowCells x) rfl rfl hnew (one_twRow x) (by omega) ?_; intro w2 ho hg; have F := fin w2 ho hg)
      obtain ⟨F1, F2⟩ := F
      clear fin
      go_roundw
      case rel => exact ⟨k + 1, by omega, by go_num, rfl, F1, F2⟩
      case measure => simp [intOf]; omega
    · obtain rfl : k = l.length := by omega
      rw [List.take_of_length_le (Nat.le_refl _)] at hown
      have hz := hb.size
      have hown2 := hown.alloc (.cells #[.string ⟨#[115, 112, 97, 114, 101]⟩, .int .u32 0] 92)
      have hb2 : Below w.heap.size w (wr.alloc (.cells #[.string ⟨#[115, 112, 97, 114, 101]⟩, .int .u32 0] 92)) := hb.alloc hz _
      have hs2 : w.heap.size ≤ (wr.alloc (.cells #[.string ⟨#[115, 112, 97, 114, 101]⟩, .int .u32 0] 92)).heap.size := by simp; omega
      have hnew : ∀ j u, (spareRow)[j]? = some u → (wr.alloc (.cells #[.string ⟨#[115, 112, 97, 114, 101]⟩, .int .u32 0] 92)).cell? ((⟨wr.heap.size, 0, none⟩ : Addr).add j) = some u := news_ofv spareRow _
      have fin : ∀ w2, (wr.alloc (.cells #[.string ⟨#[115, 112, 97, 114, 101]⟩, .int .u32 0] 92)).grownBy w2 (some w.heap.size) → Below w.heap.size w w2 := fun w2 hg => hb2.grown hg hs2 (fun j e => by cases e; exact Nat.le_refl _)
      clear h3 hown hb hb2
      go_wp2_with (at_builtin; refine wpList_append_fits _ rfl (.tmp 22) (.tmp 24) 87 rfl w.heap.size 92 i0 2 Tryz.underlying87 hi hz1 w.heap.size l.length (l.length + 1) _ rfl hown2 ⟨wr.heap.size, 0, none⟩ 1 1 spareRow rfl rfl hnew one_spareRow (by omega) ?_; intro w2 ho hg; have F := fin w2 hg)
      go_ret
      exact ⟨rfl, ho, F⟩

theorem cell_twRow {w : World} {base g cap : Nat} {l : List RowD} (h : w.ownsRow base 92 2 (.slice (some ⟨g, 0, none⟩) (l.length + 1) cap) (l.length + 1) (l.flatMap rowCells ++ spareRow)) :
    (∀ k (hk : k < l.length) j u, (rowCells (l[k]'hk))[j]? = some u → w.cell? ⟨g, k * 2 + j, none⟩ = some u) ∧ (∀ j u, spareRow[j]? = some u → w.cell? ⟨g, l.length * 2 + j, none⟩ = some u) ∧ l.length < cap ∧ cap ≤ maxLen := by
  have hlen : (l.flatMap rowCells).length = l.length * 2 := by
    have := h.1
    rw [List.length_append, Nat.add_mul] at this
    have e : (spareRow).length = 2 := rfl
    omega
  refine ⟨fun k hk j u hu => ?_, fun j u hu => ?_, ?_⟩
  · have hj : j < 2 := by
      rcases Nat.lt_or_ge j 2 with h' | h'
      · exact h'
      · rw [List.getElem?_eq_none (by exact h')] at hu; cases hu
    have hkj : k * 2 + j < l.length * 2 := by
      have : (k + 1) * 2 ≤ l.length * 2 := Nat.mul_le_mul_right _ hk
      omega
    have := h.cells (g := g) rfl (k * 2 + j) u (by rw [List.getElem?_append_left (by rw [hlen]; exact hkj), flat_get (size := 2) (fun _ => rfl) l k hk j hj]; exact hu)
    rw [Addr.add_lit] at this
    simpa using this
  · have := h.cells (g := g) rfl (l.length * 2 + j) u (by rw [List.getElem?_append_right (by rw [hlen]; omega), hlen, Nat.add_sub_cancel_left]; exact hu)
    rw [Addr.add_lit] at this
    simpa using this
  · obtain ⟨ao, c', e, h4, h5⟩ := own_len' h
    simp only [Value.slice.injEq, true_and] at e
    obtain ⟨-, rfl⟩ := e
    exact ⟨by omega, h5⟩

set_option maxHeartbeats 2000000 in
set_option maxRecDepth 1000000 in
theorem leftRow_any (w : World) (base g cap lim : Nat) (vl : Value) (l : List RowD) (ht : w.ownsRow base 92 2 (.slice (some ⟨g, 0, none⟩) (l.length + 1) cap) (l.length + 1) (l.flatMap rowCells ++ spareRow)) (hl : SlAt 2 rowCells w lim vl l) :
    Calls Tryz.prog 165 #[.slice (some ⟨g, 0, none⟩) l.length cap, vl] w fun e w' => e = .returned (.bool true) ∧ Below w.heap.size w w' := by
  obtain ⟨t1, t2, t3, t4⟩ := cell_twRow ht
  obtain ⟨bo, cb, rfl, hb1, hb2, hb3⟩ := hl
  unfold maxLen at hb2 t4
  have s0 := t2 0 _ rfl
  have s1 := t2 1 _ rfl
  simp only [Nat.add_zero] at s0
  clear t2 ht
  have hcap : (l.length : Int) < (cap : Int) := by omega
  go_enter Tryz.func165, Tryz.ntmps165
  go_wp2
  go_loopw [5] (fun i wr => ∃ k n : Nat, k ≤ l.length ∧ i = .int .i64 k ∧ wr = w.drewN n) (fun i _ => l.length - (intOf i).toNat)
  case atStart => exact ⟨0, 0, by omega, rfl, rfl⟩
  case round =>
    obtain ⟨k, n, hk, rfl, rfl⟩ := hrel
    by_cases h1 : k < l.length
    · obtain ⟨b2, o2, rfl, hl2, hc2⟩ := hb3 (by omega)
      obtain ⟨x, hx⟩ : ∃ x, x = l[k]'h1 := ⟨_, rfl⟩
      have p : ∀ j u, (rowCells x)[j]? = some u → w.cell? ⟨g, k * 2 + j, none⟩ = some u := fun j u hu => t1 k h1 j u (by rw [← hx]; exact hu)
      have q : ∀ j u, (rowCells x)[j]? = some u → w.cell? ⟨b2, o2 + k * 2 + j, none⟩ = some u := fun j u hu => hc2 k h1 j u (by rw [← hx]; exact hu)
      have p0 := p 0 _ rfl
      have q0 := q 0 _ rfl
      have p1 := p 1 _ rfl
      have q1 := q 1 _ rfl
      simp only [Nat.add_zero] at p0 q0
      clear p q hx hc2 hb3 t1 s0 s1
      have i1 : (k : Int) < (l.length : Int) := by omega
      go_wp2
      go_quiet (fail)
      go_wp2
      go_roundw
      case rel => exact ⟨k + 1, _, by omega, by go_num, rfl⟩
      case measure => simp [intOf]; omega
    · obtain rfl : k = l.length := by omega
      clear hb3 t1
      have bW := below_drewN w n
      rw [show w.cell? = (w.drewN n).cell? from rfl] at s0
      rw [show w.cell? = (w.drewN n).cell? from rfl] at s1
      generalize w.drewN n = W at *
      go_wp2
      go_ret
      first | exact ⟨rfl, bW⟩ | exact ⟨rfl, bW.trans (((Below.refl _ _).alloc (Nat.le_refl _) _).mono bW.size)⟩

def rowSz (x : RowD) : Prop := x.key.size ≤ 140737488351232

set_option maxHeartbeats 2000000 in
set_option maxRecDepth 1000000 in
theorem sizeRow_any (w : World) (la : Nat) (va : Value) (l : List RowD) (ha : SlAt 2 rowCells w la va l) (hsm : ∀ x ∈ l, rowSz x) :
    Calls Tryz.prog 156 #[va] w fun e w' => (∃ z : Int, e = .returned (.int .i64 z) ∧ (l.length : Int) ≤ z) ∧ ∃ n, w' = w.drewN n := by
  obtain ⟨ao, ca, rfl, ha1, ha2, ha3⟩ := ha
  unfold maxLen at ha2
  go_enter Tryz.func156, Tryz.ntmps156
  go_wp2
  go_loopw [3, 4] (fun s i wr => ∃ (k n : Nat) (z : Int), k ≤ l.length ∧ i = .int .i64 k ∧ s = .int .i64 z ∧ (l.length : Int) ≤ z ∧ wr = w.drewN n) (fun _ i _ => l.length - (intOf i).toNat)
  case atStart => exact ⟨0, 0, _, by omega, rfl, rfl, Int.le_refl _, rfl⟩
  case round =>
    obtain ⟨k, n, z, hk, rfl, rfl, hzl, rfl⟩ := hrel
    by_cases h1 : k < l.length
    · by_cases h2 : z ≤ 1048576
      · obtain ⟨b1, o1, rfl, hl1, hc1⟩ := ha3 (by omega)
        obtain ⟨x, hx⟩ : ∃ x, x = l[k]'h1 := ⟨_, rfl⟩
        have hxs := hsm x (by rw [hx]; exact List.getElem_mem _)
        have p : ∀ j u, (rowCells x)[j]? = some u → w.cell? ⟨b1, o1 + k * 2 + j, none⟩ = some u := fun j u hu => hc1 k h1 j u (by rw [← hx]; exact hu)
        have p0 := p 0 _ rfl
        have p1 := p 1 _ rfl
        simp only [Nat.add_zero, Nat.mul_one] at p0
        have HS : Hid (rowSz x) := hxs
        clear p hx hc1 ha3 hxs
        have i1 : (k : Int) < (l.length : Int) := by omega
        go_wp2
        skip
        go_wp2
        go_roundw
        case rel =>
          have hS := HS.out
          unfold rowSz at hS
          refine ⟨k + 1, _, _, by omega, by go_num, rfl, ?_, rfl⟩
          try unfold wrap64
          try simp only [IntKind.wrap_i64]
          omega
        case measure => simp [intOf]; omega
      · clear ha3
        go_wp2
        go_ret
        exact ⟨⟨_, rfl, hzl⟩, n, rfl⟩
    · clear ha3
      go_wp2
      go_ret
      exact ⟨⟨_, rfl, hzl⟩, n, rfl⟩
end Go.Proofs.YtcgecdiaddcfkaaGreatDoor
/- The walks of a copy of a list of this kind (Change) in memory of its own, with a mark behind it, and of the look whether it is as it was. -/
set_option linter.unusedSimpArgs false
set_option linter.unusedVariables false
namespace Go.Proofs.YtcgecdiaddcfkaaGreatDoor
open Go.RowKit

def spareChange : List Value := [.string ⟨#[115, 112, 97, 114, 101]⟩, .int .u32 0, .bool false]
theorem info_twChange : (Tryz.prog.info? 144).map (fun i => (i.zero, i.size, i.bytes)) = some (some (.agg #[.string ⟨#[]⟩, .int .u32 0, .bool false]), 3, 24) := by kernel_rfl
theorem one_twChange (x : ChD) : ∀ u ∈ chCells x, u.oneCell' = true := by
  intro u hu
  simp [chCells] at hu
  rcases hu with rfl | rfl | rfl
  all_goals rfl
theorem one_spareChange : ∀ u ∈ spareChange, u.oneCell' = true := by
  intro u hu
  simp [spareChange] at hu
  rcases hu with rfl | rfl | rfl
  all_goals rfl
theorem flat_twChange (l : List ChD) (k : Nat) (h : k < l.length) : (l.take (k + 1)).flatMap chCells = (l.take k).flatMap chCells ++ chCells (l[k]'h) := by
  rw [List.take_add_one, List.getElem?_eq_getElem h, List.flatMap_append]; simp

theorem cell_twChange {w : World} {base g cap : Nat} {l : List ChD} (h : w.ownsRow base 144 3 (.slice (some ⟨g, 0, none⟩) (l.length + 1) cap) (l.length + 1) (l.flatMap chCells ++ spareChange)) :
    (∀ k (hk : k < l.length) j u, (chCells (l[k]'hk))[j]? = some u → w.cell? ⟨g, k * 3 + j, none⟩ = some u) ∧ (∀ j u, spareChange[j]? = some u → w.cell? ⟨g, l.length * 3 + j, none⟩ = some u) ∧ l.length < cap ∧ cap ≤ maxLen := by
  have hlen : (l.flatMap chCells).length = l.length * 3 := by
    have := h.1
    rw [List.length_append, Nat.add_mul] at this
    have e : (spareChange).length = 3 := rfl
    omega
  refine ⟨fun k hk j u hu => ?_, fun j u hu => ?_, ?_⟩
  · have hj : j < 3 := by
      rcases Nat.lt_or_ge j 3 with h' | h'
      · exact h'
      · rw [List.getElem?_eq_none (by exact h')] at hu; cases hu
    have hkj : k * 3 + j < l.length * 3 := by
      have : (k + 1) * 3 ≤ l.length * 3 := Nat.mul_le_mul_right _ hk
      omega
    have := h.cells (g := g) rfl (k * 3 + j) u (by rw [List.getElem?_append_left (by rw [hlen]; exact hkj), flat_get (size := 3) (fun _ => rfl) l k hk j hj]; exact hu)
    rw [Addr.add_lit] at this
    simpa using this
  · have := h.cells (g := g) rfl (l.length * 3 + j) u (by rw [List.getElem?_append_right (by rw [hlen]; omega), hlen, Nat.add_sub_cancel_left]; exact hu)
    rw [Addr.add_lit] at this
    simpa using this
  · obtain ⟨ao, c', e, h4, h5⟩ := own_len' h
    simp only [Value.slice.injEq, true_and] at e
    obtain ⟨-, rfl⟩ := e
    exact ⟨by omega, h5⟩

def chSz (x : ChD) : Prop := x.key.size ≤ 140737488351232

end Go.Proofs.YtcgecdiaddcfkaaGreatDoor
