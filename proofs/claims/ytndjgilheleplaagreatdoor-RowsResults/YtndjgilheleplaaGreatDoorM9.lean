/- Texts of this proof, laid into one. -/
import Derived.Test.YtndjgilheleplaaGreatDoorM7
import Derived.Test.YtndjgilheleplaaGreatDoorM4
import Derived.Test.YtndjgilheleplaaGreatDoorRBookM
import Derived.Deep.QuietTactic
import Derived.BigQuiet
import Derived.Laws.StructEq
import Derived.Test.YtndjgilheleplaaGreatDoorM1
/- The walks of a copy of a list of this kind (Byte) in memory of its own, with a mark behind it, and of the look whether it is as it was. -/
set_option linter.unusedSimpArgs false
set_option linter.unusedVariables false
namespace Go.Proofs.YtndjgilheleplaaGreatDoor
open Go.RowKit

def spareByte : List Value := [.int .u8 77]
theorem info_twByte : (Tryz.prog.info? 5).map (fun i => (i.zero, i.size, i.bytes)) = some (some (.int .u8 0), 1, 1) := by kernel_rfl
theorem one_twByte (x : UInt8) : ∀ u ∈ bCell x, u.oneCell' = true := by
  intro u hu
  simp [bCell] at hu
  subst hu
  all_goals rfl
theorem one_spareByte : ∀ u ∈ spareByte, u.oneCell' = true := by
  intro u hu
  simp [spareByte] at hu
  subst hu
  all_goals rfl
theorem flat_twByte (l : List UInt8) (k : Nat) (h : k < l.length) : (l.take (k + 1)).flatMap bCell = (l.take k).flatMap bCell ++ bCell (l[k]'h) := by
  rw [List.take_add_one, List.getElem?_eq_getElem h, List.flatMap_append]; simp

set_option maxHeartbeats 2000000 in
set_option maxRecDepth 1000000 in
theorem twinByte_any (w : World) (vl : Value) (l : List UInt8) (hl : SlAt 1 bCell w w.heap.size vl l) (hn : l.length ≤ 1000000) :
    Calls Tryz.prog 8 #[vl] w fun e w' => e = .returned (.slice (some ⟨w.heap.size, 0, none⟩) l.length (l.length + 1)) ∧ w'.ownsRow w.heap.size 5 1 (.slice (some ⟨w.heap.size, 0, none⟩) (l.length + 1) (l.length + 1)) (l.length + 1) (l.flatMap bCell ++ spareByte) ∧ Below w.heap.size w w' := by
  obtain ⟨i0, hi, hz0, hz1, hz2⟩ := info_parts info_twByte
  obtain ⟨ao, cap, rfl, h1, h2, h3⟩ := hl
  unfold maxLen at h2
  have hby : i0.bytes * (l.length + 1) ≤ 281474976710656 := by rw [hz2]; omega
  have hnm : l.length + 1 ≤ maxLen := by unfold maxLen; omega
  go_enter Tryz.func8, Tryz.ntmps8
  go_wp2_with (at_make; refine wpList_make_own _ rfl _ _ 27 rfl w.heap.size 5 i0 (.int .u8 0) 1 Tryz.underlying27 hi hz0 hz1 .i64 .i64 _ (l.length + 1) rfl rfl (by omega) hby hnm (Nat.le_refl _) ?_; intro w1 hown hgr; have b1 : Below w.heap.size w w1 := (Below.refl _ _).grown hgr (Nat.le_refl _) (fun k e => by cases e))
  go_loopw [3, 4] (fun vt i wr => ∃ k : Nat, k ≤ l.length ∧ i = .int .i64 k ∧ vt = .slice (some ⟨w.heap.size, 0, none⟩) k (l.length + 1) ∧ wr.ownsRow w.heap.size 5 1 (.slice (some ⟨w.heap.size, 0, none⟩) k (l.length + 1)) k ((l.take k).flatMap bCell) ∧ Below w.heap.size w wr) (fun _ i _ => l.length - (intOf i).toNat)
  case atStart => exact ⟨0, by omega, rfl, rfl, by simpa using hown, b1⟩
  case round =>
    clear hown b1 hgr
    obtain ⟨k, hk, rfl, rfl, hown, hb⟩ := hrel
    by_cases hkl : k < l.length
    · obtain ⟨b, off, rfl, hbl, hcell⟩ := h3 (by omega)
      obtain ⟨x, hx⟩ : ∃ x, x = l[k]'hkl := ⟨_, rfl⟩
      have cc : ∀ j u, (bCell x)[j]? = some u → wr.cell? ⟨b, off + k * 1 + j, none⟩ = some u := fun j u hu => (hb.cell (p := ⟨b, _, none⟩) hbl).trans (hcell k hkl j u (by rw [← hx]; exact hu))
      have c0 := cc 0 _ rfl
      simp only [Nat.mul_one, Nat.add_zero, bv] at c0
      have hE : Hid ((l.take (k + 1)).flatMap bCell = (l.take k).flatMap bCell ++ bCell x) := by show _ = _; rw [hx]; exact flat_twByte l k hkl
      have hz := hb.size
      have hown2 := hown.alloc (.cells (bCell x).toArray 5)
      have hb2 : Below w.heap.size w (wr.alloc (.cells (bCell x).toArray 5)) := hb.alloc hz _
      have hs2 : w.heap.size ≤ (wr.alloc (.cells (bCell x).toArray 5)).heap.size := by simp; omega
      have hnew : ∀ j u, (bCell x)[j]? = some u → (wr.alloc (.cells (bCell x).toArray 5)).cell? ((⟨wr.heap.size, 0, none⟩ : Addr).add j) = some u := news_ofv (bCell x) _
      have fin : ∀ w2, w2.ownsRow w.heap.size 5 1 (.slice (some ⟨w.heap.size, 0, none⟩) (k + 1) (l.length + 1)) (k + 1) ((l.take k).flatMap bCell ++ bCell x) → (wr.alloc (.cells (bCell x).toArray 5)).grownBy w2 (some w.heap.size) →
          w2.ownsRow w.heap.size 5 1 (.slice (some ⟨w.heap.size, 0, none⟩) (k + 1) (l.length + 1)) (k + 1) ((l.take (k + 1)).flatMap bCell) ∧ Below w.heap.size w w2 := by
        intro w2 ho hg
        refine ⟨by rw [hE.out]; exact ho, hb2.grown hg hs2 (fun j e => by cases e; exact Nat.le_refl _)⟩
      have i1 : (k : Int) < (l.length : Int) := by omega
      clear cc hx hcell hown hb hb2
      go_wp2_with (at_builtin; refine wpList_append_fits _ rfl (.tmp 15) (.tmp 20) 27 rfl w.heap.size 5 i0 1 Tryz.underlying27 hi hz1 w.heap.size k (l.length + 1) _ rfl hown2 ⟨wr.heap.size, 0, none⟩ 1 1 (bCell x) rfl rfl hnew (one_twByte x) (by omega) ?_; intro w2 ho hg; have F := fin w2 ho hg)
      obtain ⟨F1, F2⟩ := F
      clear fin
      go_roundw
      case rel => exact ⟨k + 1, by omega, by go_num, rfl, F1, F2⟩
      case measure => simp [intOf]; omega
    · obtain rfl : k = l.length := by omega
      rw [List.take_of_length_le (Nat.le_refl _)] at hown
      have hz := hb.size
      have hown2 := hown.alloc (.cells #[.int .u8 77] 5)
      have hb2 : Below w.heap.size w (wr.alloc (.cells #[.int .u8 77] 5)) := hb.alloc hz _
      have hs2 : w.heap.size ≤ (wr.alloc (.cells #[.int .u8 77] 5)).heap.size := by simp; omega
      have hnew : ∀ j u, (spareByte)[j]? = some u → (wr.alloc (.cells #[.int .u8 77] 5)).cell? ((⟨wr.heap.size, 0, none⟩ : Addr).add j) = some u := news_ofv spareByte _
      have fin : ∀ w2, (wr.alloc (.cells #[.int .u8 77] 5)).grownBy w2 (some w.heap.size) → Below w.heap.size w w2 := fun w2 hg => hb2.grown hg hs2 (fun j e => by cases e; exact Nat.le_refl _)
      clear h3 hown hb hb2
      go_wp2_with (at_builtin; refine wpList_append_fits _ rfl (.tmp 22) (.tmp 23) 27 rfl w.heap.size 5 i0 1 Tryz.underlying27 hi hz1 w.heap.size l.length (l.length + 1) _ rfl hown2 ⟨wr.heap.size, 0, none⟩ 1 1 spareByte rfl rfl hnew one_spareByte (by omega) ?_; intro w2 ho hg; have F := fin w2 hg)
      go_ret
      exact ⟨rfl, ho, F⟩

theorem cell_twByte {w : World} {base g cap : Nat} {l : List UInt8} (h : w.ownsRow base 5 1 (.slice (some ⟨g, 0, none⟩) (l.length + 1) cap) (l.length + 1) (l.flatMap bCell ++ spareByte)) :
    (∀ k (hk : k < l.length) j u, (bCell (l[k]'hk))[j]? = some u → w.cell? ⟨g, k * 1 + j, none⟩ = some u) ∧ (∀ j u, spareByte[j]? = some u → w.cell? ⟨g, l.length * 1 + j, none⟩ = some u) ∧ l.length < cap ∧ cap ≤ maxLen := by
  have hlen : (l.flatMap bCell).length = l.length * 1 := by
    have := h.1
    rw [List.length_append, Nat.add_mul] at this
    have e : (spareByte).length = 1 := rfl
    omega
  refine ⟨fun k hk j u hu => ?_, fun j u hu => ?_, ?_⟩
  · have hj : j < 1 := by
      rcases Nat.lt_or_ge j 1 with h' | h'
      · exact h'
      · rw [List.getElem?_eq_none (by exact h')] at hu; cases hu
    have hkj : k * 1 + j < l.length * 1 := by
      have : (k + 1) * 1 ≤ l.length * 1 := Nat.mul_le_mul_right _ hk
      omega
    have := h.cells (g := g) rfl (k * 1 + j) u (by rw [List.getElem?_append_left (by rw [hlen]; exact hkj), flat_get (size := 1) (fun _ => rfl) l k hk j hj]; exact hu)
    rw [Addr.add_lit] at this
    simpa using this
  · have := h.cells (g := g) rfl (l.length * 1 + j) u (by rw [List.getElem?_append_right (by rw [hlen]; omega), hlen, Nat.add_sub_cancel_left]; exact hu)
    rw [Addr.add_lit] at this
    simpa using this
  · obtain ⟨ao, c', e, h4, h5⟩ := own_len' h
    simp only [Value.slice.injEq, true_and] at e
    obtain ⟨-, rfl⟩ := e
    exact ⟨by omega, h5⟩

set_option maxHeartbeats 2000000 in
set_option maxRecDepth 1000000 in
theorem leftByte_any (w : World) (base g cap lim : Nat) (vl : Value) (l : List UInt8) (ht : w.ownsRow base 5 1 (.slice (some ⟨g, 0, none⟩) (l.length + 1) cap) (l.length + 1) (l.flatMap bCell ++ spareByte)) (hl : SlAt 1 bCell w lim vl l) :
    Calls Tryz.prog 18 #[.slice (some ⟨g, 0, none⟩) l.length cap, vl] w fun e w' => e = .returned (.bool true) ∧ Below w.heap.size w w' := by
  obtain ⟨t1, t2, t3, t4⟩ := cell_twByte ht
  obtain ⟨bo, cb, rfl, hb1, hb2, hb3⟩ := hl
  unfold maxLen at hb2 t4
  have s0 := t2 0 _ rfl
  simp only [Nat.mul_one, Nat.add_zero] at s0
  clear t2 ht
  have hcap : (l.length : Int) < (cap : Int) := by omega
  go_enter Tryz.func18, Tryz.ntmps18
  go_wp2
  go_loopw [5] (fun i wr => ∃ k n : Nat, k ≤ l.length ∧ i = .int .i64 k ∧ wr = w.drewN n) (fun i _ => l.length - (intOf i).toNat)
  case atStart => exact ⟨0, 0, by omega, rfl, rfl⟩
  case round =>
    obtain ⟨k, n, hk, rfl, rfl⟩ := hrel
    by_cases h1 : k < l.length
    · obtain ⟨b2, o2, rfl, hl2, hc2⟩ := hb3 (by omega)
      obtain ⟨x, hx⟩ : ∃ x, x = l[k]'h1 := ⟨_, rfl⟩
      have p : ∀ j u, (bCell x)[j]? = some u → w.cell? ⟨g, k * 1 + j, none⟩ = some u := fun j u hu => t1 k h1 j u (by rw [← hx]; exact hu)
      have q : ∀ j u, (bCell x)[j]? = some u → w.cell? ⟨b2, o2 + k * 1 + j, none⟩ = some u := fun j u hu => hc2 k h1 j u (by rw [← hx]; exact hu)
      have p0 := p 0 _ rfl
      have q0 := q 0 _ rfl
      simp only [Nat.mul_one, Nat.add_zero, bv] at p0 q0
      clear p q hx hc2 hb3 t1 s0
      have i1 : (k : Int) < (l.length : Int) := by omega
      go_wp2
      go_quiet (fail)
      go_wp2
      go_roundw
      case rel => exact ⟨k + 1, _, by omega, by go_num, rfl⟩
      case measure => simp [intOf]; omega
    · obtain rfl : k = l.length := by omega
      clear hb3 t1
      have bW := below_drewN w n
      rw [show w.cell? = (w.drewN n).cell? from rfl] at s0
      generalize w.drewN n = W at *
      go_wp2
      go_ret
      first | exact ⟨rfl, bW⟩ | exact ⟨rfl, bW.trans (((Below.refl _ _).alloc (Nat.le_refl _) _).mono bW.size)⟩
end Go.Proofs.YtndjgilheleplaaGreatDoor
/- The walks of the document's own Check and Reserved, and of Beyond. -/
set_option linter.unusedSimpArgs false
set_option linter.unusedVariables false
namespace Go.Proofs.YtndjgilheleplaaGreatDoor
open Go.RowKit

theorem mayB_no {c : Nat} (h : mayB c = false) : c < 48 ∨ (57 < c ∧ c < 95) ∨ c = 96 ∨ 122 < c := by
  rw [Bool.eq_false_iff, Ne, mayB_iff] at h; omega

set_option maxHeartbeats 1000000 in
set_option maxRecDepth 1000000 in
theorem refCheck_any (s : ByteArray) (w : World) (hs : s.size ≤ maxLen) :
    Calls Tryz.prog 62 #[.string s] w fun e w' => e = .returned (.bool (chk s)) ∧ w' = w := by
  unfold maxLen at hs
  go_enter Tryz.func62, Tryz.ntmps62
  go_wp2
  go_loop [3, 4] (fun i _ => ∃ k : Nat, k ≤ s.size ∧ i = .int .i64 k ∧ Hid (∀ j (h : j < s.size), j < k → mayB (s[j]'h).toNat = true)) (fun i _ => s.size - (intOf i).toNat)
  case atStart => exact ⟨0, Nat.zero_le _, rfl, fun i _ hi => absurd hi (Nat.not_lt_zero _)⟩
  case round =>
    obtain ⟨k, hk, rfl, hall⟩ := hrel
    by_cases hlt : k < s.size
    · by_cases hc : mayB (s[k]'hlt).toNat = true
      · have hall2 : Hid (∀ j (h : j < s.size), j < k + 1 → mayB (s[j]'h).toNat = true) := fun j h hj => by
          by_cases e : j = k
          · subst e; exact hc
          · exact hall.out j h (by omega)
        have hcc := (mayB_iff _).mp hc
        clear hall hc
        rcases hcc with ⟨a, b⟩ | ⟨a, b⟩ | a
        all_goals
          go_wp2
          go_round
          case rel => exact ⟨k + 1, by omega, by go_num, hall2⟩
          case measure => simp [intOf]; omega
      · rw [Bool.not_eq_true] at hc
        have H := chk_bad s k hlt hc
        have hcc := mayB_no hc
        have hne : (((s[k]'hlt).toNat : Int) != 95) = true := by simp; omega
        clear hall hc
        rcases hcc with a | ⟨a, b⟩ | a | a
        all_goals
          go_wp2
          go_ret
          exact ⟨rfl, rfl⟩
    · have H : Hid (chk s = (decide (1 ≤ s.size) && decide (s.size ≤ 16))) := by
        show _ = _
        unfold chk
        rw [(all_iff s).mpr (fun i h => hall.out i h (by omega)), Bool.and_true]
      clear hall
      by_cases h1 : 1 ≤ s.size
      · by_cases h2 : s.size ≤ 16
        · go_wp2
          go_ret
          exact ⟨by rw [H.out]; simp [h1, h2]; try omega, rfl⟩
        · go_wp2
          go_ret
          exact ⟨by rw [H.out]; simp [h1, h2]; try omega, rfl⟩
      · go_wp2
        go_ret
        exact ⟨by rw [H.out]; simp [h1]; try omega, rfl⟩
end Go.Proofs.YtndjgilheleplaaGreatDoor
/- The walks of the document's own Count, Number and text: a count, a number, a text as bytes. -/
set_option linter.unusedSimpArgs false
set_option linter.unusedVariables false
namespace Go.Proofs.YtndjgilheleplaaGreatDoor
open Go.RowKit

theorem bs_lit (w : World) (bs : List UInt8) (vs : List Value) (h : vs = bcells bs) (n : Nat) (hn : bs.length = n) (hm : n ≤ maxLen) : BsAt (w.alloc (.cells vs.toArray 5)) w.heap.size (.slice (some ⟨w.heap.size, 0, none⟩) n n) bs := by
  subst h hn
  unfold BsAt
  have := World.ownsRow_lit (base := w.heap.size) (e := 5) (size := 1) w (bcells bs).toArray bs.length (Nat.le_refl _) hm (by simp [bcells_len])
  simpa using this

set_option maxHeartbeats 2000000 in
set_option maxRecDepth 1000000 in
theorem refCount_any (w : World) (n : Nat) (hn : n < 65536) :
    Calls Tryz.prog 53 #[.int .i64 (n : Int)] w fun e w' => ∃ v, e = .returned v ∧ BsAt w' w.heap.size v (be2 n) ∧ Below w.heap.size w w' := by
  have h := bs_lit w (be2 n) [Value.int .u8 ((n : Int) / 256), Value.int .u8 ((n : Int) % 256)] (be2_cells hn) 2 rfl (by decide)
  have b := below_one w (.cells #[Value.int .u8 ((n : Int) / 256), Value.int .u8 ((n : Int) % 256)] 5)
  go_enter Tryz.func53, Tryz.ntmps53
  go_wp2
  go_ret
  exact ⟨_, rfl, h, b⟩

set_option maxHeartbeats 2000000 in
set_option maxRecDepth 1000000 in
theorem refNumber_any (w : World) (x : UInt32) :
    Calls Tryz.prog 55 #[.int .u32 (x.toNat : Int)] w fun e w' => ∃ v, e = .returned v ∧ BsAt w' w.heap.size v (be4 x.toNat) ∧ Below w.heap.size w w' := by
  have hx := u32_lt x
  obtain ⟨n, hn⟩ : ∃ n, n = x.toNat := ⟨_, rfl⟩
  rw [← hn] at hx ⊢
  clear hn
  have h := bs_lit w (be4 n) [Value.int .u8 ((n : Int) / 16777216 % 256), Value.int .u8 ((n : Int) / 65536 % 256), Value.int .u8 ((n : Int) / 256 % 256), Value.int .u8 ((n : Int) % 256)] (be4_cells hx) 4 rfl (by decide)
  have b := below_one w (.cells #[Value.int .u8 ((n : Int) / 16777216 % 256), Value.int .u8 ((n : Int) / 65536 % 256), Value.int .u8 ((n : Int) / 256 % 256), Value.int .u8 ((n : Int) % 256)] 5)
  clear hx
  go_enter Tryz.func55, Tryz.ntmps55
  go_wp2
  go_ret
  exact ⟨_, rfl, h, b⟩

set_option maxHeartbeats 2000000 in
set_option maxRecDepth 1000000 in
theorem refText_any (w : World) (s : ByteArray) (hz : s.size < 256) :
    Calls Tryz.prog 54 #[.string s] w fun e w' => ∃ v, e = .returned v ∧ BsAt w' w.heap.size v (txt s) ∧ Below w.heap.size w w' := by
  obtain ⟨i0, hi, hz0, hz1, hz2⟩ := info_parts info_u8
  have h : BsAt (w.alloc (.cells #[.int .u8 (s.size : Int)] 5)) w.heap.size (.slice (some ⟨w.heap.size, 0, none⟩) 1 1) [UInt8.ofNat s.size] := bs_lit w [UInt8.ofNat s.size] [.int .u8 (s.size : Int)] (by simp [bcells, bv, u8_nat hz]) 1 rfl (by decide)
  have b := below_one w (.cells #[.int .u8 (s.size : Int)] 5)
  have hs : w.heap.size ≤ (w.alloc (.cells #[.int .u8 (s.size : Int)] 5)).heap.size := by simp
  have fin : ∀ v' w1, w1.ownsRow w.heap.size 5 1 v' (1 + s.size) (bcells [UInt8.ofNat s.size] ++ byteCells s) → (w.alloc (.cells #[.int .u8 (s.size : Int)] 5)).grownBy w1 (Value.ownBlock (.slice (some ⟨w.heap.size, 0, none⟩) 1 1)) → BsAt w1 w.heap.size v' (txt s) ∧ Below w.heap.size w w1 := by
    intro v' w1 ho hg
    refine ⟨?_, b.grown hg hs (fun k e => own_row_ge h k e)⟩
    unfold BsAt
    rw [txt_len]
    have e : bcells (txt s) = bcells [UInt8.ofNat s.size] ++ byteCells s := by rw [byteCells_eq, ← bcells_app]; rfl
    rw [e, Nat.add_comm]
    exact ho
  have HL : s.size ≤ 300 := by omega
  go_enter Tryz.func54, Tryz.ntmps54
  go_wp2_with (at_builtin; refine wpList_append_own_src _ rfl (.tmp 6) (.tmp 7) 27 9 rfl w.heap.size 5 i0 (.int .u8 0) 1 1 Tryz.underlying27 hi hz0 hz1 hz2 rfl (by decide) _ 1 _ rfl h (.string s) s.size (byteCells s) rfl (Src.ofString _ Tryz.underlying9 s) (by unfold maxLen; omega) (by omega) hs ?_; intro v' w1 hown1 hg _; have R := fin v' w1 hown1 hg)
  go_ret
  exact ⟨_, rfl, R⟩

/-- What is appended to bytes that are owned: other bytes that are owned. -/
theorem src_own {w : World} {base : Nat} {v : Value} {bs : List UInt8} (h : BsAt w base v bs) (hp : 0 < bs.length) : ∃ g cap, v = .slice (some ⟨g, 0, none⟩) bs.length cap ∧ Src Tryz.prog 1 27 (.slice (some ⟨g, 0, none⟩) bs.length cap) bs.length (bcells bs) w := by
  obtain ⟨g, cap, hv, _, _⟩ := h.form hp
  subst hv
  exact ⟨g, cap, rfl, Src.ofSlice _ Tryz.underlying27 ⟨g, 0, none⟩ bs.length cap (bcells bs) (by rw [bcells_len]; omega) (World.ownsRow.cells h rfl) (bcells_one _)⟩
theorem bs_next {w W w1 : World} {H : Nat} {v v' : Value} {bs news : List UInt8} (h : BsAt W H v bs) (hB : Below H w W) (hs : H ≤ W.heap.size) (ho : w1.ownsRow H 5 1 v' (bs.length + news.length) (bcells bs ++ bcells news)) (hg : W.grownBy w1 v.ownBlock) : BsAt w1 H v' (bs ++ news) ∧ Below H w w1 := by
  refine ⟨?_, hB.grown hg hs (fun k e => own_row_ge h k e)⟩
  unfold BsAt
  rw [List.length_append, bcells_app]; exact ho
end Go.Proofs.YtndjgilheleplaaGreatDoor
