/- Texts of this proof, laid into one. -/
import Derived.Test.YtcgecdiaddcfkaaGreatDoorRBook2M
import Derived.Test.YtcgecdiaddcfkaaGreatDoorShelf
import Derived.Lib.ItoaMem
import Derived.Lib.Walk
import Derived.WalkKit
import Derived.WalkSpells
import Derived.WalkLawsBesides
import Derived.Below
import Derived.Test.YtcgecdiaddcfkaaGreatDoorM6
import Derived.Deep.RegionWith
/- A number as a word: the walk of word; the table of powers of ten. -/
set_option linter.unusedSimpArgs false
set_option linter.unusedVariables false
namespace Go.Proofs.YtcgecdiaddcfkaaGreatDoor
open Go.RowKit Go.Shelf Go.Sort Go.Lib

/-- The table of powers of ten is as the program's text lays it. -/
abbrev Tab (w : World) : Prop := Lib.TabIs Tryz.prog w "internal/strconv.uint64pow10" .u64 Lib.pow10Tab
theorem tab_block {w w' : World} (h : Tab w) (hb : ∀ b, b < w.heap.size → Tryz.prog.globalNamed "internal/strconv.uint64pow10" = some b → w'.heap[b]? = w.heap[b]?) : Tab w' := by
  unfold Tab Lib.TabIs World.var? at *
  cases hg : Tryz.prog.globalNamed "internal/strconv.uint64pow10" with
  | none => simp [hg] at h
  | some g =>
    simp only [hg, Option.bind_some] at h ⊢
    have hlt : g < w.heap.size := by
      rcases Nat.lt_or_ge g w.heap.size with h' | h'
      · exact h'
      · rw [Array.getElem?_eq_none h'] at h; simp at h
    rw [hb g hlt hg]
    exact h
theorem tab_below {w w' : World} (h : Tab w) (hb : Below w.heap.size w w') : Tab w' := tab_block h (fun b hlt _ => hb.block b hlt)
theorem below_growN (w : World) (k : Nat) (os : Array Obj) : Below w.heap.size w (grow (w.drewN k) os) := by
  refine ⟨rfl, rfl, rfl, ?_, ?_⟩
  · show w.heap.size ≤ (w.heap ++ os).size
    simp
  · intro j hj
    show (w.heap ++ os)[j]? = w.heap[j]?
    rw [Array.getElem?_append_left hj]

theorem nDigits_small {g : Nat} (h : g < 4294967296) : Lib.nDigits g ≤ 20 := by
  rcases Nat.eq_zero_or_pos g with rfl | h1
  · rw [← Lib.decDigits_length, Lib.decDigits_one (by omega)]; simp
  · have := Lib.numDigits_eq g h1 (by omega); split at this <;> omega
def wordB (n : Nat) : ByteArray := ⟨#[35]⟩ ++ ⟨(Lib.itoa (n : Int)).toArray⟩

set_option maxHeartbeats 1000000 in
set_option maxRecDepth 1000000 in
theorem word_any (n : Nat) (hn : n ≤ 1000000000) (w : World) (htab : Tab w) :
    Calls Tryz.prog 167 #[.int .i64 (n : Int)] w fun e w' => e = .returned (.string (wordB n)) ∧ Below w.heap.size w w' := by
  have k0 := Proofs.Tryz.strconv_Itoa (n : Int) (by omega) (by omega) w htab
  have k := k0.mono (fun e w' ⟨h1, j, os, h2⟩ => (⟨h1, h2 ▸ below_growN w j os⟩ : e = _ ∧ Below w.heap.size w w'))
  clear k0
  have hl : (ByteArray.mk (Lib.itoa (n : Int)).toArray).size ≤ 20 := by
    show (Lib.itoa (n : Int)).toArray.size ≤ 20
    rw [List.size_toArray, Lib.itoa_nonneg, Lib.decDigits_length]; exact nDigits_small (by omega)
  unfold wordB
  generalize hS : ByteArray.mk (Lib.itoa (n : Int)).toArray = S at *
  clear hS
  go_enter Tryz.func167, Tryz.ntmps167
  go_wp2_with fail
  refine k.mono ?_
  rintro e w' ⟨rfl, hb⟩
  go_wp2
  go_ret
  exact ⟨rfl, hb⟩
end Go.Proofs.YtcgecdiaddcfkaaGreatDoor
/- The walk of strconv.FormatUint at base 10: a number's decimal numeral. -/
set_option linter.unusedSimpArgs false
set_option linter.unusedVariables false
namespace Go.Proofs.YtcgecdiaddcfkaaGreatDoor
open Go.Shelf Go.RowKit Go.Sort Go.Lib

theorem holds_zero0 (w : World) (T : TypeId) (nd : Nat) (hs : nd ≤ 24) : Holds (fun (b : UInt8) => Value.int .u8 (b.toNat : Int)) (w.alloc (.cells zeros24 T)) w.heap.size 0 (Array.replicate nd (0 : UInt8)) := fun j hj => by
  have hj' : j < nd := by simpa using hj
  refine ⟨?_, World.frozen?_alloc_new _ _ _ _⟩
  rw [World.cell?_alloc_new, zeros24_at _ (by omega), getElem!_pos _ j hj]
  simp

set_option maxHeartbeats 6400000 in
set_option maxRecDepth 1000000 in
theorem fmtInner (u : Nat) (w : World) (hu64 : u < 18446744073709551616) (htab : Tab w) :
    Calls Tryz.prog 108 #[.int .u64 u, .int .i64 10] w fun e w' => e = .returned (.string ⟨(Lib.decDigits u).toArray⟩) ∧ Below w.heap.size w w' := by
  by_cases hs : u < 100
  · have k := Proofs.Tryz.internal_strconv_small u hs w
    go_enter Tryz.func108, Tryz.ntmps108
    go_wp2_with fail
    refine k.mono ?_
    rintro e w' ⟨rfl, rfl⟩
    go_wp2
    go_ret
    exact ⟨rfl, Below.refl _ _⟩
  · have hu1 : 1 ≤ u := by omega
    have hnd20 : Lib.nDigits u ≤ 20 := by have := Lib.numDigits_eq u hu1 hu64; split at this <;> omega
    have hal : Tryz.prog.arrayLen 202 = 24 := by simp [Program.arrayLen, Tryz.underlying202]
    have hsl : ∀ W, (Instr.sliceAt 202 (.pointer (some ⟨w.heap.size, 0, none⟩)) none (some (.int .i64 (Lib.nDigits u : Int))) none).run Tryz.prog W = .ok (.slice (some ⟨w.heap.size, 0, none⟩) (Lib.nDigits u) 24) W := fun W => by
      rw [run_sliceAt_array_h W 202 ⟨w.heap.size, 0, none⟩ (by simp [Program.arrayLen, Program.elem, Tryz.underlying202]) .i64 (Lib.nDigits u : Int) (by omega) (by rw [hal]; omega)]
      go_simp
    have hH0 := holds_zero0 w 202 (Lib.nDigits u) (by omega)
    have hfmt := Proofs.Tryz.internal_strconv_formatBase10 w.heap.size 0 24 u (Array.replicate (Lib.nDigits u) 0) (w.alloc (.cells Lib.zeros24 202)) hH0 (by rw [Array.size_replicate]; exact Lib.lt_pow_nDigits u) hu64 (by rw [Array.size_replicate]; omega)
    rw [Array.size_replicate] at hfmt
    have HH0 := Lib.hid hH0
    have hnum := Proofs.Tryz.internal_strconv_numDigits u hu1 hu64 (w.alloc (.cells Lib.zeros24 202)) (Lib.tabIs_alloc htab _)
    clear hH0 hal
    go_enter Tryz.func108, Tryz.ntmps108
    go_wp2_with fail
    refine hnum.mono ?_
    rintro e w' ⟨rfl, rfl⟩
    go_wp2_with fail
    refine hfmt.mono ?_
    rintro e w' ⟨rfl, k, v', dk, rfl, hF⟩
    have hcv : (convert 30 9 (.slice (some ⟨w.heap.size, 0, none⟩) (Lib.nDigits u) 24)).run Tryz.prog ((putRow (fun (b : UInt8) => Value.int .u8 (b.toNat : Int)) (w.alloc (.cells Lib.zeros24 202)) w.heap.size 0 dk).drewN k) = .ok (.string ⟨(Lib.decDigits u).toArray⟩) ((putRow (fun (b : UInt8) => Value.int .u8 (b.toNat : Int)) (w.alloc (.cells Lib.zeros24 202)) w.heap.size 0 dk).drewN k) := by
      have h := run_convert_bytes_back (P := Tryz.prog) ((putRow (fun (b : UInt8) => Value.int .u8 (b.toNat : Int)) (w.alloc (.cells Lib.zeros24 202)) w.heap.size 0 dk).drewN k) 30 9 5 ⟨w.heap.size, 0, none⟩ 24 (Lib.decDigits u) Tryz.underlying30 Tryz.underlying5 Tryz.underlying9 (fun j hj => by
        rw [Lib.row_is_numeral hF j hj, Lib.add_plain, World.cell?_drewN]
        exact cell?_putRow (fun (b : UInt8) => Value.int .u8 (b.toNat : Int)) _ w.heap.size 0 _ dk HH0.out (by rw [hF.size, Array.size_replicate]) j (by rw [hF.size]; rw [Lib.decDigits_length] at hj; exact hj))
      rw [Lib.decDigits_length] at h
      exact h
    go_wp2
    go_ret
    refine ⟨rfl, ?_⟩
    rw [alloc_eq_grow]
    obtain ⟨os', _, e⟩ := putRow_grow_new (fun (b : UInt8) => Value.int .u8 (b.toNat : Int)) w #[.cells Lib.zeros24 202] w.heap.size 0 dk (Nat.le_refl _)
    rw [e]
    exact below_growN w k os'

set_option maxHeartbeats 1000000 in
set_option maxRecDepth 1000000 in
theorem fmt_any (u : Nat) (w : World) (hu64 : u < 18446744073709551616) (htab : Tab w) :
    Calls Tryz.prog 36 #[.int .u64 u, .int .i64 10] w fun e w' => e = .returned (.string ⟨(Lib.decDigits u).toArray⟩) ∧ Below w.heap.size w w' := by
  have k := fmtInner u w hu64 htab
  go_enter Tryz.func36, Tryz.ntmps36
  go_wp2_with fail
  refine k.mono ?_
  rintro e w' ⟨rfl, hb⟩
  go_wp2
  go_ret
  exact ⟨rfl, hb⟩
end Go.Proofs.YtcgecdiaddcfkaaGreatDoor
/- The walks of a book's lists of bytes. -/
set_option linter.unusedSimpArgs false
set_option linter.unusedVariables false
namespace Go.Proofs.YtcgecdiaddcfkaaGreatDoor
open Go.RowKit

theorem below_drew (w : World) : Below w.heap.size w w.drew := ⟨rfl, rfl, rfl, Nat.le_refl _, fun _ _ => rfl⟩
theorem triple_cell {w : World} {R : Nat} {a b c : Value} {t : TypeId} (h : w.heap[R]? = some (.cells #[a, b, c] t (0, 0))) : w.cell? ⟨R, 0, none⟩ = some a ∧ w.cell? ⟨R, 1, none⟩ = some b ∧ w.cell? ⟨R, 2, none⟩ = some c := by simp [World.cell?, h]
def mkByte (n : Nat) : List Value := [.int .u8 (1 + (n : Int) % 250)]
theorem mkByte_len (n : Nat) : (mkByte n).length = 1 := rfl

set_option maxHeartbeats 1000000 in
set_option maxRecDepth 1000000 in
theorem markByte_any (w : World) (n : Nat) (hn : n ≤ 1000000000) :
    Calls Tryz.prog 113 #[.int .i64 (n : Int)] w fun e w' => e = .returned (.int .u8 (1 + (n : Int) % 250)) ∧ w' = w := by
  go_enter Tryz.func113, Tryz.ntmps113
  go_wp2
  go_ret
  exact ⟨rfl, rfl⟩

set_option maxHeartbeats 2000000 in
set_option maxRecDepth 1000000 in
theorem fillByte_any (w : World) (bk : Nat) (v : Value) (E : List Ent) (hb : w.cell? ⟨bk, 1, none⟩ = some v) (hbk : bk < w.heap.size) (hD : ¬ LD E bk) (h : KAt w 114 5 1 v E) :
    Calls Tryz.prog 43 #[ptr bk] w fun e w' => e = .returned (.tuple #[]) ∧ FAt w' 114 5 1 mkByte v E ∧ Wrote (LD E) w w' := by
  have hfew := h.few
  go_enter Tryz.func43, Tryz.ntmps43
  go_wp2
  go_loopw [2] (fun i wr => ∃ k : Nat, k ≤ E.length ∧ i = .int .i64 k ∧ FIn w wr 5 1 mkByte E k 0) (fun i _ => E.length - (intOf i).toNat)
  case atStart => exact ⟨0, by omega, rfl, FIn.start mkByte h⟩
  case round =>
    obtain ⟨k, hk, rfl, hF⟩ := hrel
    have hb1 : wr.cell? ⟨bk, 1, none⟩ = some v := (hF.wrote.cell (p := ⟨bk, 1, none⟩) hbk hD).trans hb
    obtain ⟨ao, cap, rfl, hc1, hc2⟩ := own_len' h.held
    unfold maxLen at hc2
    by_cases h1 : k < E.length
    · obtain ⟨x, hx⟩ : ∃ x, E[k]? = some x := ⟨E[k]'h1, by simp [h1]⟩
      have hheld : wr.ownsRow 0 114 3 (.slice ao E.length cap) E.length (E.flatMap entCells) := own_wrote h.held hF.wrote (fun b hb hd => h.off b hd hb)
      obtain ⟨g, cap', e1, -, -, c0, c1, c2, -⟩ := held_cell hheld hx
      simp only [Value.slice.injEq, true_and] at e1
      obtain ⟨rfl, rfl⟩ := e1
      obtain ⟨ao, cp, hxl, hl1, hl2⟩ := hF.row hx
      rw [hxl] at c0
      have i1 : (k : Int) < (E.length : Int) := by omega
      have hlong := h.fresh x (List.mem_of_getElem? hx)
      rw [hlong] at c1
      have hN := (h.rows x (List.mem_of_getElem? hx)).2.1
      have hltw : ∀ b, LD E b → b < w.heap.size := fun b hb => h.lt (.inr hb)
      have hsz := hF.wrote.size
      obtain ⟨wO, hO⟩ : ∃ x, x = wr := ⟨_, rfl⟩
      subst hO
      go_wp2
      go_loopw [4] (fun j wq => ∃ q : Nat, q ≤ x.len ∧ j = .int .i64 q ∧ FIn w wq 5 1 mkByte E k q ∧ wO.heap.size < wq.heap.size ∧ wq.heap[wO.heap.size]? = some (.cells #[.slice ao x.len cp, .slice none 0 0, .int .i64 (x.n : Int)] 114 (0, 0))) (fun j _ => x.len - (intOf j).toNat)
      case atStart =>
        exact ⟨0, Nat.zero_le _, rfl, hF.below ((Below.refl _ _).alloc (Nat.le_refl _) _), by simp, heap_alloc_new wO _⟩
      case round =>
        clear hF c0 c1 c2 hheld hb1
        obtain ⟨q, hq, rfl, hF, hz, hB⟩ := hrel
        obtain ⟨d0, d1, d2⟩ := triple_cell hB
        have hl2' := hl2
        unfold maxLen at hl2'
        by_cases hq1 : q < x.len
        · obtain ⟨g2, cp2, e2, -, -, hcells, hLD, hF2⟩ := (hF.below (below_drew wr)).store hx hq1 mkByte_len (by omega) h.apart
          rw [hxl] at e2
          simp only [Value.slice.injEq, true_and] at e2
          obtain ⟨rfl, rfl⟩ := e2
          obtain ⟨⟨u0, k0⟩, f0⟩ := hcells 0 (by omega)
          simp only [Nat.mul_one, Nat.add_zero, World.cell?_drew, World.frozen?_drew] at k0 f0 hF2
          have hne : g2 ≠ wO.heap.size := by have := hltw g2 hLD; omega
          have hB2 : ((wr.drew).setCell ⟨g2, q, none⟩ (.int .u8 (1 + (x.n : Int) % 250))).heap[wO.heap.size]? = _ := (Below.heap_setCell _ _ _ _ (fun e => hne (by simpa using e.symm))).trans hB
          have HB : Hid _ := hB2
          have HF : Hid _ := hF2
          have i2 : (q : Int) < (x.len : Int) := by omega
          have hz2 : wO.heap.size < ((wr.drew).setCell ⟨g2, q, none⟩ (.int .u8 (1 + (x.n : Int) % 250))).heap.size := by simp [World.setCell]; exact hz
          clear hB hF hF2 hB2
          have km := fun W => markByte_any W x.n hN
          go_wp2
          go_region_with (go_at_call 113; refine (km _).mono ?_; rintro e w' ⟨rfl, rfl⟩)
          all_goals
            go_wp2
            go_roundw
            case rel => exact ⟨q + 1, by omega, by go_num, HF.out, hz2, HB.out⟩
            case measure => simp [intOf]; omega
        · obtain rfl : q = x.len := by omega
          go_wp2
          go_roundw
          case rel => exact ⟨k + 1, by omega, by go_num, hF.next hx⟩
          case measure => simp [intOf]; omega
    · obtain rfl : k = E.length := by omega
      go_wp2
      go_end0
      exact ⟨rfl, hF.fin h, hF.wrote⟩
end Go.Proofs.YtcgecdiaddcfkaaGreatDoor
/- The walks of a book's lists of bytes. -/
set_option linter.unusedSimpArgs false
set_option linter.unusedVariables false
namespace Go.Proofs.YtcgecdiaddcfkaaGreatDoor
open Go.RowKit

theorem mkByte_one (n : Nat) : ∀ u ∈ mkByte n, u.oneCell' = true := by intro u hu; simp [mkByte] at hu; subst hu; rfl

set_option maxHeartbeats 2000000 in
set_option maxRecDepth 1000000 in
theorem growByte_any (w : World) (bk : Nat) (v : Value) (E : List Ent) (hb : w.cell? ⟨bk, 1, none⟩ = some v) (hbk : bk < w.heap.size) (hD : ¬ DD v E bk) (h : FAt w 114 5 1 mkByte v E) :
    Calls Tryz.prog 55 #[ptr bk] w fun e w' => e = .returned (.tuple #[]) ∧ ∃ E', E'.map (fun x => (x.l, x.len, x.n)) = E.map (fun x => (x.l, x.len, x.n)) ∧ GAt w.heap.size w' 114 1 mkByte v E' ∧ Wrote (DD v E) w w' := by
  have hfew := h.few
  obtain ⟨i0, hi, hz0, hz1, hz2⟩ := info_parts info_u8
  go_enter Tryz.func55, Tryz.ntmps55
  go_wp2
  go_loopw [2] (fun i wr => ∃ (k : Nat) (E' : List Ent), k ≤ E'.length ∧ E'.length = E.length ∧ i = .int .i64 k ∧ GIn w wr 114 5 1 mkByte v E E' k) (fun i _ => E.length - (intOf i).toNat)
  case atStart => exact ⟨0, E, by omega, rfl, rfl, GIn.start h⟩
  case round =>
    obtain ⟨k, E', hk, hEl0, rfl, hG⟩ := hrel
    have hEl : Hid (E'.length = E.length) := hEl0
    clear hEl0
    have hb1 : wr.cell? ⟨bk, 1, none⟩ = some v := (hG.wrote.cell (p := ⟨bk, 1, none⟩) hbk hD).trans hb
    obtain ⟨ao, cap, rfl, hc1, hc2⟩ := own_len' hG.held
    unfold maxLen at hc2
    by_cases h1 : k < E'.length
    · obtain ⟨x, hx⟩ : ∃ x, E'[k]? = some x := ⟨E'[k]'h1, by simp [h1]⟩
      obtain ⟨g, cap', e1, -, -, c0, c1, c2, -⟩ := held_cell hG.held hx
      simp only [Value.slice.injEq, true_and] at e1
      obtain ⟨rfl, rfl⟩ := e1
      have hrow := hG.rest k x (Nat.le_refl _) hx
      obtain ⟨ao, cp, hxl, hl1, hl2⟩ := own_len' hrow
      rw [hxl] at c0
      have i1 : (k : Int) < (E'.length : Int) := by omega
      have hlong := hG.fresh k x (Nat.le_refl _) hx
      rw [hlong] at c1
      obtain ⟨y, hy, ey1, ey2, ey3⟩ := same_get hG.same hx
      have hN := (h.rows y (List.mem_of_getElem? hy)).2.1
      have hLn := (h.rows y (List.mem_of_getElem? hy)).1
      rw [ey3] at hN
      rw [ey2] at hLn
      have hsz := hG.wrote.size
      have hgs : g < w.heap.size := (h.held.lt g rfl).2
      have hlb : ∀ b, x.l.ownBlock = some b → b < wr.heap.size ∧ b ≠ bk ∧ b ≠ g := fun b hb => ⟨(hrow.lt b hb).2, fun e => hD (.inr ⟨y, List.mem_of_getElem? hy, by rw [ey1, ← e]; exact hb⟩), fun e => h.off b ⟨y, List.mem_of_getElem? hy, by rw [ey1]; exact hb⟩ (by rw [e]; rfl)⟩
      have hGa := hG.below ((Below.refl _ _).alloc (Nat.le_refl _) (.cells #[.slice ao x.len cp, .slice none 0 0, .int .i64 (x.n : Int)] 114))
      have hLa := LIn.start (hGa.rest k x (Nat.le_refl _) hx) mkByte_len
      rw [hxl] at hLa
      have hzero := own_zero hrow
      obtain ⟨wO, hO⟩ : ∃ x, x = wr := ⟨_, rfl⟩
      subst hO
      go_wp2
      go_loopw [4, 5] (fun lg j wq => ∃ q : Nat, q ≤ 40 ∧ j = .int .i64 q ∧ LIn (wO.alloc (.cells #[.slice ao x.len cp, .slice none 0 0, .int .i64 (x.n : Int)] 114)) wq 5 1 mkByte x lg q) (fun _ j _ => 40 - (intOf j).toNat)
      case atStart => exact ⟨0, by omega, rfl, hLa⟩
      case round =>
        clear hLa hb1
        obtain ⟨q, hq, rfl, hL⟩ := hrel
        have hzz := hL.wrote.size
        have zz : (wO.alloc (.cells #[.slice ao x.len cp, .slice none 0 0, .int .i64 (x.n : Int)] 114)).heap.size = wO.heap.size + 1 := by simp
        have hnot : ¬ x.l.ownBlock = some wO.heap.size := fun e => by have := (hlb _ e).1; omega
        have hB : wr.heap[wO.heap.size]? = some (.cells #[.slice ao x.len cp, .slice none 0 0, .int .i64 (x.n : Int)] 114 (0, 0)) := (hL.wrote.block _ (by omega) hnot).trans (heap_alloc_new wO _)
        obtain ⟨d0, d1, d2⟩ := triple_cell hB
        have hb1 : wr.cell? ⟨bk, 1, none⟩ = some (.slice (some ⟨g, 0, none⟩) E'.length cap) := by
          rw [hL.wrote.cell (p := ⟨bk, 1, none⟩) (by simp only [zz]; omega) (fun e => (hlb _ e).2.1 rfl)]
          exact (hGa.wrote.cell (p := ⟨bk, 1, none⟩) hbk hD).trans hb
        obtain ⟨al, cl, hlg, hl3, hl4⟩ := own_len' hL.own
        subst hlg
        unfold maxLen at hl4
        by_cases hq1 : q < 40
        · have i2 : (q : Int) < 40 := by omega
          have km := fun W => markByte_any W x.n hN
          have hL2 := hL.below ((Below.refl _ _).alloc (Nat.le_refl _) (.cells #[.int .u8 (1 + (x.n : Int) % 250)] 5))
          have src : Src Tryz.prog 1 30 (.slice (some ⟨wr.heap.size, 0, none⟩) 1 1) 1 (mkByte x.n) (wr.alloc (.cells #[.int .u8 (1 + (x.n : Int) % 250)] 5)) := Src.ofSlice _ Tryz.underlying30 ⟨wr.heap.size, 0, none⟩ 1 1 (mkByte x.n) rfl (news_ofv _ _) (mkByte_one _)
          have b1 : Hid (x.len + q + 1 ≤ maxLen ∧ (x.len + q + 1) * 1 ≤ 140737488355328) := by show _ ∧ _; unfold maxLen; omega
          clear hL hB
          go_wp2_with fail
          refine (km _).mono ?_
          rintro e w' ⟨rfl, hw⟩
          rw [hw]
          clear hw w' km
          go_wp2_with (at_builtin; refine wpList_append_stays _ rfl (.tmp 28) (.tmp 32) 30 30 rfl 0 5 i0 (.int .u8 0) 1 1 Tryz.underlying30 hi hz0 hz1 hz2 rfl (by decide) (.slice al (x.len + q) cl) (x.len + q) (marks (mkByte x.n) (x.len + q)) rfl hL2.own (.slice (some ⟨wr.heap.size, 0, none⟩) 1 1) 1 (mkByte x.n) rfl src b1.out.1 b1.out.2 (Nat.zero_le _) ?_; intro v' w1 ho hg; have R := hL2.app mkByte_len hzero ho hg; obtain ⟨av, nv, cv, rfl⟩ := own_slice ho)
          go_roundw
          case rel => exact ⟨q + 1, by omega, by go_num, R⟩
          case measure => simp [intOf]; omega
        · obtain rfl : q = 40 := by omega
          have hheld := own_wrote hGa.held hL.wrote (fun b hb e => (hlb b e).2.2 (by simpa [Value.ownBlock] using hb.symm))
          obtain ⟨g', cap', e1, -, -, c0', c1', c2', f1'⟩ := held_cell hheld hx
          simp only [Value.slice.injEq, true_and, Option.some.injEq, Addr.mk.injEq, and_true] at e1
          obtain ⟨rfl, rfl⟩ := e1
          have R := hGa.store hx h mkByte_len rfl hL
          go_wp2
          go_roundw
          case rel => exact ⟨k + 1, _, by rw [List.length_set]; omega, by rw [List.length_set]; exact hEl.out, by go_num, R⟩
          case measure => have := hEl.out; simp [intOf]; omega
    · have hkE : k = E'.length := by omega
      subst hkE
      have i1 : ¬ ((E'.length : Int) < (E'.length : Int)) := by omega
      go_wp2
      go_end0
      exact ⟨rfl, E', hG.same, hG.fin h, hG.wrote⟩
end Go.Proofs.YtcgecdiaddcfkaaGreatDoor
