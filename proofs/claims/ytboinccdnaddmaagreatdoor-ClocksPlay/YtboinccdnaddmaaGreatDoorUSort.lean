/- slices.Sort at uint32: a row that is owned is sorted. -/
import Derived.Test.YtboinccdnaddmaaGreatDoorUPdq
import Derived.Test.YtboinccdnaddmaaGreatDoorShelf
import Derived.Test.YtboinccdnaddmaaGreatDoorBBook
import Derived.Sort.WalkA14
set_option linter.unusedSimpArgs false
set_option linter.unusedVariables false
namespace Go.Proofs.YtboinccdnaddmaaGreatDoor
open Go.RowKit Go.Sort

theorem RowIs.block {w0 w : World} {g off : Nat} {d0 d : Array Nat} (h : RowIs w0 g off d0 d w) {cur : Array Value} {e : TypeId} {fr : Nat × Nat} (hb : w0.heap[g]? = some (.cells cur e fr)) : w.heap[g]? = some (.cells (putCells u32e off d cur) e fr) := by
  obtain ⟨hs, hg, n, os, rfl⟩ := h
  rw [heap_grow_old _ _ (by simpa using hg)]
  show ((Sort.ahead w0 n).heap.modify g _)[g]? = _
  rw [Array.getElem?_modify]
  simp only [if_true, Sort.ahead]
  rw [hb]
  rfl
theorem RowIs.rest {w0 w : World} {g off : Nat} {d0 d : Array Nat} (h : RowIs w0 g off d0 d w) : w.os = w0.os ∧ w.tape = w0.tape ∧ w.output = w0.output ∧ ∀ k, k < w0.heap.size → k ≠ g → w.heap[k]? = w0.heap[k]? := by
  obtain ⟨hs, hg, n, os, rfl⟩ := h
  refine ⟨rfl, rfl, rfl, fun k hk hn => ?_⟩
  rw [heap_grow_old _ _ (by simpa using hk)]
  show ((Sort.ahead w0 n).heap.modify g _)[k]? = _
  rw [Array.getElem?_modify, if_neg (fun e => hn e.symm)]
  rfl
theorem put_take {d : Array Nat} {cur : Array Value} (hd : d.size ≤ cur.size) : (putCells u32e 0 d cur).toList.take d.size = d.toList.map u32e := by
  apply List.ext_getElem?
  intro i
  rw [List.getElem?_take, Array.getElem?_toList, List.getElem?_map, Array.getElem?_toList]
  by_cases hi : i < d.size
  · rw [if_pos hi]
    unfold putCells
    rw [Array.getElem?_mapIdx, Array.getElem?_eq_getElem (by omega), Array.getElem?_eq_getElem hi]
    simp [hi]
  · rw [if_neg hi, Array.getElem?_eq_none (by omega)]
    rfl
theorem holds_row {w : World} {g : Nat} {cur : Array Value} {e : TypeId} {xs : List Nat} (hb : w.heap[g]? = some (.cells cur e (0, 0))) (ht : cur.toList.take xs.length = xs.map u32e) : Holds u32e w g 0 xs.toArray := fun j hj => by
  have hj' : j < xs.length := by simpa using hj
  rw [Nat.zero_add]
  have h1 : cur[j]? = some (u32e xs.toArray[j]!) := by
    have h2 : (cur.toList.take xs.length)[j]? = (xs.map u32e)[j]? := by rw [ht]
    rw [List.getElem?_take, if_pos hj', Array.getElem?_toList, List.getElem?_map] at h2
    rw [h2, List.getElem?_eq_getElem hj']
    simp [hj']
  exact ⟨by simp [World.cell?, hb, h1], by simp [World.frozen?, hb]⟩

set_option maxRecDepth 1000000 in
theorem insertion_none (p : Option Addr) (cap : Nat) (w : World) : Calls Tryz.prog 93 #[.slice p 0 cap, .int .i64 0, .int .i64 0] w fun e w' => e = .returned (.tuple #[]) ∧ w' = w := by
  go_enter Tryz.func93, Tryz.ntmps93
  go_wp2
  go_loopw [6] (fun v W => v = .int .i64 1 ∧ W = w) (fun _ _ => 0)
  case atStart => exact ⟨rfl, rfl⟩
  case round =>
    obtain ⟨rfl, rfl⟩ := hrel
    go_wp2
    go_end0
    exact ⟨rfl, rfl⟩
set_option maxRecDepth 1000000 in
theorem pdq_none (p : Option Addr) (cap : Nat) (w : World) : Calls Tryz.prog 90 #[.slice p 0 cap, .int .i64 0, .int .i64 0, .int .i64 0] w fun e w' => e = .returned (.tuple #[]) ∧ w' = w := by
  have kc := insertion_none p cap w
  go_enter Tryz.func90, Tryz.ntmps90
  go_wp2
  go_loopw [1, 2, 3, 8, 9] (fun v1 v2 v3 v8 v9 W => v1 = .int .i64 0 ∧ v2 = .int .i64 0 ∧ v3 = .int .i64 0 ∧ v8 = .bool true ∧ v9 = .bool true ∧ W = w) (fun _ _ _ _ _ _ => 0)
  case atStart => exact ⟨rfl, rfl, rfl, rfl, rfl, rfl⟩
  case round =>
    obtain ⟨rfl, rfl, rfl, rfl, rfl, rfl⟩ := hrel
    go_wp2_with fail
    refine kc.mono ?_
    rintro e w1 ⟨rfl, rfl⟩
    go_wp2
    try simp only [Exit.inBlock, Exit.then]
    refine bodyPost_ret (results_none rfl _ _ _) rfl ?_
    exact ⟨rfl, rfl⟩
set_option maxRecDepth 1000000 in
theorem sort_none (p : Option Addr) (cap : Nat) (w : World) : Calls Tryz.prog 63 #[.slice p 0 cap] w fun e w' => e = .returned (.tuple #[]) ∧ w' = w := by
  have hL := Tryz.bits_Len 0 w (by omega) (by omega)
  have hz : (Lib.bitLen (0 : Int).toNat : Int) = 0 := by rfl
  rw [hz] at hL
  have kc := pdq_none p cap w
  go_enter Tryz.func63, Tryz.ntmps63
  go_wp2_with (first
    | (go_at_call 91; refine hL.mono ?_; rintro e w' ⟨rfl, rfl⟩)
    | (go_at_call 90; refine kc.mono ?_; rintro e w' ⟨rfl, rfl⟩))
  go_end0
  exact ⟨rfl, rfl⟩
set_option maxHeartbeats 1000000 in
set_option maxRecDepth 1000000 in
theorem sort_row (g len cap : Nat) (d : Array Nat) (w : World) (hlen : d.size = len) (hH : Holds u32e w g 0 d) (hg : g < w.heap.size) (hsz : len < 4611686018427387904) :
    Calls Tryz.prog 63 #[slV g 0 len cap] w fun e w' => e = .returned (.tuple #[]) ∧ ∃ d', RowIs w g 0 d d' w' ∧ PermIn 0 len d d' ∧ SortedIn ltN 0 len d' := by
  have hk : bitsLen len ≤ 62 := (bitsLen_le_iff len 62).2 (by omega)
  have hL : ∀ w, Calls Tryz.prog 91 #[.int .u64 (len : Int)] w fun e w' => e = .returned (.int .i64 (bitsLen len : Nat)) ∧ w' = w := fun w => by
    have h := Tryz.bits_Len (len : Int) w (by omega) (by omega)
    rwa [Int.toNat_natCast, bitLen_eq _ (by omega)] at h
  have kc := pdq_ok len g 0 cap 0 len (bitsLen len) len d w (by omega) hlen hH hg (Nat.zero_le _) (Nat.le_refl _) hsz (by omega) (.inl rfl)
  obtain ⟨k, hkk⟩ : ∃ k, k = bitsLen len := ⟨_, rfl⟩
  rw [← hkk] at hL kc hk
  clear hkk hH hlen
  go_enter Tryz.func63, Tryz.ntmps63
  go_wp2_with (first
    | (go_at_call 91; refine (hL _).mono ?_; rintro e w' ⟨rfl, rfl⟩)
    | (go_at_call 90; refine kc.mono ?_; rintro e w' ⟨rfl, h⟩))
  go_end0
  exact ⟨rfl, h⟩
/-- A row that is owned, sorted. -/
theorem sort_ok (w0 w : World) (v : Value) (xs : List Nat) (hr : w.ownsRow w0.heap.size 43 1 v xs.length (xs.map u32e)) (hb : Below w0.heap.size w0 w) (hn : xs.length ≤ 1000000000) :
    Calls Tryz.prog 63 #[v] w fun e w' => e = .returned (.tuple #[]) ∧ ∃ ys : List Nat, ys.Perm xs ∧ ys.Pairwise (· ≤ ·) ∧ w'.ownsRow w0.heap.size 43 1 v ys.length (ys.map u32e) ∧ Below w0.heap.size w0 w' := by
  rcases hr.2 with ⟨rfl, h0⟩ | ⟨g, cap, cur, rfl, hbase, hgb, r1, r2, r3, r4⟩
  · obtain rfl : xs = [] := List.eq_nil_of_length_eq_zero h0
    refine (sort_none none 0 w).mono ?_
    rintro e w' ⟨rfl, rfl⟩
    exact ⟨rfl, [], .refl _, .nil, hr, hb⟩
  · have hgl : g < w.heap.size := by
      rcases Nat.lt_or_ge g w.heap.size with h' | h'
      · exact h'
      · rw [Array.getElem?_eq_none h'] at hgb; cases hgb
    rw [Nat.mul_one] at r3 r4
    refine (sort_row g xs.length cap xs.toArray w (by simp) (holds_row hgb r4) hgl (by omega)).mono ?_
    rintro e w' ⟨rfl, d', hR, hP, hS⟩
    have hs : d'.size = xs.length := by have := hR.size; simpa using this
    have he : d'.toList.length = xs.length := by simpa using hs
    obtain ⟨q1, q2, q3, q4⟩ := hR.rest
    refine ⟨rfl, d'.toList, ?_, ?_, ?_, ⟨q1.trans hb.os, q2.trans hb.tape, q3.trans hb.output, Nat.le_trans hb.size hR.ge, fun k hk => (q4 k (Nat.lt_of_lt_of_le hk hb.size) (by omega)).trans (hb.block k hk)⟩⟩
    · have h2 := hP.2.2
      have e1 : d'.extract 0 xs.length = d' := by rw [← hs]; simp
      rw [e1] at h2
      have e2 : xs.toArray.extract 0 xs.length = xs.toArray := by simp
      rw [e2] at h2
      simpa using h2
    · refine List.pairwise_iff_getElem.2 fun i j hi hj hij => ?_
      have h3 := sortedN.1 hS i j (Nat.zero_le _) hij (by omega)
      have hi' : i < d'.size := by simpa using hi
      have hj' : j < d'.size := by simpa using hj
      rw [getElem!_pos d' i hi', getElem!_pos d' j hj'] at h3
      simpa using h3
    · refine ⟨by simp, .inr ⟨g, cap, putCells u32e 0 d' cur, by rw [he], hbase, hR.block hgb, by omega, r2, ?_, ?_⟩⟩
      · rw [Nat.mul_one, ← r3]; simp [putCells]
      · rw [Nat.mul_one, he, ← hs]; exact put_take (by omega)
end Go.Proofs.YtboinccdnaddmaaGreatDoor
