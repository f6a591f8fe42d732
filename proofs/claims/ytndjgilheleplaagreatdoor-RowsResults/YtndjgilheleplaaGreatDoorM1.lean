/- Texts of this proof, laid into one. -/
import Derived.WalkKit
import Derived.Laws.RangeAny
import Derived.Test.YtndjgilheleplaaGreatDoorRows
import Derived.WalkSpells
import Derived.WalkLawsBesides
import Derived.Laws.EntriesVeiled
import Derived.Lib.OthersKept
import Derived.Below
import Derived.Deep.LoopGhost
/- Plain facts on texts: which bytes may stand in a key, and which texts are keys. -/
set_option linter.unusedSimpArgs false
set_option linter.unusedVariables false
namespace Go.Proofs.YtndjgilheleplaaGreatDoor

/-- Which bytes may stand in a key. -/
def mayB (c : Nat) : Bool := (decide (97 ≤ c) && decide (c ≤ 122)) || ((decide (48 ≤ c) && decide (c ≤ 57)) || decide (c = 95))
/-- Which texts are keys. -/
def chk (s : ByteArray) : Bool := (decide (1 ≤ s.size) && decide (s.size ≤ 16)) && s.data.toList.all (fun b => mayB b.toNat)

theorem mayB_iff (c : Nat) : mayB c = true ↔ (97 ≤ c ∧ c ≤ 122) ∨ (48 ≤ c ∧ c ≤ 57) ∨ c = 95 := by
  unfold mayB; simp

theorem all_iff (s : ByteArray) : s.data.toList.all (fun b => mayB b.toNat) = true ↔ ∀ i (h : i < s.size), mayB (s[i]'h).toNat = true := by
  rw [List.all_eq_true]
  constructor
  · intro h i hi
    exact h _ (by
      have : s[i]'hi = s.data.toList[i]'(by simpa using hi) := rfl
      rw [this]; exact List.getElem_mem _)
  · intro h b hb
    obtain ⟨i, hi, rfl⟩ := List.getElem_of_mem hb
    exact h i (by simpa using hi)

theorem chk_iff (s : ByteArray) : chk s = true ↔ (1 ≤ s.size ∧ s.size ≤ 16) ∧ ∀ i (h : i < s.size), mayB (s[i]'h).toNat = true := by
  unfold chk; rw [Bool.and_eq_true, all_iff]; simp
theorem chk_long (s : ByteArray) (h : s.size < 1 ∨ 16 < s.size) : chk s = false := by
  rw [Bool.eq_false_iff, Ne, chk_iff]; omega
theorem chk_bad (s : ByteArray) (i : Nat) (h : i < s.size) (hb : mayB (s[i]'h).toNat = false) : chk s = false := by
  rw [Bool.eq_false_iff, Ne, chk_iff]
  rintro ⟨_, g⟩
  rw [g i h] at hb; cases hb
theorem mayB_high (c : Nat) (h : 128 ≤ c) : mayB c = false := by
  rw [Bool.eq_false_iff, Ne, mayB_iff]; omega
/-- The rune at a place may stand just if the byte there may. -/
theorem may_decode (s : ByteArray) (p : Nat) (h : p < s.size) : mayB (Utf8.decode s p).1 = mayB (s[p]'h).toNat := by
  by_cases ha : (s[p]'h).toNat < 128
  · rw [decode_ascii s p h ha]
  · rw [mayB_high _ (decode_high s p h (by omega)).1, mayB_high _ (by omega)]
theorem width_ascii (s : ByteArray) (p : Nat) (h : p < s.size) (hm : mayB (s[p]'h).toNat = true) : (Utf8.decode s p).2 = 1 := by
  have ha : (s[p]'h).toNat < 128 := by rw [mayB_iff] at hm; omega
  rw [decode_ascii s p h ha]
end Go.Proofs.YtndjgilheleplaaGreatDoor
/- The walks of the closures by which keys.Check tells which runes may stand. -/
set_option linter.unusedSimpArgs false
set_option linter.unusedVariables false
namespace Go.Proofs.YtndjgilheleplaaGreatDoor
open Go.RowKit

/-- A pointer to a block's first cell. -/
abbrev ptr (b : Nat) : Value := .pointer (some ⟨b, 0, none⟩)
/-- The memory that the closure of keys.mayStand captured, from block n on. -/
structure MayAt (w : World) (n : Nat) : Prop where
  c0 : w.cell? ⟨n, 0, none⟩ = some (.int .i32 97)
  c1 : w.cell? ⟨n + 1, 0, none⟩ = some (.int .i32 122)
  c2 : w.cell? ⟨n + 2, 0, none⟩ = some (.int .i32 48)
  c3 : w.cell? ⟨n + 3, 0, none⟩ = some (.int .i32 57)
  c4 : w.cell? ⟨n + 4, 0, none⟩ = some (.func (.func 169) #[] #[ptr n, ptr (n + 1)])
  c5 : w.cell? ⟨n + 5, 0, none⟩ = some (.func (.func 169) #[] #[ptr (n + 2), ptr (n + 3)])

theorem MayAt.of_block {w w' : World} {n : Nat} (h : MayAt w n) (hb : ∀ k, n ≤ k → k ≤ n + 5 → w'.heap[k]? = w.heap[k]?) : MayAt w' n :=
  ⟨by rw [World.cell?_of_block (w := w) (hb n (by omega) (by omega))]; exact h.c0,
   by rw [World.cell?_of_block (w := w) (hb (n + 1) (by omega) (by omega))]; exact h.c1,
   by rw [World.cell?_of_block (w := w) (hb (n + 2) (by omega) (by omega))]; exact h.c2,
   by rw [World.cell?_of_block (w := w) (hb (n + 3) (by omega) (by omega))]; exact h.c3,
   by rw [World.cell?_of_block (w := w) (hb (n + 4) (by omega) (by omega))]; exact h.c4,
   by rw [World.cell?_of_block (w := w) (hb (n + 5) (by omega) (by omega))]; exact h.c5⟩

set_option maxHeartbeats 1000000 in
set_option maxRecDepth 1000000 in
theorem mayStand_any (w : World) : Calls Tryz.prog 134 #[] w fun e w' => e = .returned (.func (.func 166) #[] #[ptr (w.heap.size + 4), ptr (w.heap.size + 5)]) ∧ MayAt w' w.heap.size ∧ Below w.heap.size w w' ∧ w'.heap.size = w.heap.size + 6 := by
  have hmf : ∀ (fn : Fn) (first cap : Array Value) (w : World), (Instr.makeFunc fn first cap).run Tryz.prog w = .ok (.func fn first cap) w := fun _ _ _ _ => rfl
  go_enter Tryz.func134, Tryz.ntmps134
  go_wp2
  go_ret
  refine ⟨rfl, ?_, ?_, by simp⟩
  · constructor <;> go_simp
  · exact ((((((Below.refl _ _).alloc (Nat.le_refl _) _).alloc (by simp) _).alloc (by simp; omega) _).alloc (by simp; omega) _).alloc (by simp; omega) _).alloc (by simp; omega) _

set_option maxHeartbeats 1000000 in
set_option maxRecDepth 1000000 in
theorem between_any (w : World) (a b : Nat) (lo hi r : Int) (ha : w.cell? ⟨a, 0, none⟩ = some (.int .i32 lo)) (hb : w.cell? ⟨b, 0, none⟩ = some (.int .i32 hi)) :
    Calls Tryz.prog 169 #[.int .i32 r, ptr a, ptr b] w fun e w' => e = .returned (.bool (decide (lo ≤ r) && decide (r ≤ hi))) ∧ w' = w := by
  by_cases h1 : lo ≤ r
  · by_cases h2 : r ≤ hi
    · go_enter Tryz.func169, Tryz.ntmps169
      go_wp2
      go_ret
      exact ⟨by simp [h1, h2], rfl⟩
    · go_enter Tryz.func169, Tryz.ntmps169
      go_wp2
      go_ret
      exact ⟨by simp [h1, h2], rfl⟩
  · go_enter Tryz.func169, Tryz.ntmps169
    go_wp2
    go_ret
    exact ⟨by rw [show decide (lo ≤ r) = false by simp; omega]; rfl, rfl⟩

/-- What the closure tells of a rune. -/
def mayI (r : Int) : Bool := (decide (97 ≤ r) && decide (r ≤ 122)) || ((decide (48 ≤ r) && decide (r ≤ 57)) || decide (r = 95))
theorem mayI_nat (c : Nat) : mayI (c : Int) = mayB c := by
  rw [Bool.eq_iff_iff, mayB_iff]; unfold mayI; simp; omega

theorem mayI_1 {r : Int} (h : (decide (97 ≤ r) && decide (r ≤ 122)) = true) : mayI r = true := by unfold mayI; rw [h]; rfl
theorem mayI_2 {r : Int} (h : (decide (97 ≤ r) && decide (r ≤ 122)) = false) (h2 : (decide (48 ≤ r) && decide (r ≤ 57)) = true) : mayI r = true := by unfold mayI; rw [h, h2]; rfl
theorem mayI_3 {r : Int} (h : (decide (97 ≤ r) && decide (r ≤ 122)) = false) (h2 : (decide (48 ≤ r) && decide (r ≤ 57)) = false) : mayI r = (r == 95) := by unfold mayI; rw [h, h2]; rfl

set_option maxHeartbeats 1000000 in
set_option maxRecDepth 1000000 in
theorem may_any (w : World) (n : Nat) (r : Int) (h : MayAt w n) :
    Calls Tryz.prog 166 #[.int .i32 r, ptr (n + 4), ptr (n + 5)] w fun e w' => e = .returned (.bool (mayI r)) ∧ w' = w := by
  obtain ⟨c0, c1, c2, c3, c4, c5⟩ := h
  have k1 := between_any w n (n + 1) 97 122 r c0 c1
  have k2 := between_any w (n + 2) (n + 3) 48 57 r c2 c3
  clear c0 c1 c2 c3
  by_cases h1 : (decide (97 ≤ r) && decide (r ≤ 122)) = true
  · have H := mayI_1 h1
    rw [h1] at k1
    rw [H]
    clear k2 h1 H
    go_enter Tryz.func166, Tryz.ntmps166
    go_wp2_with fail
    refine k1.mono ?_
    rintro e w' ⟨rfl, rfl⟩
    go_wp2
    go_ret
    exact ⟨rfl, rfl⟩
  · rw [Bool.not_eq_true] at h1
    by_cases h2 : (decide (48 ≤ r) && decide (r ≤ 57)) = true
    · have H := mayI_2 h1 h2
      rw [h1] at k1
      rw [h2] at k2
      rw [H]
      clear h1 H h2
      go_enter Tryz.func166, Tryz.ntmps166
      go_wp2_with fail
      refine k1.mono ?_
      rintro e w' ⟨rfl, rfl⟩
      go_wp2_with fail
      refine k2.mono ?_
      rintro e w'' ⟨rfl, rfl⟩
      go_wp2
      go_ret
      exact ⟨rfl, rfl⟩
    · rw [Bool.not_eq_true] at h2
      have H := mayI_3 h1 h2
      rw [h1] at k1
      rw [h2] at k2
      rw [H]
      clear h1 H h2
      go_enter Tryz.func166, Tryz.ntmps166
      go_wp2_with fail
      refine k1.mono ?_
      rintro e w' ⟨rfl, rfl⟩
      go_wp2_with fail
      refine k2.mono ?_
      rintro e w'' ⟨rfl, rfl⟩
      go_wp2
      go_ret
      exact ⟨rfl, rfl⟩
end Go.Proofs.YtndjgilheleplaaGreatDoor
/- The walk of keys.Check: which texts are keys. -/
set_option linter.unusedSimpArgs false
set_option linter.unusedVariables false
namespace Go.Proofs.YtndjgilheleplaaGreatDoor
open Go.RowKit

theorem iterPos_of {w : World} {k : Nat} {s : ByteArray} {p : Nat} (h : w.heap[k]? = some (.stringIter s p)) : w.iterPos k = p := by simp [World.iterPos, h]

set_option maxHeartbeats 1000000 in
set_option maxRecDepth 1000000 in
theorem check_any (s : ByteArray) (w : World) (hs : s.size ≤ maxLen) :
    Calls Tryz.prog 61 #[.string s] w fun e w' => e = .returned (.bool (chk s)) ∧ Below w.heap.size w w' := by
  unfold maxLen at hs
  by_cases h1 : s.size < 1
  · have H := chk_long s (.inl h1)
    rw [H]; clear H
    go_enter Tryz.func61, Tryz.ntmps61
    go_wp2
    go_ret
    exact ⟨rfl, Below.refl _ _⟩
  · by_cases h2 : 16 < s.size
    · have H := chk_long s (.inr h2)
      rw [H]; clear H
      go_enter Tryz.func61, Tryz.ntmps61
      go_wp2
      go_ret
      exact ⟨rfl, Below.refl _ _⟩
    · have k9 := mayStand_any w
      go_enter Tryz.func61, Tryz.ntmps61
      go_wp2_with fail
      refine k9.mono ?_
      rintro e w1 ⟨rfl, hm1, hb1, hz1⟩
      clear k9
      go_wp2
      go_loopw [5] (fun _ wr => ∃ pos : Nat, wr.heap[w.heap.size + 6]? = some (.stringIter s pos) ∧ MayAt wr w.heap.size ∧ Below w.heap.size w wr ∧ Hid (∀ i (h : i < s.size), i < pos → mayB (s[i]'h).toNat = true)) (fun _ wr => s.size - wr.iterPos (w.heap.size + 6))
      case atStart =>
        refine ⟨0, ?_, ?_, ?_, fun i _ hi => absurd hi (Nat.not_lt_zero _)⟩
        · have := World.iter_heap w1 s 0; rw [hz1] at this; exact this
        · exact hm1.of_block (fun k _ hk => Below.heap_alloc _ _ _ (by omega))
        · exact hb1.alloc (by omega) _
      case round =>
        clear hm1 hb1 hz1
        obtain ⟨pos, hit, hm, hb, hall⟩ := hrel
        have hpos0 := iterPos_of hit
        by_cases hp : pos < s.size
        · have hnx : ∀ ty, (Instr.next (.pointer (some ⟨w.heap.size + 6, 0, none⟩)) true ty).run Tryz.prog wr = _ := fun ty => Lib.run_next_any_at wr (w.heap.size + 6) s pos ty hit hp
          have hit2 := Lib.iterAt_heap wr (w.heap.size + 6) s pos (pos + (Utf8.decode s pos).2) hit
          have hb2 := Lib.below_iterAt hb (k := w.heap.size + 6) (by omega) s (pos + (Utf8.decode s pos).2)
          have hm2 : MayAt (wr.iterAt (w.heap.size + 6) s (pos + (Utf8.decode s pos).2)) w.heap.size := hm.of_block (fun k _ hk => Lib.iterAt_other _ _ _ _ _ (by omega))
          obtain ⟨W1, hW1⟩ : ∃ W1, W1 = wr.iterAt (w.heap.size + 6) s (pos + (Utf8.decode s pos).2) := ⟨_, rfl⟩
          rw [← hW1] at hnx hit2 hb2 hm2
          clear hW1 hit hm hb
          have k11 := may_any W1 w.heap.size ((Utf8.decode s pos).1 : Int) hm2
          rw [mayI_nat, may_decode s pos hp] at k11
          have hpos2 := iterPos_of hit2
          by_cases hc : mayB (s[pos]'hp).toNat = true
          · have hwd := width_ascii s pos hp hc
            rw [hc] at k11
            rw [hwd] at hit2 hpos2
            go_wp2_with fail
            refine k11.mono ?_
            rintro e w' ⟨rfl, rfl⟩
            go_wp2
            go_roundw
            case rel =>
              refine ⟨pos + 1, hit2, hm2, hb2, fun i h hi => ?_⟩
              by_cases e : i = pos
              · subst e; exact hc
              · exact hall.out i h (by omega)
            case measure => rw [hpos2, hpos0]; omega
          · rw [Bool.not_eq_true] at hc
            have H := chk_bad s pos hp hc
            rw [hc] at k11
            go_wp2_with fail
            refine k11.mono ?_
            rintro e w' ⟨rfl, rfl⟩
            go_wp2
            go_ret
            exact ⟨by rw [H]; rfl, hb2⟩
        · have hnx : ∀ ty, (Instr.next (.pointer (some ⟨w.heap.size + 6, 0, none⟩)) true ty).run Tryz.prog wr = _ := fun ty => Lib.run_next_end_at wr (w.heap.size + 6) s pos ty hit hp
          have H : chk s = true := (chk_iff s).mpr ⟨by omega, fun i h => hall.out i h (by omega)⟩
          go_wp2
          go_ret
          exact ⟨by rw [H]; rfl, hb⟩

end Go.Proofs.YtndjgilheleplaaGreatDoor
