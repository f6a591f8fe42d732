/- A list of acts in memory; the walk of great. -/
import Derived.Test.YthnkakjelhnjdaaGreatDoorEInv
import Derived.Test.YthnkakjelhnjdaaGreatDoorGTwByte
set_option linter.unusedSimpArgs false
set_option linter.unusedVariables false
namespace Go.Proofs.YthnkakjelhnjdaaGreatDoor
open Go.RowKit Go.Maps

structure ActV where
  kind : Nat
  at_ : Int
  vb : Value
  b : List UInt8
  keep : Nat
  torn : Int
def aCells (a : ActV) : List Value := [.int .u8 (a.kind : Int), .int .i64 a.at_, a.vb, .int .u64 (a.keep : Int), .int .i64 a.torn]
structure ActOk (w : World) (a : ActV) : Prop where
  kind : a.kind < 256
  at1 : -9223372036854775808 ≤ a.at_
  at2 : a.at_ ≤ 9223372036854775807
  keep : a.keep < 18446744073709551616
  t1 : -9223372036854775808 ≤ a.torn
  t2 : a.torn ≤ 9223372036854775807
  b : SlAt 1 bCell w w.heap.size a.vb a.b
  len : a.b.length ≤ 140737488355328
structure ActsAt (w : World) (v : Value) (l : List ActV) : Prop where
  sl : SlAt 5 aCells w w.heap.size v l
  ok : ∀ a ∈ l, ActOk w a
theorem acts_cell {w : World} {v : Value} {l : List ActV} (h : ActsAt w v l) {i : Nat} (hi : i < l.length) : ∃ g off cap, v = .slice (some ⟨g, off, none⟩) l.length cap ∧ g < w.heap.size ∧ w.cell? ⟨g, off + i * 5, none⟩ = some (.int .u8 ((l[i]'hi).kind : Int)) ∧ w.cell? ⟨g, off + i * 5 + 1, none⟩ = some (.int .i64 (l[i]'hi).at_) ∧ w.cell? ⟨g, off + i * 5 + 2, none⟩ = some (l[i]'hi).vb ∧ w.cell? ⟨g, off + i * 5 + 3, none⟩ = some (.int .u64 ((l[i]'hi).keep : Int)) ∧ w.cell? ⟨g, off + i * 5 + 4, none⟩ = some (.int .i64 (l[i]'hi).torn) := by
  obtain ⟨ao, cap, rfl, h1, h2, h3⟩ := h.sl
  obtain ⟨g, off, rfl, hg, hc⟩ := h3 (by omega)
  exact ⟨g, off, cap, rfl, hg, hc i hi 0 _ rfl, hc i hi 1 _ rfl, hc i hi 2 _ rfl, hc i hi 3 _ rfl, hc i hi 4 _ rfl⟩
set_option maxHeartbeats 2000000 in
set_option maxRecDepth 1000000 in
theorem great_any (w : World) (v : Value) (l : List ActV) (h : ActsAt w v l) :
    Calls Tryz.prog 4 #[v] w fun e w' => w = w' ∧ (e = .returned (.bool true) ∨ (e = .returned (.bool false) ∧ l.length ≤ 200 ∧ ∀ a ∈ l, a.b.length ≤ 20000)) := by
  obtain ⟨ao, cap, ev, h1, h2, -⟩ := h.sl
  unfold maxLen at h2
  subst ev
  go_enter Tryz.func4, Tryz.ntmps4
  go_wp2
  go_loopw [3, 4] (fun s x wr => ∃ k m : Nat, k ≤ l.length ∧ x = .int .i64 (k : Int) ∧ s = .int .i64 (m : Int) ∧ m ≤ 20000 ∧ (∀ a ∈ l.take k, a.b.length ≤ 20000) ∧ w = wr) (fun _ x _ => l.length - (intOf x).toNat)
  case atStart => exact ⟨0, 0, Nat.zero_le _, rfl, rfl, by omega, by simp, rfl⟩
  case round =>
    obtain ⟨k, m, hk, rfl, rfl, hm, hle, rfl⟩ := hrel
    by_cases hkn : k < l.length
    · obtain ⟨g, off, cap', e, hg, -, -, c2, -, -⟩ := acts_cell h hkn
      obtain ⟨rfl, rfl⟩ : ao = some ⟨g, off, none⟩ ∧ cap = cap' := by cases e; exact ⟨rfl, rfl⟩
      clear e
      have hok := h.ok _ (List.getElem_mem hkn)
      have htk := List.take_succ_eq_append_getElem hkn
      generalize l[k]'hkn = a at *
      obtain ⟨ab, cb, eb, hb1, hb2, -⟩ := hok.b
      have hlen := hok.len
      rw [eb] at c2
      have k1 : (k : Int) < (l.length : Int) := by omega
      have k2 : ¬ l.length ≤ k := by omega
      have k3 : (l.length : Int) ≤ 9223372036854775807 := by omega
      by_cases hgr : 20000 < m + 1 + a.b.length
      · have g1 : (20000 : Int) < (m : Int) + 1 + (a.b.length : Int) := by omega
        clear hok hle htk
        go_wp2
        go_ret
        exact ⟨rfl, .inl rfl⟩
      · have g1 : ¬ (20000 : Int) < (m : Int) + 1 + (a.b.length : Int) := by omega
        have fin : ∃ k1 m1 : Nat, k1 ≤ l.length ∧ Value.int .i64 ((k : Int) + 1) = .int .i64 (k1 : Int) ∧ Value.int .i64 ((m : Int) + 1 + (a.b.length : Int)) = .int .i64 (m1 : Int) ∧ m1 ≤ 20000 ∧ (∀ a ∈ l.take k1, a.b.length ≤ 20000) := ⟨k + 1, m + 1 + a.b.length, by omega, by simp, by simp, by omega, by
          intro a' ha'
          rw [htk] at ha'
          simp only [List.mem_append, List.mem_singleton] at ha'
          rcases ha' with h' | h'
          · exact hle a' h'
          · rw [h']; omega⟩
        clear hok hle htk
        go_wp2
        go_roundw
        case rel => first | exact fin | (obtain ⟨z1, z2, z3, z4, z5, z6, z7⟩ := fin; first | exact ⟨z1, z2, z3, z4, z5, z6, z7, rfl⟩ | exact ⟨z1, z2, z3, z4, z5, z6, z7, trivial⟩ | exact ⟨z1, z2, z3, z4, z5, z6, z7⟩)
        case measure => first | (simp [intOf]; done) | (simp [intOf]; omega)
    · have ek : k = l.length := by omega
      subst ek
      rw [List.take_length] at hle
      have k1 : ¬ (l.length : Int) < (l.length : Int) := by omega
      by_cases h200 : 200 < l.length
      · have e1 : (200 : Int) < (l.length : Int) := by omega
        go_wp2
        go_ret
        exact ⟨rfl, .inl rfl⟩
      · have e1 : ¬ (200 : Int) < (l.length : Int) := by omega
        go_wp2
        go_ret
        exact ⟨rfl, .inr ⟨rfl, by omega, hle⟩⟩
end Go.Proofs.YthnkakjelhnjdaaGreatDoor
