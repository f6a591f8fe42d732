/- What the walk of SectorsPlay leans on. -/
import Derived.Test.YthnkakjelhnjdaaGreatDoorEActs
set_option linter.unusedSimpArgs false
set_option linter.unusedVariables false
namespace Go.Proofs.YthnkakjelhnjdaaGreatDoor
open Go.RowKit Go.Maps

theorem five_cells {w : World} {B : Nat} {a b c d e : Value} {t : TypeId} (h : w.heap[B]? = some (.cells #[a, b, c, d, e] t (0, 0))) : w.cell? ⟨B, 0, none⟩ = some a ∧ w.cell? ⟨B, 1, none⟩ = some b ∧ w.cell? ⟨B, 2, none⟩ = some c ∧ w.cell? ⟨B, 3, none⟩ = some d ∧ w.cell? ⟨B, 4, none⟩ = some e := by simp [World.cell?, h]
/-- A twin, but for its spare element, is a list of bytes. -/
theorem twin_inE {w : World} {base cap : Nat} {g : Nat} {l : List UInt8} (h : w.ownsRow base 5 1 (.slice (some ⟨g, 0, none⟩) (l.length + 1) cap) (l.length + 1) (l.flatMap bCell ++ spareByte)) : InAt w w.heap.size (.slice (some ⟨g, 0, none⟩) l.length cap) l := by
  obtain ⟨h1, -, h3, h4⟩ := cell_twByte h
  refine ⟨_, _, rfl, by omega, h4, fun hp => ⟨g, 0, rfl, ?_, fun i hi j u hu => by rw [Nat.zero_add]; exact h1 i hi j u hu⟩⟩
  exact World.block_lt_of_cell? w _ (h1 0 hp 0 _ rfl)
theorem great_bool (w : World) (v : Value) (l : List ActV) (h : ActsAt w v l) :
    Calls Tryz.prog 4 #[v] w fun e w' => w = w' ∧ ∃ g : Bool, e = .returned (.bool g) ∧ (g = false → l.length ≤ 200 ∧ ∀ a ∈ l, a.b.length ≤ 20000) :=
  (great_any w v l h).mono fun e w' ⟨h1, h2⟩ => ⟨h1, h2.elim (fun e => ⟨true, e, fun h => by cases h⟩) (fun ⟨e, h⟩ => ⟨false, e, fun _ => h⟩)⟩
/-- Both disks are made, then the book. -/
theorem pi_new {w w1 w2 : World} {B m : Nat} {SD : List Nat} (k1 : Below w.heap.size w w1) (k2 : DkAt w1 B SD (Dk.new m)) (k3 : ∀ x ∈ SD, w.heap.size ≤ x) (k4 : RfAt w2 w1.heap.size (fun x => w1.heap.size ≤ x ∧ x < w2.heap.size) (Dk.new m)) (k5 : Below w1.heap.size w1 w2) :
    PI w (w2.alloc (.cells #[.int .i64 0, .slice none 0 0, .slice none 0 0, .slice none 0 0, .slice none 0 0, .slice none 0 0, .slice none 0 0, .slice none 0 0, .slice none 0 0, .slice none 0 0, .slice none 0 0, .slice none 0 0, .slice none 0 0] 44)) (fun _ => False) w2.heap.size B w1.heap.size 0 (Dk.new m) (Dk.new m) := by
  have hz1 := k1.size
  have hz2 := k5.size
  have hbS : ∀ x, BkS w2.heap.size (.slice none 0 0) [] x → x = w2.heap.size := by
    rintro x (h | h | ⟨y, hy, _⟩)
    · exact h
    · cases h
    · cases hy
  refine ⟨SD, _, _, _, (k2.below k5).below (below_one _ _), k4.below (below_one _ _), BkB.new w2, (k1.trans (k5.mono hz1)).trans ((below_one w2 _).mono (by omega)), k3, fun x hx => by have := hx.1; omega, fun x hx => by rw [hbS x hx]; omega, fun x hx hm => ?_, fun x hx hm => ?_, fun x hx hm => ?_, fun x hx => hx.elim⟩
  · have := k2.lt x hx; have := hm.1; omega
  · have := k2.lt x hx; have := hbS x hm; omega
  · have := hbS x hm; have := hx.2; omega
section
variable {w0 W : World} {K : Nat → Prop} {bk B C n : Nat} {d d' : Dk}
theorem p_waits (h : PI w0 W K bk B C n d d') : Calls Tryz.prog 19 #[.pointer (some ⟨B, 0, none⟩)] W fun e w' => e = .returned (.int .i64 (d.ws.length : Int)) ∧ W = w' := by
  obtain ⟨SD, S, v', E, h⟩ := h
  exact waits_ok h.dk
theorem p_rwaits (h : PI w0 W K bk B C n d d') : Calls Tryz.prog 20 #[.pointer (some ⟨C, 0, none⟩)] W fun e w' => e = .returned (.int .i64 (d'.ws.length : Int)) ∧ W = w' := by
  obtain ⟨SD, S, v', E, h⟩ := h
  exact rwaits_ok h.rf
theorem p_like (h : PI w0 W K bk B C n d d) (hn : d.ws.length ≤ 1000000) : Calls Tryz.prog 18 #[.pointer (some ⟨B, 0, none⟩), .pointer (some ⟨C, 0, none⟩)] W fun e W' => e = .returned (.bool true) ∧ PI w0 W' K bk B C n d d ∧ Same K W W' ∧ Below W.heap.size W W' := by
  obtain ⟨SD, S, v', E, hx⟩ := id h
  exact (like_ok (base := 0) ⟨SD, hx.dk, fun _ _ => Nat.zero_le _⟩ hx.rf hn).mono fun e W' ⟨k1, k2⟩ => ⟨k1, (h.kept k2).1, (h.kept k2).2, k2⟩
theorem p_apart (h : PI w0 W K bk B C n d d') : Calls Tryz.prog 22 #[ptr bk] W fun e w' => e = .returned (.bool true) ∧ Below w0.heap.size w0 w' := by
  obtain ⟨SD, S, v', E, h⟩ := h
  exact apartB h.bb h.be h.b3
theorem p_readbad (h : PI w0 W K bk B C n d d') (i : Int) (hi : i < 0 ∨ (d.sure.length : Int) ≤ i) : Calls Tryz.prog 12 #[.pointer (some ⟨B, 0, none⟩), .int .i64 i] W fun e w' => e = .returned (.tuple #[.slice none 0 0, .int .i64 1]) ∧ W = w' := by
  obtain ⟨SD, S, v', E, h⟩ := h
  exact read_bad h.dk i hi
theorem p_rreadbad (h : PI w0 W K bk B C n d d') (i : Int) (hi : i < 0 ∨ (d'.sure.length : Int) ≤ i) : Calls Tryz.prog 13 #[.pointer (some ⟨C, 0, none⟩), .int .i64 i] W fun e w' => e = .returned (.tuple #[.slice none 0 0, .int .i64 1]) ∧ W = w' := by
  obtain ⟨SD, S, v', E, h⟩ := h
  exact rread_bad h.rf i hi
theorem p_writebad (h : PI w0 W K bk B C n d d') (i : Int) (ao : Option Addr) (m c : Nat) (hn : m ≤ 9223372036854775807) (hi : (i < 0 ∨ (d.sure.length : Int) ≤ i) ∨ 64 < m) : Calls Tryz.prog 8 #[.pointer (some ⟨B, 0, none⟩), .int .i64 i, .slice ao m c] W fun e w' => e = .returned (.int .i64 1) ∧ W = w' := by
  obtain ⟨SD, S, v', E, h⟩ := h
  exact write_bad h.dk i ao m c hn hi
theorem p_rwritebad (h : PI w0 W K bk B C n d d') (i : Int) (ao : Option Addr) (m c : Nat) (hn : m ≤ 9223372036854775807) (hi : (i < 0 ∨ (d'.sure.length : Int) ≤ i) ∨ 64 < m) : Calls Tryz.prog 9 #[.pointer (some ⟨C, 0, none⟩), .int .i64 i, .slice ao m c] W fun e w' => e = .returned (.int .i64 1) ∧ W = w' := by
  obtain ⟨SD, S, v', E, h⟩ := h
  exact rwrite_bad h.rf i ao m c hn hi
theorem p_failbad (h : PI w0 W K bk B C n d d') (keep torn : Int) (ht : torn < -1) : Calls Tryz.prog 16 #[.pointer (some ⟨B, 0, none⟩), .int .u64 keep, .int .i64 torn] W fun e w' => e = .returned (.tuple #[.pointer none, .int .i64 1]) ∧ W = w' := by
  obtain ⟨SD, S, v', E, h⟩ := h
  exact fail_bad h.dk keep torn ht
theorem p_ok (h : PI w0 W K bk B C n d d') : d.ok ∧ d'.ok ∧ Below w0.heap.size w0 W ∧ w0.heap.size ≤ W.heap.size := by
  obtain ⟨SD, S, v', E, h⟩ := h
  exact ⟨h.dk.ok, h.rf.ok, h.be, h.be.size⟩
end
end Go.Proofs.YthnkakjelhnjdaaGreatDoor
