/- Texts of this proof, laid into one. -/
import Derived.Test.YtndjgilheleplaaGreatDoorRPut3M
import Derived.Test.YtndjgilheleplaaGreatDoorRGet3M
import Derived.Test.YtndjgilheleplaaGreatDoorM2
/- What is owned can be read. -/
set_option linter.unusedSimpArgs false
set_option linter.unusedVariables false
namespace Go.Proofs.YtndjgilheleplaaGreatDoor
open Go.RowKit

theorem flat_get {α : Type} {f : α → List Value} {size : Nat} (hf : ∀ x, (f x).length = size) : ∀ (l : List α) (i : Nat) (hi : i < l.length) (j : Nat), j < size → (l.flatMap f)[i * size + j]? = (f (l[i]'hi))[j]? := by
  intro l
  induction l with
  | nil => intro i hi; cases hi
  | cons x l ih =>
    intro i hi j hj
    rw [List.flatMap_cons]
    cases i with
    | zero => rw [Nat.zero_mul, Nat.zero_add, List.getElem?_append_left (by rw [hf]; exact hj)]; rfl
    | succ i =>
      rw [List.getElem?_append_right (by rw [hf, Nat.succ_mul]; omega), hf]
      have e : (i + 1) * size + j - size = i * size + j := by rw [Nat.succ_mul]; omega
      rw [e, ih i (by simpa using hi) j hj]
      rfl
theorem sl_own {α : Type} {f : α → List Value} {w : World} {base : Nat} {e : TypeId} {size : Nat} {v : Value} {l : List α} (hf : ∀ x, (f x).length = size) (h : w.ownsRow base e size v l.length (l.flatMap f)) : SlAt size f w w.heap.size v l := by
  have hlen := h.1
  rcases h.2 with ⟨rfl, hn⟩ | ⟨g, cap, cur, rfl, hb, hg, hnc, hcm, hcs, ht⟩
  · exact ⟨none, 0, by rw [hn], by omega, by unfold maxLen; omega, fun hp => by omega⟩
  · refine ⟨_, cap, rfl, hnc, hcm, fun hp => ⟨g, 0, rfl, ?_, fun i hi j u hu => ?_⟩⟩
    · rcases Nat.lt_or_ge g w.heap.size with h' | h'
      · exact h'
      · rw [Array.getElem?_eq_none h'] at hg; cases hg
    · have hj : j < size := by
        rcases Nat.lt_or_ge j size with h' | h'
        · exact h'
        · rw [List.getElem?_eq_none (by rw [hf]; exact h')] at hu; cases hu
      have hlt : i * size + j < l.length * size := by
        have : (i + 1) * size ≤ l.length * size := Nat.mul_le_mul_right _ hi
        rw [Nat.succ_mul] at this; omega
      rw [Nat.zero_add, World.ownsRow.cellAt h _ hlt, flat_get hf l i hi j hj]
      exact hu
theorem bcells_flat (bs : List UInt8) : bs.flatMap bCell = bcells bs := by
  unfold bcells bCell
  induction bs with
  | nil => rfl
  | cons c bs ih => rw [List.flatMap_cons, ih]; rfl
theorem in_own {w : World} {base : Nat} {v : Value} {bs : List UInt8} (h : BsAt w base v bs) : InAt w w.heap.size v bs := by
  unfold BsAt at h
  rw [← bcells_flat] at h
  exact sl_own (fun _ => rfl) h
theorem own_below {w w' : World} {base : Nat} {e : TypeId} {size : Nat} {v : Value} {n : Nat} {xs : List Value} (h : w.ownsRow base e size v n xs) (hk : Below w.heap.size w w') : w'.ownsRow base e size v n xs := by
  refine ⟨h.1, ?_⟩
  rcases h.2 with h1 | ⟨g, cap, cur, h1, h2, h3, h4⟩
  · exact .inl h1
  · have hg : g < w.heap.size := by
      rcases Nat.lt_or_ge g w.heap.size with h' | h'
      · exact h'
      · rw [Array.getElem?_eq_none h'] at h3; cases h3
    exact .inr ⟨g, cap, cur, h1, h2, by rw [hk.block g hg]; exact h3, h4⟩
theorem BsAt.below {w w' : World} {base : Nat} {v : Value} {bs : List UInt8} (h : BsAt w base v bs) (hk : Below w.heap.size w w') : BsAt w' base v bs := own_below h hk
theorem opCells_len (x : OpD) : (opCells x).length = 4 := rfl
theorem rowCells_len (x : RowD) : (rowCells x).length = 2 := rfl
theorem chCells_len (x : ChD) : (chCells x).length = 3 := rfl
theorem resCells_len (x : ResP) : (resCells x).length = 1 := rfl
theorem OwnRes.at {w : World} {base : Nat} {v : Value} {l : List ResP} (h : OwnRes w base v l) (hs : ∀ p ∈ l, ∀ x ∈ p.2, rowSm x) : ResAt w w.heap.size v l :=
  ⟨sl_own resCells_len h.own, fun p hp => ⟨sl_own rowCells_len (h.rows p hp), hs p hp⟩⟩
theorem OwnRes.below {w w' : World} {base : Nat} {v : Value} {l : List ResP} (h : OwnRes w base v l) (hk : Below w.heap.size w w') : OwnRes w' base v l :=
  ⟨own_below h.own hk, fun p hp => own_below (h.rows p hp) hk, h.apart, h.pair⟩
theorem below_one (w : World) (o : Obj) : Below w.heap.size w (w.alloc o) := (Below.refl _ _).alloc (Nat.le_refl _) o
theorem lit_own {α : Type} {f : α → List Value} (w : World) (t : TypeId) (size : Nat) (hf : ∀ x, (f x).length = size) (l : List α) (hl : l.length ≤ maxLen) (hn : (l.flatMap f).length = l.length * size) :
    (w.alloc (.cells (l.flatMap f).toArray t)).ownsRow w.heap.size t size (.slice (some ⟨w.heap.size, 0, none⟩) l.length l.length) l.length (l.flatMap f) := by
  have := World.ownsRow_lit (base := w.heap.size) (e := t) (size := size) w (l.flatMap f).toArray l.length (Nat.le_refl _) hl (by simpa using hn)
  simpa using this
theorem small16 {s : ByteArray} (h : chk s = true) : s.size ≤ maxLen := by have := chk_size h; unfold maxLen; omega

end Go.Proofs.YtndjgilheleplaaGreatDoor
/- The walks of the document's own Count, Number and text: a count, a number, a text as bytes. -/
set_option linter.unusedSimpArgs false
set_option linter.unusedVariables false
namespace Go.Proofs.YtndjgilheleplaaGreatDoor
open Go.RowKit

theorem bs_lit (w : World) (bs : List UInt8) (vs : List Value) (h : vs = bcells bs) (n : Nat) (hn : bs.length = n) (hm : n ≤ maxLen) : BsAt (w.alloc (.cells vs.toArray 5)) w.heap.size (.slice (some ⟨w.heap.size, 0, none⟩) n n) bs := by
  subst h hn
  unfold BsAt
  have := World.ownsRow_lit (base := w.heap.size) (e := 5) (size := 1) w (bcells bs).toArray bs.length (Nat.le_refl _) hm (by simp [bcells_len])
  simpa using this

set_option maxHeartbeats 2000000 in
set_option maxRecDepth 1000000 in
theorem refCount_any (w : World) (n : Nat) (hn : n < 65536) :
    Calls Tryz.prog 53 #[.int .i64 (n : Int)] w fun e w' => ∃ v, e = .returned v ∧ BsAt w' w.heap.size v (be2 n) ∧ Below w.heap.size w w' := by
  have h := bs_lit w (be2 n) [Value.int .u8 ((n : Int) / 256), Value.int .u8 ((n : Int) % 256)] (be2_cells hn) 2 rfl (by decide)
  have b := below_one w (.cells #[Value.int .u8 ((n : Int) / 256), Value.int .u8 ((n : Int) % 256)] 5)
  go_enter Tryz.func53, Tryz.ntmps53
  go_wp2
  go_ret
  exact ⟨_, rfl, h, b⟩

set_option maxHeartbeats 2000000 in
set_option maxRecDepth 1000000 in
theorem refNumber_any (w : World) (x : UInt32) :
    Calls Tryz.prog 55 #[.int .u32 (x.toNat : Int)] w fun e w' => ∃ v, e = .returned v ∧ BsAt w' w.heap.size v (be4 x.toNat) ∧ Below w.heap.size w w' := by
  have hx := u32_lt x
  obtain ⟨n, hn⟩ : ∃ n, n = x.toNat := ⟨_, rfl⟩
  rw [← hn] at hx ⊢
  clear hn
  have h := bs_lit w (be4 n) [Value.int .u8 ((n : Int) / 16777216 % 256), Value.int .u8 ((n : Int) / 65536 % 256), Value.int .u8 ((n : Int) / 256 % 256), Value.int .u8 ((n : Int) % 256)] (be4_cells hx) 4 rfl (by decide)
  have b := below_one w (.cells #[Value.int .u8 ((n : Int) / 16777216 % 256), Value.int .u8 ((n : Int) / 65536 % 256), Value.int .u8 ((n : Int) / 256 % 256), Value.int .u8 ((n : Int) % 256)] 5)
  clear hx
  go_enter Tryz.func55, Tryz.ntmps55
  go_wp2
  go_ret
  exact ⟨_, rfl, h, b⟩

set_option maxHeartbeats 2000000 in
set_option maxRecDepth 1000000 in
theorem refText_any (w : World) (s : ByteArray) (hz : s.size < 256) :
    Calls Tryz.prog 54 #[.string s] w fun e w' => ∃ v, e = .returned v ∧ BsAt w' w.heap.size v (txt s) ∧ Below w.heap.size w w' := by
  obtain ⟨i0, hi, hz0, hz1, hz2⟩ := info_parts info_u8
  have h : BsAt (w.alloc (.cells #[.int .u8 (s.size : Int)] 5)) w.heap.size (.slice (some ⟨w.heap.size, 0, none⟩) 1 1) [UInt8.ofNat s.size] := bs_lit w [UInt8.ofNat s.size] [.int .u8 (s.size : Int)] (by simp [bcells, bv, u8_nat hz]) 1 rfl (by decide)
  have b := below_one w (.cells #[.int .u8 (s.size : Int)] 5)
  have hs : w.heap.size ≤ (w.alloc (.cells #[.int .u8 (s.size : Int)] 5)).heap.size := by simp
  have fin : ∀ v' w1, w1.ownsRow w.heap.size 5 1 v' (1 + s.size) (bcells [UInt8.ofNat s.size] ++ byteCells s) → (w.alloc (.cells #[.int .u8 (s.size : Int)] 5)).grownBy w1 (Value.ownBlock (.slice (some ⟨w.heap.size, 0, none⟩) 1 1)) → BsAt w1 w.heap.size v' (txt s) ∧ Below w.heap.size w w1 := by
    intro v' w1 ho hg
    refine ⟨?_, b.grown hg hs (fun k e => own_row_ge h k e)⟩
    unfold BsAt
    rw [txt_len]
    have e : bcells (txt s) = bcells [UInt8.ofNat s.size] ++ byteCells s := by rw [byteCells_eq, ← bcells_app]; rfl
    rw [e, Nat.add_comm]
    exact ho
  have HL : s.size ≤ 300 := by omega
  go_enter Tryz.func54, Tryz.ntmps54
  go_wp2_with (at_builtin; refine wpList_append_own_src _ rfl (.tmp 6) (.tmp 7) 27 9 rfl w.heap.size 5 i0 (.int .u8 0) 1 1 Tryz.underlying27 hi hz0 hz1 hz2 rfl (by decide) _ 1 _ rfl h (.string s) s.size (byteCells s) rfl (Src.ofString _ Tryz.underlying9 s) (by unfold maxLen; omega) (by omega) hs ?_; intro v' w1 hown1 hg _; have R := fin v' w1 hown1 hg)
  go_ret
  exact ⟨_, rfl, R⟩

/-- What is appended to bytes that are owned: other bytes that are owned. -/
theorem src_own {w : World} {base : Nat} {v : Value} {bs : List UInt8} (h : BsAt w base v bs) (hp : 0 < bs.length) : ∃ g cap, v = .slice (some ⟨g, 0, none⟩) bs.length cap ∧ Src Tryz.prog 1 27 (.slice (some ⟨g, 0, none⟩) bs.length cap) bs.length (bcells bs) w := by
  obtain ⟨g, cap, hv, _, _⟩ := h.form hp
  subst hv
  exact ⟨g, cap, rfl, Src.ofSlice _ Tryz.underlying27 ⟨g, 0, none⟩ bs.length cap (bcells bs) (by rw [bcells_len]; omega) (World.ownsRow.cells h rfl) (bcells_one _)⟩
theorem bs_next {w W w1 : World} {H : Nat} {v v' : Value} {bs news : List UInt8} (h : BsAt W H v bs) (hB : Below H w W) (hs : H ≤ W.heap.size) (ho : w1.ownsRow H 5 1 v' (bs.length + news.length) (bcells bs ++ bcells news)) (hg : W.grownBy w1 v.ownBlock) : BsAt w1 H v' (bs ++ news) ∧ Below H w w1 := by
  refine ⟨?_, hB.grown hg hs (fun k e => own_row_ge h k e)⟩
  unfold BsAt
  rw [List.length_append, bcells_app]; exact ho
end Go.Proofs.YtndjgilheleplaaGreatDoor
