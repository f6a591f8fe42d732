/- A list of messages as an argument; the walk of MsgsSize. -/
import Derived.Test.YtpmmdbdooclcoaaQOpen
import Derived.Test.YtpmmdbdooclcoaaQMsg
set_option linter.unusedSimpArgs false
set_option linter.unusedVariables false
namespace Go.Proofs.Ytpmmdbdooclcoaa
open Go.ChangeShapes Go.WideShapes Go.ChangeAt Go.RowKit Go.Deep

/-- A list of messages that can be read, below block number 'lim'. -/
structure MsgsAt (w : World) (lim : Nat) (v : Value) (ms : List MsgO) : Prop where
  sl : SlAt 6 MsgO.cells w lim v ms
  at' : ∀ x ∈ ms, MsgAt w lim x.vo x.vr x.d x.rs
theorem MsgsAt.below {w w' : World} {lim B : Nat} {v : Value} {ms : List MsgO} (h : MsgsAt w lim v ms) (hb : Below B w w') (hB : lim ≤ B) : MsgsAt w' lim v ms := ⟨h.sl.below hb hB, fun x hx => (h.at' x hx).below hb hB⟩
theorem MsgsAt.mono {w : World} {lim lim' : Nat} {v : Value} {ms : List MsgO} (h : MsgsAt w lim v ms) (hB : lim ≤ lim') : MsgsAt w lim' v ms := ⟨h.sl.mono hB, fun x hx => (h.at' x hx).mono hB⟩
theorem MsgsAt.up {w w' : World} {v : Value} {ms : List MsgO} (h : MsgsAt w w.heap.size v ms) (hb : Below w.heap.size w w') : MsgsAt w' w'.heap.size v ms := (h.below hb (Nat.le_refl _)).mono hb.size
/-- How much a message may have in it by the reach. -/
structure MsgO.sz (x : MsgO) : Prop where
  o : ∀ o ∈ x.d.ops, opSz o
  r : ∀ p ∈ x.rs, resSz p
  lo : x.d.ops.length ≤ 140737488351232
  lr : x.rs.length ≤ 140737488351232
/-- And if it is but some. -/
structure MsgO.few (x : MsgO) : Prop where
  lo : x.d.ops.length ≤ 5000
  lr : x.rs.length ≤ 5000
  lw : ∀ p ∈ x.rs, p.2.length ≤ 5000
section
variable {H : Type} {enc : TypeId × Value → H} {W : World} {base : Nat} {sp : Nat → Bool} {held : Bool}
theorem el_msgO (n : Nat) (cs : List Value) (x : DataW H × List MemPlace) (h : DataW.trod enc Try.prog W base sp held n 27 cs = some x) (hw : Light Try.prog 27 x.1) (hl : cs.length = 6) :
    ∃ y : MsgO, cs = y.cells ∧ (MsgAt W W.heap.size y.vo y.vr y.d y.rs ∧ y.sz) := by
  obtain ⟨vo, vr, m, l, h1, h2, h3, h4, h5, h6⟩ := el_msgB n cs x h hw hl
  exact ⟨⟨m, vo, vr, l⟩, h1, h2, h3, h4, h5, h6⟩
theorem arg_msgsS {r : Reach} {b0 : Nat} {v : Value} {d : DataW H} {p : List MemPlace} (hv : Value.okWide Try.prog W r b0 29 v) (h : DataW.Trod enc Try.prog W base sp held 29 v d p) (hw : Light Try.prog 29 d) :
    ∃ ms : List MsgO, MsgsAt W W.heap.size v ms ∧ (∀ x ∈ ms, x.sz) ∧ ms.length ≤ 140737488351232 := by
  obtain ⟨fuel, hf⟩ := arg_slice Try.underlying29 hv h
  obtain ⟨l, h1, h2⟩ := @open_listS _ enc W base sp held MsgO ⟨⟨⟨0, 0, 0, 0, [], []⟩, .slice none 0 0, .slice none 0 0, []⟩⟩ _ MsgO.cells (fun y => MsgAt W W.heap.size y.vo y.vr y.d y.rs ∧ y.sz) 6 _ _ _ _ _ Try.underlying29 (by kernel_rfl) (by omega) MsgO.cells_len el_msgO hf hw
  obtain ⟨ao, cap, hv, -, -, -⟩ := id h1
  have hb := light_len Try.underlying29 hf hw hv
  rw [show Try.prog.bytesOf 27 = 56 by kernel_rfl] at hb
  exact ⟨l, ⟨h1, fun x hx => (h2 x hx).1⟩, fun x hx => (h2 x hx).2, by omega⟩
theorem arg_bool {r : Reach} {b0 : Nat} {v : Value} {d : DataW H} {p : List MemPlace} (hv : Value.okWide Try.prog W r b0 4 v) (h : DataW.Trod enc Try.prog W base sp held 4 v d p) : ∃ b : Bool, v = .bool b := by
  obtain ⟨b, h1, -⟩ := open_bool Try.underlying4 hv h
  exact ⟨b, h1⟩
end
theorem msgSizeO_any (w : World) (x : MsgO) (h : MsgAt w w.heap.size x.vo x.vr x.d x.rs) (hs : x.sz) :
    Calls Try.prog 19 #[x.v] w fun e w' => (∃ z : Int, e = .returned (.int .i64 z) ∧ 1 ≤ z ∧ z ≤ 1125899906842625 ∧ (z ≤ 5000 → x.few)) ∧ Below w.heap.size w w' :=
  (msgSizeC_any w _ _ x.d x.rs h hs.o hs.r hs.lo hs.lr).mono fun e w' ⟨⟨z, h1, h2, h3, h4⟩, h5⟩ => ⟨⟨z, h1, h2, h3, fun h => ⟨(h4 h).1, (h4 h).2.1, (h4 h).2.2⟩⟩, h5⟩
set_option maxHeartbeats 2000000 in
set_option maxRecDepth 1000000 in
theorem msgsSize_any (w : World) (va : Value) (ms : List MsgO) (ha : MsgsAt w w.heap.size va ms) (hs : ∀ x ∈ ms, x.sz) (hl : ms.length ≤ 140737488351232) :
    Calls Try.prog 16 #[va] w fun e w' => (∃ z : Int, e = .returned (.int .i64 z) ∧ 0 ≤ z ∧ (z ≤ 5000 → ∀ x ∈ ms, x.few)) ∧ Below w.heap.size w w' := by
  obtain ⟨⟨ao, ca, rfl, ha1, ha2, ha3⟩, hra⟩ := ha
  unfold maxLen at ha2
  go_enter Try.func16, Try.ntmps16
  go_wp2
  go_loopw [3, 4] (fun s i wr => ∃ (k : Nat) (z : Int), k ≤ ms.length ∧ i = .int .i64 k ∧ s = .int .i64 z ∧ 0 ≤ z ∧ z ≤ 1266637395193857 ∧ Hid (z ≤ 5000 → ∀ x ∈ ms.take k, x.few) ∧ Below w.heap.size w wr) (fun _ i _ => ms.length - (intOf i).toNat)
  case atStart => exact ⟨0, _, by omega, rfl, rfl, by omega, by omega, (fun _ x hx => by simp at hx), Below.refl _ _⟩
  case round =>
    obtain ⟨k, z, hk, rfl, rfl, hz0, hz1, hF, hB⟩ := hrel
    by_cases h1 : k < ms.length
    · by_cases h2 : z ≤ 1048576
      · obtain ⟨b1, o1, rfl, hl1, hc1⟩ := ha3 (by omega)
        obtain ⟨x, hx⟩ : ∃ x, x = ms[k]'h1 := ⟨_, rfl⟩
        have hxm : x ∈ ms := by rw [hx]; exact List.getElem_mem _
        have c : ∀ j u, x.cells[j]? = some u → wr.cell? ⟨b1, o1 + k * 6 + j, none⟩ = some u := fun j u hu => (hB.cell (p := ⟨b1, _, none⟩) hl1).trans (hc1 k h1 j u (by rw [← hx]; exact hu))
        have p0 := c 0 _ rfl
        have p1 := c 1 _ rfl
        have p2 := c 2 _ rfl
        have p3 := c 3 _ rfl
        have p4 := c 4 _ rfl
        have p5 := c 5 _ rfl
        simp only [Nat.add_zero] at p0
        have R := (hra x hxm).below hB (Nat.le_refl _) |>.mono hB.size
        have ks := msgSizeO_any wr x R (hs x hxm)
        obtain ⟨a1, n1, a2, n2, e1, e2⟩ := R.form
        have hnx : Hid (∀ zx : Int, 1 ≤ zx → (zx ≤ 5000 → x.few) → z + zx ≤ 5000 → ∀ y ∈ ms.take (k + 1), y.few) := fun zx hx1 hx2 hx3 y hy => by
          rw [List.take_succ_eq_append_getElem h1] at hy
          rcases List.mem_append.mp hy with hy | hy
          · exact hF.out (by omega) y hy
          · rw [List.mem_singleton.mp hy, ← hx]; exact hx2 (by omega)
        obtain ⟨d, vo, vr, rs⟩ := x
        simp only at e1 e2
        subst e1
        subst e2
        unfold MsgO.v msgV at ks
        have i1 : (k : Int) < (ms.length : Int) := by omega
        clear c hc1 ha3 hx hxm R hra hF
        go_wp2_with fail
        refine ks.mono ?_
        rintro e w3 ⟨⟨zx, rfl, hz2, hz3, hz4⟩, b3⟩
        have B3 := hB.trans (b3.mono hB.size)
        have HF2 := hnx.out zx hz2 hz4
        have HF3 : Hid (z + zx ≤ 5000 → ∀ y ∈ ms.take (k + 1), y.few) := HF2
        have ew : IntKind.i64.wrap (z + zx) = z + zx := by rw [IntKind.wrap_i64]; omega
        clear ks hnx hz4 b3 hB HF2
        go_wp2
        go_roundw
        case rel => exact ⟨k + 1, z + zx, by omega, by go_num, by first | rfl | (rw [ew]), by omega, by omega, HF3, B3⟩
        case measure => simp [intOf]; omega
      · have hz5 : Hid (z ≤ 5000 → ∀ x ∈ ms, x.few) := fun h => absurd h (by omega)
        clear ha3 hra hF
        go_wp2
        go_ret
        exact ⟨⟨_, rfl, hz0, hz5.out⟩, hB⟩
    · obtain rfl : k = ms.length := by omega
      have hz5 : Hid (z ≤ 5000 → ∀ x ∈ ms, x.few) := by have := hF.out; rw [List.take_length] at this; exact this
      clear ha3 hra hF
      go_wp2
      go_ret
      exact ⟨⟨_, rfl, hz0, hz5.out⟩, hB⟩
end Go.Proofs.Ytpmmdbdooclcoaa
