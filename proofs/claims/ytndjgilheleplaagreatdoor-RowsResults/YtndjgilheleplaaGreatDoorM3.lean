/- Texts of this proof, laid into one. -/
import Derived.Test.YtndjgilheleplaaGreatDoorRMemM
import Derived.Test.YtndjgilheleplaaGreatDoorRAll2M
/- The walks of the writer's methods: a byte, a count, a number, a text, a mark are put behind the bytes that were made so far. -/
set_option linter.unusedSimpArgs false
set_option linter.unusedVariables false
namespace Go.Proofs.YtndjgilheleplaaGreatDoor
open Go.RowKit

theorem info_u8 : (Tryz.prog.info? 5).map (fun i => (i.zero, i.size, i.bytes)) = some (some (.int .u8 0), 1, 1) := by kernel_rfl

theorem news_of {w : World} (cs : List UInt8) (t : TypeId) : ∀ j u, (bcells cs)[j]? = some u → (w.alloc (.cells (bcells cs).toArray t)).cell? ((⟨w.heap.size, 0, none⟩ : Addr).add j) = some u := by
  intro j u hu
  rw [Addr.add_lit, World.cell?_alloc_at _ _ _ _ rfl]
  simpa using hu
theorem news_ofv {w : World} (vs : List Value) (t : TypeId) : ∀ j u, vs[j]? = some u → (w.alloc (.cells vs.toArray t)).cell? ((⟨w.heap.size, 0, none⟩ : Addr).add j) = some u := by
  intro j u hu
  rw [Addr.add_lit, World.cell?_alloc_at _ _ _ _ rfl]
  simpa using hu
theorem own_slice {w : World} {base : Nat} {e : TypeId} {size : Nat} {v : Value} {n : Nat} {xs : List Value} (h : w.ownsRow base e size v n xs) : ∃ ao k c, v = .slice ao k c := by
  rcases h.2 with ⟨rfl, _⟩ | ⟨g, cap, cur, rfl, _⟩
  · exact ⟨_, _, _, rfl⟩
  · exact ⟨_, _, _, rfl⟩

set_option maxHeartbeats 1000000 in
set_option maxRecDepth 1000000 in
theorem small_any (w : World) (B base : Nat) (bs : List UInt8) (c : UInt8) (v : Value) (h : WAt w B base bs v) (hl : bs.length ≤ 1000000000) :
    Calls Tryz.prog 43 #[ptr B, .int .u8 (c.toNat : Int)] w fun e w' => e = .returned (.tuple #[]) ∧ ∃ v', WAt w' B base (bs ++ [c]) v' ∧ WrStep B w w' v v' := by
  obtain ⟨hB, hown, hlt, hs⟩ := h
  obtain ⟨i0, hi, hz0, hz1, hz2⟩ := info_parts info_u8
  have c1 := box_cell hB
  have c2 := box_frozen (i := 0) hB
  have hB' := alloc_block hB (.cells (bcells [c]).toArray 5)
  have hown' := hown.alloc (.cells (bcells [c]).toArray 5)
  have hs' : base ≤ (w.alloc (.cells (bcells [c]).toArray 5)).heap.size := by simp; omega
  have HB : Hid (w.heap[B]? = _) := hB
  clear hB
  go_enter Tryz.func43, Tryz.ntmps43
  go_wp2_with (at_builtin; refine wpList_append_own_src _ rfl (.tmp 8) (.tmp 10) 27 27 rfl base 5 i0 (.int .u8 0) 1 1 Tryz.underlying27 hi hz0 hz1 hz2 rfl (by decide) v bs.length (bcells bs) rfl hown' (.slice (some ⟨w.heap.size, 0, none⟩) 1 1) 1 (bcells [c]) rfl (Src.ofSlice _ Tryz.underlying27 ⟨w.heap.size, 0, none⟩ 1 1 (bcells [c]) rfl (news_of [c] _) (bcells_one _)) (by unfold maxLen; omega) (by omega) hs' ?_; intro v' w1 hown1 hg hat; obtain ⟨ao, nn, cp, rfl⟩ := own_slice hown1; have C := wat_cell hB' hown' hlt hs' hg; obtain ⟨C1, C2⟩ := C; have R := wat_next (news := [c]) hB' hown' hlt hs' ((WrStep.refl B w v).alloc _) hg hat hown1)
  go_end0
  exact ⟨rfl, _, R⟩
theorem be2_cells {n : Nat} (hn : n < 65536) : [Value.int .u8 ((n : Int) / 256), Value.int .u8 ((n : Int) % 256)] = bcells (be2 n) := by
  simp only [bcells, be2, List.map_cons, List.map_nil, bv, List.cons.injEq, Value.int.injEq, true_and, and_true, UInt8.toNat_ofNat']
  omega
theorem be4_cells {n : Nat} (hn : n < 4294967296) : [Value.int .u8 ((n : Int) / 16777216 % 256), Value.int .u8 ((n : Int) / 65536 % 256), Value.int .u8 ((n : Int) / 256 % 256), Value.int .u8 ((n : Int) % 256)] = bcells (be4 n) := by
  simp only [bcells, be4, List.map_cons, List.map_nil, bv, List.cons.injEq, Value.int.injEq, true_and, and_true, UInt8.toNat_ofNat']
  omega

set_option maxHeartbeats 1000000 in
set_option maxRecDepth 1000000 in
theorem count_any (w : World) (B base : Nat) (bs : List UInt8) (n : Nat) (hn : n < 65536) (v : Value) (h : WAt w B base bs v) (hl : bs.length ≤ 1000000000) :
    Calls Tryz.prog 130 #[ptr B, .int .i64 (n : Int)] w fun e w' => e = .returned (.tuple #[]) ∧ ∃ v', WAt w' B base (bs ++ be2 n) v' ∧ WrStep B w w' v v' := by
  obtain ⟨hB, hown, hlt, hs⟩ := h
  obtain ⟨i0, hi, hz0, hz1, hz2⟩ := info_parts info_u8
  have c1 := box_cell hB
  have c2 := box_frozen (i := 0) hB
  obtain ⟨vs, hvs⟩ : ∃ vs, vs = [Value.int .u8 ((n : Int) / 256), Value.int .u8 ((n : Int) % 256)] := ⟨_, rfl⟩
  have E : Hid (vs = bcells (be2 n)) := hvs.trans (be2_cells hn)
  have L : Hid (vs.length = 2) := by rw [hvs]; rfl
  have O : Hid (∀ u ∈ vs, u.oneCell' = true) := by rw [E.out]; exact bcells_one _
  have hB' := alloc_block hB (.cells vs.toArray 5)
  have hown' := hown.alloc (.cells vs.toArray 5)
  have hs' : base ≤ (w.alloc (.cells vs.toArray 5)).heap.size := by simp; omega
  have hnews : ∀ j u, vs[j]? = some u → (w.alloc (.cells vs.toArray 5)).cell? ((⟨w.heap.size, 0, none⟩ : Addr).add j) = some u := news_ofv vs _
  have HK : WrStep B w (w.alloc (.cells vs.toArray 5)) v v := (WrStep.refl B w v).alloc _
  have HB : Hid (w.heap[B]? = _) := hB
  clear hB
  have HV : Hid (vs = _) := hvs
  go_enter Tryz.func130, Tryz.ntmps130
  subst hvs
  go_wp2_with (at_builtin; refine wpList_append_own_src _ rfl (.tmp 8) (.tmp 14) 27 27 rfl base 5 i0 (.int .u8 0) 1 1 Tryz.underlying27 hi hz0 hz1 hz2 rfl (by decide) v bs.length (bcells bs) rfl hown' (.slice (some ⟨w.heap.size, 0, none⟩) 2 2) 2 _ rfl (Src.ofSlice _ Tryz.underlying27 ⟨w.heap.size, 0, none⟩ 2 2 _ rfl hnews O.out) (by unfold maxLen; omega) (by omega) hs' ?_; intro v' w1 hown1 hg hat; obtain ⟨ao, nn, cp, rfl⟩ := own_slice hown1; have C := wat_cell hB' hown' hlt hs' hg; obtain ⟨C1, C2⟩ := C; have R := wat_next (news := be2 n) hB' hown' hlt hs' HK hg hat (by rw [← E.out]; exact hown1))
  go_end0
  exact ⟨rfl, _, R⟩

set_option maxHeartbeats 1000000 in
set_option maxRecDepth 1000000 in
theorem number_any (w : World) (B base : Nat) (bs : List UInt8) (x : UInt32) (v : Value) (h : WAt w B base bs v) (hl : bs.length ≤ 1000000000) :
    Calls Tryz.prog 45 #[ptr B, .int .u32 (x.toNat : Int)] w fun e w' => e = .returned (.tuple #[]) ∧ ∃ v', WAt w' B base (bs ++ be4 x.toNat) v' ∧ WrStep B w w' v v' := by
  obtain ⟨hB, hown, hlt, hs⟩ := h
  obtain ⟨i0, hi, hz0, hz1, hz2⟩ := info_parts info_u8
  have c1 := box_cell hB
  have c2 := box_frozen (i := 0) hB
  have hx := u32_lt x
  obtain ⟨n, hn⟩ : ∃ n, n = x.toNat := ⟨_, rfl⟩
  rw [← hn] at hx ⊢
  clear hn
  obtain ⟨vs, hvs⟩ : ∃ vs, vs = [Value.int .u8 ((n : Int) / 16777216 % 256), Value.int .u8 ((n : Int) / 65536 % 256), Value.int .u8 ((n : Int) / 256 % 256), Value.int .u8 ((n : Int) % 256)] := ⟨_, rfl⟩
  have E : Hid (vs = bcells (be4 n)) := hvs.trans (be4_cells hx)
  have L : Hid (vs.length = 4) := by rw [hvs]; rfl
  have O : Hid (∀ u ∈ vs, u.oneCell' = true) := by rw [E.out]; exact bcells_one _
  have hB' := alloc_block hB (.cells vs.toArray 5)
  have hown' := hown.alloc (.cells vs.toArray 5)
  have hs' : base ≤ (w.alloc (.cells vs.toArray 5)).heap.size := by simp; omega
  have hnews : ∀ j u, vs[j]? = some u → (w.alloc (.cells vs.toArray 5)).cell? ((⟨w.heap.size, 0, none⟩ : Addr).add j) = some u := news_ofv vs _
  have HK : WrStep B w (w.alloc (.cells vs.toArray 5)) v v := (WrStep.refl B w v).alloc _
  have HB : Hid (w.heap[B]? = _) := hB
  clear hB hx
  go_enter Tryz.func45, Tryz.ntmps45
  subst hvs
  go_wp2_with (at_builtin; refine wpList_append_own_src _ rfl (.tmp 8) (.tmp 20) 27 27 rfl base 5 i0 (.int .u8 0) 1 1 Tryz.underlying27 hi hz0 hz1 hz2 rfl (by decide) v bs.length (bcells bs) rfl hown' (.slice (some ⟨w.heap.size, 0, none⟩) 4 4) 4 _ rfl (Src.ofSlice _ Tryz.underlying27 ⟨w.heap.size, 0, none⟩ 4 4 _ rfl hnews O.out) (by unfold maxLen; omega) (by omega) hs' ?_; intro v' w1 hown1 hg hat; obtain ⟨ao, nn, cp, rfl⟩ := own_slice hown1; have C := wat_cell hB' hown' hlt hs' hg; obtain ⟨C1, C2⟩ := C; have R := wat_next (news := be4 n) hB' hown' hlt hs' HK hg hat (by rw [← E.out]; exact hown1))
  go_end0
  exact ⟨rfl, _, R⟩

set_option maxHeartbeats 1000000 in
set_option maxRecDepth 1000000 in
theorem wtext_any (w : World) (B base : Nat) (bs : List UInt8) (s : ByteArray) (hz : s.size < 256) (v : Value) (h : WAt w B base bs v) (hl : bs.length ≤ 900000000) :
    Calls Tryz.prog 44 #[ptr B, .string s] w fun e w' => e = .returned (.tuple #[]) ∧ ∃ v', WAt w' B base (bs ++ txt s) v' ∧ WrStep B w w' v v' := by
  obtain ⟨i0, hi, hz0, hz1, hz2⟩ := info_parts info_u8
  have k := small_any w B base bs (UInt8.ofNat s.size) v h (by omega)
  rw [u8_nat hz] at k
  go_enter Tryz.func44, Tryz.ntmps44
  go_wp2_with fail
  refine k.mono ?_
  rintro e w2 ⟨rfl, v2, hw2, hk2⟩
  clear k h
  obtain ⟨hB, hown, hlt, hs⟩ := hw2
  have c1 := box_cell hB
  have c2 := box_frozen (i := 0) hB
  have HB : Hid (w2.heap[B]? = _) := hB
  clear hB
  go_wp2_with (at_builtin; refine wpList_append_own_src _ rfl (.tmp 13) (.tmp 14) 27 9 rfl base 5 i0 (.int .u8 0) 1 1 Tryz.underlying27 hi hz0 hz1 hz2 rfl (by decide) v2 (bs ++ [UInt8.ofNat s.size]).length (bcells (bs ++ [UInt8.ofNat s.size])) rfl hown (.string s) s.size (byteCells s) rfl (Src.ofString _ Tryz.underlying9 s) ?c1 ?c2 hs ?_; rotate_right; intro v' w1 hown1 hg hat; obtain ⟨ao, nn, cp, rfl⟩ := own_slice hown1; have C := wat_cell HB.out hown hlt hs hg; obtain ⟨C1, C2⟩ := C; have R := wat_next (w := w2) (news := s.data.toList) HB.out hown hlt hs (WrStep.refl B w2 v2) hg hat hown1)
  case c1 => simp only [List.length_append, List.length_cons, List.length_nil]; unfold maxLen; omega
  case c2 => simp only [List.length_append, List.length_cons, List.length_nil]; omega
  go_end0
  have e : bs ++ txt s = bs ++ [UInt8.ofNat s.size] ++ s.data.toList := by simp [txt]
  rw [e]
  exact ⟨rfl, _, R.1, hk2.trans R.2⟩

set_option maxHeartbeats 1000000 in
set_option maxRecDepth 1000000 in
theorem wmark_any (w : World) (B base : Nat) (bs : List UInt8) (g : Bool) (v : Value) (h : WAt w B base bs v) (hl : bs.length ≤ 1000000000) :
    Calls Tryz.prog 124 #[ptr B, .bool g] w fun e w' => e = .returned (.tuple #[]) ∧ ∃ v', WAt w' B base (bs ++ [if g then 1 else 0]) v' ∧ WrStep B w w' v v' := by
  cases g with
  | true =>
    have k := small_any w B base bs 1 v h hl
    go_enter Tryz.func124, Tryz.ntmps124
    go_wp2_with fail
    refine k.mono ?_
    rintro e w2 ⟨rfl, v2, hw2, hk2⟩
    go_wp2
    go_end0
    exact ⟨rfl, v2, hw2, hk2⟩
  | false =>
    have k := small_any w B base bs 0 v h hl
    go_enter Tryz.func124, Tryz.ntmps124
    go_wp2_with fail
    refine k.mono ?_
    rintro e w2 ⟨rfl, v2, hw2, hk2⟩
    go_wp2
    go_end0
    exact ⟨rfl, v2, hw2, hk2⟩
end Go.Proofs.YtndjgilheleplaaGreatDoor
/- Results in memory; the walks of what is asked of each one of them. -/
set_option linter.unusedSimpArgs false
set_option linter.unusedVariables false
namespace Go.Proofs.YtndjgilheleplaaGreatDoor
open Go.RowKit

/-- A result in memory: its slice, and the rows that it holds. -/
abbrev ResP : Type := Value × List RowD
def resCells (p : ResP) : List Value := [p.1]
def resV (p : ResP) : Value := .agg #[p.1]
/-- The rows of a result lie below block number 'lim'. -/
def RowsAt (w : World) (lim : Nat) (p : ResP) : Prop := SlAt 2 rowCells w lim p.1 p.2 ∧ ∀ x ∈ p.2, rowSm x
def ResAt (w : World) (lim : Nat) (v : Value) (l : List ResP) : Prop := SlAt 1 resCells w lim v l ∧ ∀ p ∈ l, RowsAt w lim p
def resOkP (p : ResP) : Bool := resOk p.2
def fewP (p : ResP) : Bool := decide (p.2.length ≤ 256)
theorem RowsAt.below {w w' : World} {lim B : Nat} {p : ResP} (h : RowsAt w lim p) (hb : Below B w w') (hB : lim ≤ B) : RowsAt w' lim p := ⟨h.1.below hb hB, h.2⟩
theorem RowsAt.kept {w w' : World} {lim : Nat} {p : ResP} (h : RowsAt w lim p) (hb : ∀ k, k < lim → w'.heap[k]? = w.heap[k]?) : RowsAt w' lim p := ⟨h.1.kept hb, h.2⟩
theorem RowsAt.mono {w : World} {lim lim' : Nat} {p : ResP} (h : RowsAt w lim p) (hB : lim ≤ lim') : RowsAt w lim' p := ⟨h.1.mono hB, h.2⟩
theorem ResAt.kept {w w' : World} {lim : Nat} {v : Value} {l : List ResP} (h : ResAt w lim v l) (hb : ∀ k, k < lim → w'.heap[k]? = w.heap[k]?) : ResAt w' lim v l := ⟨h.1.kept hb, fun p hp => (h.2 p hp).kept hb⟩
theorem ResAt.below {w w' : World} {lim B : Nat} {v : Value} {l : List ResP} (h : ResAt w lim v l) (hb : Below B w w') (hB : lim ≤ B) : ResAt w' lim v l := h.kept (fun k hk => hb.block k (by omega))
theorem ResAt.mono {w : World} {lim lim' : Nat} {v : Value} {l : List ResP} (h : ResAt w lim v l) (hB : lim ≤ lim') : ResAt w lim' v l := ⟨h.1.mono hB, fun p hp => (h.2 p hp).mono hB⟩

set_option maxHeartbeats 2000000 in
set_option maxRecDepth 1000000 in
theorem checkResult_any (w : World) (x : ResP) (lim : Nat) (hlim : lim ≤ w.heap.size) (hs : RowsAt w lim x) :
    Calls Tryz.prog 104 #[resV x] w fun e w' => e = .returned (.bool (resOkP x)) ∧ Below w.heap.size w w' := by
  obtain ⟨v, rows⟩ := x
  unfold resV resOkP resOk
  simp only
  obtain ⟨W, hW⟩ : ∃ W, W = w.alloc (.cells #[v] 106) := ⟨_, rfl⟩
  have B0 : Below w.heap.size w W := by rw [hW]; exact (Below.refl _ _).alloc (Nat.le_refl _) _
  have Z0 : W.heap.size = w.heap.size + 1 := by rw [hW]; simp
  have hsW : SlAt 2 rowCells W W.heap.size v rows := (hs.1.below B0 hlim).mono (by omega)
  have k := allRow_any W v rows hsW hs.2
  have fin : ∀ w1, Below W.heap.size W w1 → Below w.heap.size w w1 := fun w1 hb => B0.trans (hb.mono (by omega))
  obtain ⟨ao, cap, hv, -, -, -⟩ := hs.1
  simp only at hv
  clear B0 Z0 hsW hs
  subst hW
  subst hv
  go_enter Tryz.func104, Tryz.ntmps104
  go_wp2_with fail
  refine k.mono ?_
  rintro e w1 ⟨rfl, hb⟩
  have b1 := fin w1 hb
  clear fin k hb
  go_wp2
  go_ret
  exact ⟨rfl, b1⟩

set_option maxHeartbeats 2000000 in
set_option maxRecDepth 1000000 in
theorem fewRows_any (w : World) (x : ResP) (lim : Nat) (hlim : lim ≤ w.heap.size) (hs : RowsAt w lim x) :
    Calls Tryz.prog 105 #[resV x] w fun e w' => e = .returned (.bool (fewP x)) ∧ Below w.heap.size w w' := by
  obtain ⟨v, rows⟩ := x
  unfold resV fewP
  simp only
  have B0 : Below w.heap.size w (w.alloc (.cells #[v] 106)) := (Below.refl _ _).alloc (Nat.le_refl _) _
  obtain ⟨ao, cap, hv, -, -, -⟩ := hs.1
  simp only at hv
  clear hs
  subst hv
  by_cases h : rows.length ≤ 256
  · go_enter Tryz.func105, Tryz.ntmps105
    go_wp2
    go_ret
    exact ⟨by simp [h]; try omega, B0⟩
  · go_enter Tryz.func105, Tryz.ntmps105
    go_wp2
    go_ret
    exact ⟨by simp [h]; try omega, B0⟩

set_option maxHeartbeats 2000000 in
set_option maxRecDepth 1000000 in
theorem allRes_any (w : World) (v : Value) (l : List ResP) (h0 : ResAt w w.heap.size v l) :
    Calls Tryz.prog 103 #[v, .func (.func 104) #[] #[]] w fun e w' => e = .returned (.bool (l.all resOkP)) ∧ Below w.heap.size w w' := by
  obtain ⟨⟨ao, cap, rfl, hlc, hcm, hc⟩, hrows⟩ := h0
  unfold maxLen at hcm
  go_enter Tryz.func103, Tryz.ntmps103
  go_wp2
  go_loopw [6, 9] (fun _ i wr => ∃ k : Nat, k ≤ l.length ∧ i = .int .i64 k ∧ Below w.heap.size w wr ∧ Hid ((l.take k).all resOkP = true)) (fun _ i _ => l.length - (intOf i).toNat)
  case atStart => exact ⟨0, Nat.zero_le _, rfl, Below.refl _ _, rfl⟩
  case round =>
    obtain ⟨k, hk, rfl, hb, hall⟩ := hrel
    by_cases hlt : k < l.length
    · obtain ⟨b, off, rfl, hbl, hcell⟩ := hc (by omega)
      have hz := hb.size
      obtain ⟨x, hx⟩ : ∃ x, x = l[k]'hlt := ⟨_, rfl⟩
      have cc : ∀ j u, (resCells x)[j]? = some u → wr.cell? ⟨b, off + k * 1 + j, none⟩ = some u := fun j u hu => (hb.cell hbl).trans (hcell k hlt j u (by rw [← hx]; exact hu))
      have c0 := cc 0 _ rfl
      have hrx : RowsAt w w.heap.size x := hrows x (by rw [hx]; exact List.getElem_mem _)
      obtain ⟨ax, cx, hvx, -, -, -⟩ := hrx.1
      obtain ⟨vx, rx⟩ := x
      simp only at hvx
      subst hvx
      have HX : Hid ((Value.slice ax rx.length cx, rx) = l[k]'hlt) := hx
      clear cc hx hcell hc
      simp only [Nat.add_zero, Nat.mul_one] at c0
      obtain ⟨W, hW⟩ : ∃ W, W = wr.alloc (.cells #[.slice ax rx.length cx] 106) := ⟨_, rfl⟩
      have bW : Below w.heap.size w W := by rw [hW]; exact hb.alloc hz _
      have kW := checkResult_any W (.slice ax rx.length cx, rx) w.heap.size bW.size (hrx.below bW (Nat.le_refl _))
      have fin : ∀ w1, Below W.heap.size W w1 → Below w.heap.size w w1 := fun w1 h1 => bW.trans (h1.mono bW.size)
      clear bW hrx
      subst hW
      cases hok : resOkP (.slice ax rx.length cx, rx) with
      | true =>
        rw [hok] at kW
        have hall2 : Hid ((l.take (k + 1)).all resOkP = true) := all_take_succ l _ k hlt hall.out (by rw [← HX.out]; exact hok)
        clear hok
        go_wp2_with fail
        refine kW.mono ?_
        rintro e w1 ⟨rfl, h1⟩
        have b1 := fin w1 h1
        clear fin h1 kW
        go_wp2
        go_roundw
        case rel => exact ⟨k + 1, by omega, by go_num, b1, hall2⟩
        case measure => simp [intOf]; omega
      | false =>
        rw [hok] at kW
        have H : Hid (l.all resOkP = false) := all_get_false l _ k hlt (by rw [← HX.out]; exact hok)
        clear hok
        go_wp2_with fail
        refine kW.mono ?_
        rintro e w1 ⟨rfl, h1⟩
        have b1 := fin w1 h1
        clear fin h1 kW
        go_wp2
        go_ret
        exact ⟨by rw [H.out]; rfl, b1⟩
    · have H : Hid (l.all resOkP = true) := by
        have e : l.take k = l := List.take_of_length_le (by omega)
        have h := hall.out
        rw [e] at h
        exact h
      clear hc
      go_wp2
      go_ret
      exact ⟨by rw [H.out]; rfl, hb⟩

set_option maxHeartbeats 2000000 in
set_option maxRecDepth 1000000 in
theorem allFew_any (w : World) (v : Value) (l : List ResP) (h0 : ResAt w w.heap.size v l) :
    Calls Tryz.prog 103 #[v, .func (.func 105) #[] #[]] w fun e w' => e = .returned (.bool (l.all fewP)) ∧ Below w.heap.size w w' := by
  obtain ⟨⟨ao, cap, rfl, hlc, hcm, hc⟩, hrows⟩ := h0
  unfold maxLen at hcm
  go_enter Tryz.func103, Tryz.ntmps103
  go_wp2
  go_loopw [6, 9] (fun _ i wr => ∃ k : Nat, k ≤ l.length ∧ i = .int .i64 k ∧ Below w.heap.size w wr ∧ Hid ((l.take k).all fewP = true)) (fun _ i _ => l.length - (intOf i).toNat)
  case atStart => exact ⟨0, Nat.zero_le _, rfl, Below.refl _ _, rfl⟩
  case round =>
    obtain ⟨k, hk, rfl, hb, hall⟩ := hrel
    by_cases hlt : k < l.length
    · obtain ⟨b, off, rfl, hbl, hcell⟩ := hc (by omega)
      have hz := hb.size
      obtain ⟨x, hx⟩ : ∃ x, x = l[k]'hlt := ⟨_, rfl⟩
      have cc : ∀ j u, (resCells x)[j]? = some u → wr.cell? ⟨b, off + k * 1 + j, none⟩ = some u := fun j u hu => (hb.cell hbl).trans (hcell k hlt j u (by rw [← hx]; exact hu))
      have c0 := cc 0 _ rfl
      have hrx : RowsAt w w.heap.size x := hrows x (by rw [hx]; exact List.getElem_mem _)
      obtain ⟨ax, cx, hvx, -, -, -⟩ := hrx.1
      obtain ⟨vx, rx⟩ := x
      simp only at hvx
      subst hvx
      have HX : Hid ((Value.slice ax rx.length cx, rx) = l[k]'hlt) := hx
      clear cc hx hcell hc
      simp only [Nat.add_zero, Nat.mul_one] at c0
      obtain ⟨W, hW⟩ : ∃ W, W = wr.alloc (.cells #[.slice ax rx.length cx] 106) := ⟨_, rfl⟩
      have bW : Below w.heap.size w W := by rw [hW]; exact hb.alloc hz _
      have kW := fewRows_any W (.slice ax rx.length cx, rx) w.heap.size bW.size (hrx.below bW (Nat.le_refl _))
      have fin : ∀ w1, Below W.heap.size W w1 → Below w.heap.size w w1 := fun w1 h1 => bW.trans (h1.mono bW.size)
      clear bW hrx
      subst hW
      cases hok : fewP (.slice ax rx.length cx, rx) with
      | true =>
        rw [hok] at kW
        have hall2 : Hid ((l.take (k + 1)).all fewP = true) := all_take_succ l _ k hlt hall.out (by rw [← HX.out]; exact hok)
        clear hok
        go_wp2_with fail
        refine kW.mono ?_
        rintro e w1 ⟨rfl, h1⟩
        have b1 := fin w1 h1
        clear fin h1 kW
        go_wp2
        go_roundw
        case rel => exact ⟨k + 1, by omega, by go_num, b1, hall2⟩
        case measure => simp [intOf]; omega
      | false =>
        rw [hok] at kW
        have H : Hid (l.all fewP = false) := all_get_false l _ k hlt (by rw [← HX.out]; exact hok)
        clear hok
        go_wp2_with fail
        refine kW.mono ?_
        rintro e w1 ⟨rfl, h1⟩
        have b1 := fin w1 h1
        clear fin h1 kW
        go_wp2
        go_ret
        exact ⟨by rw [H.out]; rfl, b1⟩
    · have H : Hid (l.all fewP = true) := by
        have e : l.take k = l := List.take_of_length_le (by omega)
        have h := hall.out
        rw [e] at h
        exact h
      clear hc
      go_wp2
      go_ret
      exact ⟨by rw [H.out]; rfl, hb⟩
end Go.Proofs.YtndjgilheleplaaGreatDoor
