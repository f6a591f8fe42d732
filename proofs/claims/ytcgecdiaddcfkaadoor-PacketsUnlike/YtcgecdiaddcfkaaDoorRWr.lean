/- The walks of the writer's methods: a byte, a count, a number, a text, a mark are put behind the bytes that were made so far. -/
import Derived.Test.YtcgecdiaddcfkaaDoorRMem
set_option linter.unusedSimpArgs false
set_option linter.unusedVariables false
namespace Go.Proofs.YtcgecdiaddcfkaaDoor
open Go.RowKit

theorem info_u8 : (Tryd.prog.info? 5).map (fun i => (i.zero, i.size, i.bytes)) = some (some (.int .u8 0), 1, 1) := by kernel_rfl

theorem news_of {w : World} (cs : List UInt8) (t : TypeId) : ∀ j u, (bcells cs)[j]? = some u → (w.alloc (.cells (bcells cs).toArray t)).cell? ((⟨w.heap.size, 0, none⟩ : Addr).add j) = some u := by
  intro j u hu
  rw [Addr.add_lit, World.cell?_alloc_at _ _ _ _ rfl]
  simpa using hu
theorem news_ofv {w : World} (vs : List Value) (t : TypeId) : ∀ j u, vs[j]? = some u → (w.alloc (.cells vs.toArray t)).cell? ((⟨w.heap.size, 0, none⟩ : Addr).add j) = some u := by
  intro j u hu
  rw [Addr.add_lit, World.cell?_alloc_at _ _ _ _ rfl]
  simpa using hu
theorem own_slice {w : World} {base : Nat} {e : TypeId} {size : Nat} {v : Value} {n : Nat} {xs : List Value} (h : w.ownsRow base e size v n xs) : ∃ ao k c, v = .slice ao k c := by
  rcases h.2 with ⟨rfl, _⟩ | ⟨g, cap, cur, rfl, _⟩
  · exact ⟨_, _, _, rfl⟩
  · exact ⟨_, _, _, rfl⟩

set_option maxHeartbeats 1000000 in
set_option maxRecDepth 1000000 in
theorem small_any (w : World) (B base : Nat) (bs : List UInt8) (c : UInt8) (v : Value) (h : WAt w B base bs v) (hl : bs.length ≤ 1000000000) :
    Calls Tryd.prog 33 #[ptr B, .int .u8 (c.toNat : Int)] w fun e w' => e = .returned (.tuple #[]) ∧ ∃ v', WAt w' B base (bs ++ [c]) v' ∧ WrStep B w w' v v' := by
  obtain ⟨hB, hown, hlt, hs⟩ := h
  obtain ⟨i0, hi, hz0, hz1, hz2⟩ := info_parts info_u8
  have c1 := box_cell hB
  have c2 := box_frozen (i := 0) hB
  have hB' := alloc_block hB (.cells (bcells [c]).toArray 5)
  have hown' := hown.alloc (.cells (bcells [c]).toArray 5)
  have hs' : base ≤ (w.alloc (.cells (bcells [c]).toArray 5)).heap.size := by simp; omega
  have HB : Hid (w.heap[B]? = _) := hB
  clear hB
  go_enter Tryd.func33, Tryd.ntmps33
  go_wp2_with (at_builtin; refine wpList_append_own_src _ rfl (.tmp 8) (.tmp 10) 28 28 rfl base 5 i0 (.int .u8 0) 1 1 Tryd.underlying28 hi hz0 hz1 hz2 rfl (by decide) v bs.length (bcells bs) rfl hown' (.slice (some ⟨w.heap.size, 0, none⟩) 1 1) 1 (bcells [c]) rfl (Src.ofSlice _ Tryd.underlying28 ⟨w.heap.size, 0, none⟩ 1 1 (bcells [c]) rfl (news_of [c] _) (bcells_one _)) (by unfold maxLen; omega) (by omega) hs' ?_; intro v' w1 hown1 hg hat; obtain ⟨ao, nn, cp, rfl⟩ := own_slice hown1; have C := wat_cell hB' hown' hlt hs' hg; obtain ⟨C1, C2⟩ := C; have R := wat_next (news := [c]) hB' hown' hlt hs' ((WrStep.refl B w v).alloc _) hg hat hown1)
  go_end0
  exact ⟨rfl, _, R⟩
theorem be2_cells {n : Nat} (hn : n < 65536) : [Value.int .u8 ((n : Int) / 256), Value.int .u8 ((n : Int) % 256)] = bcells (be2 n) := by
  simp only [bcells, be2, List.map_cons, List.map_nil, bv, List.cons.injEq, Value.int.injEq, true_and, and_true, UInt8.toNat_ofNat']
  omega
theorem be4_cells {n : Nat} (hn : n < 4294967296) : [Value.int .u8 ((n : Int) / 16777216 % 256), Value.int .u8 ((n : Int) / 65536 % 256), Value.int .u8 ((n : Int) / 256 % 256), Value.int .u8 ((n : Int) % 256)] = bcells (be4 n) := by
  simp only [bcells, be4, List.map_cons, List.map_nil, bv, List.cons.injEq, Value.int.injEq, true_and, and_true, UInt8.toNat_ofNat']
  omega

set_option maxHeartbeats 1000000 in
set_option maxRecDepth 1000000 in
theorem count_any (w : World) (B base : Nat) (bs : List UInt8) (n : Nat) (hn : n < 65536) (v : Value) (h : WAt w B base bs v) (hl : bs.length ≤ 1000000000) :
    Calls Tryd.prog 61 #[ptr B, .int .i64 (n : Int)] w fun e w' => e = .returned (.tuple #[]) ∧ ∃ v', WAt w' B base (bs ++ be2 n) v' ∧ WrStep B w w' v v' := by
  obtain ⟨hB, hown, hlt, hs⟩ := h
  obtain ⟨i0, hi, hz0, hz1, hz2⟩ := info_parts info_u8
  have c1 := box_cell hB
  have c2 := box_frozen (i := 0) hB
  obtain ⟨vs, hvs⟩ : ∃ vs, vs = [Value.int .u8 ((n : Int) / 256), Value.int .u8 ((n : Int) % 256)] := ⟨_, rfl⟩
  have E : Hid (vs = bcells (be2 n)) := hvs.trans (be2_cells hn)
  have L : Hid (vs.length = 2) := by rw [hvs]; rfl
  have O : Hid (∀ u ∈ vs, u.oneCell' = true) := by rw [E.out]; exact bcells_one _
  have hB' := alloc_block hB (.cells vs.toArray 5)
  have hown' := hown.alloc (.cells vs.toArray 5)
  have hs' : base ≤ (w.alloc (.cells vs.toArray 5)).heap.size := by simp; omega
  have hnews : ∀ j u, vs[j]? = some u → (w.alloc (.cells vs.toArray 5)).cell? ((⟨w.heap.size, 0, none⟩ : Addr).add j) = some u := news_ofv vs _
  have HK : WrStep B w (w.alloc (.cells vs.toArray 5)) v v := (WrStep.refl B w v).alloc _
  have HB : Hid (w.heap[B]? = _) := hB
  clear hB
  have HV : Hid (vs = _) := hvs
  go_enter Tryd.func61, Tryd.ntmps61
  subst hvs
  go_wp2_with (at_builtin; refine wpList_append_own_src _ rfl (.tmp 8) (.tmp 14) 28 28 rfl base 5 i0 (.int .u8 0) 1 1 Tryd.underlying28 hi hz0 hz1 hz2 rfl (by decide) v bs.length (bcells bs) rfl hown' (.slice (some ⟨w.heap.size, 0, none⟩) 2 2) 2 _ rfl (Src.ofSlice _ Tryd.underlying28 ⟨w.heap.size, 0, none⟩ 2 2 _ rfl hnews O.out) (by unfold maxLen; omega) (by omega) hs' ?_; intro v' w1 hown1 hg hat; obtain ⟨ao, nn, cp, rfl⟩ := own_slice hown1; have C := wat_cell hB' hown' hlt hs' hg; obtain ⟨C1, C2⟩ := C; have R := wat_next (news := be2 n) hB' hown' hlt hs' HK hg hat (by rw [← E.out]; exact hown1))
  go_end0
  exact ⟨rfl, _, R⟩

set_option maxHeartbeats 1000000 in
set_option maxRecDepth 1000000 in
theorem number_any (w : World) (B base : Nat) (bs : List UInt8) (x : UInt32) (v : Value) (h : WAt w B base bs v) (hl : bs.length ≤ 1000000000) :
    Calls Tryd.prog 35 #[ptr B, .int .u32 (x.toNat : Int)] w fun e w' => e = .returned (.tuple #[]) ∧ ∃ v', WAt w' B base (bs ++ be4 x.toNat) v' ∧ WrStep B w w' v v' := by
  obtain ⟨hB, hown, hlt, hs⟩ := h
  obtain ⟨i0, hi, hz0, hz1, hz2⟩ := info_parts info_u8
  have c1 := box_cell hB
  have c2 := box_frozen (i := 0) hB
  have hx := u32_lt x
  obtain ⟨n, hn⟩ : ∃ n, n = x.toNat := ⟨_, rfl⟩
  rw [← hn] at hx ⊢
  clear hn
  obtain ⟨vs, hvs⟩ : ∃ vs, vs = [Value.int .u8 ((n : Int) / 16777216 % 256), Value.int .u8 ((n : Int) / 65536 % 256), Value.int .u8 ((n : Int) / 256 % 256), Value.int .u8 ((n : Int) % 256)] := ⟨_, rfl⟩
  have E : Hid (vs = bcells (be4 n)) := hvs.trans (be4_cells hx)
  have L : Hid (vs.length = 4) := by rw [hvs]; rfl
  have O : Hid (∀ u ∈ vs, u.oneCell' = true) := by rw [E.out]; exact bcells_one _
  have hB' := alloc_block hB (.cells vs.toArray 5)
  have hown' := hown.alloc (.cells vs.toArray 5)
  have hs' : base ≤ (w.alloc (.cells vs.toArray 5)).heap.size := by simp; omega
  have hnews : ∀ j u, vs[j]? = some u → (w.alloc (.cells vs.toArray 5)).cell? ((⟨w.heap.size, 0, none⟩ : Addr).add j) = some u := news_ofv vs _
  have HK : WrStep B w (w.alloc (.cells vs.toArray 5)) v v := (WrStep.refl B w v).alloc _
  have HB : Hid (w.heap[B]? = _) := hB
  clear hB hx
  go_enter Tryd.func35, Tryd.ntmps35
  subst hvs
  go_wp2_with (at_builtin; refine wpList_append_own_src _ rfl (.tmp 8) (.tmp 20) 28 28 rfl base 5 i0 (.int .u8 0) 1 1 Tryd.underlying28 hi hz0 hz1 hz2 rfl (by decide) v bs.length (bcells bs) rfl hown' (.slice (some ⟨w.heap.size, 0, none⟩) 4 4) 4 _ rfl (Src.ofSlice _ Tryd.underlying28 ⟨w.heap.size, 0, none⟩ 4 4 _ rfl hnews O.out) (by unfold maxLen; omega) (by omega) hs' ?_; intro v' w1 hown1 hg hat; obtain ⟨ao, nn, cp, rfl⟩ := own_slice hown1; have C := wat_cell hB' hown' hlt hs' hg; obtain ⟨C1, C2⟩ := C; have R := wat_next (news := be4 n) hB' hown' hlt hs' HK hg hat (by rw [← E.out]; exact hown1))
  go_end0
  exact ⟨rfl, _, R⟩

set_option maxHeartbeats 1000000 in
set_option maxRecDepth 1000000 in
theorem wtext_any (w : World) (B base : Nat) (bs : List UInt8) (s : ByteArray) (hz : s.size < 256) (v : Value) (h : WAt w B base bs v) (hl : bs.length ≤ 900000000) :
    Calls Tryd.prog 34 #[ptr B, .string s] w fun e w' => e = .returned (.tuple #[]) ∧ ∃ v', WAt w' B base (bs ++ txt s) v' ∧ WrStep B w w' v v' := by
  obtain ⟨i0, hi, hz0, hz1, hz2⟩ := info_parts info_u8
  have k := small_any w B base bs (UInt8.ofNat s.size) v h (by omega)
  rw [u8_nat hz] at k
  go_enter Tryd.func34, Tryd.ntmps34
  go_wp2_with fail
  refine k.mono ?_
  rintro e w2 ⟨rfl, v2, hw2, hk2⟩
  clear k h
  obtain ⟨hB, hown, hlt, hs⟩ := hw2
  have c1 := box_cell hB
  have c2 := box_frozen (i := 0) hB
  have HB : Hid (w2.heap[B]? = _) := hB
  clear hB
  go_wp2_with (at_builtin; refine wpList_append_own_src _ rfl (.tmp 13) (.tmp 14) 28 9 rfl base 5 i0 (.int .u8 0) 1 1 Tryd.underlying28 hi hz0 hz1 hz2 rfl (by decide) v2 (bs ++ [UInt8.ofNat s.size]).length (bcells (bs ++ [UInt8.ofNat s.size])) rfl hown (.string s) s.size (byteCells s) rfl (Src.ofString _ Tryd.underlying9 s) ?c1 ?c2 hs ?_; rotate_right; intro v' w1 hown1 hg hat; obtain ⟨ao, nn, cp, rfl⟩ := own_slice hown1; have C := wat_cell HB.out hown hlt hs hg; obtain ⟨C1, C2⟩ := C; have R := wat_next (w := w2) (news := s.data.toList) HB.out hown hlt hs (WrStep.refl B w2 v2) hg hat hown1)
  case c1 => simp only [List.length_append, List.length_cons, List.length_nil]; unfold maxLen; omega
  case c2 => simp only [List.length_append, List.length_cons, List.length_nil]; omega
  go_end0
  have e : bs ++ txt s = bs ++ [UInt8.ofNat s.size] ++ s.data.toList := by simp [txt]
  rw [e]
  exact ⟨rfl, _, R.1, hk2.trans R.2⟩

end Go.Proofs.YtcgecdiaddcfkaaDoor
