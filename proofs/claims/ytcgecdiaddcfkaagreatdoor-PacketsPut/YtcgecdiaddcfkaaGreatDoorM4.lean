/- Texts of this proof, laid into one. -/
import Derived.Test.YtcgecdiaddcfkaaGreatDoorRMemM
import Derived.Test.YtcgecdiaddcfkaaGreatDoorM3
/- The walks of the writer's methods: a byte, a count, a number, a text, a mark are put behind the bytes that were made so far. -/
set_option linter.unusedSimpArgs false
set_option linter.unusedVariables false
namespace Go.Proofs.YtcgecdiaddcfkaaGreatDoor
open Go.RowKit

theorem info_u8 : (Tryz.prog.info? 5).map (fun i => (i.zero, i.size, i.bytes)) = some (some (.int .u8 0), 1, 1) := by kernel_rfl

theorem news_of {w : World} (cs : List UInt8) (t : TypeId) : ∀ j u, (bcells cs)[j]? = some u → (w.alloc (.cells (bcells cs).toArray t)).cell? ((⟨w.heap.size, 0, none⟩ : Addr).add j) = some u := by
  intro j u hu
  rw [Addr.add_lit, World.cell?_alloc_at _ _ _ _ rfl]
  simpa using hu
theorem news_ofv {w : World} (vs : List Value) (t : TypeId) : ∀ j u, vs[j]? = some u → (w.alloc (.cells vs.toArray t)).cell? ((⟨w.heap.size, 0, none⟩ : Addr).add j) = some u := by
  intro j u hu
  rw [Addr.add_lit, World.cell?_alloc_at _ _ _ _ rfl]
  simpa using hu
theorem own_slice {w : World} {base : Nat} {e : TypeId} {size : Nat} {v : Value} {n : Nat} {xs : List Value} (h : w.ownsRow base e size v n xs) : ∃ ao k c, v = .slice ao k c := by
  rcases h.2 with ⟨rfl, _⟩ | ⟨g, cap, cur, rfl, _⟩
  · exact ⟨_, _, _, rfl⟩
  · exact ⟨_, _, _, rfl⟩

set_option maxHeartbeats 1000000 in
set_option maxRecDepth 1000000 in
theorem small_any (w : World) (B base : Nat) (bs : List UInt8) (c : UInt8) (v : Value) (h : WAt w B base bs v) (hl : bs.length ≤ 1000000000) :
    Calls Tryz.prog 94 #[ptr B, .int .u8 (c.toNat : Int)] w fun e w' => e = .returned (.tuple #[]) ∧ ∃ v', WAt w' B base (bs ++ [c]) v' ∧ WrStep B w w' v v' := by
  obtain ⟨hB, hown, hlt, hs⟩ := h
  obtain ⟨i0, hi, hz0, hz1, hz2⟩ := info_parts info_u8
  have c1 := box_cell hB
  have c2 := box_frozen (i := 0) hB
  have hB' := alloc_block hB (.cells (bcells [c]).toArray 5)
  have hown' := hown.alloc (.cells (bcells [c]).toArray 5)
  have hs' : base ≤ (w.alloc (.cells (bcells [c]).toArray 5)).heap.size := by simp; omega
  have HB : Hid (w.heap[B]? = _) := hB
  clear hB
  go_enter Tryz.func94, Tryz.ntmps94
  go_wp2_with (at_builtin; refine wpList_append_own_src _ rfl (.tmp 8) (.tmp 10) 30 30 rfl base 5 i0 (.int .u8 0) 1 1 Tryz.underlying30 hi hz0 hz1 hz2 rfl (by decide) v bs.length (bcells bs) rfl hown' (.slice (some ⟨w.heap.size, 0, none⟩) 1 1) 1 (bcells [c]) rfl (Src.ofSlice _ Tryz.underlying30 ⟨w.heap.size, 0, none⟩ 1 1 (bcells [c]) rfl (news_of [c] _) (bcells_one _)) (by unfold maxLen; omega) (by omega) hs' ?_; intro v' w1 hown1 hg hat; obtain ⟨ao, nn, cp, rfl⟩ := own_slice hown1; have C := wat_cell hB' hown' hlt hs' hg; obtain ⟨C1, C2⟩ := C; have R := wat_next (news := [c]) hB' hown' hlt hs' ((WrStep.refl B w v).alloc _) hg hat hown1)
  go_end0
  exact ⟨rfl, _, R⟩
theorem be2_cells {n : Nat} (hn : n < 65536) : [Value.int .u8 ((n : Int) / 256), Value.int .u8 ((n : Int) % 256)] = bcells (be2 n) := by
  simp only [bcells, be2, List.map_cons, List.map_nil, bv, List.cons.injEq, Value.int.injEq, true_and, and_true, UInt8.toNat_ofNat']
  omega
theorem be4_cells {n : Nat} (hn : n < 4294967296) : [Value.int .u8 ((n : Int) / 16777216 % 256), Value.int .u8 ((n : Int) / 65536 % 256), Value.int .u8 ((n : Int) / 256 % 256), Value.int .u8 ((n : Int) % 256)] = bcells (be4 n) := by
  simp only [bcells, be4, List.map_cons, List.map_nil, bv, List.cons.injEq, Value.int.injEq, true_and, and_true, UInt8.toNat_ofNat']
  omega

set_option maxHeartbeats 1000000 in
set_option maxRecDepth 1000000 in
theorem count_any (w : World) (B base : Nat) (bs : List UInt8) (n : Nat) (hn : n < 65536) (v : Value) (h : WAt w B base bs v) (hl : bs.length ≤ 1000000000) :
    Calls Tryz.prog 159 #[ptr B, .int .i64 (n : Int)] w fun e w' => e = .returned (.tuple #[]) ∧ ∃ v', WAt w' B base (bs ++ be2 n) v' ∧ WrStep B w w' v v' := by
  obtain ⟨hB, hown, hlt, hs⟩ := h
  obtain ⟨i0, hi, hz0, hz1, hz2⟩ := info_parts info_u8
  have c1 := box_cell hB
  have c2 := box_frozen (i := 0) hB
  obtain ⟨vs, hvs⟩ : ∃ vs, vs = [Value.int .u8 ((n : Int) / 256), Value.int .u8 ((n : Int) % 256)] := ⟨_, rfl⟩
  have E : Hid (vs = bcells (be2 n)) := hvs.trans (be2_cells hn)
  have L : Hid (vs.length = 2) := by rw [hvs]; rfl
  have O : Hid (∀ u ∈ vs, u.oneCell' = true) := by rw [E.out]; exact bcells_one _
  have hB' := alloc_block hB (.cells vs.toArray 5)
  have hown' := hown.alloc (.cells vs.toArray 5)
  have hs' : base ≤ (w.alloc (.cells vs.toArray 5)).heap.size := by simp; omega
  have hnews : ∀ j u, vs[j]? = some u → (w.alloc (.cells vs.toArray 5)).cell? ((⟨w.heap.size, 0, none⟩ : Addr).add j) = some u := news_ofv vs _
  have HK : WrStep B w (w.alloc (.cells vs.toArray 5)) v v := (WrStep.refl B w v).alloc _
  have HB : Hid (w.heap[B]? = _) := hB
  clear hB
  have HV : Hid (vs = _) := hvs
  go_enter Tryz.func159, Tryz.ntmps159
  subst hvs
  go_wp2_with (at_builtin; refine wpList_append_own_src _ rfl (.tmp 8) (.tmp 14) 30 30 rfl base 5 i0 (.int .u8 0) 1 1 Tryz.underlying30 hi hz0 hz1 hz2 rfl (by decide) v bs.length (bcells bs) rfl hown' (.slice (some ⟨w.heap.size, 0, none⟩) 2 2) 2 _ rfl (Src.ofSlice _ Tryz.underlying30 ⟨w.heap.size, 0, none⟩ 2 2 _ rfl hnews O.out) (by unfold maxLen; omega) (by omega) hs' ?_; intro v' w1 hown1 hg hat; obtain ⟨ao, nn, cp, rfl⟩ := own_slice hown1; have C := wat_cell hB' hown' hlt hs' hg; obtain ⟨C1, C2⟩ := C; have R := wat_next (news := be2 n) hB' hown' hlt hs' HK hg hat (by rw [← E.out]; exact hown1))
  go_end0
  exact ⟨rfl, _, R⟩

set_option maxHeartbeats 1000000 in
set_option maxRecDepth 1000000 in
theorem number_any (w : World) (B base : Nat) (bs : List UInt8) (x : UInt32) (v : Value) (h : WAt w B base bs v) (hl : bs.length ≤ 1000000000) :
    Calls Tryz.prog 96 #[ptr B, .int .u32 (x.toNat : Int)] w fun e w' => e = .returned (.tuple #[]) ∧ ∃ v', WAt w' B base (bs ++ be4 x.toNat) v' ∧ WrStep B w w' v v' := by
  obtain ⟨hB, hown, hlt, hs⟩ := h
  obtain ⟨i0, hi, hz0, hz1, hz2⟩ := info_parts info_u8
  have c1 := box_cell hB
  have c2 := box_frozen (i := 0) hB
  have hx := u32_lt x
  obtain ⟨n, hn⟩ : ∃ n, n = x.toNat := ⟨_, rfl⟩
  rw [← hn] at hx ⊢
  clear hn
  obtain ⟨vs, hvs⟩ : ∃ vs, vs = [Value.int .u8 ((n : Int) / 16777216 % 256), Value.int .u8 ((n : Int) / 65536 % 256), Value.int .u8 ((n : Int) / 256 % 256), Value.int .u8 ((n : Int) % 256)] := ⟨_, rfl⟩
  have E : Hid (vs = bcells (be4 n)) := hvs.trans (be4_cells hx)
  have L : Hid (vs.length = 4) := by rw [hvs]; rfl
  have O : Hid (∀ u ∈ vs, u.oneCell' = true) := by rw [E.out]; exact bcells_one _
  have hB' := alloc_block hB (.cells vs.toArray 5)
  have hown' := hown.alloc (.cells vs.toArray 5)
  have hs' : base ≤ (w.alloc (.cells vs.toArray 5)).heap.size := by simp; omega
  have hnews : ∀ j u, vs[j]? = some u → (w.alloc (.cells vs.toArray 5)).cell? ((⟨w.heap.size, 0, none⟩ : Addr).add j) = some u := news_ofv vs _
  have HK : WrStep B w (w.alloc (.cells vs.toArray 5)) v v := (WrStep.refl B w v).alloc _
  have HB : Hid (w.heap[B]? = _) := hB
  clear hB hx
  go_enter Tryz.func96, Tryz.ntmps96
  subst hvs
  go_wp2_with (at_builtin; refine wpList_append_own_src _ rfl (.tmp 8) (.tmp 20) 30 30 rfl base 5 i0 (.int .u8 0) 1 1 Tryz.underlying30 hi hz0 hz1 hz2 rfl (by decide) v bs.length (bcells bs) rfl hown' (.slice (some ⟨w.heap.size, 0, none⟩) 4 4) 4 _ rfl (Src.ofSlice _ Tryz.underlying30 ⟨w.heap.size, 0, none⟩ 4 4 _ rfl hnews O.out) (by unfold maxLen; omega) (by omega) hs' ?_; intro v' w1 hown1 hg hat; obtain ⟨ao, nn, cp, rfl⟩ := own_slice hown1; have C := wat_cell hB' hown' hlt hs' hg; obtain ⟨C1, C2⟩ := C; have R := wat_next (news := be4 n) hB' hown' hlt hs' HK hg hat (by rw [← E.out]; exact hown1))
  go_end0
  exact ⟨rfl, _, R⟩

set_option maxHeartbeats 1000000 in
set_option maxRecDepth 1000000 in
theorem wtext_any (w : World) (B base : Nat) (bs : List UInt8) (s : ByteArray) (hz : s.size < 256) (v : Value) (h : WAt w B base bs v) (hl : bs.length ≤ 900000000) :
    Calls Tryz.prog 95 #[ptr B, .string s] w fun e w' => e = .returned (.tuple #[]) ∧ ∃ v', WAt w' B base (bs ++ txt s) v' ∧ WrStep B w w' v v' := by
  obtain ⟨i0, hi, hz0, hz1, hz2⟩ := info_parts info_u8
  have k := small_any w B base bs (UInt8.ofNat s.size) v h (by omega)
  rw [u8_nat hz] at k
  go_enter Tryz.func95, Tryz.ntmps95
  go_wp2_with fail
  refine k.mono ?_
  rintro e w2 ⟨rfl, v2, hw2, hk2⟩
  clear k h
  obtain ⟨hB, hown, hlt, hs⟩ := hw2
  have c1 := box_cell hB
  have c2 := box_frozen (i := 0) hB
  have HB : Hid (w2.heap[B]? = _) := hB
  clear hB
  go_wp2_with (at_builtin; refine wpList_append_own_src _ rfl (.tmp 13) (.tmp 14) 30 9 rfl base 5 i0 (.int .u8 0) 1 1 Tryz.underlying30 hi hz0 hz1 hz2 rfl (by decide) v2 (bs ++ [UInt8.ofNat s.size]).length (bcells (bs ++ [UInt8.ofNat s.size])) rfl hown (.string s) s.size (byteCells s) rfl (Src.ofString _ Tryz.underlying9 s) ?c1 ?c2 hs ?_; rotate_right; intro v' w1 hown1 hg hat; obtain ⟨ao, nn, cp, rfl⟩ := own_slice hown1; have C := wat_cell HB.out hown hlt hs hg; obtain ⟨C1, C2⟩ := C; have R := wat_next (w := w2) (news := s.data.toList) HB.out hown hlt hs (WrStep.refl B w2 v2) hg hat hown1)
  case c1 => simp only [List.length_append, List.length_cons, List.length_nil]; unfold maxLen; omega
  case c2 => simp only [List.length_append, List.length_cons, List.length_nil]; omega
  go_end0
  have e : bs ++ txt s = bs ++ [UInt8.ofNat s.size] ++ s.data.toList := by simp [txt]
  rw [e]
  exact ⟨rfl, _, R.1, hk2.trans R.2⟩

end Go.Proofs.YtcgecdiaddcfkaaGreatDoor
/- The walks of the functions that ask something of each one of a list. -/
set_option linter.unusedSimpArgs false
set_option linter.unusedVariables false
namespace Go.Proofs.YtcgecdiaddcfkaaGreatDoor
open Go.RowKit

theorem all_take_succ {α : Type} (l : List α) (p : α → Bool) (k : Nat) (hk : k < l.length) (h : (l.take k).all p = true) (hp : p (l[k]'hk) = true) : (l.take (k + 1)).all p = true := by
  rw [List.take_succ_eq_append_getElem hk, List.all_append, h]; simp [hp]
theorem all_get_false {α : Type} (l : List α) (p : α → Bool) (k : Nat) (hk : k < l.length) (hp : p (l[k]'hk) = false) : l.all p = false := by
  rw [Bool.eq_false_iff, Ne, List.all_eq_true]
  intro h
  rw [h _ (List.getElem_mem hk)] at hp; cases hp
theorem chOk_parts (key : ByteArray) (value : UInt32) (gone : Bool) : chOk ⟨key, value, gone⟩ = (chk key && (!gone || ((value.toNat : Int) == 0))) := by
  rw [int_eq_zero]; rfl

set_option maxHeartbeats 2000000 in
set_option maxRecDepth 1000000 in
theorem checkRow_any (w : World) (x : RowD) (hs : rowSm x) :
    Calls Tryz.prog 148 #[rowV x] w fun e w' => e = .returned (.bool (rowOk x)) ∧ Below w.heap.size w w' := by
  obtain ⟨key, value⟩ := x
  have hs1 : key.size ≤ maxLen := hs
  unfold rowV rowOk
  simp only
  obtain ⟨W, hW⟩ : ∃ W, W = w.alloc (.cells #[.string key, .int .u32 (value.toNat : Int)] 92) := ⟨_, rfl⟩
  have B0 : Below w.heap.size w W := by rw [hW]; exact (Below.refl _ _).alloc (Nat.le_refl _) _
  have Z0 : W.heap.size = w.heap.size + 1 := by rw [hW]; simp
  have k := check_any key W hs1
  have fin : ∀ w1, Below W.heap.size W w1 → Below w.heap.size w w1 := fun w1 hb => B0.trans (hb.mono (by omega))
  clear B0 Z0
  subst hW
  go_enter Tryz.func148, Tryz.ntmps148
  go_wp2_with fail
  refine k.mono ?_
  rintro e w1 ⟨rfl, hb⟩
  have b1 := fin w1 hb
  clear fin k hb
  go_wp2
  go_ret
  exact ⟨rfl, b1⟩

set_option maxHeartbeats 2000000 in
set_option maxRecDepth 1000000 in
theorem allOp_any (w : World) (v : Value) (l : List OpD) (h : SlAt 4 opCells w w.heap.size v l) (hsm : ∀ x ∈ l, opSm x) :
    Calls Tryz.prog 90 #[v, .func (.func 91) #[] #[]] w fun e w' => e = .returned (.bool (l.all opOk)) ∧ Below w.heap.size w w' := by
  obtain ⟨ao, cap, rfl, hlc, hcm, hc⟩ := h
  unfold maxLen at hcm
  go_enter Tryz.func90, Tryz.ntmps90
  go_wp2
  go_loopw [6, 9] (fun _ i wr => ∃ k : Nat, k ≤ l.length ∧ i = .int .i64 k ∧ Below w.heap.size w wr ∧ Hid ((l.take k).all opOk = true)) (fun _ i _ => l.length - (intOf i).toNat)
  case atStart => exact ⟨0, Nat.zero_le _, rfl, Below.refl _ _, rfl⟩
  case round =>
    obtain ⟨k, hk, rfl, hb, hall⟩ := hrel
    by_cases hlt : k < l.length
    · obtain ⟨b, off, rfl, hbl, hcell⟩ := hc (by omega)
      have hz := hb.size
      obtain ⟨x, hx⟩ : ∃ x, x = l[k]'hlt := ⟨_, rfl⟩
      have cc : ∀ j u, (opCells x)[j]? = some u → wr.cell? ⟨b, off + k * 4 + j, none⟩ = some u := fun j u hu => (hb.cell hbl).trans (hcell k hlt j u (by rw [← hx]; exact hu))
      have c0 := cc 0 _ rfl
      have c1 := cc 1 _ rfl
      have c2 := cc 2 _ rfl
      have c3 := cc 3 _ rfl
      have kc := fun w' => rcheck_any w' x (hsm x (by rw [hx]; exact List.getElem_mem _))
      have HX : Hid (x = _) := hx
      clear cc hx hcell hc
      simp only [Nat.add_zero, Nat.mul_one] at c0
      obtain ⟨W, hW⟩ : ∃ W, W = wr.alloc (.cells #[.int .u8 (x.kind.toNat : Int), .string x.key, .string x.to, .int .u32 (x.value.toNat : Int)] 85) := ⟨_, rfl⟩
      have bW : Below w.heap.size w W := by rw [hW]; exact hb.alloc hz _
      have kW := kc W
      have fin : ∀ w1, Below W.heap.size W w1 → Below w.heap.size w w1 := fun w1 h1 => bW.trans (h1.mono bW.size)
      clear kc bW
      subst hW
      cases hok : opOk x with
      | true =>
        rw [hok] at kW
        have hall2 : Hid ((l.take (k + 1)).all opOk = true) := all_take_succ l _ k hlt hall.out (by rw [← HX.out]; exact hok)
        clear hok
        go_wp2_with fail
        refine kW.mono ?_
        rintro e w1 ⟨rfl, h1⟩
        have b1 := fin w1 h1
        clear fin h1 kW
        go_wp2
        go_roundw
        case rel => exact ⟨k + 1, by omega, by go_num, b1, hall2⟩
        case measure => simp [intOf]; omega
      | false =>
        rw [hok] at kW
        have H : Hid (l.all opOk = false) := all_get_false l _ k hlt (by rw [← HX.out]; exact hok)
        clear hok
        go_wp2_with fail
        refine kW.mono ?_
        rintro e w1 ⟨rfl, h1⟩
        have b1 := fin w1 h1
        clear fin h1 kW
        go_wp2
        go_ret
        exact ⟨by rw [H.out]; rfl, b1⟩
    · have H : Hid (l.all opOk = true) := by
        have e : l.take k = l := List.take_of_length_le (by omega)
        have h := hall.out
        rw [e] at h
        exact h
      clear hc
      go_wp2
      go_ret
      exact ⟨by rw [H.out]; rfl, hb⟩

set_option maxHeartbeats 2000000 in
set_option maxRecDepth 1000000 in
theorem allRow_any (w : World) (v : Value) (l : List RowD) (h : SlAt 2 rowCells w w.heap.size v l) (hsm : ∀ x ∈ l, rowSm x) :
    Calls Tryz.prog 160 #[v, .func (.func 148) #[] #[]] w fun e w' => e = .returned (.bool (l.all rowOk)) ∧ Below w.heap.size w w' := by
  obtain ⟨ao, cap, rfl, hlc, hcm, hc⟩ := h
  unfold maxLen at hcm
  go_enter Tryz.func160, Tryz.ntmps160
  go_wp2
  go_loopw [6, 9] (fun _ i wr => ∃ k : Nat, k ≤ l.length ∧ i = .int .i64 k ∧ Below w.heap.size w wr ∧ Hid ((l.take k).all rowOk = true)) (fun _ i _ => l.length - (intOf i).toNat)
  case atStart => exact ⟨0, Nat.zero_le _, rfl, Below.refl _ _, rfl⟩
  case round =>
    obtain ⟨k, hk, rfl, hb, hall⟩ := hrel
    by_cases hlt : k < l.length
    · obtain ⟨b, off, rfl, hbl, hcell⟩ := hc (by omega)
      have hz := hb.size
      obtain ⟨x, hx⟩ : ∃ x, x = l[k]'hlt := ⟨_, rfl⟩
      have cc : ∀ j u, (rowCells x)[j]? = some u → wr.cell? ⟨b, off + k * 2 + j, none⟩ = some u := fun j u hu => (hb.cell hbl).trans (hcell k hlt j u (by rw [← hx]; exact hu))
      have c0 := cc 0 _ rfl
      have c1 := cc 1 _ rfl
      have kc := fun w' => checkRow_any w' x (hsm x (by rw [hx]; exact List.getElem_mem _))
      have HX : Hid (x = _) := hx
      clear cc hx hcell hc
      simp only [Nat.add_zero, Nat.mul_one] at c0
      obtain ⟨W, hW⟩ : ∃ W, W = wr.alloc (.cells #[.string x.key, .int .u32 (x.value.toNat : Int)] 92) := ⟨_, rfl⟩
      have bW : Below w.heap.size w W := by rw [hW]; exact hb.alloc hz _
      have kW := kc W
      have fin : ∀ w1, Below W.heap.size W w1 → Below w.heap.size w w1 := fun w1 h1 => bW.trans (h1.mono bW.size)
      clear kc bW
      subst hW
      cases hok : rowOk x with
      | true =>
        rw [hok] at kW
        have hall2 : Hid ((l.take (k + 1)).all rowOk = true) := all_take_succ l _ k hlt hall.out (by rw [← HX.out]; exact hok)
        clear hok
        go_wp2_with fail
        refine kW.mono ?_
        rintro e w1 ⟨rfl, h1⟩
        have b1 := fin w1 h1
        clear fin h1 kW
        go_wp2
        go_roundw
        case rel => exact ⟨k + 1, by omega, by go_num, b1, hall2⟩
        case measure => simp [intOf]; omega
      | false =>
        rw [hok] at kW
        have H : Hid (l.all rowOk = false) := all_get_false l _ k hlt (by rw [← HX.out]; exact hok)
        clear hok
        go_wp2_with fail
        refine kW.mono ?_
        rintro e w1 ⟨rfl, h1⟩
        have b1 := fin w1 h1
        clear fin h1 kW
        go_wp2
        go_ret
        exact ⟨by rw [H.out]; rfl, b1⟩
    · have H : Hid (l.all rowOk = true) := by
        have e : l.take k = l := List.take_of_length_le (by omega)
        have h := hall.out
        rw [e] at h
        exact h
      clear hc
      go_wp2
      go_ret
      exact ⟨by rw [H.out]; rfl, hb⟩
end Go.Proofs.YtcgecdiaddcfkaaGreatDoor
