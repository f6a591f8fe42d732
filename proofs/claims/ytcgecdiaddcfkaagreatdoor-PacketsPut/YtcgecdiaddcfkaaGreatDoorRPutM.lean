import Derived.Test.YtcgecdiaddcfkaaGreatDoorM4
/- The walks of what puts each one of a list, and of putList: the count, and each one's bytes, behind what was made so far. -/
set_option linter.unusedSimpArgs false
set_option linter.unusedVariables false
namespace Go.Proofs.YtcgecdiaddcfkaaGreatDoor
open Go.RowKit

/-- A block that the writer does not write. -/
structure Held (B : Nat) (w : World) (v : Value) (k : Nat) (o : Obj) : Prop where
  lt : k < w.heap.size
  ne : k ≠ B
  row : v.ownBlock ≠ some k
  obj : w.heap[k]? = some o
theorem Held.step {B : Nat} {w w' : World} {v v' : Value} {k : Nat} {o : Obj} (h : Held B w v k o) (s : WrStep B w w' v v') : Held B w' v' k o :=
  ⟨Nat.lt_of_lt_of_le h.lt s.size, h.ne, fun e => by rcases s.row k e with h1 | h1; exact h.row h1; have := h.lt; omega, by rw [s.block k h.lt h.ne h.row]; exact h.obj⟩
theorem Held.cell {B : Nat} {w : World} {v : Value} {k : Nat} {c : Array Value} {t : TypeId} {fr : Nat × Nat} (h : Held B w v k (.cells c t fr)) (i : Nat) : w.cell? ⟨k, i, none⟩ = c[i]? := by
  simp [World.cell?, h.obj]
theorem WAt.alloc {w : World} {B base : Nat} {bs : List UInt8} {v : Value} (h : WAt w B base bs v) (o : Obj) : WAt (w.alloc o) B base bs v :=
  ⟨alloc_block h.1 o, h.2.1.alloc o, h.2.2.1, by have := h.2.2.2; simp; omega⟩
theorem held_new {w : World} {B base : Nat} {bs : List UInt8} {v : Value} (h : WAt w B base bs v) (o : Obj) : Held B (w.alloc o) v w.heap.size o :=
  ⟨by simp, by have := h.2.2.1; have := h.2.2.2; omega, fun e => by have := (h.2.1.lt _ e).2; omega, heap_alloc_new w o⟩
theorem WAt.kept {w w' : World} {B base : Nat} {bs : List UInt8} {v v' : Value} (h : WAt w B base bs v) (s : WrStep B w w' v v') : Kept B base w w' := s.kept h.2.2.2 (own_row_ge h.2.1)
theorem txt_len (s : ByteArray) : (txt s).length = s.size + 1 := by
  unfold txt; rw [List.length_cons, Array.length_toList]; rfl
theorem flat_take_len {α : Type} (f : α → List UInt8) (l : List α) (k : Nat) : ((l.take k).flatMap f).length ≤ (l.flatMap f).length := by
  have h : (l.flatMap f).length = ((l.take k).flatMap f).length + ((l.drop k).flatMap f).length := by
    rw [← List.length_append, ← List.flatMap_append, List.take_append_drop]
  omega
theorem flat_take_succ {α : Type} (f : α → List UInt8) (l : List α) (k : Nat) (hk : k < l.length) : (l.take (k + 1)).flatMap f = (l.take k).flatMap f ++ f (l[k]'hk) := by
  rw [List.take_succ_eq_append_getElem hk, List.flatMap_append]; simp

set_option maxHeartbeats 2000000 in
set_option maxRecDepth 1000000 in
theorem putOp1_any (w : World) (B base V : Nat) (tv : TypeId) (bs : List UInt8) (v : Value) (x : OpD) (h : WAt w B base bs v) (hV : Held B w v V (.cells #[ptr B] tv (0, 0))) (hx : x.key.size < 256 ∧ x.to.size < 256) (hl : bs.length + (encOp x).length ≤ 800000000) :
    Calls Tryz.prog 93 #[opV x, ptr V] w fun e w' => e = .returned (.tuple #[]) ∧ ∃ v', WAt w' B base (bs ++ encOp x) v' ∧ WrStep B w w' v v' := by
  have hl0 : (encOp x).length = 7 + x.key.size + x.to.size := by simp only [encOp, List.length_cons, List.length_append, txt_len, be4_len]; omega
  have e0 : bs ++ encOp x = bs ++ [x.kind] ++ txt x.key ++ txt x.to ++ be4 x.value.toNat := by simp [encOp]
  rw [e0]
  obtain ⟨R, hR⟩ : ∃ R, R = bs ++ [x.kind] ++ txt x.key ++ txt x.to ++ be4 x.value.toNat := ⟨_, rfl⟩
  rw [← hR]
  have HR : Hid (R = bs ++ [x.kind] ++ txt x.key ++ txt x.to ++ be4 x.value.toNat) := hR
  clear hR
  unfold opV
  obtain ⟨W, hW⟩ : ∃ W, W = w.alloc (.cells #[.int .u8 (x.kind.toNat : Int), .string x.key, .string x.to, .int .u32 (x.value.toNat : Int)] 85) := ⟨_, rfl⟩
  have hN : Held B W v w.heap.size (.cells #[.int .u8 (x.kind.toNat : Int), .string x.key, .string x.to, .int .u32 (x.value.toNat : Int)] 85 (0, 0)) := by rw [hW]; exact held_new h _
  have h0 : WAt W B base bs v := by rw [hW]; exact h.alloc _
  have S : WrStep B w W v v := by rw [hW]; exact (WrStep.refl B w v).alloc _
  have hV1 := hV.step S
  clear e0 hV h
  have cV : W.cell? ⟨V, 0, none⟩ = some (ptr B) := hV1.cell 0
  have d0 : W.cell? ⟨w.heap.size, 0, none⟩ = some (.int .u8 (x.kind.toNat : Int)) := hN.cell 0
  have d1 : W.cell? ⟨w.heap.size, 1, none⟩ = some (.string x.key) := hN.cell 1
  have d2 : W.cell? ⟨w.heap.size, 2, none⟩ = some (.string x.to) := hN.cell 2
  have d3 : W.cell? ⟨w.heap.size, 3, none⟩ = some (.int .u32 (x.value.toNat : Int)) := hN.cell 3
  have k := small_any W B base bs x.kind v h0 (by omega)
  subst hW
  go_enter Tryz.func93, Tryz.ntmps93
  go_wp2_with fail
  refine k.mono ?_
  rintro e w1 ⟨rfl, v1, hw1, s1⟩
  replace S := S.trans s1
  replace hV1 := hV1.step s1
  replace hN := hN.step s1
  clear k s1 h0 cV d0 d1 d2 d3
  have cV : w1.cell? ⟨V, 0, none⟩ = some (ptr B) := hV1.cell 0
  have d0 : w1.cell? ⟨w.heap.size, 0, none⟩ = some (.int .u8 (x.kind.toNat : Int)) := hN.cell 0
  have d1 : w1.cell? ⟨w.heap.size, 1, none⟩ = some (.string x.key) := hN.cell 1
  have d2 : w1.cell? ⟨w.heap.size, 2, none⟩ = some (.string x.to) := hN.cell 2
  have d3 : w1.cell? ⟨w.heap.size, 3, none⟩ = some (.int .u32 (x.value.toNat : Int)) := hN.cell 3
  have k := wtext_any w1 B base _ x.key hx.1 v1 hw1 (by simp only [List.length_append, List.length_cons, List.length_nil, txt_len, be4_len]; omega)
  go_wp2_with fail
  refine k.mono ?_
  rintro e w2 ⟨rfl, v2, hw2, s1⟩
  replace S := S.trans s1
  replace hV1 := hV1.step s1
  replace hN := hN.step s1
  clear k s1 hw1 cV d0 d1 d2 d3
  have cV : w2.cell? ⟨V, 0, none⟩ = some (ptr B) := hV1.cell 0
  have d0 : w2.cell? ⟨w.heap.size, 0, none⟩ = some (.int .u8 (x.kind.toNat : Int)) := hN.cell 0
  have d1 : w2.cell? ⟨w.heap.size, 1, none⟩ = some (.string x.key) := hN.cell 1
  have d2 : w2.cell? ⟨w.heap.size, 2, none⟩ = some (.string x.to) := hN.cell 2
  have d3 : w2.cell? ⟨w.heap.size, 3, none⟩ = some (.int .u32 (x.value.toNat : Int)) := hN.cell 3
  have k := wtext_any w2 B base _ x.to hx.2 v2 hw2 (by simp only [List.length_append, List.length_cons, List.length_nil, txt_len, be4_len]; omega)
  go_wp2_with fail
  refine k.mono ?_
  rintro e w3 ⟨rfl, v3, hw3, s1⟩
  replace S := S.trans s1
  replace hV1 := hV1.step s1
  replace hN := hN.step s1
  clear k s1 hw2 cV d0 d1 d2 d3
  have cV : w3.cell? ⟨V, 0, none⟩ = some (ptr B) := hV1.cell 0
  have d0 : w3.cell? ⟨w.heap.size, 0, none⟩ = some (.int .u8 (x.kind.toNat : Int)) := hN.cell 0
  have d1 : w3.cell? ⟨w.heap.size, 1, none⟩ = some (.string x.key) := hN.cell 1
  have d2 : w3.cell? ⟨w.heap.size, 2, none⟩ = some (.string x.to) := hN.cell 2
  have d3 : w3.cell? ⟨w.heap.size, 3, none⟩ = some (.int .u32 (x.value.toNat : Int)) := hN.cell 3
  have k := number_any w3 B base _ x.value v3 hw3 (by simp only [List.length_append, List.length_cons, List.length_nil, txt_len, be4_len]; omega)
  go_wp2_with fail
  refine k.mono ?_
  rintro e w4 ⟨rfl, v4, hw4, s1⟩
  replace S := S.trans s1
  replace hV1 := hV1.step s1
  replace hN := hN.step s1
  clear k s1 hw3 cV d0 d1 d2 d3
  go_wp2
  go_end0
  exact ⟨rfl, v4, by rw [HR.out]; exact hw4, S⟩

set_option maxHeartbeats 2000000 in
set_option maxRecDepth 1000000 in
theorem putRow1_any (w : World) (B base V : Nat) (tv : TypeId) (bs : List UInt8) (v : Value) (x : RowD) (h : WAt w B base bs v) (hV : Held B w v V (.cells #[ptr B] tv (0, 0))) (hx : x.key.size < 256) (hl : bs.length + (encRow x).length ≤ 800000000) :
    Calls Tryz.prog 103 #[rowV x, ptr V] w fun e w' => e = .returned (.tuple #[]) ∧ ∃ v', WAt w' B base (bs ++ encRow x) v' ∧ WrStep B w w' v v' := by
  have hl0 : (encRow x).length = 5 + x.key.size := by simp only [encRow, List.length_cons, List.length_append, txt_len, be4_len]; omega
  have e0 : bs ++ encRow x = bs ++ txt x.key ++ be4 x.value.toNat := by simp [encRow]
  rw [e0]
  obtain ⟨R, hR⟩ : ∃ R, R = bs ++ txt x.key ++ be4 x.value.toNat := ⟨_, rfl⟩
  rw [← hR]
  have HR : Hid (R = bs ++ txt x.key ++ be4 x.value.toNat) := hR
  clear hR
  unfold rowV
  obtain ⟨W, hW⟩ : ∃ W, W = w.alloc (.cells #[.string x.key, .int .u32 (x.value.toNat : Int)] 92) := ⟨_, rfl⟩
  have hN : Held B W v w.heap.size (.cells #[.string x.key, .int .u32 (x.value.toNat : Int)] 92 (0, 0)) := by rw [hW]; exact held_new h _
  have h0 : WAt W B base bs v := by rw [hW]; exact h.alloc _
  have S : WrStep B w W v v := by rw [hW]; exact (WrStep.refl B w v).alloc _
  have hV1 := hV.step S
  clear e0 hV h
  have cV : W.cell? ⟨V, 0, none⟩ = some (ptr B) := hV1.cell 0
  have d0 : W.cell? ⟨w.heap.size, 0, none⟩ = some (.string x.key) := hN.cell 0
  have d1 : W.cell? ⟨w.heap.size, 1, none⟩ = some (.int .u32 (x.value.toNat : Int)) := hN.cell 1
  have k := wtext_any W B base bs x.key hx v h0 (by omega)
  subst hW
  go_enter Tryz.func103, Tryz.ntmps103
  go_wp2_with fail
  refine k.mono ?_
  rintro e w1 ⟨rfl, v1, hw1, s1⟩
  replace S := S.trans s1
  replace hV1 := hV1.step s1
  replace hN := hN.step s1
  clear k s1 h0 cV d0 d1
  have cV : w1.cell? ⟨V, 0, none⟩ = some (ptr B) := hV1.cell 0
  have d0 : w1.cell? ⟨w.heap.size, 0, none⟩ = some (.string x.key) := hN.cell 0
  have d1 : w1.cell? ⟨w.heap.size, 1, none⟩ = some (.int .u32 (x.value.toNat : Int)) := hN.cell 1
  have k := number_any w1 B base _ x.value v1 hw1 (by simp only [List.length_append, List.length_cons, List.length_nil, txt_len, be4_len]; omega)
  go_wp2_with fail
  refine k.mono ?_
  rintro e w2 ⟨rfl, v2, hw2, s1⟩
  replace S := S.trans s1
  replace hV1 := hV1.step s1
  replace hN := hN.step s1
  clear k s1 hw1 cV d0 d1
  go_wp2
  go_end0
  exact ⟨rfl, v2, by rw [HR.out]; exact hw2, S⟩

set_option maxHeartbeats 2000000 in
set_option maxRecDepth 1000000 in
theorem putListOp_any (w : World) (B base V lim : Nat) (tv : TypeId) (bs : List UInt8) (v : Value) (vl : Value) (l : List OpD) (h : WAt w B base bs v) (hV : Held B w v V (.cells #[ptr B] tv (0, 0))) (hlB : lim ≤ B) (hs : SlAt 4 opCells w lim vl l) (hx : ∀ x ∈ l, x.key.size < 256 ∧ x.to.size < 256) (h6 : l.length < 65536) (hl : bs.length + (l.flatMap encOp).length ≤ 700000000) :
    Calls Tryz.prog 92 #[ptr B, vl, .func (.func 93) #[] #[ptr V]] w fun e w' => e = .returned (.tuple #[]) ∧ ∃ v', WAt w' B base (bs ++ encList encOp l) v' ∧ WrStep B w w' v v' := by
  obtain ⟨ao, cap, rfl, hlc, hcm, hc⟩ := hs
  unfold maxLen at hcm
  have k0 := count_any w B base bs l.length h6 v h (by omega)
  go_enter Tryz.func92, Tryz.ntmps92
  go_wp2_with fail
  refine k0.mono ?_
  rintro e w0 ⟨rfl, v0, hw0, s0⟩
  have hV0 := hV.step s0
  clear k0
  go_wp2
  go_loopw [7, 14] (fun _ i wr => ∃ (k : Nat) (vk : Value), k ≤ l.length ∧ i = .int .i64 k ∧ WAt wr B base (bs ++ be2 l.length ++ (l.take k).flatMap encOp) vk ∧ WrStep B w wr v vk ∧ Held B wr vk V (.cells #[ptr B] tv (0, 0))) (fun _ i _ => l.length - (intOf i).toNat)
  case atStart => exact ⟨0, v0, Nat.zero_le _, rfl, by simpa using hw0, s0, hV0⟩
  case round =>
    clear hw0 s0 hV0
    obtain ⟨k, vk, hk, rfl, hwk, sk, hVk⟩ := hrel
    by_cases hlt : k < l.length
    · obtain ⟨b, off, rfl, hbl, hcell⟩ := hc (by omega)
      have hz := sk.size
      have hkp := h.kept sk
      have hB := h.2.2
      obtain ⟨x, hxk⟩ : ∃ x, x = l[k]'hlt := ⟨_, rfl⟩
      have cc : ∀ j u, (opCells x)[j]? = some u → wr.cell? ⟨b, off + k * 4 + j, none⟩ = some u := fun j u hu => (hkp.cell (by simp; omega) (by simp; omega)).trans (hcell k hlt j u (by rw [← hxk]; exact hu))
      have c0 := cc 0 _ rfl
      have c1 := cc 1 _ rfl
      have c2 := cc 2 _ rfl
      have c3 := cc 3 _ rfl
      simp only [Nat.add_zero, Nat.mul_one] at c0
      have hlen1 := flat_take_len encOp l (k + 1)
      rw [flat_take_succ encOp l k hlt, ← hxk, List.length_append] at hlen1
      have hE : Hid (bs ++ be2 l.length ++ (l.take (k + 1)).flatMap encOp = bs ++ be2 l.length ++ (l.take k).flatMap encOp ++ encOp x) := by
        show _ = _
        rw [flat_take_succ encOp l k hlt, ← hxk]; simp only [List.append_assoc]
      have hxc := hx x (by rw [hxk]; exact List.getElem_mem _)
      clear cc hcell hc hkp hxk hx
      obtain ⟨W, hW⟩ : ∃ W, W = wr.alloc (.cells #[.int .u8 (x.kind.toNat : Int), .string x.key, .string x.to, .int .u32 (x.value.toNat : Int)] 85) := ⟨_, rfl⟩
      have sW : WrStep B wr W vk vk := by rw [hW]; exact (WrStep.refl B wr vk).alloc _
      have hWA : WAt W B base (bs ++ be2 l.length ++ (l.take k).flatMap encOp) vk := by rw [hW]; exact hwk.alloc _
      have kW := putOp1_any W B base V tv _ vk x hWA (hVk.step sW) hxc (by simp only [List.length_append, be2_len]; omega)
      have fin : ∀ w1 v1, WrStep B W w1 vk v1 → WrStep B w w1 v v1 ∧ Held B w1 v1 V (.cells #[ptr B] tv (0, 0)) := fun w1 v1 s1 => ⟨sk.trans (sW.trans s1), (hVk.step sW).step s1⟩
      clear hWA sW hVk sk hwk hlen1 hxc
      subst hW
      go_wp2_with fail
      refine kW.mono ?_
      rintro e w1 ⟨rfl, v1, hw1, s1⟩
      obtain ⟨S1, hV1⟩ := fin w1 v1 s1
      rw [← hE.out] at hw1
      clear fin s1 kW hE
      go_wp2
      go_roundw
      case rel => exact ⟨k + 1, v1, by omega, by go_num, hw1, S1, hV1⟩
      case measure => simp [intOf]; omega
    · have e : l.take k = l := List.take_of_length_le (by omega)
      rw [e, List.append_assoc] at hwk
      clear hc e
      go_wp2
      go_end0
      exact ⟨rfl, vk, hwk, sk⟩

set_option maxHeartbeats 2000000 in
set_option maxRecDepth 1000000 in
theorem putListRow_any (w : World) (B base V lim : Nat) (tv : TypeId) (bs : List UInt8) (v : Value) (vl : Value) (l : List RowD) (h : WAt w B base bs v) (hV : Held B w v V (.cells #[ptr B] tv (0, 0))) (hlB : lim ≤ B) (hs : SlAt 2 rowCells w lim vl l) (hx : ∀ x ∈ l, x.key.size < 256) (h6 : l.length < 65536) (hl : bs.length + (l.flatMap encRow).length ≤ 700000000) :
    Calls Tryz.prog 102 #[ptr B, vl, .func (.func 103) #[] #[ptr V]] w fun e w' => e = .returned (.tuple #[]) ∧ ∃ v', WAt w' B base (bs ++ encList encRow l) v' ∧ WrStep B w w' v v' := by
  obtain ⟨ao, cap, rfl, hlc, hcm, hc⟩ := hs
  unfold maxLen at hcm
  have k0 := count_any w B base bs l.length h6 v h (by omega)
  go_enter Tryz.func102, Tryz.ntmps102
  go_wp2_with fail
  refine k0.mono ?_
  rintro e w0 ⟨rfl, v0, hw0, s0⟩
  have hV0 := hV.step s0
  clear k0
  go_wp2
  go_loopw [7, 14] (fun _ i wr => ∃ (k : Nat) (vk : Value), k ≤ l.length ∧ i = .int .i64 k ∧ WAt wr B base (bs ++ be2 l.length ++ (l.take k).flatMap encRow) vk ∧ WrStep B w wr v vk ∧ Held B wr vk V (.cells #[ptr B] tv (0, 0))) (fun _ i _ => l.length - (intOf i).toNat)
  case atStart => exact ⟨0, v0, Nat.zero_le _, rfl, by simpa using hw0, s0, hV0⟩
  case round =>
    clear hw0 s0 hV0
    obtain ⟨k, vk, hk, rfl, hwk, sk, hVk⟩ := hrel
    by_cases hlt : k < l.length
    · obtain ⟨b, off, rfl, hbl, hcell⟩ := hc (by omega)
      have hz := sk.size
      have hkp := h.kept sk
      have hB := h.2.2
      obtain ⟨x, hxk⟩ : ∃ x, x = l[k]'hlt := ⟨_, rfl⟩
      have cc : ∀ j u, (rowCells x)[j]? = some u → wr.cell? ⟨b, off + k * 2 + j, none⟩ = some u := fun j u hu => (hkp.cell (by simp; omega) (by simp; omega)).trans (hcell k hlt j u (by rw [← hxk]; exact hu))
      have c0 := cc 0 _ rfl
      have c1 := cc 1 _ rfl
      simp only [Nat.add_zero, Nat.mul_one] at c0
      have hlen1 := flat_take_len encRow l (k + 1)
      rw [flat_take_succ encRow l k hlt, ← hxk, List.length_append] at hlen1
      have hE : Hid (bs ++ be2 l.length ++ (l.take (k + 1)).flatMap encRow = bs ++ be2 l.length ++ (l.take k).flatMap encRow ++ encRow x) := by
        show _ = _
        rw [flat_take_succ encRow l k hlt, ← hxk]; simp only [List.append_assoc]
      have hxc := hx x (by rw [hxk]; exact List.getElem_mem _)
      clear cc hcell hc hkp hxk hx
      obtain ⟨W, hW⟩ : ∃ W, W = wr.alloc (.cells #[.string x.key, .int .u32 (x.value.toNat : Int)] 92) := ⟨_, rfl⟩
      have sW : WrStep B wr W vk vk := by rw [hW]; exact (WrStep.refl B wr vk).alloc _
      have hWA : WAt W B base (bs ++ be2 l.length ++ (l.take k).flatMap encRow) vk := by rw [hW]; exact hwk.alloc _
      have kW := putRow1_any W B base V tv _ vk x hWA (hVk.step sW) hxc (by simp only [List.length_append, be2_len]; omega)
      have fin : ∀ w1 v1, WrStep B W w1 vk v1 → WrStep B w w1 v v1 ∧ Held B w1 v1 V (.cells #[ptr B] tv (0, 0)) := fun w1 v1 s1 => ⟨sk.trans (sW.trans s1), (hVk.step sW).step s1⟩
      clear hWA sW hVk sk hwk hlen1 hxc
      subst hW
      go_wp2_with fail
      refine kW.mono ?_
      rintro e w1 ⟨rfl, v1, hw1, s1⟩
      obtain ⟨S1, hV1⟩ := fin w1 v1 s1
      rw [← hE.out] at hw1
      clear fin s1 kW hE
      go_wp2
      go_roundw
      case rel => exact ⟨k + 1, v1, by omega, by go_num, hw1, S1, hV1⟩
      case measure => simp [intOf]; omega
    · have e : l.take k = l := List.take_of_length_le (by omega)
      rw [e, List.append_assoc] at hwk
      clear hc e
      go_wp2
      go_end0
      exact ⟨rfl, vk, hwk, sk⟩
end Go.Proofs.YtcgecdiaddcfkaaGreatDoor
