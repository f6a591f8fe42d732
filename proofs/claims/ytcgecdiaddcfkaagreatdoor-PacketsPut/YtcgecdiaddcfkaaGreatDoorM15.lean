/- Texts of this proof, laid into one. -/
import Derived.Test.YtcgecdiaddcfkaaGreatDoorM13
import Derived.Test.YtcgecdiaddcfkaaGreatDoorRGet3M
import Derived.Test.YtcgecdiaddcfkaaGreatDoorPMathM
import Derived.Test.YtcgecdiaddcfkaaGreatDoorM2
/- What is owned can be read. -/
set_option linter.unusedSimpArgs false
set_option linter.unusedVariables false
namespace Go.Proofs.YtcgecdiaddcfkaaGreatDoor
open Go.RowKit

theorem flat_get {α : Type} {f : α → List Value} {size : Nat} (hf : ∀ x, (f x).length = size) : ∀ (l : List α) (i : Nat) (hi : i < l.length) (j : Nat), j < size → (l.flatMap f)[i * size + j]? = (f (l[i]'hi))[j]? := by
  intro l
  induction l with
  | nil => intro i hi; cases hi
  | cons x l ih =>
    intro i hi j hj
    rw [List.flatMap_cons]
    cases i with
    | zero => rw [Nat.zero_mul, Nat.zero_add, List.getElem?_append_left (by rw [hf]; exact hj)]; rfl
    | succ i =>
      rw [List.getElem?_append_right (by rw [hf, Nat.succ_mul]; omega), hf]
      have e : (i + 1) * size + j - size = i * size + j := by rw [Nat.succ_mul]; omega
      rw [e, ih i (by simpa using hi) j hj]
      rfl
theorem sl_own {α : Type} {f : α → List Value} {w : World} {base : Nat} {e : TypeId} {size : Nat} {v : Value} {l : List α} (hf : ∀ x, (f x).length = size) (h : w.ownsRow base e size v l.length (l.flatMap f)) : SlAt size f w w.heap.size v l := by
  have hlen := h.1
  rcases h.2 with ⟨rfl, hn⟩ | ⟨g, cap, cur, rfl, hb, hg, hnc, hcm, hcs, ht⟩
  · exact ⟨none, 0, by rw [hn], by omega, by unfold maxLen; omega, fun hp => by omega⟩
  · refine ⟨_, cap, rfl, hnc, hcm, fun hp => ⟨g, 0, rfl, ?_, fun i hi j u hu => ?_⟩⟩
    · rcases Nat.lt_or_ge g w.heap.size with h' | h'
      · exact h'
      · rw [Array.getElem?_eq_none h'] at hg; cases hg
    · have hj : j < size := by
        rcases Nat.lt_or_ge j size with h' | h'
        · exact h'
        · rw [List.getElem?_eq_none (by rw [hf]; exact h')] at hu; cases hu
      have hlt : i * size + j < l.length * size := by
        have : (i + 1) * size ≤ l.length * size := Nat.mul_le_mul_right _ hi
        rw [Nat.succ_mul] at this; omega
      rw [Nat.zero_add, World.ownsRow.cellAt h _ hlt, flat_get hf l i hi j hj]
      exact hu
theorem bcells_flat (bs : List UInt8) : bs.flatMap bCell = bcells bs := by
  unfold bcells bCell
  induction bs with
  | nil => rfl
  | cons c bs ih => rw [List.flatMap_cons, ih]; rfl
theorem in_own {w : World} {base : Nat} {v : Value} {bs : List UInt8} (h : BsAt w base v bs) : InAt w w.heap.size v bs := by
  unfold BsAt at h
  rw [← bcells_flat] at h
  exact sl_own (fun _ => rfl) h
theorem own_below {w w' : World} {base : Nat} {e : TypeId} {size : Nat} {v : Value} {n : Nat} {xs : List Value} (h : w.ownsRow base e size v n xs) (hk : Below w.heap.size w w') : w'.ownsRow base e size v n xs := by
  refine ⟨h.1, ?_⟩
  rcases h.2 with h1 | ⟨g, cap, cur, h1, h2, h3, h4⟩
  · exact .inl h1
  · have hg : g < w.heap.size := by
      rcases Nat.lt_or_ge g w.heap.size with h' | h'
      · exact h'
      · rw [Array.getElem?_eq_none h'] at h3; cases h3
    exact .inr ⟨g, cap, cur, h1, h2, by rw [hk.block g hg]; exact h3, h4⟩
theorem BsAt.below {w w' : World} {base : Nat} {v : Value} {bs : List UInt8} (h : BsAt w base v bs) (hk : Below w.heap.size w w') : BsAt w' base v bs := own_below h hk
theorem opCells_len (x : OpD) : (opCells x).length = 4 := rfl
theorem rowCells_len (x : RowD) : (rowCells x).length = 2 := rfl
theorem chCells_len (x : ChD) : (chCells x).length = 3 := rfl
theorem resCells_len (x : ResP) : (resCells x).length = 1 := rfl
theorem OwnRes.at {w : World} {base : Nat} {v : Value} {l : List ResP} (h : OwnRes w base v l) (hs : ∀ p ∈ l, ∀ x ∈ p.2, rowSm x) : ResAt w w.heap.size v l :=
  ⟨sl_own resCells_len h.own, fun p hp => ⟨sl_own rowCells_len (h.rows p hp), hs p hp⟩⟩
theorem OwnRes.below {w w' : World} {base : Nat} {v : Value} {l : List ResP} (h : OwnRes w base v l) (hk : Below w.heap.size w w') : OwnRes w' base v l :=
  ⟨own_below h.own hk, fun p hp => own_below (h.rows p hp) hk, h.apart, h.pair⟩
theorem below_one (w : World) (o : Obj) : Below w.heap.size w (w.alloc o) := (Below.refl _ _).alloc (Nat.le_refl _) o
theorem lit_own {α : Type} {f : α → List Value} (w : World) (t : TypeId) (size : Nat) (hf : ∀ x, (f x).length = size) (l : List α) (hl : l.length ≤ maxLen) (hn : (l.flatMap f).length = l.length * size) :
    (w.alloc (.cells (l.flatMap f).toArray t)).ownsRow w.heap.size t size (.slice (some ⟨w.heap.size, 0, none⟩) l.length l.length) l.length (l.flatMap f) := by
  have := World.ownsRow_lit (base := w.heap.size) (e := t) (size := size) w (l.flatMap f).toArray l.length (Nat.le_refl _) hl (by simpa using hn)
  simpa using this
theorem small16 {s : ByteArray} (h : chk s = true) : s.size ≤ maxLen := by have := chk_size h; unfold maxLen; omega

end Go.Proofs.YtcgecdiaddcfkaaGreatDoor
/- The walks of the small functions of packets: what ahead of the ops may be, four bytes, a number. -/
set_option linter.unusedSimpArgs false
set_option linter.unusedVariables false
namespace Go.Proofs.YtcgecdiaddcfkaaGreatDoor
open Go.RowKit

set_option maxHeartbeats 2000000 in
set_option maxRecDepth 1000000 in
theorem headMay_any (w : World) (s f t g : Nat) (ao bo : Option Addr) (na ca nb cb : Nat) :
    Calls Tryz.prog 80 #[.agg #[.int .u8 (s : Int), .int .u8 (f : Int), .int .u8 (t : Int), .int .u32 (g : Int), .slice ao na ca, .slice bo nb cb]] w fun e w' => e = .returned (.bool (headOk s f t)) ∧ Below w.heap.size w w' := by
  have B0 := below_one w (.cells #[.int .u8 (s : Int), .int .u8 (f : Int), .int .u8 (t : Int), .int .u32 (g : Int), .slice ao na ca, .slice bo nb cb] 27)
  by_cases h1 : 1 ≤ s
  case neg =>
    have E : headOk s f t = false := by unfold headOk; exact decide_eq_false (by omega)
    have i1 : ¬ (1 : Int) ≤ (s : Int) := by omega
    rw [E]; clear E h1
    go_enter Tryz.func80, Tryz.ntmps80
    go_wp2
    go_ret
    exact ⟨rfl, B0⟩
  by_cases h2 : s ≤ 7
  case neg =>
    have E : headOk s f t = false := by unfold headOk; exact decide_eq_false (by omega)
    have i1 : (1 : Int) ≤ (s : Int) := by omega
    have i2 : ¬ (s : Int) ≤ 7 := by omega
    rw [E]; clear E h1 h2
    go_enter Tryz.func80, Tryz.ntmps80
    go_wp2
    go_ret
    exact ⟨rfl, B0⟩
  by_cases h3 : f ≤ 3
  case neg =>
    have E : headOk s f t = false := by unfold headOk; exact decide_eq_false (by omega)
    have i1 : (1 : Int) ≤ (s : Int) := by omega
    have i2 : (s : Int) ≤ 7 := by omega
    have i3 : ¬ (f : Int) ≤ 3 := by omega
    rw [E]; clear E h1 h2 h3
    go_enter Tryz.func80, Tryz.ntmps80
    go_wp2
    go_ret
    exact ⟨rfl, B0⟩
  have E : headOk s f t = decide ((t : Int) ≤ 3) := by
    unfold headOk
    congr 1
    rw [eq_iff_iff]
    omega
  have i1 : (1 : Int) ≤ (s : Int) := by omega
  have i2 : (s : Int) ≤ 7 := by omega
  have i3 : (f : Int) ≤ 3 := by omega
  rw [E]; clear E h1 h2 h3
  go_enter Tryz.func80, Tryz.ntmps80
  go_wp2
  go_ret
  exact ⟨rfl, B0⟩

set_option maxHeartbeats 2000000 in
set_option maxRecDepth 1000000 in
theorem four_any (w : World) (n : Nat) (hn : n < 4294967296) :
    Calls Tryz.prog 89 #[.int .u32 (n : Int)] w fun e w' => ∃ c, e = .returned (.slice (some ⟨w.heap.size, 0, none⟩) 4 c) ∧ BsAt w' w.heap.size (.slice (some ⟨w.heap.size, 0, none⟩) 4 c) (be4 n) ∧ Below w.heap.size w w' := by
  obtain ⟨vs, hvs⟩ : ∃ vs, vs = [Value.int .u8 ((n : Int) / 16777216 % 256), Value.int .u8 ((n : Int) / 65536 % 256), Value.int .u8 ((n : Int) / 256 % 256), Value.int .u8 ((n : Int) % 256)] := ⟨_, rfl⟩
  have E : Hid (vs = bcells (be4 n)) := hvs.trans (be4_cells hn)
  have O := World.ownsRow_lit (base := w.heap.size) (e := 5) (size := 1) w vs.toArray 4 (Nat.le_refl _) (by unfold maxLen; omega) (by rw [hvs]; rfl)
  rw [show vs.toArray.toList = bcells (be4 n) from E.out] at O
  have O' : Hid _ := O
  have B0 := below_one w (.cells vs.toArray 5)
  subst hvs
  clear E O hn
  go_enter Tryz.func89, Tryz.ntmps89
  go_wp2
  go_ret
  exact ⟨_, rfl, O'.out, B0⟩

set_option maxHeartbeats 2000000 in
set_option maxRecDepth 1000000 in
theorem pnumber_any (w : World) (v : Value) (bs : List UInt8) (hb : InAt w w.heap.size v bs) (hl : bs.length ≤ 4) :
    Calls Tryz.prog 79 #[v] w fun e w' => e = .returned (.int .u32 (hiN bs : Int)) ∧ w = w' := by
  obtain ⟨ao, cap, rfl, hlc, hcm, hc⟩ := hb
  unfold maxLen at hcm
  go_enter Tryz.func79, Tryz.ntmps79
  go_wp2
  go_loop [3, 5, 8] (fun x _ i => ∃ k : Nat, k ≤ bs.length ∧ i = .int .i64 k ∧ x = .int .u32 (hiN (bs.take k) : Int)) (fun _ _ i => bs.length - (intOf i).toNat)
  case atStart => exact ⟨0, Nat.zero_le _, rfl, rfl⟩
  case round =>
    obtain ⟨k, hk, rfl, rfl⟩ := hrel
    by_cases hlt : k < bs.length
    · obtain ⟨b, off, rfl, hbl, hcell⟩ := hc (by omega)
      have c0 := hcell k hlt 0 _ rfl
      simp only [Nat.add_zero, Nat.mul_one, bv] at c0
      clear hcell hc
      go_wp2
      go_round
      case rel => exact ⟨k + 1, by omega, by go_num, by rw [hi_succ hlt hl]⟩
      case measure => simp [intOf]; omega
    · have e : bs.take k = bs := List.take_of_length_le (by omega)
      rw [e]
      clear hc e
      go_wp2
      go_ret
      exact ⟨rfl, rfl⟩
end Go.Proofs.YtcgecdiaddcfkaaGreatDoor
/- What is put, and what is got, by the answer. -/
set_option linter.unusedSimpArgs false
set_option linter.unusedVariables false
namespace Go.Proofs.YtcgecdiaddcfkaaGreatDoor
open Go.RowKit

theorem own_len {w : World} {base : Nat} {e : TypeId} {size : Nat} {v : Value} {n : Nat} {xs : List Value} (h : w.ownsRow base e size v n xs) : ∃ ao c, v = .slice ao n c := by
  rcases h.2 with ⟨rfl, rfl⟩ | ⟨g, cap, cur, rfl, _⟩
  · exact ⟨_, _, rfl⟩
  · exact ⟨_, _, rfl⟩

theorem PutOps_arg {w : World} {vl : Value} {l : List OpD} (hs : SlAt 4 opCells w w.heap.size vl l) (hsm : ∀ x ∈ l, opSm x) (h : l.all opOk = false) :
    Calls Tryz.prog 29 #[vl] w fun e w' => ∃ ao c, e = .returned (.tuple #[.slice ao 0 c, .int .i64 1]) ∧ Below w.heap.size w w' := by
  have k := PutOps_any w vl l hs hsm
  rw [putOps_arg h] at k
  refine k.mono ?_
  rintro e w' ⟨v, rfl, h1, h2⟩
  obtain ⟨ao, c, rfl⟩ := own_len h1
  exact ⟨ao, c, rfl, h2⟩
theorem PutOps_limit {w : World} {vl : Value} {l : List OpD} (hs : SlAt 4 opCells w w.heap.size vl l) (hsm : ∀ x ∈ l, opSm x) (h : l.all opOk = true) (hn : ¬ l.length ≤ 16) :
    Calls Tryz.prog 29 #[vl] w fun e w' => ∃ ao c, e = .returned (.tuple #[.slice ao 0 c, .int .i64 3]) ∧ Below w.heap.size w w' := by
  have k := PutOps_any w vl l hs hsm
  rw [putOps_limit h hn] at k
  refine k.mono ?_
  rintro e w' ⟨v, rfl, h1, h2⟩
  obtain ⟨ao, c, rfl⟩ := own_len h1
  exact ⟨ao, c, rfl, h2⟩
theorem PutOps_fits {w : World} {vl : Value} {l : List OpD} (hs : SlAt 4 opCells w w.heap.size vl l) (hsm : ∀ x ∈ l, opSm x) (h : l.all opOk = true) (hn : l.length ≤ 16) :
    Calls Tryz.prog 29 #[vl] w fun e w' => ∃ ao c, e = .returned (.tuple #[.slice ao (encList encOp l).length c, .int .i64 0]) ∧ BsAt w' w.heap.size (.slice ao (encList encOp l).length c) (encList encOp l) ∧ Below w.heap.size w w' := by
  have k := PutOps_any w vl l hs hsm
  rw [putOps_fits h hn] at k
  refine k.mono ?_
  rintro e w' ⟨v, rfl, h1, h2⟩
  obtain ⟨ao, c, hv⟩ := own_len h1
  simp only at hv h1
  subst hv
  exact ⟨ao, c, rfl, h1, h2⟩

theorem GetOps_none {w : World} {vb : Value} {bs : List UInt8} (hb : InAt w w.heap.size vb bs) (h : getOps bs = ([], 4)) :
    Calls Tryz.prog 81 #[vb] w fun e w' => ∃ ao c, e = .returned (.tuple #[.slice ao 0 c, .int .i64 4]) ∧ Below w.heap.size w w' := by
  have k := GetOps_any w vb bs hb
  rw [h] at k
  refine k.mono ?_
  rintro e w' ⟨v, rfl, h1, h2⟩
  obtain ⟨ao, c, rfl⟩ := own_len h1
  exact ⟨ao, c, rfl, h2⟩
theorem GetOps_some {w : World} {vb : Value} {bs : List UInt8} {l : List OpD} (hb : InAt w w.heap.size vb bs) (h : getOps bs = (l, 0)) :
    Calls Tryz.prog 81 #[vb] w fun e w' => ∃ ao c, e = .returned (.tuple #[.slice ao l.length c, .int .i64 0]) ∧ w'.ownsRow w.heap.size 85 4 (.slice ao l.length c) l.length (l.flatMap opCells) ∧ Below w.heap.size w w' := by
  have k := GetOps_any w vb bs hb
  rw [h] at k
  refine k.mono ?_
  rintro e w' ⟨v, rfl, h1, h2⟩
  obtain ⟨ao, c, hv⟩ := own_len h1
  simp only at hv h1
  subst hv
  exact ⟨ao, c, rfl, h1, h2⟩
theorem getOps_two (bs : List UInt8) : (∃ l, getOps bs = (l, 0) ∧ l.all opOk = true ∧ l.length ≤ 16 ∧ encList encOp l = bs) ∨ getOps bs = ([], 4) := by
  rcases whole_iff good_op (most := 16) (by omega) bs with h | h
  · exact .inl h
  · exact .inr h.1
theorem getOps_put {l : List OpD} (h : l.all opOk = true) (hn : l.length ≤ 16) : getOps (encList encOp l) = (l, 0) := whole_put good_op (by omega) l h hn

theorem getChs_two (bs : List UInt8) : (∃ l, getChs bs = (l, 0) ∧ l.all chOk = true ∧ l.length ≤ 4096 ∧ encList encCh l = bs) ∨ getChs bs = ([], 4) := by
  rcases whole_iff good_ch (most := 4096) (by omega) bs with h | h
  · exact .inl h
  · exact .inr h.1
theorem getChs_put {l : List ChD} (h : l.all chOk = true) (hn : l.length ≤ 4096) : getChs (encList encCh l) = (l, 0) := whole_put good_ch (by omega) l h hn

theorem putResP_arg {l : List ResP} (h : l.all resOkP = false) : putRes (l.map (·.2)) = ([], 1) := by
  unfold putRes; rw [all_P, if_neg (by simp [h])]
theorem putResP_limit {l : List ResP} (h : l.all resOkP = true) (hn : ¬ (l.length ≤ 16 ∧ l.all fewP = true)) : putRes (l.map (·.2)) = ([], 3) := by
  unfold putRes; rw [all_P, if_pos h, few_P, List.length_map, if_neg hn]
theorem putResP_fits {l : List ResP} (h : l.all resOkP = true) (hn : l.length ≤ 16 ∧ l.all fewP = true) : putRes (l.map (·.2)) = (encList encResP l, 0) := by
  unfold putRes; rw [all_P, if_pos h, few_P, List.length_map, if_pos hn, encList_P]

theorem PutResults_arg {w : World} {vl : Value} {l : List ResP} (hs : ResAt w w.heap.size vl l) (h : l.all resOkP = false) :
    Calls Tryz.prog 31 #[vl] w fun e w' => ∃ ao c, e = .returned (.tuple #[.slice ao 0 c, .int .i64 1]) ∧ Below w.heap.size w w' := by
  have k := PutResults_any w vl l hs
  rw [putResP_arg h] at k
  refine k.mono ?_
  rintro e w' ⟨v, rfl, h1, h2⟩
  obtain ⟨ao, c, rfl⟩ := own_len h1
  exact ⟨ao, c, rfl, h2⟩
theorem PutResults_limit {w : World} {vl : Value} {l : List ResP} (hs : ResAt w w.heap.size vl l) (h : l.all resOkP = true) (hn : ¬ (l.length ≤ 16 ∧ l.all fewP = true)) :
    Calls Tryz.prog 31 #[vl] w fun e w' => ∃ ao c, e = .returned (.tuple #[.slice ao 0 c, .int .i64 3]) ∧ Below w.heap.size w w' := by
  have k := PutResults_any w vl l hs
  rw [putResP_limit h hn] at k
  refine k.mono ?_
  rintro e w' ⟨v, rfl, h1, h2⟩
  obtain ⟨ao, c, rfl⟩ := own_len h1
  exact ⟨ao, c, rfl, h2⟩
theorem PutResults_fits {w : World} {vl : Value} {l : List ResP} (hs : ResAt w w.heap.size vl l) (h : l.all resOkP = true) (hn : l.length ≤ 16 ∧ l.all fewP = true) :
    Calls Tryz.prog 31 #[vl] w fun e w' => ∃ ao c, e = .returned (.tuple #[.slice ao (encList encResP l).length c, .int .i64 0]) ∧ BsAt w' w.heap.size (.slice ao (encList encResP l).length c) (encList encResP l) ∧ Below w.heap.size w w' := by
  have k := PutResults_any w vl l hs
  rw [putResP_fits h hn] at k
  refine k.mono ?_
  rintro e w' ⟨v, rfl, h1, h2⟩
  obtain ⟨ao, c, hv⟩ := own_len h1
  simp only at hv h1
  subst hv
  exact ⟨ao, c, rfl, h1, h2⟩

theorem GetResults_none {w : World} {vb : Value} {bs : List UInt8} (hb : InAt w w.heap.size vb bs) (h : getRes bs = ([], 4)) :
    Calls Tryz.prog 82 #[vb] w fun e w' => ∃ ao c, e = .returned (.tuple #[.slice ao 0 c, .int .i64 4]) ∧ Below w.heap.size w w' := by
  have k := GetResults_any w vb bs hb
  rw [h] at k
  refine k.mono ?_
  rintro e w' ⟨v, rfl, ⟨l, h1, hm⟩, h2⟩
  have hl : l = [] := by simpa using hm
  subst hl
  obtain ⟨ao, c, rfl⟩ := own_len h1.own
  exact ⟨ao, c, rfl, h2⟩
theorem GetResults_some {w : World} {vb : Value} {bs : List UInt8} {m : List (List RowD)} (hb : InAt w w.heap.size vb bs) (h : getRes bs = (m, 0)) :
    Calls Tryz.prog 82 #[vb] w fun e w' => ∃ ao c l, e = .returned (.tuple #[.slice ao m.length c, .int .i64 0]) ∧ OwnRes w' w.heap.size (.slice ao m.length c) l ∧ l.map (·.2) = m ∧ Below w.heap.size w w' := by
  have k := GetResults_any w vb bs hb
  rw [h] at k
  refine k.mono ?_
  rintro e w' ⟨v, rfl, ⟨l, h1, hm⟩, h2⟩
  simp only at hm
  obtain ⟨ao, c, hv⟩ := own_len h1.own
  have hlen : l.length = m.length := by rw [← hm]; simp
  rw [hlen] at hv
  subst hv
  exact ⟨ao, c, l, rfl, h1, hm, h2⟩
theorem okFew (m : List (List RowD)) : m.all (fun l => resOk l && decide (l.length ≤ 256)) = (m.all resOk && m.all (fun r => decide (r.length ≤ 256))) := by
  induction m with
  | nil => rfl
  | cons x m ih => simp only [List.all_cons, ih]; cases resOk x <;> cases decide (x.length ≤ 256) <;> simp
theorem getRes_two (bs : List UInt8) : (∃ m, getRes bs = (m, 0) ∧ m.all resOk = true ∧ m.length ≤ 16 ∧ m.all (fun r => decide (r.length ≤ 256)) = true ∧ encList encRes m = bs) ∨ getRes bs = ([], 4) := by
  rcases whole_iff good_res (most := 16) (by omega) bs with ⟨m, h1, h2, h3, h4⟩ | h
  · rw [okFew, Bool.and_eq_true] at h2
    exact .inl ⟨m, h1, h2.1, h3, h2.2, h4⟩
  · exact .inr h.1
theorem getRes_put {m : List (List RowD)} (h : m.all resOk = true) (hn : m.length ≤ 16) (hf : m.all (fun r => decide (r.length ≤ 256)) = true) : getRes (encList encRes m) = (m, 0) :=
  whole_put good_res (by omega) m (by rw [okFew, h, hf]; rfl) hn
end Go.Proofs.YtcgecdiaddcfkaaGreatDoor
/- The walks of the document's own Count, Number and text: a count, a number, a text as bytes. -/
set_option linter.unusedSimpArgs false
set_option linter.unusedVariables false
namespace Go.Proofs.YtcgecdiaddcfkaaGreatDoor
open Go.RowKit

theorem bs_lit (w : World) (bs : List UInt8) (vs : List Value) (h : vs = bcells bs) (n : Nat) (hn : bs.length = n) (hm : n ≤ maxLen) : BsAt (w.alloc (.cells vs.toArray 5)) w.heap.size (.slice (some ⟨w.heap.size, 0, none⟩) n n) bs := by
  subst h hn
  unfold BsAt
  have := World.ownsRow_lit (base := w.heap.size) (e := 5) (size := 1) w (bcells bs).toArray bs.length (Nat.le_refl _) hm (by simp [bcells_len])
  simpa using this

set_option maxHeartbeats 2000000 in
set_option maxRecDepth 1000000 in
theorem refCount_any (w : World) (n : Nat) (hn : n < 65536) :
    Calls Tryz.prog 106 #[.int .i64 (n : Int)] w fun e w' => ∃ v, e = .returned v ∧ BsAt w' w.heap.size v (be2 n) ∧ Below w.heap.size w w' := by
  have h := bs_lit w (be2 n) [Value.int .u8 ((n : Int) / 256), Value.int .u8 ((n : Int) % 256)] (be2_cells hn) 2 rfl (by decide)
  have b := below_one w (.cells #[Value.int .u8 ((n : Int) / 256), Value.int .u8 ((n : Int) % 256)] 5)
  go_enter Tryz.func106, Tryz.ntmps106
  go_wp2
  go_ret
  exact ⟨_, rfl, h, b⟩

set_option maxHeartbeats 2000000 in
set_option maxRecDepth 1000000 in
theorem refNumber_any (w : World) (x : UInt32) :
    Calls Tryz.prog 35 #[.int .u32 (x.toNat : Int)] w fun e w' => ∃ v, e = .returned v ∧ BsAt w' w.heap.size v (be4 x.toNat) ∧ Below w.heap.size w w' := by
  have hx := u32_lt x
  obtain ⟨n, hn⟩ : ∃ n, n = x.toNat := ⟨_, rfl⟩
  rw [← hn] at hx ⊢
  clear hn
  have h := bs_lit w (be4 n) [Value.int .u8 ((n : Int) / 16777216 % 256), Value.int .u8 ((n : Int) / 65536 % 256), Value.int .u8 ((n : Int) / 256 % 256), Value.int .u8 ((n : Int) % 256)] (be4_cells hx) 4 rfl (by decide)
  have b := below_one w (.cells #[Value.int .u8 ((n : Int) / 16777216 % 256), Value.int .u8 ((n : Int) / 65536 % 256), Value.int .u8 ((n : Int) / 256 % 256), Value.int .u8 ((n : Int) % 256)] 5)
  clear hx
  go_enter Tryz.func35, Tryz.ntmps35
  go_wp2
  go_ret
  exact ⟨_, rfl, h, b⟩

set_option maxHeartbeats 2000000 in
set_option maxRecDepth 1000000 in
theorem refText_any (w : World) (s : ByteArray) (hz : s.size < 256) :
    Calls Tryz.prog 107 #[.string s] w fun e w' => ∃ v, e = .returned v ∧ BsAt w' w.heap.size v (txt s) ∧ Below w.heap.size w w' := by
  obtain ⟨i0, hi, hz0, hz1, hz2⟩ := info_parts info_u8
  have h : BsAt (w.alloc (.cells #[.int .u8 (s.size : Int)] 5)) w.heap.size (.slice (some ⟨w.heap.size, 0, none⟩) 1 1) [UInt8.ofNat s.size] := bs_lit w [UInt8.ofNat s.size] [.int .u8 (s.size : Int)] (by simp [bcells, bv, u8_nat hz]) 1 rfl (by decide)
  have b := below_one w (.cells #[.int .u8 (s.size : Int)] 5)
  have hs : w.heap.size ≤ (w.alloc (.cells #[.int .u8 (s.size : Int)] 5)).heap.size := by simp
  have fin : ∀ v' w1, w1.ownsRow w.heap.size 5 1 v' (1 + s.size) (bcells [UInt8.ofNat s.size] ++ byteCells s) → (w.alloc (.cells #[.int .u8 (s.size : Int)] 5)).grownBy w1 (Value.ownBlock (.slice (some ⟨w.heap.size, 0, none⟩) 1 1)) → BsAt w1 w.heap.size v' (txt s) ∧ Below w.heap.size w w1 := by
    intro v' w1 ho hg
    refine ⟨?_, b.grown hg hs (fun k e => own_row_ge h k e)⟩
    unfold BsAt
    rw [txt_len]
    have e : bcells (txt s) = bcells [UInt8.ofNat s.size] ++ byteCells s := by rw [byteCells_eq, ← bcells_app]; rfl
    rw [e, Nat.add_comm]
    exact ho
  have HL : s.size ≤ 300 := by omega
  go_enter Tryz.func107, Tryz.ntmps107
  go_wp2_with (at_builtin; refine wpList_append_own_src _ rfl (.tmp 6) (.tmp 7) 30 9 rfl w.heap.size 5 i0 (.int .u8 0) 1 1 Tryz.underlying30 hi hz0 hz1 hz2 rfl (by decide) _ 1 _ rfl h (.string s) s.size (byteCells s) rfl (Src.ofString _ Tryz.underlying9 s) (by unfold maxLen; omega) (by omega) hs ?_; intro v' w1 hown1 hg _; have R := fin v' w1 hown1 hg)
  go_ret
  exact ⟨_, rfl, R⟩

/-- What is appended to bytes that are owned: other bytes that are owned. -/
theorem src_own {w : World} {base : Nat} {v : Value} {bs : List UInt8} (h : BsAt w base v bs) (hp : 0 < bs.length) : ∃ g cap, v = .slice (some ⟨g, 0, none⟩) bs.length cap ∧ Src Tryz.prog 1 30 (.slice (some ⟨g, 0, none⟩) bs.length cap) bs.length (bcells bs) w := by
  obtain ⟨g, cap, hv, _, _⟩ := h.form hp
  subst hv
  exact ⟨g, cap, rfl, Src.ofSlice _ Tryz.underlying30 ⟨g, 0, none⟩ bs.length cap (bcells bs) (by rw [bcells_len]; omega) (World.ownsRow.cells h rfl) (bcells_one _)⟩
theorem bs_next {w W w1 : World} {H : Nat} {v v' : Value} {bs news : List UInt8} (h : BsAt W H v bs) (hB : Below H w W) (hs : H ≤ W.heap.size) (ho : w1.ownsRow H 5 1 v' (bs.length + news.length) (bcells bs ++ bcells news)) (hg : W.grownBy w1 v.ownBlock) : BsAt w1 H v' (bs ++ news) ∧ Below H w w1 := by
  refine ⟨?_, hB.grown hg hs (fun k e => own_row_ge h k e)⟩
  unfold BsAt
  rw [List.length_append, bcells_app]; exact ho
end Go.Proofs.YtcgecdiaddcfkaaGreatDoor
