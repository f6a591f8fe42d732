/- The walk of KeysOrder. -/
import Derived.Test.YthcngkikclaodaaDoorAlive
import Derived.Test.YthcngkikclaodaaDoorBeyond
import Derived.OwnWalk
set_option linter.unusedSimpArgs false
set_option linter.unusedVariables false
namespace Go.Proofs.YthcngkikclaodaaDoor
open Go.RowKit

theorem le_top : ∀ (l : List UInt8) (n : Nat), l.length ≤ n → l ≤ List.replicate n 255
  | [], n, _ => List.nil_le _
  | x :: l, n + 1, h => by
    rw [List.replicate_succ, List.cons_le_cons_iff]
    have := le_top l n (by simpa using h)
    by_cases e : x = 255
    · exact Or.inr ⟨e, this⟩
    · left
      have h1 : x.toNat ≠ 255 := fun h2 => e (UInt8.toNat_inj.mp h2)
      have h2 := x.toNat_lt
      rw [UInt8.lt_iff_toNat_lt]
      show x.toNat < 255
      omega
/-- So many bytes 255. -/
def topB (n : Nat) : ByteArray := ⟨(List.replicate n 255).toArray⟩
theorem leB_top (s : ByteArray) (n : Nat) (h : s.size ≤ n) : leB s (topB n) = true := by
  rw [leB_iff, ByteArray.toList_eq]
  unfold topB
  rw [ByteArray.toList_mk]
  exact le_top _ _ (by simpa using h)
theorem inB_top (x y : ByteArray) (n : Nat) (h : x.size ≤ n) : inB x y (topB n) = leB y x := by
  unfold inB; rw [leB_top x n h, Bool.and_true]
theorem inB_from (x y : ByteArray) : inB x ⟨#[]⟩ y = leB x y := by
  have : leB ⟨#[]⟩ x = true := by rw [leB_iff, ByteArray.toList_eq]; exact List.nil_le _
  unfold inB; rw [this, Bool.true_and]
theorem leB_both (x y : ByteArray) (h : leB x y = true) (g : leB y x = true) : (x.toList == y.toList) = true := by
  rw [leB_antisymm h g]; simp
theorem leB_ne (x y : ByteArray) (h : leB x y = false) : (x.toList == y.toList) = false := by
  rw [Bool.eq_false_iff, Ne, beq_iff_eq]
  intro e
  rw [text_ext e, leB_refl] at h
  cases h
theorem leB_ne' (x y : ByteArray) (h : leB y x = false) : (x.toList == y.toList) = false := by
  rw [Bool.eq_false_iff, Ne, beq_iff_eq]
  intro e
  rw [text_ext e, leB_refl] at h
  cases h

theorem info8 : (Tryd.prog.info? 5).map (fun i => (i.zero, i.size, i.bytes)) = some (some (.int .u8 0), 1, 1) := by kernel_rfl

/-- A row of bytes of which the first k are 255. -/
def fillRow (n k : Nat) : List Value := List.replicate k (.int .u8 255) ++ List.replicate (n - k) (.int .u8 0)
theorem fillRow_0 (n : Nat) : fillRow n 0 = List.replicate n (.int .u8 0) := by simp [fillRow]
theorem fillRow_set (n k : Nat) (h : k < n) : (fillRow n k).set k (.int .u8 255) = fillRow n (k + 1) := by
  unfold fillRow
  obtain ⟨m, hm⟩ : ∃ m, n - k = m + 1 := ⟨n - k - 1, by omega⟩
  have e : n - (k + 1) = m := by omega
  rw [hm, e, List.replicate_succ (n := m), List.set_append_right _ _ (by simp)]
  simp [List.replicate_succ']
theorem fillRow_at (n k : Nat) (h : k < n) : (fillRow n k)[k]? = some (.int .u8 0) := by
  unfold fillRow
  rw [List.getElem?_append_right (by simp), List.length_replicate, Nat.sub_self, List.getElem?_replicate, if_pos (by omega)]
theorem fillRow_full (n j : Nat) (h : j < n) : (fillRow n n)[j]? = some (.int .u8 255) := by
  unfold fillRow
  simp [h]

/-- What the order asks: what In answers of two of three texts. -/
theorem order_facts (a b c : ByteArray) (n : Nat) (ha : a.size ≤ n) (hb : b.size ≤ n) (hc : c.size ≤ n) :
    ((inB b a (topB n) = true ∧ inB a b (topB n) = true ∧ (a.toList == b.toList) = true ∧ inB a ⟨#[]⟩ b = true) ∨
     (inB b a (topB n) = true ∧ inB a b (topB n) = false ∧ (a.toList == b.toList) = false ∧ inB a ⟨#[]⟩ b = true) ∨
     (inB b a (topB n) = false ∧ inB a b (topB n) = true ∧ (a.toList == b.toList) = false)) ∧
    inB a a a = true ∧ (inB b a (topB n) = true → inB c b (topB n) = true → inB c a (topB n) = true) := by
  rw [inB_top b a n hb, inB_top a b n ha, inB_top c b n hc, inB_top c a n hc, inB_from]
  refine ⟨?_, (inB_iff _ _ _).mpr ⟨leB_refl _, leB_refl _⟩, fun h g => leB_trans h g⟩
  cases h1 : leB a b <;> cases h2 : leB b a
  · have := leB_total a b; simp [h1, h2] at this
  · exact .inr (.inr ⟨rfl, rfl, leB_ne _ _ h1⟩)
  · exact .inr (.inl ⟨rfl, rfl, leB_ne' _ _ h2, rfl⟩)
  · exact .inl ⟨rfl, rfl, leB_both _ _ h1 h2, rfl⟩

set_option maxHeartbeats 4000000 in
set_option maxRecDepth 1000000 in
theorem order_walk (a b c : ByteArray) (w : World) (ha : a.size ≤ 140737488351232) (hb : b.size ≤ 140737488351232) (hc : c.size ≤ 140737488351232) (htab : Tab w) :
    Calls Tryd.prog 5 #[.string a, .string b, .string c] w fun e w' => e = .returned (.bool true) ∧ Below w.heap.size w w' := by
  have ka := alive_any w htab
  by_cases hn : 1048576 < (a.size : Int) + b.size + c.size
  · have kb := fun w2 => beyond_yes ((a.size : Int) + b.size + c.size) w2 hn (by omega)
    go_enter Tryd.func5, Tryd.ntmps5
    go_wp2_with fail
    refine ka.mono ?_
    rintro e w2 ⟨rfl, B⟩
    go_wp2_with fail
    refine (kb w2).mono ?_
    rintro e w3 ⟨rfl, rfl⟩
    have B2 := B.alloc B.size (.cells #[.int .i64 ((a.size : Int) + b.size + c.size)] 3)
    go_wp2_with fail
    refine (alive_any _ (tab_below htab B2)).mono ?_
    rintro e w4 ⟨rfl, hb⟩
    go_wp2
    go_ret
    exact ⟨rfl, B2.trans (hb.mono B2.size)⟩
  · have kb := fun w2 => beyond_no ((a.size : Int) + b.size + c.size) w2 (by omega) hn
    obtain ⟨n, hN⟩ : ∃ n : Nat, n = a.size + b.size + c.size + 1 := ⟨_, rfl⟩
    have hL : (a.size : Int) + b.size + c.size + 1 = (n : Int) := by omega
    have hn1 : n ≤ 1048577 := by omega
    obtain ⟨hcase, haa, hgo⟩ := order_facts a b c n (by omega) (by omega) (by omega)
    obtain ⟨i0, hi, hz0, hz1, hz2⟩ := info_parts info8
    obtain ⟨T, hTop⟩ : ∃ T, T = topB n := ⟨_, rfl⟩
    rw [← hTop] at hcase hgo
    have HTop : Hid (T = topB n) := hTop
    have HGo : Hid (inB b a T = true → inB c b T = true → inB c a T = true) := hgo
    have HCase : Hid _ := hcase
    clear hN hTop hgo hcase
    go_enter Tryd.func5, Tryd.ntmps5
    go_wp2_with fail
    refine ka.mono ?_
    rintro e w2 ⟨rfl, B⟩
    go_wp2_with fail
    refine (kb w2).mono ?_
    rintro e w3 ⟨rfl, rfl⟩
    have B2 := B.alloc B.size (.cells #[.int .i64 ((a.size : Int) + b.size + c.size)] 3)
    generalize (w2.alloc (.cells #[.int .i64 ((a.size : Int) + b.size + c.size)] 3)) = w3 at *
    clear kb ka htab B
    go_wp2_with (at_make; refine wpList_make_full _ rfl _ _ 32 rfl w.heap.size 5 i0 (.int .u8 0) 1 Tryd.underlying32 hi hz0 hz1 .i64 .i64 _ _ n rfl rfl rfl rfl (by rw [hz2]; omega) (by unfold maxLen; omega) B2.size ?_; intro w4 hown hgr)
    have B4 : Below w.heap.size w w4 := B2.grown hgr B2.size (fun k hk => by cases hk)
    rw [show (Value.int .u8 0).cells = #[.int .u8 0] from rfl, toList_madeCells_one, Nat.mul_one, ← fillRow_0] at hown
    obtain ⟨g, hg⟩ : ∃ g, g = w3.heap.size := ⟨_, rfl⟩
    rw [← hg] at hown
    rw [← hg]
    have hgB : w.heap.size ≤ g := by rw [hg]; exact B2.size
    clear hg hgr B2
    go_wp2
    go_loopw [8] (fun i wr => ∃ k : Nat, k ≤ n ∧ i = .int .i64 k ∧ wr.ownsRow w.heap.size 5 1 (.slice (some ⟨g, 0, none⟩) n n) n (fillRow n k) ∧ Below w.heap.size w wr) (fun i _ => n - (intOf i).toNat)
    case atStart => exact ⟨0, Nat.zero_le _, rfl, hown, B4⟩
    case round =>
      clear hown B4
      obtain ⟨k, hk, rfl, hown, B5⟩ := hrel
      by_cases hlt : k < n
      · have hcell := (hown.cellAt k (by omega)).trans (fillRow_at n k hlt)
        have hfz := hown.frozenAt k
        have hst := (hown.stored k (.int .u8 255)).1
        rw [fillRow_set n k hlt] at hst
        have B6 := B5.setCell (p := ⟨g, k, none⟩) hgB (.int .u8 255)
        clear hown B5
        go_wp2
        go_roundw
        case rel => exact ⟨k + 1, by omega, by go_num, hst, B6⟩
        case measure => simp [intOf]; omega
      · obtain rfl : k = n := by omega
        have hcv : (convert 32 9 (.slice (some ⟨g, 0, none⟩) k k)).run Tryd.prog wr = .ok (.string T) wr := by
          have h := run_convert_bytes_back (P := Tryd.prog) wr 32 9 5 ⟨g, 0, none⟩ k (List.replicate k 255) Tryd.underlying32 Tryd.underlying5 Tryd.underlying9 (fun j hj => by
            rw [List.length_replicate] at hj
            rw [Lib.add_plain, Nat.zero_add, hown.cellAt j (by omega), fillRow_full k j hj, List.getElem_replicate]
            rfl)
          rw [List.length_replicate] at h
          rw [HTop.out]
          exact h
        clear hown HTop
        have HZ : Hid ((inB c b T = false) ∨ (inB c b T = true ∧ (inB b a T = false ∨ inB c a T = true))) := by
          show _ ∨ _
          cases h : inB c b T
          · exact .inl rfl
          · cases h2 : inB b a T
            · exact .inr ⟨rfl, .inl rfl⟩
            · exact .inr ⟨rfl, .inr (HGo.out h2 h)⟩
        clear HGo hL hn hn1 hgB hk hlt
        rcases HCase.out with ⟨x1, x2, x3, x4⟩ | ⟨x1, x2, x3, x4⟩ | ⟨x1, x2, x3⟩
        · clear HCase
          rcases HZ.out with z | ⟨z, z2 | z2⟩
          · clear HZ
            go_wp2_with (go_at_call 9; refine (in_any _ _ _ _).mono ?_; rintro e w' ⟨rfl, rfl⟩)
            go_ret
            exact ⟨rfl, B5⟩
          · rw [x1] at z2; cases z2
          · clear HZ
            go_wp2_with (go_at_call 9; refine (in_any _ _ _ _).mono ?_; rintro e w' ⟨rfl, rfl⟩)
            go_ret
            exact ⟨rfl, B5⟩
        · clear HCase
          rcases HZ.out with z | ⟨z, z2 | z2⟩
          · clear HZ
            go_wp2_with (go_at_call 9; refine (in_any _ _ _ _).mono ?_; rintro e w' ⟨rfl, rfl⟩)
            go_ret
            exact ⟨rfl, B5⟩
          · rw [x1] at z2; cases z2
          · clear HZ
            go_wp2_with (go_at_call 9; refine (in_any _ _ _ _).mono ?_; rintro e w' ⟨rfl, rfl⟩)
            go_ret
            exact ⟨rfl, B5⟩
        · clear HCase HZ
          go_wp2_with (go_at_call 9; refine (in_any _ _ _ _).mono ?_; rintro e w' ⟨rfl, rfl⟩)
          go_ret
          exact ⟨rfl, B5⟩
end Go.Proofs.YthcngkikclaodaaDoor
