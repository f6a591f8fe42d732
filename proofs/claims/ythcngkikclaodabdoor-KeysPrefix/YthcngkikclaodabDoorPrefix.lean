/- The walk of KeysPrefix. -/
import Derived.Test.YthcngkikclaodabDoorAlive
import Derived.Test.YthcngkikclaodabDoorBeyond
import Derived.Deep.Cut
import Derived.RegionTactic
import Derived.OpenShut
set_option linter.unusedSimpArgs false
set_option linter.unusedVariables false
namespace Go.Proofs.YthcngkikclaodabDoor
open Go.RowKit

theorem ext_data (k : ByteArray) (a b : Nat) : (k.extract a b).data.toList = (k.data.toList.take b).drop a := by
  rw [ByteArray.data_extract, Array.toList_extract, List.extract_eq_take_drop, List.take_drop]
  by_cases h : a ≤ b
  · rw [Nat.add_sub_cancel' h]
  · rw [List.drop_eq_nil_of_le (by simp; omega), List.drop_eq_nil_of_le (by simp; omega)]
theorem mayB_no {c : Nat} (h : mayB c = false) : c < 48 ∨ (57 < c ∧ c < 95) ∨ c = 96 ∨ 122 < c := by
  rw [Bool.eq_false_iff, Ne, mayB_iff] at h; omega
/-- A text with another byte at a place. -/
def oddB (k : ByteArray) (p : Nat) (c : UInt8) : ByteArray := k.extract 0 p ++ ⟨#[c]⟩ ++ k.extract (p + 1) k.size
theorem odd_data (k : ByteArray) (p : Nat) (c : UInt8) : (oddB k p c).data.toList = k.data.toList.take p ++ [c] ++ k.data.toList.drop (p + 1) := by
  unfold oddB
  rw [ByteArray.data_append, ByteArray.data_append, Array.toList_append, Array.toList_append, ext_data, ext_data]
  have : k.data.toList.length ≤ k.size := by simp
  rw [List.take_of_length_le this]
  rfl
theorem head_data (k : ByteArray) (p : Nat) : (k.extract 0 (p + 1)).data.toList = k.data.toList.take (p + 1) := by
  rw [ext_data]; rfl
theorem size_data (k : ByteArray) : k.size = k.data.toList.length := by simp
theorem odd_size (k : ByteArray) (p : Nat) (c : UInt8) (h : p < k.size) : (oddB k p c).size = k.size := by
  rw [size_data, odd_data]
  have := size_data k
  simp; omega
theorem head_size (k : ByteArray) (p : Nat) (h : p < k.size) : (k.extract 0 (p + 1)).size = p + 1 := by
  rw [size_data, head_data]
  have := size_data k
  simp; omega
theorem chk_odd_no (k : ByteArray) (p : Nat) (c : UInt8) (hc : mayB c.toNat = false) : chk (oddB k p c) = false := by
  unfold chk
  rw [odd_data]
  simp [hc]
theorem chk_odd_yes (k : ByteArray) (p : Nat) (c : UInt8) (h : p < k.size) (hc : mayB c.toNat = true) (hk : chk k = true) : chk (oddB k p c) = true := by
  unfold chk at *
  rw [odd_size k p c h, odd_data]
  rw [Bool.and_eq_true] at hk
  rw [hk.1, Bool.true_and, List.all_append, List.all_append]
  have hall := List.all_eq_true.mp hk.2
  rw [Bool.and_eq_true, Bool.and_eq_true]
  exact ⟨⟨List.all_eq_true.mpr fun x hx => hall x (List.mem_of_mem_take hx), by simp [hc]⟩, List.all_eq_true.mpr fun x hx => hall x (List.mem_of_mem_drop hx)⟩
theorem chk_head (k : ByteArray) (p : Nat) (h : p < k.size) (hk : chk k = true) : chk (k.extract 0 (p + 1)) = true := by
  unfold chk at *
  rw [head_size k p h, head_data]
  rw [Bool.and_eq_true] at hk
  have hall := List.all_eq_true.mp hk.2
  have h1 := hk.1
  simp only [Bool.and_eq_true, decide_eq_true_eq] at h1
  rw [Bool.and_eq_true]
  exact ⟨by simp; omega, List.all_eq_true.mpr fun x hx => hall x (List.mem_of_mem_take hx)⟩
theorem le_of_take (l : List UInt8) (n : Nat) : l.take n ≤ l := by
  induction l generalizing n with
  | nil => simp
  | cons x l ih =>
    cases n with
    | zero => exact List.nil_le _
    | succ n => rw [List.take_succ_cons, List.cons_le_cons_iff]; exact Or.inr ⟨rfl, ih n⟩
theorem in_head (k : ByteArray) (p : Nat) : inB (k.extract 0 (p + 1)) ⟨#[]⟩ k = true := by
  rw [inB_iff, leB_iff, leB_iff]
  simp only [ByteArray.toList_eq, head_data]
  exact ⟨List.nil_le _, le_of_take _ _⟩
theorem rsv_head (k : ByteArray) (p : Nat) (h : p < k.size) (hk : chk k = true) : rsv (k.extract 0 (p + 1)) = rsv k := by
  have h0 : 0 < (k.extract 0 (p + 1)).size := by rw [head_size k p h]; omega
  have h1 : 0 < k.size := by omega
  rw [rsv_yes (chk_head k p h hk) h0, rsv_yes hk h1]
  have e1 : (k.extract 0 (p + 1))[0]'h0 = (k.extract 0 (p + 1)).data.toList[0]'(by rw [← size_data]; exact h0) := rfl
  have e2 : k[0]'h1 = k.data.toList[0]'(by rw [← size_data]; exact h1) := rfl
  rw [e1, e2]
  simp only [head_data, List.getElem_take]

theorem not_empty {k : ByteArray} (h : 0 < k.size) : k.toList.isEmpty = false := by
  rw [ByteArray.toList_eq, Bool.eq_false_iff, Ne, List.isEmpty_iff]
  intro e
  have e1 : k.data.toList.length = 0 := by rw [e]; rfl
  have e2 : k.data.toList.length = k.size := by simp
  omega
theorem byte_text (c : UInt8) (W : World) (b : Nat) (h : W.cell? ⟨b, 0, none⟩ = some (.int .u8 c.toNat)) : (convert 24 9 (.slice (some ⟨b, 0, none⟩) 1 1)).run Tryd.prog W = .ok (.string ⟨#[c]⟩) W :=
  run_convert_bytes_back (P := Tryd.prog) W 24 9 5 ⟨b, 0, none⟩ 1 [c] Tryd.underlying24 Tryd.underlying5 Tryd.underlying9 (fun j hj => by
    match j, hj with
    | 0, _ => rw [Lib.add_plain]; exact h)
theorem check_at {w0 W : World} (s : ByteArray) (b : Bool) (hs : s.size ≤ maxLen) (hb : chk s = b) (h : Below w0.heap.size w0 W) :
    Calls Tryd.prog 7 #[.string s] W fun e w' => e = .returned (.bool b) ∧ Below w0.heap.size w0 w' := by
  refine (check_any s W hs).mono ?_
  rintro e w' ⟨rfl, hb'⟩
  exact ⟨by rw [hb], h.trans (hb'.mono h.size)⟩
theorem reserved_at {w0 W : World} (s : ByteArray) (b : Bool) (hs : s.size ≤ maxLen) (hb : rsv s = b) (h : Below w0.heap.size w0 W) :
    Calls Tryd.prog 9 #[.string s] W fun e w' => e = .returned (.bool b) ∧ Below w0.heap.size w0 w' := by
  refine (reserved_any s W hs).mono ?_
  rintro e w' ⟨rfl, hb'⟩
  exact ⟨by rw [hb], h.trans (hb'.mono h.size)⟩

set_option maxHeartbeats 4000000 in
set_option maxRecDepth 1000000 in
theorem prefix_long (k : ByteArray) (n : Int) (c : UInt8) (w : World) (hk : k.size ≤ 140737488351232) (htab : Tab w) (hn : 1048576 < (k.size : Int)) :
    Calls Tryd.prog 3 #[.string k, .int .u8 n, .int .u8 c.toNat] w fun e w' => e = .returned (.bool true) ∧ Below w.heap.size w w' := by
  have ka := alive_any w htab
  have kb := fun w2 => beyond_yes (k.size : Int) w2 hn (by omega)
  go_enter Tryd.func3, Tryd.ntmps3
  go_wp2_with fail
  refine ka.mono ?_
  rintro e w2 ⟨rfl, B⟩
  go_wp2_with fail
  refine (kb w2).mono ?_
  rintro e w3 ⟨rfl, rfl⟩
  have B2 := B.alloc B.size (.cells #[.int .i64 (k.size : Int)] 3)
  go_wp2_with fail
  refine (alive_any _ (tab_below htab B2)).mono ?_
  rintro e w4 ⟨rfl, hb⟩
  go_wp2
  go_ret
  exact ⟨rfl, B2.trans (hb.mono B2.size)⟩

set_option maxHeartbeats 4000000 in
set_option maxRecDepth 1000000 in
theorem prefix_empty (k : ByteArray) (n : Int) (c : UInt8) (w : World) (htab : Tab w) (h0 : k.toList.isEmpty = true) (hn : ¬ 1048576 < (k.size : Int)) :
    Calls Tryd.prog 3 #[.string k, .int .u8 n, .int .u8 c.toNat] w fun e w' => e = .returned (.bool true) ∧ Below w.heap.size w w' := by
  have ka := alive_any w htab
  have kb := fun w2 => beyond_no (k.size : Int) w2 (by omega) hn
  go_enter Tryd.func3, Tryd.ntmps3
  go_wp2_with fail
  refine ka.mono ?_
  rintro e w2 ⟨rfl, B⟩
  go_wp2_with fail
  refine (kb w2).mono ?_
  rintro e w3 ⟨rfl, rfl⟩
  have B2 := B.alloc B.size (.cells #[.int .i64 (k.size : Int)] 3)
  go_wp2_with fail
  refine (alive_any _ (tab_below htab B2)).mono ?_
  rintro e w4 ⟨rfl, hb⟩
  go_wp2
  go_ret
  exact ⟨rfl, B2.trans (hb.mono B2.size)⟩

set_option maxHeartbeats 8000000 in
set_option maxRecDepth 1000000 in
theorem prefix_main (k : ByteArray) (n : Nat) (c : UInt8) (w : World) (hn8 : n < 256) (htab : Tab w) (h0 : 0 < k.size) (hn : ¬ 1048576 < (k.size : Int)) :
    Calls Tryd.prog 3 #[.string k, .int .u8 n, .int .u8 c.toNat] w fun e w' => e = .returned (.bool true) ∧ Below w.heap.size w w' := by
  have ka := alive_any w htab
  have kb := fun w2 => beyond_no (k.size : Int) w2 (by omega) hn
  obtain ⟨p, hp⟩ : ∃ p, p = n % k.size := ⟨_, rfl⟩
  have hps : p < k.size := by rw [hp]; exact Nat.mod_lt _ h0
  have hpi : (n : Int) % (k.size : Int) = (p : Int) := by rw [hp]; omega
  have hne := not_empty h0
  clear hp
  go_enter Tryd.func3, Tryd.ntmps3
  go_wp2_with fail
  refine ka.mono ?_
  rintro e w2 ⟨rfl, B⟩
  go_wp2_with fail
  refine (kb w2).mono ?_
  rintro e w3 ⟨rfl, rfl⟩
  have B2 := B.alloc B.size (.cells #[.int .i64 (k.size : Int)] 3)
  generalize (w2.alloc (.cells #[.int .i64 (k.size : Int)] 3)) = w3 at *
  clear kb ka htab B
  go_upto_region 5 with fail
  have hcv := byte_text c (w3.alloc (.cells #[.int .u8 c.toNat] 5)).drew w3.heap.size (by go_simp)
  have hcv2 := byte_text c (w3.drew.alloc (.cells #[.int .u8 c.toNat] 5)) w3.heap.size (by go_simp)
  have B3 := B2.alloc B2.size (.cells #[.int .u8 c.toNat] 5)
  have e1 : ((k.extract 0 p).size : Int) ≤ 1048576 := by rw [size_data, ext_data]; have := size_data k; simp; omega
  have e2 : ((k.extract (p + 1) k.size).size : Int) ≤ 1048576 := by rw [size_data, ext_data]; have := size_data k; simp; omega
  go_cut [9] from 11 (fun s9 wx => s9 = .string (oddB k p c) ∧ Below w.heap.size w wx)
  case first =>
    go_region
    all_goals
      go_wp2_with fail
      go_meet
      case rel => exact ⟨rfl, B3.drew⟩
  case rest =>
    obtain ⟨rfl, B4⟩ := hcut
    clear hcv hcv2 B3 B2 e1 e2 hpi
    have hos := odd_size k p c hps
    have hhs := head_size k p hps
    have kh1 := in_head k p
    have hodd := chk_odd_no k p c
    have hody := chk_odd_yes k p c hps
    have hch := chk_head k p hps
    have hrh := rsv_head k p hps
    have HOS : Hid _ := hos
    have HHS : Hid _ := hhs
    have HN : Hid _ := hodd
    have HY : Hid _ := hody
    have HCH : Hid _ := hch
    have HRH : Hid _ := hrh
    generalize oddB k p c = O at *
    clear hos hhs hodd hody hch hrh
    go_upto_region 6 with fail
    go_cut [10] from 11 (fun s10 wx => s10 = .bool (mayB c.toNat) ∧ wx = wc)
    case first =>
      cases hm : mayB c.toNat
      · have hcc := mayB_no hm
        have HM : Hid _ := hm
        clear hm
        rcases hcc with a | ⟨a, b⟩ | a | a
        all_goals
          have hne95 : ((c.toNat : Int) == 95) = false := by simp; omega
          go_wp2
          go_meet
          case rel =>
            refine ⟨?_, rfl⟩
            try rw [HM.out]
            first | done | rfl | (simp; done) | (simp; omega)
      · have hcc := (mayB_iff _).mp hm
        have HM : Hid _ := hm
        clear hm
        rcases hcc with ⟨a, b⟩ | ⟨a, b⟩ | a
        all_goals
          go_wp2
          go_meet
          case rel =>
            refine ⟨?_, rfl⟩
            try rw [HM.out]
            first | done | rfl | (simp; done) | (simp; omega)
    case rest =>
      obtain ⟨rfl, rfl⟩ := hcut
      have hsz : k.size ≤ maxLen ∧ O.size ≤ maxLen ∧ (k.extract 0 (p + 1)).size ≤ maxLen := by
        have a := HOS.out
        have b := HHS.out
        unfold maxLen; omega
      have kk := fun b hb W (h : Below w.heap.size w W) => check_at k b hsz.1 hb h
      have kO := fun b hb W (h : Below w.heap.size w W) => check_at O b hsz.2.1 hb h
      have kH := fun b hb W (h : Below w.heap.size w W) => check_at (k.extract 0 (p + 1)) b hsz.2.2 hb h
      have rH := fun b hb W (h : Below w.heap.size w W) => reserved_at (k.extract 0 (p + 1)) b hsz.2.2 hb h
      have rk := fun b hb W (h : Below w.heap.size w W) => reserved_at k b hsz.1 hb h
      generalize k.extract 0 (p + 1) = E at *
      clear HOS HHS hsz hne hn hps h0
      cases hm : mayB c.toNat
      · have cO := kO false (HN.out hm)
        clear HN HY kO hm
        cases hck : chk k
        · have ck := kk false hck
          clear HCH HRH kk kH rH rk hck
          go_wp2_with fail
          refine (cO _ B4).mono ?_
          rintro e w5 ⟨rfl, B5⟩
          go_wp2_with fail
          refine (ck _ B5).mono ?_
          rintro e w6 ⟨rfl, B6⟩
          go_wp2
          go_ret
          exact ⟨rfl, B6⟩
        · have ck := kk true hck
          have cH := kH true (HCH.out hck)
          have hr := HRH.out hck
          have r1 := rH _ hr
          have r2 := rk _ rfl
          clear HCH HRH kk kH rH rk hck hr
          generalize rsv k = R at *
          go_wp2_with fail
          refine (cO _ B4).mono ?_
          rintro e w5 ⟨rfl, B5⟩
          go_wp2_with fail
          refine (ck _ B5).mono ?_
          rintro e w6 ⟨rfl, B6⟩
          go_wp2_with fail
          refine (cH _ B6).mono ?_
          rintro e w7 ⟨rfl, B7⟩
          go_wp2_with fail
          refine (in_any _ _ _ _).mono ?_
          rintro e w8 ⟨rfl, rfl⟩
          go_wp2_with fail
          refine (r1 _ B7).mono ?_
          rintro e w9 ⟨rfl, B9⟩
          go_wp2_with fail
          refine (r2 _ B9).mono ?_
          rintro e w10 ⟨rfl, B10⟩
          cases R
          all_goals
            go_wp2
            go_ret
            exact ⟨rfl, B10⟩
      · cases hck : chk k
        · have ck := kk false hck
          clear HCH HRH kk kH rH rk hck HN HY kO hm
          go_wp2_with fail
          refine (ck _ B4).mono ?_
          rintro e w5 ⟨rfl, B5⟩
          go_wp2_with fail
          refine (ck _ B5).mono ?_
          rintro e w6 ⟨rfl, B6⟩
          go_wp2
          go_ret
          exact ⟨rfl, B6⟩
        · have ck := kk true hck
          have cO := kO true (HY.out hm hck)
          have cH := kH true (HCH.out hck)
          have hr := HRH.out hck
          have r1 := rH _ hr
          have r2 := rk _ rfl
          clear HCH HRH kk kH rH rk hck hr HN HY kO hm
          generalize rsv k = R at *
          go_wp2_with fail
          refine (ck _ B4).mono ?_
          rintro e w5 ⟨rfl, B5⟩
          go_wp2_with fail
          refine (cO _ B5).mono ?_
          rintro e w5b ⟨rfl, B5b⟩
          go_wp2_with fail
          refine (ck _ B5b).mono ?_
          rintro e w6 ⟨rfl, B6⟩
          go_wp2_with fail
          refine (cH _ B6).mono ?_
          rintro e w7 ⟨rfl, B7⟩
          go_wp2_with fail
          refine (in_any _ _ _ _).mono ?_
          rintro e w8 ⟨rfl, rfl⟩
          go_wp2_with fail
          refine (r1 _ B7).mono ?_
          rintro e w9 ⟨rfl, B9⟩
          go_wp2_with fail
          refine (r2 _ B9).mono ?_
          rintro e w10 ⟨rfl, B10⟩
          cases R
          all_goals
            go_wp2
            go_ret
            exact ⟨rfl, B10⟩

theorem u8_of {c : Int} (h : (Lit.int .u8 c).wf = true) : ∃ b : UInt8, c = (b.toNat : Int) := by
  have := bounds_u8 h
  refine ⟨UInt8.ofNat c.toNat, ?_⟩
  simp; omega
theorem prefix_walk (k : ByteArray) (n c : Int) (w : World) (hk : k.size ≤ 140737488351232) (wn : (Lit.int .u8 n).wf = true) (wc : (Lit.int .u8 c).wf = true) (htab : Tab w) :
    Calls Tryd.prog 3 #[.string k, .int .u8 n, .int .u8 c] w fun e w' => e = .returned (.bool true) ∧ Below w.heap.size w w' := by
  obtain ⟨b, rfl⟩ := u8_of wc
  have hn := bounds_u8 wn
  by_cases hl : 1048576 < (k.size : Int)
  · exact prefix_long k n b w hk htab hl
  · by_cases h0 : k.size = 0
    · refine prefix_empty k n b w htab ?_ hl
      rw [ByteArray.toList_eq, List.isEmpty_iff]
      apply List.eq_nil_of_length_eq_zero
      rw [← size_data]; exact h0
    · obtain ⟨m, rfl⟩ : ∃ m : Nat, n = m := ⟨n.toNat, by omega⟩
      exact prefix_main k m b w (by omega) htab (by omega) hl
end Go.Proofs.YthcngkikclaodabDoor
