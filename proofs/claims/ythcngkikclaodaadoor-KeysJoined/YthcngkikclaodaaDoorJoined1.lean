/- One way through KeysJoined's last statement, by its guards. -/
import Derived.Test.YthcngkikclaodaaDoorJoinedBase
set_option linter.unusedSimpArgs false
set_option linter.unusedVariables false
namespace Go.Proofs.YthcngkikclaodaaDoor
open Go.RowKit

set_option maxHeartbeats 8000000 in
set_option maxRecDepth 1000000 in
theorem joined_p1 (k : ByteArray) (c : UInt8) (w : World) (hk : k.size ≤ 140737488351232) (htab : Tab w) (hn : ¬ 1048576 < (k.size : Int)) (hchk : chk k = true) (hm : mayB c.toNat = true) (h16 : k.size < 16) :
    Calls Tryd.prog 6 #[.string k, .int .u8 c.toNat] w fun e w' => e = .returned (.bool true) ∧ Below w.heap.size w w' := by
  have ka := alive_any w htab
  have kb := fun w2 => beyond_no (k.size : Int) w2 (by omega) hn
  have hadd : ∀ W : World, (Op.stringOp .add k ⟨#[255, 255]⟩).run Tryd.prog W = .ok (.string (k ++ ⟨#[255, 255]⟩)) W := fun W => run_string_add_sum W k ⟨#[255, 255]⟩ (by show k.size + 2 ≤ _; omega)
  have kin := fun W => in_at (more k c) k (k ++ ⟨#[255, 255]⟩) true (in_more k c) W
  generalize k ++ ⟨#[255, 255]⟩ = KK at hadd kin
  have kout := fun W => in_at k (more k c) (more k c) false (not_in_more k c) W
  have h0 : 0 < k.size := by have := ((chk_iff k).mp hchk).1; omega
  have hrsv := rsv_yes hchk h0
  have kr := fun W (h : Below w.heap.size w W) => reserved_at k _ (by unfold maxLen; omega) hrsv h
  have hne := not_empty h0
  have hmm : chk (more k c) = true := by rw [chk_more, hchk, hm]; simp [h16]
  have kc1 := fun W (h : Below w.heap.size w W) => check_at (more k c) true (by rw [more_size]; unfold maxLen; omega) hmm h
  have kc2 := fun W (h : Below w.heap.size w W) => check_at k true (by unfold maxLen; omega) hchk h
  have hms := more_size k c
  have hfold : k ++ ⟨#[c]⟩ = more k c := rfl
  have hlt : ((k.size : Int) < 16) := by omega
  have hd : decide ((k.size : Int) < 16) = true := by simpa using hlt
  go_enter Tryd.func6, Tryd.ntmps6
  go_wp2_with fail
  refine ka.mono ?_
  rintro e w2 ⟨rfl, B⟩
  go_wp2_with fail
  refine (kb w2).mono ?_
  rintro e w3 ⟨rfl, rfl⟩
  have B2 := B.alloc B.size (.cells #[.int .i64 (k.size : Int)] 3)
  generalize (w2.alloc (.cells #[.int .i64 (k.size : Int)] 3)) = w3 at *
  clear kb ka htab B
  have hcv : (convert 32 9 (.slice (some ⟨w3.heap.size, 0, none⟩) 1 1)).run Tryd.prog (w3.alloc (.cells #[.int .u8 c.toNat] 5)) = .ok (.string ⟨#[c]⟩) (w3.alloc (.cells #[.int .u8 c.toNat] 5)) := byte_text c w3
  have B3 := B2.alloc B2.size (.cells #[.int .u8 c.toNat] 5)
  go_upto_region 4 with fail
  clear hcv
  generalize (w3.alloc (.cells #[.int .u8 c.toNat] 5)) = w4 at *
  clear B2 hfold hms
  go_cut [6] from 7 (fun s6 wx => s6 = .bool true ∧ wx = w4)
  case first =>
    have hcc := (mayB_iff _).mp hm
    clear hadd kin kout kr hrsv hne kc1 kc2 hmm hlt hd h16 hk hn B3
    clear hm
    rcases hcc with ⟨a, b⟩ | ⟨a, b⟩ | a
    all_goals
      go_wp2
      go_meet
      case rel =>
        refine ⟨?_, rfl⟩
        first | done | rfl | (simp; done) | (simp; omega)
  case rest =>
    obtain ⟨rfl, rfl⟩ := hcut
    clear hm hmm hk hn
    clear hchk
    go_wp2_with fail
    go_region_held3 (fun w' => Below w.heap.size w w') (first | assumption | exact Below.drew (by assumption))
      (first
      | (go_at_call_of 14 (Value.string (more k c)); refine (kc1 _ (by assumption)).mono ?_; rintro e w' ⟨rfl, hb⟩)
      | (go_at_call_of 14 (Value.string k); refine (kc2 _ (by assumption)).mono ?_; rintro e w' ⟨rfl, hb⟩)
      | (go_at_call_of 9 (Value.string KK); refine (kin _).mono ?_; rintro e w' ⟨rfl, rfl⟩)
      | (go_at_call 9; refine (kout _).mono ?_; rintro e w' ⟨rfl, rfl⟩)
      | (go_at_call 15; refine (kr _ (by assumption)).mono ?_; rintro e w' ⟨rfl, hb⟩))
    all_goals
      go_wp2
      go_ret
      exact ⟨rfl, by assumption⟩
end Go.Proofs.YthcngkikclaodaaDoor
