/- The walk of Apart, where a book holds lists of these kinds alone: Byte. -/
import Derived.Test.YthnkakjelhnjdaaGreatDoorBBkNil
import Derived.Test.YthnkakjelhnjdaaGreatDoorBBkV
set_option linter.unusedSimpArgs false
set_option linter.unusedVariables false
namespace Go.Proofs.YthnkakjelhnjdaaGreatDoor
open Go.RowKit

set_option maxHeartbeats 4000000 in
set_option maxRecDepth 1000000 in
theorem apartBs_any (w : World) (bk n : Nat) (vByte : Value) (EByte : List Ent) (hB : w.heap[bk]? = some (.cells #[.int .i64 (n : Int), vByte, .slice none 0 0, .slice none 0 0, .slice none 0 0, .slice none 0 0, .slice none 0 0, .slice none 0 0, .slice none 0 0, .slice none 0 0, .slice none 0 0, .slice none 0 0, .slice none 0 0] 44 (0, 0)))
    (kByte : KAt w 83 5 1 vByte EByte) (bByte : ¬ DD vByte EByte bk)
     :
    Calls Tryz.prog 22 #[ptr bk] w fun e w' => e = .returned (.bool true) ∧ Wrote (fun b => DD vByte EByte b) w w' := by
  have hlt : bk < w.heap.size := by
    rcases Nat.lt_or_ge bk w.heap.size with h' | h'
    · exact h'
    · rw [Array.getElem?_eq_none h'] at hB; cases hB
  have hnD : ¬ (fun b => DD vByte EByte b) bk := by
    intro h
    exact bByte h
  have cB : Hid (∀ W, Wrote (fun b => DD vByte EByte b) w W → ∀ F v, (#[.int .i64 (n : Int), vByte, .slice none 0 0, .slice none 0 0, .slice none 0 0, .slice none 0 0, .slice none 0 0, .slice none 0 0, .slice none 0 0, .slice none 0 0, .slice none 0 0, .slice none 0 0, .slice none 0 0] : Array Value)[F]? = some v → W.cell? ⟨bk, F, none⟩ = some v) := fun W h F v e => (h.cell (p := ⟨bk, F, none⟩) hlt hnD).trans (block_cell hB F v e)
  have hz : Hid (∀ W, Wrote (fun b => DD vByte EByte b) w W → bk < W.heap.size) := fun W h => Nat.lt_of_lt_of_le hlt h.size
  have lByte : Hid (∀ b, DD vByte EByte b → b < w.heap.size) := fun b hb => kByte.lt hb
  have nByte : Hid (¬ DD vByte EByte bk) := bByte
  have S0Byte : Hid (KAt w 83 5 1 vByte EByte) := kByte
  have U0 : Hid (Wrote (fun b => DD vByte EByte b) w w) := Wrote.refl _ _
  clear hB hlt hnD kByte bByte
  go_enter Tryz.func22, Tryz.ntmps22
  go_wp2_with fail
  refine (fillByte_any w bk vByte EByte (cB.out w U0.out 1 _ rfl) (hz.out w U0.out) (fun h => nByte.out (.inr h)) S0Byte.out).mono ?_
  rintro e W1 ⟨rfl, f, hw⟩
  have S1Byte : Hid (FAt W1 83 5 1 mkByte vByte EByte) := f
  have U1 : Hid (Wrote (fun b => DD vByte EByte b) w W1) := U0.out.trans (hw.weak (fun b _ hd => (.inr hd)))
  clear f hw U0 S0Byte
  go_wp2_with fail
  refine (fillId_nil W1 bk (cB.out W1 U1.out 2 _ rfl)).mono ?_
  rintro e W2 ⟨rfl, hw⟩
  cases hw
  go_wp2_with fail
  refine (fillInt_nil W1 bk (cB.out W1 U1.out 3 _ rfl)).mono ?_
  rintro e W2 ⟨rfl, hw⟩
  cases hw
  go_wp2_with fail
  refine (fillText_nil W1 bk (cB.out W1 U1.out 4 _ rfl)).mono ?_
  rintro e W2 ⟨rfl, hw⟩
  cases hw
  go_wp2_with fail
  refine (fillRow_nil W1 bk (cB.out W1 U1.out 5 _ rfl)).mono ?_
  rintro e W2 ⟨rfl, hw⟩
  cases hw
  go_wp2_with fail
  refine (fillOp_nil W1 bk (cB.out W1 U1.out 6 _ rfl)).mono ?_
  rintro e W2 ⟨rfl, hw⟩
  cases hw
  go_wp2_with fail
  refine (fillSpan_nil W1 bk (cB.out W1 U1.out 7 _ rfl)).mono ?_
  rintro e W2 ⟨rfl, hw⟩
  cases hw
  go_wp2_with fail
  refine (fillChange_nil W1 bk (cB.out W1 U1.out 8 _ rfl)).mono ?_
  rintro e W2 ⟨rfl, hw⟩
  cases hw
  go_wp2_with fail
  refine (fillResult_nil W1 bk (cB.out W1 U1.out 9 _ rfl)).mono ?_
  rintro e W2 ⟨rfl, hw⟩
  cases hw
  go_wp2_with fail
  refine (fillMsg_nil W1 bk (cB.out W1 U1.out 10 _ rfl)).mono ?_
  rintro e W2 ⟨rfl, hw⟩
  cases hw
  go_wp2_with fail
  refine (fillPart_nil W1 bk (cB.out W1 U1.out 11 _ rfl)).mono ?_
  rintro e W2 ⟨rfl, hw⟩
  cases hw
  go_wp2_with fail
  refine (fillDeed_nil W1 bk (cB.out W1 U1.out 12 _ rfl)).mono ?_
  rintro e W2 ⟨rfl, hw⟩
  cases hw
  go_wp2_with fail
  refine (growByte_any W1 bk vByte EByte (cB.out W1 U1.out 1 _ rfl) (hz.out W1 U1.out) nByte.out S1Byte.out).mono ?_
  rintro e W2 ⟨rfl, QByte, sameByte, f, hw⟩
  have S2Byte : Hid (GAt W1.heap.size W2 83 1 mkByte vByte QByte) := f
  have yByte : Hid (∀ b, DD vByte QByte b → DD vByte EByte b) := fun b hb => DD_same sameByte hb
  have tByte : Hid (w.heap.size ≤ W1.heap.size) := U1.out.size
  have topByte : ∃ t, t = W1.heap.size := ⟨_, rfl⟩
  obtain ⟨tBytev, etByte⟩ := topByte
  rw [← etByte] at S2Byte tByte
  have U2 : Hid (Wrote (fun b => DD vByte EByte b) w W2) := U1.out.trans (hw.weak (fun b _ hd => hd))
  clear f hw U1 sameByte etByte S1Byte
  go_wp2_with fail
  refine (growId_nil W2 bk (cB.out W2 U2.out 2 _ rfl)).mono ?_
  rintro e W3 ⟨rfl, hw⟩
  cases hw
  go_wp2_with fail
  refine (growInt_nil W2 bk (cB.out W2 U2.out 3 _ rfl)).mono ?_
  rintro e W3 ⟨rfl, hw⟩
  cases hw
  go_wp2_with fail
  refine (growText_nil W2 bk (cB.out W2 U2.out 4 _ rfl)).mono ?_
  rintro e W3 ⟨rfl, hw⟩
  cases hw
  go_wp2_with fail
  refine (growRow_nil W2 bk (cB.out W2 U2.out 5 _ rfl)).mono ?_
  rintro e W3 ⟨rfl, hw⟩
  cases hw
  go_wp2_with fail
  refine (growOp_nil W2 bk (cB.out W2 U2.out 6 _ rfl)).mono ?_
  rintro e W3 ⟨rfl, hw⟩
  cases hw
  go_wp2_with fail
  refine (growSpan_nil W2 bk (cB.out W2 U2.out 7 _ rfl)).mono ?_
  rintro e W3 ⟨rfl, hw⟩
  cases hw
  go_wp2_with fail
  refine (growChange_nil W2 bk (cB.out W2 U2.out 8 _ rfl)).mono ?_
  rintro e W3 ⟨rfl, hw⟩
  cases hw
  go_wp2_with fail
  refine (growResult_nil W2 bk (cB.out W2 U2.out 9 _ rfl)).mono ?_
  rintro e W3 ⟨rfl, hw⟩
  cases hw
  go_wp2_with fail
  refine (growMsg_nil W2 bk (cB.out W2 U2.out 10 _ rfl)).mono ?_
  rintro e W3 ⟨rfl, hw⟩
  cases hw
  go_wp2_with fail
  refine (growPart_nil W2 bk (cB.out W2 U2.out 11 _ rfl)).mono ?_
  rintro e W3 ⟨rfl, hw⟩
  cases hw
  go_wp2_with fail
  refine (growDeed_nil W2 bk (cB.out W2 U2.out 12 _ rfl)).mono ?_
  rintro e W3 ⟨rfl, hw⟩
  cases hw
  go_wp2_with fail
  refine (lookByte_any W2 bk tBytev vByte QByte (cB.out W2 U2.out 1 _ rfl) (hz.out W2 U2.out) S2Byte.out).mono ?_
  rintro e W3 ⟨rfl, hb⟩
  have S3Byte : Hid (GAt tBytev W3 83 1 mkByte vByte QByte) := S2Byte.out.wrote (d := fun _ => False) (.of_below hb) (fun _ _ h => h) (fun _ _ h => h)
  have U3 : Hid (Wrote (fun b => DD vByte EByte b) w W3) := U2.out.trans (.of_below hb)
  clear hb U2 S2Byte
  go_wp2_with fail
  refine (lookId_nil W3 bk (cB.out W3 U3.out 2 _ rfl)).mono ?_
  rintro e W4 ⟨rfl, hw⟩
  cases hw
  go_wp2_with fail
  refine (lookInt_nil W3 bk (cB.out W3 U3.out 3 _ rfl)).mono ?_
  rintro e W4 ⟨rfl, hw⟩
  cases hw
  go_wp2_with fail
  refine (lookText_nil W3 bk (cB.out W3 U3.out 4 _ rfl)).mono ?_
  rintro e W4 ⟨rfl, hw⟩
  cases hw
  go_wp2_with fail
  refine (lookRow_nil W3 bk (cB.out W3 U3.out 5 _ rfl)).mono ?_
  rintro e W4 ⟨rfl, hw⟩
  cases hw
  go_wp2_with fail
  refine (lookOp_nil W3 bk (cB.out W3 U3.out 6 _ rfl)).mono ?_
  rintro e W4 ⟨rfl, hw⟩
  cases hw
  go_wp2_with fail
  refine (lookSpan_nil W3 bk (cB.out W3 U3.out 7 _ rfl)).mono ?_
  rintro e W4 ⟨rfl, hw⟩
  cases hw
  go_wp2_with fail
  refine (lookChange_nil W3 bk (cB.out W3 U3.out 8 _ rfl)).mono ?_
  rintro e W4 ⟨rfl, hw⟩
  cases hw
  go_wp2_with fail
  refine (lookResult_nil W3 bk (cB.out W3 U3.out 9 _ rfl)).mono ?_
  rintro e W4 ⟨rfl, hw⟩
  cases hw
  go_wp2_with fail
  refine (lookMsg_nil W3 bk (cB.out W3 U3.out 10 _ rfl)).mono ?_
  rintro e W4 ⟨rfl, hw⟩
  cases hw
  go_wp2_with fail
  refine (lookPart_nil W3 bk (cB.out W3 U3.out 11 _ rfl)).mono ?_
  rintro e W4 ⟨rfl, hw⟩
  cases hw
  go_wp2_with fail
  refine (lookDeed_nil W3 bk (cB.out W3 U3.out 12 _ rfl)).mono ?_
  rintro e W4 ⟨rfl, hw⟩
  cases hw
  go_wp2
  go_ret
  exact ⟨rfl, U3.out⟩
end Go.Proofs.YthnkakjelhnjdaaGreatDoor
