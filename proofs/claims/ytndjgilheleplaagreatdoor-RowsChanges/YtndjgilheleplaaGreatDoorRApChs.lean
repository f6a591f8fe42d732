/- The walk of Apart, where a book holds lists of these kinds alone: Byte, Change. -/
import Derived.Test.YtndjgilheleplaaGreatDoorRBkNil
import Derived.Test.YtndjgilheleplaaGreatDoorRBkV
import Derived.Test.YtndjgilheleplaaGreatDoorRBkChangeL
set_option linter.unusedSimpArgs false
set_option linter.unusedVariables false
namespace Go.Proofs.YtndjgilheleplaaGreatDoor
open Go.RowKit

set_option maxHeartbeats 4000000 in
set_option maxRecDepth 1000000 in
theorem apartChs_any (w : World) (bk n : Nat) (vByte vChange : Value) (EByte EChange : List Ent) (hB : w.heap[bk]? = some (.cells #[.int .i64 (n : Int), vByte, .slice none 0 0, .slice none 0 0, .slice none 0 0, .slice none 0 0, .slice none 0 0, .slice none 0 0, vChange, .slice none 0 0, .slice none 0 0, .slice none 0 0, .slice none 0 0] 52 (0, 0)))
    (kByte : KAt w 140 5 1 vByte EByte) (bByte : ¬ DD vByte EByte bk) (kChange : KAt w 164 124 3 vChange EChange) (bChange : ¬ DD vChange EChange bk)
    (dByteChange' : ∀ b, DD vByte EByte b → ¬ DD vChange EChange b) (hT' : ∀ W, Wrote (fun b => DD vByte EByte b ∨ DD vChange EChange b) w W → Tab W) :
    Calls Tryz.prog 21 #[ptr bk] w fun e w' => e = .returned (.bool true) ∧ Wrote (fun b => DD vByte EByte b ∨ DD vChange EChange b) w w' := by
  have hlt : bk < w.heap.size := by
    rcases Nat.lt_or_ge bk w.heap.size with h' | h'
    · exact h'
    · rw [Array.getElem?_eq_none h'] at hB; cases hB
  have hnD : ¬ (fun b => DD vByte EByte b ∨ DD vChange EChange b) bk := by
    intro h
    rcases h with h | h
    · exact bByte h
    · exact bChange h
  have cB : Hid (∀ W, Wrote (fun b => DD vByte EByte b ∨ DD vChange EChange b) w W → ∀ F v, (#[.int .i64 (n : Int), vByte, .slice none 0 0, .slice none 0 0, .slice none 0 0, .slice none 0 0, .slice none 0 0, .slice none 0 0, vChange, .slice none 0 0, .slice none 0 0, .slice none 0 0, .slice none 0 0] : Array Value)[F]? = some v → W.cell? ⟨bk, F, none⟩ = some v) := fun W h F v e => (h.cell (p := ⟨bk, F, none⟩) hlt hnD).trans (block_cell hB F v e)
  have hz : Hid (∀ W, Wrote (fun b => DD vByte EByte b ∨ DD vChange EChange b) w W → bk < W.heap.size) := fun W h => Nat.lt_of_lt_of_le hlt h.size
  have lByte : Hid (∀ b, DD vByte EByte b → b < w.heap.size) := fun b hb => kByte.lt hb
  have nByte : Hid (¬ DD vByte EByte bk) := bByte
  have S0Byte : Hid (KAt w 140 5 1 vByte EByte) := kByte
  have lChange : Hid (∀ b, DD vChange EChange b → b < w.heap.size) := fun b hb => kChange.lt hb
  have nChange : Hid (¬ DD vChange EChange bk) := bChange
  have S0Change : Hid (KAt w 164 124 3 vChange EChange) := kChange
  have dByteChange : Hid (∀ b, DD vByte EByte b → ¬ DD vChange EChange b) := dByteChange'
  have hT : Hid (∀ W, Wrote (fun b => DD vByte EByte b ∨ DD vChange EChange b) w W → Tab W) := hT'
  have U0 : Hid (Wrote (fun b => DD vByte EByte b ∨ DD vChange EChange b) w w) := Wrote.refl _ _
  clear hB hlt hnD kByte bByte kChange bChange dByteChange' hT'
  go_enter Tryz.func21, Tryz.ntmps21
  go_wp2_with fail
  refine (fillByte_any w bk vByte EByte (cB.out w U0.out 1 _ rfl) (hz.out w U0.out) (fun h => nByte.out (.inr h)) S0Byte.out).mono ?_
  rintro e W1 ⟨rfl, f, hw⟩
  have S1Byte : Hid (FAt W1 140 5 1 mkByte vByte EByte) := f
  have S1Change : Hid (KAt W1 164 124 3 vChange EChange) := S0Change.out.wrote hw (fun b hb hd => (fun b h1 h2 => dByteChange.out b h2 h1) b hb (.inr hd))
  have U1 : Hid (Wrote (fun b => DD vByte EByte b ∨ DD vChange EChange b) w W1) := U0.out.trans (hw.weak (fun b _ hd => (.inl (.inr hd))))
  clear f hw U0 S0Byte S0Change
  go_wp2_with fail
  refine (fillId_nil W1 bk (cB.out W1 U1.out 2 _ rfl)).mono ?_
  rintro e W2 ⟨rfl, hw⟩
  cases hw
  go_wp2_with fail
  refine (fillInt_nil W1 bk (cB.out W1 U1.out 3 _ rfl)).mono ?_
  rintro e W2 ⟨rfl, hw⟩
  cases hw
  go_wp2_with fail
  refine (fillText_nil W1 bk (cB.out W1 U1.out 4 _ rfl)).mono ?_
  rintro e W2 ⟨rfl, hw⟩
  cases hw
  go_wp2_with fail
  refine (fillRow_nil W1 bk (cB.out W1 U1.out 5 _ rfl)).mono ?_
  rintro e W2 ⟨rfl, hw⟩
  cases hw
  go_wp2_with fail
  refine (fillOp_nil W1 bk (cB.out W1 U1.out 6 _ rfl)).mono ?_
  rintro e W2 ⟨rfl, hw⟩
  cases hw
  go_wp2_with fail
  refine (fillSpan_nil W1 bk (cB.out W1 U1.out 7 _ rfl)).mono ?_
  rintro e W2 ⟨rfl, hw⟩
  cases hw
  go_wp2_with fail
  refine (fillChange_any W1 bk vChange EChange (cB.out W1 U1.out 8 _ rfl) (hz.out W1 U1.out) (fun h => nChange.out (.inr h)) S1Change.out (fun V hV => hT.out V (U1.out.trans (hV.weak (fun b _ hb => (.inr (.inr hb))))))).mono ?_
  rintro e W2 ⟨rfl, f, hw⟩
  have S2Change : Hid (FAt W2 164 124 3 mkChange vChange EChange) := f
  have S2Byte : Hid (FAt W2 140 5 1 mkByte vByte EByte) := S1Byte.out.wrote hw (fun b hb hd => (dByteChange.out) b hb (.inr hd))
  have U2 : Hid (Wrote (fun b => DD vByte EByte b ∨ DD vChange EChange b) w W2) := U1.out.trans (hw.weak (fun b _ hd => (.inr (.inr hd))))
  clear f hw U1 S1Byte S1Change
  go_wp2_with fail
  refine (fillResult_nil W2 bk (cB.out W2 U2.out 9 _ rfl)).mono ?_
  rintro e W3 ⟨rfl, hw⟩
  cases hw
  go_wp2_with fail
  refine (fillMsg_nil W2 bk (cB.out W2 U2.out 10 _ rfl)).mono ?_
  rintro e W3 ⟨rfl, hw⟩
  cases hw
  go_wp2_with fail
  refine (fillPart_nil W2 bk (cB.out W2 U2.out 11 _ rfl)).mono ?_
  rintro e W3 ⟨rfl, hw⟩
  cases hw
  go_wp2_with fail
  refine (fillDeed_nil W2 bk (cB.out W2 U2.out 12 _ rfl)).mono ?_
  rintro e W3 ⟨rfl, hw⟩
  cases hw
  go_wp2_with fail
  refine (growByte_any W2 bk vByte EByte (cB.out W2 U2.out 1 _ rfl) (hz.out W2 U2.out) nByte.out S2Byte.out).mono ?_
  rintro e W3 ⟨rfl, QByte, sameByte, f, hw⟩
  have S3Byte : Hid (GAt W2.heap.size W3 140 1 mkByte vByte QByte) := f
  have yByte : Hid (∀ b, DD vByte QByte b → DD vByte EByte b) := fun b hb => DD_same sameByte hb
  have tByte : Hid (w.heap.size ≤ W2.heap.size) := U2.out.size
  have topByte : ∃ t, t = W2.heap.size := ⟨_, rfl⟩
  obtain ⟨tBytev, etByte⟩ := topByte
  rw [← etByte] at S3Byte tByte
  have S3Change : Hid (FAt W3 164 124 3 mkChange vChange EChange) := S2Change.out.wrote hw (fun b hb hd => (fun b h1 h2 => dByteChange.out b h2 h1) b hb hd)
  have U3 : Hid (Wrote (fun b => DD vByte EByte b ∨ DD vChange EChange b) w W3) := U2.out.trans (hw.weak (fun b _ hd => (.inl hd)))
  clear f hw U2 sameByte etByte S2Byte S2Change
  go_wp2_with fail
  refine (growId_nil W3 bk (cB.out W3 U3.out 2 _ rfl)).mono ?_
  rintro e W4 ⟨rfl, hw⟩
  cases hw
  go_wp2_with fail
  refine (growInt_nil W3 bk (cB.out W3 U3.out 3 _ rfl)).mono ?_
  rintro e W4 ⟨rfl, hw⟩
  cases hw
  go_wp2_with fail
  refine (growText_nil W3 bk (cB.out W3 U3.out 4 _ rfl)).mono ?_
  rintro e W4 ⟨rfl, hw⟩
  cases hw
  go_wp2_with fail
  refine (growRow_nil W3 bk (cB.out W3 U3.out 5 _ rfl)).mono ?_
  rintro e W4 ⟨rfl, hw⟩
  cases hw
  go_wp2_with fail
  refine (growOp_nil W3 bk (cB.out W3 U3.out 6 _ rfl)).mono ?_
  rintro e W4 ⟨rfl, hw⟩
  cases hw
  go_wp2_with fail
  refine (growSpan_nil W3 bk (cB.out W3 U3.out 7 _ rfl)).mono ?_
  rintro e W4 ⟨rfl, hw⟩
  cases hw
  go_wp2_with fail
  refine (growChange_any W3 bk vChange EChange (cB.out W3 U3.out 8 _ rfl) (hz.out W3 U3.out) nChange.out S3Change.out (fun V hV => hT.out V (U3.out.trans (hV.weak (fun b _ hb => (.inr hb)))))).mono ?_
  rintro e W4 ⟨rfl, QChange, sameChange, f, hw⟩
  have S4Change : Hid (GAt W3.heap.size W4 164 3 mkChange vChange QChange) := f
  have yChange : Hid (∀ b, DD vChange QChange b → DD vChange EChange b) := fun b hb => DD_same sameChange hb
  have tChange : Hid (w.heap.size ≤ W3.heap.size) := U3.out.size
  have topChange : ∃ t, t = W3.heap.size := ⟨_, rfl⟩
  obtain ⟨tChangev, etChange⟩ := topChange
  rw [← etChange] at S4Change tChange
  have S4Byte : Hid (GAt tBytev W4 140 1 mkByte vByte QByte) := S3Byte.out.wrote hw (fun b hb hd => (dByteChange.out) b (yByte.out b hb) hd) (fun b hb hd => absurd (lChange.out b hd) (Nat.not_lt.mpr (Nat.le_trans tByte.out hb)))
  have U4 : Hid (Wrote (fun b => DD vByte EByte b ∨ DD vChange EChange b) w W4) := U3.out.trans (hw.weak (fun b _ hd => (.inr hd)))
  clear f hw U3 sameChange etChange S3Byte S3Change
  go_wp2_with fail
  refine (growResult_nil W4 bk (cB.out W4 U4.out 9 _ rfl)).mono ?_
  rintro e W5 ⟨rfl, hw⟩
  cases hw
  go_wp2_with fail
  refine (growMsg_nil W4 bk (cB.out W4 U4.out 10 _ rfl)).mono ?_
  rintro e W5 ⟨rfl, hw⟩
  cases hw
  go_wp2_with fail
  refine (growPart_nil W4 bk (cB.out W4 U4.out 11 _ rfl)).mono ?_
  rintro e W5 ⟨rfl, hw⟩
  cases hw
  go_wp2_with fail
  refine (growDeed_nil W4 bk (cB.out W4 U4.out 12 _ rfl)).mono ?_
  rintro e W5 ⟨rfl, hw⟩
  cases hw
  go_wp2_with fail
  refine (lookByte_any W4 bk tBytev vByte QByte (cB.out W4 U4.out 1 _ rfl) (hz.out W4 U4.out) S4Byte.out).mono ?_
  rintro e W5 ⟨rfl, hb⟩
  have S5Byte : Hid (GAt tBytev W5 140 1 mkByte vByte QByte) := S4Byte.out.wrote (d := fun _ => False) (.of_below hb) (fun _ _ h => h) (fun _ _ h => h)
  have S5Change : Hid (GAt tChangev W5 164 3 mkChange vChange QChange) := S4Change.out.wrote (d := fun _ => False) (.of_below hb) (fun _ _ h => h) (fun _ _ h => h)
  have U5 : Hid (Wrote (fun b => DD vByte EByte b ∨ DD vChange EChange b) w W5) := U4.out.trans (.of_below hb)
  clear hb U4 S4Byte S4Change
  go_wp2_with fail
  refine (lookId_nil W5 bk (cB.out W5 U5.out 2 _ rfl)).mono ?_
  rintro e W6 ⟨rfl, hw⟩
  cases hw
  go_wp2_with fail
  refine (lookInt_nil W5 bk (cB.out W5 U5.out 3 _ rfl)).mono ?_
  rintro e W6 ⟨rfl, hw⟩
  cases hw
  go_wp2_with fail
  refine (lookText_nil W5 bk (cB.out W5 U5.out 4 _ rfl)).mono ?_
  rintro e W6 ⟨rfl, hw⟩
  cases hw
  go_wp2_with fail
  refine (lookRow_nil W5 bk (cB.out W5 U5.out 5 _ rfl)).mono ?_
  rintro e W6 ⟨rfl, hw⟩
  cases hw
  go_wp2_with fail
  refine (lookOp_nil W5 bk (cB.out W5 U5.out 6 _ rfl)).mono ?_
  rintro e W6 ⟨rfl, hw⟩
  cases hw
  go_wp2_with fail
  refine (lookSpan_nil W5 bk (cB.out W5 U5.out 7 _ rfl)).mono ?_
  rintro e W6 ⟨rfl, hw⟩
  cases hw
  go_wp2_with fail
  refine (lookChange_any W5 bk tChangev vChange QChange (cB.out W5 U5.out 8 _ rfl) (hz.out W5 U5.out) S5Change.out (hT.out W5 U5.out)).mono ?_
  rintro e W6 ⟨rfl, hb⟩
  have S6Byte : Hid (GAt tBytev W6 140 1 mkByte vByte QByte) := S5Byte.out.wrote (d := fun _ => False) (.of_below hb) (fun _ _ h => h) (fun _ _ h => h)
  have S6Change : Hid (GAt tChangev W6 164 3 mkChange vChange QChange) := S5Change.out.wrote (d := fun _ => False) (.of_below hb) (fun _ _ h => h) (fun _ _ h => h)
  have U6 : Hid (Wrote (fun b => DD vByte EByte b ∨ DD vChange EChange b) w W6) := U5.out.trans (.of_below hb)
  clear hb U5 S5Byte S5Change
  go_wp2_with fail
  refine (lookResult_nil W6 bk (cB.out W6 U6.out 9 _ rfl)).mono ?_
  rintro e W7 ⟨rfl, hw⟩
  cases hw
  go_wp2_with fail
  refine (lookMsg_nil W6 bk (cB.out W6 U6.out 10 _ rfl)).mono ?_
  rintro e W7 ⟨rfl, hw⟩
  cases hw
  go_wp2_with fail
  refine (lookPart_nil W6 bk (cB.out W6 U6.out 11 _ rfl)).mono ?_
  rintro e W7 ⟨rfl, hw⟩
  cases hw
  go_wp2_with fail
  refine (lookDeed_nil W6 bk (cB.out W6 U6.out 12 _ rfl)).mono ?_
  rintro e W7 ⟨rfl, hw⟩
  cases hw
  go_wp2
  go_ret
  exact ⟨rfl, U6.out⟩
end Go.Proofs.YtndjgilheleplaaGreatDoor
