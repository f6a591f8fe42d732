import Derived.Test.YtndjgilheleplaaGreatDoorRBkNilM
import Derived.Test.YtndjgilheleplaaGreatDoorRBkVM
import Derived.Test.YtndjgilheleplaaGreatDoorRBkRowLM
import Derived.Test.YtndjgilheleplaaGreatDoorRBkResLM
/- The walk of Apart, where a book holds lists of these kinds alone: Byte, Row, Result. -/
set_option linter.unusedSimpArgs false
set_option linter.unusedVariables false
namespace Go.Proofs.YtndjgilheleplaaGreatDoor
open Go.RowKit

set_option maxHeartbeats 4000000 in
set_option maxRecDepth 1000000 in
theorem apartRes_any (w : World) (bk n : Nat) (vByte vRow vResult : Value) (EByte ERow EResult : List Ent) (hB : w.heap[bk]? = some (.cells #[.int .i64 (n : Int), vByte, .slice none 0 0, .slice none 0 0, .slice none 0 0, vRow, .slice none 0 0, .slice none 0 0, .slice none 0 0, vResult, .slice none 0 0, .slice none 0 0, .slice none 0 0] 52 (0, 0)))
    (kByte : KAt w 140 5 1 vByte EByte) (bByte : ¬ DD vByte EByte bk) (kRow : KAt w 154 109 2 vRow ERow) (bRow : ¬ DD vRow ERow bk) (kResult : KAt w 167 106 1 vResult EResult) (bResult : ¬ DD vResult EResult bk)
    (dByteRow' : ∀ b, DD vByte EByte b → ¬ DD vRow ERow b) (dByteResult' : ∀ b, DD vByte EByte b → ¬ DD vResult EResult b) (dRowResult' : ∀ b, DD vRow ERow b → ¬ DD vResult EResult b) (hT' : ∀ W, Wrote (fun b => DD vByte EByte b ∨ DD vRow ERow b ∨ DD vResult EResult b) w W → Tab W) :
    Calls Tryz.prog 21 #[ptr bk] w fun e w' => e = .returned (.bool true) ∧ Wrote (fun b => DD vByte EByte b ∨ DD vRow ERow b ∨ DD vResult EResult b) w w' := by
  have hlt : bk < w.heap.size := by
    rcases Nat.lt_or_ge bk w.heap.size with h' | h'
    · exact h'
    · rw [Array.getElem?_eq_none h'] at hB; cases hB
  have hnD : ¬ (fun b => DD vByte EByte b ∨ DD vRow ERow b ∨ DD vResult EResult b) bk := by
    intro h
    rcases h with h | h | h
    · exact bByte h
    · exact bRow h
    · exact bResult h
  have cB : Hid (∀ W, Wrote (fun b => DD vByte EByte b ∨ DD vRow ERow b ∨ DD vResult EResult b) w W → ∀ F v, (#[.int .i64 (n : Int), vByte, .slice none 0 0, .slice none 0 0, .slice none 0 0, vRow, .slice none 0 0, .slice none 0 0, .slice none 0 0, vResult, .slice none 0 0, .slice none 0 0, .slice none 0 0] : Array Value)[F]? = some v → W.cell? ⟨bk, F, none⟩ = some v) := fun W h F v e => (h.cell (p := ⟨bk, F, none⟩) hlt hnD).trans (block_cell hB F v e)
  have hz : Hid (∀ W, Wrote (fun b => DD vByte EByte b ∨ DD vRow ERow b ∨ DD vResult EResult b) w W → bk < W.heap.size) := fun W h => Nat.lt_of_lt_of_le hlt h.size
  have lByte : Hid (∀ b, DD vByte EByte b → b < w.heap.size) := fun b hb => kByte.lt hb
  have nByte : Hid (¬ DD vByte EByte bk) := bByte
  have S0Byte : Hid (KAt w 140 5 1 vByte EByte) := kByte
  have lRow : Hid (∀ b, DD vRow ERow b → b < w.heap.size) := fun b hb => kRow.lt hb
  have nRow : Hid (¬ DD vRow ERow bk) := bRow
  have S0Row : Hid (KAt w 154 109 2 vRow ERow) := kRow
  have lResult : Hid (∀ b, DD vResult EResult b → b < w.heap.size) := fun b hb => kResult.lt hb
  have nResult : Hid (¬ DD vResult EResult bk) := bResult
  have S0Result : Hid (KAt w 167 106 1 vResult EResult) := kResult
  have dByteRow : Hid (∀ b, DD vByte EByte b → ¬ DD vRow ERow b) := dByteRow'
  have dByteResult : Hid (∀ b, DD vByte EByte b → ¬ DD vResult EResult b) := dByteResult'
  have dRowResult : Hid (∀ b, DD vRow ERow b → ¬ DD vResult EResult b) := dRowResult'
  have hT : Hid (∀ W, Wrote (fun b => DD vByte EByte b ∨ DD vRow ERow b ∨ DD vResult EResult b) w W → Tab W) := hT'
  have U0 : Hid (Wrote (fun b => DD vByte EByte b ∨ DD vRow ERow b ∨ DD vResult EResult b) w w) := Wrote.refl _ _
  clear hB hlt hnD kByte bByte kRow bRow kResult bResult dByteRow' dByteResult' dRowResult' hT'
  go_enter Tryz.func21, Tryz.ntmps21
  go_wp2_with fail
  refine (fillByte_any w bk vByte EByte (cB.out w U0.out 1 _ rfl) (hz.out w U0.out) (fun h => nByte.out (.inr h)) S0Byte.out).mono ?_
  rintro e W1 ⟨rfl, f, hw⟩
  have S1Byte : Hid (FAt W1 140 5 1 mkByte vByte EByte) := f
  have S1Row : Hid (KAt W1 154 109 2 vRow ERow) := S0Row.out.wrote hw (fun b hb hd => (fun b h1 h2 => dByteRow.out b h2 h1) b hb (.inr hd))
  have S1Result : Hid (KAt W1 167 106 1 vResult EResult) := S0Result.out.wrote hw (fun b hb hd => (fun b h1 h2 => dByteResult.out b h2 h1) b hb (.inr hd))
  have U1 : Hid (Wrote (fun b => DD vByte EByte b ∨ DD vRow ERow b ∨ DD vResult EResult b) w W1) := U0.out.trans (hw.weak (fun b _ hd => (.inl (.inr hd))))
  clear f hw U0 S0Byte S0Row S0Result
  go_wp2_with fail
  refine (fillId_nil W1 bk (cB.out W1 U1.out 2 _ rfl)).mono ?_
  rintro e W2 ⟨rfl, hw⟩
  cases hw
  go_wp2_with fail
  refine (fillInt_nil W1 bk (cB.out W1 U1.out 3 _ rfl)).mono ?_
  rintro e W2 ⟨rfl, hw⟩
  cases hw
  go_wp2_with fail
  refine (fillText_nil W1 bk (cB.out W1 U1.out 4 _ rfl)).mono ?_
  rintro e W2 ⟨rfl, hw⟩
  cases hw
  go_wp2_with fail
  refine (fillRow_any W1 bk vRow ERow (cB.out W1 U1.out 5 _ rfl) (hz.out W1 U1.out) (fun h => nRow.out (.inr h)) S1Row.out (fun V hV => hT.out V (U1.out.trans (hV.weak (fun b _ hb => (.inr (.inl (.inr hb)))))))).mono ?_
  rintro e W2 ⟨rfl, f, hw⟩
  have S2Row : Hid (FAt W2 154 109 2 mkRow vRow ERow) := f
  have S2Byte : Hid (FAt W2 140 5 1 mkByte vByte EByte) := S1Byte.out.wrote hw (fun b hb hd => (dByteRow.out) b hb (.inr hd))
  have S2Result : Hid (KAt W2 167 106 1 vResult EResult) := S1Result.out.wrote hw (fun b hb hd => (fun b h1 h2 => dRowResult.out b h2 h1) b hb (.inr hd))
  have U2 : Hid (Wrote (fun b => DD vByte EByte b ∨ DD vRow ERow b ∨ DD vResult EResult b) w W2) := U1.out.trans (hw.weak (fun b _ hd => (.inr (.inl (.inr hd)))))
  clear f hw U1 S1Byte S1Row S1Result
  go_wp2_with fail
  refine (fillOp_nil W2 bk (cB.out W2 U2.out 6 _ rfl)).mono ?_
  rintro e W3 ⟨rfl, hw⟩
  cases hw
  go_wp2_with fail
  refine (fillSpan_nil W2 bk (cB.out W2 U2.out 7 _ rfl)).mono ?_
  rintro e W3 ⟨rfl, hw⟩
  cases hw
  go_wp2_with fail
  refine (fillChange_nil W2 bk (cB.out W2 U2.out 8 _ rfl)).mono ?_
  rintro e W3 ⟨rfl, hw⟩
  cases hw
  go_wp2_with fail
  refine (fillResult_any W2 bk w.heap.size vResult EResult (cB.out W2 U2.out 9 _ rfl) (hz.out W2 U2.out) (fun h => nResult.out (.inr h)) S2Result.out U2.out.size lResult.out (fun V hV => hT.out V (U2.out.trans (hV.weak (fun b _ hb => (.inr (.inr (.inr hb)))))))).mono ?_
  rintro e W3 ⟨rfl, f, hw⟩
  have S3Result : Hid (FAtR w.heap.size W3 167 vResult EResult) := f
  have S3Byte : Hid (FAt W3 140 5 1 mkByte vByte EByte) := S2Byte.out.wrote hw (fun b hb hd => (dByteResult.out) b hb (.inr hd))
  have S3Row : Hid (FAt W3 154 109 2 mkRow vRow ERow) := S2Row.out.wrote hw (fun b hb hd => (dRowResult.out) b hb (.inr hd))
  have U3 : Hid (Wrote (fun b => DD vByte EByte b ∨ DD vRow ERow b ∨ DD vResult EResult b) w W3) := U2.out.trans (hw.weak (fun b _ hd => (.inr (.inr (.inr hd)))))
  clear f hw U2 S2Byte S2Row S2Result
  go_wp2_with fail
  refine (fillMsg_nil W3 bk (cB.out W3 U3.out 10 _ rfl)).mono ?_
  rintro e W4 ⟨rfl, hw⟩
  cases hw
  go_wp2_with fail
  refine (fillPart_nil W3 bk (cB.out W3 U3.out 11 _ rfl)).mono ?_
  rintro e W4 ⟨rfl, hw⟩
  cases hw
  go_wp2_with fail
  refine (fillDeed_nil W3 bk (cB.out W3 U3.out 12 _ rfl)).mono ?_
  rintro e W4 ⟨rfl, hw⟩
  cases hw
  go_wp2_with fail
  refine (growByte_any W3 bk vByte EByte (cB.out W3 U3.out 1 _ rfl) (hz.out W3 U3.out) nByte.out S3Byte.out).mono ?_
  rintro e W4 ⟨rfl, QByte, sameByte, f, hw⟩
  have S4Byte : Hid (GAt W3.heap.size W4 140 1 mkByte vByte QByte) := f
  have yByte : Hid (∀ b, DD vByte QByte b → DD vByte EByte b) := fun b hb => DD_same sameByte hb
  have tByte : Hid (w.heap.size ≤ W3.heap.size) := U3.out.size
  have topByte : ∃ t, t = W3.heap.size := ⟨_, rfl⟩
  obtain ⟨tBytev, etByte⟩ := topByte
  rw [← etByte] at S4Byte tByte
  have S4Row : Hid (FAt W4 154 109 2 mkRow vRow ERow) := S3Row.out.wrote hw (fun b hb hd => (fun b h1 h2 => dByteRow.out b h2 h1) b hb hd)
  have S4Result : Hid (FAtR w.heap.size W4 167 vResult EResult) := S3Result.out.wrote hw (fun b hb hd => (fun b h1 h2 => dByteResult.out b h2 h1) b hb hd) (fun b hb hd => absurd (lByte.out b hd) (Nat.not_lt.mpr hb))
  have U4 : Hid (Wrote (fun b => DD vByte EByte b ∨ DD vRow ERow b ∨ DD vResult EResult b) w W4) := U3.out.trans (hw.weak (fun b _ hd => (.inl hd)))
  clear f hw U3 sameByte etByte S3Byte S3Row S3Result
  go_wp2_with fail
  refine (growId_nil W4 bk (cB.out W4 U4.out 2 _ rfl)).mono ?_
  rintro e W5 ⟨rfl, hw⟩
  cases hw
  go_wp2_with fail
  refine (growInt_nil W4 bk (cB.out W4 U4.out 3 _ rfl)).mono ?_
  rintro e W5 ⟨rfl, hw⟩
  cases hw
  go_wp2_with fail
  refine (growText_nil W4 bk (cB.out W4 U4.out 4 _ rfl)).mono ?_
  rintro e W5 ⟨rfl, hw⟩
  cases hw
  go_wp2_with fail
  refine (growRow_any W4 bk vRow ERow (cB.out W4 U4.out 5 _ rfl) (hz.out W4 U4.out) nRow.out S4Row.out (fun V hV => hT.out V (U4.out.trans (hV.weak (fun b _ hb => (.inr (.inl hb))))))).mono ?_
  rintro e W5 ⟨rfl, QRow, sameRow, f, hw⟩
  have S5Row : Hid (GAt W4.heap.size W5 154 2 mkRow vRow QRow) := f
  have yRow : Hid (∀ b, DD vRow QRow b → DD vRow ERow b) := fun b hb => DD_same sameRow hb
  have tRow : Hid (w.heap.size ≤ W4.heap.size) := U4.out.size
  have topRow : ∃ t, t = W4.heap.size := ⟨_, rfl⟩
  obtain ⟨tRowv, etRow⟩ := topRow
  rw [← etRow] at S5Row tRow
  have S5Byte : Hid (GAt tBytev W5 140 1 mkByte vByte QByte) := S4Byte.out.wrote hw (fun b hb hd => (dByteRow.out) b (yByte.out b hb) hd) (fun b hb hd => absurd (lRow.out b hd) (Nat.not_lt.mpr (Nat.le_trans tByte.out hb)))
  have S5Result : Hid (FAtR w.heap.size W5 167 vResult EResult) := S4Result.out.wrote hw (fun b hb hd => (fun b h1 h2 => dRowResult.out b h2 h1) b hb hd) (fun b hb hd => absurd (lRow.out b hd) (Nat.not_lt.mpr hb))
  have U5 : Hid (Wrote (fun b => DD vByte EByte b ∨ DD vRow ERow b ∨ DD vResult EResult b) w W5) := U4.out.trans (hw.weak (fun b _ hd => (.inr (.inl hd))))
  clear f hw U4 sameRow etRow S4Byte S4Row S4Result
  go_wp2_with fail
  refine (growOp_nil W5 bk (cB.out W5 U5.out 6 _ rfl)).mono ?_
  rintro e W6 ⟨rfl, hw⟩
  cases hw
  go_wp2_with fail
  refine (growSpan_nil W5 bk (cB.out W5 U5.out 7 _ rfl)).mono ?_
  rintro e W6 ⟨rfl, hw⟩
  cases hw
  go_wp2_with fail
  refine (growChange_nil W5 bk (cB.out W5 U5.out 8 _ rfl)).mono ?_
  rintro e W6 ⟨rfl, hw⟩
  cases hw
  go_wp2_with fail
  refine (growResult_any W5 bk w.heap.size vResult EResult (cB.out W5 U5.out 9 _ rfl) (hz.out W5 U5.out) nResult.out S5Result.out U5.out.size (fun V hV => hT.out V (U5.out.trans (hV.weak (fun b _ hb => (.inr (.inr hb))))))).mono ?_
  rintro e W6 ⟨rfl, QResult, sameResult, f, hw⟩
  have S6Result : Hid (GAtR w.heap.size W6 167 vResult QResult) := f
  have yResult : Hid (∀ b, DD vResult QResult b → DD vResult EResult b) := fun b hb => DD_same sameResult hb
  have S6Byte : Hid (GAt tBytev W6 140 1 mkByte vByte QByte) := S5Byte.out.wrote hw (fun b hb hd => (dByteResult.out) b (yByte.out b hb) hd) (fun b hb hd => absurd (lResult.out b hd) (Nat.not_lt.mpr (Nat.le_trans tByte.out hb)))
  have S6Row : Hid (GAt tRowv W6 154 2 mkRow vRow QRow) := S5Row.out.wrote hw (fun b hb hd => (dRowResult.out) b (yRow.out b hb) hd) (fun b hb hd => absurd (lResult.out b hd) (Nat.not_lt.mpr (Nat.le_trans tRow.out hb)))
  have U6 : Hid (Wrote (fun b => DD vByte EByte b ∨ DD vRow ERow b ∨ DD vResult EResult b) w W6) := U5.out.trans (hw.weak (fun b _ hd => (.inr (.inr hd))))
  clear f hw U5 sameResult S5Byte S5Row S5Result
  go_wp2_with fail
  refine (growMsg_nil W6 bk (cB.out W6 U6.out 10 _ rfl)).mono ?_
  rintro e W7 ⟨rfl, hw⟩
  cases hw
  go_wp2_with fail
  refine (growPart_nil W6 bk (cB.out W6 U6.out 11 _ rfl)).mono ?_
  rintro e W7 ⟨rfl, hw⟩
  cases hw
  go_wp2_with fail
  refine (growDeed_nil W6 bk (cB.out W6 U6.out 12 _ rfl)).mono ?_
  rintro e W7 ⟨rfl, hw⟩
  cases hw
  go_wp2_with fail
  refine (lookByte_any W6 bk tBytev vByte QByte (cB.out W6 U6.out 1 _ rfl) (hz.out W6 U6.out) S6Byte.out).mono ?_
  rintro e W7 ⟨rfl, hb⟩
  have S7Byte : Hid (GAt tBytev W7 140 1 mkByte vByte QByte) := S6Byte.out.wrote (d := fun _ => False) (.of_below hb) (fun _ _ h => h) (fun _ _ h => h)
  have S7Row : Hid (GAt tRowv W7 154 2 mkRow vRow QRow) := S6Row.out.wrote (d := fun _ => False) (.of_below hb) (fun _ _ h => h) (fun _ _ h => h)
  have S7Result : Hid (GAtR w.heap.size W7 167 vResult QResult) := S6Result.out.wrote (d := fun _ => False) (.of_below hb) (fun _ _ h => h) (fun _ _ h => h)
  have U7 : Hid (Wrote (fun b => DD vByte EByte b ∨ DD vRow ERow b ∨ DD vResult EResult b) w W7) := U6.out.trans (.of_below hb)
  clear hb U6 S6Byte S6Row S6Result
  go_wp2_with fail
  refine (lookId_nil W7 bk (cB.out W7 U7.out 2 _ rfl)).mono ?_
  rintro e W8 ⟨rfl, hw⟩
  cases hw
  go_wp2_with fail
  refine (lookInt_nil W7 bk (cB.out W7 U7.out 3 _ rfl)).mono ?_
  rintro e W8 ⟨rfl, hw⟩
  cases hw
  go_wp2_with fail
  refine (lookText_nil W7 bk (cB.out W7 U7.out 4 _ rfl)).mono ?_
  rintro e W8 ⟨rfl, hw⟩
  cases hw
  go_wp2_with fail
  refine (lookRow_any W7 bk tRowv vRow QRow (cB.out W7 U7.out 5 _ rfl) (hz.out W7 U7.out) S7Row.out (hT.out W7 U7.out)).mono ?_
  rintro e W8 ⟨rfl, hb⟩
  have S8Byte : Hid (GAt tBytev W8 140 1 mkByte vByte QByte) := S7Byte.out.wrote (d := fun _ => False) (.of_below hb) (fun _ _ h => h) (fun _ _ h => h)
  have S8Row : Hid (GAt tRowv W8 154 2 mkRow vRow QRow) := S7Row.out.wrote (d := fun _ => False) (.of_below hb) (fun _ _ h => h) (fun _ _ h => h)
  have S8Result : Hid (GAtR w.heap.size W8 167 vResult QResult) := S7Result.out.wrote (d := fun _ => False) (.of_below hb) (fun _ _ h => h) (fun _ _ h => h)
  have U8 : Hid (Wrote (fun b => DD vByte EByte b ∨ DD vRow ERow b ∨ DD vResult EResult b) w W8) := U7.out.trans (.of_below hb)
  clear hb U7 S7Byte S7Row S7Result
  go_wp2_with fail
  refine (lookOp_nil W8 bk (cB.out W8 U8.out 6 _ rfl)).mono ?_
  rintro e W9 ⟨rfl, hw⟩
  cases hw
  go_wp2_with fail
  refine (lookSpan_nil W8 bk (cB.out W8 U8.out 7 _ rfl)).mono ?_
  rintro e W9 ⟨rfl, hw⟩
  cases hw
  go_wp2_with fail
  refine (lookChange_nil W8 bk (cB.out W8 U8.out 8 _ rfl)).mono ?_
  rintro e W9 ⟨rfl, hw⟩
  cases hw
  go_wp2_with fail
  refine (lookResult_any W8 bk w.heap.size vResult QResult (cB.out W8 U8.out 9 _ rfl) (hz.out W8 U8.out) S8Result.out (hT.out W8 U8.out)).mono ?_
  rintro e W9 ⟨rfl, hb⟩
  have S9Byte : Hid (GAt tBytev W9 140 1 mkByte vByte QByte) := S8Byte.out.wrote (d := fun _ => False) (.of_below hb) (fun _ _ h => h) (fun _ _ h => h)
  have S9Row : Hid (GAt tRowv W9 154 2 mkRow vRow QRow) := S8Row.out.wrote (d := fun _ => False) (.of_below hb) (fun _ _ h => h) (fun _ _ h => h)
  have S9Result : Hid (GAtR w.heap.size W9 167 vResult QResult) := S8Result.out.wrote (d := fun _ => False) (.of_below hb) (fun _ _ h => h) (fun _ _ h => h)
  have U9 : Hid (Wrote (fun b => DD vByte EByte b ∨ DD vRow ERow b ∨ DD vResult EResult b) w W9) := U8.out.trans (.of_below hb)
  clear hb U8 S8Byte S8Row S8Result
  go_wp2_with fail
  refine (lookMsg_nil W9 bk (cB.out W9 U9.out 10 _ rfl)).mono ?_
  rintro e W10 ⟨rfl, hw⟩
  cases hw
  go_wp2_with fail
  refine (lookPart_nil W9 bk (cB.out W9 U9.out 11 _ rfl)).mono ?_
  rintro e W10 ⟨rfl, hw⟩
  cases hw
  go_wp2_with fail
  refine (lookDeed_nil W9 bk (cB.out W9 U9.out 12 _ rfl)).mono ?_
  rintro e W10 ⟨rfl, hw⟩
  cases hw
  go_wp2
  go_ret
  exact ⟨rfl, U9.out⟩
end Go.Proofs.YtndjgilheleplaaGreatDoor
