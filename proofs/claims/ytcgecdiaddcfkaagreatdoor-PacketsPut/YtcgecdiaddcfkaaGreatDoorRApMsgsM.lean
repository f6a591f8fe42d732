import Derived.Test.YtcgecdiaddcfkaaGreatDoorRBkNilM
import Derived.Test.YtcgecdiaddcfkaaGreatDoorM10
import Derived.Test.YtcgecdiaddcfkaaGreatDoorM12
import Derived.Test.YtcgecdiaddcfkaaGreatDoorM22
/- The walk of Apart, where a book holds lists of these kinds alone: Byte, Row, Op, Result. -/
set_option linter.unusedSimpArgs false
set_option linter.unusedVariables false
namespace Go.Proofs.YtcgecdiaddcfkaaGreatDoor
open Go.RowKit

set_option maxHeartbeats 4000000 in
set_option maxRecDepth 1000000 in
theorem apartMsgs_any (w : World) (bk n : Nat) (vByte vRow vOp vResult : Value) (EByte ERow EOp EResult : List Ent) (hB : w.heap[bk]? = some (.cells #[.int .i64 (n : Int), vByte, .slice none 0 0, .slice none 0 0, .slice none 0 0, vRow, vOp, .slice none 0 0, .slice none 0 0, vResult, .slice none 0 0, .slice none 0 0, .slice none 0 0] 50 (0, 0)))
    (kByte : KAt w 114 5 1 vByte EByte) (bByte : ¬ DD vByte EByte bk) (kRow : KAt w 129 92 2 vRow ERow) (bRow : ¬ DD vRow ERow bk) (kOp : KAt w 132 85 4 vOp EOp) (bOp : ¬ DD vOp EOp bk) (kResult : KAt w 147 89 1 vResult EResult) (bResult : ¬ DD vResult EResult bk)
    (dByteRow' : ∀ b, DD vByte EByte b → ¬ DD vRow ERow b) (dByteOp' : ∀ b, DD vByte EByte b → ¬ DD vOp EOp b) (dByteResult' : ∀ b, DD vByte EByte b → ¬ DD vResult EResult b) (dRowOp' : ∀ b, DD vRow ERow b → ¬ DD vOp EOp b) (dRowResult' : ∀ b, DD vRow ERow b → ¬ DD vResult EResult b) (dOpResult' : ∀ b, DD vOp EOp b → ¬ DD vResult EResult b) (hT' : ∀ W, Wrote (fun b => DD vByte EByte b ∨ DD vRow ERow b ∨ DD vOp EOp b ∨ DD vResult EResult b) w W → Tab W) :
    Calls Tryz.prog 15 #[ptr bk] w fun e w' => e = .returned (.bool true) ∧ Wrote (fun b => DD vByte EByte b ∨ DD vRow ERow b ∨ DD vOp EOp b ∨ DD vResult EResult b) w w' := by
  have hlt : bk < w.heap.size := by
    rcases Nat.lt_or_ge bk w.heap.size with h' | h'
    · exact h'
    · rw [Array.getElem?_eq_none h'] at hB; cases hB
  have hnD : ¬ (fun b => DD vByte EByte b ∨ DD vRow ERow b ∨ DD vOp EOp b ∨ DD vResult EResult b) bk := by
    intro h
    rcases h with h | h | h | h
    · exact bByte h
    · exact bRow h
    · exact bOp h
    · exact bResult h
  have cB : Hid (∀ W, Wrote (fun b => DD vByte EByte b ∨ DD vRow ERow b ∨ DD vOp EOp b ∨ DD vResult EResult b) w W → ∀ F v, (#[.int .i64 (n : Int), vByte, .slice none 0 0, .slice none 0 0, .slice none 0 0, vRow, vOp, .slice none 0 0, .slice none 0 0, vResult, .slice none 0 0, .slice none 0 0, .slice none 0 0] : Array Value)[F]? = some v → W.cell? ⟨bk, F, none⟩ = some v) := fun W h F v e => (h.cell (p := ⟨bk, F, none⟩) hlt hnD).trans (block_cell hB F v e)
  have hz : Hid (∀ W, Wrote (fun b => DD vByte EByte b ∨ DD vRow ERow b ∨ DD vOp EOp b ∨ DD vResult EResult b) w W → bk < W.heap.size) := fun W h => Nat.lt_of_lt_of_le hlt h.size
  have lByte : Hid (∀ b, DD vByte EByte b → b < w.heap.size) := fun b hb => kByte.lt hb
  have nByte : Hid (¬ DD vByte EByte bk) := bByte
  have S0Byte : Hid (KAt w 114 5 1 vByte EByte) := kByte
  have lRow : Hid (∀ b, DD vRow ERow b → b < w.heap.size) := fun b hb => kRow.lt hb
  have nRow : Hid (¬ DD vRow ERow bk) := bRow
  have S0Row : Hid (KAt w 129 92 2 vRow ERow) := kRow
  have lOp : Hid (∀ b, DD vOp EOp b → b < w.heap.size) := fun b hb => kOp.lt hb
  have nOp : Hid (¬ DD vOp EOp bk) := bOp
  have S0Op : Hid (KAt w 132 85 4 vOp EOp) := kOp
  have lResult : Hid (∀ b, DD vResult EResult b → b < w.heap.size) := fun b hb => kResult.lt hb
  have nResult : Hid (¬ DD vResult EResult bk) := bResult
  have S0Result : Hid (KAt w 147 89 1 vResult EResult) := kResult
  have dByteRow : Hid (∀ b, DD vByte EByte b → ¬ DD vRow ERow b) := dByteRow'
  have dByteOp : Hid (∀ b, DD vByte EByte b → ¬ DD vOp EOp b) := dByteOp'
  have dByteResult : Hid (∀ b, DD vByte EByte b → ¬ DD vResult EResult b) := dByteResult'
  have dRowOp : Hid (∀ b, DD vRow ERow b → ¬ DD vOp EOp b) := dRowOp'
  have dRowResult : Hid (∀ b, DD vRow ERow b → ¬ DD vResult EResult b) := dRowResult'
  have dOpResult : Hid (∀ b, DD vOp EOp b → ¬ DD vResult EResult b) := dOpResult'
  have hT : Hid (∀ W, Wrote (fun b => DD vByte EByte b ∨ DD vRow ERow b ∨ DD vOp EOp b ∨ DD vResult EResult b) w W → Tab W) := hT'
  have U0 : Hid (Wrote (fun b => DD vByte EByte b ∨ DD vRow ERow b ∨ DD vOp EOp b ∨ DD vResult EResult b) w w) := Wrote.refl _ _
  clear hB hlt hnD kByte bByte kRow bRow kOp bOp kResult bResult dByteRow' dByteOp' dByteResult' dRowOp' dRowResult' dOpResult' hT'
  go_enter Tryz.func15, Tryz.ntmps15
  go_wp2_with fail
  refine (fillByte_any w bk vByte EByte (cB.out w U0.out 1 _ rfl) (hz.out w U0.out) (fun h => nByte.out (.inr h)) S0Byte.out).mono ?_
  rintro e W1 ⟨rfl, f, hw⟩
  have S1Byte : Hid (FAt W1 114 5 1 mkByte vByte EByte) := f
  have S1Row : Hid (KAt W1 129 92 2 vRow ERow) := S0Row.out.wrote hw (fun b hb hd => (fun b h1 h2 => dByteRow.out b h2 h1) b hb (.inr hd))
  have S1Op : Hid (KAt W1 132 85 4 vOp EOp) := S0Op.out.wrote hw (fun b hb hd => (fun b h1 h2 => dByteOp.out b h2 h1) b hb (.inr hd))
  have S1Result : Hid (KAt W1 147 89 1 vResult EResult) := S0Result.out.wrote hw (fun b hb hd => (fun b h1 h2 => dByteResult.out b h2 h1) b hb (.inr hd))
  have U1 : Hid (Wrote (fun b => DD vByte EByte b ∨ DD vRow ERow b ∨ DD vOp EOp b ∨ DD vResult EResult b) w W1) := U0.out.trans (hw.weak (fun b _ hd => (.inl (.inr hd))))
  clear f hw U0 S0Byte S0Row S0Op S0Result
  go_wp2_with fail
  refine (fillId_nil W1 bk (cB.out W1 U1.out 2 _ rfl)).mono ?_
  rintro e W2 ⟨rfl, hw⟩
  cases hw
  go_wp2_with fail
  refine (fillInt_nil W1 bk (cB.out W1 U1.out 3 _ rfl)).mono ?_
  rintro e W2 ⟨rfl, hw⟩
  cases hw
  go_wp2_with fail
  refine (fillText_nil W1 bk (cB.out W1 U1.out 4 _ rfl)).mono ?_
  rintro e W2 ⟨rfl, hw⟩
  cases hw
  go_wp2_with fail
  refine (fillRow_any W1 bk vRow ERow (cB.out W1 U1.out 5 _ rfl) (hz.out W1 U1.out) (fun h => nRow.out (.inr h)) S1Row.out (fun V hV => hT.out V (U1.out.trans (hV.weak (fun b _ hb => (.inr (.inl (.inr hb)))))))).mono ?_
  rintro e W2 ⟨rfl, f, hw⟩
  have S2Row : Hid (FAt W2 129 92 2 mkRow vRow ERow) := f
  have S2Byte : Hid (FAt W2 114 5 1 mkByte vByte EByte) := S1Byte.out.wrote hw (fun b hb hd => (dByteRow.out) b hb (.inr hd))
  have S2Op : Hid (KAt W2 132 85 4 vOp EOp) := S1Op.out.wrote hw (fun b hb hd => (fun b h1 h2 => dRowOp.out b h2 h1) b hb (.inr hd))
  have S2Result : Hid (KAt W2 147 89 1 vResult EResult) := S1Result.out.wrote hw (fun b hb hd => (fun b h1 h2 => dRowResult.out b h2 h1) b hb (.inr hd))
  have U2 : Hid (Wrote (fun b => DD vByte EByte b ∨ DD vRow ERow b ∨ DD vOp EOp b ∨ DD vResult EResult b) w W2) := U1.out.trans (hw.weak (fun b _ hd => (.inr (.inl (.inr hd)))))
  clear f hw U1 S1Byte S1Row S1Op S1Result
  go_wp2_with fail
  refine (fillOp_any W2 bk vOp EOp (cB.out W2 U2.out 6 _ rfl) (hz.out W2 U2.out) (fun h => nOp.out (.inr h)) S2Op.out (fun V hV => hT.out V (U2.out.trans (hV.weak (fun b _ hb => (.inr (.inr (.inl (.inr hb))))))))).mono ?_
  rintro e W3 ⟨rfl, f, hw⟩
  have S3Op : Hid (FAt W3 132 85 4 mkOp vOp EOp) := f
  have S3Byte : Hid (FAt W3 114 5 1 mkByte vByte EByte) := S2Byte.out.wrote hw (fun b hb hd => (dByteOp.out) b hb (.inr hd))
  have S3Row : Hid (FAt W3 129 92 2 mkRow vRow ERow) := S2Row.out.wrote hw (fun b hb hd => (dRowOp.out) b hb (.inr hd))
  have S3Result : Hid (KAt W3 147 89 1 vResult EResult) := S2Result.out.wrote hw (fun b hb hd => (fun b h1 h2 => dOpResult.out b h2 h1) b hb (.inr hd))
  have U3 : Hid (Wrote (fun b => DD vByte EByte b ∨ DD vRow ERow b ∨ DD vOp EOp b ∨ DD vResult EResult b) w W3) := U2.out.trans (hw.weak (fun b _ hd => (.inr (.inr (.inl (.inr hd))))))
  clear f hw U2 S2Byte S2Row S2Op S2Result
  go_wp2_with fail
  refine (fillSpan_nil W3 bk (cB.out W3 U3.out 7 _ rfl)).mono ?_
  rintro e W4 ⟨rfl, hw⟩
  cases hw
  go_wp2_with fail
  refine (fillChange_nil W3 bk (cB.out W3 U3.out 8 _ rfl)).mono ?_
  rintro e W4 ⟨rfl, hw⟩
  cases hw
  go_wp2_with fail
  refine (fillResult_any W3 bk w.heap.size vResult EResult (cB.out W3 U3.out 9 _ rfl) (hz.out W3 U3.out) (fun h => nResult.out (.inr h)) S3Result.out U3.out.size lResult.out (fun V hV => hT.out V (U3.out.trans (hV.weak (fun b _ hb => (.inr (.inr (.inr (.inr hb))))))))).mono ?_
  rintro e W4 ⟨rfl, f, hw⟩
  have S4Result : Hid (FAtR w.heap.size W4 147 vResult EResult) := f
  have S4Byte : Hid (FAt W4 114 5 1 mkByte vByte EByte) := S3Byte.out.wrote hw (fun b hb hd => (dByteResult.out) b hb (.inr hd))
  have S4Row : Hid (FAt W4 129 92 2 mkRow vRow ERow) := S3Row.out.wrote hw (fun b hb hd => (dRowResult.out) b hb (.inr hd))
  have S4Op : Hid (FAt W4 132 85 4 mkOp vOp EOp) := S3Op.out.wrote hw (fun b hb hd => (dOpResult.out) b hb (.inr hd))
  have U4 : Hid (Wrote (fun b => DD vByte EByte b ∨ DD vRow ERow b ∨ DD vOp EOp b ∨ DD vResult EResult b) w W4) := U3.out.trans (hw.weak (fun b _ hd => (.inr (.inr (.inr (.inr hd))))))
  clear f hw U3 S3Byte S3Row S3Op S3Result
  go_wp2_with fail
  refine (fillMsg_nil W4 bk (cB.out W4 U4.out 10 _ rfl)).mono ?_
  rintro e W5 ⟨rfl, hw⟩
  cases hw
  go_wp2_with fail
  refine (fillPart_nil W4 bk (cB.out W4 U4.out 11 _ rfl)).mono ?_
  rintro e W5 ⟨rfl, hw⟩
  cases hw
  go_wp2_with fail
  refine (fillDeed_nil W4 bk (cB.out W4 U4.out 12 _ rfl)).mono ?_
  rintro e W5 ⟨rfl, hw⟩
  cases hw
  go_wp2_with fail
  refine (growByte_any W4 bk vByte EByte (cB.out W4 U4.out 1 _ rfl) (hz.out W4 U4.out) nByte.out S4Byte.out).mono ?_
  rintro e W5 ⟨rfl, QByte, sameByte, f, hw⟩
  have S5Byte : Hid (GAt W4.heap.size W5 114 1 mkByte vByte QByte) := f
  have yByte : Hid (∀ b, DD vByte QByte b → DD vByte EByte b) := fun b hb => DD_same sameByte hb
  have tByte : Hid (w.heap.size ≤ W4.heap.size) := U4.out.size
  have topByte : ∃ t, t = W4.heap.size := ⟨_, rfl⟩
  obtain ⟨tBytev, etByte⟩ := topByte
  rw [← etByte] at S5Byte tByte
  have S5Row : Hid (FAt W5 129 92 2 mkRow vRow ERow) := S4Row.out.wrote hw (fun b hb hd => (fun b h1 h2 => dByteRow.out b h2 h1) b hb hd)
  have S5Op : Hid (FAt W5 132 85 4 mkOp vOp EOp) := S4Op.out.wrote hw (fun b hb hd => (fun b h1 h2 => dByteOp.out b h2 h1) b hb hd)
  have S5Result : Hid (FAtR w.heap.size W5 147 vResult EResult) := S4Result.out.wrote hw (fun b hb hd => (fun b h1 h2 => dByteResult.out b h2 h1) b hb hd) (fun b hb hd => absurd (lByte.out b hd) (Nat.not_lt.mpr hb))
  have U5 : Hid (Wrote (fun b => DD vByte EByte b ∨ DD vRow ERow b ∨ DD vOp EOp b ∨ DD vResult EResult b) w W5) := U4.out.trans (hw.weak (fun b _ hd => (.inl hd)))
  clear f hw U4 sameByte etByte S4Byte S4Row S4Op S4Result
  go_wp2_with fail
  refine (growId_nil W5 bk (cB.out W5 U5.out 2 _ rfl)).mono ?_
  rintro e W6 ⟨rfl, hw⟩
  cases hw
  go_wp2_with fail
  refine (growInt_nil W5 bk (cB.out W5 U5.out 3 _ rfl)).mono ?_
  rintro e W6 ⟨rfl, hw⟩
  cases hw
  go_wp2_with fail
  refine (growText_nil W5 bk (cB.out W5 U5.out 4 _ rfl)).mono ?_
  rintro e W6 ⟨rfl, hw⟩
  cases hw
  go_wp2_with fail
  refine (growRow_any W5 bk vRow ERow (cB.out W5 U5.out 5 _ rfl) (hz.out W5 U5.out) nRow.out S5Row.out (fun V hV => hT.out V (U5.out.trans (hV.weak (fun b _ hb => (.inr (.inl hb))))))).mono ?_
  rintro e W6 ⟨rfl, QRow, sameRow, f, hw⟩
  have S6Row : Hid (GAt W5.heap.size W6 129 2 mkRow vRow QRow) := f
  have yRow : Hid (∀ b, DD vRow QRow b → DD vRow ERow b) := fun b hb => DD_same sameRow hb
  have tRow : Hid (w.heap.size ≤ W5.heap.size) := U5.out.size
  have topRow : ∃ t, t = W5.heap.size := ⟨_, rfl⟩
  obtain ⟨tRowv, etRow⟩ := topRow
  rw [← etRow] at S6Row tRow
  have S6Byte : Hid (GAt tBytev W6 114 1 mkByte vByte QByte) := S5Byte.out.wrote hw (fun b hb hd => (dByteRow.out) b (yByte.out b hb) hd) (fun b hb hd => absurd (lRow.out b hd) (Nat.not_lt.mpr (Nat.le_trans tByte.out hb)))
  have S6Op : Hid (FAt W6 132 85 4 mkOp vOp EOp) := S5Op.out.wrote hw (fun b hb hd => (fun b h1 h2 => dRowOp.out b h2 h1) b hb hd)
  have S6Result : Hid (FAtR w.heap.size W6 147 vResult EResult) := S5Result.out.wrote hw (fun b hb hd => (fun b h1 h2 => dRowResult.out b h2 h1) b hb hd) (fun b hb hd => absurd (lRow.out b hd) (Nat.not_lt.mpr hb))
  have U6 : Hid (Wrote (fun b => DD vByte EByte b ∨ DD vRow ERow b ∨ DD vOp EOp b ∨ DD vResult EResult b) w W6) := U5.out.trans (hw.weak (fun b _ hd => (.inr (.inl hd))))
  clear f hw U5 sameRow etRow S5Byte S5Row S5Op S5Result
  go_wp2_with fail
  refine (growOp_any W6 bk vOp EOp (cB.out W6 U6.out 6 _ rfl) (hz.out W6 U6.out) nOp.out S6Op.out (fun V hV => hT.out V (U6.out.trans (hV.weak (fun b _ hb => (.inr (.inr (.inl hb)))))))).mono ?_
  rintro e W7 ⟨rfl, QOp, sameOp, f, hw⟩
  have S7Op : Hid (GAt W6.heap.size W7 132 4 mkOp vOp QOp) := f
  have yOp : Hid (∀ b, DD vOp QOp b → DD vOp EOp b) := fun b hb => DD_same sameOp hb
  have tOp : Hid (w.heap.size ≤ W6.heap.size) := U6.out.size
  have topOp : ∃ t, t = W6.heap.size := ⟨_, rfl⟩
  obtain ⟨tOpv, etOp⟩ := topOp
  rw [← etOp] at S7Op tOp
  have S7Byte : Hid (GAt tBytev W7 114 1 mkByte vByte QByte) := S6Byte.out.wrote hw (fun b hb hd => (dByteOp.out) b (yByte.out b hb) hd) (fun b hb hd => absurd (lOp.out b hd) (Nat.not_lt.mpr (Nat.le_trans tByte.out hb)))
  have S7Row : Hid (GAt tRowv W7 129 2 mkRow vRow QRow) := S6Row.out.wrote hw (fun b hb hd => (dRowOp.out) b (yRow.out b hb) hd) (fun b hb hd => absurd (lOp.out b hd) (Nat.not_lt.mpr (Nat.le_trans tRow.out hb)))
  have S7Result : Hid (FAtR w.heap.size W7 147 vResult EResult) := S6Result.out.wrote hw (fun b hb hd => (fun b h1 h2 => dOpResult.out b h2 h1) b hb hd) (fun b hb hd => absurd (lOp.out b hd) (Nat.not_lt.mpr hb))
  have U7 : Hid (Wrote (fun b => DD vByte EByte b ∨ DD vRow ERow b ∨ DD vOp EOp b ∨ DD vResult EResult b) w W7) := U6.out.trans (hw.weak (fun b _ hd => (.inr (.inr (.inl hd)))))
  clear f hw U6 sameOp etOp S6Byte S6Row S6Op S6Result
  go_wp2_with fail
  refine (growSpan_nil W7 bk (cB.out W7 U7.out 7 _ rfl)).mono ?_
  rintro e W8 ⟨rfl, hw⟩
  cases hw
  go_wp2_with fail
  refine (growChange_nil W7 bk (cB.out W7 U7.out 8 _ rfl)).mono ?_
  rintro e W8 ⟨rfl, hw⟩
  cases hw
  go_wp2_with fail
  refine (growResult_any W7 bk w.heap.size vResult EResult (cB.out W7 U7.out 9 _ rfl) (hz.out W7 U7.out) nResult.out S7Result.out U7.out.size (fun V hV => hT.out V (U7.out.trans (hV.weak (fun b _ hb => (.inr (.inr (.inr hb)))))))).mono ?_
  rintro e W8 ⟨rfl, QResult, sameResult, f, hw⟩
  have S8Result : Hid (GAtR w.heap.size W8 147 vResult QResult) := f
  have yResult : Hid (∀ b, DD vResult QResult b → DD vResult EResult b) := fun b hb => DD_same sameResult hb
  have S8Byte : Hid (GAt tBytev W8 114 1 mkByte vByte QByte) := S7Byte.out.wrote hw (fun b hb hd => (dByteResult.out) b (yByte.out b hb) hd) (fun b hb hd => absurd (lResult.out b hd) (Nat.not_lt.mpr (Nat.le_trans tByte.out hb)))
  have S8Row : Hid (GAt tRowv W8 129 2 mkRow vRow QRow) := S7Row.out.wrote hw (fun b hb hd => (dRowResult.out) b (yRow.out b hb) hd) (fun b hb hd => absurd (lResult.out b hd) (Nat.not_lt.mpr (Nat.le_trans tRow.out hb)))
  have S8Op : Hid (GAt tOpv W8 132 4 mkOp vOp QOp) := S7Op.out.wrote hw (fun b hb hd => (dOpResult.out) b (yOp.out b hb) hd) (fun b hb hd => absurd (lResult.out b hd) (Nat.not_lt.mpr (Nat.le_trans tOp.out hb)))
  have U8 : Hid (Wrote (fun b => DD vByte EByte b ∨ DD vRow ERow b ∨ DD vOp EOp b ∨ DD vResult EResult b) w W8) := U7.out.trans (hw.weak (fun b _ hd => (.inr (.inr (.inr hd)))))
  clear f hw U7 sameResult S7Byte S7Row S7Op S7Result
  go_wp2_with fail
  refine (growMsg_nil W8 bk (cB.out W8 U8.out 10 _ rfl)).mono ?_
  rintro e W9 ⟨rfl, hw⟩
  cases hw
  go_wp2_with fail
  refine (growPart_nil W8 bk (cB.out W8 U8.out 11 _ rfl)).mono ?_
  rintro e W9 ⟨rfl, hw⟩
  cases hw
  go_wp2_with fail
  refine (growDeed_nil W8 bk (cB.out W8 U8.out 12 _ rfl)).mono ?_
  rintro e W9 ⟨rfl, hw⟩
  cases hw
  go_wp2_with fail
  refine (lookByte_any W8 bk tBytev vByte QByte (cB.out W8 U8.out 1 _ rfl) (hz.out W8 U8.out) S8Byte.out).mono ?_
  rintro e W9 ⟨rfl, hb⟩
  have S9Byte : Hid (GAt tBytev W9 114 1 mkByte vByte QByte) := S8Byte.out.wrote (d := fun _ => False) (.of_below hb) (fun _ _ h => h) (fun _ _ h => h)
  have S9Row : Hid (GAt tRowv W9 129 2 mkRow vRow QRow) := S8Row.out.wrote (d := fun _ => False) (.of_below hb) (fun _ _ h => h) (fun _ _ h => h)
  have S9Op : Hid (GAt tOpv W9 132 4 mkOp vOp QOp) := S8Op.out.wrote (d := fun _ => False) (.of_below hb) (fun _ _ h => h) (fun _ _ h => h)
  have S9Result : Hid (GAtR w.heap.size W9 147 vResult QResult) := S8Result.out.wrote (d := fun _ => False) (.of_below hb) (fun _ _ h => h) (fun _ _ h => h)
  have U9 : Hid (Wrote (fun b => DD vByte EByte b ∨ DD vRow ERow b ∨ DD vOp EOp b ∨ DD vResult EResult b) w W9) := U8.out.trans (.of_below hb)
  clear hb U8 S8Byte S8Row S8Op S8Result
  go_wp2_with fail
  refine (lookId_nil W9 bk (cB.out W9 U9.out 2 _ rfl)).mono ?_
  rintro e W10 ⟨rfl, hw⟩
  cases hw
  go_wp2_with fail
  refine (lookInt_nil W9 bk (cB.out W9 U9.out 3 _ rfl)).mono ?_
  rintro e W10 ⟨rfl, hw⟩
  cases hw
  go_wp2_with fail
  refine (lookText_nil W9 bk (cB.out W9 U9.out 4 _ rfl)).mono ?_
  rintro e W10 ⟨rfl, hw⟩
  cases hw
  go_wp2_with fail
  refine (lookRow_any W9 bk tRowv vRow QRow (cB.out W9 U9.out 5 _ rfl) (hz.out W9 U9.out) S9Row.out (hT.out W9 U9.out)).mono ?_
  rintro e W10 ⟨rfl, hb⟩
  have S10Byte : Hid (GAt tBytev W10 114 1 mkByte vByte QByte) := S9Byte.out.wrote (d := fun _ => False) (.of_below hb) (fun _ _ h => h) (fun _ _ h => h)
  have S10Row : Hid (GAt tRowv W10 129 2 mkRow vRow QRow) := S9Row.out.wrote (d := fun _ => False) (.of_below hb) (fun _ _ h => h) (fun _ _ h => h)
  have S10Op : Hid (GAt tOpv W10 132 4 mkOp vOp QOp) := S9Op.out.wrote (d := fun _ => False) (.of_below hb) (fun _ _ h => h) (fun _ _ h => h)
  have S10Result : Hid (GAtR w.heap.size W10 147 vResult QResult) := S9Result.out.wrote (d := fun _ => False) (.of_below hb) (fun _ _ h => h) (fun _ _ h => h)
  have U10 : Hid (Wrote (fun b => DD vByte EByte b ∨ DD vRow ERow b ∨ DD vOp EOp b ∨ DD vResult EResult b) w W10) := U9.out.trans (.of_below hb)
  clear hb U9 S9Byte S9Row S9Op S9Result
  go_wp2_with fail
  refine (lookOp_any W10 bk tOpv vOp QOp (cB.out W10 U10.out 6 _ rfl) (hz.out W10 U10.out) S10Op.out (hT.out W10 U10.out)).mono ?_
  rintro e W11 ⟨rfl, hb⟩
  have S11Byte : Hid (GAt tBytev W11 114 1 mkByte vByte QByte) := S10Byte.out.wrote (d := fun _ => False) (.of_below hb) (fun _ _ h => h) (fun _ _ h => h)
  have S11Row : Hid (GAt tRowv W11 129 2 mkRow vRow QRow) := S10Row.out.wrote (d := fun _ => False) (.of_below hb) (fun _ _ h => h) (fun _ _ h => h)
  have S11Op : Hid (GAt tOpv W11 132 4 mkOp vOp QOp) := S10Op.out.wrote (d := fun _ => False) (.of_below hb) (fun _ _ h => h) (fun _ _ h => h)
  have S11Result : Hid (GAtR w.heap.size W11 147 vResult QResult) := S10Result.out.wrote (d := fun _ => False) (.of_below hb) (fun _ _ h => h) (fun _ _ h => h)
  have U11 : Hid (Wrote (fun b => DD vByte EByte b ∨ DD vRow ERow b ∨ DD vOp EOp b ∨ DD vResult EResult b) w W11) := U10.out.trans (.of_below hb)
  clear hb U10 S10Byte S10Row S10Op S10Result
  go_wp2_with fail
  refine (lookSpan_nil W11 bk (cB.out W11 U11.out 7 _ rfl)).mono ?_
  rintro e W12 ⟨rfl, hw⟩
  cases hw
  go_wp2_with fail
  refine (lookChange_nil W11 bk (cB.out W11 U11.out 8 _ rfl)).mono ?_
  rintro e W12 ⟨rfl, hw⟩
  cases hw
  go_wp2_with fail
  refine (lookResult_any W11 bk w.heap.size vResult QResult (cB.out W11 U11.out 9 _ rfl) (hz.out W11 U11.out) S11Result.out (hT.out W11 U11.out)).mono ?_
  rintro e W12 ⟨rfl, hb⟩
  have S12Byte : Hid (GAt tBytev W12 114 1 mkByte vByte QByte) := S11Byte.out.wrote (d := fun _ => False) (.of_below hb) (fun _ _ h => h) (fun _ _ h => h)
  have S12Row : Hid (GAt tRowv W12 129 2 mkRow vRow QRow) := S11Row.out.wrote (d := fun _ => False) (.of_below hb) (fun _ _ h => h) (fun _ _ h => h)
  have S12Op : Hid (GAt tOpv W12 132 4 mkOp vOp QOp) := S11Op.out.wrote (d := fun _ => False) (.of_below hb) (fun _ _ h => h) (fun _ _ h => h)
  have S12Result : Hid (GAtR w.heap.size W12 147 vResult QResult) := S11Result.out.wrote (d := fun _ => False) (.of_below hb) (fun _ _ h => h) (fun _ _ h => h)
  have U12 : Hid (Wrote (fun b => DD vByte EByte b ∨ DD vRow ERow b ∨ DD vOp EOp b ∨ DD vResult EResult b) w W12) := U11.out.trans (.of_below hb)
  clear hb U11 S11Byte S11Row S11Op S11Result
  go_wp2_with fail
  refine (lookMsg_nil W12 bk (cB.out W12 U12.out 10 _ rfl)).mono ?_
  rintro e W13 ⟨rfl, hw⟩
  cases hw
  go_wp2_with fail
  refine (lookPart_nil W12 bk (cB.out W12 U12.out 11 _ rfl)).mono ?_
  rintro e W13 ⟨rfl, hw⟩
  cases hw
  go_wp2_with fail
  refine (lookDeed_nil W12 bk (cB.out W12 U12.out 12 _ rfl)).mono ?_
  rintro e W13 ⟨rfl, hw⟩
  cases hw
  go_wp2
  go_ret
  exact ⟨rfl, U12.out⟩
end Go.Proofs.YtcgecdiaddcfkaaGreatDoor
