/- The walk of Apart, where a book holds lists of these kinds alone: Byte, Op. -/
import Derived.Test.YtndjgilheleplaaGreatDoorRBkNil
import Derived.Test.YtndjgilheleplaaGreatDoorRBkV
import Derived.Test.YtndjgilheleplaaGreatDoorRBkOpL
set_option linter.unusedSimpArgs false
set_option linter.unusedVariables false
namespace Go.Proofs.YtndjgilheleplaaGreatDoor
open Go.RowKit

set_option maxHeartbeats 4000000 in
set_option maxRecDepth 1000000 in
theorem apartOps_any (w : World) (bk n : Nat) (vByte vOp : Value) (EByte EOp : List Ent) (hB : w.heap[bk]? = some (.cells #[.int .i64 (n : Int), vByte, .slice none 0 0, .slice none 0 0, .slice none 0 0, .slice none 0 0, vOp, .slice none 0 0, .slice none 0 0, .slice none 0 0, .slice none 0 0, .slice none 0 0, .slice none 0 0] 52 (0, 0)))
    (kByte : KAt w 140 5 1 vByte EByte) (bByte : ¬ DD vByte EByte bk) (kOp : KAt w 138 25 4 vOp EOp) (bOp : ¬ DD vOp EOp bk)
    (dByteOp' : ∀ b, DD vByte EByte b → ¬ DD vOp EOp b) (hT' : ∀ W, Wrote (fun b => DD vByte EByte b ∨ DD vOp EOp b) w W → Tab W) :
    Calls Tryz.prog 21 #[ptr bk] w fun e w' => e = .returned (.bool true) ∧ Wrote (fun b => DD vByte EByte b ∨ DD vOp EOp b) w w' := by
  have hlt : bk < w.heap.size := by
    rcases Nat.lt_or_ge bk w.heap.size with h' | h'
    · exact h'
    · rw [Array.getElem?_eq_none h'] at hB; cases hB
  have hnD : ¬ (fun b => DD vByte EByte b ∨ DD vOp EOp b) bk := by
    intro h
    rcases h with h | h
    · exact bByte h
    · exact bOp h
  have cB : Hid (∀ W, Wrote (fun b => DD vByte EByte b ∨ DD vOp EOp b) w W → ∀ F v, (#[.int .i64 (n : Int), vByte, .slice none 0 0, .slice none 0 0, .slice none 0 0, .slice none 0 0, vOp, .slice none 0 0, .slice none 0 0, .slice none 0 0, .slice none 0 0, .slice none 0 0, .slice none 0 0] : Array Value)[F]? = some v → W.cell? ⟨bk, F, none⟩ = some v) := fun W h F v e => (h.cell (p := ⟨bk, F, none⟩) hlt hnD).trans (block_cell hB F v e)
  have hz : Hid (∀ W, Wrote (fun b => DD vByte EByte b ∨ DD vOp EOp b) w W → bk < W.heap.size) := fun W h => Nat.lt_of_lt_of_le hlt h.size
  have lByte : Hid (∀ b, DD vByte EByte b → b < w.heap.size) := fun b hb => kByte.lt hb
  have nByte : Hid (¬ DD vByte EByte bk) := bByte
  have S0Byte : Hid (KAt w 140 5 1 vByte EByte) := kByte
  have lOp : Hid (∀ b, DD vOp EOp b → b < w.heap.size) := fun b hb => kOp.lt hb
  have nOp : Hid (¬ DD vOp EOp bk) := bOp
  have S0Op : Hid (KAt w 138 25 4 vOp EOp) := kOp
  have dByteOp : Hid (∀ b, DD vByte EByte b → ¬ DD vOp EOp b) := dByteOp'
  have hT : Hid (∀ W, Wrote (fun b => DD vByte EByte b ∨ DD vOp EOp b) w W → Tab W) := hT'
  have U0 : Hid (Wrote (fun b => DD vByte EByte b ∨ DD vOp EOp b) w w) := Wrote.refl _ _
  clear hB hlt hnD kByte bByte kOp bOp dByteOp' hT'
  go_enter Tryz.func21, Tryz.ntmps21
  go_wp2_with fail
  refine (fillByte_any w bk vByte EByte (cB.out w U0.out 1 _ rfl) (hz.out w U0.out) (fun h => nByte.out (.inr h)) S0Byte.out).mono ?_
  rintro e W1 ⟨rfl, f, hw⟩
  have S1Byte : Hid (FAt W1 140 5 1 mkByte vByte EByte) := f
  have S1Op : Hid (KAt W1 138 25 4 vOp EOp) := S0Op.out.wrote hw (fun b hb hd => (fun b h1 h2 => dByteOp.out b h2 h1) b hb (.inr hd))
  have U1 : Hid (Wrote (fun b => DD vByte EByte b ∨ DD vOp EOp b) w W1) := U0.out.trans (hw.weak (fun b _ hd => (.inl (.inr hd))))
  clear f hw U0 S0Byte S0Op
  go_wp2_with fail
  refine (fillId_nil W1 bk (cB.out W1 U1.out 2 _ rfl)).mono ?_
  rintro e W2 ⟨rfl, hw⟩
  cases hw
  go_wp2_with fail
  refine (fillInt_nil W1 bk (cB.out W1 U1.out 3 _ rfl)).mono ?_
  rintro e W2 ⟨rfl, hw⟩
  cases hw
  go_wp2_with fail
  refine (fillText_nil W1 bk (cB.out W1 U1.out 4 _ rfl)).mono ?_
  rintro e W2 ⟨rfl, hw⟩
  cases hw
  go_wp2_with fail
  refine (fillRow_nil W1 bk (cB.out W1 U1.out 5 _ rfl)).mono ?_
  rintro e W2 ⟨rfl, hw⟩
  cases hw
  go_wp2_with fail
  refine (fillOp_any W1 bk vOp EOp (cB.out W1 U1.out 6 _ rfl) (hz.out W1 U1.out) (fun h => nOp.out (.inr h)) S1Op.out (fun V hV => hT.out V (U1.out.trans (hV.weak (fun b _ hb => (.inr (.inr hb))))))).mono ?_
  rintro e W2 ⟨rfl, f, hw⟩
  have S2Op : Hid (FAt W2 138 25 4 mkOp vOp EOp) := f
  have S2Byte : Hid (FAt W2 140 5 1 mkByte vByte EByte) := S1Byte.out.wrote hw (fun b hb hd => (dByteOp.out) b hb (.inr hd))
  have U2 : Hid (Wrote (fun b => DD vByte EByte b ∨ DD vOp EOp b) w W2) := U1.out.trans (hw.weak (fun b _ hd => (.inr (.inr hd))))
  clear f hw U1 S1Byte S1Op
  go_wp2_with fail
  refine (fillSpan_nil W2 bk (cB.out W2 U2.out 7 _ rfl)).mono ?_
  rintro e W3 ⟨rfl, hw⟩
  cases hw
  go_wp2_with fail
  refine (fillChange_nil W2 bk (cB.out W2 U2.out 8 _ rfl)).mono ?_
  rintro e W3 ⟨rfl, hw⟩
  cases hw
  go_wp2_with fail
  refine (fillResult_nil W2 bk (cB.out W2 U2.out 9 _ rfl)).mono ?_
  rintro e W3 ⟨rfl, hw⟩
  cases hw
  go_wp2_with fail
  refine (fillMsg_nil W2 bk (cB.out W2 U2.out 10 _ rfl)).mono ?_
  rintro e W3 ⟨rfl, hw⟩
  cases hw
  go_wp2_with fail
  refine (fillPart_nil W2 bk (cB.out W2 U2.out 11 _ rfl)).mono ?_
  rintro e W3 ⟨rfl, hw⟩
  cases hw
  go_wp2_with fail
  refine (fillDeed_nil W2 bk (cB.out W2 U2.out 12 _ rfl)).mono ?_
  rintro e W3 ⟨rfl, hw⟩
  cases hw
  go_wp2_with fail
  refine (growByte_any W2 bk vByte EByte (cB.out W2 U2.out 1 _ rfl) (hz.out W2 U2.out) nByte.out S2Byte.out).mono ?_
  rintro e W3 ⟨rfl, QByte, sameByte, f, hw⟩
  have S3Byte : Hid (GAt W2.heap.size W3 140 1 mkByte vByte QByte) := f
  have yByte : Hid (∀ b, DD vByte QByte b → DD vByte EByte b) := fun b hb => DD_same sameByte hb
  have tByte : Hid (w.heap.size ≤ W2.heap.size) := U2.out.size
  have topByte : ∃ t, t = W2.heap.size := ⟨_, rfl⟩
  obtain ⟨tBytev, etByte⟩ := topByte
  rw [← etByte] at S3Byte tByte
  have S3Op : Hid (FAt W3 138 25 4 mkOp vOp EOp) := S2Op.out.wrote hw (fun b hb hd => (fun b h1 h2 => dByteOp.out b h2 h1) b hb hd)
  have U3 : Hid (Wrote (fun b => DD vByte EByte b ∨ DD vOp EOp b) w W3) := U2.out.trans (hw.weak (fun b _ hd => (.inl hd)))
  clear f hw U2 sameByte etByte S2Byte S2Op
  go_wp2_with fail
  refine (growId_nil W3 bk (cB.out W3 U3.out 2 _ rfl)).mono ?_
  rintro e W4 ⟨rfl, hw⟩
  cases hw
  go_wp2_with fail
  refine (growInt_nil W3 bk (cB.out W3 U3.out 3 _ rfl)).mono ?_
  rintro e W4 ⟨rfl, hw⟩
  cases hw
  go_wp2_with fail
  refine (growText_nil W3 bk (cB.out W3 U3.out 4 _ rfl)).mono ?_
  rintro e W4 ⟨rfl, hw⟩
  cases hw
  go_wp2_with fail
  refine (growRow_nil W3 bk (cB.out W3 U3.out 5 _ rfl)).mono ?_
  rintro e W4 ⟨rfl, hw⟩
  cases hw
  go_wp2_with fail
  refine (growOp_any W3 bk vOp EOp (cB.out W3 U3.out 6 _ rfl) (hz.out W3 U3.out) nOp.out S3Op.out (fun V hV => hT.out V (U3.out.trans (hV.weak (fun b _ hb => (.inr hb)))))).mono ?_
  rintro e W4 ⟨rfl, QOp, sameOp, f, hw⟩
  have S4Op : Hid (GAt W3.heap.size W4 138 4 mkOp vOp QOp) := f
  have yOp : Hid (∀ b, DD vOp QOp b → DD vOp EOp b) := fun b hb => DD_same sameOp hb
  have tOp : Hid (w.heap.size ≤ W3.heap.size) := U3.out.size
  have topOp : ∃ t, t = W3.heap.size := ⟨_, rfl⟩
  obtain ⟨tOpv, etOp⟩ := topOp
  rw [← etOp] at S4Op tOp
  have S4Byte : Hid (GAt tBytev W4 140 1 mkByte vByte QByte) := S3Byte.out.wrote hw (fun b hb hd => (dByteOp.out) b (yByte.out b hb) hd) (fun b hb hd => absurd (lOp.out b hd) (Nat.not_lt.mpr (Nat.le_trans tByte.out hb)))
  have U4 : Hid (Wrote (fun b => DD vByte EByte b ∨ DD vOp EOp b) w W4) := U3.out.trans (hw.weak (fun b _ hd => (.inr hd)))
  clear f hw U3 sameOp etOp S3Byte S3Op
  go_wp2_with fail
  refine (growSpan_nil W4 bk (cB.out W4 U4.out 7 _ rfl)).mono ?_
  rintro e W5 ⟨rfl, hw⟩
  cases hw
  go_wp2_with fail
  refine (growChange_nil W4 bk (cB.out W4 U4.out 8 _ rfl)).mono ?_
  rintro e W5 ⟨rfl, hw⟩
  cases hw
  go_wp2_with fail
  refine (growResult_nil W4 bk (cB.out W4 U4.out 9 _ rfl)).mono ?_
  rintro e W5 ⟨rfl, hw⟩
  cases hw
  go_wp2_with fail
  refine (growMsg_nil W4 bk (cB.out W4 U4.out 10 _ rfl)).mono ?_
  rintro e W5 ⟨rfl, hw⟩
  cases hw
  go_wp2_with fail
  refine (growPart_nil W4 bk (cB.out W4 U4.out 11 _ rfl)).mono ?_
  rintro e W5 ⟨rfl, hw⟩
  cases hw
  go_wp2_with fail
  refine (growDeed_nil W4 bk (cB.out W4 U4.out 12 _ rfl)).mono ?_
  rintro e W5 ⟨rfl, hw⟩
  cases hw
  go_wp2_with fail
  refine (lookByte_any W4 bk tBytev vByte QByte (cB.out W4 U4.out 1 _ rfl) (hz.out W4 U4.out) S4Byte.out).mono ?_
  rintro e W5 ⟨rfl, hb⟩
  have S5Byte : Hid (GAt tBytev W5 140 1 mkByte vByte QByte) := S4Byte.out.wrote (d := fun _ => False) (.of_below hb) (fun _ _ h => h) (fun _ _ h => h)
  have S5Op : Hid (GAt tOpv W5 138 4 mkOp vOp QOp) := S4Op.out.wrote (d := fun _ => False) (.of_below hb) (fun _ _ h => h) (fun _ _ h => h)
  have U5 : Hid (Wrote (fun b => DD vByte EByte b ∨ DD vOp EOp b) w W5) := U4.out.trans (.of_below hb)
  clear hb U4 S4Byte S4Op
  go_wp2_with fail
  refine (lookId_nil W5 bk (cB.out W5 U5.out 2 _ rfl)).mono ?_
  rintro e W6 ⟨rfl, hw⟩
  cases hw
  go_wp2_with fail
  refine (lookInt_nil W5 bk (cB.out W5 U5.out 3 _ rfl)).mono ?_
  rintro e W6 ⟨rfl, hw⟩
  cases hw
  go_wp2_with fail
  refine (lookText_nil W5 bk (cB.out W5 U5.out 4 _ rfl)).mono ?_
  rintro e W6 ⟨rfl, hw⟩
  cases hw
  go_wp2_with fail
  refine (lookRow_nil W5 bk (cB.out W5 U5.out 5 _ rfl)).mono ?_
  rintro e W6 ⟨rfl, hw⟩
  cases hw
  go_wp2_with fail
  refine (lookOp_any W5 bk tOpv vOp QOp (cB.out W5 U5.out 6 _ rfl) (hz.out W5 U5.out) S5Op.out (hT.out W5 U5.out)).mono ?_
  rintro e W6 ⟨rfl, hb⟩
  have S6Byte : Hid (GAt tBytev W6 140 1 mkByte vByte QByte) := S5Byte.out.wrote (d := fun _ => False) (.of_below hb) (fun _ _ h => h) (fun _ _ h => h)
  have S6Op : Hid (GAt tOpv W6 138 4 mkOp vOp QOp) := S5Op.out.wrote (d := fun _ => False) (.of_below hb) (fun _ _ h => h) (fun _ _ h => h)
  have U6 : Hid (Wrote (fun b => DD vByte EByte b ∨ DD vOp EOp b) w W6) := U5.out.trans (.of_below hb)
  clear hb U5 S5Byte S5Op
  go_wp2_with fail
  refine (lookSpan_nil W6 bk (cB.out W6 U6.out 7 _ rfl)).mono ?_
  rintro e W7 ⟨rfl, hw⟩
  cases hw
  go_wp2_with fail
  refine (lookChange_nil W6 bk (cB.out W6 U6.out 8 _ rfl)).mono ?_
  rintro e W7 ⟨rfl, hw⟩
  cases hw
  go_wp2_with fail
  refine (lookResult_nil W6 bk (cB.out W6 U6.out 9 _ rfl)).mono ?_
  rintro e W7 ⟨rfl, hw⟩
  cases hw
  go_wp2_with fail
  refine (lookMsg_nil W6 bk (cB.out W6 U6.out 10 _ rfl)).mono ?_
  rintro e W7 ⟨rfl, hw⟩
  cases hw
  go_wp2_with fail
  refine (lookPart_nil W6 bk (cB.out W6 U6.out 11 _ rfl)).mono ?_
  rintro e W7 ⟨rfl, hw⟩
  cases hw
  go_wp2_with fail
  refine (lookDeed_nil W6 bk (cB.out W6 U6.out 12 _ rfl)).mono ?_
  rintro e W7 ⟨rfl, hw⟩
  cases hw
  go_wp2
  go_ret
  exact ⟨rfl, U6.out⟩
end Go.Proofs.YtndjgilheleplaaGreatDoor
