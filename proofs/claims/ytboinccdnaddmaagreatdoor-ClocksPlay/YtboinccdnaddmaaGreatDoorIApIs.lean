/- The walk of Apart, where a book holds lists of these kinds alone: Id. -/
import Derived.Test.YtboinccdnaddmaaGreatDoorBBkNil
import Derived.Test.YtboinccdnaddmaaGreatDoorIBkV
set_option linter.unusedSimpArgs false
set_option linter.unusedVariables false
namespace Go.Proofs.YtboinccdnaddmaaGreatDoor
open Go.RowKit

set_option maxHeartbeats 4000000 in
set_option maxRecDepth 1000000 in
theorem apartIs_any (w : World) (bk n : Nat) (vId : Value) (EId : List Ent) (hB : w.heap[bk]? = some (.cells #[.int .i64 (n : Int), .slice none 0 0, vId, .slice none 0 0, .slice none 0 0, .slice none 0 0, .slice none 0 0, .slice none 0 0, .slice none 0 0, .slice none 0 0, .slice none 0 0, .slice none 0 0, .slice none 0 0] 42 (0, 0)))
    (kId : KAt w 81 43 1 vId EId) (bId : ¬ DD vId EId bk)
     :
    Calls Tryz.prog 15 #[ptr bk] w fun e w' => e = .returned (.bool true) ∧ Wrote (fun b => DD vId EId b) w w' := by
  have hlt : bk < w.heap.size := by
    rcases Nat.lt_or_ge bk w.heap.size with h' | h'
    · exact h'
    · rw [Array.getElem?_eq_none h'] at hB; cases hB
  have hnD : ¬ (fun b => DD vId EId b) bk := by
    intro h
    exact bId h
  have cB : Hid (∀ W, Wrote (fun b => DD vId EId b) w W → ∀ F v, (#[.int .i64 (n : Int), .slice none 0 0, vId, .slice none 0 0, .slice none 0 0, .slice none 0 0, .slice none 0 0, .slice none 0 0, .slice none 0 0, .slice none 0 0, .slice none 0 0, .slice none 0 0, .slice none 0 0] : Array Value)[F]? = some v → W.cell? ⟨bk, F, none⟩ = some v) := fun W h F v e => (h.cell (p := ⟨bk, F, none⟩) hlt hnD).trans (block_cell hB F v e)
  have hz : Hid (∀ W, Wrote (fun b => DD vId EId b) w W → bk < W.heap.size) := fun W h => Nat.lt_of_lt_of_le hlt h.size
  have lId : Hid (∀ b, DD vId EId b → b < w.heap.size) := fun b hb => kId.lt hb
  have nId : Hid (¬ DD vId EId bk) := bId
  have S0Id : Hid (KAt w 81 43 1 vId EId) := kId
  have U0 : Hid (Wrote (fun b => DD vId EId b) w w) := Wrote.refl _ _
  clear hB hlt hnD kId bId
  go_enter Tryz.func15, Tryz.ntmps15
  go_wp2_with fail
  refine (fillByte_nil w bk (cB.out w U0.out 1 _ rfl)).mono ?_
  rintro e W1 ⟨rfl, hw⟩
  cases hw
  go_wp2_with fail
  refine (fillId_any w bk vId EId (cB.out w U0.out 2 _ rfl) (hz.out w U0.out) (fun h => nId.out (.inr h)) S0Id.out).mono ?_
  rintro e W1 ⟨rfl, f, hw⟩
  have S1Id : Hid (FAt W1 81 43 1 mkId vId EId) := f
  have U1 : Hid (Wrote (fun b => DD vId EId b) w W1) := U0.out.trans (hw.weak (fun b _ hd => (.inr hd)))
  clear f hw U0 S0Id
  go_wp2_with fail
  refine (fillInt_nil W1 bk (cB.out W1 U1.out 3 _ rfl)).mono ?_
  rintro e W2 ⟨rfl, hw⟩
  cases hw
  go_wp2_with fail
  refine (fillText_nil W1 bk (cB.out W1 U1.out 4 _ rfl)).mono ?_
  rintro e W2 ⟨rfl, hw⟩
  cases hw
  go_wp2_with fail
  refine (fillRow_nil W1 bk (cB.out W1 U1.out 5 _ rfl)).mono ?_
  rintro e W2 ⟨rfl, hw⟩
  cases hw
  go_wp2_with fail
  refine (fillOp_nil W1 bk (cB.out W1 U1.out 6 _ rfl)).mono ?_
  rintro e W2 ⟨rfl, hw⟩
  cases hw
  go_wp2_with fail
  refine (fillSpan_nil W1 bk (cB.out W1 U1.out 7 _ rfl)).mono ?_
  rintro e W2 ⟨rfl, hw⟩
  cases hw
  go_wp2_with fail
  refine (fillChange_nil W1 bk (cB.out W1 U1.out 8 _ rfl)).mono ?_
  rintro e W2 ⟨rfl, hw⟩
  cases hw
  go_wp2_with fail
  refine (fillResult_nil W1 bk (cB.out W1 U1.out 9 _ rfl)).mono ?_
  rintro e W2 ⟨rfl, hw⟩
  cases hw
  go_wp2_with fail
  refine (fillMsg_nil W1 bk (cB.out W1 U1.out 10 _ rfl)).mono ?_
  rintro e W2 ⟨rfl, hw⟩
  cases hw
  go_wp2_with fail
  refine (fillPart_nil W1 bk (cB.out W1 U1.out 11 _ rfl)).mono ?_
  rintro e W2 ⟨rfl, hw⟩
  cases hw
  go_wp2_with fail
  refine (fillDeed_nil W1 bk (cB.out W1 U1.out 12 _ rfl)).mono ?_
  rintro e W2 ⟨rfl, hw⟩
  cases hw
  go_wp2_with fail
  refine (growByte_nil W1 bk (cB.out W1 U1.out 1 _ rfl)).mono ?_
  rintro e W2 ⟨rfl, hw⟩
  cases hw
  go_wp2_with fail
  refine (growId_any W1 bk vId EId (cB.out W1 U1.out 2 _ rfl) (hz.out W1 U1.out) nId.out S1Id.out).mono ?_
  rintro e W2 ⟨rfl, QId, sameId, f, hw⟩
  have S2Id : Hid (GAt W1.heap.size W2 81 1 mkId vId QId) := f
  have yId : Hid (∀ b, DD vId QId b → DD vId EId b) := fun b hb => DD_same sameId hb
  have tId : Hid (w.heap.size ≤ W1.heap.size) := U1.out.size
  have topId : ∃ t, t = W1.heap.size := ⟨_, rfl⟩
  obtain ⟨tIdv, etId⟩ := topId
  rw [← etId] at S2Id tId
  have U2 : Hid (Wrote (fun b => DD vId EId b) w W2) := U1.out.trans (hw.weak (fun b _ hd => hd))
  clear f hw U1 sameId etId S1Id
  go_wp2_with fail
  refine (growInt_nil W2 bk (cB.out W2 U2.out 3 _ rfl)).mono ?_
  rintro e W3 ⟨rfl, hw⟩
  cases hw
  go_wp2_with fail
  refine (growText_nil W2 bk (cB.out W2 U2.out 4 _ rfl)).mono ?_
  rintro e W3 ⟨rfl, hw⟩
  cases hw
  go_wp2_with fail
  refine (growRow_nil W2 bk (cB.out W2 U2.out 5 _ rfl)).mono ?_
  rintro e W3 ⟨rfl, hw⟩
  cases hw
  go_wp2_with fail
  refine (growOp_nil W2 bk (cB.out W2 U2.out 6 _ rfl)).mono ?_
  rintro e W3 ⟨rfl, hw⟩
  cases hw
  go_wp2_with fail
  refine (growSpan_nil W2 bk (cB.out W2 U2.out 7 _ rfl)).mono ?_
  rintro e W3 ⟨rfl, hw⟩
  cases hw
  go_wp2_with fail
  refine (growChange_nil W2 bk (cB.out W2 U2.out 8 _ rfl)).mono ?_
  rintro e W3 ⟨rfl, hw⟩
  cases hw
  go_wp2_with fail
  refine (growResult_nil W2 bk (cB.out W2 U2.out 9 _ rfl)).mono ?_
  rintro e W3 ⟨rfl, hw⟩
  cases hw
  go_wp2_with fail
  refine (growMsg_nil W2 bk (cB.out W2 U2.out 10 _ rfl)).mono ?_
  rintro e W3 ⟨rfl, hw⟩
  cases hw
  go_wp2_with fail
  refine (growPart_nil W2 bk (cB.out W2 U2.out 11 _ rfl)).mono ?_
  rintro e W3 ⟨rfl, hw⟩
  cases hw
  go_wp2_with fail
  refine (growDeed_nil W2 bk (cB.out W2 U2.out 12 _ rfl)).mono ?_
  rintro e W3 ⟨rfl, hw⟩
  cases hw
  go_wp2_with fail
  refine (lookByte_nil W2 bk (cB.out W2 U2.out 1 _ rfl)).mono ?_
  rintro e W3 ⟨rfl, hw⟩
  cases hw
  go_wp2_with fail
  refine (lookId_any W2 bk tIdv vId QId (cB.out W2 U2.out 2 _ rfl) (hz.out W2 U2.out) S2Id.out).mono ?_
  rintro e W3 ⟨rfl, hb⟩
  have S3Id : Hid (GAt tIdv W3 81 1 mkId vId QId) := S2Id.out.wrote (d := fun _ => False) (.of_below hb) (fun _ _ h => h) (fun _ _ h => h)
  have U3 : Hid (Wrote (fun b => DD vId EId b) w W3) := U2.out.trans (.of_below hb)
  clear hb U2 S2Id
  go_wp2_with fail
  refine (lookInt_nil W3 bk (cB.out W3 U3.out 3 _ rfl)).mono ?_
  rintro e W4 ⟨rfl, hw⟩
  cases hw
  go_wp2_with fail
  refine (lookText_nil W3 bk (cB.out W3 U3.out 4 _ rfl)).mono ?_
  rintro e W4 ⟨rfl, hw⟩
  cases hw
  go_wp2_with fail
  refine (lookRow_nil W3 bk (cB.out W3 U3.out 5 _ rfl)).mono ?_
  rintro e W4 ⟨rfl, hw⟩
  cases hw
  go_wp2_with fail
  refine (lookOp_nil W3 bk (cB.out W3 U3.out 6 _ rfl)).mono ?_
  rintro e W4 ⟨rfl, hw⟩
  cases hw
  go_wp2_with fail
  refine (lookSpan_nil W3 bk (cB.out W3 U3.out 7 _ rfl)).mono ?_
  rintro e W4 ⟨rfl, hw⟩
  cases hw
  go_wp2_with fail
  refine (lookChange_nil W3 bk (cB.out W3 U3.out 8 _ rfl)).mono ?_
  rintro e W4 ⟨rfl, hw⟩
  cases hw
  go_wp2_with fail
  refine (lookResult_nil W3 bk (cB.out W3 U3.out 9 _ rfl)).mono ?_
  rintro e W4 ⟨rfl, hw⟩
  cases hw
  go_wp2_with fail
  refine (lookMsg_nil W3 bk (cB.out W3 U3.out 10 _ rfl)).mono ?_
  rintro e W4 ⟨rfl, hw⟩
  cases hw
  go_wp2_with fail
  refine (lookPart_nil W3 bk (cB.out W3 U3.out 11 _ rfl)).mono ?_
  rintro e W4 ⟨rfl, hw⟩
  cases hw
  go_wp2_with fail
  refine (lookDeed_nil W3 bk (cB.out W3 U3.out 12 _ rfl)).mono ?_
  rintro e W4 ⟨rfl, hw⟩
  cases hw
  go_wp2
  go_ret
  exact ⟨rfl, U3.out⟩
end Go.Proofs.YtboinccdnaddmaaGreatDoor
