import Derived.Test.YtcgecdiaddcfkaaGreatDoorPRefPutM
import Derived.Test.YtcgecdiaddcfkaaGreatDoorM20
import Derived.Test.YtcgecdiaddcfkaaGreatDoorM25
import Derived.Test.YtcgecdiaddcfkaaGreatDoorPTextM
import Derived.Test.YtcgecdiaddcfkaaGreatDoorM6
/- The walk of PacketsPut. -/
set_option linter.unusedSimpArgs false
set_option linter.unusedVariables false
namespace Go.Proofs.YtcgecdiaddcfkaaGreatDoor
open Go.RowKit

set_option maxHeartbeats 4000000 in
set_option maxRecDepth 1000000 in
theorem pput_walk (w : World) (vo vr : Value) (m : MsgD) (l : List ResP) (hm : MsgAt w w.heap.size vo vr m l) (ho : ∀ x ∈ m.ops, opSz x) (hr : ∀ p ∈ l, resSz p) (hl1 : m.ops.length ≤ 140737488351232) (hl2 : l.length ≤ 140737488351232) (htab : Tab w) :
    Calls Tryz.prog 3 #[msgV m vo vr] w fun e w' => e = .returned (.bool true) ∧ Below w.heap.size w w' := by
  obtain ⟨ao, ca, bo, cb, rfl, rfl⟩ := hm.form
  have HT : Hid (Tab w) := htab
  have HSM : Hid (∀ p ∈ l, ∀ x ∈ p.2, rowSm x) := fun p hp => (hm.res.2 p hp).2
  have HOM : Hid (∀ x ∈ m.ops, opSm x) := hm.sm
  have HEQ : Hid (l.map (·.2) = m.res) := hm.eq
  unfold msgV
  obtain ⟨S, hS⟩ : ∃ S, putM m = S := ⟨_, rfl⟩
  have hD : Hid (S.1.length ≤ 200000) := by show S.1.length ≤ 200000; rw [← hS]; exact putM_small m
  have kP : ∀ W uo ur k, MsgAt W W.heap.size uo ur m k → Calls Tryz.prog 7 #[.agg #[.int .u8 (m.say.toNat : Int), .int .u8 (m.src.toNat : Int), .int .u8 (m.dst.toNat : Int), .int .u32 (m.g.toNat : Int), uo, ur]] W fun e w' => ∃ a c, e = .returned (.tuple #[.slice a S.1.length c, .int .i64 (S.2 : Int)]) ∧ BsAt w' W.heap.size (.slice a S.1.length c) S.1 ∧ Below W.heap.size W w' := fun W uo ur k h => by rw [← hS]; exact h.put
  have kQ : ∀ W uo ur k, MsgAt W W.heap.size uo ur m k → Calls Tryz.prog 8 #[.agg #[.int .u8 (m.say.toNat : Int), .int .u8 (m.src.toNat : Int), .int .u8 (m.dst.toNat : Int), .int .u32 (m.g.toNat : Int), uo, ur]] W fun e w' => ∃ v, e = .returned (.tuple #[v, .int .i64 (S.2 : Int)]) ∧ BsAt w' W.heap.size v S.1 ∧ Below W.heap.size W w' := fun W uo ur k h => by rw [← hS]; exact refPut7_any W uo ur m k h
  clear hS htab
  obtain ⟨D, E0⟩ := S
  simp only at kP kQ hD
  obtain ⟨W1, hW1⟩ : ∃ W1, W1 = w.alloc (.cells #[.int .u8 (m.say.toNat : Int), .int .u8 (m.src.toNat : Int), .int .u8 (m.dst.toNat : Int), .int .u32 (m.g.toNat : Int), .slice ao m.ops.length ca, .slice bo l.length cb] 27) := ⟨_, rfl⟩
  have B1 : Below w.heap.size w W1 := by rw [hW1]; exact below_one w _
  have P1 : W1.heap[w.heap.size]? = some (.cells #[.int .u8 (m.say.toNat : Int), .int .u8 (m.src.toNat : Int), .int .u8 (m.dst.toNat : Int), .int .u32 (m.g.toNat : Int), .slice ao m.ops.length ca, .slice bo l.length cb] 27 (0, 0)) := by rw [hW1]; exact heap_alloc_new w _
  have z1 : w.heap.size < W1.heap.size := by rw [hW1]; simp
  have M1 := hm.up B1
  have kz := msgSizeB_any W1 _ _ m l M1 ho hr hl1 hl2
  unfold msgV at kz
  go_enter Tryz.func3, Tryz.ntmps3
  go_wp2_with fail
  rw [← hW1]
  clear hW1 hm ho hr hl1 hl2
  refine kz.mono ?_
  rintro e W2 ⟨⟨z, rfl, hz'⟩, b⟩
  have hz : Hid _ := hz'
  clear kz hz'
  have B2 := B1.trans (b.mono B1.size)
  have P2 := (b.block _ z1).trans P1
  have z2 := Nat.lt_of_lt_of_le z1 b.size
  have M2 := M1.up b
  clear b B1 P1 z1 M1
  by_cases hz5 : 5000 < z
  · clear hz P2 z2 M2 kP kQ HSM HOM HEQ hD HT
    go_wp2
    go_ret
    exact ⟨rfl, B2⟩
  have hbig : Hid (m.ops.length ≤ 5000 ∧ l.length ≤ 5000 ∧ ∀ p ∈ l, p.2.length ≤ 5000) := hz.out (by omega)
  have kt := twinMsg_any W2 _ _ m l M2 (by have := hbig.out.1; omega) (by have := hbig.out.2.1; omega) (fun p hp => by have := hbig.out.2.2 p hp; omega)
  unfold msgV at kt
  obtain ⟨m0, m1, m2, m3, m4, m5⟩ := six_cells P2
  clear hz
  go_wp2_with fail
  refine kt.mono ?_
  rintro e W3 ⟨q1, q2, ms, sb, rfl, hms', k1, k2, k3, t1, t2, t3, t4, b⟩
  have hms : Hid (ms.map (·.2) = l.map (·.2)) := hms'
  have HLen : Hid (ms.length = l.length) := by show _ = _; have := congrArg List.length hms'; simpa using this
  have T3 : TwP W3 q1 q2 sb m l.length ms := ⟨t1, t2, t3, t4, HLen.out⟩
  have Q1 : Hid (W2.heap.size ≤ q1 ∧ q1 < q2 ∧ q2 < W3.heap.size) := ⟨k1, k2, (t3.lt _ rfl).2⟩
  have QM : Hid (∀ p ∈ ms, ∀ b, p.1.ownBlock = some b → q2 < b ∧ b < W3.heap.size) := t2.lt
  have B3 := B2.trans (b.mono B2.size)
  have P3 := (b.block _ z2).trans P2
  have z3 := Nat.lt_of_lt_of_le z2 b.size
  have M3 := M2.up b
  have K2 : Hid (w.heap.size ≤ W2.heap.size) := B2.size
  clear kt b B2 P2 z2 M2 t1 t2 t3 t4 k1 k2 k3 hms' m0 m1 m2 m3 m4 m5
  have ba := below_one W3 (.cells #[.int .u8 (m.say.toNat : Int), .int .u8 (m.src.toNat : Int), .int .u8 (m.dst.toNat : Int), .int .u32 (m.g.toNat : Int), .slice (some ⟨q1, 0, none⟩) m.ops.length (m.ops.length + 1), .slice (some ⟨q2, 0, none⟩) l.length (l.length + 1)] 27)
  have PT3 : (W3.alloc (.cells #[.int .u8 (m.say.toNat : Int), .int .u8 (m.src.toNat : Int), .int .u8 (m.dst.toNat : Int), .int .u32 (m.g.toNat : Int), .slice (some ⟨q1, 0, none⟩) m.ops.length (m.ops.length + 1), .slice (some ⟨q2, 0, none⟩) l.length (l.length + 1)] 27)).heap[W3.heap.size]? = some (.cells #[.int .u8 (m.say.toNat : Int), .int .u8 (m.src.toNat : Int), .int .u8 (m.dst.toNat : Int), .int .u32 (m.g.toNat : Int), .slice (some ⟨q1, 0, none⟩) m.ops.length (m.ops.length + 1), .slice (some ⟨q2, 0, none⟩) l.length (l.length + 1)] 27 (0, 0)) := heap_alloc_new W3 _
  have zT3 : W3.heap.size < (W3.alloc (.cells #[.int .u8 (m.say.toNat : Int), .int .u8 (m.src.toNat : Int), .int .u8 (m.dst.toNat : Int), .int .u32 (m.g.toNat : Int), .slice (some ⟨q1, 0, none⟩) m.ops.length (m.ops.length + 1), .slice (some ⟨q2, 0, none⟩) l.length (l.length + 1)] 27)).heap.size := by simp
  have T4 := T3.below ba
  have B4 := B3.trans (ba.mono B3.size)
  have P4 := (ba.block _ z3).trans P3
  have z4 := Nat.lt_of_lt_of_le z3 ba.size
  have M4 := M3.up ba
  clear ba B3 P3 z3 M3 T3
  go_wp2_with fail
  generalize W3.alloc (.cells #[.int .u8 (m.say.toNat : Int), .int .u8 (m.src.toNat : Int), .int .u8 (m.dst.toNat : Int), .int .u32 (m.g.toNat : Int), .slice (some ⟨q1, 0, none⟩) m.ops.length (m.ops.length + 1), .slice (some ⟨q2, 0, none⟩) l.length (l.length + 1)] 27) = W4 at *
  have K3 : Hid (W3.heap.size < W4.heap.size) := zT3
  obtain ⟨pT, hpT⟩ : ∃ p, p = W3.heap.size := ⟨_, rfl⟩
  have HpT : Hid (pT = W3.heap.size) := hpT
  try rw [← hpT]
  rw [← hpT] at PT3 zT3
  clear hpT
  have TM : ∀ W, TwP W q1 q2 sb m l.length ms → MsgAt W W.heap.size (.slice (some ⟨q1, 0, none⟩) m.ops.length (m.ops.length + 1)) (.slice (some ⟨q2, 0, none⟩) l.length (l.length + 1)) m ms := fun W h => h.mat HOM.out (fun p hp x hx => by
    have : p.2 ∈ l.map (·.2) := by rw [← hms.out]; exact List.mem_map_of_mem hp
    obtain ⟨q, hq, e⟩ := List.mem_map.mp this
    exact HSM.out q hq x (by rw [e]; exact hx)) (hms.out.trans HEQ.out)
  refine (kP W4 _ _ ms (TM W4 T4)).mono ?_
  rintro e W5 ⟨a5, c5, rfl, o5, b⟩
  have B5 := B4.trans (b.mono B4.size)
  have P5 := (b.block _ z4).trans P4
  have z5 := Nat.lt_of_lt_of_le z4 b.size
  have M5 := M4.up b
  have T5 := T4.below b
  have PT5 := (b.block _ zT3).trans PT3
  have zT5 := Nat.lt_of_lt_of_le zT3 b.size
  have K4 : Hid (W4.heap.size ≤ W5.heap.size) := b.size
  clear b B4 P4 z4 M4 T4 PT3 zT3
  obtain ⟨m0, m1, m2, m3, m4, m5⟩ := six_cells PT5
  go_wp2_with fail
  refine (kP W5 _ _ ms (TM W5 T5)).mono ?_
  rintro e W6 ⟨a6, c6, rfl, o6, b⟩
  have B6 := B5.trans (b.mono B5.size)
  have P6 := (b.block _ z5).trans P5
  have z6 := Nat.lt_of_lt_of_le z5 b.size
  have M6 := M5.up b
  have T6 := T5.below b
  have PT6 := (b.block _ zT5).trans PT5
  have zT6 := Nat.lt_of_lt_of_le zT5 b.size
  have o56 := o5.below b
  have K5 : Hid (W5.heap.size ≤ W6.heap.size) := b.size
  have QA : Hid (∀ b, (Value.slice a5 D.length c5).ownBlock = some b → W4.heap.size ≤ b ∧ b < W5.heap.size) := o5.lt
  have QB : Hid (∀ b, (Value.slice a6 D.length c6).ownBlock = some b → W5.heap.size ≤ b ∧ b < W6.heap.size) := o6.lt
  clear b B5 P5 z5 M5 T5 PT5 zT5 o5 m0 m1 m2 m3 m4 m5 kP TM
  obtain ⟨m0, m1, m2, m3, m4, m5⟩ := six_cells P6
  go_wp2_with fail
  refine (kQ W6 _ _ l M6).mono ?_
  rintro e W7 ⟨v7, rfl, o7, b⟩
  obtain ⟨a7, c7, rfl⟩ := own_len o7
  have B7 := B6.trans (b.mono B6.size)
  have PX := (b.block _ z6).trans P6
  have zX := Nat.lt_of_lt_of_le z6 b.size
  have M : Hid _ := M6.up b
  have T : Hid _ := T6.below b
  have PT := (b.block _ zT6).trans PT6
  have zT := Nat.lt_of_lt_of_le zT6 b.size
  have O5 : Hid _ := o56.below b
  have O6 : Hid _ := o6.below b
  have O7 : Hid _ := o7
  have K6 : Hid (W6.heap.size ≤ W7.heap.size) := b.size
  clear b B6 P6 z6 M6 T6 PT6 zT6 o56 o6 o7 m0 m1 m2 m3 m4 m5 kQ
  have b0 : Below W7.heap.size W7 W7.drew := ⟨rfl, rfl, rfl, Nat.le_refl _, fun _ _ => rfl⟩
  have fin : ∀ W8, Below w.heap.size w W8 → TwP W8 q1 q2 sb m l.length ms → BsAt W8 W4.heap.size (.slice a5 D.length c5) D → BsAt W8 W5.heap.size (.slice a6 D.length c6) D → W6.heap.size ≤ W8.heap.size →
      ∃ R1 R2 R3 : World → Prop, Calls Tryz.prog 13 #[ptr W8.heap.size, .agg #[.int .u8 (m.say.toNat : Int), .int .u8 (m.src.toNat : Int), .int .u8 (m.dst.toNat : Int), .int .u32 (m.g.toNat : Int), .slice (some ⟨q1, 0, none⟩) m.ops.length (m.ops.length + 1), .slice (some ⟨q2, 0, none⟩) l.length (l.length + 1)]] (W8.alloc (.cells #[.int .i64 0, .slice none 0 0, .slice none 0 0, .slice none 0 0, .slice none 0 0, .slice none 0 0, .slice none 0 0, .slice none 0 0, .slice none 0 0, .slice none 0 0, .slice none 0 0, .slice none 0 0, .slice none 0 0] 50)) (fun e w' => e = .returned (.tuple #[]) ∧ R1 w') ∧
      ∀ wa, R1 wa → Calls Tryz.prog 14 #[ptr W8.heap.size, .slice a5 D.length c5] wa (fun e w' => e = .returned (.tuple #[]) ∧ R2 w') ∧
      ∀ wb, R2 wb → Calls Tryz.prog 14 #[ptr W8.heap.size, .slice a6 D.length c6] wb (fun e w' => e = .returned (.tuple #[]) ∧ R3 w') ∧
      ∀ wc, R3 wc → Calls Tryz.prog 15 #[ptr W8.heap.size] wc (fun e w' => e = .returned (.bool true) ∧ Below w.heap.size w w') := by
    intro W8 B8 T8 o5 o6 L7
    have b9 := below_one W8 (.cells #[.int .i64 0, .slice none 0 0, .slice none 0 0, .slice none 0 0, .slice none 0 0, .slice none 0 0, .slice none 0 0, .slice none 0 0, .slice none 0 0, .slice none 0 0, .slice none 0 0, .slice none 0 0, .slice none 0 0] 50)
    have I0 := BkMsgs.new W8
    have T9 := T8.below b9
    have o59 := o5.below b9
    have o69 := o6.below b9
    have B9 := B8.trans (b9.mono B8.size)
    have hms' : ∀ p ∈ ms, p.2.length ≤ 5000 := fun p hp => by
      have : p.2 ∈ l.map (·.2) := by rw [← hms.out]; exact List.mem_map_of_mem hp
      obtain ⟨q, hq, e⟩ := List.mem_map.mp this
      rw [← e]; exact hbig.out.2.2 q hq
    have e1 : ∀ b, (.slice (some ⟨q1, 0, none⟩) m.ops.length (m.ops.length + 1) : Value).ownBlock = some b → q1 = b := fun b hb => by simpa [Value.ownBlock] using hb
    have e2 : ∀ b, (.slice (some ⟨q2, 0, none⟩) l.length (l.length + 1) : Value).ownBlock = some b → q2 = b := fun b hb => by simpa [Value.ownBlock] using hb
    have hD2 := hD.out
    have hl5 := hbig.out.2.1
    generalize W8.alloc (.cells #[.int .i64 0, .slice none 0 0, .slice none 0 0, .slice none 0 0, .slice none 0 0, .slice none 0 0, .slice none 0 0, .slice none 0 0, .slice none 0 0, .slice none 0 0, .slice none 0 0, .slice none 0 0, .slice none 0 0] 50) = W9 at *
    refine ⟨fun w' => ∃ vO vR ER vS, BkMsgs w' W8.heap.size (0 + l.length + 2) (.slice none 0 0) [] vR ER vO ([] ++ [Ent.mk (.slice (some ⟨q1, 0, none⟩) m.ops.length (m.ops.length + 1)) (.slice none 0 0) m.ops.length (0 + 1)]) vS ([] ++ [Ent.mk (.slice (some ⟨q2, 0, none⟩) l.length (l.length + 1)) (.slice none 0 0) l.length (0 + l.length + 2)]) ∧ (∀ b, LD ER b → ∃ p ∈ ms, p.1.ownBlock = some b) ∧ Wrote (fun b => W8.heap.size ≤ b) W9 w',
      fun w' => ∃ vB vO vR ER vS, BkMsgs w' W8.heap.size (0 + l.length + 2 + 1) vB ([] ++ [Ent.mk (.slice a5 D.length c5) (.slice none 0 0) D.length (0 + l.length + 2 + 1)]) vR ER vO ([] ++ [Ent.mk (.slice (some ⟨q1, 0, none⟩) m.ops.length (m.ops.length + 1)) (.slice none 0 0) m.ops.length (0 + 1)]) vS ([] ++ [Ent.mk (.slice (some ⟨q2, 0, none⟩) l.length (l.length + 1)) (.slice none 0 0) l.length (0 + l.length + 2)]) ∧ (∀ b, LD ER b → ∃ p ∈ ms, p.1.ownBlock = some b) ∧ Wrote (fun b => W8.heap.size ≤ b) W9 w',
      fun w' => ∃ vB vO vR ER vS, BkMsgs w' W8.heap.size (0 + l.length + 2 + 1 + 1) vB ([] ++ [Ent.mk (.slice a5 D.length c5) (.slice none 0 0) D.length (0 + l.length + 2 + 1)] ++ [Ent.mk (.slice a6 D.length c6) (.slice none 0 0) D.length (0 + l.length + 2 + 1 + 1)]) vR ER vO ([] ++ [Ent.mk (.slice (some ⟨q1, 0, none⟩) m.ops.length (m.ops.length + 1)) (.slice none 0 0) m.ops.length (0 + 1)]) vS ([] ++ [Ent.mk (.slice (some ⟨q2, 0, none⟩) l.length (l.length + 1)) (.slice none 0 0) l.length (0 + l.length + 2)]) ∧ (∀ b, LD ER b → ∃ p ∈ ms, p.1.ownBlock = some b) ∧ Wrote (fun b => W8.heap.size ≤ b) W9 w', ?_, ?_⟩
    · refine bookTw T9 I0 hbig.out.1 hl5 hms' Q1.out.2.1 (by have := K2.out; have := K3.out; have := K4.out; have := K5.out; have := L7; have := Q1.out; omega) (fun p hp b hb => by have := QM.out p hp b hb; have := K2.out; have := K3.out; have := K4.out; have := K5.out; have := L7; have := Q1.out; omega) _ _ _ _
    · rintro wa ⟨vO, vR, ER, vS, Ia, ee, ha⟩
      refine ⟨?_, ?_⟩
      · refine (keepMsgsByte Ia (by omega) (own_mono (own_wrote o59 ha (fun b hb hd => by have := QA.out b hb; have := K2.out; have := K3.out; have := K4.out; have := K5.out; have := L7; have := Q1.out; omega)) (Nat.zero_le _)) (by omega) (fun b hb => ?_)).mono ?_
        · have hq := QA.out b hb
          have := K2.out; have := K3.out; have := K4.out; have := K5.out; have := L7; have := Q1.out
          refine ⟨by omega, fun h => ldP_no h, fun h => ?_, fun h => ?_, fun h => ?_⟩
          · obtain ⟨p, hp, hb'⟩ := ee b h
            have := QM.out p hp b hb'
            omega
          · have := e1 b (ldP_one h); omega
          · have := e2 b (ldP_one h); omega
        · rintro e w' ⟨rfl, v', I', hw⟩
          exact ⟨rfl, v', vO, vR, ER, vS, I', ee, ha.trans hw⟩
      · rintro wb ⟨vB, vO, vR, ER, vS, Ib, ee, hb'⟩
        refine ⟨?_, ?_⟩
        · refine (keepMsgsByte Ib (by omega) (own_mono (own_wrote o69 hb' (fun b hb hd => by have := QB.out b hb; have := K2.out; have := K3.out; have := K4.out; have := K5.out; have := L7; have := Q1.out; omega)) (Nat.zero_le _)) (by omega) (fun b hb => ?_)).mono ?_
          · have hq := QB.out b hb
            have := K2.out; have := K3.out; have := K4.out; have := K5.out; have := L7; have := Q1.out
            refine ⟨by omega, fun h => ?_, fun h => ?_, fun h => ?_, fun h => ?_⟩
            · have := QA.out b (ldP_one h); omega
            · obtain ⟨p, hp, hb'⟩ := ee b h
              have := QM.out p hp b hb'
              omega
            · have := e1 b (ldP_one h); omega
            · have := e2 b (ldP_one h); omega
          · rintro e w' ⟨rfl, v', I', hw⟩
            exact ⟨rfl, v', vO, vR, ER, vS, I', ee, hb'.trans hw⟩
        · rintro wc ⟨vB, vO, vR, ER, vS, Ic, ee, hc⟩
          have BC : Below w.heap.size w wc := B9.trans (hc.below B9.size (fun k hk hd => by have := K2.out; have := K3.out; have := K4.out; have := K5.out; have := L7; have := Q1.out; have := B8.size; omega))
          refine (apartMsgs Ic BC B8.size (fun b h => ?_) (fun b h => ?_) (fun b h => ?_) (fun b h => ?_) HT.out)
          · have := K2.out; have := K3.out; have := K4.out; have := K5.out; have := L7; have := Q1.out
            rcases ldP_two h with h | h
            · have := QA.out b h; omega
            · have := QB.out b h; omega
          · obtain ⟨p, hp, hb'⟩ := ee b h
            have := QM.out p hp b hb'
            have := K2.out; have := K3.out; have := K4.out; have := K5.out; have := L7; have := Q1.out
            omega
          · have := e1 b (ldP_one h)
            have := K2.out; have := K3.out; have := K4.out; have := K5.out; have := L7; have := Q1.out
            omega
          · have := e2 b (ldP_one h)
            have := K2.out; have := K3.out; have := K4.out; have := K5.out; have := L7; have := Q1.out
            omega
  clear QA QB QM Q1 K2 K3 K4 K5 hbig hD HEQ HSM HOM HLen HpT
  go_wp2_with fail
  refine wp_region_noPanic ?_
  refine wp_region_held_drew (S := fun W => Below W7.heap.size W7 W) (by kernel_rfl) b0 (fun hHeld => ?_)
  refine wpAnyH_take (i := 0) (oi := { dst := some 31, op := Go.Op.move (Go.Operand.tmp 4), type := 30, pos := _, after := #[], guard := none }) (v := .slice a5 D.length c5) rfl (by kernel_rfl) (by kernel_rfl) (by kernel_rfl) (fun _ _ _ h => h) (Or.inl ⟨by rfl, fun W hW => by go_simp⟩) (by assumption) ?_
  try simp only [Act.put, List.setIfInBounds_toArray, List.set_cons_zero, List.set_cons_succ]
  refine wpAnyH_take (i := 1) (oi := { dst := some 32, op := Go.Op.move (Go.Operand.tmp 8), type := 30, pos := _, after := #[], guard := none }) (v := .slice a7 D.length c7) rfl (by kernel_rfl) (by kernel_rfl) (by kernel_rfl) (fun _ _ _ h => h) (Or.inl ⟨by rfl, fun W hW => by go_simp⟩) (by assumption) ?_
  try simp only [Act.put, List.setIfInBounds_toArray, List.set_cons_zero, List.set_cons_succ]
  refine wpAnyH_ready (rs := [2]) (by kernel_rfl) (by simp) ?_
  refine AllReadyH.cons (o := { dst := some 33, op := Go.Op.call { callee := Go.Callee.value (Go.Operand.func 9), args := #[Go.Operand.tmp 31, Go.Operand.tmp 32], argTypes := #[30, 30] }, type := 4, pos := _, after := #[{ on := 0, ground := Go.Ground.data }, { on := 1, ground := Go.Ground.data }], guard := none }) rfl (fun K hK => ?_) AllReadyH.nil
  go_simp
  refine (sameBytes_any W7.drew _ _ _ _ D (in_own (BsAt.below O5.out b0)) (in_own (BsAt.below O7.out b0))).mono ?_
  rintro e va ⟨rfl, nx, hx⟩
  have bva : Below W7.drew.heap.size W7.drew va := by rw [hx]; exact below_drewN W7.drew nx
  clear hx
  have Bva := b0.trans (bva.mono b0.size)
  go_wp2_with fail
  refine hK.out _ _ Bva (fun hHeld => ?_)
  clear hK K bva
  try simp only [Act.put, List.setIfInBounds_toArray, List.set_cons_zero, List.set_cons_succ]
  refine wpAnyH_take (i := 3) (oi := { dst := some 34, op := Go.Op.unOp Go.UnOp.not 4 (Go.Operand.tmp 33), type := 4, pos := _, after := #[{ on := 2, ground := Go.Ground.data }], guard := none }) (v := .bool false) rfl (by kernel_rfl) (by kernel_rfl) (by kernel_rfl) (fun _ _ _ h => h) (Or.inl ⟨by rfl, fun W hW => by go_simp⟩) (by assumption) ?_
  try simp only [Act.put, List.setIfInBounds_toArray, List.set_cons_zero, List.set_cons_succ]
  refine wpAnyH_take (i := 4) (oi := { dst := some 35, op := Go.Op.move (Go.Operand.tmp 34), type := 4, pos := _, after := #[{ on := 3, ground := Go.Ground.data }, { on := 2, ground := Go.Ground.chain }], guard := none }) (v := .bool false) rfl (by kernel_rfl) (by kernel_rfl) (by kernel_rfl) (fun _ _ _ h => h) (Or.inl ⟨by rfl, fun W hW => by go_simp⟩) (by assumption) ?_
  try simp only [Act.put, List.setIfInBounds_toArray, List.set_cons_zero, List.set_cons_succ]
  refine wpAnyH_take (i := 5) (oi := { dst := some 36, op := Go.Op.move (Go.Operand.tmp 6), type := 30, pos := _, after := #[{ on := 4, ground := Go.Ground.guard }], guard := some (4, false) }) (v := .slice a6 D.length c6) rfl (by kernel_rfl) (by kernel_rfl) (by kernel_rfl) (fun _ _ _ h => h) (Or.inl ⟨by rfl, fun W hW => by go_simp⟩) (by assumption) ?_
  try simp only [Act.put, List.setIfInBounds_toArray, List.set_cons_zero, List.set_cons_succ]
  refine wpAnyH_take (i := 6) (oi := { dst := some 37, op := Go.Op.move (Go.Operand.tmp 8), type := 30, pos := _, after := #[{ on := 4, ground := Go.Ground.guard }], guard := some (4, false) }) (v := .slice a7 D.length c7) rfl (by kernel_rfl) (by kernel_rfl) (by kernel_rfl) (fun _ _ _ h => h) (Or.inl ⟨by rfl, fun W hW => by go_simp⟩) (by assumption) ?_
  try simp only [Act.put, List.setIfInBounds_toArray, List.set_cons_zero, List.set_cons_succ]
  refine wpAnyH_ready (rs := [7]) (by kernel_rfl) (by simp) ?_
  refine AllReadyH.cons (o := { dst := some 38, op := Go.Op.call { callee := Go.Callee.value (Go.Operand.func 9), args := #[Go.Operand.tmp 36, Go.Operand.tmp 37], argTypes := #[30, 30] }, type := 4, pos := _, after := #[{ on := 5, ground := Go.Ground.data }, { on := 6, ground := Go.Ground.data }, { on := 4, ground := Go.Ground.chain }, { on := 4, ground := Go.Ground.guard }], guard := some (4, false) }) rfl (fun K hK => ?_) AllReadyH.nil
  go_simp
  refine (sameBytes_any va _ _ _ _ D (in_own (BsAt.below O6.out Bva)) (in_own (BsAt.below O7.out Bva))).mono ?_
  rintro e vb ⟨rfl, nx, hx⟩
  have bvb : Below va.heap.size va vb := by rw [hx]; exact below_drewN va nx
  clear hx
  have Bvb := Bva.trans (bvb.mono Bva.size)
  go_wp2_with fail
  refine hK.out _ _ Bvb (fun hHeld => ?_)
  clear hK K bvb
  try simp only [Act.put, List.setIfInBounds_toArray, List.set_cons_zero, List.set_cons_succ]
  refine wpAnyH_take (i := 8) (oi := { dst := some 39, op := Go.Op.unOp Go.UnOp.not 4 (Go.Operand.tmp 38), type := 4, pos := _, after := #[{ on := 7, ground := Go.Ground.data }, { on := 4, ground := Go.Ground.guard }], guard := some (4, false) }) (v := .bool false) rfl (by kernel_rfl) (by kernel_rfl) (by kernel_rfl) (fun _ _ _ h => h) (Or.inl ⟨by rfl, fun W hW => by go_simp⟩) (by assumption) ?_
  try simp only [Act.put, List.setIfInBounds_toArray, List.set_cons_zero, List.set_cons_succ]
  refine wpAnyH_take (i := 9) (oi := { dst := some 40, op := Go.Op.pick (Go.Operand.tmp 35) (Go.Operand.const (Go.Value.bool true)) (Go.Operand.tmp 39), type := 4, pos := _, after := #[{ on := 4, ground := Go.Ground.data }, { on := 8, ground := Go.Ground.data }], guard := none }) (v := .bool false) rfl (by kernel_rfl) (by kernel_rfl) (by kernel_rfl) (fun _ _ _ h => h) (Or.inl ⟨by rfl, fun W hW => by go_simp⟩) (by assumption) ?_
  try simp only [Act.put, List.setIfInBounds_toArray, List.set_cons_zero, List.set_cons_succ]
  refine wpAnyH_take (i := 10) (oi := { dst := some 41, op := Go.Op.move (Go.Operand.tmp 40), type := 4, pos := _, after := #[{ on := 9, ground := Go.Ground.data }, { on := 7, ground := Go.Ground.chain }], guard := none }) (v := .bool false) rfl (by kernel_rfl) (by kernel_rfl) (by kernel_rfl) (fun _ _ _ h => h) (Or.inl ⟨by rfl, fun W hW => by go_simp⟩) (by assumption) ?_
  try simp only [Act.put, List.setIfInBounds_toArray, List.set_cons_zero, List.set_cons_succ]
  refine wpAnyH_take (i := 11) (oi := { dst := some 42, op := Go.Op.move (Go.Operand.tmp 5), type := 31, pos := _, after := #[{ on := 10, ground := Go.Ground.guard }], guard := some (10, false) }) (v := .int .i64 (E0 : Int)) rfl (by kernel_rfl) (by kernel_rfl) (by kernel_rfl) (fun _ _ _ h => h) (Or.inl ⟨by rfl, fun W hW => by go_simp⟩) (by assumption) ?_
  try simp only [Act.put, List.setIfInBounds_toArray, List.set_cons_zero, List.set_cons_succ]
  refine wpAnyH_take (i := 12) (oi := { dst := some 43, op := Go.Op.move (Go.Operand.tmp 9), type := 31, pos := _, after := #[{ on := 10, ground := Go.Ground.guard }], guard := some (10, false) }) (v := .int .i64 (E0 : Int)) rfl (by kernel_rfl) (by kernel_rfl) (by kernel_rfl) (fun _ _ _ h => h) (Or.inl ⟨by rfl, fun W hW => by go_simp⟩) (by assumption) ?_
  try simp only [Act.put, List.setIfInBounds_toArray, List.set_cons_zero, List.set_cons_succ]
  refine wpAnyH_take (i := 13) (oi := { dst := some 44, op := Go.Op.binOp Go.BinOp.neq 31 (Go.Operand.tmp 42) (Go.Operand.tmp 43) 31, type := 4, pos := _, after := #[{ on := 11, ground := Go.Ground.data }, { on := 12, ground := Go.Ground.data }, { on := 10, ground := Go.Ground.guard }], guard := some (10, false) }) (v := .bool false) rfl (by kernel_rfl) (by kernel_rfl) (by kernel_rfl) (fun _ _ _ h => h) (Or.inl ⟨by rfl, fun W hW => by go_simp⟩) (by assumption) ?_
  try simp only [Act.put, List.setIfInBounds_toArray, List.set_cons_zero, List.set_cons_succ]
  refine wpAnyH_take (i := 14) (oi := { dst := some 45, op := Go.Op.pick (Go.Operand.tmp 41) (Go.Operand.const (Go.Value.bool true)) (Go.Operand.tmp 44), type := 4, pos := _, after := #[{ on := 10, ground := Go.Ground.data }, { on := 13, ground := Go.Ground.data }], guard := none }) (v := .bool false) rfl (by kernel_rfl) (by kernel_rfl) (by kernel_rfl) (fun _ _ _ h => h) (Or.inl ⟨by rfl, fun W hW => by go_simp⟩) (by assumption) ?_
  try simp only [Act.put, List.setIfInBounds_toArray, List.set_cons_zero, List.set_cons_succ]
  refine wpAnyH_take (i := 15) (oi := { dst := some 46, op := Go.Op.move (Go.Operand.tmp 45), type := 4, pos := _, after := #[{ on := 14, ground := Go.Ground.data }, { on := 10, ground := Go.Ground.chain }], guard := none }) (v := .bool false) rfl (by kernel_rfl) (by kernel_rfl) (by kernel_rfl) (fun _ _ _ h => h) (Or.inl ⟨by rfl, fun W hW => by go_simp⟩) (by assumption) ?_
  try simp only [Act.put, List.setIfInBounds_toArray, List.set_cons_zero, List.set_cons_succ]
  refine wpAnyH_take (i := 16) (oi := { dst := some 47, op := Go.Op.load 27 (Go.Operand.tmp 3), type := 27, pos := _, after := #[{ on := 15, ground := Go.Ground.guard }], guard := some (15, false) }) (v := .agg #[.int .u8 (m.say.toNat : Int), .int .u8 (m.src.toNat : Int), .int .u8 (m.dst.toNat : Int), .int .u32 (m.g.toNat : Int), .slice (some ⟨q1, 0, none⟩) m.ops.length (m.ops.length + 1), .slice (some ⟨q2, 0, none⟩) l.length (l.length + 1)]) rfl (by kernel_rfl) (by kernel_rfl) (by kernel_rfl) (fun _ _ _ h => h) (Or.inl ⟨by rfl, fun W hW => by obtain ⟨t0, t1, t2, t3, t4, t5⟩ := six_cells ((hW.block _ zT).trans PT); go_simp⟩) (by assumption) ?_
  try simp only [Act.put, List.setIfInBounds_toArray, List.set_cons_zero, List.set_cons_succ]
  refine wpAnyH_take (i := 18) (oi := { dst := some 49, op := Go.Op.load 27 (Go.Operand.tmp 1), type := 27, pos := _, after := #[{ on := 15, ground := Go.Ground.guard }], guard := some (15, false) }) (v := .agg #[.int .u8 (m.say.toNat : Int), .int .u8 (m.src.toNat : Int), .int .u8 (m.dst.toNat : Int), .int .u32 (m.g.toNat : Int), .slice ao m.ops.length ca, .slice bo l.length cb]) rfl (by kernel_rfl) (by kernel_rfl) (by kernel_rfl) (fun _ _ _ h => h) (Or.inl ⟨by rfl, fun W hW => by obtain ⟨t0, t1, t2, t3, t4, t5⟩ := six_cells ((hW.block _ zX).trans PX); go_simp⟩) (by assumption) ?_
  try simp only [Act.put, List.setIfInBounds_toArray, List.set_cons_zero, List.set_cons_succ]
  refine wpAnyH_ready (rs := [17]) (by kernel_rfl) (by simp) ?_
  refine AllReadyH.cons (o := { dst := some 48, op := Go.Op.call { callee := Go.Callee.value (Go.Operand.func 10), args := #[Go.Operand.tmp 47], argTypes := #[27] }, type := 9, pos := _, after := #[{ on := 16, ground := Go.Ground.data }, { on := 15, ground := Go.Ground.chain }, { on := 15, ground := Go.Ground.guard }], guard := some (15, false) }) rfl (fun K hK => ?_) AllReadyH.nil
  go_simp
  refine (Text_any vb m.say.toNat m.src.toNat m.dst.toNat m.g.toNat (u8_lt _) (u8_lt _) (u8_lt _) (u32_lt _) (some ⟨q1, 0, none⟩) (some ⟨q2, 0, none⟩) m.ops.length (m.ops.length + 1) l.length (l.length + 1) (tab_below HT.out (B7.trans (Bvb.mono B7.size)))).mono ?_
  rintro e vt ⟨rfl, bvt⟩
  have Bvt := Bvb.trans (bvt.mono Bvb.size)
  go_wp2_with fail
  refine hK.out _ _ Bvt (fun hHeld => ?_)
  clear hK K bvt
  try simp only [Act.put, List.setIfInBounds_toArray, List.set_cons_zero, List.set_cons_succ]
  refine wpAnyH_ready (rs := [19]) (by kernel_rfl) (by simp) ?_
  refine AllReadyH.cons (o := { dst := some 50, op := Go.Op.call { callee := Go.Callee.value (Go.Operand.func 11), args := #[Go.Operand.tmp 49], argTypes := #[27] }, type := 9, pos := _, after := #[{ on := 18, ground := Go.Ground.data }, { on := 17, ground := Go.Ground.chain }, { on := 15, ground := Go.Ground.guard }], guard := some (15, false) }) rfl (fun K hK => ?_) AllReadyH.nil
  go_simp
  refine (refText_any7 vt m.say.toNat m.src.toNat m.dst.toNat m.g.toNat (u8_lt _) (u8_lt _) (u8_lt _) (u32_lt _) ao bo m.ops.length ca l.length cb).mono ?_
  rintro e vr ⟨rfl, bvr⟩
  have Bvr := Bvt.trans (bvr.mono Bvt.size)
  go_wp2_with fail
  refine hK.out _ _ Bvr (fun hHeld => ?_)
  clear hK K bvr
  try simp only [Act.put, List.setIfInBounds_toArray, List.set_cons_zero, List.set_cons_succ]
  refine wpAnyH_take (i := 20) (oi := { dst := some 51, op := Go.Op.binOp Go.BinOp.neq 9 (Go.Operand.tmp 48) (Go.Operand.tmp 50) 9, type := 4, pos := _, after := #[{ on := 17, ground := Go.Ground.data }, { on := 19, ground := Go.Ground.data }, { on := 15, ground := Go.Ground.guard }], guard := some (15, false) }) (v := .bool false) rfl (by kernel_rfl) (by kernel_rfl) (by kernel_rfl) (fun _ _ _ h => h) (Or.inl ⟨by rfl, fun W hW => by go_simp⟩) (by assumption) ?_
  try simp only [Act.put, List.setIfInBounds_toArray, List.set_cons_zero, List.set_cons_succ]
  refine wpAnyH_take (i := 21) (oi := { dst := some 52, op := Go.Op.pick (Go.Operand.tmp 46) (Go.Operand.const (Go.Value.bool true)) (Go.Operand.tmp 51), type := 4, pos := _, after := #[{ on := 15, ground := Go.Ground.data }, { on := 20, ground := Go.Ground.data }], guard := none }) (v := .bool false) rfl (by kernel_rfl) (by kernel_rfl) (by kernel_rfl) (fun _ _ _ h => h) (Or.inl ⟨by rfl, fun W hW => by go_simp⟩) (by assumption) ?_
  try simp only [Act.put, List.setIfInBounds_toArray, List.set_cons_zero, List.set_cons_succ]
  refine wpAnyH_take (i := 22) (oi := { dst := some 53, op := Go.Op.move (Go.Operand.tmp 52), type := 4, pos := _, after := #[{ on := 21, ground := Go.Ground.data }, { on := 19, ground := Go.Ground.chain }], guard := none }) (v := .bool false) rfl (by kernel_rfl) (by kernel_rfl) (by kernel_rfl) (fun _ _ _ h => h) (Or.inl ⟨by rfl, fun W hW => by go_simp⟩) (by assumption) ?_
  try simp only [Act.put, List.setIfInBounds_toArray, List.set_cons_zero, List.set_cons_succ]
  refine wpAnyH_take (i := 23) (oi := { dst := some 54, op := Go.Op.load 27 (Go.Operand.tmp 3), type := 27, pos := _, after := #[{ on := 22, ground := Go.Ground.guard }], guard := some (22, false) }) (v := .agg #[.int .u8 (m.say.toNat : Int), .int .u8 (m.src.toNat : Int), .int .u8 (m.dst.toNat : Int), .int .u32 (m.g.toNat : Int), .slice (some ⟨q1, 0, none⟩) m.ops.length (m.ops.length + 1), .slice (some ⟨q2, 0, none⟩) l.length (l.length + 1)]) rfl (by kernel_rfl) (by kernel_rfl) (by kernel_rfl) (fun _ _ _ h => h) (Or.inl ⟨by rfl, fun W hW => by obtain ⟨t0, t1, t2, t3, t4, t5⟩ := six_cells ((hW.block _ zT).trans PT); go_simp⟩) (by assumption) ?_
  try simp only [Act.put, List.setIfInBounds_toArray, List.set_cons_zero, List.set_cons_succ]
  refine wpAnyH_take (i := 24) (oi := { dst := some 55, op := Go.Op.load 27 (Go.Operand.tmp 1), type := 27, pos := _, after := #[{ on := 22, ground := Go.Ground.guard }], guard := some (22, false) }) (v := .agg #[.int .u8 (m.say.toNat : Int), .int .u8 (m.src.toNat : Int), .int .u8 (m.dst.toNat : Int), .int .u32 (m.g.toNat : Int), .slice ao m.ops.length ca, .slice bo l.length cb]) rfl (by kernel_rfl) (by kernel_rfl) (by kernel_rfl) (fun _ _ _ h => h) (Or.inl ⟨by rfl, fun W hW => by obtain ⟨t0, t1, t2, t3, t4, t5⟩ := six_cells ((hW.block _ zX).trans PX); go_simp⟩) (by assumption) ?_
  try simp only [Act.put, List.setIfInBounds_toArray, List.set_cons_zero, List.set_cons_succ]
  refine wpAnyH_ready (rs := [25]) (by kernel_rfl) (by simp) ?_
  refine AllReadyH.cons (o := { dst := some 56, op := Go.Op.call { callee := Go.Callee.value (Go.Operand.func 12), args := #[Go.Operand.tmp 54, Go.Operand.tmp 55], argTypes := #[27, 27] }, type := 4, pos := _, after := #[{ on := 23, ground := Go.Ground.data }, { on := 24, ground := Go.Ground.data }, { on := 22, ground := Go.Ground.chain }, { on := 22, ground := Go.Ground.guard }], guard := some (22, false) }) rfl (fun K hK => ?_) AllReadyH.nil
  go_simp
  have kl := leftMsg_any vr q1 q2 sb _ _ m l ms (MsgAt.up M.out Bvr) hms.out (own_below T.out.ops Bvr) (T.out.rows.below Bvr) (own_below T.out.own Bvr) ((Bvr.block _ (ltT T.out.sp)).trans T.out.sp)
  unfold msgV at kl
  refine kl.mono ?_
  rintro e vl ⟨rfl, bvl⟩
  have Bvl := Bvr.trans (bvl.mono Bvr.size)
  clear kl
  go_wp2_with fail
  refine hK.out _ _ Bvl (fun hHeld => ?_)
  clear hK K bvl
  try simp only [Act.put, List.setIfInBounds_toArray, List.set_cons_zero, List.set_cons_succ]
  refine wpAnyH_take (i := 26) (oi := { dst := some 57, op := Go.Op.unOp Go.UnOp.not 4 (Go.Operand.tmp 56), type := 4, pos := _, after := #[{ on := 25, ground := Go.Ground.data }, { on := 22, ground := Go.Ground.guard }], guard := some (22, false) }) (v := .bool false) rfl (by kernel_rfl) (by kernel_rfl) (by kernel_rfl) (fun _ _ _ h => h) (Or.inl ⟨by rfl, fun W hW => by go_simp⟩) (by assumption) ?_
  try simp only [Act.put, List.setIfInBounds_toArray, List.set_cons_zero, List.set_cons_succ]
  refine wpAnyH_take (i := 27) (oi := { dst := some 58, op := Go.Op.pick (Go.Operand.tmp 53) (Go.Operand.const (Go.Value.bool true)) (Go.Operand.tmp 57), type := 4, pos := _, after := #[{ on := 22, ground := Go.Ground.data }, { on := 26, ground := Go.Ground.data }], guard := none }) (v := .bool false) rfl (by kernel_rfl) (by kernel_rfl) (by kernel_rfl) (fun _ _ _ h => h) (Or.inl ⟨by rfl, fun W hW => by go_simp⟩) (by assumption) ?_
  try simp only [Act.put, List.setIfInBounds_toArray, List.set_cons_zero, List.set_cons_succ]
  refine wpAnyH_done (by kernel_rfl) ?_ _
  refine NoPanic.normal ?_
  clear hHeld
  have B8 := B7.trans (Bvl.mono B7.size)
  have T8 : Hid _ := T.out.below Bvl
  have O58 : Hid _ := BsAt.below O5.out Bvl
  have O68 : Hid _ := BsAt.below O6.out Bvl
  have PT8 := (Bvl.block _ zT).trans PT
  have zT8 := Nat.lt_of_lt_of_le zT Bvl.size
  have L7 : Hid (W6.heap.size ≤ vl.heap.size) := Nat.le_trans K6.out Bvl.size
  have kfin := fin vl B8 T8.out O58.out O68.out L7.out
  clear fin T O5 O6 O7 PT PX zX zT M B7 T8 O58 O68 L7 hms K6
  have b9 := below_one vl (.cells #[.int .i64 0, .slice none 0 0, .slice none 0 0, .slice none 0 0, .slice none 0 0, .slice none 0 0, .slice none 0 0, .slice none 0 0, .slice none 0 0, .slice none 0 0, .slice none 0 0, .slice none 0 0, .slice none 0 0] 50)
  have PT9 := (b9.block _ zT8).trans PT8
  obtain ⟨c0, c1, c2, c3, c4, c5⟩ := six_cells PT8
  obtain ⟨d0, d1, d2, d3, d4, d5⟩ := six_cells PT9
  obtain ⟨R1, R2, R3, kM, kfin⟩ := kfin
  go_wp2_with fail
  refine kM.mono ?_
  rintro e wa ⟨rfl, X⟩
  obtain ⟨kB1, kfin2⟩ := kfin wa X
  clear kM kfin c0 c1 c2 c3 c4 c5 d0 d1 d2 d3 d4 d5 PT8 PT9 zT8 b9 B8 X
  go_wp2_with fail
  refine kB1.mono ?_
  rintro e wb ⟨rfl, X⟩
  obtain ⟨kB2, kfin3⟩ := kfin2 wb X
  clear kB1 kfin2 X
  go_wp2_with fail
  refine kB2.mono ?_
  rintro e wc ⟨rfl, X⟩
  have kA := kfin3 wc X
  clear kB2 kfin3 X
  go_wp2_with fail
  refine kA.mono ?_
  rintro e wd ⟨rfl, bF⟩
  clear kA
  go_wp2
  go_ret
  exact ⟨rfl, bF⟩
end Go.Proofs.YtcgecdiaddcfkaaGreatDoor
