import Derived.Test.YtboinccdnaddmaaGreatDoorCkBkM
import Derived.Test.YtboinccdnaddmaaGreatDoorCkActs
import Derived.Deep.RegionLaw
/- The walk of ClocksPlay. (mk_ckplay.py) -/
set_option linter.unusedSimpArgs false
set_option linter.unusedVariables false
set_option maxRecDepth 1000000
namespace Go.Proofs.YtboinccdnaddmaaGreatDoor
open Go.RowKit Go.Maps

section
variable {S0 : Nat → Prop} {w0 w w' : World} {L : List Part} {M : Nat} {l : List (Nat × Nat)}
theorem Agree.no {now : Nat} {f : Nat → Option Nat} (h : Agree now f l) {id : Nat} (hf : f id = none) : ∀ x ∈ l, x.1 ≠ id := fun x hx e => by
  have := (h.same id (now + x.2)).2 ⟨x, hx, e, rfl⟩
  rw [hf] at this; cases this
theorem rleft_none (id : Nat) (hl : l.length ≤ 1000000) (hn : ∀ x ∈ l, x.1 ≠ id) (h : St S0 w0 w (refP M l :: L)) :
    Calls Tryz.prog 14 #[ptr M, .int .u32 (id : Int)] w fun e w' => e = .returned (.tuple #[.int .i64 0, .bool false]) ∧ w = w' := by
  refine (rleft_ok id hl h).mono ?_
  rintro e w' ⟨(⟨rfl, -⟩ | ⟨x, hx, e1, -⟩), rfl⟩
  · exact ⟨rfl, rfl⟩
  · exact absurd e1 (hn x hx)
theorem rleft_some (id : Nat) (hl : l.length ≤ 1000000) {y : Nat × Nat} (hy : y ∈ l) (he : y.1 = id) (hu : ∀ z ∈ l, z.1 = id → z = y) (h : St S0 w0 w (refP M l :: L)) :
    Calls Tryz.prog 14 #[ptr M, .int .u32 (id : Int)] w fun e w' => e = .returned (.tuple #[.int .i64 (y.2 : Int), .bool true]) ∧ w = w' := by
  refine (rleft_ok id hl h).mono ?_
  rintro e w' ⟨(⟨rfl, hn⟩ | ⟨x, hx, e1, rfl⟩), rfl⟩
  · exact absurd he (hn y hy)
  · rw [hu x hx e1]; exact ⟨rfl, rfl⟩
end
theorem ldI (b o : Nat) (v : Int) (W : World) (h : W.cell? ⟨b, o, none⟩ = some (.int .i64 v)) : (Instr.loadAt 3 (.pointer (some ⟨b, o, none⟩))).run Tryz.prog W = .ok (.int .i64 v) W := by go_simp
theorem ldU (b o : Nat) (v : Int) (W : World) (h : W.cell? ⟨b, o, none⟩ = some (.int .u32 v)) : (Instr.loadAt 43 (.pointer (some ⟨b, o, none⟩))).run Tryz.prog W = .ok (.int .u32 v) W := by go_simp
set_option maxHeartbeats 4000000 in
theorem play_walk (w : World) (va : Value) (acts : List ActC) (ha : ActsAt w va acts) :
    Calls Tryz.prog 3 #[va] w fun e w' => e = .returned (.bool true) ∧ Below w.heap.size w w' := by
  obtain ⟨ao, cap, rfl, h1, h2, h3⟩ := ha.sl
  unfold maxLen at h2
  have HOK : Hid (∀ a ∈ acts, a.kind < 256 ∧ a.id < 4294967296) := fun a h => ⟨(ha.ok a h).kind, (ha.ok a h).id⟩
  clear ha
  by_cases h300 : 300 < acts.length
  · have hz : (300 : Int) < (acts.length : Int) := by omega
    clear h3
    go_enter Tryz.func3, Tryz.ntmps3
    go_wp2
    go_ret
    exact ⟨rfl, Below.refl _ _⟩
  · have hz : ¬ (300 : Int) < (acts.length : Int) := by omega
    obtain ⟨N, hN⟩ : ∃ N, N = acts.length := ⟨_, rfl⟩
    have HN : Hid (N = acts.length) := hN
    have HA : Hid (∀ i a, acts[i]? = some a → ∃ b off, ao = some ⟨b, off, none⟩ ∧ ∀ W, Below w.heap.size w W → W.cell? ⟨b, off + i * 3, none⟩ = some (.int .u8 (a.kind : Int)) ∧ W.cell? ⟨b, off + i * 3 + 1, none⟩ = some (.int .u32 (a.id : Int)) ∧ W.cell? ⟨b, off + i * 3 + 2, none⟩ = some (.int .i64 a.ticks)) := fun i a hi => by
      obtain ⟨hlt, he⟩ := List.getElem?_eq_some_iff.1 hi
      obtain ⟨b, off, e, hb, hc⟩ := h3 (by omega)
      subst he
      exact ⟨b, off, e, fun W hW => ⟨(hW.cell (p := ⟨b, _, none⟩) hb).trans (hc i hlt 0 _ rfl), (hW.cell (p := ⟨b, _, none⟩) hb).trans (hc i hlt 1 _ rfl), (hW.cell (p := ⟨b, _, none⟩) hb).trans (hc i hlt 2 _ rfl)⟩⟩
    rw [← hN] at h1 hz h300 ⊢
    clear h3 hN
    have kn := New_ok w
    go_enter Tryz.func3, Tryz.ntmps3
    go_wp2_with fail
    refine kn.mono ?_
    rintro e w1 ⟨rfl, s1⟩
    clear kn
    obtain ⟨C, hC⟩ : ∃ C, C = w.heap.size + 3 := ⟨_, rfl⟩
    rw [← hC] at s1 ⊢
    clear hC
    have s2 := (s1.alloc (refO (.slice none 0 0))).fresh_row 69 2
    have s3 : St noB w (w1.alloc (refO (.slice none 0 0))) (refP w1.heap.size [] :: [clkP C 0 noneD 0]) := ref_shut (l := []) s2.swap
    have s4 := bk_new s3
    obtain ⟨M, hM⟩ : ∃ M, M = w1.heap.size := ⟨_, rfl⟩
    have hbk : (w1.alloc (refO (.slice none 0 0))).heap.size = M + 1 := by rw [hM]; simp
    rw [hbk, ← hM] at s4
    have S4 : Hid (St noB w ((w1.alloc (refO (.slice none 0 0))).alloc (.cells #[.int .i64 0, .slice none 0 0, .slice none 0 0, .slice none 0 0, .slice none 0 0, .slice none 0 0, .slice none 0 0, .slice none 0 0, .slice none 0 0, .slice none 0 0, .slice none 0 0, .slice none 0 0, .slice none 0 0] 42)) [bkP (M + 1) 0, clkP C 0 noneD 0, refP M []]) := s4.rt (K := [_, _, _]) 3 [0, 2, 1] (by decide)
    have HM : Hid (w1.heap.size = M) := hM.symm
    clear s1 s2 s3 s4 hbk hM
    go_wp2
    rw [HM.out]
    obtain ⟨bk, hbk⟩ : ∃ bk, bk = M + 1 := ⟨_, rfl⟩
    rw [← hbk] at S4 ⊢
    clear hbk HM
    go_loopw [6] (fun v W => ∃ (i now n nb : Nat) (f : Nat → Option Nat) (l : List (Nat × Nat)), v = .int .i64 i ∧ i ≤ N ∧ Agree now f l ∧ now ≤ i ∧ n ≤ i ∧ nb ≤ i ∧ l.length ≤ i ∧ St noB w W [bkP bk nb, clkP C now f n, refP M l]) (fun v _ => N - (intOf v).toNat)
    case atStart => exact ⟨0, 0, 0, 0, noneD, [], rfl, Nat.zero_le _, Agree.start, Nat.le_refl _, Nat.le_refl _, Nat.le_refl _, Nat.le_refl _, S4.out⟩
    case round =>
      obtain ⟨i, now, n, nb, f, l, rfl, hi, hag, b1, b2, b3, b4, s⟩ := hrel
      clear S4
      by_cases hiN : i < N
      · obtain ⟨a, hga⟩ : ∃ a, acts[i]? = some a := ⟨_, List.getElem?_eq_getElem (by rw [← HN.out]; exact hiN)⟩
        obtain ⟨b, off, rfl, hc⟩ := HA.out i a hga
        obtain ⟨c0, c1, c2⟩ := hc wr s.below
        obtain ⟨hkd, hid⟩ := HOK.out a (List.mem_of_getElem? hga)
        obtain ⟨kd, hkd0⟩ : ∃ kd, kd = a.kind := ⟨_, rfl⟩
        obtain ⟨id, hid0⟩ : ∃ id, id = a.id := ⟨_, rfl⟩
        obtain ⟨tk, htk0⟩ : ∃ tk, tk = a.ticks := ⟨_, rfl⟩
        rw [← hkd0] at c0 hkd
        rw [← hid0] at c1 hid
        rw [← htk0] at c2
        have AG0 : Hid (Agree now f l) := hag
        have BD0 : Hid (now ≤ i ∧ n ≤ i ∧ nb ≤ i ∧ l.length ≤ i ∧ i < 300) := by show _ ∧ _; omega
        obtain ⟨wv, hwv⟩ : ∃ wv, wv = wr.alloc (.cells #[.int .u8 (kd : Int), .int .u32 (id : Int), .int .i64 tk] 45) := ⟨_, rfl⟩
        obtain ⟨X, hX⟩ : ∃ X, X = wr.heap.size := ⟨_, rfl⟩
        have HW : Hid (wr.alloc (.cells #[.int .u8 (kd : Int), .int .u32 (id : Int), .int .i64 tk] 45) = wv ∧ wr.heap.size = X) := ⟨hwv.symm, hX.symm⟩
        have Q0 : Hid (St noB w wv [Part.blk X (.cells #[.int .u8 (kd : Int), .int .u32 (id : Int), .int .i64 tk] 45), bkP bk nb, clkP C now f n, refP M l]) := by rw [hwv, hX]; exact s.alloc _
        have HX : Hid (∀ W Q, St noB w W (Part.blk X (.cells #[.int .u8 (kd : Int), .int .u32 (id : Int), .int .i64 tk] 45) :: Q) → W.cell? ⟨X, 0, none⟩ = some (.int .u8 (kd : Int)) ∧ W.cell? ⟨X, 1, none⟩ = some (.int .u32 (id : Int)) ∧ W.cell? ⟨X, 2, none⟩ = some (.int .i64 tk)) := fun W Q R => by
          have := R.blk.1
          exact ⟨by simp [World.cell?, this], by simp [World.cell?, this], by simp [World.cell?, this]⟩
        have hkr : kd % 6 < 6 := Nat.mod_lt _ (by omega)
        obtain ⟨r, hr⟩ : ∃ r, r = kd % 6 := ⟨_, rfl⟩
        have HR6 : (kd : Int) % 6 = (r : Int) := by omega
        rw [← hr] at hkr
        clear s hc hga hkd0 hid0 htk0 hag b1 b2 b3 b4 hwv hX hr HA HOK
        by_cases r0 : r = 0
        · subst r0
          go_wp2
          rw [HW.out.1, HW.out.2]
          clear HW c0 c1 c2

          by_cases hbad : tk < 1 ∨ 1073741824 < tk
          · have hgood := trivial
            obtain ⟨wd, hwd⟩ : ∃ wd, wd = wv.drew := ⟨_, rfl⟩
            have QD : Hid (St noB w wd [Part.blk X (.cells #[.int .u8 (kd : Int), .int .u32 (id : Int), .int .i64 tk] 45), bkP bk nb, clkP C now f n, refP M l]) := by rw [hwd]; exact Q0.out.drew
            have kb1 := Set_bad (id : Int) tk hbad (QD.out.rt (K := [_, _, _, _]) 4 [2, 0, 1, 3] (by decide))
            have kb2 := rset_bad (M := M) (.int .i64 0) (id : Int) tk hbad wd
            clear hbad hgood Q0
            have S3 : wd.cell? ⟨X, 1, none⟩ = some (.int .u32 (id : Int)) ∧ wd.cell? ⟨X, 2, none⟩ = some (.int .i64 tk) := (HX.out wd _ QD.out).2
            refine wp_region_noPanic ?_
            refine wp_region_held_drew (S := fun W => W.cell? ⟨X, 1, none⟩ = some (.int .u32 (id : Int)) ∧ W.cell? ⟨X, 2, none⟩ = some (.int .i64 tk)) (by kernel_rfl) (by rw [← hwd]; exact S3) (fun hHeld => ?_)
            rw [← hwd] at hHeld ⊢
            clear hwd
            refine wpAnyH_take (i := 0) (oi := { dst := some 47, op := Op.move (Operand.tmp 3), type := 23, pos := _, after := #[], guard := none }) (v := .pointer (some ⟨C, 0, none⟩)) rfl (by kernel_rfl) (by kernel_rfl) (by kernel_rfl) (fun _ _ _ h => h) (Or.inl ⟨by rfl, fun W hW => by go_simp⟩) (by assumption) ?_
            try simp only [Act.put, List.setIfInBounds_toArray, List.set_cons_zero, List.set_cons_succ]
            refine wpAnyH_take (i := 1) (oi := { dst := some 48, op := Op.fieldAddr 45 (Operand.tmp 7) 1, type := 0, pos := _, after := #[], guard := none }) (v := .pointer (some ⟨X, 1, none⟩)) rfl (by kernel_rfl) (by kernel_rfl) (by kernel_rfl) (fun _ _ _ h => h) (Or.inl ⟨by rfl, fun W hW => by go_simp⟩) (by assumption) ?_
            try simp only [Act.put, List.setIfInBounds_toArray, List.set_cons_zero, List.set_cons_succ]
            refine wpAnyH_take (i := 2) (oi := { dst := some 49, op := Op.load 43 (Operand.tmp 48), type := 43, pos := _, after := #[{ on := 1, ground := Ground.data }], guard := none }) (v := .int .u32 (id : Int)) rfl (by kernel_rfl) (by kernel_rfl) (by kernel_rfl) (fun _ _ _ h => h) (yieldsIf_load (by rfl) 43 (.tmp 48) rfl _ _ rfl (fun W hW => ldU _ _ _ W hW.1)) (by assumption) ?_
            try simp only [Act.put, List.setIfInBounds_toArray, List.set_cons_zero, List.set_cons_succ]
            refine wpAnyH_take (i := 3) (oi := { dst := some 50, op := Op.fieldAddr 45 (Operand.tmp 7) 2, type := 0, pos := _, after := #[], guard := none }) (v := .pointer (some ⟨X, 2, none⟩)) rfl (by kernel_rfl) (by kernel_rfl) (by kernel_rfl) (fun _ _ _ h => h) (Or.inl ⟨by rfl, fun W hW => by go_simp⟩) (by assumption) ?_
            try simp only [Act.put, List.setIfInBounds_toArray, List.set_cons_zero, List.set_cons_succ]
            refine wpAnyH_take (i := 4) (oi := { dst := some 51, op := Op.load 3 (Operand.tmp 50), type := 3, pos := _, after := #[{ on := 3, ground := Ground.data }], guard := none }) (v := .int .i64 tk) rfl (by kernel_rfl) (by kernel_rfl) (by kernel_rfl) (fun _ _ _ h => h) (yieldsIf_load (by rfl) 3 (.tmp 50) rfl _ _ rfl (fun W hW => ldI _ _ _ W hW.2)) (by assumption) ?_
            try simp only [Act.put, List.setIfInBounds_toArray, List.set_cons_zero, List.set_cons_succ]
            refine wpAnyH_take (i := 6) (oi := { dst := some 53, op := Op.move (Operand.tmp 4), type := 25, pos := _, after := #[], guard := none }) (v := .pointer (some ⟨M, 0, none⟩)) rfl (by kernel_rfl) (by kernel_rfl) (by kernel_rfl) (fun _ _ _ h => h) (Or.inl ⟨by rfl, fun W hW => by go_simp⟩) (by assumption) ?_
            try simp only [Act.put, List.setIfInBounds_toArray, List.set_cons_zero, List.set_cons_succ]
            refine wpAnyH_take (i := 7) (oi := { dst := some 54, op := Op.fieldAddr 45 (Operand.tmp 7) 1, type := 0, pos := _, after := #[], guard := none }) (v := .pointer (some ⟨X, 1, none⟩)) rfl (by kernel_rfl) (by kernel_rfl) (by kernel_rfl) (fun _ _ _ h => h) (Or.inl ⟨by rfl, fun W hW => by go_simp⟩) (by assumption) ?_
            try simp only [Act.put, List.setIfInBounds_toArray, List.set_cons_zero, List.set_cons_succ]
            refine wpAnyH_take (i := 8) (oi := { dst := some 55, op := Op.load 43 (Operand.tmp 54), type := 43, pos := _, after := #[{ on := 7, ground := Ground.data }], guard := none }) (v := .int .u32 (id : Int)) rfl (by kernel_rfl) (by kernel_rfl) (by kernel_rfl) (fun _ _ _ h => h) (yieldsIf_load (by rfl) 43 (.tmp 54) rfl _ _ rfl (fun W hW => ldU _ _ _ W hW.1)) (by assumption) ?_
            try simp only [Act.put, List.setIfInBounds_toArray, List.set_cons_zero, List.set_cons_succ]
            refine wpAnyH_take (i := 9) (oi := { dst := some 56, op := Op.fieldAddr 45 (Operand.tmp 7) 2, type := 0, pos := _, after := #[], guard := none }) (v := .pointer (some ⟨X, 2, none⟩)) rfl (by kernel_rfl) (by kernel_rfl) (by kernel_rfl) (fun _ _ _ h => h) (Or.inl ⟨by rfl, fun W hW => by go_simp⟩) (by assumption) ?_
            try simp only [Act.put, List.setIfInBounds_toArray, List.set_cons_zero, List.set_cons_succ]
            refine wpAnyH_take (i := 10) (oi := { dst := some 57, op := Op.load 3 (Operand.tmp 56), type := 3, pos := _, after := #[{ on := 9, ground := Ground.data }], guard := none }) (v := .int .i64 tk) rfl (by kernel_rfl) (by kernel_rfl) (by kernel_rfl) (fun _ _ _ h => h) (yieldsIf_load (by rfl) 3 (.tmp 56) rfl _ _ rfl (fun W hW => ldI _ _ _ W hW.2)) (by assumption) ?_
            try simp only [Act.put, List.setIfInBounds_toArray, List.set_cons_zero, List.set_cons_succ]
            refine wpAnyH_ready (rs := [5]) (by kernel_rfl) (by simp) ?_
            refine AllReadyH.cons (o := { dst := some 52, op := Op.call { callee := Callee.value (Operand.func 5), args := #[Operand.tmp 47, Operand.tmp 49, Operand.tmp 51], argTypes := #[23, 43, 3] }, type := 46, pos := _, after := #[{ on := 0, ground := Ground.data }, { on := 2, ground := Ground.data }, { on := 4, ground := Ground.data }], guard := none }) rfl (fun K hK => ?_) AllReadyH.nil
            go_simp
            refine kb1.mono ?_
            rintro e w5 ⟨rfl, ew⟩
            rw [← ew]
            clear ew w5
            go_wp2_with fail
            refine hK.out _ _ S3 (fun hHeld => ?_)
            clear hK K
            try simp only [Act.put, List.setIfInBounds_toArray, List.set_cons_zero, List.set_cons_succ]
            refine wpAnyH_ready (rs := [11]) (by kernel_rfl) (by simp) ?_
            refine AllReadyH.cons (o := { dst := some 58, op := Op.call { callee := Callee.value (Operand.func 6), args := #[Operand.tmp 53, Operand.tmp 55, Operand.tmp 57], argTypes := #[25, 43, 3] }, type := 46, pos := _, after := #[{ on := 6, ground := Ground.data }, { on := 8, ground := Ground.data }, { on := 10, ground := Ground.data }, { on := 5, ground := Ground.chain }], guard := none }) rfl (fun K hK => ?_) AllReadyH.nil
            go_simp
            refine kb2.mono ?_
            rintro e w5 ⟨rfl, ew⟩
            rw [← ew]
            clear ew w5
            go_wp2_with fail
            refine hK.out _ _ S3 (fun hHeld => ?_)
            clear hK K
            try simp only [Act.put, List.setIfInBounds_toArray, List.set_cons_zero, List.set_cons_succ]
            refine wpAnyH_take (i := 12) (oi := { dst := some 59, op := Op.binOp BinOp.neq 46 (Operand.tmp 52) (Operand.tmp 58) 46, type := 4, pos := _, after := #[{ on := 5, ground := Ground.data }, { on := 11, ground := Ground.data }], guard := none }) (v := .bool false) rfl (by kernel_rfl) (by kernel_rfl) (by kernel_rfl) (fun _ _ _ h => h) (Or.inl ⟨by rfl, fun W hW => by go_simp⟩) (by assumption) ?_
            try simp only [Act.put, List.setIfInBounds_toArray, List.set_cons_zero, List.set_cons_succ]
            refine wpAnyH_done (by kernel_rfl) ?_ _
            refine NoPanic.normal ?_
            clear hHeld
            have S : Hid (St noB w wd [Part.blk X (.cells #[.int .u8 (kd : Int), .int .u32 (id : Int), .int .i64 tk] 45), bkP bk nb, clkP C now f n, refP M l]) := QD.out
            have AG : Hid (Agree now f l) := AG0.out
            have BD : Hid (now ≤ i + 1 ∧ n ≤ i + 1 ∧ nb ≤ i + 1 ∧ l.length ≤ i + 1 ∧ i < 300) := by have := BD0.out; show _ ∧ _; omega
            clear QD AG0 BD0 S3 kb1 kb2
            obtain ⟨x1, x2, x3⟩ := HX.out wd _ S.out
            have bd := BD.out
            cases hf : f id with
            | none =>
              have kl := Left_none id hid hf (S.out.rt (K := [_, _, _, _]) 4 [2, 0, 1, 3] (by decide))
              have km := rleft_none id (by omega) (AG.out.no hf) (S.out.rt (K := [_, _, _, _]) 4 [3, 0, 1, 2] (by decide))
              clear hf bd
              go_wp2_with fail
              refine kl.mono ?_
              rintro e wz ⟨rfl, ew⟩
              rw [← ew]
              clear ew wz kl
              go_wp2_with fail
              refine km.mono ?_
              rintro e wz ⟨rfl, ew⟩
              rw [← ew]
              clear ew wz km
              have FIN : Hid (St noB w wd [bkP bk nb, clkP C now f n, refP M l]) := S.out.drop
              clear S
              go_wp2
              go_roundw
              case rel => exact ⟨i + 1, now, n, nb, f, l, by go_num, by omega, AG.out, by have := BD.out; omega, by have := BD.out; omega, by have := BD.out; omega, by have := BD.out; omega, FIN.out⟩
              case measure => (simp [intOf]; try omega)
            | some t =>
              obtain ⟨y, hy, hy1, hy2⟩ := (AG.out.same id t).1 hf
              have kl := Left_some id t hid hf (by omega) (by have := AG.out.ok y hy; omega) (S.out.rt (K := [_, _, _, _]) 4 [2, 0, 1, 3] (by decide))
              rw [show (t : Int) - ((now : Nat) : Int) = (y.2 : Int) by omega] at kl
              have km := rleft_some id (by omega) hy hy1 (fun z hz hz1 => AG.out.uniq hz hy (hz1.trans hy1.symm)) (S.out.rt (K := [_, _, _, _]) 4 [3, 0, 1, 2] (by decide))
              obtain ⟨yv, hyv⟩ : ∃ yv, yv = y.2 := ⟨_, rfl⟩
              rw [← hyv] at kl km
              clear hf hy hy1 hy2 hyv bd
              go_wp2_with fail
              refine kl.mono ?_
              rintro e wz ⟨rfl, ew⟩
              rw [← ew]
              clear ew wz kl
              go_wp2_with fail
              refine km.mono ?_
              rintro e wz ⟨rfl, ew⟩
              rw [← ew]
              clear ew wz km
              have FIN : Hid (St noB w wd [bkP bk nb, clkP C now f n, refP M l]) := S.out.drop
              clear S
              go_wp2
              go_roundw
              case rel => exact ⟨i + 1, now, n, nb, f, l, by go_num, by omega, AG.out, by have := BD.out; omega, by have := BD.out; omega, by have := BD.out; omega, by have := BD.out; omega, FIN.out⟩
              case measure => (simp [intOf]; try omega)
          · have hgood := trivial
            obtain ⟨wd, hwd⟩ : ∃ wd, wd = wv.drew := ⟨_, rfl⟩
            have QD : Hid (St noB w wd [Part.blk X (.cells #[.int .u8 (kd : Int), .int .u32 (id : Int), .int .i64 tk] 45), bkP bk nb, clkP C now f n, refP M l]) := by rw [hwd]; exact Q0.out.drew
            obtain ⟨tn, rfl⟩ : ∃ tn : Nat, tk = (tn : Int) := ⟨tk.toNat, by omega⟩
            have t1 : 1 ≤ tn := by omega
            have t2 : tn ≤ 1073741824 := by omega
            have bd := BD0.out
            have k1 := Set_ok id tn hid t1 t2 (by omega) (by omega) (AG0.out.near (by omega)) (QD.out.rt (K := [_, _, _, _]) 4 [2, 0, 1, 3] (by decide))
            have HR : Hid (∀ W, St noB w W (clkP C now (updF f id (some (now + tn))) (n + 1) :: Part.blk X (.cells #[.int .u8 (kd : Int), .int .u32 (id : Int), .int .i64 (tn : Int)] 45) :: bkP bk nb :: refP M l :: []) → (W.cell? ⟨X, 1, none⟩ = some (.int .u32 (id : Int)) ∧ W.cell? ⟨X, 2, none⟩ = some (.int .i64 (tn : Int))) ∧
                Calls Tryz.prog 6 #[.pointer (some ⟨M, 0, none⟩), .int .u32 (id : Int), .int .i64 (tn : Int)] W fun e w' => RSet noB w [Part.blk X (.cells #[.int .u8 (kd : Int), .int .u32 (id : Int), .int .i64 (tn : Int)] 45), bkP bk nb, clkP C now (updF f id (some (now + tn))) (n + 1)] M l id tn e w') := fun W R => by
              have R2 := R.rt (K := [_, _, _, _]) 4 [1, 2, 0, 3] (by decide)
              exact ⟨(HX.out W _ R2).2, rset_ok id tn t1 t2 (by omega) (R2.rt (K := [_, _, _, _]) 4 [3, 0, 1, 2] (by decide))⟩
            clear hbad hgood Q0 bd
            have S3 : wd.cell? ⟨X, 1, none⟩ = some (.int .u32 (id : Int)) ∧ wd.cell? ⟨X, 2, none⟩ = some (.int .i64 (tn : Int)) := (HX.out wd _ QD.out).2
            refine wp_region_noPanic ?_
            refine wp_region_held_drew (S := fun W => W.cell? ⟨X, 1, none⟩ = some (.int .u32 (id : Int)) ∧ W.cell? ⟨X, 2, none⟩ = some (.int .i64 (tn : Int))) (by kernel_rfl) (by rw [← hwd]; exact S3) (fun hHeld => ?_)
            rw [← hwd] at hHeld ⊢
            clear hwd
            refine wpAnyH_take (i := 0) (oi := { dst := some 47, op := Op.move (Operand.tmp 3), type := 23, pos := _, after := #[], guard := none }) (v := .pointer (some ⟨C, 0, none⟩)) rfl (by kernel_rfl) (by kernel_rfl) (by kernel_rfl) (fun _ _ _ h => h) (Or.inl ⟨by rfl, fun W hW => by go_simp⟩) (by assumption) ?_
            try simp only [Act.put, List.setIfInBounds_toArray, List.set_cons_zero, List.set_cons_succ]
            refine wpAnyH_take (i := 1) (oi := { dst := some 48, op := Op.fieldAddr 45 (Operand.tmp 7) 1, type := 0, pos := _, after := #[], guard := none }) (v := .pointer (some ⟨X, 1, none⟩)) rfl (by kernel_rfl) (by kernel_rfl) (by kernel_rfl) (fun _ _ _ h => h) (Or.inl ⟨by rfl, fun W hW => by go_simp⟩) (by assumption) ?_
            try simp only [Act.put, List.setIfInBounds_toArray, List.set_cons_zero, List.set_cons_succ]
            refine wpAnyH_take (i := 2) (oi := { dst := some 49, op := Op.load 43 (Operand.tmp 48), type := 43, pos := _, after := #[{ on := 1, ground := Ground.data }], guard := none }) (v := .int .u32 (id : Int)) rfl (by kernel_rfl) (by kernel_rfl) (by kernel_rfl) (fun _ _ _ h => h) (yieldsIf_load (by rfl) 43 (.tmp 48) rfl _ _ rfl (fun W hW => ldU _ _ _ W hW.1)) (by assumption) ?_
            try simp only [Act.put, List.setIfInBounds_toArray, List.set_cons_zero, List.set_cons_succ]
            refine wpAnyH_take (i := 3) (oi := { dst := some 50, op := Op.fieldAddr 45 (Operand.tmp 7) 2, type := 0, pos := _, after := #[], guard := none }) (v := .pointer (some ⟨X, 2, none⟩)) rfl (by kernel_rfl) (by kernel_rfl) (by kernel_rfl) (fun _ _ _ h => h) (Or.inl ⟨by rfl, fun W hW => by go_simp⟩) (by assumption) ?_
            try simp only [Act.put, List.setIfInBounds_toArray, List.set_cons_zero, List.set_cons_succ]
            refine wpAnyH_take (i := 4) (oi := { dst := some 51, op := Op.load 3 (Operand.tmp 50), type := 3, pos := _, after := #[{ on := 3, ground := Ground.data }], guard := none }) (v := .int .i64 (tn : Int)) rfl (by kernel_rfl) (by kernel_rfl) (by kernel_rfl) (fun _ _ _ h => h) (yieldsIf_load (by rfl) 3 (.tmp 50) rfl _ _ rfl (fun W hW => ldI _ _ _ W hW.2)) (by assumption) ?_
            try simp only [Act.put, List.setIfInBounds_toArray, List.set_cons_zero, List.set_cons_succ]
            refine wpAnyH_take (i := 6) (oi := { dst := some 53, op := Op.move (Operand.tmp 4), type := 25, pos := _, after := #[], guard := none }) (v := .pointer (some ⟨M, 0, none⟩)) rfl (by kernel_rfl) (by kernel_rfl) (by kernel_rfl) (fun _ _ _ h => h) (Or.inl ⟨by rfl, fun W hW => by go_simp⟩) (by assumption) ?_
            try simp only [Act.put, List.setIfInBounds_toArray, List.set_cons_zero, List.set_cons_succ]
            refine wpAnyH_take (i := 7) (oi := { dst := some 54, op := Op.fieldAddr 45 (Operand.tmp 7) 1, type := 0, pos := _, after := #[], guard := none }) (v := .pointer (some ⟨X, 1, none⟩)) rfl (by kernel_rfl) (by kernel_rfl) (by kernel_rfl) (fun _ _ _ h => h) (Or.inl ⟨by rfl, fun W hW => by go_simp⟩) (by assumption) ?_
            try simp only [Act.put, List.setIfInBounds_toArray, List.set_cons_zero, List.set_cons_succ]
            refine wpAnyH_take (i := 8) (oi := { dst := some 55, op := Op.load 43 (Operand.tmp 54), type := 43, pos := _, after := #[{ on := 7, ground := Ground.data }], guard := none }) (v := .int .u32 (id : Int)) rfl (by kernel_rfl) (by kernel_rfl) (by kernel_rfl) (fun _ _ _ h => h) (yieldsIf_load (by rfl) 43 (.tmp 54) rfl _ _ rfl (fun W hW => ldU _ _ _ W hW.1)) (by assumption) ?_
            try simp only [Act.put, List.setIfInBounds_toArray, List.set_cons_zero, List.set_cons_succ]
            refine wpAnyH_take (i := 9) (oi := { dst := some 56, op := Op.fieldAddr 45 (Operand.tmp 7) 2, type := 0, pos := _, after := #[], guard := none }) (v := .pointer (some ⟨X, 2, none⟩)) rfl (by kernel_rfl) (by kernel_rfl) (by kernel_rfl) (fun _ _ _ h => h) (Or.inl ⟨by rfl, fun W hW => by go_simp⟩) (by assumption) ?_
            try simp only [Act.put, List.setIfInBounds_toArray, List.set_cons_zero, List.set_cons_succ]
            refine wpAnyH_take (i := 10) (oi := { dst := some 57, op := Op.load 3 (Operand.tmp 56), type := 3, pos := _, after := #[{ on := 9, ground := Ground.data }], guard := none }) (v := .int .i64 (tn : Int)) rfl (by kernel_rfl) (by kernel_rfl) (by kernel_rfl) (fun _ _ _ h => h) (yieldsIf_load (by rfl) 3 (.tmp 56) rfl _ _ rfl (fun W hW => ldI _ _ _ W hW.2)) (by assumption) ?_
            try simp only [Act.put, List.setIfInBounds_toArray, List.set_cons_zero, List.set_cons_succ]
            refine wpAnyH_ready (rs := [5]) (by kernel_rfl) (by simp) ?_
            refine AllReadyH.cons (o := { dst := some 52, op := Op.call { callee := Callee.value (Operand.func 5), args := #[Operand.tmp 47, Operand.tmp 49, Operand.tmp 51], argTypes := #[23, 43, 3] }, type := 46, pos := _, after := #[{ on := 0, ground := Ground.data }, { on := 2, ground := Ground.data }, { on := 4, ground := Ground.data }], guard := none }) rfl (fun K hK => ?_) AllReadyH.nil
            go_simp
            refine k1.mono ?_
            rintro e w5 ⟨rfl, s5⟩
            have K2 := HR.out w5 s5
            obtain ⟨S5, K2⟩ := K2
            clear s5 k1
            go_wp2_with fail
            refine hK.out _ _ S5 (fun hHeld => ?_)
            clear hK K
            try simp only [Act.put, List.setIfInBounds_toArray, List.set_cons_zero, List.set_cons_succ]
            refine wpAnyH_ready (rs := [11]) (by kernel_rfl) (by simp) ?_
            refine AllReadyH.cons (o := { dst := some 58, op := Op.call { callee := Callee.value (Operand.func 6), args := #[Operand.tmp 53, Operand.tmp 55, Operand.tmp 57], argTypes := #[25, 43, 3] }, type := 46, pos := _, after := #[{ on := 6, ground := Ground.data }, { on := 8, ground := Ground.data }, { on := 10, ground := Ground.data }, { on := 5, ground := Ground.chain }], guard := none }) rfl (fun K hK => ?_) AllReadyH.nil
            go_simp
            refine K2.mono ?_
            rintro e w6 ⟨rfl, R6⟩
            obtain ⟨l', k, hd, ha, hb, hk, s6⟩ := R6
            have S6 := (HX.out w6 _ (s6.rt (K := [_, _, _, _]) 4 [1, 2, 3, 0] (by decide))).2
            go_wp2_with fail
            refine hK.out _ _ S6 (fun hHeld => ?_)
            clear hK K
            try simp only [Act.put, List.setIfInBounds_toArray, List.set_cons_zero, List.set_cons_succ]
            refine wpAnyH_take (i := 12) (oi := { dst := some 59, op := Op.binOp BinOp.neq 46 (Operand.tmp 52) (Operand.tmp 58) 46, type := 4, pos := _, after := #[{ on := 5, ground := Ground.data }, { on := 11, ground := Ground.data }], guard := none }) (v := .bool false) rfl (by kernel_rfl) (by kernel_rfl) (by kernel_rfl) (fun _ _ _ h => h) (Or.inl ⟨by rfl, fun W hW => by go_simp⟩) (by assumption) ?_
            try simp only [Act.put, List.setIfInBounds_toArray, List.set_cons_zero, List.set_cons_succ]
            refine wpAnyH_done (by kernel_rfl) ?_ _
            refine NoPanic.normal ?_
            clear hHeld
            have hag := AG0.out.del hd
            have AG : Hid (Agree now (updF f id (some (now + tn))) (l'.take k ++ [(id, tn)] ++ l'.drop k)) := by
              have := hag.1.put hid t1 t2 hag.2 ha hb hk
              rw [updF_updF] at this
              exact this
            have BD : Hid (now ≤ i + 1 ∧ n + 1 ≤ i + 1 ∧ nb ≤ i + 1 ∧ (l'.take k ++ [(id, tn)] ++ l'.drop k).length ≤ i + 1 ∧ i < 300) := by
              have := BD0.out
              have h2 := hd.len
              show _ ∧ _
              simp only [List.length_append, List.length_take, List.length_drop, List.length_cons, List.length_nil]
              omega
            obtain ⟨l2, hl2⟩ : ∃ l2, l2 = l'.take k ++ [(id, tn)] ++ l'.drop k := ⟨_, rfl⟩
            rw [← hl2] at AG BD s6
            obtain ⟨f2, hf2⟩ : ∃ f2, f2 = updF f id (some (now + tn)) := ⟨_, rfl⟩
            rw [← hf2] at AG s6
            obtain ⟨n2, hn2⟩ : ∃ n2, n2 = n + 1 := ⟨_, rfl⟩
            rw [← hn2] at BD s6
            have S : Hid (St noB w w6 [Part.blk X (.cells #[.int .u8 (kd : Int), .int .u32 (id : Int), .int .i64 (tn : Int)] 45), bkP bk nb, clkP C now f2 n2, refP M l2]) := s6.rt (K := [_, _, _, _]) 4 [1, 2, 3, 0] (by decide)
            clear hd ha hb hk s6 hag hl2 hf2 hn2 S6 S5 S3 QD HR AG0 BD0
            obtain ⟨x1, x2, x3⟩ := HX.out w6 _ S.out
            have bd := BD.out
            cases hf : f2 id with
            | none =>
              have kl := Left_none id hid hf (S.out.rt (K := [_, _, _, _]) 4 [2, 0, 1, 3] (by decide))
              have km := rleft_none id (by omega) (AG.out.no hf) (S.out.rt (K := [_, _, _, _]) 4 [3, 0, 1, 2] (by decide))
              clear hf bd
              go_wp2_with fail
              refine kl.mono ?_
              rintro e wz ⟨rfl, ew⟩
              rw [← ew]
              clear ew wz kl
              go_wp2_with fail
              refine km.mono ?_
              rintro e wz ⟨rfl, ew⟩
              rw [← ew]
              clear ew wz km
              have FIN : Hid (St noB w w6 [bkP bk nb, clkP C now f2 n2, refP M l2]) := S.out.drop
              clear S
              go_wp2
              go_roundw
              case rel => exact ⟨i + 1, now, n2, nb, f2, l2, by go_num, by omega, AG.out, by have := BD.out; omega, by have := BD.out; omega, by have := BD.out; omega, by have := BD.out; omega, FIN.out⟩
              case measure => (simp [intOf]; try omega)
            | some t =>
              obtain ⟨y, hy, hy1, hy2⟩ := (AG.out.same id t).1 hf
              have kl := Left_some id t hid hf (by omega) (by have := AG.out.ok y hy; omega) (S.out.rt (K := [_, _, _, _]) 4 [2, 0, 1, 3] (by decide))
              rw [show (t : Int) - ((now : Nat) : Int) = (y.2 : Int) by omega] at kl
              have km := rleft_some id (by omega) hy hy1 (fun z hz hz1 => AG.out.uniq hz hy (hz1.trans hy1.symm)) (S.out.rt (K := [_, _, _, _]) 4 [3, 0, 1, 2] (by decide))
              obtain ⟨yv, hyv⟩ : ∃ yv, yv = y.2 := ⟨_, rfl⟩
              rw [← hyv] at kl km
              clear hf hy hy1 hy2 hyv bd
              go_wp2_with fail
              refine kl.mono ?_
              rintro e wz ⟨rfl, ew⟩
              rw [← ew]
              clear ew wz kl
              go_wp2_with fail
              refine km.mono ?_
              rintro e wz ⟨rfl, ew⟩
              rw [← ew]
              clear ew wz km
              have FIN : Hid (St noB w w6 [bkP bk nb, clkP C now f2 n2, refP M l2]) := S.out.drop
              clear S
              go_wp2
              go_roundw
              case rel => exact ⟨i + 1, now, n2, nb, f2, l2, by go_num, by omega, AG.out, by have := BD.out; omega, by have := BD.out; omega, by have := BD.out; omega, by have := BD.out; omega, FIN.out⟩
              case measure => (simp [intOf]; try omega)
        · by_cases r1 : r = 1
          · subst r1
            go_wp2
            rw [HW.out.1, HW.out.2]
            clear HW c0 c1 c2

            by_cases hbad : tk < 1 ∨ 1073741824 < tk
            · have hgood := trivial
              obtain ⟨wd, hwd⟩ : ∃ wd, wd = wv.drew := ⟨_, rfl⟩
              have QD : Hid (St noB w wd [Part.blk X (.cells #[.int .u8 (kd : Int), .int .u32 (id : Int), .int .i64 tk] 45), bkP bk nb, clkP C now f n, refP M l]) := by rw [hwd]; exact Q0.out.drew
              have kb1 := Set_bad (id : Int) tk hbad (QD.out.rt (K := [_, _, _, _]) 4 [2, 0, 1, 3] (by decide))
              have kb2 := rset_bad (M := M) (.int .i64 0) (id : Int) tk hbad wd
              clear hbad hgood Q0
              have S3 : wd.cell? ⟨X, 1, none⟩ = some (.int .u32 (id : Int)) ∧ wd.cell? ⟨X, 2, none⟩ = some (.int .i64 tk) := (HX.out wd _ QD.out).2
              refine wp_region_noPanic ?_
              refine wp_region_held_drew (S := fun W => W.cell? ⟨X, 1, none⟩ = some (.int .u32 (id : Int)) ∧ W.cell? ⟨X, 2, none⟩ = some (.int .i64 tk)) (by kernel_rfl) (by rw [← hwd]; exact S3) (fun hHeld => ?_)
              rw [← hwd] at hHeld ⊢
              clear hwd
              refine wpAnyH_take (i := 0) (oi := { dst := some 47, op := Op.move (Operand.tmp 3), type := 23, pos := _, after := #[], guard := none }) (v := .pointer (some ⟨C, 0, none⟩)) rfl (by kernel_rfl) (by kernel_rfl) (by kernel_rfl) (fun _ _ _ h => h) (Or.inl ⟨by rfl, fun W hW => by go_simp⟩) (by assumption) ?_
              try simp only [Act.put, List.setIfInBounds_toArray, List.set_cons_zero, List.set_cons_succ]
              refine wpAnyH_take (i := 1) (oi := { dst := some 48, op := Op.fieldAddr 45 (Operand.tmp 7) 1, type := 0, pos := _, after := #[], guard := none }) (v := .pointer (some ⟨X, 1, none⟩)) rfl (by kernel_rfl) (by kernel_rfl) (by kernel_rfl) (fun _ _ _ h => h) (Or.inl ⟨by rfl, fun W hW => by go_simp⟩) (by assumption) ?_
              try simp only [Act.put, List.setIfInBounds_toArray, List.set_cons_zero, List.set_cons_succ]
              refine wpAnyH_take (i := 2) (oi := { dst := some 49, op := Op.load 43 (Operand.tmp 48), type := 43, pos := _, after := #[{ on := 1, ground := Ground.data }], guard := none }) (v := .int .u32 (id : Int)) rfl (by kernel_rfl) (by kernel_rfl) (by kernel_rfl) (fun _ _ _ h => h) (yieldsIf_load (by rfl) 43 (.tmp 48) rfl _ _ rfl (fun W hW => ldU _ _ _ W hW.1)) (by assumption) ?_
              try simp only [Act.put, List.setIfInBounds_toArray, List.set_cons_zero, List.set_cons_succ]
              refine wpAnyH_take (i := 3) (oi := { dst := some 50, op := Op.fieldAddr 45 (Operand.tmp 7) 2, type := 0, pos := _, after := #[], guard := none }) (v := .pointer (some ⟨X, 2, none⟩)) rfl (by kernel_rfl) (by kernel_rfl) (by kernel_rfl) (fun _ _ _ h => h) (Or.inl ⟨by rfl, fun W hW => by go_simp⟩) (by assumption) ?_
              try simp only [Act.put, List.setIfInBounds_toArray, List.set_cons_zero, List.set_cons_succ]
              refine wpAnyH_take (i := 4) (oi := { dst := some 51, op := Op.load 3 (Operand.tmp 50), type := 3, pos := _, after := #[{ on := 3, ground := Ground.data }], guard := none }) (v := .int .i64 tk) rfl (by kernel_rfl) (by kernel_rfl) (by kernel_rfl) (fun _ _ _ h => h) (yieldsIf_load (by rfl) 3 (.tmp 50) rfl _ _ rfl (fun W hW => ldI _ _ _ W hW.2)) (by assumption) ?_
              try simp only [Act.put, List.setIfInBounds_toArray, List.set_cons_zero, List.set_cons_succ]
              refine wpAnyH_take (i := 6) (oi := { dst := some 53, op := Op.move (Operand.tmp 4), type := 25, pos := _, after := #[], guard := none }) (v := .pointer (some ⟨M, 0, none⟩)) rfl (by kernel_rfl) (by kernel_rfl) (by kernel_rfl) (fun _ _ _ h => h) (Or.inl ⟨by rfl, fun W hW => by go_simp⟩) (by assumption) ?_
              try simp only [Act.put, List.setIfInBounds_toArray, List.set_cons_zero, List.set_cons_succ]
              refine wpAnyH_take (i := 7) (oi := { dst := some 54, op := Op.fieldAddr 45 (Operand.tmp 7) 1, type := 0, pos := _, after := #[], guard := none }) (v := .pointer (some ⟨X, 1, none⟩)) rfl (by kernel_rfl) (by kernel_rfl) (by kernel_rfl) (fun _ _ _ h => h) (Or.inl ⟨by rfl, fun W hW => by go_simp⟩) (by assumption) ?_
              try simp only [Act.put, List.setIfInBounds_toArray, List.set_cons_zero, List.set_cons_succ]
              refine wpAnyH_take (i := 8) (oi := { dst := some 55, op := Op.load 43 (Operand.tmp 54), type := 43, pos := _, after := #[{ on := 7, ground := Ground.data }], guard := none }) (v := .int .u32 (id : Int)) rfl (by kernel_rfl) (by kernel_rfl) (by kernel_rfl) (fun _ _ _ h => h) (yieldsIf_load (by rfl) 43 (.tmp 54) rfl _ _ rfl (fun W hW => ldU _ _ _ W hW.1)) (by assumption) ?_
              try simp only [Act.put, List.setIfInBounds_toArray, List.set_cons_zero, List.set_cons_succ]
              refine wpAnyH_take (i := 9) (oi := { dst := some 56, op := Op.fieldAddr 45 (Operand.tmp 7) 2, type := 0, pos := _, after := #[], guard := none }) (v := .pointer (some ⟨X, 2, none⟩)) rfl (by kernel_rfl) (by kernel_rfl) (by kernel_rfl) (fun _ _ _ h => h) (Or.inl ⟨by rfl, fun W hW => by go_simp⟩) (by assumption) ?_
              try simp only [Act.put, List.setIfInBounds_toArray, List.set_cons_zero, List.set_cons_succ]
              refine wpAnyH_take (i := 10) (oi := { dst := some 57, op := Op.load 3 (Operand.tmp 56), type := 3, pos := _, after := #[{ on := 9, ground := Ground.data }], guard := none }) (v := .int .i64 tk) rfl (by kernel_rfl) (by kernel_rfl) (by kernel_rfl) (fun _ _ _ h => h) (yieldsIf_load (by rfl) 3 (.tmp 56) rfl _ _ rfl (fun W hW => ldI _ _ _ W hW.2)) (by assumption) ?_
              try simp only [Act.put, List.setIfInBounds_toArray, List.set_cons_zero, List.set_cons_succ]
              refine wpAnyH_ready (rs := [5]) (by kernel_rfl) (by simp) ?_
              refine AllReadyH.cons (o := { dst := some 52, op := Op.call { callee := Callee.value (Operand.func 5), args := #[Operand.tmp 47, Operand.tmp 49, Operand.tmp 51], argTypes := #[23, 43, 3] }, type := 46, pos := _, after := #[{ on := 0, ground := Ground.data }, { on := 2, ground := Ground.data }, { on := 4, ground := Ground.data }], guard := none }) rfl (fun K hK => ?_) AllReadyH.nil
              go_simp
              refine kb1.mono ?_
              rintro e w5 ⟨rfl, ew⟩
              rw [← ew]
              clear ew w5
              go_wp2_with fail
              refine hK.out _ _ S3 (fun hHeld => ?_)
              clear hK K
              try simp only [Act.put, List.setIfInBounds_toArray, List.set_cons_zero, List.set_cons_succ]
              refine wpAnyH_ready (rs := [11]) (by kernel_rfl) (by simp) ?_
              refine AllReadyH.cons (o := { dst := some 58, op := Op.call { callee := Callee.value (Operand.func 6), args := #[Operand.tmp 53, Operand.tmp 55, Operand.tmp 57], argTypes := #[25, 43, 3] }, type := 46, pos := _, after := #[{ on := 6, ground := Ground.data }, { on := 8, ground := Ground.data }, { on := 10, ground := Ground.data }, { on := 5, ground := Ground.chain }], guard := none }) rfl (fun K hK => ?_) AllReadyH.nil
              go_simp
              refine kb2.mono ?_
              rintro e w5 ⟨rfl, ew⟩
              rw [← ew]
              clear ew w5
              go_wp2_with fail
              refine hK.out _ _ S3 (fun hHeld => ?_)
              clear hK K
              try simp only [Act.put, List.setIfInBounds_toArray, List.set_cons_zero, List.set_cons_succ]
              refine wpAnyH_take (i := 12) (oi := { dst := some 59, op := Op.binOp BinOp.neq 46 (Operand.tmp 52) (Operand.tmp 58) 46, type := 4, pos := _, after := #[{ on := 5, ground := Ground.data }, { on := 11, ground := Ground.data }], guard := none }) (v := .bool false) rfl (by kernel_rfl) (by kernel_rfl) (by kernel_rfl) (fun _ _ _ h => h) (Or.inl ⟨by rfl, fun W hW => by go_simp⟩) (by assumption) ?_
              try simp only [Act.put, List.setIfInBounds_toArray, List.set_cons_zero, List.set_cons_succ]
              refine wpAnyH_done (by kernel_rfl) ?_ _
              refine NoPanic.normal ?_
              clear hHeld
              have S : Hid (St noB w wd [Part.blk X (.cells #[.int .u8 (kd : Int), .int .u32 (id : Int), .int .i64 tk] 45), bkP bk nb, clkP C now f n, refP M l]) := QD.out
              have AG : Hid (Agree now f l) := AG0.out
              have BD : Hid (now ≤ i + 1 ∧ n ≤ i + 1 ∧ nb ≤ i + 1 ∧ l.length ≤ i + 1 ∧ i < 300) := by have := BD0.out; show _ ∧ _; omega
              clear QD AG0 BD0 S3 kb1 kb2
              obtain ⟨x1, x2, x3⟩ := HX.out wd _ S.out
              have bd := BD.out
              cases hf : f id with
              | none =>
                have kl := Left_none id hid hf (S.out.rt (K := [_, _, _, _]) 4 [2, 0, 1, 3] (by decide))
                have km := rleft_none id (by omega) (AG.out.no hf) (S.out.rt (K := [_, _, _, _]) 4 [3, 0, 1, 2] (by decide))
                clear hf bd
                go_wp2_with fail
                refine kl.mono ?_
                rintro e wz ⟨rfl, ew⟩
                rw [← ew]
                clear ew wz kl
                go_wp2_with fail
                refine km.mono ?_
                rintro e wz ⟨rfl, ew⟩
                rw [← ew]
                clear ew wz km
                have FIN : Hid (St noB w wd [bkP bk nb, clkP C now f n, refP M l]) := S.out.drop
                clear S
                go_wp2
                go_roundw
                case rel => exact ⟨i + 1, now, n, nb, f, l, by go_num, by omega, AG.out, by have := BD.out; omega, by have := BD.out; omega, by have := BD.out; omega, by have := BD.out; omega, FIN.out⟩
                case measure => (simp [intOf]; try omega)
              | some t =>
                obtain ⟨y, hy, hy1, hy2⟩ := (AG.out.same id t).1 hf
                have kl := Left_some id t hid hf (by omega) (by have := AG.out.ok y hy; omega) (S.out.rt (K := [_, _, _, _]) 4 [2, 0, 1, 3] (by decide))
                rw [show (t : Int) - ((now : Nat) : Int) = (y.2 : Int) by omega] at kl
                have km := rleft_some id (by omega) hy hy1 (fun z hz hz1 => AG.out.uniq hz hy (hz1.trans hy1.symm)) (S.out.rt (K := [_, _, _, _]) 4 [3, 0, 1, 2] (by decide))
                obtain ⟨yv, hyv⟩ : ∃ yv, yv = y.2 := ⟨_, rfl⟩
                rw [← hyv] at kl km
                clear hf hy hy1 hy2 hyv bd
                go_wp2_with fail
                refine kl.mono ?_
                rintro e wz ⟨rfl, ew⟩
                rw [← ew]
                clear ew wz kl
                go_wp2_with fail
                refine km.mono ?_
                rintro e wz ⟨rfl, ew⟩
                rw [← ew]
                clear ew wz km
                have FIN : Hid (St noB w wd [bkP bk nb, clkP C now f n, refP M l]) := S.out.drop
                clear S
                go_wp2
                go_roundw
                case rel => exact ⟨i + 1, now, n, nb, f, l, by go_num, by omega, AG.out, by have := BD.out; omega, by have := BD.out; omega, by have := BD.out; omega, by have := BD.out; omega, FIN.out⟩
                case measure => (simp [intOf]; try omega)
            · have hgood := trivial
              obtain ⟨wd, hwd⟩ : ∃ wd, wd = wv.drew := ⟨_, rfl⟩
              have QD : Hid (St noB w wd [Part.blk X (.cells #[.int .u8 (kd : Int), .int .u32 (id : Int), .int .i64 tk] 45), bkP bk nb, clkP C now f n, refP M l]) := by rw [hwd]; exact Q0.out.drew
              obtain ⟨tn, rfl⟩ : ∃ tn : Nat, tk = (tn : Int) := ⟨tk.toNat, by omega⟩
              have t1 : 1 ≤ tn := by omega
              have t2 : tn ≤ 1073741824 := by omega
              have bd := BD0.out
              have k1 := Set_ok id tn hid t1 t2 (by omega) (by omega) (AG0.out.near (by omega)) (QD.out.rt (K := [_, _, _, _]) 4 [2, 0, 1, 3] (by decide))
              have HR : Hid (∀ W, St noB w W (clkP C now (updF f id (some (now + tn))) (n + 1) :: Part.blk X (.cells #[.int .u8 (kd : Int), .int .u32 (id : Int), .int .i64 (tn : Int)] 45) :: bkP bk nb :: refP M l :: []) → (W.cell? ⟨X, 1, none⟩ = some (.int .u32 (id : Int)) ∧ W.cell? ⟨X, 2, none⟩ = some (.int .i64 (tn : Int))) ∧
                  Calls Tryz.prog 6 #[.pointer (some ⟨M, 0, none⟩), .int .u32 (id : Int), .int .i64 (tn : Int)] W fun e w' => RSet noB w [Part.blk X (.cells #[.int .u8 (kd : Int), .int .u32 (id : Int), .int .i64 (tn : Int)] 45), bkP bk nb, clkP C now (updF f id (some (now + tn))) (n + 1)] M l id tn e w') := fun W R => by
                have R2 := R.rt (K := [_, _, _, _]) 4 [1, 2, 0, 3] (by decide)
                exact ⟨(HX.out W _ R2).2, rset_ok id tn t1 t2 (by omega) (R2.rt (K := [_, _, _, _]) 4 [3, 0, 1, 2] (by decide))⟩
              clear hbad hgood Q0 bd
              have S3 : wd.cell? ⟨X, 1, none⟩ = some (.int .u32 (id : Int)) ∧ wd.cell? ⟨X, 2, none⟩ = some (.int .i64 (tn : Int)) := (HX.out wd _ QD.out).2
              refine wp_region_noPanic ?_
              refine wp_region_held_drew (S := fun W => W.cell? ⟨X, 1, none⟩ = some (.int .u32 (id : Int)) ∧ W.cell? ⟨X, 2, none⟩ = some (.int .i64 (tn : Int))) (by kernel_rfl) (by rw [← hwd]; exact S3) (fun hHeld => ?_)
              rw [← hwd] at hHeld ⊢
              clear hwd
              refine wpAnyH_take (i := 0) (oi := { dst := some 47, op := Op.move (Operand.tmp 3), type := 23, pos := _, after := #[], guard := none }) (v := .pointer (some ⟨C, 0, none⟩)) rfl (by kernel_rfl) (by kernel_rfl) (by kernel_rfl) (fun _ _ _ h => h) (Or.inl ⟨by rfl, fun W hW => by go_simp⟩) (by assumption) ?_
              try simp only [Act.put, List.setIfInBounds_toArray, List.set_cons_zero, List.set_cons_succ]
              refine wpAnyH_take (i := 1) (oi := { dst := some 48, op := Op.fieldAddr 45 (Operand.tmp 7) 1, type := 0, pos := _, after := #[], guard := none }) (v := .pointer (some ⟨X, 1, none⟩)) rfl (by kernel_rfl) (by kernel_rfl) (by kernel_rfl) (fun _ _ _ h => h) (Or.inl ⟨by rfl, fun W hW => by go_simp⟩) (by assumption) ?_
              try simp only [Act.put, List.setIfInBounds_toArray, List.set_cons_zero, List.set_cons_succ]
              refine wpAnyH_take (i := 2) (oi := { dst := some 49, op := Op.load 43 (Operand.tmp 48), type := 43, pos := _, after := #[{ on := 1, ground := Ground.data }], guard := none }) (v := .int .u32 (id : Int)) rfl (by kernel_rfl) (by kernel_rfl) (by kernel_rfl) (fun _ _ _ h => h) (yieldsIf_load (by rfl) 43 (.tmp 48) rfl _ _ rfl (fun W hW => ldU _ _ _ W hW.1)) (by assumption) ?_
              try simp only [Act.put, List.setIfInBounds_toArray, List.set_cons_zero, List.set_cons_succ]
              refine wpAnyH_take (i := 3) (oi := { dst := some 50, op := Op.fieldAddr 45 (Operand.tmp 7) 2, type := 0, pos := _, after := #[], guard := none }) (v := .pointer (some ⟨X, 2, none⟩)) rfl (by kernel_rfl) (by kernel_rfl) (by kernel_rfl) (fun _ _ _ h => h) (Or.inl ⟨by rfl, fun W hW => by go_simp⟩) (by assumption) ?_
              try simp only [Act.put, List.setIfInBounds_toArray, List.set_cons_zero, List.set_cons_succ]
              refine wpAnyH_take (i := 4) (oi := { dst := some 51, op := Op.load 3 (Operand.tmp 50), type := 3, pos := _, after := #[{ on := 3, ground := Ground.data }], guard := none }) (v := .int .i64 (tn : Int)) rfl (by kernel_rfl) (by kernel_rfl) (by kernel_rfl) (fun _ _ _ h => h) (yieldsIf_load (by rfl) 3 (.tmp 50) rfl _ _ rfl (fun W hW => ldI _ _ _ W hW.2)) (by assumption) ?_
              try simp only [Act.put, List.setIfInBounds_toArray, List.set_cons_zero, List.set_cons_succ]
              refine wpAnyH_take (i := 6) (oi := { dst := some 53, op := Op.move (Operand.tmp 4), type := 25, pos := _, after := #[], guard := none }) (v := .pointer (some ⟨M, 0, none⟩)) rfl (by kernel_rfl) (by kernel_rfl) (by kernel_rfl) (fun _ _ _ h => h) (Or.inl ⟨by rfl, fun W hW => by go_simp⟩) (by assumption) ?_
              try simp only [Act.put, List.setIfInBounds_toArray, List.set_cons_zero, List.set_cons_succ]
              refine wpAnyH_take (i := 7) (oi := { dst := some 54, op := Op.fieldAddr 45 (Operand.tmp 7) 1, type := 0, pos := _, after := #[], guard := none }) (v := .pointer (some ⟨X, 1, none⟩)) rfl (by kernel_rfl) (by kernel_rfl) (by kernel_rfl) (fun _ _ _ h => h) (Or.inl ⟨by rfl, fun W hW => by go_simp⟩) (by assumption) ?_
              try simp only [Act.put, List.setIfInBounds_toArray, List.set_cons_zero, List.set_cons_succ]
              refine wpAnyH_take (i := 8) (oi := { dst := some 55, op := Op.load 43 (Operand.tmp 54), type := 43, pos := _, after := #[{ on := 7, ground := Ground.data }], guard := none }) (v := .int .u32 (id : Int)) rfl (by kernel_rfl) (by kernel_rfl) (by kernel_rfl) (fun _ _ _ h => h) (yieldsIf_load (by rfl) 43 (.tmp 54) rfl _ _ rfl (fun W hW => ldU _ _ _ W hW.1)) (by assumption) ?_
              try simp only [Act.put, List.setIfInBounds_toArray, List.set_cons_zero, List.set_cons_succ]
              refine wpAnyH_take (i := 9) (oi := { dst := some 56, op := Op.fieldAddr 45 (Operand.tmp 7) 2, type := 0, pos := _, after := #[], guard := none }) (v := .pointer (some ⟨X, 2, none⟩)) rfl (by kernel_rfl) (by kernel_rfl) (by kernel_rfl) (fun _ _ _ h => h) (Or.inl ⟨by rfl, fun W hW => by go_simp⟩) (by assumption) ?_
              try simp only [Act.put, List.setIfInBounds_toArray, List.set_cons_zero, List.set_cons_succ]
              refine wpAnyH_take (i := 10) (oi := { dst := some 57, op := Op.load 3 (Operand.tmp 56), type := 3, pos := _, after := #[{ on := 9, ground := Ground.data }], guard := none }) (v := .int .i64 (tn : Int)) rfl (by kernel_rfl) (by kernel_rfl) (by kernel_rfl) (fun _ _ _ h => h) (yieldsIf_load (by rfl) 3 (.tmp 56) rfl _ _ rfl (fun W hW => ldI _ _ _ W hW.2)) (by assumption) ?_
              try simp only [Act.put, List.setIfInBounds_toArray, List.set_cons_zero, List.set_cons_succ]
              refine wpAnyH_ready (rs := [5]) (by kernel_rfl) (by simp) ?_
              refine AllReadyH.cons (o := { dst := some 52, op := Op.call { callee := Callee.value (Operand.func 5), args := #[Operand.tmp 47, Operand.tmp 49, Operand.tmp 51], argTypes := #[23, 43, 3] }, type := 46, pos := _, after := #[{ on := 0, ground := Ground.data }, { on := 2, ground := Ground.data }, { on := 4, ground := Ground.data }], guard := none }) rfl (fun K hK => ?_) AllReadyH.nil
              go_simp
              refine k1.mono ?_
              rintro e w5 ⟨rfl, s5⟩
              have K2 := HR.out w5 s5
              obtain ⟨S5, K2⟩ := K2
              clear s5 k1
              go_wp2_with fail
              refine hK.out _ _ S5 (fun hHeld => ?_)
              clear hK K
              try simp only [Act.put, List.setIfInBounds_toArray, List.set_cons_zero, List.set_cons_succ]
              refine wpAnyH_ready (rs := [11]) (by kernel_rfl) (by simp) ?_
              refine AllReadyH.cons (o := { dst := some 58, op := Op.call { callee := Callee.value (Operand.func 6), args := #[Operand.tmp 53, Operand.tmp 55, Operand.tmp 57], argTypes := #[25, 43, 3] }, type := 46, pos := _, after := #[{ on := 6, ground := Ground.data }, { on := 8, ground := Ground.data }, { on := 10, ground := Ground.data }, { on := 5, ground := Ground.chain }], guard := none }) rfl (fun K hK => ?_) AllReadyH.nil
              go_simp
              refine K2.mono ?_
              rintro e w6 ⟨rfl, R6⟩
              obtain ⟨l', k, hd, ha, hb, hk, s6⟩ := R6
              have S6 := (HX.out w6 _ (s6.rt (K := [_, _, _, _]) 4 [1, 2, 3, 0] (by decide))).2
              go_wp2_with fail
              refine hK.out _ _ S6 (fun hHeld => ?_)
              clear hK K
              try simp only [Act.put, List.setIfInBounds_toArray, List.set_cons_zero, List.set_cons_succ]
              refine wpAnyH_take (i := 12) (oi := { dst := some 59, op := Op.binOp BinOp.neq 46 (Operand.tmp 52) (Operand.tmp 58) 46, type := 4, pos := _, after := #[{ on := 5, ground := Ground.data }, { on := 11, ground := Ground.data }], guard := none }) (v := .bool false) rfl (by kernel_rfl) (by kernel_rfl) (by kernel_rfl) (fun _ _ _ h => h) (Or.inl ⟨by rfl, fun W hW => by go_simp⟩) (by assumption) ?_
              try simp only [Act.put, List.setIfInBounds_toArray, List.set_cons_zero, List.set_cons_succ]
              refine wpAnyH_done (by kernel_rfl) ?_ _
              refine NoPanic.normal ?_
              clear hHeld
              have hag := AG0.out.del hd
              have AG : Hid (Agree now (updF f id (some (now + tn))) (l'.take k ++ [(id, tn)] ++ l'.drop k)) := by
                have := hag.1.put hid t1 t2 hag.2 ha hb hk
                rw [updF_updF] at this
                exact this
              have BD : Hid (now ≤ i + 1 ∧ n + 1 ≤ i + 1 ∧ nb ≤ i + 1 ∧ (l'.take k ++ [(id, tn)] ++ l'.drop k).length ≤ i + 1 ∧ i < 300) := by
                have := BD0.out
                have h2 := hd.len
                show _ ∧ _
                simp only [List.length_append, List.length_take, List.length_drop, List.length_cons, List.length_nil]
                omega
              obtain ⟨l2, hl2⟩ : ∃ l2, l2 = l'.take k ++ [(id, tn)] ++ l'.drop k := ⟨_, rfl⟩
              rw [← hl2] at AG BD s6
              obtain ⟨f2, hf2⟩ : ∃ f2, f2 = updF f id (some (now + tn)) := ⟨_, rfl⟩
              rw [← hf2] at AG s6
              obtain ⟨n2, hn2⟩ : ∃ n2, n2 = n + 1 := ⟨_, rfl⟩
              rw [← hn2] at BD s6
              have S : Hid (St noB w w6 [Part.blk X (.cells #[.int .u8 (kd : Int), .int .u32 (id : Int), .int .i64 (tn : Int)] 45), bkP bk nb, clkP C now f2 n2, refP M l2]) := s6.rt (K := [_, _, _, _]) 4 [1, 2, 3, 0] (by decide)
              clear hd ha hb hk s6 hag hl2 hf2 hn2 S6 S5 S3 QD HR AG0 BD0
              obtain ⟨x1, x2, x3⟩ := HX.out w6 _ S.out
              have bd := BD.out
              cases hf : f2 id with
              | none =>
                have kl := Left_none id hid hf (S.out.rt (K := [_, _, _, _]) 4 [2, 0, 1, 3] (by decide))
                have km := rleft_none id (by omega) (AG.out.no hf) (S.out.rt (K := [_, _, _, _]) 4 [3, 0, 1, 2] (by decide))
                clear hf bd
                go_wp2_with fail
                refine kl.mono ?_
                rintro e wz ⟨rfl, ew⟩
                rw [← ew]
                clear ew wz kl
                go_wp2_with fail
                refine km.mono ?_
                rintro e wz ⟨rfl, ew⟩
                rw [← ew]
                clear ew wz km
                have FIN : Hid (St noB w w6 [bkP bk nb, clkP C now f2 n2, refP M l2]) := S.out.drop
                clear S
                go_wp2
                go_roundw
                case rel => exact ⟨i + 1, now, n2, nb, f2, l2, by go_num, by omega, AG.out, by have := BD.out; omega, by have := BD.out; omega, by have := BD.out; omega, by have := BD.out; omega, FIN.out⟩
                case measure => (simp [intOf]; try omega)
              | some t =>
                obtain ⟨y, hy, hy1, hy2⟩ := (AG.out.same id t).1 hf
                have kl := Left_some id t hid hf (by omega) (by have := AG.out.ok y hy; omega) (S.out.rt (K := [_, _, _, _]) 4 [2, 0, 1, 3] (by decide))
                rw [show (t : Int) - ((now : Nat) : Int) = (y.2 : Int) by omega] at kl
                have km := rleft_some id (by omega) hy hy1 (fun z hz hz1 => AG.out.uniq hz hy (hz1.trans hy1.symm)) (S.out.rt (K := [_, _, _, _]) 4 [3, 0, 1, 2] (by decide))
                obtain ⟨yv, hyv⟩ : ∃ yv, yv = y.2 := ⟨_, rfl⟩
                rw [← hyv] at kl km
                clear hf hy hy1 hy2 hyv bd
                go_wp2_with fail
                refine kl.mono ?_
                rintro e wz ⟨rfl, ew⟩
                rw [← ew]
                clear ew wz kl
                go_wp2_with fail
                refine km.mono ?_
                rintro e wz ⟨rfl, ew⟩
                rw [← ew]
                clear ew wz km
                have FIN : Hid (St noB w w6 [bkP bk nb, clkP C now f2 n2, refP M l2]) := S.out.drop
                clear S
                go_wp2
                go_roundw
                case rel => exact ⟨i + 1, now, n2, nb, f2, l2, by go_num, by omega, AG.out, by have := BD.out; omega, by have := BD.out; omega, by have := BD.out; omega, by have := BD.out; omega, FIN.out⟩
                case measure => (simp [intOf]; try omega)
          · by_cases r2 : r = 2
            · subst r2
              go_wp2
              rw [HW.out.1, HW.out.2]
              clear HW c0 c1 c2
              have bd := BD0.out
              have k1 := Clear_ok id hid (AG0.out.near (by omega)) (Q0.out.drew.rt (K := [_, _, _, _]) 4 [2, 0, 1, 3] (by decide))
              obtain ⟨x1, x2, x3⟩ := HX.out wv.drew _ Q0.out.drew
              obtain ⟨ce, hce⟩ : ∃ ce : Int, ce = if (f id).isSome then 0 else 6 := ⟨_, rfl⟩
              rw [← hce] at k1
              have HR : Hid (∀ W, St noB w W (clkP C now (updF f id none) n :: Part.blk X (.cells #[.int .u8 (kd : Int), .int .u32 (id : Int), .int .i64 tk] 45) :: bkP bk nb :: refP M l :: []) → W.cell? ⟨X, 1, none⟩ = some (.int .u32 (id : Int)) ∧
                  Calls Tryz.prog 8 #[ptr M, .int .u32 (id : Int)] W fun e w' => e = .returned (.int .i64 ce) ∧ ∃ l', Del l id l' ∧ St noB w w' [refP M l', Part.blk X (.cells #[.int .u8 (kd : Int), .int .u32 (id : Int), .int .i64 tk] 45), bkP bk nb, clkP C now (updF f id none) n]) := fun W R => by
                have R2 := R.rt (K := [_, _, _, _]) 4 [1, 2, 0, 3] (by decide)
                obtain ⟨y1, y2, y3⟩ := HX.out W _ R2
                refine ⟨y2, (rclear_ok id (by omega) (R2.rt (K := [_, _, _, _]) 4 [3, 0, 1, 2] (by decide))).mono ?_⟩
                rintro e w' (⟨rfl, h1, rfl⟩ | ⟨k, x, h1, h2, rfl, h3⟩)
                · rw [hce, AG0.out.nobody h1]
                  exact ⟨rfl, l, .inl ⟨rfl, h1⟩, R2.rt (K := [_, _, _, _]) 4 [3, 0, 1, 2] (by decide)⟩
                · have hs := (AG0.out.same id (now + x.2)).2 ⟨x, List.mem_of_getElem? h1, h2, rfl⟩
                  rw [hce, hs]
                  exact ⟨rfl, _, .inr ⟨k, x, h1, h2, rfl⟩, h3⟩
              clear Q0 bd hce
              go_region_law (first | (go_simp; go_at_call 7; refine k1.mono ?_; rintro e w5 ⟨rfl, s5⟩; have K2 := HR.out w5 s5; obtain ⟨y1, K2⟩ := K2; clear s5 k1 HR) | (go_simp; go_at_call 8; refine K2.mono ?_; rintro e w6 ⟨rfl, R6⟩; have S6 : Hid _ := R6; clear K2 R6))
              all_goals
                obtain ⟨l2, hd, s6⟩ := S6.out
                have hag := AG0.out.del hd
                obtain ⟨f2, hf2⟩ : ∃ f2, f2 = updF f id none := ⟨_, rfl⟩
                rw [← hf2] at hag s6
                have AG : Hid (Agree now f2 l2) := hag.1
                have BD : Hid (now ≤ i + 1 ∧ n ≤ i + 1 ∧ nb ≤ i + 1 ∧ l2.length ≤ i + 1 ∧ i < 300) := by
                  have := BD0.out
                  have h2 := hd.len
                  show _ ∧ _; omega
                have S : Hid (St noB w w6 [Part.blk X (.cells #[.int .u8 (kd : Int), .int .u32 (id : Int), .int .i64 tk] 45), bkP bk nb, clkP C now f2 n, refP M l2]) := s6.rt (K := [_, _, _, _]) 4 [1, 2, 3, 0] (by decide)
                clear hd s6 hag hf2 S6 AG0 BD0 x1 x2 x3 y1
                obtain ⟨x1, x2, x3⟩ := HX.out w6 _ S.out
                have bd := BD.out
                cases hf : f2 id with
                | none =>
                  have kl := Left_none id hid hf (S.out.rt (K := [_, _, _, _]) 4 [2, 0, 1, 3] (by decide))
                  have km := rleft_none id (by omega) (AG.out.no hf) (S.out.rt (K := [_, _, _, _]) 4 [3, 0, 1, 2] (by decide))
                  clear hf bd
                  go_wp2_with fail
                  refine kl.mono ?_
                  rintro e wz ⟨rfl, ew⟩
                  rw [← ew]
                  clear ew wz kl
                  go_wp2_with fail
                  refine km.mono ?_
                  rintro e wz ⟨rfl, ew⟩
                  rw [← ew]
                  clear ew wz km
                  have FIN : Hid (St noB w w6 [bkP bk nb, clkP C now f2 n, refP M l2]) := S.out.drop
                  clear S
                  go_wp2
                  go_roundw
                  case rel => exact ⟨i + 1, now, n, nb, f2, l2, by go_num, by omega, AG.out, by have := BD.out; omega, by have := BD.out; omega, by have := BD.out; omega, by have := BD.out; omega, FIN.out⟩
                  case measure => (simp [intOf]; try omega)
                | some t =>
                  obtain ⟨y, hy, hy1, hy2⟩ := (AG.out.same id t).1 hf
                  have kl := Left_some id t hid hf (by omega) (by have := AG.out.ok y hy; omega) (S.out.rt (K := [_, _, _, _]) 4 [2, 0, 1, 3] (by decide))
                  rw [show (t : Int) - ((now : Nat) : Int) = (y.2 : Int) by omega] at kl
                  have km := rleft_some id (by omega) hy hy1 (fun z hz hz1 => AG.out.uniq hz hy (hz1.trans hy1.symm)) (S.out.rt (K := [_, _, _, _]) 4 [3, 0, 1, 2] (by decide))
                  obtain ⟨yv, hyv⟩ : ∃ yv, yv = y.2 := ⟨_, rfl⟩
                  rw [← hyv] at kl km
                  clear hf hy hy1 hy2 hyv bd
                  go_wp2_with fail
                  refine kl.mono ?_
                  rintro e wz ⟨rfl, ew⟩
                  rw [← ew]
                  clear ew wz kl
                  go_wp2_with fail
                  refine km.mono ?_
                  rintro e wz ⟨rfl, ew⟩
                  rw [← ew]
                  clear ew wz km
                  have FIN : Hid (St noB w w6 [bkP bk nb, clkP C now f2 n, refP M l2]) := S.out.drop
                  clear S
                  go_wp2
                  go_roundw
                  case rel => exact ⟨i + 1, now, n, nb, f2, l2, by go_num, by omega, AG.out, by have := BD.out; omega, by have := BD.out; omega, by have := BD.out; omega, by have := BD.out; omega, FIN.out⟩
                  case measure => (simp [intOf]; try omega)
            · by_cases r3 : r = 3
              · subst r3
                have S : Hid (St noB w wv [Part.blk X (.cells #[.int .u8 (kd : Int), .int .u32 (id : Int), .int .i64 tk] 45), bkP bk nb, clkP C now f n, refP M l]) := Q0.out
                have AG : Hid (Agree now f l) := AG0.out
                have BD : Hid (now ≤ i + 1 ∧ n ≤ i + 1 ∧ nb ≤ i + 1 ∧ l.length ≤ i + 1 ∧ i < 300) := by have := BD0.out; show _ ∧ _; omega
                clear Q0 AG0 BD0
                obtain ⟨x1, x2, x3⟩ := HX.out wv _ S.out
                have bd := BD.out
                cases hf : f id with
                | none =>
                  have kl := Left_none id hid hf (S.out.rt (K := [_, _, _, _]) 4 [2, 0, 1, 3] (by decide))
                  have km := rleft_none id (by omega) (AG.out.no hf) (S.out.rt (K := [_, _, _, _]) 4 [3, 0, 1, 2] (by decide))
                  clear hf bd
                  go_wp2_with fail
                  rw [HW.out.1, HW.out.2]
                  clear HW c0 c1 c2
                  refine kl.mono ?_
                  rintro e wz ⟨rfl, ew⟩
                  rw [← ew]
                  clear ew wz kl
                  go_wp2_with fail
                  refine km.mono ?_
                  rintro e wz ⟨rfl, ew⟩
                  rw [← ew]
                  clear ew wz km
                  have FIN : Hid (St noB w wv [bkP bk nb, clkP C now f n, refP M l]) := S.out.drop
                  clear S
                  go_wp2
                  go_roundw
                  case rel => exact ⟨i + 1, now, n, nb, f, l, by go_num, by omega, AG.out, by have := BD.out; omega, by have := BD.out; omega, by have := BD.out; omega, by have := BD.out; omega, FIN.out⟩
                  case measure => (simp [intOf]; try omega)
                | some t =>
                  obtain ⟨y, hy, hy1, hy2⟩ := (AG.out.same id t).1 hf
                  have kl := Left_some id t hid hf (by omega) (by have := AG.out.ok y hy; omega) (S.out.rt (K := [_, _, _, _]) 4 [2, 0, 1, 3] (by decide))
                  rw [show (t : Int) - ((now : Nat) : Int) = (y.2 : Int) by omega] at kl
                  have km := rleft_some id (by omega) hy hy1 (fun z hz hz1 => AG.out.uniq hz hy (hz1.trans hy1.symm)) (S.out.rt (K := [_, _, _, _]) 4 [3, 0, 1, 2] (by decide))
                  obtain ⟨yv, hyv⟩ : ∃ yv, yv = y.2 := ⟨_, rfl⟩
                  rw [← hyv] at kl km
                  clear hf hy hy1 hy2 hyv bd
                  go_wp2_with fail
                  rw [HW.out.1, HW.out.2]
                  clear HW c0 c1 c2
                  refine kl.mono ?_
                  rintro e wz ⟨rfl, ew⟩
                  rw [← ew]
                  clear ew wz kl
                  go_wp2_with fail
                  refine km.mono ?_
                  rintro e wz ⟨rfl, ew⟩
                  rw [← ew]
                  clear ew wz km
                  have FIN : Hid (St noB w wv [bkP bk nb, clkP C now f n, refP M l]) := S.out.drop
                  clear S
                  go_wp2
                  go_roundw
                  case rel => exact ⟨i + 1, now, n, nb, f, l, by go_num, by omega, AG.out, by have := BD.out; omega, by have := BD.out; omega, by have := BD.out; omega, by have := BD.out; omega, FIN.out⟩
                  case measure => (simp [intOf]; try omega)
              · have n0 : ((r : Int) == 0) = false := by simpa using (by omega : ¬ (r : Int) = 0)
                have n1 : ((r : Int) == 1) = false := by simpa using (by omega : ¬ (r : Int) = 1)
                have n2 : ((r : Int) == 2) = false := by simpa using (by omega : ¬ (r : Int) = 2)
                have n3 : ((r : Int) == 3) = false := by simpa using (by omega : ¬ (r : Int) = 3)
                have bd := BD0.out
                have kt := Tick_ok (by omega) (by omega) (AG0.out.near (by omega)) (Q0.out.rt (K := [_, _, _, _]) 4 [2, 0, 1, 3] (by decide))
                clear Q0
                go_wp2_with fail
                rw [HW.out.1, HW.out.2]
                clear HW c0 c1 c2
                refine kt.mono ?_
                rintro e w5 ⟨v, ys, rfl, h1, h2, h3, s5⟩
                obtain rfl : ys = toldR l := told_is h1 h2 AG0.out.told.1 AG0.out.told.2
                have ku := rtick_ok (by omega) (fun x hx => (AG0.out.ok x hx).2) (s5.rt (K := [_, _, _, _, _]) 5 [4, 0, 1, 2, 3] (by decide))
                obtain ⟨av, cv, hv, -⟩ := row_form s5.row
                obtain ⟨m, hm⟩ : ∃ m, m = (toldR l).length := ⟨_, rfl⟩
                have HMm : Hid (m = (toldR l).length) := hm
                rw [← hm] at hv
                subst hv
                have hml : Hid ((toldR l).length ≤ 1000000000) := h3
                clear kt s5 h1 h2 h3 hm
                go_wp2_with fail
                refine ku.mono ?_
                rintro e w6 ⟨v2, rfl, s6⟩
                have ks := sameIds_ok w6 _ v2 _ _ (ids_row (s6.rt (K := [_, _, _, _, _, _]) 6 [2, 0, 1, 3, 4, 5] (by decide)).row) (ids_row s6.row)
                obtain ⟨av2, cv2, hv2, -⟩ := row_form s6.row
                rw [← HMm.out] at hv2
                subst hv2
                have S6 : Hid (St noB w w6 (idsP (.slice av m cv) (toldR l) :: bkP bk nb :: [Part.blk X (.cells #[.int .u8 (kd : Int), .int .u32 (id : Int), .int .i64 tk] 45), clkP C (now + 1) (tickF f (now + 1)) n, refP M (restR l)])) := (s6.drop).rt (K := [_, _, _, _, _]) 5 [1, 4, 3, 2, 0] (by decide)
                clear ku s6
                go_wp2_with fail
                refine ks.mono ?_
                rintro e w7 ⟨rfl, nq, rfl⟩
                clear ks
                rw [show decide True = true from decide_eq_true trivial]
                have kk := bk_keep (S6.out.up (below_drewN w6 nq)) (by omega) hml.out
                clear S6
                go_wp2_with fail
                refine kk.mono ?_
                rintro e w8 ⟨rfl, s8⟩
                obtain ⟨f2, hf2⟩ : ∃ f2, f2 = tickF f (now + 1) := ⟨_, rfl⟩
                obtain ⟨l2, hl2⟩ : ∃ l2, l2 = restR l := ⟨_, rfl⟩
                obtain ⟨now2, hnow2⟩ : ∃ now2, now2 = now + 1 := ⟨_, rfl⟩
                obtain ⟨nb2, hnb2⟩ : ∃ nb2, nb2 = nb + 1 := ⟨_, rfl⟩
                have AG : Hid (Agree now2 f2 l2) := by rw [hf2, hl2, hnow2]; exact AG0.out.tick
                have BD : Hid (now2 ≤ i + 1 ∧ n ≤ i + 1 ∧ nb2 ≤ i + 1 ∧ l2.length ≤ i + 1 ∧ i < 300) := by
                  have := BD0.out
                  have h2 := restR_len l
                  rw [hl2]
                  show _ ∧ _; omega
                rw [← hf2, ← hl2, ← hnow2, ← hnb2] at s8
                have S : Hid (St noB w w8 [Part.blk X (.cells #[.int .u8 (kd : Int), .int .u32 (id : Int), .int .i64 tk] 45), bkP bk nb2, clkP C now2 f2 n, refP M l2]) := s8.rt (K := [_, _, _, _]) 4 [1, 0, 2, 3] (by decide)
                clear kk s8 hf2 hl2 hnow2 hnb2 AG0 BD0 HMm hml bd
                obtain ⟨x1, x2, x3⟩ := HX.out w8 _ S.out
                have bd := BD.out
                cases hf : f2 id with
                | none =>
                  have kl := Left_none id hid hf (S.out.rt (K := [_, _, _, _]) 4 [2, 0, 1, 3] (by decide))
                  have km := rleft_none id (by omega) (AG.out.no hf) (S.out.rt (K := [_, _, _, _]) 4 [3, 0, 1, 2] (by decide))
                  clear hf bd
                  go_wp2_with fail
                  refine kl.mono ?_
                  rintro e wz ⟨rfl, ew⟩
                  rw [← ew]
                  clear ew wz kl
                  go_wp2_with fail
                  refine km.mono ?_
                  rintro e wz ⟨rfl, ew⟩
                  rw [← ew]
                  clear ew wz km
                  have FIN : Hid (St noB w w8 [bkP bk nb2, clkP C now2 f2 n, refP M l2]) := S.out.drop
                  clear S
                  go_wp2
                  go_roundw
                  case rel => exact ⟨i + 1, now2, n, nb2, f2, l2, by go_num, by omega, AG.out, by have := BD.out; omega, by have := BD.out; omega, by have := BD.out; omega, by have := BD.out; omega, FIN.out⟩
                  case measure => (simp [intOf]; try omega)
                | some t =>
                  obtain ⟨y, hy, hy1, hy2⟩ := (AG.out.same id t).1 hf
                  have kl := Left_some id t hid hf (by omega) (by have := AG.out.ok y hy; omega) (S.out.rt (K := [_, _, _, _]) 4 [2, 0, 1, 3] (by decide))
                  rw [show (t : Int) - ((now2 : Nat) : Int) = (y.2 : Int) by omega] at kl
                  have km := rleft_some id (by omega) hy hy1 (fun z hz hz1 => AG.out.uniq hz hy (hz1.trans hy1.symm)) (S.out.rt (K := [_, _, _, _]) 4 [3, 0, 1, 2] (by decide))
                  obtain ⟨yv, hyv⟩ : ∃ yv, yv = y.2 := ⟨_, rfl⟩
                  rw [← hyv] at kl km
                  clear hf hy hy1 hy2 hyv bd
                  go_wp2_with fail
                  refine kl.mono ?_
                  rintro e wz ⟨rfl, ew⟩
                  rw [← ew]
                  clear ew wz kl
                  go_wp2_with fail
                  refine km.mono ?_
                  rintro e wz ⟨rfl, ew⟩
                  rw [← ew]
                  clear ew wz km
                  have FIN : Hid (St noB w w8 [bkP bk nb2, clkP C now2 f2 n, refP M l2]) := S.out.drop
                  clear S
                  go_wp2
                  go_roundw
                  case rel => exact ⟨i + 1, now2, n, nb2, f2, l2, by go_num, by omega, AG.out, by have := BD.out; omega, by have := BD.out; omega, by have := BD.out; omega, by have := BD.out; omega, FIN.out⟩
                  case measure => (simp [intOf]; try omega)
      · obtain rfl : i = N := by omega
        have kk := bk_apart s
        clear s hag
        go_wp2_with fail
        refine kk.mono ?_
        rintro e w' ⟨rfl, hb⟩
        go_wp2
        go_ret
        exact ⟨rfl, hb⟩
theorem play_any (w : World) (va : Value) (acts : List ActC) (ha : ActsAt w va acts) :
    Calls Tryz.prog 3 #[va] w fun e w' => e = .returned (.bool true) ∧ Below w.heap.size w w' := play_walk w va acts ha
end Go.Proofs.YtboinccdnaddmaaGreatDoor
