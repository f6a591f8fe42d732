/- The walk of SectorsSure. -/
import Derived.Test.YtapfkoojplbfmaaDSureM
set_option linter.unusedSimpArgs false
set_option linter.unusedVariables false
namespace Go.Proofs.Ytapfkoojplbfmaa
open Go.RowKit Go.Maps Go.ChangeShapes Go.WideShapes

theorem ld8 (b o : Nat) (v : Int) (W : World) (h : W.cell? ⟨b, o, none⟩ = some (.int .u8 v)) : (Instr.loadAt 5 (.pointer (some ⟨b, o, none⟩))).run Try.prog W = .ok (.int .u8 v) W := by go_simp
theorem wrap_u64 (n : Nat) (h : n < 18446744073709551616) : IntKind.u64.wrap (n : Int) = (n : Int) := by
  simp [IntKind.wrap, IntKind.signed, IntKind.bits]
  omega
def wantI : Option Nat → Int
  | none => -1
  | some m => m
theorem wantI_none : wantI none = -1 := rfl
theorem wantI_some (m : Nat) : wantI (some m) = (m : Int) := rfl

set_option maxHeartbeats 16000000 in
set_option maxRecDepth 1000000 in
theorem sure_loop (w : World) (vl : Value) (l : List UInt16) (sn keep : Nat) (hl : In16 w w.heap.size vl l) (hs : sn ≤ 255) (hkeep : keep < 18446744073709551616) (h100 : l.length ≤ 100) (h0 : 0 < l.length) :
    Calls Try.prog 4 #[vl, .int .u8 (sn : Int), .int .u64 (keep : Int)] w fun e w' => e = .returned (.bool true) ∧ Below w.heap.size w w' := by
  obtain ⟨al, cl, el, hl1, hl2, -⟩ := id hl
  subst el
  unfold maxLen at hl2
  have i1 : ¬ (100 : Int) < (l.length : Int) := by omega
  have i2 : (0 : Int) < (l.length : Int) := by omega
  obtain ⟨k, hk⟩ : ∃ k, k = sn % (l.length + 1) := ⟨_, rfl⟩
  have hkl : k ≤ l.length := by have := Nat.mod_lt sn (show l.length + 1 > 0 by omega); omega
  have ts : ((sn : Int)).tmod ((l.length : Int) + 1) = (k : Int) := by rw [hk]; exact tmod_nat sn (l.length + 1)
  have i3 : ((l.length : Int) + 1 == 0) = false := by simp; omega
  have ws := wrap_i64 sn (by omega)
  clear hk
  have kA := alive_any w
  go_enter Try.func4, Try.ntmps4
  go_wp2_with fail
  refine kA.mono ?_
  rintro e w0 ⟨rfl, b0⟩
  clear kA
  go_wp2_with fail
  refine (written_ok w0 _ l k ((hl.below b0 (Nat.le_refl _)).mono b0.size) (by omega) (by omega)).mono ?_
  rintro e w1 ⟨B, rfl, o1, b1'⟩
  have b1 := b0.trans (b1'.mono b0.size)
  have base := w0.heap.size
  have hsz0 := b0.size
  have hsync : ∀ (K : Act → World → Prop), True := fun _ => trivial
  have main : ∃ (dd : Dk), Hid (dd = wrD l k l.length) := ⟨_, rfl⟩
  obtain ⟨dd, hdd⟩ := main
  have hvw := fun a ha => wrFail_view l k l.length keep hkl a ha
  have hwl : (wrD l k l.length).ws.length = l.length - k := by rw [(wrD_is l k l.length hkl).2.1, wrWs_len]
  have hsl := (wrD_is l k l.length hkl).1
  rw [← hdd.out] at hwl hsl
  have hvd : ∀ a, a < 8 → (dd.fail keep (-1)).view a = sel l (lastK (fun i => wrA l i == a && keptB k keep i) l.length) := fun a ha => by rw [hdd.out]; exact hvw a ha
  have hfl : (dd.fail keep (-1)).sure.length = 8 := by unfold Dk.fail; rw [failTo_len]; exact hsl
  clear hvw hsync
  by_cases hkl2 : k = l.length
  · subst hkl2
    have hkl2 : l.length = l.length := rfl
    go_wp2_with fail
    refine (sync_own o1 b1'.size).mono ?_
    rintro e w2 ⟨rfl, o2', b2'⟩
    have o2 : Own w0.heap.size w2 B dd := by rw [hdd.out]; unfold wrD; rw [if_pos rfl]; exact o2'
    have b2 := b1.trans (b2'.mono hsz0)
    have hkeq : Hid (l.length = l.length) := rfl
    clear o1 o2' b2'
    try clear hkl2
    go_wp2_with fail
    refine (al_fail o2 b2 b2.size keep hkeep (keep : Int) rfl (-1) (by decide)).mono ?_
    rintro e w3 ⟨Bc, rfl, b3, c3, f3⟩
    have o3 := o2.below c3
    clear o2 b2 c3 b1
    go_wp2_with fail
    refine (waits_own f3).mono ?_
    rintro e w3' ⟨rfl, rfl⟩
    go_wp2_with fail
    refine (waits_own o3).mono ?_
    rintro e w3' ⟨rfl, rfl⟩
    rw [hwl]
    have e6 : ((l.length - l.length : Nat) : Int) = (l.length : Int) - (l.length : Int) := by omega
    rw [e6]
    clear e6
    obtain ⟨dc, hdc⟩ : ∃ dc, Hid (dc = dd.fail keep (-1)) := ⟨_, rfl⟩
    rw [← hdc.out] at f3 hfl
    have hvc : ∀ a, a < 8 → dc.view a = sel l (lastK (fun i => wrA l i == a && keptB l.length keep i) l.length) := fun a ha => by rw [hdc.out]; exact hvd a ha
    have b3s := b3.size
    obtain ⟨base, hbase⟩ : ∃ base, Own base w3 Bc dc := ⟨_, f3⟩
    clear o3 f3 hvd hdd hwl hsl hdc
    go_wp2_with fail
    go_loopw [11] (fun i wr => ∃ a : Nat, a ≤ 8 ∧ i = .int .i64 (a : Int) ∧ Own base wr Bc dc ∧ Below w.heap.size w wr ∧ w.heap.size ≤ wr.heap.size) (fun i _ => 8 - (intOf i).toNat)
    case atStart => exact ⟨0, by omega, rfl, hbase, b3, b3s⟩
    case round =>
      obtain ⟨a, ha, rfl, hoc, hbo, hso⟩ := hrel
      obtain ⟨wo, rfl⟩ : ∃ wo, wo = wr := ⟨_, rfl⟩
      by_cases ha8 : a < 8
      · have a1 : (a : Int) < 8 := by omega
        have kr := read_own hoc a (by rw [hfl]; exact ha8)
        rw [hvc a ha8] at kr
        go_wp2_with fail
        go_loopw [12, 13] (fun wn i wq => wq = wo ∧ ∃ j : Nat, j ≤ l.length ∧ i = .int .i64 (j : Int) ∧ wn = .int .i64 (wantI (lastK (fun i => wrA l i == a && keptB l.length keep i) j))) (fun _ i _ => l.length - (intOf i).toNat)
        case atStart => exact ⟨rfl, 0, by omega, rfl, rfl⟩
        case round =>
          obtain ⟨rfl, j, hj, rfl, rfl⟩ := hrel
          obtain ⟨wo, rfl⟩ : ∃ wo, wo = wr := ⟨_, rfl⟩
          by_cases hjl : j < l.length
          · obtain ⟨bl, ol, rfl, hbl, hcl⟩ := in16_cell hl hjl
            obtain ⟨x, hx⟩ : ∃ x, x = l[j]'hjl := ⟨_, rfl⟩
            have hgd : l.getD j 0 = x := by rw [hx]; simp [hjl]
            have hc : wo.cell? ⟨bl, ol + j, none⟩ = some (.int .u16 (x.toNat : Int)) := by
              rw [World.cell?_of_block (w := w) (hbo.block bl hbl), hx]
              exact hcl j hjl
            have hx16 := x.toNat_lt
            obtain ⟨xm, hxm⟩ : ∃ xm, xm = x.toNat % 8 := ⟨_, rfl⟩
            have t8 : ((x.toNat : Int)).tmod 8 = (xm : Int) := by rw [hxm]; exact tmod_nat _ 8
            have wx := wrap_i64 x.toNat (by omega)
            have hwa : wrA l j = xm := by unfold wrA; rw [hgd, hxm]
            have j1 : (j : Int) < (l.length : Int) := by omega
            have jl : ¬ l.length ≤ j := by omega
            clear hx hgd hcl hxm
            have hik : j < l.length := by have := hkeq.out; omega
            have e1 : (j : Int) < (l.length : Int) := by omega

            have hkv : keptB l.length keep j = true := by unfold keptB; simp [hik]
            by_cases hxa : xm = a
            · have e5 : ((xm : Int) == (a : Int)) = true := by simp; omega
              have hP : lastK (fun i => wrA l i == a && keptB l.length keep i) (j + 1) = some j := by
                rw [lastK, hwa, hkv]
                simp [hxa]
              have fin : ∃ j1 : Nat, j1 ≤ l.length ∧ Value.int .i64 ((j : Int) + 1) = .int .i64 (j1 : Int) ∧ Value.int .i64 (j : Int) = .int .i64 (wantI (lastK (fun i => wrA l i == a && keptB l.length keep i) j1)) := ⟨j + 1, by omega, by simp, by rw [hP]; rfl⟩
              clear hP hkv hwa
              try clear hjt
              go_wp2
              go_roundw
              case rel => exact ⟨trivial, fin⟩
              case measure => simp [intOf]; omega
            · have e5 : ((xm : Int) == (a : Int)) = false := by simp; omega
              have hP : lastK (fun i => wrA l i == a && keptB l.length keep i) (j + 1) = lastK (fun i => wrA l i == a && keptB l.length keep i) j := by
                rw [lastK, hwa]
                simp [hxa]
              have fin : ∃ j1 : Nat, j1 ≤ l.length ∧ Value.int .i64 ((j : Int) + 1) = .int .i64 (j1 : Int) ∧ Value.int .i64 (wantI (lastK (fun i => wrA l i == a && keptB l.length keep i) j)) = .int .i64 (wantI (lastK (fun i => wrA l i == a && keptB l.length keep i) j1)) := ⟨j + 1, by omega, by simp, by rw [hP]⟩
              clear hP hkv hwa
              try clear hjt
              generalize wantI (lastK (fun i => wrA l i == a && keptB l.length keep i) j) = wn at *
              go_wp2
              go_roundw
              case rel => exact ⟨trivial, fin⟩
              case measure => simp [intOf]; omega
          · have ejl : j = l.length := by omega
            have j1 : ¬ (j : Int) < (l.length : Int) := by omega
            subst ejl
            obtain ⟨L, hL⟩ : ∃ L, lastK (fun i => wrA l i == a && keptB l.length keep i) l.length = L := ⟨_, rfl⟩
            rw [hL] at kr ⊢
            cases L with
            | none =>
              rw [wantI_none]
              clear hL hl hvc
              go_wp2_with (go_at_call 8; refine kr.mono ?_; rintro e w2 ⟨rfl, r2, b2⟩)
              have b2w := hbo.trans (b2.mono hbo.size)
              have o2 := hoc.below b2
              have s2 := Nat.le_trans hso b2.size
              have c0 := row_cell r2 (c := 0) (z64_get (show 0 < 64 by omega))
              have c1 := row_cell r2 (c := 0) (z64_get (show 1 < 64 by omega))
              have fin : ∃ a1 : Nat, a1 ≤ 8 ∧ Value.int .i64 ((a : Int) + 1) = .int .i64 (a1 : Int) ∧ Own base w2.drew Bc dc ∧ Below w.heap.size w w2.drew ∧ w.heap.size ≤ w2.drew.heap.size := ⟨a + 1, by omega, by simp, o2.drew, b2w.drew, s2⟩
              clear kr hoc hbo b2w o2 s2 b2 hso
              clear r2
              generalize wo.heap.size + 1 = gx at *
              refine wp_region_noPanic ?_
              refine wp_region_held_drew (S := fun W => W.cell? ⟨gx, 0, none⟩ = some (.int .u8 0) ∧ W.cell? ⟨gx, 1, none⟩ = some (.int .u8 0)) (by kernel_rfl) ⟨c0, c1⟩ (fun hHeld => ?_)
              refine wpAnyH_take (i := 0) (oi := { dst := some 126, op := Go.Op.move (Go.Operand.tmp 12), type := 3, pos := _, after := #[], guard := none }) (v := .int .i64 (-1)) rfl (by kernel_rfl) (by kernel_rfl) (by kernel_rfl) (fun _ _ _ h => h) (Or.inl ⟨by rfl, fun W hW => by go_simp⟩) (by assumption) ?_
              try simp only [Act.put, List.setIfInBounds_toArray, List.set_cons_zero, List.set_cons_succ]
              refine wpAnyH_take (i := 1) (oi := { dst := some 127, op := Go.Op.binOp Go.BinOp.lss 3 (Go.Operand.tmp 126) (Go.Operand.const (Go.Value.int Go.IntKind.i64 0)) 3, type := 4, pos := _, after := #[{ on := 0, ground := Go.Ground.data }], guard := none }) (v := .bool true) rfl (by kernel_rfl) (by kernel_rfl) (by kernel_rfl) (fun _ _ _ h => h) (Or.inl ⟨by rfl, fun W hW => by go_simp⟩) (by assumption) ?_
              try simp only [Act.put, List.setIfInBounds_toArray, List.set_cons_zero, List.set_cons_succ]
              refine wpAnyH_take (i := 2) (oi := { dst := some 128, op := Go.Op.move (Go.Operand.tmp 127), type := 4, pos := _, after := #[{ on := 1, ground := Go.Ground.data }], guard := none }) (v := .bool true) rfl (by kernel_rfl) (by kernel_rfl) (by kernel_rfl) (fun _ _ _ h => h) (Or.inl ⟨by rfl, fun W hW => by go_simp⟩) (by assumption) ?_
              try simp only [Act.put, List.setIfInBounds_toArray, List.set_cons_zero, List.set_cons_succ]
              refine wpAnyH_take (i := 3) (oi := { dst := some 129, op := Go.Op.move (Go.Operand.tmp 15), type := 22, pos := _, after := #[{ on := 2, ground := Go.Ground.guard }], guard := some (2, true) }) (v := .slice (some ⟨gx, 0, none⟩) 64 64) rfl (by kernel_rfl) (by kernel_rfl) (by kernel_rfl) (fun _ _ _ h => h) (Or.inl ⟨by rfl, fun W hW => by go_simp⟩) (by assumption) ?_
              try simp only [Act.put, List.setIfInBounds_toArray, List.set_cons_zero, List.set_cons_succ]
              refine wpAnyH_take (i := 4) (oi := { dst := some 130, op := Go.Op.indexAddr 22 (Go.Operand.tmp 129) (Go.Operand.const (Go.Value.int Go.IntKind.i64 0)), type := 0, pos := _, after := #[{ on := 3, ground := Go.Ground.data }, { on := 2, ground := Go.Ground.guard }], guard := some (2, true) }) (v := .pointer (some ⟨gx, 0, none⟩)) rfl (by kernel_rfl) (by kernel_rfl) (by kernel_rfl) (fun _ _ _ h => h) (Or.inl ⟨by rfl, fun W hW => by go_simp⟩) (by assumption) ?_
              try simp only [Act.put, List.setIfInBounds_toArray, List.set_cons_zero, List.set_cons_succ]
              refine wpAnyH_take (i := 5) (oi := { dst := some 131, op := Go.Op.load 5 (Go.Operand.tmp 130), type := 5, pos := _, after := #[{ on := 4, ground := Go.Ground.data }, { on := 2, ground := Go.Ground.guard }], guard := some (2, true) }) (v := .int .u8 0) rfl (by kernel_rfl) (by kernel_rfl) (by kernel_rfl) (fun _ _ _ h => h) (yieldsIf_load (by rfl) 5 (.tmp 130) rfl _ _ rfl (fun W hW => ld8 _ _ _ W hW.1)) (by assumption) ?_
              try simp only [Act.put, List.setIfInBounds_toArray, List.set_cons_zero, List.set_cons_succ]
              refine wpAnyH_take (i := 6) (oi := { dst := some 132, op := Go.Op.binOp Go.BinOp.neq 5 (Go.Operand.tmp 131) (Go.Operand.const (Go.Value.int Go.IntKind.u8 0)) 5, type := 4, pos := _, after := #[{ on := 5, ground := Go.Ground.data }, { on := 2, ground := Go.Ground.guard }], guard := some (2, true) }) (v := .bool false) rfl (by kernel_rfl) (by kernel_rfl) (by kernel_rfl) (fun _ _ _ h => h) (Or.inl ⟨by rfl, fun W hW => by go_simp⟩) (by assumption) ?_
              try simp only [Act.put, List.setIfInBounds_toArray, List.set_cons_zero, List.set_cons_succ]
              refine wpAnyH_take (i := 7) (oi := { dst := some 133, op := Go.Op.move (Go.Operand.tmp 132), type := 4, pos := _, after := #[{ on := 6, ground := Go.Ground.data }, { on := 2, ground := Go.Ground.chain }, { on := 2, ground := Go.Ground.guard }], guard := some (2, true) }) (v := .bool false) rfl (by kernel_rfl) (by kernel_rfl) (by kernel_rfl) (fun _ _ _ h => h) (Or.inl ⟨by rfl, fun W hW => by go_simp⟩) (by assumption) ?_
              try simp only [Act.put, List.setIfInBounds_toArray, List.set_cons_zero, List.set_cons_succ]
              refine wpAnyH_take (i := 8) (oi := { dst := some 134, op := Go.Op.move (Go.Operand.tmp 15), type := 22, pos := _, after := #[{ on := 7, ground := Go.Ground.guard }], guard := some (7, false) }) (v := .slice (some ⟨gx, 0, none⟩) 64 64) rfl (by kernel_rfl) (by kernel_rfl) (by kernel_rfl) (fun _ _ _ h => h) (Or.inl ⟨by rfl, fun W hW => by go_simp⟩) (by assumption) ?_
              try simp only [Act.put, List.setIfInBounds_toArray, List.set_cons_zero, List.set_cons_succ]
              refine wpAnyH_take (i := 9) (oi := { dst := some 135, op := Go.Op.indexAddr 22 (Go.Operand.tmp 134) (Go.Operand.const (Go.Value.int Go.IntKind.i64 1)), type := 0, pos := _, after := #[{ on := 8, ground := Go.Ground.data }, { on := 7, ground := Go.Ground.guard }], guard := some (7, false) }) (v := .pointer (some ⟨gx, 1, none⟩)) rfl (by kernel_rfl) (by kernel_rfl) (by kernel_rfl) (fun _ _ _ h => h) (Or.inl ⟨by rfl, fun W hW => by go_simp⟩) (by assumption) ?_
              try simp only [Act.put, List.setIfInBounds_toArray, List.set_cons_zero, List.set_cons_succ]
              refine wpAnyH_take (i := 10) (oi := { dst := some 136, op := Go.Op.load 5 (Go.Operand.tmp 135), type := 5, pos := _, after := #[{ on := 9, ground := Go.Ground.data }, { on := 7, ground := Go.Ground.guard }], guard := some (7, false) }) (v := .int .u8 0) rfl (by kernel_rfl) (by kernel_rfl) (by kernel_rfl) (fun _ _ _ h => h) (yieldsIf_load (by rfl) 5 (.tmp 135) rfl _ _ rfl (fun W hW => ld8 _ _ _ W hW.2)) (by assumption) ?_
              try simp only [Act.put, List.setIfInBounds_toArray, List.set_cons_zero, List.set_cons_succ]
              refine wpAnyH_take (i := 11) (oi := { dst := some 137, op := Go.Op.binOp Go.BinOp.neq 5 (Go.Operand.tmp 136) (Go.Operand.const (Go.Value.int Go.IntKind.u8 0)) 5, type := 4, pos := _, after := #[{ on := 10, ground := Go.Ground.data }, { on := 7, ground := Go.Ground.guard }], guard := some (7, false) }) (v := .bool false) rfl (by kernel_rfl) (by kernel_rfl) (by kernel_rfl) (fun _ _ _ h => h) (Or.inl ⟨by rfl, fun W hW => by go_simp⟩) (by assumption) ?_
              try simp only [Act.put, List.setIfInBounds_toArray, List.set_cons_zero, List.set_cons_succ]
              refine wpAnyH_take (i := 12) (oi := { dst := some 138, op := Go.Op.pick (Go.Operand.tmp 133) (Go.Operand.const (Go.Value.bool true)) (Go.Operand.tmp 137), type := 4, pos := _, after := #[{ on := 7, ground := Go.Ground.data }, { on := 11, ground := Go.Ground.data }, { on := 2, ground := Go.Ground.guard }], guard := some (2, true) }) (v := .bool false) rfl (by kernel_rfl) (by kernel_rfl) (by kernel_rfl) (fun _ _ _ h => h) (Or.inl ⟨by rfl, fun W hW => by go_simp⟩) (by assumption) ?_
              try simp only [Act.put, List.setIfInBounds_toArray, List.set_cons_zero, List.set_cons_succ]
              refine wpAnyH_take (i := 13) (oi := { dst := some 139, op := Go.Op.pick (Go.Operand.tmp 128) (Go.Operand.tmp 138) (Go.Operand.const (Go.Value.bool false)), type := 4, pos := _, after := #[{ on := 2, ground := Go.Ground.data }, { on := 12, ground := Go.Ground.data }], guard := none }) (v := .bool false) rfl (by kernel_rfl) (by kernel_rfl) (by kernel_rfl) (fun _ _ _ h => h) (Or.inl ⟨by rfl, fun W hW => by go_simp⟩) (by assumption) ?_
              try simp only [Act.put, List.setIfInBounds_toArray, List.set_cons_zero, List.set_cons_succ]
              refine wpAnyH_take (i := 14) (oi := { dst := some 140, op := Go.Op.move (Go.Operand.tmp 139), type := 4, pos := _, after := #[{ on := 13, ground := Go.Ground.data }, { on := 7, ground := Go.Ground.chain }], guard := none }) (v := .bool false) rfl (by kernel_rfl) (by kernel_rfl) (by kernel_rfl) (fun _ _ _ h => h) (Or.inl ⟨by rfl, fun W hW => by go_simp⟩) (by assumption) ?_
              try simp only [Act.put, List.setIfInBounds_toArray, List.set_cons_zero, List.set_cons_succ]
              refine wpAnyH_take (i := 15) (oi := { dst := some 141, op := Go.Op.move (Go.Operand.tmp 12), type := 3, pos := _, after := #[{ on := 14, ground := Go.Ground.guard }], guard := some (14, false) }) (v := .int .i64 (-1)) rfl (by kernel_rfl) (by kernel_rfl) (by kernel_rfl) (fun _ _ _ h => h) (Or.inl ⟨by rfl, fun W hW => by go_simp⟩) (by assumption) ?_
              try simp only [Act.put, List.setIfInBounds_toArray, List.set_cons_zero, List.set_cons_succ]
              refine wpAnyH_take (i := 16) (oi := { dst := some 142, op := Go.Op.binOp Go.BinOp.geq 3 (Go.Operand.tmp 141) (Go.Operand.const (Go.Value.int Go.IntKind.i64 0)) 3, type := 4, pos := _, after := #[{ on := 15, ground := Go.Ground.data }, { on := 14, ground := Go.Ground.guard }], guard := some (14, false) }) (v := .bool false) rfl (by kernel_rfl) (by kernel_rfl) (by kernel_rfl) (fun _ _ _ h => h) (Or.inl ⟨by rfl, fun W hW => by go_simp⟩) (by assumption) ?_
              try simp only [Act.put, List.setIfInBounds_toArray, List.set_cons_zero, List.set_cons_succ]
              refine wpAnyH_take (i := 17) (oi := { dst := some 143, op := Go.Op.move (Go.Operand.tmp 142), type := 4, pos := _, after := #[{ on := 16, ground := Go.Ground.data }, { on := 14, ground := Go.Ground.chain }, { on := 14, ground := Go.Ground.guard }], guard := some (14, false) }) (v := .bool false) rfl (by kernel_rfl) (by kernel_rfl) (by kernel_rfl) (fun _ _ _ h => h) (Or.inl ⟨by rfl, fun W hW => by go_simp⟩) (by assumption) ?_
              try simp only [Act.put, List.setIfInBounds_toArray, List.set_cons_zero, List.set_cons_succ]
              refine wpAnyH_take (i := 18) (oi := { dst := some 144, op := Go.Op.move (Go.Operand.tmp 15), type := 22, pos := _, after := #[{ on := 17, ground := Go.Ground.guard }], guard := some (17, true) }) (v := undef) rfl (by kernel_rfl) (by kernel_rfl) (by kernel_rfl) (fun _ _ _ h => h) (Or.inr ⟨by rfl, rfl⟩) (by assumption) ?_
              try simp only [Act.put, List.setIfInBounds_toArray, List.set_cons_zero, List.set_cons_succ]
              refine wpAnyH_take (i := 19) (oi := { dst := some 145, op := Go.Op.indexAddr 22 (Go.Operand.tmp 144) (Go.Operand.const (Go.Value.int Go.IntKind.i64 0)), type := 0, pos := _, after := #[{ on := 18, ground := Go.Ground.data }, { on := 17, ground := Go.Ground.guard }], guard := some (17, true) }) (v := undef) rfl (by kernel_rfl) (by kernel_rfl) (by kernel_rfl) (fun _ _ _ h => h) (Or.inr ⟨by rfl, rfl⟩) (by assumption) ?_
              try simp only [Act.put, List.setIfInBounds_toArray, List.set_cons_zero, List.set_cons_succ]
              refine wpAnyH_take (i := 20) (oi := { dst := some 146, op := Go.Op.load 5 (Go.Operand.tmp 145), type := 5, pos := _, after := #[{ on := 19, ground := Go.Ground.data }, { on := 17, ground := Go.Ground.guard }], guard := some (17, true) }) (v := undef) rfl (by kernel_rfl) (by kernel_rfl) (by kernel_rfl) (fun _ _ _ h => h) (Or.inr ⟨by rfl, rfl⟩) (by assumption) ?_
              try simp only [Act.put, List.setIfInBounds_toArray, List.set_cons_zero, List.set_cons_succ]
              refine wpAnyH_take (i := 21) (oi := { dst := some 147, op := Go.Op.move (Go.Operand.tmp 12), type := 3, pos := _, after := #[{ on := 17, ground := Go.Ground.guard }], guard := some (17, true) }) (v := undef) rfl (by kernel_rfl) (by kernel_rfl) (by kernel_rfl) (fun _ _ _ h => h) (Or.inr ⟨by rfl, rfl⟩) (by assumption) ?_
              try simp only [Act.put, List.setIfInBounds_toArray, List.set_cons_zero, List.set_cons_succ]
              refine wpAnyH_take (i := 22) (oi := { dst := some 148, op := Go.Op.convert 3 5 (Go.Operand.tmp 147), type := 5, pos := _, after := #[{ on := 21, ground := Go.Ground.data }, { on := 17, ground := Go.Ground.guard }], guard := some (17, true) }) (v := undef) rfl (by kernel_rfl) (by kernel_rfl) (by kernel_rfl) (fun _ _ _ h => h) (Or.inr ⟨by rfl, rfl⟩) (by assumption) ?_
              try simp only [Act.put, List.setIfInBounds_toArray, List.set_cons_zero, List.set_cons_succ]
              refine wpAnyH_take (i := 23) (oi := { dst := some 149, op := Go.Op.binOp Go.BinOp.neq 5 (Go.Operand.tmp 146) (Go.Operand.tmp 148) 5, type := 4, pos := _, after := #[{ on := 20, ground := Go.Ground.data }, { on := 22, ground := Go.Ground.data }, { on := 17, ground := Go.Ground.guard }], guard := some (17, true) }) (v := undef) rfl (by kernel_rfl) (by kernel_rfl) (by kernel_rfl) (fun _ _ _ h => h) (Or.inr ⟨by rfl, rfl⟩) (by assumption) ?_
              try simp only [Act.put, List.setIfInBounds_toArray, List.set_cons_zero, List.set_cons_succ]
              refine wpAnyH_take (i := 24) (oi := { dst := some 150, op := Go.Op.move (Go.Operand.tmp 149), type := 4, pos := _, after := #[{ on := 23, ground := Go.Ground.data }, { on := 17, ground := Go.Ground.chain }, { on := 17, ground := Go.Ground.guard }], guard := some (17, true) }) (v := undef) rfl (by kernel_rfl) (by kernel_rfl) (by kernel_rfl) (fun _ _ _ h => h) (Or.inr ⟨by rfl, rfl⟩) (by assumption) ?_
              try simp only [Act.put, List.setIfInBounds_toArray, List.set_cons_zero, List.set_cons_succ]
              refine wpAnyH_take (i := 25) (oi := { dst := some 151, op := Go.Op.move (Go.Operand.tmp 15), type := 22, pos := _, after := #[{ on := 24, ground := Go.Ground.guard }], guard := some (24, false) }) (v := undef) rfl (by kernel_rfl) (by kernel_rfl) (by kernel_rfl) (fun _ _ _ h => h) (Or.inr ⟨by rfl, rfl⟩) (by assumption) ?_
              try simp only [Act.put, List.setIfInBounds_toArray, List.set_cons_zero, List.set_cons_succ]
              refine wpAnyH_take (i := 26) (oi := { dst := some 152, op := Go.Op.indexAddr 22 (Go.Operand.tmp 151) (Go.Operand.const (Go.Value.int Go.IntKind.i64 1)), type := 0, pos := _, after := #[{ on := 25, ground := Go.Ground.data }, { on := 24, ground := Go.Ground.guard }], guard := some (24, false) }) (v := undef) rfl (by kernel_rfl) (by kernel_rfl) (by kernel_rfl) (fun _ _ _ h => h) (Or.inr ⟨by rfl, rfl⟩) (by assumption) ?_
              try simp only [Act.put, List.setIfInBounds_toArray, List.set_cons_zero, List.set_cons_succ]
              refine wpAnyH_take (i := 27) (oi := { dst := some 153, op := Go.Op.load 5 (Go.Operand.tmp 152), type := 5, pos := _, after := #[{ on := 26, ground := Go.Ground.data }, { on := 24, ground := Go.Ground.guard }], guard := some (24, false) }) (v := undef) rfl (by kernel_rfl) (by kernel_rfl) (by kernel_rfl) (fun _ _ _ h => h) (Or.inr ⟨by rfl, rfl⟩) (by assumption) ?_
              try simp only [Act.put, List.setIfInBounds_toArray, List.set_cons_zero, List.set_cons_succ]
              refine wpAnyH_take (i := 28) (oi := { dst := some 154, op := Go.Op.move (Go.Operand.tmp 0), type := 40, pos := _, after := #[{ on := 24, ground := Go.Ground.guard }], guard := some (24, false) }) (v := undef) rfl (by kernel_rfl) (by kernel_rfl) (by kernel_rfl) (fun _ _ _ h => h) (Or.inr ⟨by rfl, rfl⟩) (by assumption) ?_
              try simp only [Act.put, List.setIfInBounds_toArray, List.set_cons_zero, List.set_cons_succ]
              refine wpAnyH_take (i := 29) (oi := { dst := some 155, op := Go.Op.move (Go.Operand.tmp 12), type := 3, pos := _, after := #[{ on := 24, ground := Go.Ground.guard }], guard := some (24, false) }) (v := undef) rfl (by kernel_rfl) (by kernel_rfl) (by kernel_rfl) (fun _ _ _ h => h) (Or.inr ⟨by rfl, rfl⟩) (by assumption) ?_
              try simp only [Act.put, List.setIfInBounds_toArray, List.set_cons_zero, List.set_cons_succ]
              refine wpAnyH_take (i := 30) (oi := { dst := some 156, op := Go.Op.indexAddr 40 (Go.Operand.tmp 154) (Go.Operand.tmp 155), type := 0, pos := _, after := #[{ on := 28, ground := Go.Ground.data }, { on := 29, ground := Go.Ground.data }, { on := 24, ground := Go.Ground.guard }], guard := some (24, false) }) (v := undef) rfl (by kernel_rfl) (by kernel_rfl) (by kernel_rfl) (fun _ _ _ h => h) (Or.inr ⟨by rfl, rfl⟩) (by assumption) ?_
              try simp only [Act.put, List.setIfInBounds_toArray, List.set_cons_zero, List.set_cons_succ]
              refine wpAnyH_take (i := 31) (oi := { dst := some 157, op := Go.Op.load 44 (Go.Operand.tmp 156), type := 44, pos := _, after := #[{ on := 30, ground := Go.Ground.data }, { on := 24, ground := Go.Ground.guard }], guard := some (24, false) }) (v := undef) rfl (by kernel_rfl) (by kernel_rfl) (by kernel_rfl) (fun _ _ _ h => h) (Or.inr ⟨by rfl, rfl⟩) (by assumption) ?_
              try simp only [Act.put, List.setIfInBounds_toArray, List.set_cons_zero, List.set_cons_succ]
              refine wpAnyH_take (i := 32) (oi := { dst := some 158, op := Go.Op.convert 44 5 (Go.Operand.tmp 157), type := 5, pos := _, after := #[{ on := 31, ground := Go.Ground.data }, { on := 24, ground := Go.Ground.guard }], guard := some (24, false) }) (v := undef) rfl (by kernel_rfl) (by kernel_rfl) (by kernel_rfl) (fun _ _ _ h => h) (Or.inr ⟨by rfl, rfl⟩) (by assumption) ?_
              try simp only [Act.put, List.setIfInBounds_toArray, List.set_cons_zero, List.set_cons_succ]
              refine wpAnyH_take (i := 33) (oi := { dst := some 159, op := Go.Op.binOp Go.BinOp.neq 5 (Go.Operand.tmp 153) (Go.Operand.tmp 158) 5, type := 4, pos := _, after := #[{ on := 27, ground := Go.Ground.data }, { on := 32, ground := Go.Ground.data }, { on := 24, ground := Go.Ground.guard }], guard := some (24, false) }) (v := undef) rfl (by kernel_rfl) (by kernel_rfl) (by kernel_rfl) (fun _ _ _ h => h) (Or.inr ⟨by rfl, rfl⟩) (by assumption) ?_
              try simp only [Act.put, List.setIfInBounds_toArray, List.set_cons_zero, List.set_cons_succ]
              refine wpAnyH_take (i := 34) (oi := { dst := some 160, op := Go.Op.pick (Go.Operand.tmp 150) (Go.Operand.const (Go.Value.bool true)) (Go.Operand.tmp 159), type := 4, pos := _, after := #[{ on := 24, ground := Go.Ground.data }, { on := 33, ground := Go.Ground.data }, { on := 17, ground := Go.Ground.guard }], guard := some (17, true) }) (v := undef) rfl (by kernel_rfl) (by kernel_rfl) (by kernel_rfl) (fun _ _ _ h => h) (Or.inr ⟨by rfl, rfl⟩) (by assumption) ?_
              try simp only [Act.put, List.setIfInBounds_toArray, List.set_cons_zero, List.set_cons_succ]
              refine wpAnyH_take (i := 35) (oi := { dst := some 161, op := Go.Op.pick (Go.Operand.tmp 143) (Go.Operand.tmp 160) (Go.Operand.const (Go.Value.bool false)), type := 4, pos := _, after := #[{ on := 17, ground := Go.Ground.data }, { on := 34, ground := Go.Ground.data }, { on := 14, ground := Go.Ground.guard }], guard := some (14, false) }) (v := .bool false) rfl (by kernel_rfl) (by kernel_rfl) (by kernel_rfl) (fun _ _ _ h => h) (Or.inl ⟨by rfl, fun W hW => by go_simp⟩) (by assumption) ?_
              try simp only [Act.put, List.setIfInBounds_toArray, List.set_cons_zero, List.set_cons_succ]
              refine wpAnyH_take (i := 36) (oi := { dst := some 162, op := Go.Op.pick (Go.Operand.tmp 140) (Go.Operand.const (Go.Value.bool true)) (Go.Operand.tmp 161), type := 4, pos := _, after := #[{ on := 14, ground := Go.Ground.data }, { on := 35, ground := Go.Ground.data }], guard := none }) (v := .bool false) rfl (by kernel_rfl) (by kernel_rfl) (by kernel_rfl) (fun _ _ _ h => h) (Or.inl ⟨by rfl, fun W hW => by go_simp⟩) (by assumption) ?_
              try simp only [Act.put, List.setIfInBounds_toArray, List.set_cons_zero, List.set_cons_succ]
              refine wpAnyH_done (by kernel_rfl) ?_ _
              refine NoPanic.normal ?_
              go_wp2
              go_roundw
              case rel => first | exact fin | ((repeat apply Exists.intro); exact ⟨fin, rfl⟩)
              case measure => simp [intOf]; omega
            | some m =>
              rw [wantI_some]
              go_wp2_with (go_at_call 8; refine kr.mono ?_; rintro e w2 ⟨rfl, r2, b2⟩)
              have b2w := hbo.trans (b2.mono hbo.size)
              have o2 := hoc.below b2
              have s2 := Nat.le_trans hso b2.size
              have hml : m < l.length := lastK_lt hL
              obtain ⟨bl, ol, rfl, hbl, hcl⟩ := in16_cell hl hml
              obtain ⟨x, hx⟩ : ∃ x, x = l[m]'hml := ⟨_, rfl⟩
              have hgd : l.getD m 0 = x := by rw [hx]; simp [hml]
              have c2 : w2.cell? ⟨bl, ol + m, none⟩ = some (.int .u16 (x.toNat : Int)) := by
                rw [World.cell?_of_block (w := w) (b2w.block bl hbl), hx]
                exact hcl m hml
              obtain ⟨y, hy⟩ : ∃ y, y = UInt8.ofNat m := ⟨_, rfl⟩
              obtain ⟨z, hz⟩ : ∃ z, z = UInt8.ofNat x.toNat := ⟨_, rfl⟩
              have cv1 : ∀ W, (convert 3 5 (.int .i64 (m : Int))).run Try.prog W = .ok (.int .u8 (y.toNat : Int)) W := fun W => by rw [hy]; exact conv_i m W
              have cv2 : ∀ W, (convert 44 5 (.int .u16 (x.toNat : Int))).run Try.prog W = .ok (.int .u8 (z.toNat : Int)) W := fun W => by rw [hz]; exact conv_w x.toNat W
              have hwb : wrB l m = [y, z] := by unfold wrB; rw [hgd, hy, hz]
              have r3 : w2.heap[wo.heap.size + 1]? = some (.cells (bcells (pad [y, z])).toArray 5 (0, 0)) := by rw [r2, ← hwb]; rfl
              have c0 := row_cell r3 (pad_get [y, z] 0 (by omega))
              have c1 := row_cell r3 (pad_get [y, z] 1 (by omega))
              have c0' : w2.cell? ⟨wo.heap.size + 1, 0, none⟩ = some (.int .u8 (y.toNat : Int)) := c0
              have c1' : w2.cell? ⟨wo.heap.size + 1, 1, none⟩ = some (.int .u8 (z.toNat : Int)) := c1
              have hml' : ¬ l.length ≤ m := by omega
              have hml2 : (m : Int) < (l.length : Int) := by omega
              have fin : ∃ a1 : Nat, a1 ≤ 8 ∧ Value.int .i64 ((a : Int) + 1) = .int .i64 (a1 : Int) ∧ Own base w2.drew Bc dc ∧ Below w.heap.size w w2.drew ∧ w.heap.size ≤ w2.drew.heap.size := ⟨a + 1, by omega, by simp, o2.drew, b2w.drew, s2⟩
              clear kr hoc hbo b2w o2 s2 b2 hso
              clear r2 r3 c0 c1 hwb hgd hx hy hz hcl hL
              generalize wo.heap.size + 1 = gx at *
              refine wp_region_noPanic ?_
              refine wp_region_held_drew (S := fun W => W.cell? ⟨gx, 0, none⟩ = some (.int .u8 (y.toNat : Int)) ∧ W.cell? ⟨gx, 1, none⟩ = some (.int .u8 (z.toNat : Int)) ∧ W.cell? ⟨bl, ol + m, none⟩ = some (.int .u16 (x.toNat : Int))) (by kernel_rfl) ⟨c0', c1', c2⟩ (fun hHeld => ?_)
              refine wpAnyH_take (i := 0) (oi := { dst := some 126, op := Go.Op.move (Go.Operand.tmp 12), type := 3, pos := _, after := #[], guard := none }) (v := .int .i64 (m : Int)) rfl (by kernel_rfl) (by kernel_rfl) (by kernel_rfl) (fun _ _ _ h => h) (Or.inl ⟨by rfl, fun W hW => by go_simp⟩) (by assumption) ?_
              try simp only [Act.put, List.setIfInBounds_toArray, List.set_cons_zero, List.set_cons_succ]
              refine wpAnyH_take (i := 1) (oi := { dst := some 127, op := Go.Op.binOp Go.BinOp.lss 3 (Go.Operand.tmp 126) (Go.Operand.const (Go.Value.int Go.IntKind.i64 0)) 3, type := 4, pos := _, after := #[{ on := 0, ground := Go.Ground.data }], guard := none }) (v := .bool false) rfl (by kernel_rfl) (by kernel_rfl) (by kernel_rfl) (fun _ _ _ h => h) (Or.inl ⟨by rfl, fun W hW => by go_simp⟩) (by assumption) ?_
              try simp only [Act.put, List.setIfInBounds_toArray, List.set_cons_zero, List.set_cons_succ]
              refine wpAnyH_take (i := 2) (oi := { dst := some 128, op := Go.Op.move (Go.Operand.tmp 127), type := 4, pos := _, after := #[{ on := 1, ground := Go.Ground.data }], guard := none }) (v := .bool false) rfl (by kernel_rfl) (by kernel_rfl) (by kernel_rfl) (fun _ _ _ h => h) (Or.inl ⟨by rfl, fun W hW => by go_simp⟩) (by assumption) ?_
              try simp only [Act.put, List.setIfInBounds_toArray, List.set_cons_zero, List.set_cons_succ]
              refine wpAnyH_take (i := 3) (oi := { dst := some 129, op := Go.Op.move (Go.Operand.tmp 15), type := 22, pos := _, after := #[{ on := 2, ground := Go.Ground.guard }], guard := some (2, true) }) (v := undef) rfl (by kernel_rfl) (by kernel_rfl) (by kernel_rfl) (fun _ _ _ h => h) (Or.inr ⟨by rfl, rfl⟩) (by assumption) ?_
              try simp only [Act.put, List.setIfInBounds_toArray, List.set_cons_zero, List.set_cons_succ]
              refine wpAnyH_take (i := 4) (oi := { dst := some 130, op := Go.Op.indexAddr 22 (Go.Operand.tmp 129) (Go.Operand.const (Go.Value.int Go.IntKind.i64 0)), type := 0, pos := _, after := #[{ on := 3, ground := Go.Ground.data }, { on := 2, ground := Go.Ground.guard }], guard := some (2, true) }) (v := undef) rfl (by kernel_rfl) (by kernel_rfl) (by kernel_rfl) (fun _ _ _ h => h) (Or.inr ⟨by rfl, rfl⟩) (by assumption) ?_
              try simp only [Act.put, List.setIfInBounds_toArray, List.set_cons_zero, List.set_cons_succ]
              refine wpAnyH_take (i := 5) (oi := { dst := some 131, op := Go.Op.load 5 (Go.Operand.tmp 130), type := 5, pos := _, after := #[{ on := 4, ground := Go.Ground.data }, { on := 2, ground := Go.Ground.guard }], guard := some (2, true) }) (v := undef) rfl (by kernel_rfl) (by kernel_rfl) (by kernel_rfl) (fun _ _ _ h => h) (Or.inr ⟨by rfl, rfl⟩) (by assumption) ?_
              try simp only [Act.put, List.setIfInBounds_toArray, List.set_cons_zero, List.set_cons_succ]
              refine wpAnyH_take (i := 6) (oi := { dst := some 132, op := Go.Op.binOp Go.BinOp.neq 5 (Go.Operand.tmp 131) (Go.Operand.const (Go.Value.int Go.IntKind.u8 0)) 5, type := 4, pos := _, after := #[{ on := 5, ground := Go.Ground.data }, { on := 2, ground := Go.Ground.guard }], guard := some (2, true) }) (v := undef) rfl (by kernel_rfl) (by kernel_rfl) (by kernel_rfl) (fun _ _ _ h => h) (Or.inr ⟨by rfl, rfl⟩) (by assumption) ?_
              try simp only [Act.put, List.setIfInBounds_toArray, List.set_cons_zero, List.set_cons_succ]
              refine wpAnyH_take (i := 7) (oi := { dst := some 133, op := Go.Op.move (Go.Operand.tmp 132), type := 4, pos := _, after := #[{ on := 6, ground := Go.Ground.data }, { on := 2, ground := Go.Ground.chain }, { on := 2, ground := Go.Ground.guard }], guard := some (2, true) }) (v := undef) rfl (by kernel_rfl) (by kernel_rfl) (by kernel_rfl) (fun _ _ _ h => h) (Or.inr ⟨by rfl, rfl⟩) (by assumption) ?_
              try simp only [Act.put, List.setIfInBounds_toArray, List.set_cons_zero, List.set_cons_succ]
              refine wpAnyH_take (i := 8) (oi := { dst := some 134, op := Go.Op.move (Go.Operand.tmp 15), type := 22, pos := _, after := #[{ on := 7, ground := Go.Ground.guard }], guard := some (7, false) }) (v := undef) rfl (by kernel_rfl) (by kernel_rfl) (by kernel_rfl) (fun _ _ _ h => h) (Or.inr ⟨by rfl, rfl⟩) (by assumption) ?_
              try simp only [Act.put, List.setIfInBounds_toArray, List.set_cons_zero, List.set_cons_succ]
              refine wpAnyH_take (i := 9) (oi := { dst := some 135, op := Go.Op.indexAddr 22 (Go.Operand.tmp 134) (Go.Operand.const (Go.Value.int Go.IntKind.i64 1)), type := 0, pos := _, after := #[{ on := 8, ground := Go.Ground.data }, { on := 7, ground := Go.Ground.guard }], guard := some (7, false) }) (v := undef) rfl (by kernel_rfl) (by kernel_rfl) (by kernel_rfl) (fun _ _ _ h => h) (Or.inr ⟨by rfl, rfl⟩) (by assumption) ?_
              try simp only [Act.put, List.setIfInBounds_toArray, List.set_cons_zero, List.set_cons_succ]
              refine wpAnyH_take (i := 10) (oi := { dst := some 136, op := Go.Op.load 5 (Go.Operand.tmp 135), type := 5, pos := _, after := #[{ on := 9, ground := Go.Ground.data }, { on := 7, ground := Go.Ground.guard }], guard := some (7, false) }) (v := undef) rfl (by kernel_rfl) (by kernel_rfl) (by kernel_rfl) (fun _ _ _ h => h) (Or.inr ⟨by rfl, rfl⟩) (by assumption) ?_
              try simp only [Act.put, List.setIfInBounds_toArray, List.set_cons_zero, List.set_cons_succ]
              refine wpAnyH_take (i := 11) (oi := { dst := some 137, op := Go.Op.binOp Go.BinOp.neq 5 (Go.Operand.tmp 136) (Go.Operand.const (Go.Value.int Go.IntKind.u8 0)) 5, type := 4, pos := _, after := #[{ on := 10, ground := Go.Ground.data }, { on := 7, ground := Go.Ground.guard }], guard := some (7, false) }) (v := undef) rfl (by kernel_rfl) (by kernel_rfl) (by kernel_rfl) (fun _ _ _ h => h) (Or.inr ⟨by rfl, rfl⟩) (by assumption) ?_
              try simp only [Act.put, List.setIfInBounds_toArray, List.set_cons_zero, List.set_cons_succ]
              refine wpAnyH_take (i := 12) (oi := { dst := some 138, op := Go.Op.pick (Go.Operand.tmp 133) (Go.Operand.const (Go.Value.bool true)) (Go.Operand.tmp 137), type := 4, pos := _, after := #[{ on := 7, ground := Go.Ground.data }, { on := 11, ground := Go.Ground.data }, { on := 2, ground := Go.Ground.guard }], guard := some (2, true) }) (v := undef) rfl (by kernel_rfl) (by kernel_rfl) (by kernel_rfl) (fun _ _ _ h => h) (Or.inr ⟨by rfl, rfl⟩) (by assumption) ?_
              try simp only [Act.put, List.setIfInBounds_toArray, List.set_cons_zero, List.set_cons_succ]
              refine wpAnyH_take (i := 13) (oi := { dst := some 139, op := Go.Op.pick (Go.Operand.tmp 128) (Go.Operand.tmp 138) (Go.Operand.const (Go.Value.bool false)), type := 4, pos := _, after := #[{ on := 2, ground := Go.Ground.data }, { on := 12, ground := Go.Ground.data }], guard := none }) (v := .bool false) rfl (by kernel_rfl) (by kernel_rfl) (by kernel_rfl) (fun _ _ _ h => h) (Or.inl ⟨by rfl, fun W hW => by go_simp⟩) (by assumption) ?_
              try simp only [Act.put, List.setIfInBounds_toArray, List.set_cons_zero, List.set_cons_succ]
              refine wpAnyH_take (i := 14) (oi := { dst := some 140, op := Go.Op.move (Go.Operand.tmp 139), type := 4, pos := _, after := #[{ on := 13, ground := Go.Ground.data }, { on := 7, ground := Go.Ground.chain }], guard := none }) (v := .bool false) rfl (by kernel_rfl) (by kernel_rfl) (by kernel_rfl) (fun _ _ _ h => h) (Or.inl ⟨by rfl, fun W hW => by go_simp⟩) (by assumption) ?_
              try simp only [Act.put, List.setIfInBounds_toArray, List.set_cons_zero, List.set_cons_succ]
              refine wpAnyH_take (i := 15) (oi := { dst := some 141, op := Go.Op.move (Go.Operand.tmp 12), type := 3, pos := _, after := #[{ on := 14, ground := Go.Ground.guard }], guard := some (14, false) }) (v := .int .i64 (m : Int)) rfl (by kernel_rfl) (by kernel_rfl) (by kernel_rfl) (fun _ _ _ h => h) (Or.inl ⟨by rfl, fun W hW => by go_simp⟩) (by assumption) ?_
              try simp only [Act.put, List.setIfInBounds_toArray, List.set_cons_zero, List.set_cons_succ]
              refine wpAnyH_take (i := 16) (oi := { dst := some 142, op := Go.Op.binOp Go.BinOp.geq 3 (Go.Operand.tmp 141) (Go.Operand.const (Go.Value.int Go.IntKind.i64 0)) 3, type := 4, pos := _, after := #[{ on := 15, ground := Go.Ground.data }, { on := 14, ground := Go.Ground.guard }], guard := some (14, false) }) (v := .bool true) rfl (by kernel_rfl) (by kernel_rfl) (by kernel_rfl) (fun _ _ _ h => h) (Or.inl ⟨by rfl, fun W hW => by go_simp⟩) (by assumption) ?_
              try simp only [Act.put, List.setIfInBounds_toArray, List.set_cons_zero, List.set_cons_succ]
              refine wpAnyH_take (i := 17) (oi := { dst := some 143, op := Go.Op.move (Go.Operand.tmp 142), type := 4, pos := _, after := #[{ on := 16, ground := Go.Ground.data }, { on := 14, ground := Go.Ground.chain }, { on := 14, ground := Go.Ground.guard }], guard := some (14, false) }) (v := .bool true) rfl (by kernel_rfl) (by kernel_rfl) (by kernel_rfl) (fun _ _ _ h => h) (Or.inl ⟨by rfl, fun W hW => by go_simp⟩) (by assumption) ?_
              try simp only [Act.put, List.setIfInBounds_toArray, List.set_cons_zero, List.set_cons_succ]
              refine wpAnyH_take (i := 18) (oi := { dst := some 144, op := Go.Op.move (Go.Operand.tmp 15), type := 22, pos := _, after := #[{ on := 17, ground := Go.Ground.guard }], guard := some (17, true) }) (v := .slice (some ⟨gx, 0, none⟩) 64 64) rfl (by kernel_rfl) (by kernel_rfl) (by kernel_rfl) (fun _ _ _ h => h) (Or.inl ⟨by rfl, fun W hW => by go_simp⟩) (by assumption) ?_
              try simp only [Act.put, List.setIfInBounds_toArray, List.set_cons_zero, List.set_cons_succ]
              refine wpAnyH_take (i := 19) (oi := { dst := some 145, op := Go.Op.indexAddr 22 (Go.Operand.tmp 144) (Go.Operand.const (Go.Value.int Go.IntKind.i64 0)), type := 0, pos := _, after := #[{ on := 18, ground := Go.Ground.data }, { on := 17, ground := Go.Ground.guard }], guard := some (17, true) }) (v := .pointer (some ⟨gx, 0, none⟩)) rfl (by kernel_rfl) (by kernel_rfl) (by kernel_rfl) (fun _ _ _ h => h) (Or.inl ⟨by rfl, fun W hW => by go_simp⟩) (by assumption) ?_
              try simp only [Act.put, List.setIfInBounds_toArray, List.set_cons_zero, List.set_cons_succ]
              refine wpAnyH_take (i := 20) (oi := { dst := some 146, op := Go.Op.load 5 (Go.Operand.tmp 145), type := 5, pos := _, after := #[{ on := 19, ground := Go.Ground.data }, { on := 17, ground := Go.Ground.guard }], guard := some (17, true) }) (v := .int .u8 (y.toNat : Int)) rfl (by kernel_rfl) (by kernel_rfl) (by kernel_rfl) (fun _ _ _ h => h) (yieldsIf_load (by rfl) 5 (.tmp 145) rfl _ _ rfl (fun W hW => ld8 _ _ _ W hW.1)) (by assumption) ?_
              try simp only [Act.put, List.setIfInBounds_toArray, List.set_cons_zero, List.set_cons_succ]
              refine wpAnyH_take (i := 21) (oi := { dst := some 147, op := Go.Op.move (Go.Operand.tmp 12), type := 3, pos := _, after := #[{ on := 17, ground := Go.Ground.guard }], guard := some (17, true) }) (v := .int .i64 (m : Int)) rfl (by kernel_rfl) (by kernel_rfl) (by kernel_rfl) (fun _ _ _ h => h) (Or.inl ⟨by rfl, fun W hW => by go_simp⟩) (by assumption) ?_
              try simp only [Act.put, List.setIfInBounds_toArray, List.set_cons_zero, List.set_cons_succ]
              refine wpAnyH_take (i := 22) (oi := { dst := some 148, op := Go.Op.convert 3 5 (Go.Operand.tmp 147), type := 5, pos := _, after := #[{ on := 21, ground := Go.Ground.data }, { on := 17, ground := Go.Ground.guard }], guard := some (17, true) }) (v := .int .u8 (y.toNat : Int)) rfl (by kernel_rfl) (by kernel_rfl) (by kernel_rfl) (fun _ _ _ h => h) (Or.inl ⟨by rfl, fun W hW => by have h1 := cv1 W; go_simp⟩) (by assumption) ?_
              try simp only [Act.put, List.setIfInBounds_toArray, List.set_cons_zero, List.set_cons_succ]
              refine wpAnyH_take (i := 23) (oi := { dst := some 149, op := Go.Op.binOp Go.BinOp.neq 5 (Go.Operand.tmp 146) (Go.Operand.tmp 148) 5, type := 4, pos := _, after := #[{ on := 20, ground := Go.Ground.data }, { on := 22, ground := Go.Ground.data }, { on := 17, ground := Go.Ground.guard }], guard := some (17, true) }) (v := .bool false) rfl (by kernel_rfl) (by kernel_rfl) (by kernel_rfl) (fun _ _ _ h => h) (Or.inl ⟨by rfl, fun W hW => by go_simp⟩) (by assumption) ?_
              try simp only [Act.put, List.setIfInBounds_toArray, List.set_cons_zero, List.set_cons_succ]
              refine wpAnyH_take (i := 24) (oi := { dst := some 150, op := Go.Op.move (Go.Operand.tmp 149), type := 4, pos := _, after := #[{ on := 23, ground := Go.Ground.data }, { on := 17, ground := Go.Ground.chain }, { on := 17, ground := Go.Ground.guard }], guard := some (17, true) }) (v := .bool false) rfl (by kernel_rfl) (by kernel_rfl) (by kernel_rfl) (fun _ _ _ h => h) (Or.inl ⟨by rfl, fun W hW => by go_simp⟩) (by assumption) ?_
              try simp only [Act.put, List.setIfInBounds_toArray, List.set_cons_zero, List.set_cons_succ]
              refine wpAnyH_take (i := 25) (oi := { dst := some 151, op := Go.Op.move (Go.Operand.tmp 15), type := 22, pos := _, after := #[{ on := 24, ground := Go.Ground.guard }], guard := some (24, false) }) (v := .slice (some ⟨gx, 0, none⟩) 64 64) rfl (by kernel_rfl) (by kernel_rfl) (by kernel_rfl) (fun _ _ _ h => h) (Or.inl ⟨by rfl, fun W hW => by go_simp⟩) (by assumption) ?_
              try simp only [Act.put, List.setIfInBounds_toArray, List.set_cons_zero, List.set_cons_succ]
              refine wpAnyH_take (i := 26) (oi := { dst := some 152, op := Go.Op.indexAddr 22 (Go.Operand.tmp 151) (Go.Operand.const (Go.Value.int Go.IntKind.i64 1)), type := 0, pos := _, after := #[{ on := 25, ground := Go.Ground.data }, { on := 24, ground := Go.Ground.guard }], guard := some (24, false) }) (v := .pointer (some ⟨gx, 1, none⟩)) rfl (by kernel_rfl) (by kernel_rfl) (by kernel_rfl) (fun _ _ _ h => h) (Or.inl ⟨by rfl, fun W hW => by go_simp⟩) (by assumption) ?_
              try simp only [Act.put, List.setIfInBounds_toArray, List.set_cons_zero, List.set_cons_succ]
              refine wpAnyH_take (i := 27) (oi := { dst := some 153, op := Go.Op.load 5 (Go.Operand.tmp 152), type := 5, pos := _, after := #[{ on := 26, ground := Go.Ground.data }, { on := 24, ground := Go.Ground.guard }], guard := some (24, false) }) (v := .int .u8 (z.toNat : Int)) rfl (by kernel_rfl) (by kernel_rfl) (by kernel_rfl) (fun _ _ _ h => h) (yieldsIf_load (by rfl) 5 (.tmp 152) rfl _ _ rfl (fun W hW => ld8 _ _ _ W hW.2.1)) (by assumption) ?_
              try simp only [Act.put, List.setIfInBounds_toArray, List.set_cons_zero, List.set_cons_succ]
              refine wpAnyH_take (i := 28) (oi := { dst := some 154, op := Go.Op.move (Go.Operand.tmp 0), type := 40, pos := _, after := #[{ on := 24, ground := Go.Ground.guard }], guard := some (24, false) }) (v := .slice (some ⟨bl, ol, none⟩) l.length cl) rfl (by kernel_rfl) (by kernel_rfl) (by kernel_rfl) (fun _ _ _ h => h) (Or.inl ⟨by rfl, fun W hW => by go_simp⟩) (by assumption) ?_
              try simp only [Act.put, List.setIfInBounds_toArray, List.set_cons_zero, List.set_cons_succ]
              refine wpAnyH_take (i := 29) (oi := { dst := some 155, op := Go.Op.move (Go.Operand.tmp 12), type := 3, pos := _, after := #[{ on := 24, ground := Go.Ground.guard }], guard := some (24, false) }) (v := .int .i64 (m : Int)) rfl (by kernel_rfl) (by kernel_rfl) (by kernel_rfl) (fun _ _ _ h => h) (Or.inl ⟨by rfl, fun W hW => by go_simp⟩) (by assumption) ?_
              try simp only [Act.put, List.setIfInBounds_toArray, List.set_cons_zero, List.set_cons_succ]
              refine wpAnyH_take (i := 30) (oi := { dst := some 156, op := Go.Op.indexAddr 40 (Go.Operand.tmp 154) (Go.Operand.tmp 155), type := 0, pos := _, after := #[{ on := 28, ground := Go.Ground.data }, { on := 29, ground := Go.Ground.data }, { on := 24, ground := Go.Ground.guard }], guard := some (24, false) }) (v := .pointer (some ⟨bl, ol + m, none⟩)) rfl (by kernel_rfl) (by kernel_rfl) (by kernel_rfl) (fun _ _ _ h => h) (Or.inl ⟨by rfl, fun W hW => by go_simp⟩) (by assumption) ?_
              try simp only [Act.put, List.setIfInBounds_toArray, List.set_cons_zero, List.set_cons_succ]
              refine wpAnyH_take (i := 31) (oi := { dst := some 157, op := Go.Op.load 44 (Go.Operand.tmp 156), type := 44, pos := _, after := #[{ on := 30, ground := Go.Ground.data }, { on := 24, ground := Go.Ground.guard }], guard := some (24, false) }) (v := .int .u16 (x.toNat : Int)) rfl (by kernel_rfl) (by kernel_rfl) (by kernel_rfl) (fun _ _ _ h => h) (yieldsIf_load (by rfl) 44 (.tmp 156) rfl _ _ rfl (fun W hW => ld16 _ _ _ W hW.2.2)) (by assumption) ?_
              try simp only [Act.put, List.setIfInBounds_toArray, List.set_cons_zero, List.set_cons_succ]
              refine wpAnyH_take (i := 32) (oi := { dst := some 158, op := Go.Op.convert 44 5 (Go.Operand.tmp 157), type := 5, pos := _, after := #[{ on := 31, ground := Go.Ground.data }, { on := 24, ground := Go.Ground.guard }], guard := some (24, false) }) (v := .int .u8 (z.toNat : Int)) rfl (by kernel_rfl) (by kernel_rfl) (by kernel_rfl) (fun _ _ _ h => h) (Or.inl ⟨by rfl, fun W hW => by have h1 := cv2 W; go_simp⟩) (by assumption) ?_
              try simp only [Act.put, List.setIfInBounds_toArray, List.set_cons_zero, List.set_cons_succ]
              refine wpAnyH_take (i := 33) (oi := { dst := some 159, op := Go.Op.binOp Go.BinOp.neq 5 (Go.Operand.tmp 153) (Go.Operand.tmp 158) 5, type := 4, pos := _, after := #[{ on := 27, ground := Go.Ground.data }, { on := 32, ground := Go.Ground.data }, { on := 24, ground := Go.Ground.guard }], guard := some (24, false) }) (v := .bool false) rfl (by kernel_rfl) (by kernel_rfl) (by kernel_rfl) (fun _ _ _ h => h) (Or.inl ⟨by rfl, fun W hW => by go_simp⟩) (by assumption) ?_
              try simp only [Act.put, List.setIfInBounds_toArray, List.set_cons_zero, List.set_cons_succ]
              refine wpAnyH_take (i := 34) (oi := { dst := some 160, op := Go.Op.pick (Go.Operand.tmp 150) (Go.Operand.const (Go.Value.bool true)) (Go.Operand.tmp 159), type := 4, pos := _, after := #[{ on := 24, ground := Go.Ground.data }, { on := 33, ground := Go.Ground.data }, { on := 17, ground := Go.Ground.guard }], guard := some (17, true) }) (v := .bool false) rfl (by kernel_rfl) (by kernel_rfl) (by kernel_rfl) (fun _ _ _ h => h) (Or.inl ⟨by rfl, fun W hW => by go_simp⟩) (by assumption) ?_
              try simp only [Act.put, List.setIfInBounds_toArray, List.set_cons_zero, List.set_cons_succ]
              refine wpAnyH_take (i := 35) (oi := { dst := some 161, op := Go.Op.pick (Go.Operand.tmp 143) (Go.Operand.tmp 160) (Go.Operand.const (Go.Value.bool false)), type := 4, pos := _, after := #[{ on := 17, ground := Go.Ground.data }, { on := 34, ground := Go.Ground.data }, { on := 14, ground := Go.Ground.guard }], guard := some (14, false) }) (v := .bool false) rfl (by kernel_rfl) (by kernel_rfl) (by kernel_rfl) (fun _ _ _ h => h) (Or.inl ⟨by rfl, fun W hW => by go_simp⟩) (by assumption) ?_
              try simp only [Act.put, List.setIfInBounds_toArray, List.set_cons_zero, List.set_cons_succ]
              refine wpAnyH_take (i := 36) (oi := { dst := some 162, op := Go.Op.pick (Go.Operand.tmp 140) (Go.Operand.const (Go.Value.bool true)) (Go.Operand.tmp 161), type := 4, pos := _, after := #[{ on := 14, ground := Go.Ground.data }, { on := 35, ground := Go.Ground.data }], guard := none }) (v := .bool false) rfl (by kernel_rfl) (by kernel_rfl) (by kernel_rfl) (fun _ _ _ h => h) (Or.inl ⟨by rfl, fun W hW => by go_simp⟩) (by assumption) ?_
              try simp only [Act.put, List.setIfInBounds_toArray, List.set_cons_zero, List.set_cons_succ]
              refine wpAnyH_done (by kernel_rfl) ?_ _
              refine NoPanic.normal ?_
              go_wp2
              go_roundw
              case rel => first | exact fin | ((repeat apply Exists.intro); exact ⟨fin, rfl⟩)
              case measure => simp [intOf]; omega
      · have a1 : ¬ (a : Int) < 8 := by omega
        go_wp2
        go_ret
        exact ⟨rfl, hbo⟩
  · have e4 : ((k : Int) == (l.length : Int)) = false := by simp; omega
    have o2 : Own w0.heap.size w1 B dd := by rw [hdd.out]; unfold wrD; rw [if_neg hkl2]; exact o1
    have b2 := b1
    clear o1 hkl2
    go_wp2_with fail
    refine (al_fail o2 b2 b2.size keep hkeep (keep : Int) rfl (-1) (by decide)).mono ?_
    rintro e w3 ⟨Bc, rfl, b3, c3, f3⟩
    have o3 := o2.below c3
    clear o2 b2 c3 b1
    go_wp2_with fail
    refine (waits_own f3).mono ?_
    rintro e w3' ⟨rfl, rfl⟩
    go_wp2_with fail
    refine (waits_own o3).mono ?_
    rintro e w3' ⟨rfl, rfl⟩
    rw [hwl]
    have e6 : ((l.length - k : Nat) : Int) = (l.length : Int) - (k : Int) := by omega
    rw [e6]
    clear e6
    obtain ⟨dc, hdc⟩ : ∃ dc, Hid (dc = dd.fail keep (-1)) := ⟨_, rfl⟩
    rw [← hdc.out] at f3 hfl
    have hvc : ∀ a, a < 8 → dc.view a = sel l (lastK (fun i => wrA l i == a && keptB k keep i) l.length) := fun a ha => by rw [hdc.out]; exact hvd a ha
    have b3s := b3.size
    obtain ⟨base, hbase⟩ : ∃ base, Own base w3 Bc dc := ⟨_, f3⟩
    clear o3 f3 hvd hdd hwl hsl hdc
    go_wp2_with fail
    go_loopw [11] (fun i wr => ∃ a : Nat, a ≤ 8 ∧ i = .int .i64 (a : Int) ∧ Own base wr Bc dc ∧ Below w.heap.size w wr ∧ w.heap.size ≤ wr.heap.size) (fun i _ => 8 - (intOf i).toNat)
    case atStart => exact ⟨0, by omega, rfl, hbase, b3, b3s⟩
    case round =>
      obtain ⟨a, ha, rfl, hoc, hbo, hso⟩ := hrel
      obtain ⟨wo, rfl⟩ : ∃ wo, wo = wr := ⟨_, rfl⟩
      by_cases ha8 : a < 8
      · have a1 : (a : Int) < 8 := by omega
        have kr := read_own hoc a (by rw [hfl]; exact ha8)
        rw [hvc a ha8] at kr
        go_wp2_with fail
        go_loopw [12, 13] (fun wn i wq => wq = wo ∧ ∃ j : Nat, j ≤ l.length ∧ i = .int .i64 (j : Int) ∧ wn = .int .i64 (wantI (lastK (fun i => wrA l i == a && keptB k keep i) j))) (fun _ i _ => l.length - (intOf i).toNat)
        case atStart => exact ⟨rfl, 0, by omega, rfl, rfl⟩
        case round =>
          obtain ⟨rfl, j, hj, rfl, rfl⟩ := hrel
          obtain ⟨wo, rfl⟩ : ∃ wo, wo = wr := ⟨_, rfl⟩
          by_cases hjl : j < l.length
          · obtain ⟨bl, ol, rfl, hbl, hcl⟩ := in16_cell hl hjl
            obtain ⟨x, hx⟩ : ∃ x, x = l[j]'hjl := ⟨_, rfl⟩
            have hgd : l.getD j 0 = x := by rw [hx]; simp [hjl]
            have hc : wo.cell? ⟨bl, ol + j, none⟩ = some (.int .u16 (x.toNat : Int)) := by
              rw [World.cell?_of_block (w := w) (hbo.block bl hbl), hx]
              exact hcl j hjl
            have hx16 := x.toNat_lt
            obtain ⟨xm, hxm⟩ : ∃ xm, xm = x.toNat % 8 := ⟨_, rfl⟩
            have t8 : ((x.toNat : Int)).tmod 8 = (xm : Int) := by rw [hxm]; exact tmod_nat _ 8
            have wx := wrap_i64 x.toNat (by omega)
            have hwa : wrA l j = xm := by unfold wrA; rw [hgd, hxm]
            have j1 : (j : Int) < (l.length : Int) := by omega
            have jl : ¬ l.length ≤ j := by omega
            clear hx hgd hcl hxm
            by_cases hik : j < k
            · have e1 : (j : Int) < (k : Int) := by omega

              have hkv : keptB k keep j = true := by unfold keptB; simp [hik]
              by_cases hxa : xm = a
              · have e5 : ((xm : Int) == (a : Int)) = true := by simp; omega
                have hP : lastK (fun i => wrA l i == a && keptB k keep i) (j + 1) = some j := by
                  rw [lastK, hwa, hkv]
                  simp [hxa]
                have fin : ∃ j1 : Nat, j1 ≤ l.length ∧ Value.int .i64 ((j : Int) + 1) = .int .i64 (j1 : Int) ∧ Value.int .i64 (j : Int) = .int .i64 (wantI (lastK (fun i => wrA l i == a && keptB k keep i) j1)) := ⟨j + 1, by omega, by simp, by rw [hP]; rfl⟩
                clear hP hkv hwa
                try clear hjt
                go_wp2
                go_roundw
                case rel => exact ⟨trivial, fin⟩
                case measure => simp [intOf]; omega
              · have e5 : ((xm : Int) == (a : Int)) = false := by simp; omega
                have hP : lastK (fun i => wrA l i == a && keptB k keep i) (j + 1) = lastK (fun i => wrA l i == a && keptB k keep i) j := by
                  rw [lastK, hwa]
                  simp [hxa]
                have fin : ∃ j1 : Nat, j1 ≤ l.length ∧ Value.int .i64 ((j : Int) + 1) = .int .i64 (j1 : Int) ∧ Value.int .i64 (wantI (lastK (fun i => wrA l i == a && keptB k keep i) j)) = .int .i64 (wantI (lastK (fun i => wrA l i == a && keptB k keep i) j1)) := ⟨j + 1, by omega, by simp, by rw [hP]⟩
                clear hP hkv hwa
                try clear hjt
                generalize wantI (lastK (fun i => wrA l i == a && keptB k keep i) j) = wn at *
                go_wp2
                go_roundw
                case rel => exact ⟨trivial, fin⟩
                case measure => simp [intOf]; omega
            · have e1 : ¬ (j : Int) < (k : Int) := by omega
              obtain ⟨t, ht⟩ : ∃ t, j = k + t := ⟨j - k, by omega⟩
              have e2 : (j : Int) - (k : Int) = (t : Int) := by omega
              have hjt : j - k = t := by omega
              clear ht
              by_cases ht64 : t < 64
              · have e3 : (t : Int) < 64 := by omega
                have hbit := bit_at keep t hkeep
                have wt := wrap_u64 t (by omega)
                by_cases hbt : keep.testBit t = true
                · rw [if_pos hbt] at hbit

                  have hkv : keptB k keep j = true := by unfold keptB; rw [hjt]; simp [ht64, hbt]
                  by_cases hxa : xm = a
                  · have e5 : ((xm : Int) == (a : Int)) = true := by simp; omega
                    have hP : lastK (fun i => wrA l i == a && keptB k keep i) (j + 1) = some j := by
                      rw [lastK, hwa, hkv]
                      simp [hxa]
                    have fin : ∃ j1 : Nat, j1 ≤ l.length ∧ Value.int .i64 ((j : Int) + 1) = .int .i64 (j1 : Int) ∧ Value.int .i64 (j : Int) = .int .i64 (wantI (lastK (fun i => wrA l i == a && keptB k keep i) j1)) := ⟨j + 1, by omega, by simp, by rw [hP]; rfl⟩
                    clear hP hkv hwa
                    try clear hjt
                    go_wp2
                    go_roundw
                    case rel => exact ⟨trivial, fin⟩
                    case measure => simp [intOf]; omega
                  · have e5 : ((xm : Int) == (a : Int)) = false := by simp; omega
                    have hP : lastK (fun i => wrA l i == a && keptB k keep i) (j + 1) = lastK (fun i => wrA l i == a && keptB k keep i) j := by
                      rw [lastK, hwa]
                      simp [hxa]
                    have fin : ∃ j1 : Nat, j1 ≤ l.length ∧ Value.int .i64 ((j : Int) + 1) = .int .i64 (j1 : Int) ∧ Value.int .i64 (wantI (lastK (fun i => wrA l i == a && keptB k keep i) j)) = .int .i64 (wantI (lastK (fun i => wrA l i == a && keptB k keep i) j1)) := ⟨j + 1, by omega, by simp, by rw [hP]⟩
                    clear hP hkv hwa
                    try clear hjt
                    generalize wantI (lastK (fun i => wrA l i == a && keptB k keep i) j) = wn at *
                    go_wp2
                    go_roundw
                    case rel => exact ⟨trivial, fin⟩
                    case measure => simp [intOf]; omega
                · rw [if_neg hbt] at hbit

                  have hkv : keptB k keep j = false := by unfold keptB; rw [hjt]; simp [hik, hbt]
                  by_cases hxa : xm = a
                  · have e5 : ((xm : Int) == (a : Int)) = true := by simp; omega
                    have hP : lastK (fun i => wrA l i == a && keptB k keep i) (j + 1) = lastK (fun i => wrA l i == a && keptB k keep i) j := by
                      rw [lastK, hwa, hkv]
                      simp [hxa]
                    have fin : ∃ j1 : Nat, j1 ≤ l.length ∧ Value.int .i64 ((j : Int) + 1) = .int .i64 (j1 : Int) ∧ Value.int .i64 (wantI (lastK (fun i => wrA l i == a && keptB k keep i) j)) = .int .i64 (wantI (lastK (fun i => wrA l i == a && keptB k keep i) j1)) := ⟨j + 1, by omega, by simp, by rw [hP]⟩
                    clear hP hkv hwa
                    try clear hjt
                    go_wp2
                    go_roundw
                    case rel => exact ⟨trivial, fin⟩
                    case measure => simp [intOf]; omega
                  · have e5 : ((xm : Int) == (a : Int)) = false := by simp; omega
                    have hP : lastK (fun i => wrA l i == a && keptB k keep i) (j + 1) = lastK (fun i => wrA l i == a && keptB k keep i) j := by
                      rw [lastK, hwa]
                      simp [hxa]
                    have fin : ∃ j1 : Nat, j1 ≤ l.length ∧ Value.int .i64 ((j : Int) + 1) = .int .i64 (j1 : Int) ∧ Value.int .i64 (wantI (lastK (fun i => wrA l i == a && keptB k keep i) j)) = .int .i64 (wantI (lastK (fun i => wrA l i == a && keptB k keep i) j1)) := ⟨j + 1, by omega, by simp, by rw [hP]⟩
                    clear hP hkv hwa
                    try clear hjt
                    generalize wantI (lastK (fun i => wrA l i == a && keptB k keep i) j) = wn at *
                    go_wp2
                    go_roundw
                    case rel => exact ⟨trivial, fin⟩
                    case measure => simp [intOf]; omega
              · have e3 : ¬ (t : Int) < 64 := by omega

                have hkv : keptB k keep j = false := by unfold keptB; rw [hjt]; simp [hik, ht64]
                by_cases hxa : xm = a
                · have e5 : ((xm : Int) == (a : Int)) = true := by simp; omega
                  have hP : lastK (fun i => wrA l i == a && keptB k keep i) (j + 1) = lastK (fun i => wrA l i == a && keptB k keep i) j := by
                    rw [lastK, hwa, hkv]
                    simp [hxa]
                  have fin : ∃ j1 : Nat, j1 ≤ l.length ∧ Value.int .i64 ((j : Int) + 1) = .int .i64 (j1 : Int) ∧ Value.int .i64 (wantI (lastK (fun i => wrA l i == a && keptB k keep i) j)) = .int .i64 (wantI (lastK (fun i => wrA l i == a && keptB k keep i) j1)) := ⟨j + 1, by omega, by simp, by rw [hP]⟩
                  clear hP hkv hwa
                  try clear hjt
                  go_wp2
                  go_roundw
                  case rel => exact ⟨trivial, fin⟩
                  case measure => simp [intOf]; omega
                · have e5 : ((xm : Int) == (a : Int)) = false := by simp; omega
                  have hP : lastK (fun i => wrA l i == a && keptB k keep i) (j + 1) = lastK (fun i => wrA l i == a && keptB k keep i) j := by
                    rw [lastK, hwa]
                    simp [hxa]
                  have fin : ∃ j1 : Nat, j1 ≤ l.length ∧ Value.int .i64 ((j : Int) + 1) = .int .i64 (j1 : Int) ∧ Value.int .i64 (wantI (lastK (fun i => wrA l i == a && keptB k keep i) j)) = .int .i64 (wantI (lastK (fun i => wrA l i == a && keptB k keep i) j1)) := ⟨j + 1, by omega, by simp, by rw [hP]⟩
                  clear hP hkv hwa
                  try clear hjt
                  generalize wantI (lastK (fun i => wrA l i == a && keptB k keep i) j) = wn at *
                  go_wp2
                  go_roundw
                  case rel => exact ⟨trivial, fin⟩
                  case measure => simp [intOf]; omega
          · have ejl : j = l.length := by omega
            have j1 : ¬ (j : Int) < (l.length : Int) := by omega
            subst ejl
            obtain ⟨L, hL⟩ : ∃ L, lastK (fun i => wrA l i == a && keptB k keep i) l.length = L := ⟨_, rfl⟩
            rw [hL] at kr ⊢
            cases L with
            | none =>
              rw [wantI_none]
              clear hL hl hvc
              go_wp2_with (go_at_call 8; refine kr.mono ?_; rintro e w2 ⟨rfl, r2, b2⟩)
              have b2w := hbo.trans (b2.mono hbo.size)
              have o2 := hoc.below b2
              have s2 := Nat.le_trans hso b2.size
              have c0 := row_cell r2 (c := 0) (z64_get (show 0 < 64 by omega))
              have c1 := row_cell r2 (c := 0) (z64_get (show 1 < 64 by omega))
              have fin : ∃ a1 : Nat, a1 ≤ 8 ∧ Value.int .i64 ((a : Int) + 1) = .int .i64 (a1 : Int) ∧ Own base w2.drew Bc dc ∧ Below w.heap.size w w2.drew ∧ w.heap.size ≤ w2.drew.heap.size := ⟨a + 1, by omega, by simp, o2.drew, b2w.drew, s2⟩
              clear kr hoc hbo b2w o2 s2 b2 hso
              clear r2
              generalize wo.heap.size + 1 = gx at *
              refine wp_region_noPanic ?_
              refine wp_region_held_drew (S := fun W => W.cell? ⟨gx, 0, none⟩ = some (.int .u8 0) ∧ W.cell? ⟨gx, 1, none⟩ = some (.int .u8 0)) (by kernel_rfl) ⟨c0, c1⟩ (fun hHeld => ?_)
              refine wpAnyH_take (i := 0) (oi := { dst := some 126, op := Go.Op.move (Go.Operand.tmp 12), type := 3, pos := _, after := #[], guard := none }) (v := .int .i64 (-1)) rfl (by kernel_rfl) (by kernel_rfl) (by kernel_rfl) (fun _ _ _ h => h) (Or.inl ⟨by rfl, fun W hW => by go_simp⟩) (by assumption) ?_
              try simp only [Act.put, List.setIfInBounds_toArray, List.set_cons_zero, List.set_cons_succ]
              refine wpAnyH_take (i := 1) (oi := { dst := some 127, op := Go.Op.binOp Go.BinOp.lss 3 (Go.Operand.tmp 126) (Go.Operand.const (Go.Value.int Go.IntKind.i64 0)) 3, type := 4, pos := _, after := #[{ on := 0, ground := Go.Ground.data }], guard := none }) (v := .bool true) rfl (by kernel_rfl) (by kernel_rfl) (by kernel_rfl) (fun _ _ _ h => h) (Or.inl ⟨by rfl, fun W hW => by go_simp⟩) (by assumption) ?_
              try simp only [Act.put, List.setIfInBounds_toArray, List.set_cons_zero, List.set_cons_succ]
              refine wpAnyH_take (i := 2) (oi := { dst := some 128, op := Go.Op.move (Go.Operand.tmp 127), type := 4, pos := _, after := #[{ on := 1, ground := Go.Ground.data }], guard := none }) (v := .bool true) rfl (by kernel_rfl) (by kernel_rfl) (by kernel_rfl) (fun _ _ _ h => h) (Or.inl ⟨by rfl, fun W hW => by go_simp⟩) (by assumption) ?_
              try simp only [Act.put, List.setIfInBounds_toArray, List.set_cons_zero, List.set_cons_succ]
              refine wpAnyH_take (i := 3) (oi := { dst := some 129, op := Go.Op.move (Go.Operand.tmp 15), type := 22, pos := _, after := #[{ on := 2, ground := Go.Ground.guard }], guard := some (2, true) }) (v := .slice (some ⟨gx, 0, none⟩) 64 64) rfl (by kernel_rfl) (by kernel_rfl) (by kernel_rfl) (fun _ _ _ h => h) (Or.inl ⟨by rfl, fun W hW => by go_simp⟩) (by assumption) ?_
              try simp only [Act.put, List.setIfInBounds_toArray, List.set_cons_zero, List.set_cons_succ]
              refine wpAnyH_take (i := 4) (oi := { dst := some 130, op := Go.Op.indexAddr 22 (Go.Operand.tmp 129) (Go.Operand.const (Go.Value.int Go.IntKind.i64 0)), type := 0, pos := _, after := #[{ on := 3, ground := Go.Ground.data }, { on := 2, ground := Go.Ground.guard }], guard := some (2, true) }) (v := .pointer (some ⟨gx, 0, none⟩)) rfl (by kernel_rfl) (by kernel_rfl) (by kernel_rfl) (fun _ _ _ h => h) (Or.inl ⟨by rfl, fun W hW => by go_simp⟩) (by assumption) ?_
              try simp only [Act.put, List.setIfInBounds_toArray, List.set_cons_zero, List.set_cons_succ]
              refine wpAnyH_take (i := 5) (oi := { dst := some 131, op := Go.Op.load 5 (Go.Operand.tmp 130), type := 5, pos := _, after := #[{ on := 4, ground := Go.Ground.data }, { on := 2, ground := Go.Ground.guard }], guard := some (2, true) }) (v := .int .u8 0) rfl (by kernel_rfl) (by kernel_rfl) (by kernel_rfl) (fun _ _ _ h => h) (yieldsIf_load (by rfl) 5 (.tmp 130) rfl _ _ rfl (fun W hW => ld8 _ _ _ W hW.1)) (by assumption) ?_
              try simp only [Act.put, List.setIfInBounds_toArray, List.set_cons_zero, List.set_cons_succ]
              refine wpAnyH_take (i := 6) (oi := { dst := some 132, op := Go.Op.binOp Go.BinOp.neq 5 (Go.Operand.tmp 131) (Go.Operand.const (Go.Value.int Go.IntKind.u8 0)) 5, type := 4, pos := _, after := #[{ on := 5, ground := Go.Ground.data }, { on := 2, ground := Go.Ground.guard }], guard := some (2, true) }) (v := .bool false) rfl (by kernel_rfl) (by kernel_rfl) (by kernel_rfl) (fun _ _ _ h => h) (Or.inl ⟨by rfl, fun W hW => by go_simp⟩) (by assumption) ?_
              try simp only [Act.put, List.setIfInBounds_toArray, List.set_cons_zero, List.set_cons_succ]
              refine wpAnyH_take (i := 7) (oi := { dst := some 133, op := Go.Op.move (Go.Operand.tmp 132), type := 4, pos := _, after := #[{ on := 6, ground := Go.Ground.data }, { on := 2, ground := Go.Ground.chain }, { on := 2, ground := Go.Ground.guard }], guard := some (2, true) }) (v := .bool false) rfl (by kernel_rfl) (by kernel_rfl) (by kernel_rfl) (fun _ _ _ h => h) (Or.inl ⟨by rfl, fun W hW => by go_simp⟩) (by assumption) ?_
              try simp only [Act.put, List.setIfInBounds_toArray, List.set_cons_zero, List.set_cons_succ]
              refine wpAnyH_take (i := 8) (oi := { dst := some 134, op := Go.Op.move (Go.Operand.tmp 15), type := 22, pos := _, after := #[{ on := 7, ground := Go.Ground.guard }], guard := some (7, false) }) (v := .slice (some ⟨gx, 0, none⟩) 64 64) rfl (by kernel_rfl) (by kernel_rfl) (by kernel_rfl) (fun _ _ _ h => h) (Or.inl ⟨by rfl, fun W hW => by go_simp⟩) (by assumption) ?_
              try simp only [Act.put, List.setIfInBounds_toArray, List.set_cons_zero, List.set_cons_succ]
              refine wpAnyH_take (i := 9) (oi := { dst := some 135, op := Go.Op.indexAddr 22 (Go.Operand.tmp 134) (Go.Operand.const (Go.Value.int Go.IntKind.i64 1)), type := 0, pos := _, after := #[{ on := 8, ground := Go.Ground.data }, { on := 7, ground := Go.Ground.guard }], guard := some (7, false) }) (v := .pointer (some ⟨gx, 1, none⟩)) rfl (by kernel_rfl) (by kernel_rfl) (by kernel_rfl) (fun _ _ _ h => h) (Or.inl ⟨by rfl, fun W hW => by go_simp⟩) (by assumption) ?_
              try simp only [Act.put, List.setIfInBounds_toArray, List.set_cons_zero, List.set_cons_succ]
              refine wpAnyH_take (i := 10) (oi := { dst := some 136, op := Go.Op.load 5 (Go.Operand.tmp 135), type := 5, pos := _, after := #[{ on := 9, ground := Go.Ground.data }, { on := 7, ground := Go.Ground.guard }], guard := some (7, false) }) (v := .int .u8 0) rfl (by kernel_rfl) (by kernel_rfl) (by kernel_rfl) (fun _ _ _ h => h) (yieldsIf_load (by rfl) 5 (.tmp 135) rfl _ _ rfl (fun W hW => ld8 _ _ _ W hW.2)) (by assumption) ?_
              try simp only [Act.put, List.setIfInBounds_toArray, List.set_cons_zero, List.set_cons_succ]
              refine wpAnyH_take (i := 11) (oi := { dst := some 137, op := Go.Op.binOp Go.BinOp.neq 5 (Go.Operand.tmp 136) (Go.Operand.const (Go.Value.int Go.IntKind.u8 0)) 5, type := 4, pos := _, after := #[{ on := 10, ground := Go.Ground.data }, { on := 7, ground := Go.Ground.guard }], guard := some (7, false) }) (v := .bool false) rfl (by kernel_rfl) (by kernel_rfl) (by kernel_rfl) (fun _ _ _ h => h) (Or.inl ⟨by rfl, fun W hW => by go_simp⟩) (by assumption) ?_
              try simp only [Act.put, List.setIfInBounds_toArray, List.set_cons_zero, List.set_cons_succ]
              refine wpAnyH_take (i := 12) (oi := { dst := some 138, op := Go.Op.pick (Go.Operand.tmp 133) (Go.Operand.const (Go.Value.bool true)) (Go.Operand.tmp 137), type := 4, pos := _, after := #[{ on := 7, ground := Go.Ground.data }, { on := 11, ground := Go.Ground.data }, { on := 2, ground := Go.Ground.guard }], guard := some (2, true) }) (v := .bool false) rfl (by kernel_rfl) (by kernel_rfl) (by kernel_rfl) (fun _ _ _ h => h) (Or.inl ⟨by rfl, fun W hW => by go_simp⟩) (by assumption) ?_
              try simp only [Act.put, List.setIfInBounds_toArray, List.set_cons_zero, List.set_cons_succ]
              refine wpAnyH_take (i := 13) (oi := { dst := some 139, op := Go.Op.pick (Go.Operand.tmp 128) (Go.Operand.tmp 138) (Go.Operand.const (Go.Value.bool false)), type := 4, pos := _, after := #[{ on := 2, ground := Go.Ground.data }, { on := 12, ground := Go.Ground.data }], guard := none }) (v := .bool false) rfl (by kernel_rfl) (by kernel_rfl) (by kernel_rfl) (fun _ _ _ h => h) (Or.inl ⟨by rfl, fun W hW => by go_simp⟩) (by assumption) ?_
              try simp only [Act.put, List.setIfInBounds_toArray, List.set_cons_zero, List.set_cons_succ]
              refine wpAnyH_take (i := 14) (oi := { dst := some 140, op := Go.Op.move (Go.Operand.tmp 139), type := 4, pos := _, after := #[{ on := 13, ground := Go.Ground.data }, { on := 7, ground := Go.Ground.chain }], guard := none }) (v := .bool false) rfl (by kernel_rfl) (by kernel_rfl) (by kernel_rfl) (fun _ _ _ h => h) (Or.inl ⟨by rfl, fun W hW => by go_simp⟩) (by assumption) ?_
              try simp only [Act.put, List.setIfInBounds_toArray, List.set_cons_zero, List.set_cons_succ]
              refine wpAnyH_take (i := 15) (oi := { dst := some 141, op := Go.Op.move (Go.Operand.tmp 12), type := 3, pos := _, after := #[{ on := 14, ground := Go.Ground.guard }], guard := some (14, false) }) (v := .int .i64 (-1)) rfl (by kernel_rfl) (by kernel_rfl) (by kernel_rfl) (fun _ _ _ h => h) (Or.inl ⟨by rfl, fun W hW => by go_simp⟩) (by assumption) ?_
              try simp only [Act.put, List.setIfInBounds_toArray, List.set_cons_zero, List.set_cons_succ]
              refine wpAnyH_take (i := 16) (oi := { dst := some 142, op := Go.Op.binOp Go.BinOp.geq 3 (Go.Operand.tmp 141) (Go.Operand.const (Go.Value.int Go.IntKind.i64 0)) 3, type := 4, pos := _, after := #[{ on := 15, ground := Go.Ground.data }, { on := 14, ground := Go.Ground.guard }], guard := some (14, false) }) (v := .bool false) rfl (by kernel_rfl) (by kernel_rfl) (by kernel_rfl) (fun _ _ _ h => h) (Or.inl ⟨by rfl, fun W hW => by go_simp⟩) (by assumption) ?_
              try simp only [Act.put, List.setIfInBounds_toArray, List.set_cons_zero, List.set_cons_succ]
              refine wpAnyH_take (i := 17) (oi := { dst := some 143, op := Go.Op.move (Go.Operand.tmp 142), type := 4, pos := _, after := #[{ on := 16, ground := Go.Ground.data }, { on := 14, ground := Go.Ground.chain }, { on := 14, ground := Go.Ground.guard }], guard := some (14, false) }) (v := .bool false) rfl (by kernel_rfl) (by kernel_rfl) (by kernel_rfl) (fun _ _ _ h => h) (Or.inl ⟨by rfl, fun W hW => by go_simp⟩) (by assumption) ?_
              try simp only [Act.put, List.setIfInBounds_toArray, List.set_cons_zero, List.set_cons_succ]
              refine wpAnyH_take (i := 18) (oi := { dst := some 144, op := Go.Op.move (Go.Operand.tmp 15), type := 22, pos := _, after := #[{ on := 17, ground := Go.Ground.guard }], guard := some (17, true) }) (v := undef) rfl (by kernel_rfl) (by kernel_rfl) (by kernel_rfl) (fun _ _ _ h => h) (Or.inr ⟨by rfl, rfl⟩) (by assumption) ?_
              try simp only [Act.put, List.setIfInBounds_toArray, List.set_cons_zero, List.set_cons_succ]
              refine wpAnyH_take (i := 19) (oi := { dst := some 145, op := Go.Op.indexAddr 22 (Go.Operand.tmp 144) (Go.Operand.const (Go.Value.int Go.IntKind.i64 0)), type := 0, pos := _, after := #[{ on := 18, ground := Go.Ground.data }, { on := 17, ground := Go.Ground.guard }], guard := some (17, true) }) (v := undef) rfl (by kernel_rfl) (by kernel_rfl) (by kernel_rfl) (fun _ _ _ h => h) (Or.inr ⟨by rfl, rfl⟩) (by assumption) ?_
              try simp only [Act.put, List.setIfInBounds_toArray, List.set_cons_zero, List.set_cons_succ]
              refine wpAnyH_take (i := 20) (oi := { dst := some 146, op := Go.Op.load 5 (Go.Operand.tmp 145), type := 5, pos := _, after := #[{ on := 19, ground := Go.Ground.data }, { on := 17, ground := Go.Ground.guard }], guard := some (17, true) }) (v := undef) rfl (by kernel_rfl) (by kernel_rfl) (by kernel_rfl) (fun _ _ _ h => h) (Or.inr ⟨by rfl, rfl⟩) (by assumption) ?_
              try simp only [Act.put, List.setIfInBounds_toArray, List.set_cons_zero, List.set_cons_succ]
              refine wpAnyH_take (i := 21) (oi := { dst := some 147, op := Go.Op.move (Go.Operand.tmp 12), type := 3, pos := _, after := #[{ on := 17, ground := Go.Ground.guard }], guard := some (17, true) }) (v := undef) rfl (by kernel_rfl) (by kernel_rfl) (by kernel_rfl) (fun _ _ _ h => h) (Or.inr ⟨by rfl, rfl⟩) (by assumption) ?_
              try simp only [Act.put, List.setIfInBounds_toArray, List.set_cons_zero, List.set_cons_succ]
              refine wpAnyH_take (i := 22) (oi := { dst := some 148, op := Go.Op.convert 3 5 (Go.Operand.tmp 147), type := 5, pos := _, after := #[{ on := 21, ground := Go.Ground.data }, { on := 17, ground := Go.Ground.guard }], guard := some (17, true) }) (v := undef) rfl (by kernel_rfl) (by kernel_rfl) (by kernel_rfl) (fun _ _ _ h => h) (Or.inr ⟨by rfl, rfl⟩) (by assumption) ?_
              try simp only [Act.put, List.setIfInBounds_toArray, List.set_cons_zero, List.set_cons_succ]
              refine wpAnyH_take (i := 23) (oi := { dst := some 149, op := Go.Op.binOp Go.BinOp.neq 5 (Go.Operand.tmp 146) (Go.Operand.tmp 148) 5, type := 4, pos := _, after := #[{ on := 20, ground := Go.Ground.data }, { on := 22, ground := Go.Ground.data }, { on := 17, ground := Go.Ground.guard }], guard := some (17, true) }) (v := undef) rfl (by kernel_rfl) (by kernel_rfl) (by kernel_rfl) (fun _ _ _ h => h) (Or.inr ⟨by rfl, rfl⟩) (by assumption) ?_
              try simp only [Act.put, List.setIfInBounds_toArray, List.set_cons_zero, List.set_cons_succ]
              refine wpAnyH_take (i := 24) (oi := { dst := some 150, op := Go.Op.move (Go.Operand.tmp 149), type := 4, pos := _, after := #[{ on := 23, ground := Go.Ground.data }, { on := 17, ground := Go.Ground.chain }, { on := 17, ground := Go.Ground.guard }], guard := some (17, true) }) (v := undef) rfl (by kernel_rfl) (by kernel_rfl) (by kernel_rfl) (fun _ _ _ h => h) (Or.inr ⟨by rfl, rfl⟩) (by assumption) ?_
              try simp only [Act.put, List.setIfInBounds_toArray, List.set_cons_zero, List.set_cons_succ]
              refine wpAnyH_take (i := 25) (oi := { dst := some 151, op := Go.Op.move (Go.Operand.tmp 15), type := 22, pos := _, after := #[{ on := 24, ground := Go.Ground.guard }], guard := some (24, false) }) (v := undef) rfl (by kernel_rfl) (by kernel_rfl) (by kernel_rfl) (fun _ _ _ h => h) (Or.inr ⟨by rfl, rfl⟩) (by assumption) ?_
              try simp only [Act.put, List.setIfInBounds_toArray, List.set_cons_zero, List.set_cons_succ]
              refine wpAnyH_take (i := 26) (oi := { dst := some 152, op := Go.Op.indexAddr 22 (Go.Operand.tmp 151) (Go.Operand.const (Go.Value.int Go.IntKind.i64 1)), type := 0, pos := _, after := #[{ on := 25, ground := Go.Ground.data }, { on := 24, ground := Go.Ground.guard }], guard := some (24, false) }) (v := undef) rfl (by kernel_rfl) (by kernel_rfl) (by kernel_rfl) (fun _ _ _ h => h) (Or.inr ⟨by rfl, rfl⟩) (by assumption) ?_
              try simp only [Act.put, List.setIfInBounds_toArray, List.set_cons_zero, List.set_cons_succ]
              refine wpAnyH_take (i := 27) (oi := { dst := some 153, op := Go.Op.load 5 (Go.Operand.tmp 152), type := 5, pos := _, after := #[{ on := 26, ground := Go.Ground.data }, { on := 24, ground := Go.Ground.guard }], guard := some (24, false) }) (v := undef) rfl (by kernel_rfl) (by kernel_rfl) (by kernel_rfl) (fun _ _ _ h => h) (Or.inr ⟨by rfl, rfl⟩) (by assumption) ?_
              try simp only [Act.put, List.setIfInBounds_toArray, List.set_cons_zero, List.set_cons_succ]
              refine wpAnyH_take (i := 28) (oi := { dst := some 154, op := Go.Op.move (Go.Operand.tmp 0), type := 40, pos := _, after := #[{ on := 24, ground := Go.Ground.guard }], guard := some (24, false) }) (v := undef) rfl (by kernel_rfl) (by kernel_rfl) (by kernel_rfl) (fun _ _ _ h => h) (Or.inr ⟨by rfl, rfl⟩) (by assumption) ?_
              try simp only [Act.put, List.setIfInBounds_toArray, List.set_cons_zero, List.set_cons_succ]
              refine wpAnyH_take (i := 29) (oi := { dst := some 155, op := Go.Op.move (Go.Operand.tmp 12), type := 3, pos := _, after := #[{ on := 24, ground := Go.Ground.guard }], guard := some (24, false) }) (v := undef) rfl (by kernel_rfl) (by kernel_rfl) (by kernel_rfl) (fun _ _ _ h => h) (Or.inr ⟨by rfl, rfl⟩) (by assumption) ?_
              try simp only [Act.put, List.setIfInBounds_toArray, List.set_cons_zero, List.set_cons_succ]
              refine wpAnyH_take (i := 30) (oi := { dst := some 156, op := Go.Op.indexAddr 40 (Go.Operand.tmp 154) (Go.Operand.tmp 155), type := 0, pos := _, after := #[{ on := 28, ground := Go.Ground.data }, { on := 29, ground := Go.Ground.data }, { on := 24, ground := Go.Ground.guard }], guard := some (24, false) }) (v := undef) rfl (by kernel_rfl) (by kernel_rfl) (by kernel_rfl) (fun _ _ _ h => h) (Or.inr ⟨by rfl, rfl⟩) (by assumption) ?_
              try simp only [Act.put, List.setIfInBounds_toArray, List.set_cons_zero, List.set_cons_succ]
              refine wpAnyH_take (i := 31) (oi := { dst := some 157, op := Go.Op.load 44 (Go.Operand.tmp 156), type := 44, pos := _, after := #[{ on := 30, ground := Go.Ground.data }, { on := 24, ground := Go.Ground.guard }], guard := some (24, false) }) (v := undef) rfl (by kernel_rfl) (by kernel_rfl) (by kernel_rfl) (fun _ _ _ h => h) (Or.inr ⟨by rfl, rfl⟩) (by assumption) ?_
              try simp only [Act.put, List.setIfInBounds_toArray, List.set_cons_zero, List.set_cons_succ]
              refine wpAnyH_take (i := 32) (oi := { dst := some 158, op := Go.Op.convert 44 5 (Go.Operand.tmp 157), type := 5, pos := _, after := #[{ on := 31, ground := Go.Ground.data }, { on := 24, ground := Go.Ground.guard }], guard := some (24, false) }) (v := undef) rfl (by kernel_rfl) (by kernel_rfl) (by kernel_rfl) (fun _ _ _ h => h) (Or.inr ⟨by rfl, rfl⟩) (by assumption) ?_
              try simp only [Act.put, List.setIfInBounds_toArray, List.set_cons_zero, List.set_cons_succ]
              refine wpAnyH_take (i := 33) (oi := { dst := some 159, op := Go.Op.binOp Go.BinOp.neq 5 (Go.Operand.tmp 153) (Go.Operand.tmp 158) 5, type := 4, pos := _, after := #[{ on := 27, ground := Go.Ground.data }, { on := 32, ground := Go.Ground.data }, { on := 24, ground := Go.Ground.guard }], guard := some (24, false) }) (v := undef) rfl (by kernel_rfl) (by kernel_rfl) (by kernel_rfl) (fun _ _ _ h => h) (Or.inr ⟨by rfl, rfl⟩) (by assumption) ?_
              try simp only [Act.put, List.setIfInBounds_toArray, List.set_cons_zero, List.set_cons_succ]
              refine wpAnyH_take (i := 34) (oi := { dst := some 160, op := Go.Op.pick (Go.Operand.tmp 150) (Go.Operand.const (Go.Value.bool true)) (Go.Operand.tmp 159), type := 4, pos := _, after := #[{ on := 24, ground := Go.Ground.data }, { on := 33, ground := Go.Ground.data }, { on := 17, ground := Go.Ground.guard }], guard := some (17, true) }) (v := undef) rfl (by kernel_rfl) (by kernel_rfl) (by kernel_rfl) (fun _ _ _ h => h) (Or.inr ⟨by rfl, rfl⟩) (by assumption) ?_
              try simp only [Act.put, List.setIfInBounds_toArray, List.set_cons_zero, List.set_cons_succ]
              refine wpAnyH_take (i := 35) (oi := { dst := some 161, op := Go.Op.pick (Go.Operand.tmp 143) (Go.Operand.tmp 160) (Go.Operand.const (Go.Value.bool false)), type := 4, pos := _, after := #[{ on := 17, ground := Go.Ground.data }, { on := 34, ground := Go.Ground.data }, { on := 14, ground := Go.Ground.guard }], guard := some (14, false) }) (v := .bool false) rfl (by kernel_rfl) (by kernel_rfl) (by kernel_rfl) (fun _ _ _ h => h) (Or.inl ⟨by rfl, fun W hW => by go_simp⟩) (by assumption) ?_
              try simp only [Act.put, List.setIfInBounds_toArray, List.set_cons_zero, List.set_cons_succ]
              refine wpAnyH_take (i := 36) (oi := { dst := some 162, op := Go.Op.pick (Go.Operand.tmp 140) (Go.Operand.const (Go.Value.bool true)) (Go.Operand.tmp 161), type := 4, pos := _, after := #[{ on := 14, ground := Go.Ground.data }, { on := 35, ground := Go.Ground.data }], guard := none }) (v := .bool false) rfl (by kernel_rfl) (by kernel_rfl) (by kernel_rfl) (fun _ _ _ h => h) (Or.inl ⟨by rfl, fun W hW => by go_simp⟩) (by assumption) ?_
              try simp only [Act.put, List.setIfInBounds_toArray, List.set_cons_zero, List.set_cons_succ]
              refine wpAnyH_done (by kernel_rfl) ?_ _
              refine NoPanic.normal ?_
              go_wp2
              go_roundw
              case rel => first | exact fin | ((repeat apply Exists.intro); exact ⟨fin, rfl⟩)
              case measure => simp [intOf]; omega
            | some m =>
              rw [wantI_some]
              go_wp2_with (go_at_call 8; refine kr.mono ?_; rintro e w2 ⟨rfl, r2, b2⟩)
              have b2w := hbo.trans (b2.mono hbo.size)
              have o2 := hoc.below b2
              have s2 := Nat.le_trans hso b2.size
              have hml : m < l.length := lastK_lt hL
              obtain ⟨bl, ol, rfl, hbl, hcl⟩ := in16_cell hl hml
              obtain ⟨x, hx⟩ : ∃ x, x = l[m]'hml := ⟨_, rfl⟩
              have hgd : l.getD m 0 = x := by rw [hx]; simp [hml]
              have c2 : w2.cell? ⟨bl, ol + m, none⟩ = some (.int .u16 (x.toNat : Int)) := by
                rw [World.cell?_of_block (w := w) (b2w.block bl hbl), hx]
                exact hcl m hml
              obtain ⟨y, hy⟩ : ∃ y, y = UInt8.ofNat m := ⟨_, rfl⟩
              obtain ⟨z, hz⟩ : ∃ z, z = UInt8.ofNat x.toNat := ⟨_, rfl⟩
              have cv1 : ∀ W, (convert 3 5 (.int .i64 (m : Int))).run Try.prog W = .ok (.int .u8 (y.toNat : Int)) W := fun W => by rw [hy]; exact conv_i m W
              have cv2 : ∀ W, (convert 44 5 (.int .u16 (x.toNat : Int))).run Try.prog W = .ok (.int .u8 (z.toNat : Int)) W := fun W => by rw [hz]; exact conv_w x.toNat W
              have hwb : wrB l m = [y, z] := by unfold wrB; rw [hgd, hy, hz]
              have r3 : w2.heap[wo.heap.size + 1]? = some (.cells (bcells (pad [y, z])).toArray 5 (0, 0)) := by rw [r2, ← hwb]; rfl
              have c0 := row_cell r3 (pad_get [y, z] 0 (by omega))
              have c1 := row_cell r3 (pad_get [y, z] 1 (by omega))
              have c0' : w2.cell? ⟨wo.heap.size + 1, 0, none⟩ = some (.int .u8 (y.toNat : Int)) := c0
              have c1' : w2.cell? ⟨wo.heap.size + 1, 1, none⟩ = some (.int .u8 (z.toNat : Int)) := c1
              have hml' : ¬ l.length ≤ m := by omega
              have hml2 : (m : Int) < (l.length : Int) := by omega
              have fin : ∃ a1 : Nat, a1 ≤ 8 ∧ Value.int .i64 ((a : Int) + 1) = .int .i64 (a1 : Int) ∧ Own base w2.drew Bc dc ∧ Below w.heap.size w w2.drew ∧ w.heap.size ≤ w2.drew.heap.size := ⟨a + 1, by omega, by simp, o2.drew, b2w.drew, s2⟩
              clear kr hoc hbo b2w o2 s2 b2 hso
              clear r2 r3 c0 c1 hwb hgd hx hy hz hcl hL
              generalize wo.heap.size + 1 = gx at *
              refine wp_region_noPanic ?_
              refine wp_region_held_drew (S := fun W => W.cell? ⟨gx, 0, none⟩ = some (.int .u8 (y.toNat : Int)) ∧ W.cell? ⟨gx, 1, none⟩ = some (.int .u8 (z.toNat : Int)) ∧ W.cell? ⟨bl, ol + m, none⟩ = some (.int .u16 (x.toNat : Int))) (by kernel_rfl) ⟨c0', c1', c2⟩ (fun hHeld => ?_)
              refine wpAnyH_take (i := 0) (oi := { dst := some 126, op := Go.Op.move (Go.Operand.tmp 12), type := 3, pos := _, after := #[], guard := none }) (v := .int .i64 (m : Int)) rfl (by kernel_rfl) (by kernel_rfl) (by kernel_rfl) (fun _ _ _ h => h) (Or.inl ⟨by rfl, fun W hW => by go_simp⟩) (by assumption) ?_
              try simp only [Act.put, List.setIfInBounds_toArray, List.set_cons_zero, List.set_cons_succ]
              refine wpAnyH_take (i := 1) (oi := { dst := some 127, op := Go.Op.binOp Go.BinOp.lss 3 (Go.Operand.tmp 126) (Go.Operand.const (Go.Value.int Go.IntKind.i64 0)) 3, type := 4, pos := _, after := #[{ on := 0, ground := Go.Ground.data }], guard := none }) (v := .bool false) rfl (by kernel_rfl) (by kernel_rfl) (by kernel_rfl) (fun _ _ _ h => h) (Or.inl ⟨by rfl, fun W hW => by go_simp⟩) (by assumption) ?_
              try simp only [Act.put, List.setIfInBounds_toArray, List.set_cons_zero, List.set_cons_succ]
              refine wpAnyH_take (i := 2) (oi := { dst := some 128, op := Go.Op.move (Go.Operand.tmp 127), type := 4, pos := _, after := #[{ on := 1, ground := Go.Ground.data }], guard := none }) (v := .bool false) rfl (by kernel_rfl) (by kernel_rfl) (by kernel_rfl) (fun _ _ _ h => h) (Or.inl ⟨by rfl, fun W hW => by go_simp⟩) (by assumption) ?_
              try simp only [Act.put, List.setIfInBounds_toArray, List.set_cons_zero, List.set_cons_succ]
              refine wpAnyH_take (i := 3) (oi := { dst := some 129, op := Go.Op.move (Go.Operand.tmp 15), type := 22, pos := _, after := #[{ on := 2, ground := Go.Ground.guard }], guard := some (2, true) }) (v := undef) rfl (by kernel_rfl) (by kernel_rfl) (by kernel_rfl) (fun _ _ _ h => h) (Or.inr ⟨by rfl, rfl⟩) (by assumption) ?_
              try simp only [Act.put, List.setIfInBounds_toArray, List.set_cons_zero, List.set_cons_succ]
              refine wpAnyH_take (i := 4) (oi := { dst := some 130, op := Go.Op.indexAddr 22 (Go.Operand.tmp 129) (Go.Operand.const (Go.Value.int Go.IntKind.i64 0)), type := 0, pos := _, after := #[{ on := 3, ground := Go.Ground.data }, { on := 2, ground := Go.Ground.guard }], guard := some (2, true) }) (v := undef) rfl (by kernel_rfl) (by kernel_rfl) (by kernel_rfl) (fun _ _ _ h => h) (Or.inr ⟨by rfl, rfl⟩) (by assumption) ?_
              try simp only [Act.put, List.setIfInBounds_toArray, List.set_cons_zero, List.set_cons_succ]
              refine wpAnyH_take (i := 5) (oi := { dst := some 131, op := Go.Op.load 5 (Go.Operand.tmp 130), type := 5, pos := _, after := #[{ on := 4, ground := Go.Ground.data }, { on := 2, ground := Go.Ground.guard }], guard := some (2, true) }) (v := undef) rfl (by kernel_rfl) (by kernel_rfl) (by kernel_rfl) (fun _ _ _ h => h) (Or.inr ⟨by rfl, rfl⟩) (by assumption) ?_
              try simp only [Act.put, List.setIfInBounds_toArray, List.set_cons_zero, List.set_cons_succ]
              refine wpAnyH_take (i := 6) (oi := { dst := some 132, op := Go.Op.binOp Go.BinOp.neq 5 (Go.Operand.tmp 131) (Go.Operand.const (Go.Value.int Go.IntKind.u8 0)) 5, type := 4, pos := _, after := #[{ on := 5, ground := Go.Ground.data }, { on := 2, ground := Go.Ground.guard }], guard := some (2, true) }) (v := undef) rfl (by kernel_rfl) (by kernel_rfl) (by kernel_rfl) (fun _ _ _ h => h) (Or.inr ⟨by rfl, rfl⟩) (by assumption) ?_
              try simp only [Act.put, List.setIfInBounds_toArray, List.set_cons_zero, List.set_cons_succ]
              refine wpAnyH_take (i := 7) (oi := { dst := some 133, op := Go.Op.move (Go.Operand.tmp 132), type := 4, pos := _, after := #[{ on := 6, ground := Go.Ground.data }, { on := 2, ground := Go.Ground.chain }, { on := 2, ground := Go.Ground.guard }], guard := some (2, true) }) (v := undef) rfl (by kernel_rfl) (by kernel_rfl) (by kernel_rfl) (fun _ _ _ h => h) (Or.inr ⟨by rfl, rfl⟩) (by assumption) ?_
              try simp only [Act.put, List.setIfInBounds_toArray, List.set_cons_zero, List.set_cons_succ]
              refine wpAnyH_take (i := 8) (oi := { dst := some 134, op := Go.Op.move (Go.Operand.tmp 15), type := 22, pos := _, after := #[{ on := 7, ground := Go.Ground.guard }], guard := some (7, false) }) (v := undef) rfl (by kernel_rfl) (by kernel_rfl) (by kernel_rfl) (fun _ _ _ h => h) (Or.inr ⟨by rfl, rfl⟩) (by assumption) ?_
              try simp only [Act.put, List.setIfInBounds_toArray, List.set_cons_zero, List.set_cons_succ]
              refine wpAnyH_take (i := 9) (oi := { dst := some 135, op := Go.Op.indexAddr 22 (Go.Operand.tmp 134) (Go.Operand.const (Go.Value.int Go.IntKind.i64 1)), type := 0, pos := _, after := #[{ on := 8, ground := Go.Ground.data }, { on := 7, ground := Go.Ground.guard }], guard := some (7, false) }) (v := undef) rfl (by kernel_rfl) (by kernel_rfl) (by kernel_rfl) (fun _ _ _ h => h) (Or.inr ⟨by rfl, rfl⟩) (by assumption) ?_
              try simp only [Act.put, List.setIfInBounds_toArray, List.set_cons_zero, List.set_cons_succ]
              refine wpAnyH_take (i := 10) (oi := { dst := some 136, op := Go.Op.load 5 (Go.Operand.tmp 135), type := 5, pos := _, after := #[{ on := 9, ground := Go.Ground.data }, { on := 7, ground := Go.Ground.guard }], guard := some (7, false) }) (v := undef) rfl (by kernel_rfl) (by kernel_rfl) (by kernel_rfl) (fun _ _ _ h => h) (Or.inr ⟨by rfl, rfl⟩) (by assumption) ?_
              try simp only [Act.put, List.setIfInBounds_toArray, List.set_cons_zero, List.set_cons_succ]
              refine wpAnyH_take (i := 11) (oi := { dst := some 137, op := Go.Op.binOp Go.BinOp.neq 5 (Go.Operand.tmp 136) (Go.Operand.const (Go.Value.int Go.IntKind.u8 0)) 5, type := 4, pos := _, after := #[{ on := 10, ground := Go.Ground.data }, { on := 7, ground := Go.Ground.guard }], guard := some (7, false) }) (v := undef) rfl (by kernel_rfl) (by kernel_rfl) (by kernel_rfl) (fun _ _ _ h => h) (Or.inr ⟨by rfl, rfl⟩) (by assumption) ?_
              try simp only [Act.put, List.setIfInBounds_toArray, List.set_cons_zero, List.set_cons_succ]
              refine wpAnyH_take (i := 12) (oi := { dst := some 138, op := Go.Op.pick (Go.Operand.tmp 133) (Go.Operand.const (Go.Value.bool true)) (Go.Operand.tmp 137), type := 4, pos := _, after := #[{ on := 7, ground := Go.Ground.data }, { on := 11, ground := Go.Ground.data }, { on := 2, ground := Go.Ground.guard }], guard := some (2, true) }) (v := undef) rfl (by kernel_rfl) (by kernel_rfl) (by kernel_rfl) (fun _ _ _ h => h) (Or.inr ⟨by rfl, rfl⟩) (by assumption) ?_
              try simp only [Act.put, List.setIfInBounds_toArray, List.set_cons_zero, List.set_cons_succ]
              refine wpAnyH_take (i := 13) (oi := { dst := some 139, op := Go.Op.pick (Go.Operand.tmp 128) (Go.Operand.tmp 138) (Go.Operand.const (Go.Value.bool false)), type := 4, pos := _, after := #[{ on := 2, ground := Go.Ground.data }, { on := 12, ground := Go.Ground.data }], guard := none }) (v := .bool false) rfl (by kernel_rfl) (by kernel_rfl) (by kernel_rfl) (fun _ _ _ h => h) (Or.inl ⟨by rfl, fun W hW => by go_simp⟩) (by assumption) ?_
              try simp only [Act.put, List.setIfInBounds_toArray, List.set_cons_zero, List.set_cons_succ]
              refine wpAnyH_take (i := 14) (oi := { dst := some 140, op := Go.Op.move (Go.Operand.tmp 139), type := 4, pos := _, after := #[{ on := 13, ground := Go.Ground.data }, { on := 7, ground := Go.Ground.chain }], guard := none }) (v := .bool false) rfl (by kernel_rfl) (by kernel_rfl) (by kernel_rfl) (fun _ _ _ h => h) (Or.inl ⟨by rfl, fun W hW => by go_simp⟩) (by assumption) ?_
              try simp only [Act.put, List.setIfInBounds_toArray, List.set_cons_zero, List.set_cons_succ]
              refine wpAnyH_take (i := 15) (oi := { dst := some 141, op := Go.Op.move (Go.Operand.tmp 12), type := 3, pos := _, after := #[{ on := 14, ground := Go.Ground.guard }], guard := some (14, false) }) (v := .int .i64 (m : Int)) rfl (by kernel_rfl) (by kernel_rfl) (by kernel_rfl) (fun _ _ _ h => h) (Or.inl ⟨by rfl, fun W hW => by go_simp⟩) (by assumption) ?_
              try simp only [Act.put, List.setIfInBounds_toArray, List.set_cons_zero, List.set_cons_succ]
              refine wpAnyH_take (i := 16) (oi := { dst := some 142, op := Go.Op.binOp Go.BinOp.geq 3 (Go.Operand.tmp 141) (Go.Operand.const (Go.Value.int Go.IntKind.i64 0)) 3, type := 4, pos := _, after := #[{ on := 15, ground := Go.Ground.data }, { on := 14, ground := Go.Ground.guard }], guard := some (14, false) }) (v := .bool true) rfl (by kernel_rfl) (by kernel_rfl) (by kernel_rfl) (fun _ _ _ h => h) (Or.inl ⟨by rfl, fun W hW => by go_simp⟩) (by assumption) ?_
              try simp only [Act.put, List.setIfInBounds_toArray, List.set_cons_zero, List.set_cons_succ]
              refine wpAnyH_take (i := 17) (oi := { dst := some 143, op := Go.Op.move (Go.Operand.tmp 142), type := 4, pos := _, after := #[{ on := 16, ground := Go.Ground.data }, { on := 14, ground := Go.Ground.chain }, { on := 14, ground := Go.Ground.guard }], guard := some (14, false) }) (v := .bool true) rfl (by kernel_rfl) (by kernel_rfl) (by kernel_rfl) (fun _ _ _ h => h) (Or.inl ⟨by rfl, fun W hW => by go_simp⟩) (by assumption) ?_
              try simp only [Act.put, List.setIfInBounds_toArray, List.set_cons_zero, List.set_cons_succ]
              refine wpAnyH_take (i := 18) (oi := { dst := some 144, op := Go.Op.move (Go.Operand.tmp 15), type := 22, pos := _, after := #[{ on := 17, ground := Go.Ground.guard }], guard := some (17, true) }) (v := .slice (some ⟨gx, 0, none⟩) 64 64) rfl (by kernel_rfl) (by kernel_rfl) (by kernel_rfl) (fun _ _ _ h => h) (Or.inl ⟨by rfl, fun W hW => by go_simp⟩) (by assumption) ?_
              try simp only [Act.put, List.setIfInBounds_toArray, List.set_cons_zero, List.set_cons_succ]
              refine wpAnyH_take (i := 19) (oi := { dst := some 145, op := Go.Op.indexAddr 22 (Go.Operand.tmp 144) (Go.Operand.const (Go.Value.int Go.IntKind.i64 0)), type := 0, pos := _, after := #[{ on := 18, ground := Go.Ground.data }, { on := 17, ground := Go.Ground.guard }], guard := some (17, true) }) (v := .pointer (some ⟨gx, 0, none⟩)) rfl (by kernel_rfl) (by kernel_rfl) (by kernel_rfl) (fun _ _ _ h => h) (Or.inl ⟨by rfl, fun W hW => by go_simp⟩) (by assumption) ?_
              try simp only [Act.put, List.setIfInBounds_toArray, List.set_cons_zero, List.set_cons_succ]
              refine wpAnyH_take (i := 20) (oi := { dst := some 146, op := Go.Op.load 5 (Go.Operand.tmp 145), type := 5, pos := _, after := #[{ on := 19, ground := Go.Ground.data }, { on := 17, ground := Go.Ground.guard }], guard := some (17, true) }) (v := .int .u8 (y.toNat : Int)) rfl (by kernel_rfl) (by kernel_rfl) (by kernel_rfl) (fun _ _ _ h => h) (yieldsIf_load (by rfl) 5 (.tmp 145) rfl _ _ rfl (fun W hW => ld8 _ _ _ W hW.1)) (by assumption) ?_
              try simp only [Act.put, List.setIfInBounds_toArray, List.set_cons_zero, List.set_cons_succ]
              refine wpAnyH_take (i := 21) (oi := { dst := some 147, op := Go.Op.move (Go.Operand.tmp 12), type := 3, pos := _, after := #[{ on := 17, ground := Go.Ground.guard }], guard := some (17, true) }) (v := .int .i64 (m : Int)) rfl (by kernel_rfl) (by kernel_rfl) (by kernel_rfl) (fun _ _ _ h => h) (Or.inl ⟨by rfl, fun W hW => by go_simp⟩) (by assumption) ?_
              try simp only [Act.put, List.setIfInBounds_toArray, List.set_cons_zero, List.set_cons_succ]
              refine wpAnyH_take (i := 22) (oi := { dst := some 148, op := Go.Op.convert 3 5 (Go.Operand.tmp 147), type := 5, pos := _, after := #[{ on := 21, ground := Go.Ground.data }, { on := 17, ground := Go.Ground.guard }], guard := some (17, true) }) (v := .int .u8 (y.toNat : Int)) rfl (by kernel_rfl) (by kernel_rfl) (by kernel_rfl) (fun _ _ _ h => h) (Or.inl ⟨by rfl, fun W hW => by have h1 := cv1 W; go_simp⟩) (by assumption) ?_
              try simp only [Act.put, List.setIfInBounds_toArray, List.set_cons_zero, List.set_cons_succ]
              refine wpAnyH_take (i := 23) (oi := { dst := some 149, op := Go.Op.binOp Go.BinOp.neq 5 (Go.Operand.tmp 146) (Go.Operand.tmp 148) 5, type := 4, pos := _, after := #[{ on := 20, ground := Go.Ground.data }, { on := 22, ground := Go.Ground.data }, { on := 17, ground := Go.Ground.guard }], guard := some (17, true) }) (v := .bool false) rfl (by kernel_rfl) (by kernel_rfl) (by kernel_rfl) (fun _ _ _ h => h) (Or.inl ⟨by rfl, fun W hW => by go_simp⟩) (by assumption) ?_
              try simp only [Act.put, List.setIfInBounds_toArray, List.set_cons_zero, List.set_cons_succ]
              refine wpAnyH_take (i := 24) (oi := { dst := some 150, op := Go.Op.move (Go.Operand.tmp 149), type := 4, pos := _, after := #[{ on := 23, ground := Go.Ground.data }, { on := 17, ground := Go.Ground.chain }, { on := 17, ground := Go.Ground.guard }], guard := some (17, true) }) (v := .bool false) rfl (by kernel_rfl) (by kernel_rfl) (by kernel_rfl) (fun _ _ _ h => h) (Or.inl ⟨by rfl, fun W hW => by go_simp⟩) (by assumption) ?_
              try simp only [Act.put, List.setIfInBounds_toArray, List.set_cons_zero, List.set_cons_succ]
              refine wpAnyH_take (i := 25) (oi := { dst := some 151, op := Go.Op.move (Go.Operand.tmp 15), type := 22, pos := _, after := #[{ on := 24, ground := Go.Ground.guard }], guard := some (24, false) }) (v := .slice (some ⟨gx, 0, none⟩) 64 64) rfl (by kernel_rfl) (by kernel_rfl) (by kernel_rfl) (fun _ _ _ h => h) (Or.inl ⟨by rfl, fun W hW => by go_simp⟩) (by assumption) ?_
              try simp only [Act.put, List.setIfInBounds_toArray, List.set_cons_zero, List.set_cons_succ]
              refine wpAnyH_take (i := 26) (oi := { dst := some 152, op := Go.Op.indexAddr 22 (Go.Operand.tmp 151) (Go.Operand.const (Go.Value.int Go.IntKind.i64 1)), type := 0, pos := _, after := #[{ on := 25, ground := Go.Ground.data }, { on := 24, ground := Go.Ground.guard }], guard := some (24, false) }) (v := .pointer (some ⟨gx, 1, none⟩)) rfl (by kernel_rfl) (by kernel_rfl) (by kernel_rfl) (fun _ _ _ h => h) (Or.inl ⟨by rfl, fun W hW => by go_simp⟩) (by assumption) ?_
              try simp only [Act.put, List.setIfInBounds_toArray, List.set_cons_zero, List.set_cons_succ]
              refine wpAnyH_take (i := 27) (oi := { dst := some 153, op := Go.Op.load 5 (Go.Operand.tmp 152), type := 5, pos := _, after := #[{ on := 26, ground := Go.Ground.data }, { on := 24, ground := Go.Ground.guard }], guard := some (24, false) }) (v := .int .u8 (z.toNat : Int)) rfl (by kernel_rfl) (by kernel_rfl) (by kernel_rfl) (fun _ _ _ h => h) (yieldsIf_load (by rfl) 5 (.tmp 152) rfl _ _ rfl (fun W hW => ld8 _ _ _ W hW.2.1)) (by assumption) ?_
              try simp only [Act.put, List.setIfInBounds_toArray, List.set_cons_zero, List.set_cons_succ]
              refine wpAnyH_take (i := 28) (oi := { dst := some 154, op := Go.Op.move (Go.Operand.tmp 0), type := 40, pos := _, after := #[{ on := 24, ground := Go.Ground.guard }], guard := some (24, false) }) (v := .slice (some ⟨bl, ol, none⟩) l.length cl) rfl (by kernel_rfl) (by kernel_rfl) (by kernel_rfl) (fun _ _ _ h => h) (Or.inl ⟨by rfl, fun W hW => by go_simp⟩) (by assumption) ?_
              try simp only [Act.put, List.setIfInBounds_toArray, List.set_cons_zero, List.set_cons_succ]
              refine wpAnyH_take (i := 29) (oi := { dst := some 155, op := Go.Op.move (Go.Operand.tmp 12), type := 3, pos := _, after := #[{ on := 24, ground := Go.Ground.guard }], guard := some (24, false) }) (v := .int .i64 (m : Int)) rfl (by kernel_rfl) (by kernel_rfl) (by kernel_rfl) (fun _ _ _ h => h) (Or.inl ⟨by rfl, fun W hW => by go_simp⟩) (by assumption) ?_
              try simp only [Act.put, List.setIfInBounds_toArray, List.set_cons_zero, List.set_cons_succ]
              refine wpAnyH_take (i := 30) (oi := { dst := some 156, op := Go.Op.indexAddr 40 (Go.Operand.tmp 154) (Go.Operand.tmp 155), type := 0, pos := _, after := #[{ on := 28, ground := Go.Ground.data }, { on := 29, ground := Go.Ground.data }, { on := 24, ground := Go.Ground.guard }], guard := some (24, false) }) (v := .pointer (some ⟨bl, ol + m, none⟩)) rfl (by kernel_rfl) (by kernel_rfl) (by kernel_rfl) (fun _ _ _ h => h) (Or.inl ⟨by rfl, fun W hW => by go_simp⟩) (by assumption) ?_
              try simp only [Act.put, List.setIfInBounds_toArray, List.set_cons_zero, List.set_cons_succ]
              refine wpAnyH_take (i := 31) (oi := { dst := some 157, op := Go.Op.load 44 (Go.Operand.tmp 156), type := 44, pos := _, after := #[{ on := 30, ground := Go.Ground.data }, { on := 24, ground := Go.Ground.guard }], guard := some (24, false) }) (v := .int .u16 (x.toNat : Int)) rfl (by kernel_rfl) (by kernel_rfl) (by kernel_rfl) (fun _ _ _ h => h) (yieldsIf_load (by rfl) 44 (.tmp 156) rfl _ _ rfl (fun W hW => ld16 _ _ _ W hW.2.2)) (by assumption) ?_
              try simp only [Act.put, List.setIfInBounds_toArray, List.set_cons_zero, List.set_cons_succ]
              refine wpAnyH_take (i := 32) (oi := { dst := some 158, op := Go.Op.convert 44 5 (Go.Operand.tmp 157), type := 5, pos := _, after := #[{ on := 31, ground := Go.Ground.data }, { on := 24, ground := Go.Ground.guard }], guard := some (24, false) }) (v := .int .u8 (z.toNat : Int)) rfl (by kernel_rfl) (by kernel_rfl) (by kernel_rfl) (fun _ _ _ h => h) (Or.inl ⟨by rfl, fun W hW => by have h1 := cv2 W; go_simp⟩) (by assumption) ?_
              try simp only [Act.put, List.setIfInBounds_toArray, List.set_cons_zero, List.set_cons_succ]
              refine wpAnyH_take (i := 33) (oi := { dst := some 159, op := Go.Op.binOp Go.BinOp.neq 5 (Go.Operand.tmp 153) (Go.Operand.tmp 158) 5, type := 4, pos := _, after := #[{ on := 27, ground := Go.Ground.data }, { on := 32, ground := Go.Ground.data }, { on := 24, ground := Go.Ground.guard }], guard := some (24, false) }) (v := .bool false) rfl (by kernel_rfl) (by kernel_rfl) (by kernel_rfl) (fun _ _ _ h => h) (Or.inl ⟨by rfl, fun W hW => by go_simp⟩) (by assumption) ?_
              try simp only [Act.put, List.setIfInBounds_toArray, List.set_cons_zero, List.set_cons_succ]
              refine wpAnyH_take (i := 34) (oi := { dst := some 160, op := Go.Op.pick (Go.Operand.tmp 150) (Go.Operand.const (Go.Value.bool true)) (Go.Operand.tmp 159), type := 4, pos := _, after := #[{ on := 24, ground := Go.Ground.data }, { on := 33, ground := Go.Ground.data }, { on := 17, ground := Go.Ground.guard }], guard := some (17, true) }) (v := .bool false) rfl (by kernel_rfl) (by kernel_rfl) (by kernel_rfl) (fun _ _ _ h => h) (Or.inl ⟨by rfl, fun W hW => by go_simp⟩) (by assumption) ?_
              try simp only [Act.put, List.setIfInBounds_toArray, List.set_cons_zero, List.set_cons_succ]
              refine wpAnyH_take (i := 35) (oi := { dst := some 161, op := Go.Op.pick (Go.Operand.tmp 143) (Go.Operand.tmp 160) (Go.Operand.const (Go.Value.bool false)), type := 4, pos := _, after := #[{ on := 17, ground := Go.Ground.data }, { on := 34, ground := Go.Ground.data }, { on := 14, ground := Go.Ground.guard }], guard := some (14, false) }) (v := .bool false) rfl (by kernel_rfl) (by kernel_rfl) (by kernel_rfl) (fun _ _ _ h => h) (Or.inl ⟨by rfl, fun W hW => by go_simp⟩) (by assumption) ?_
              try simp only [Act.put, List.setIfInBounds_toArray, List.set_cons_zero, List.set_cons_succ]
              refine wpAnyH_take (i := 36) (oi := { dst := some 162, op := Go.Op.pick (Go.Operand.tmp 140) (Go.Operand.const (Go.Value.bool true)) (Go.Operand.tmp 161), type := 4, pos := _, after := #[{ on := 14, ground := Go.Ground.data }, { on := 35, ground := Go.Ground.data }], guard := none }) (v := .bool false) rfl (by kernel_rfl) (by kernel_rfl) (by kernel_rfl) (fun _ _ _ h => h) (Or.inl ⟨by rfl, fun W hW => by go_simp⟩) (by assumption) ?_
              try simp only [Act.put, List.setIfInBounds_toArray, List.set_cons_zero, List.set_cons_succ]
              refine wpAnyH_done (by kernel_rfl) ?_ _
              refine NoPanic.normal ?_
              go_wp2
              go_roundw
              case rel => first | exact fin | ((repeat apply Exists.intro); exact ⟨fin, rfl⟩)
              case measure => simp [intOf]; omega
      · have a1 : ¬ (a : Int) < 8 := by omega
        go_wp2
        go_ret
        exact ⟨rfl, hbo⟩

end Go.Proofs.Ytapfkoojplbfmaa
