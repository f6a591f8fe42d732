/- The walk of BagsNone. -/
import Derived.Test.YtpmmdbdooclcoaaBaNone
import Derived.Deep.RegionHeld3
set_option linter.unusedSimpArgs false
set_option linter.unusedVariables false
namespace Go.Proofs.Ytpmmdbdooclcoaa
open Go.RowKit

/-- What is there while a bag that is not there is asked: the struct that was answered, the list of bags, the message. -/
structure NnS (w : World) (X A M k : Nat) (p : Value) (d : MsgD) (ao bo : Option Addr) (an ac bn bc : Nat) (W : World) : Prop where
  x0 : W.cell? ⟨X, 0, none⟩ = some (.int .u8 0)
  x3 : W.cell? ⟨X, 3, none⟩ = some (.int .u32 0)
  a : W.cell? ⟨A, k, none⟩ = some p
  m0 : W.cell? ⟨M, 0, none⟩ = some (.int .u8 (d.say.toNat : Int))
  m1 : W.cell? ⟨M, 1, none⟩ = some (.int .u8 (d.src.toNat : Int))
  m2 : W.cell? ⟨M, 2, none⟩ = some (.int .u8 (d.dst.toNat : Int))
  m3 : W.cell? ⟨M, 3, none⟩ = some (.int .u32 (d.g.toNat : Int))
  m4 : W.cell? ⟨M, 4, none⟩ = some (.slice ao an ac)
  m5 : W.cell? ⟨M, 5, none⟩ = some (.slice bo bn bc)
  nb : NoBag W p
  be : Below w.heap.size w W
theorem NnS.below {w : World} {X A M k : Nat} {p : Value} {d : MsgD} {ao bo : Option Addr} {an ac bn bc : Nat} {W W' : World} (h : NnS w X A M k p d ao bo an ac bn bc W) (hb : Below W.heap.size W W') : NnS w X A M k p d ao bo an ac bn bc W' :=
  have c : ∀ {q : Addr} {v : Value}, W.cell? q = some v → W'.cell? q = some v := fun {q v} e => (hb.cell (World.block_lt_of_cell? W _ e)).trans e
  ⟨c h.x0, c h.x3, c h.a, c h.m0, c h.m1, c h.m2, c h.m3, c h.m4, c h.m5, h.nb.below hb, h.be.trans (hb.mono h.be.size)⟩
abbrev NnC (w : World) (X A M k : Nat) (p : Value) (d : MsgD) (ao bo : Option Addr) (an ac bn bc : Nat) (V : World) : Prop :=
  V.cell? ⟨X, 0, none⟩ = some (.int .u8 0) ∧ V.cell? ⟨X, 3, none⟩ = some (.int .u32 0) ∧ V.cell? ⟨A, k, none⟩ = some p ∧ V.cell? ⟨M, 0, none⟩ = some (.int .u8 (d.say.toNat : Int)) ∧ V.cell? ⟨M, 1, none⟩ = some (.int .u8 (d.src.toNat : Int)) ∧ V.cell? ⟨M, 2, none⟩ = some (.int .u8 (d.dst.toNat : Int)) ∧ V.cell? ⟨M, 3, none⟩ = some (.int .u32 (d.g.toNat : Int)) ∧ V.cell? ⟨M, 4, none⟩ = some (.slice ao an ac) ∧ V.cell? ⟨M, 5, none⟩ = some (.slice bo bn bc) ∧ NnS w X A M k p d ao bo an ac bn bc V
theorem NnS.all {w : World} {X A M k : Nat} {p : Value} {d : MsgD} {ao bo : Option Addr} {an ac bn bc : Nat} {V : World} (h : NnS w X A M k p d ao bo an ac bn bc V) : NnC w X A M k p d ao bo an ac bn bc V :=
  ⟨h.x0, h.x3, h.a, h.m0, h.m1, h.m2, h.m3, h.m4, h.m5, h⟩
theorem NnC.drew {w : World} {X A M k : Nat} {p : Value} {d : MsgD} {ao bo : Option Addr} {an ac bn bc : Nat} {V : World} (h : NnC w X A M k p d ao bo an ac bn bc V) (n : Nat) : NnC w X A M k p d ao bo an ac bn bc (V.drewN n) := (h.2.2.2.2.2.2.2.2.2.below (below_drewN V n)).all
set_option maxHeartbeats 4000000 in
set_option maxRecDepth 1000000 in
theorem none_walk (w : World) (vo vr : Value) (m : MsgD) (l : List ResP) (at_ : Int) (h : MsgAt w w.heap.size vo vr m l) (hat : (Lit.int .i64 at_).wf = true) :
    Calls Try.prog 3 #[msgV m vo vr, .int .i64 at_] w fun e w' => e = .returned (.bool true) ∧ Below w.heap.size w w' := by
  obtain ⟨ao, ca, bo, cb, rfl, rfl⟩ := h.form
  have s := (((St.nil w).alloc (.cells (mdCells m (.slice ao m.ops.length ca) (.slice bo l.length cb)) 27)).alloc (bagO 0 (.slice none 0 0))).alloc (.cells #[.pointer none, ptr (w.heap.size + 1)] 28)
  have e1 : (w.alloc (.cells (mdCells m (.slice ao m.ops.length ca) (.slice bo l.length cb)) 27)).heap.size = w.heap.size + 1 := by simp
  have e2 : ((w.alloc (.cells (mdCells m (.slice ao m.ops.length ca) (.slice bo l.length cb)) 27)).alloc (bagO 0 (.slice none 0 0))).heap.size = w.heap.size + 1 + 1 := by simp
  rw [e1, e2] at s
  obtain ⟨W, hW⟩ : ∃ W, W = ((w.alloc (.cells (mdCells m (.slice ao m.ops.length ca) (.slice bo l.length cb)) 27)).alloc (bagO 0 (.slice none 0 0))).alloc (.cells #[.pointer none, ptr (w.heap.size + 1)] 28) := ⟨_, rfl⟩
  rw [← hW] at s
  have hs : Hid _ := s
  have hp : Hid (∀ k, k < 2 → ∃ p, (p = .pointer none ∨ p = ptr (w.heap.size + 1)) ∧ ∀ X wr, Below W.heap.size W wr → wr.cell? ⟨X, 0, none⟩ = some (.int .u8 0) → wr.cell? ⟨X, 3, none⟩ = some (.int .u32 0) → NnS W X (w.heap.size + 1 + 1) w.heap.size k p m ao bo m.ops.length ca l.length cb wr) := fun k hk => by
    have fin : ∀ p, W.cell? ⟨w.heap.size + 1 + 1, k, none⟩ = some p → NoBag W p → ∀ X wr, Below W.heap.size W wr → wr.cell? ⟨X, 0, none⟩ = some (.int .u8 0) → wr.cell? ⟨X, 3, none⟩ = some (.int .u32 0) → NnS W X (w.heap.size + 1 + 1) w.heap.size k p m ao bo m.ops.length ca l.length cb wr := fun p hc hn X wr hb h0 h3 => by
      have s2 := hs.out.up hb
      obtain ⟨m0, m1, m2, m3, m4, m5⟩ := six_cells (s2.pick 2 rfl).blk.1
      exact ⟨h0, h3, (hb.cell (World.block_lt_of_cell? W _ hc)).trans hc, m0, m1, m2, m3, m4, m5, hn.below hb, hb⟩
    have c := two_cells hs.out.blk.1
    match k, hk with
    | 0, _ => exact ⟨.pointer none, .inl rfl, fin _ c.1 (.inl rfl)⟩
    | 1, _ => exact ⟨ptr (w.heap.size + 1), .inr rfl, fin _ c.2 (.inr ⟨_, _, rfl, (hs.out.pick 1 rfl).blk.1⟩)⟩
  have hnb : Hid (∀ p wr, Below W.heap.size W wr → NoBag wr p → Calls Try.prog 8 #[p, .int .i64 at_] wr fun e w' => e = .returned (.tuple #[.agg #[.int .u8 0, .int .u8 0, .int .u8 0, .int .u32 0, .slice none 0 0, .slice none 0 0], .int .i64 2]) ∧ Below W.heap.size W w') := fun p wr hb hn =>
    (Take_none wr p hn at_).mono fun e w' ⟨e1, e2⟩ => ⟨e1, hb.trans (e2.mono hb.size)⟩
  clear s e1 e2 h
  have hAdd : Hid (∀ X k p V, NnS W X (w.heap.size + 1 + 1) w.heap.size k p m ao bo m.ops.length ca l.length cb V → Calls Try.prog 9 #[p, .agg #[.int .u8 (m.say.toNat : Int), .int .u8 (m.src.toNat : Int), .int .u8 (m.dst.toNat : Int), .int .u32 (m.g.toNat : Int), .slice ao m.ops.length ca, .slice bo l.length cb]] V fun e w' => e = .returned (.int .i64 2) ∧ NnS W X (w.heap.size + 1 + 1) w.heap.size k p m ao bo m.ops.length ca l.length cb w') := fun X k p V h => (Add_none V p h.nb m ao bo _ _ _ _).mono fun e w' ⟨e1, e2⟩ => ⟨e1, h.below e2⟩
  have hCopy : Hid (∀ X k p V, NnS W X (w.heap.size + 1 + 1) w.heap.size k p m ao bo m.ops.length ca l.length cb V → Calls Try.prog 10 #[p, .int .i64 at_] V fun e w' => e = .returned (.int .i64 2) ∧ NnS W X (w.heap.size + 1 + 1) w.heap.size k p m ao bo m.ops.length ca l.length cb w') := fun X k p V h => (Copy_none V p h.nb at_).mono fun e w' ⟨e1, e2⟩ => ⟨e1, h.below e2⟩
  have hList : Hid (∀ X k p V, NnS W X (w.heap.size + 1 + 1) w.heap.size k p m ao bo m.ops.length ca l.length cb V → Calls Try.prog 11 #[p] V fun e w' => e = .returned (.slice none 0 0) ∧ NnS W X (w.heap.size + 1 + 1) w.heap.size k p m ao bo m.ops.length ca l.length cb w') := fun X k p V h => (List_none V p h.nb).mono fun e w' ⟨e1, e2⟩ => ⟨e1, h.below e2⟩
  have hcell : Hid (∀ k, k < 2 → ∃ p, (p = .pointer none ∨ p = ptr (w.heap.size + 1)) ∧ ∀ wr, Below W.heap.size W wr → wr.cell? ⟨w.heap.size + 1 + 1, k, none⟩ = some p ∧ NoBag wr p) := fun k hk => by
    have fin : ∀ p, W.cell? ⟨w.heap.size + 1 + 1, k, none⟩ = some p → NoBag W p → ∀ wr, Below W.heap.size W wr → wr.cell? ⟨w.heap.size + 1 + 1, k, none⟩ = some p ∧ NoBag wr p := fun p hc hn wr hb => ⟨(hb.cell (World.block_lt_of_cell? W _ hc)).trans hc, hn.below hb⟩
    have c := two_cells hs.out.blk.1
    match k, hk with
    | 0, _ => exact ⟨.pointer none, .inl rfl, fin _ c.1 (.inl rfl)⟩
    | 1, _ => exact ⟨ptr (w.heap.size + 1), .inr rfl, fin _ c.2 (.inr ⟨_, _, rfl, (hs.out.pick 1 rfl).blk.1⟩)⟩
  have hfin : Hid (∀ wr, Below W.heap.size W wr → Below w.heap.size w wr) := fun wr hb => (hs.out.up hb).below
  clear hs
  unfold mdCells bagO at hW
  unfold msgV
  have HW : Hid (W = ((w.alloc (.cells #[.int .u8 (m.say.toNat : Int), .int .u8 (m.src.toNat : Int), .int .u8 (m.dst.toNat : Int), .int .u32 (m.g.toNat : Int), .slice ao m.ops.length ca, .slice bo l.length cb] 27)).alloc (.cells #[.int .i64 0, .slice none 0 0] 33)).alloc (.cells #[.pointer none, .pointer (some ⟨w.heap.size + 1, 0, none⟩)] 28)) := hW
  clear hW
  go_enter Try.func3, Try.ntmps3
  go_wp2
  rw [← HW.out]
  clear HW
  go_loopw [6] (fun i wr => ∃ k : Nat, k ≤ 2 ∧ i = .int .i64 (k : Int) ∧ Hid (Below W.heap.size W wr)) (fun i _ => 2 - (intOf i).toNat)
  case atStart => exact ⟨0, by omega, rfl, Below.refl _ _⟩
  case round =>
    obtain ⟨k, hk, rfl, hB⟩ := hrel
    by_cases hk2 : k < 2
    · obtain ⟨p, hpp, hpc⟩ := hcell.out k hk2
      obtain ⟨p', hpp', hpS⟩ := hp.out k hk2
      obtain ⟨c0, n0⟩ := hpc wr hB.out
      have kt := hnb.out p wr hB.out n0
      have hS : Hid (∀ w5, Below W.heap.size W w5 → ∃ X, X = w5.heap.size ∧ NnS W X (w.heap.size + 1 + 1) w.heap.size k p m ao bo m.ops.length ca l.length cb (w5.alloc (.cells #[.int .u8 0, .int .u8 0, .int .u8 0, .int .u32 0, .slice none 0 0, .slice none 0 0] 27))) := fun w5 hb => by
        have s := (St.nil w5).alloc (.cells #[.int .u8 0, .int .u8 0, .int .u8 0, .int .u32 0, .slice none 0 0, .slice none 0 0] 27)
        have b5 := hb.trans ((below_one w5 (.cells #[.int .u8 0, .int .u8 0, .int .u8 0, .int .u32 0, .slice none 0 0, .slice none 0 0] 27)).mono hb.size)
        obtain ⟨z0, z1, z2, z3, z4, z5⟩ := six_cells s.blk.1
        have h' := hpS _ _ b5 z0 z3
        have : p' = p := by have := h'.a.symm.trans (hpc _ b5).1; simpa using this
        rw [this] at h'
        exact ⟨_, rfl, h'⟩
      have i1 : (k : Int) < 2 := by omega
      clear hcell hp hnb hpS hB n0
      rcases hpp with rfl | rfl
      · have kA : ∀ X V, (NnC W X (w.heap.size + 1 + 1) w.heap.size k (.pointer none) m ao bo m.ops.length ca l.length cb V) → Calls Try.prog 9 #[(.pointer none), .agg #[.int .u8 (m.say.toNat : Int), .int .u8 (m.src.toNat : Int), .int .u8 (m.dst.toNat : Int), .int .u32 (m.g.toNat : Int), .slice ao m.ops.length ca, .slice bo l.length cb]] V fun e w' => e = .returned (.int .i64 2) ∧ (NnC W X (w.heap.size + 1 + 1) w.heap.size k (.pointer none) m ao bo m.ops.length ca l.length cb w') := fun X V h => (hAdd.out X k (.pointer none) V h.2.2.2.2.2.2.2.2.2).mono fun e w' ⟨e1, e2⟩ => ⟨e1, e2.all⟩
        have kC : ∀ X V, (NnC W X (w.heap.size + 1 + 1) w.heap.size k (.pointer none) m ao bo m.ops.length ca l.length cb V) → Calls Try.prog 10 #[(.pointer none), .int .i64 at_] V fun e w' => e = .returned (.int .i64 2) ∧ (NnC W X (w.heap.size + 1 + 1) w.heap.size k (.pointer none) m ao bo m.ops.length ca l.length cb w') := fun X V h => (hCopy.out X k (.pointer none) V h.2.2.2.2.2.2.2.2.2).mono fun e w' ⟨e1, e2⟩ => ⟨e1, e2.all⟩
        have kL : ∀ X V, (NnC W X (w.heap.size + 1 + 1) w.heap.size k (.pointer none) m ao bo m.ops.length ca l.length cb V) → Calls Try.prog 11 #[(.pointer none)] V fun e w' => e = .returned (.slice none 0 0) ∧ (NnC W X (w.heap.size + 1 + 1) w.heap.size k (.pointer none) m ao bo m.ops.length ca l.length cb w') := fun X V h => (hList.out X k (.pointer none) V h.2.2.2.2.2.2.2.2.2).mono fun e w' ⟨e1, e2⟩ => ⟨e1, e2.all⟩
        go_wp2_with fail
        refine kt.mono ?_
        rintro e w5 ⟨rfl, b5⟩
        obtain ⟨X, hX, hN⟩ := hS.out w5 b5
        have hN0 : (NnC W X (w.heap.size + 1 + 1) w.heap.size k (.pointer none) m ao bo m.ops.length ca l.length cb (w5.alloc (.cells #[.int .u8 0, .int .u8 0, .int .u8 0, .int .u32 0, .slice none 0 0, .slice none 0 0] 27))) := hN.all
        clear kt hS hpp' c0 b5 hAdd hCopy hList hN
        go_wp2_with fail
        rw [← hX]
        clear hX
        generalize w5.alloc (.cells #[.int .u8 0, .int .u8 0, .int .u8 0, .int .u32 0, .slice none 0 0, .slice none 0 0] 27) = V5 at *
        replace kA := kA X
        replace kC := kC X
        replace kL := kL X
        go_region_held3 (fun V => V.cell? ⟨X, 0, none⟩ = some (.int .u8 0) ∧ V.cell? ⟨X, 3, none⟩ = some (.int .u32 0) ∧ V.cell? ⟨w.heap.size + 1 + 1, k, none⟩ = some (.pointer none) ∧ V.cell? ⟨w.heap.size, 0, none⟩ = some (.int .u8 (m.say.toNat : Int)) ∧ V.cell? ⟨w.heap.size, 1, none⟩ = some (.int .u8 (m.src.toNat : Int)) ∧ V.cell? ⟨w.heap.size, 2, none⟩ = some (.int .u8 (m.dst.toNat : Int)) ∧ V.cell? ⟨w.heap.size, 3, none⟩ = some (.int .u32 (m.g.toNat : Int)) ∧ V.cell? ⟨w.heap.size, 4, none⟩ = some (.slice ao m.ops.length ca) ∧ V.cell? ⟨w.heap.size, 5, none⟩ = some (.slice bo l.length cb) ∧ NnS W X (w.heap.size + 1 + 1) w.heap.size k (.pointer none) m ao bo m.ops.length ca l.length cb V) (first | assumption | exact NnC.drew (by assumption) 1)
          (first | (go_at_call 9; refine (kA _ (by assumption)).mono ?_; rintro e w' ⟨rfl, hb⟩) | (go_at_call 10; refine (kC _ (by assumption)).mono ?_; rintro e w' ⟨rfl, hb⟩) | (go_at_call 11; refine (kL _ (by assumption)).mono ?_; rintro e w' ⟨rfl, hb⟩))
        all_goals
          rename_i hlast
          have hB5 : Hid (Below W.heap.size W _) := hlast.2.2.2.2.2.2.2.2.2.be
          clear kA kC kL hlast
          go_wp2
          go_roundw
          case rel => exact ⟨k + 1, by omega, by go_num, hB5⟩
          case measure => simp [intOf]; omega
      · have kA : ∀ X V, (NnC W X (w.heap.size + 1 + 1) w.heap.size k (ptr (w.heap.size + 1)) m ao bo m.ops.length ca l.length cb V) → Calls Try.prog 9 #[(ptr (w.heap.size + 1)), .agg #[.int .u8 (m.say.toNat : Int), .int .u8 (m.src.toNat : Int), .int .u8 (m.dst.toNat : Int), .int .u32 (m.g.toNat : Int), .slice ao m.ops.length ca, .slice bo l.length cb]] V fun e w' => e = .returned (.int .i64 2) ∧ (NnC W X (w.heap.size + 1 + 1) w.heap.size k (ptr (w.heap.size + 1)) m ao bo m.ops.length ca l.length cb w') := fun X V h => (hAdd.out X k (ptr (w.heap.size + 1)) V h.2.2.2.2.2.2.2.2.2).mono fun e w' ⟨e1, e2⟩ => ⟨e1, e2.all⟩
        have kC : ∀ X V, (NnC W X (w.heap.size + 1 + 1) w.heap.size k (ptr (w.heap.size + 1)) m ao bo m.ops.length ca l.length cb V) → Calls Try.prog 10 #[(ptr (w.heap.size + 1)), .int .i64 at_] V fun e w' => e = .returned (.int .i64 2) ∧ (NnC W X (w.heap.size + 1 + 1) w.heap.size k (ptr (w.heap.size + 1)) m ao bo m.ops.length ca l.length cb w') := fun X V h => (hCopy.out X k (ptr (w.heap.size + 1)) V h.2.2.2.2.2.2.2.2.2).mono fun e w' ⟨e1, e2⟩ => ⟨e1, e2.all⟩
        have kL : ∀ X V, (NnC W X (w.heap.size + 1 + 1) w.heap.size k (ptr (w.heap.size + 1)) m ao bo m.ops.length ca l.length cb V) → Calls Try.prog 11 #[(ptr (w.heap.size + 1))] V fun e w' => e = .returned (.slice none 0 0) ∧ (NnC W X (w.heap.size + 1 + 1) w.heap.size k (ptr (w.heap.size + 1)) m ao bo m.ops.length ca l.length cb w') := fun X V h => (hList.out X k (ptr (w.heap.size + 1)) V h.2.2.2.2.2.2.2.2.2).mono fun e w' ⟨e1, e2⟩ => ⟨e1, e2.all⟩
        go_wp2_with fail
        refine kt.mono ?_
        rintro e w5 ⟨rfl, b5⟩
        obtain ⟨X, hX, hN⟩ := hS.out w5 b5
        have hN0 : (NnC W X (w.heap.size + 1 + 1) w.heap.size k (ptr (w.heap.size + 1)) m ao bo m.ops.length ca l.length cb (w5.alloc (.cells #[.int .u8 0, .int .u8 0, .int .u8 0, .int .u32 0, .slice none 0 0, .slice none 0 0] 27))) := hN.all
        clear kt hS hpp' c0 b5 hAdd hCopy hList hN
        go_wp2_with fail
        rw [← hX]
        clear hX
        generalize w5.alloc (.cells #[.int .u8 0, .int .u8 0, .int .u8 0, .int .u32 0, .slice none 0 0, .slice none 0 0] 27) = V5 at *
        replace kA := kA X
        replace kC := kC X
        replace kL := kL X
        go_region_held3 (fun V => V.cell? ⟨X, 0, none⟩ = some (.int .u8 0) ∧ V.cell? ⟨X, 3, none⟩ = some (.int .u32 0) ∧ V.cell? ⟨w.heap.size + 1 + 1, k, none⟩ = some (ptr (w.heap.size + 1)) ∧ V.cell? ⟨w.heap.size, 0, none⟩ = some (.int .u8 (m.say.toNat : Int)) ∧ V.cell? ⟨w.heap.size, 1, none⟩ = some (.int .u8 (m.src.toNat : Int)) ∧ V.cell? ⟨w.heap.size, 2, none⟩ = some (.int .u8 (m.dst.toNat : Int)) ∧ V.cell? ⟨w.heap.size, 3, none⟩ = some (.int .u32 (m.g.toNat : Int)) ∧ V.cell? ⟨w.heap.size, 4, none⟩ = some (.slice ao m.ops.length ca) ∧ V.cell? ⟨w.heap.size, 5, none⟩ = some (.slice bo l.length cb) ∧ NnS W X (w.heap.size + 1 + 1) w.heap.size k (ptr (w.heap.size + 1)) m ao bo m.ops.length ca l.length cb V) (first | assumption | exact NnC.drew (by assumption) 1)
          (first | (go_at_call 9; refine (kA _ (by assumption)).mono ?_; rintro e w' ⟨rfl, hb⟩) | (go_at_call 10; refine (kC _ (by assumption)).mono ?_; rintro e w' ⟨rfl, hb⟩) | (go_at_call 11; refine (kL _ (by assumption)).mono ?_; rintro e w' ⟨rfl, hb⟩))
        all_goals
          rename_i hlast
          have hB5 : Hid (Below W.heap.size W _) := hlast.2.2.2.2.2.2.2.2.2.be
          clear kA kC kL hlast
          go_wp2
          go_roundw
          case rel => exact ⟨k + 1, by omega, by go_num, hB5⟩
          case measure => simp [intOf]; omega
    · clear hcell hp hnb
      have hB' := hfin.out wr hB.out
      go_wp2
      go_ret
      exact ⟨rfl, hB'⟩
end Go.Proofs.Ytpmmdbdooclcoaa
