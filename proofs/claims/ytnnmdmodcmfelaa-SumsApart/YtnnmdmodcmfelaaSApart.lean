/- The walk of SumsApart: from unlike sums on the same bytes come to unlike ones; what three lists differ by, so do their sums. -/
import Derived.Test.YtnnmdmodcmfelaaSAlive
import Derived.Test.YtnnmdmodcmfelaaSLaw
import Derived.Test.YtnnmdmodcmfelaaGStep
set_option linter.unusedSimpArgs false
set_option linter.unusedVariables false
namespace Go.Proofs.Ytnnmdmodcmfelaa
open Go.RowKit

/-- They lie in unlike blocks. -/
def Ap (u v : Value) : Prop := ∀ b, u.ownBlock = some b → v.ownBlock ≠ some b
theorem Ap.symm {u v : Value} (h : Ap u v) : Ap v u := fun b h1 h2 => h b h2 h1
theorem BsAt.lt {w : World} {base : Nat} {v : Value} {bs : List UInt8} (h : BsAt w base v bs) {b : Nat} (hb : v.ownBlock = some b) : b < w.heap.size := (World.ownsRow.lt h b hb).2
theorem own_block {w w' : World} {base : Nat} {v : Value} {bs : List UInt8} (h : BsAt w base v bs) (hb : ∀ b, v.ownBlock = some b → w'.heap[b]? = w.heap[b]?) : BsAt w' base v bs := by
  refine ⟨h.1, ?_⟩
  rcases h.2 with h1 | ⟨g, cap, cur, rfl, h2, h3, h4⟩
  · exact .inl h1
  · exact .inr ⟨g, cap, cur, rfl, h2, by rw [hb g rfl]; exact h3, h4⟩
theorem app_other {w w' : World} {base : Nat} {v u : Value} {lu : List UInt8} (h : BsAt w base u lu) (hg : w.grownBy w' v.ownBlock) (hap : Ap v u) : BsAt w' base u lu :=
  own_block h (fun b hb => hg.block b (h.lt hb) (fun e => hap b e.symm hb))
theorem app_apart {w : World} {base : Nat} {v v' u : Value} {lu : List UInt8} (h : BsAt w base u lu) (hat : v'.ownBlock = v.ownBlock ∨ v'.ownBlock = some w.heap.size) (hap : Ap v u) : Ap v' u := by
  rcases hat with e | e
  · intro b hb; exact hap b (by rw [← e]; exact hb)
  · intro b hb hu
    have := h.lt hu
    rw [e] at hb
    simp only [Option.some.injEq] at hb
    omega
/-- Four lists of bytes, in memory of their own. -/
structure Q4 (w0 w : World) (v0 v1 v2 v3 : Value) (l0 l1 l2 l3 : List UInt8) : Prop where
  b0 : BsAt w w0.heap.size v0 l0
  b1 : BsAt w w0.heap.size v1 l1
  b2 : BsAt w w0.heap.size v2 l2
  b3 : BsAt w w0.heap.size v3 l3
  a01 : Ap v0 v1
  a02 : Ap v0 v2
  a03 : Ap v0 v3
  a12 : Ap v1 v2
  a13 : Ap v1 v3
  a23 : Ap v2 v3
  bel : Below w0.heap.size w0 w
theorem Q4.rot {w0 w : World} {v0 v1 v2 v3 : Value} {l0 l1 l2 l3 : List UInt8} (h : Q4 w0 w v0 v1 v2 v3 l0 l1 l2 l3) : Q4 w0 w v1 v2 v3 v0 l1 l2 l3 l0 :=
  ⟨h.b1, h.b2, h.b3, h.b0, h.a12, h.a13, h.a01.symm, h.a23, h.a02.symm, h.a03.symm, h.bel⟩
theorem Q4.below {w0 w w' : World} {v0 v1 v2 v3 : Value} {l0 l1 l2 l3 : List UInt8} (h : Q4 w0 w v0 v1 v2 v3 l0 l1 l2 l3) (hb : Below w.heap.size w w') : Q4 w0 w' v0 v1 v2 v3 l0 l1 l2 l3 :=
  ⟨h.b0.below hb, h.b1.below hb, h.b2.below hb, h.b3.below hb, h.a01, h.a02, h.a03, h.a12, h.a13, h.a23, h.bel.trans (hb.mono h.bel.size)⟩
theorem Q4.step {w0 w w' : World} {v0 v1 v2 v3 v' : Value} {l0 l1 l2 l3 : List UInt8} {x : UInt8} (h : Q4 w0 w v0 v1 v2 v3 l0 l1 l2 l3)
    (ho : w'.ownsRow w0.heap.size 5 1 v' (l0.length + 1) (bcells l0 ++ bcells [x])) (hg : w.grownBy w' v0.ownBlock) (hat : v'.ownBlock = v0.ownBlock ∨ v'.ownBlock = some w.heap.size) : Q4 w0 w' v' v1 v2 v3 (l0 ++ [x]) l1 l2 l3 :=
  ⟨BsAt.app (b := [x]) ho, app_other h.b1 hg h.a01, app_other h.b2 hg h.a02, app_other h.b3 hg h.a03, app_apart h.b1 hat h.a01, app_apart h.b2 hat h.a02, app_apart h.b3 hat h.a03, h.a12, h.a13, h.a23, grown_below h.bel hg h.bel.size h.b0⟩
theorem Q4.nil (w0 w : World) (h : Below w0.heap.size w0 w) : Q4 w0 w (.slice none 0 0) (.slice none 0 0) (.slice none 0 0) (.slice none 0 0) [] [] [] [] := by
  have a : Ap (.slice none 0 0) (.slice none 0 0) := fun b hb => by cases hb
  exact ⟨BsAt.nil _ _, BsAt.nil _ _, BsAt.nil _ _, BsAt.nil _ _, a, a, a, a, a, a, h⟩

theorem src_litD (w : World) (cs : List UInt8) : Src Try.prog 1 22 (.slice (some ⟨w.heap.size, 0, none⟩) cs.length cs.length) cs.length (bcells cs) (w.alloc (.cells (bcells cs).toArray 5)).drew :=
  Src.ofSlice _ Try.underlying22 _ _ _ _ (by rw [bcells_len, Nat.mul_one]) (news_of cs _) (bcells_one cs)
/-- Three bytes. -/
abbrev Tri := UInt8 × UInt8 × UInt8
def triCells (p : Tri) : List Value := [bv p.1, bv p.2.1, bv p.2.2]
def triX (p : Tri) : UInt8 := p.1 ^^^ p.2.1 ^^^ p.2.2
theorem tri_xor (p : Tri) : bits .xor .u8 (bits .xor .u8 (p.1.toNat : Int) (p.2.1.toNat : Int)) (p.2.2.toNat : Int) = ((triX p).toNat : Int) := by
  have h1 := p.1.toNat_lt
  have h2 := p.2.1.toNat_lt
  have h3 := p.2.2.toNat_lt
  have h4 : p.1.toNat ^^^ p.2.1.toNat < 2 ^ 8 := Nat.xor_lt_two_pow h1 h2
  rw [u8_xor_nat _ _ (by omega) (by omega), u8_xor_nat _ _ (by omega) (by omega)]
  unfold triX
  rw [UInt8.toNat_xor, UInt8.toNat_xor]
theorem map_take {β : Type} (f : Tri → β) (l : List Tri) (k : Nat) (h : k < l.length) : (l.take (k + 1)).map f = (l.take k).map f ++ [f (l[k]'h)] := by
  rw [List.take_succ_eq_append_getElem h, List.map_append]; rfl
theorem apart_eqB (l : List UInt8) (s t : BitVec 32) : (uv (sumOn s l) == uv (sumOn t l)) = (uv s == uv t) := by
  rw [uv_eqB, uv_eqB, decide_eq_decide]
  exact sumOn_iff _ _ _
theorem three_uv (l : List Tri) : bits .xor .u32 (bits .xor .u32 (uv (sumOf (l.map (·.1)))) (uv (sumOf (l.map (·.2.1))))) (uv (sumOf (l.map (·.2.2)))) = uv (sumOf (l.map triX)) := by
  rw [uv_xor, uv_xor, sum_three]; rfl

set_option maxHeartbeats 8000000 in
set_option maxRecDepth 1000000 in
theorem apart_any (w : World) (vl : Value) (l : List Tri) (z1 z2 : Int) (hl : SlAt 3 triCells w w.heap.size vl l) (hs : (Lit.int .u32 z1).wf = true) (ht : (Lit.int .u32 z2).wf = true) :
    Calls Try.prog 6 #[vl, .int .u32 z1, .int .u32 z2] w fun e w' => e = .returned (.bool true) ∧ Below w.heap.size w w' := by
  obtain ⟨s, rfl⟩ := u32_uv hs
  obtain ⟨t, rfl⟩ := u32_uv ht
  clear hs ht
  have kA := alive_any w
  obtain ⟨ao, cap, rfl, hlc, hcm, hc⟩ := hl
  unfold maxLen at hcm
  by_cases hlong : 30000 < l.length
  · have i1 : (30000 : Int) < (l.length : Int) := by omega
    clear hc
    go_enter Try.func6, Try.ntmps6
    go_wp2_with fail
    refine kA.mono ?_
    rintro e w1 ⟨rfl, b1⟩
    clear kA
    go_wp2_with fail
    refine (alive_any _).mono ?_
    rintro e w2 ⟨rfl, b2⟩
    have b3 := b1.trans (b2.mono b1.size)
    go_wp2
    go_ret
    exact ⟨rfl, b3⟩
  have i1 : ¬ (30000 : Int) < (l.length : Int) := by omega
  obtain ⟨i0, hi, hz0, hz1, hz2⟩ := info_parts info_u8
  go_enter Try.func6, Try.ntmps6
  go_wp2_with fail
  refine kA.mono ?_
  rintro e w1 ⟨rfl, b1⟩
  clear kA
  have Q0 := Q4.nil w w1 b1
  go_wp2
  go_loopw [7, 8, 9, 10, 11] (fun u0 u1 u2 u3 i wr => ∃ k : Nat, k ≤ l.length ∧ i = .int .i64 k ∧ Q4 w wr u0 u1 u2 u3 ((l.take k).map (·.1)) ((l.take k).map (·.2.1)) ((l.take k).map (·.2.2)) ((l.take k).map triX)) (fun _ _ _ _ i _ => l.length - (intOf i).toNat)
  case atStart => exact ⟨0, by omega, rfl, Q0⟩
  case round =>
    clear Q0 b1
    obtain ⟨k, hk, rfl, Q⟩ := hrel
    by_cases h1 : k < l.length
    · obtain ⟨b, off, rfl, hb, hcell⟩ := hc (by omega)
      have i2 : (k : Int) < (l.length : Int) := by omega
      have E1 := map_take (·.1) l k h1
      have E2 := map_take (·.2.1) l k h1
      have E3 := map_take (·.2.2) l k h1
      have E4 := map_take triX l k h1
      have hX := tri_xor (l[k]'h1)
      have cc : ∀ W, Below w.heap.size w W → W.cell? ⟨b, off + k * 3, none⟩ = some (.int .u8 ((l[k]'h1).1.toNat : Int)) ∧ W.cell? ⟨b, off + k * 3 + 1, none⟩ = some (.int .u8 ((l[k]'h1).2.1.toNat : Int)) ∧ W.cell? ⟨b, off + k * 3 + 2, none⟩ = some (.int .u8 ((l[k]'h1).2.2.toNat : Int)) := fun W hW =>
        ⟨(hW.cell hb).trans (hcell k h1 0 _ rfl), (hW.cell hb).trans (hcell k h1 1 _ rfl), (hW.cell hb).trans (hcell k h1 2 _ rfl)⟩
      clear hcell hc
      generalize l[k]'h1 = p at *
      obtain ⟨x0, x1, x2⟩ := p
      simp only at hX cc
      generalize triX (x0, x1, x2) = x3 at *
      have hl0 : (List.map (fun x : Tri => x.1) (l.take k)).length ≤ 30000 := by simp; omega
      have hl1 : (List.map (fun x : Tri => x.2.1) (l.take k)).length ≤ 30000 := by simp; omega
      have hl2 : (List.map (fun x : Tri => x.2.2) (l.take k)).length ≤ 30000 := by simp; omega
      have hl3 : (List.map triX (l.take k)).length ≤ 30000 := by simp; omega
      have HE : Hid (Q4 w = Q4 w) := rfl
      generalize List.map (fun x : Tri => x.1) (l.take k) = m0 at *
      generalize List.map (fun x : Tri => x.2.1) (l.take k) = m1 at *
      generalize List.map (fun x : Tri => x.2.2) (l.take k) = m2 at *
      generalize List.map triX (l.take k) = m3 at *
      obtain ⟨c0, c1, c2⟩ := cc wr Q.bel
      have P0 := Q.below (below_one wr (.cells (bcells [x0]).toArray 5))
      clear Q
      go_wp2_with (first
        | (at_builtin; refine wpList_append_own_src _ rfl (.tmp 26) (.tmp 32) 22 22 rfl w.heap.size 5 i0 (.int .u8 0) 1 1 Try.underlying22 hi hz0 hz1 hz2 rfl (by decide) u7 m0.length (bcells m0) rfl P0.b0 (.slice (some ⟨wr.heap.size, 0, none⟩) 1 1) 1 (bcells [x0]) rfl (src_lit wr [x0] (by simp)) (by unfold maxLen; omega) (by omega) P0.bel.size ?_; refine fun y1 e1 o g hat => ?_; have R1 := (P0.step o g hat).rot; have C := cc e1 R1.bel; obtain ⟨d0, d1, d2⟩ := C; clear o g hat P0; have P1 := R1.below (below_one e1 (.cells (bcells [x1]).toArray 5)))
        | (at_builtin; refine wpList_append_own_src _ rfl (.tmp 34) (.tmp 40) 22 22 rfl w.heap.size 5 i0 (.int .u8 0) 1 1 Try.underlying22 hi hz0 hz1 hz2 rfl (by decide) u8 m1.length (bcells m1) rfl P1.b0 (.slice (some ⟨e1.heap.size, 0, none⟩) 1 1) 1 (bcells [x1]) rfl (src_lit e1 [x1] (by simp)) (by unfold maxLen; omega) (by omega) P1.bel.size ?_; refine fun y2 e2 o g hat => ?_; have R2 := (P1.step o g hat).rot; have C := cc e2 R2.bel; obtain ⟨d0, d1, d2⟩ := C; clear o g hat P1; have P2 := R2.below (below_one e2 (.cells (bcells [x2]).toArray 5)))
        | (at_builtin; refine wpList_append_own_src _ rfl (.tmp 42) (.tmp 48) 22 22 rfl w.heap.size 5 i0 (.int .u8 0) 1 1 Try.underlying22 hi hz0 hz1 hz2 rfl (by decide) u9 m2.length (bcells m2) rfl P2.b0 (.slice (some ⟨e2.heap.size, 0, none⟩) 1 1) 1 (bcells [x2]) rfl (src_lit e2 [x2] (by simp)) (by unfold maxLen; omega) (by omega) P2.bel.size ?_; refine fun y3 e3 o g hat => ?_; have R3 := (P2.step o g hat).rot; have C := cc e3 R3.bel; obtain ⟨d0, d1, d2⟩ := C; clear o g hat P2))
      clear HE cc c0 c1 c2
      have P3 : Hid (Q4 w (e3.alloc (.cells (bcells [x3]).toArray 5)) u10 y1 y2 y3 m3 (m0 ++ [x0]) (m1 ++ [x1]) (m2 ++ [x2])) := R3.below (below_one e3 _)
      have P3d : Hid (Q4 w (e3.alloc (.cells (bcells [x3]).toArray 5)).drew u10 y1 y2 y3 m3 (m0 ++ [x0]) (m1 ++ [x1]) (m2 ++ [x2])) := P3.out.below (below_drew _)
      have s3 : Hid (Src Try.prog 1 22 (.slice (some ⟨e3.heap.size, 0, none⟩) 1 1) 1 (bcells [x3]) (e3.alloc (.cells (bcells [x3]).toArray 5)).drew) := src_litD e3 [x3]
      have bb : Hid (m3.length + 1 ≤ maxLen ∧ (m3.length + 1) * 1 ≤ 140737488355328) := by show _ ∧ _; unfold maxLen; omega
      clear R3 P3
      go_region_law (refine step_append_src rfl (.tmp 50) (.tmp 68) 22 rfl w.heap.size 5 i0 (.int .u8 0) 1 1 Try.underlying22 hi hz0 hz1 hz2 rfl (by decide) u10 m3.length (bcells m3) (by simp [Act.eval, Act.put]) P3d.out.b0 (.slice (some ⟨e3.heap.size, 0, none⟩) 1 1) 1 (bcells [x3]) (by simp [Act.eval, Act.put]) s3.out bb.out.1 bb.out.2 P3d.out.bel.size ?_; intro y4 e4 o g hat; have R4 : Hid _ := (P3d.out.step o g hat).rot)
      all_goals
        go_wp2
        go_roundw
        case rel => exact ⟨k + 1, by omega, by go_num, by rw [E1, E2, E3, E4]; exact R4.out⟩
        case measure => simp [intOf]; omega
    · have e : l.take k = l := List.take_of_length_le (by omega)
      rw [e] at Q
      clear hc
      have X1 := apart_eqB (l.map (·.1)) s t
      have X2 := three_uv l
      have Z1 := fun W (h : Q4 w W u7 u8 u9 u10 (l.map (·.1)) (l.map (·.2.1)) (l.map (·.2.2)) (l.map triX)) => on_any W _ _ _ s h.b0.in (Nat.le_refl _)
      have Z2 := fun W (h : Q4 w W u7 u8 u9 u10 (l.map (·.1)) (l.map (·.2.1)) (l.map (·.2.2)) (l.map triX)) => on_any W _ _ _ t h.b0.in (Nat.le_refl _)
      have Z3 := fun W (h : Q4 w W u7 u8 u9 u10 (l.map (·.1)) (l.map (·.2.1)) (l.map (·.2.2)) (l.map triX)) => of_any W _ _ _ h.b0.in (Nat.le_refl _)
      have Z4 := fun W (h : Q4 w W u7 u8 u9 u10 (l.map (·.1)) (l.map (·.2.1)) (l.map (·.2.2)) (l.map triX)) => of_any W _ _ _ h.b1.in (Nat.le_refl _)
      have Z5 := fun W (h : Q4 w W u7 u8 u9 u10 (l.map (·.1)) (l.map (·.2.1)) (l.map (·.2.2)) (l.map triX)) => of_any W _ _ _ h.b2.in (Nat.le_refl _)
      have Z6 := fun W (h : Q4 w W u7 u8 u9 u10 (l.map (·.1)) (l.map (·.2.1)) (l.map (·.2.2)) (l.map triX)) => of_any W _ _ _ h.b3.in (Nat.le_refl _)
      generalize uv (sumOn s (l.map (·.1))) = q1 at *
      generalize uv (sumOn t (l.map (·.1))) = q2 at *
      generalize uv (sumOf (l.map (·.1))) = q3 at *
      generalize uv (sumOf (l.map (·.2.1))) = q4 at *
      generalize uv (sumOf (l.map (·.2.2))) = q5 at *
      generalize uv (sumOf (l.map triX)) = q6 at *
      generalize uv s = qs at *
      generalize uv t = qt at *
      go_wp2_with fail
      refine (Z1 _ Q).mono ?_
      rintro e wa ⟨rfl, h⟩
      have Qa := Q.below h
      clear h Z1 Q
      go_wp2_with fail
      refine (Z2 _ Qa).mono ?_
      rintro e wb ⟨rfl, h⟩
      have Qb := Qa.below h
      clear h Z2 Qa
      go_wp2_with fail
      refine (Z3 _ Qb).mono ?_
      rintro e wc ⟨rfl, h⟩
      have Qc := Qb.below h
      clear h Z3 Qb
      go_wp2_with fail
      refine (Z4 _ Qc).mono ?_
      rintro e wd ⟨rfl, h⟩
      have Qd := Qc.below h
      clear h Z4 Qc
      go_wp2_with fail
      refine (Z5 _ Qd).mono ?_
      rintro e we ⟨rfl, h⟩
      have Qe := Qd.below h
      clear h Z5 Qd
      go_wp2_with fail
      refine (Z6 _ Qe).mono ?_
      rintro e wf ⟨rfl, h⟩
      have Qf := Qe.below h
      clear h Z6 Qe
      go_wp2
      go_ret
      exact ⟨rfl, Qf.bel⟩
end Go.Proofs.Ytnnmdmodcmfelaa
