/- Texts of this proof, laid into one. -/
import Derived.Test.YtndjgilheleplaaGreatDoorM10
import Derived.Deep.RegionHeld3
import Derived.Deep.QuietTactic
import Derived.Test.YtndjgilheleplaaGreatDoorRBkResultsM
import Derived.Test.YtndjgilheleplaaGreatDoorRTwByteM
import Derived.Test.YtndjgilheleplaaGreatDoorRRgResM
import Derived.Test.YtndjgilheleplaaGreatDoorRSameRM
/- The walks of the look whether a copy of results is as it was. -/
set_option linter.unusedSimpArgs false
set_option linter.unusedVariables false
namespace Go.Proofs.YtndjgilheleplaaGreatDoor
open Go.RowKit

set_option maxHeartbeats 2000000 in
set_option maxRecDepth 1000000 in
theorem leftResult_any (w : World) (base g cap lim cb : Nat) (bo : Option Addr) (l : List RowD) (ht : w.ownsRow base 109 2 (.slice (some ⟨g, 0, none⟩) (l.length + 1) cap) (l.length + 1) (l.flatMap rowCells ++ spareRow)) (hl : SlAt 2 rowCells w lim (.slice bo l.length cb) l) (hlim : lim ≤ w.heap.size) :
    Calls Tryz.prog 117 #[.agg #[.slice (some ⟨g, 0, none⟩) l.length cap], .agg #[.slice bo l.length cb]] w fun e w' => e = .returned (.bool true) ∧ Below w.heap.size w w' := by
  obtain ⟨W2, hW2⟩ : ∃ W2, W2 = (w.alloc (.cells #[.slice (some ⟨g, 0, none⟩) l.length cap] 106)).alloc (.cells #[.slice bo l.length cb] 106) := ⟨_, rfl⟩
  have b2 : Below w.heap.size w W2 := by rw [hW2]; exact below_two' _ _
  have kt := leftRow_any W2 base g cap lim _ l (own_below ht b2) (hl.below b2 hlim)
  have fin : ∀ w', Below W2.heap.size W2 w' → Below w.heap.size w w' := fun w' h => b2.trans (h.mono b2.size)
  clear ht hl b2
  subst hW2
  go_enter Tryz.func117, Tryz.ntmps117
  go_wp2_with fail
  refine kt.mono ?_
  rintro e w' ⟨rfl, hb⟩
  have f := fin w' hb
  clear kt fin hb
  go_wp2
  go_ret
  exact ⟨rfl, f⟩

theorem map_get {ms l : List ResP} (h : ms.map (·.2) = l.map (·.2)) {k : Nat} (hk : k < l.length) : ∃ hk' : k < ms.length, (ms[k]'hk').2 = (l[k]'hk).2 := by
  have hl : ms.length = l.length := by have := congrArg List.length h; simpa using this
  refine ⟨by omega, ?_⟩
  have := congrArg (fun x => x[k]?) h
  simp only [List.getElem?_map, List.getElem?_eq_getElem hk, List.getElem?_eq_getElem (show k < ms.length by omega), Option.map_some, Option.some.injEq] at this
  exact this

abbrev LfS (w : World) (b1 o1 b2 o2 : Nat) (u v : Value) (W : World) : Prop := W.cell? ⟨b1, o1, none⟩ = some u ∧ W.cell? ⟨b2, o2, none⟩ = some v ∧ Below w.heap.size w W
theorem LfS.drewN {w : World} {b1 o1 b2 o2 : Nat} {u v : Value} {W : World} (h : LfS w b1 o1 b2 o2 u v W) (m : Nat) : LfS w b1 o1 b2 o2 u v (W.drewN m) := ⟨h.1, h.2.1, h.2.2.trans ((below_drewN W m).mono h.2.2.size)⟩

set_option maxHeartbeats 4000000 in
set_option maxRecDepth 1000000 in
theorem leftResults_any (w : World) (base tb g sb cap lim : Nat) (vl : Value) (l ms : List ResP) (hms : ms.map (·.2) = l.map (·.2)) (hT : TwRes w tb ms) (ht : w.ownsRow base 106 1 (.slice (some ⟨g, 0, none⟩) (l.length + 1) cap) (l.length + 1) (ms.flatMap resCells ++ [.slice (some ⟨sb, 0, none⟩) 1 1]))
    (hsb : w.heap[sb]? = some (.cells #[.string ⟨#[115, 112, 97, 114, 101]⟩, .int .u32 0] 109 (0, 0))) (hl : ResAt w lim vl l) (hlim : lim ≤ w.heap.size) :
    Calls Tryz.prog 29 #[.slice (some ⟨g, 0, none⟩) l.length cap, vl] w fun e w' => e = .returned (.bool true) ∧ Below w.heap.size w w' := by
  have hml : ms.length = l.length := by have := congrArg List.length hms; simpa using this
  have hfl : (ms.flatMap resCells).length = l.length := by rw [flat_len (s := 1) (fun _ => rfl)]; omega
  obtain ⟨aoT, capT, eT, hT4, hT5⟩ := own_len' ht
  simp only [Value.slice.injEq, true_and] at eT
  obtain ⟨-, rfl⟩ := eT
  have hg : g < w.heap.size := (ht.lt g rfl).2
  have ct : ∀ k (hk : k < ms.length), w.cell? ⟨g, k, none⟩ = some (ms[k]'hk).1 := fun k hk => by
    have h0 := flat_get (f := resCells) (size := 1) (fun _ => rfl) ms k hk 0 (by omega)
    rw [Nat.mul_one, Nat.add_zero] at h0
    have := ht.cells (g := g) rfl k (ms[k]'hk).1 (by rw [List.getElem?_append_left (by rw [hfl]; omega), h0]; rfl)
    rw [Addr.add_lit] at this
    simpa using this
  have cs : w.cell? ⟨g, l.length, none⟩ = some (.slice (some ⟨sb, 0, none⟩) 1 1) := by
    have := ht.cells (g := g) rfl l.length (.slice (some ⟨sb, 0, none⟩) 1 1) (by rw [List.getElem?_append_right (by omega), hfl, Nat.sub_self]; rfl)
    rw [Addr.add_lit] at this
    simpa using this
  have cb0 : w.cell? ⟨sb, 0, none⟩ = some (.string ⟨#[115, 112, 97, 114, 101]⟩) := block_cell hsb 0 _ rfl
  have hsl := lt_of_some hsb
  obtain ⟨⟨bo, cb, rfl, hb1, hb2, hb3⟩, hrows⟩ := hl
  unfold maxLen at hb2 hT5
  have hcap : (l.length : Int) < (cap : Int) := by omega
  clear ht hsb
  go_enter Tryz.func29, Tryz.ntmps29
  go_wp2
  go_loopw [5] (fun i wr => ∃ k : Nat, k ≤ l.length ∧ i = .int .i64 k ∧ Below w.heap.size w wr) (fun i _ => l.length - (intOf i).toNat)
  case atStart => exact ⟨0, by omega, rfl, Below.refl _ _⟩
  case round =>
    obtain ⟨k, hk, rfl, hB⟩ := hrel
    by_cases h1 : k < l.length
    · obtain ⟨b2, o2, rfl, hl2, hc2⟩ := hb3 (by omega)
      obtain ⟨hk', e12⟩ := map_get hms h1
      obtain ⟨gk, -, ek, ok⟩ := hT.rows (ms[k]'hk') (List.getElem_mem _)
      have p0 := (hB.cell (p := ⟨g, k, none⟩) hg).trans (ct k hk')
      have q0 : wr.cell? ⟨b2, o2 + k, none⟩ = some (l[k]'h1).1 := by
        rw [hB.cell (p := ⟨b2, o2 + k, none⟩) (by show b2 < _; omega)]
        have := hc2 k h1 0 _ rfl
        simpa using this
      have r2 := hrows (l[k]'h1) (List.getElem_mem _)
      rw [ek] at p0
      rw [e12] at ok p0
      generalize l[k]'h1 = y at *
      obtain ⟨vy, ry⟩ := y
      obtain ⟨ay, cy, hvy, -, -, -⟩ := id r2.1
      simp only at hvy p0 q0 ok
      subst hvy
      have kS : ∀ W, LfS w g k b2 (o2 + k) (.slice (some ⟨gk, 0, none⟩) ry.length (ry.length + 1)) (.slice ay ry.length cy) W → Calls Tryz.prog 117 #[.agg #[.slice (some ⟨gk, 0, none⟩) ry.length (ry.length + 1)], .agg #[.slice ay ry.length cy]] W fun e w' => e = .returned (.bool true) ∧ LfS w g k b2 (o2 + k) (.slice (some ⟨gk, 0, none⟩) ry.length (ry.length + 1)) (.slice ay ry.length cy) w' := by
        intro W hW
        have z := hW.2.2.size
        refine (leftResult_any W _ gk _ lim cy ay ry (own_below ok hW.2.2) (r2.1.below hW.2.2 hlim) (by omega)).mono ?_
        rintro e w' ⟨rfl, h'⟩
        exact ⟨rfl, (h'.cell (World.block_lt_of_cell? W _ hW.1)).trans hW.1, (h'.cell (World.block_lt_of_cell? W _ hW.2.1)).trans hW.2.1, hW.2.2.trans (h'.mono z)⟩
      have hS : LfS w g k b2 (o2 + k) (.slice (some ⟨gk, 0, none⟩) ry.length (ry.length + 1)) (.slice ay ry.length cy) wr := ⟨p0, q0, hB⟩
      clear hc2 hb3 r2 hrows ct cs cb0 p0 q0 hB ok ek e12 hT hms
      have i1 : (k : Int) < (l.length : Int) := by omega
      go_wp2_with fail
      go_region_held3 (fun W => W.cell? ⟨g, k, none⟩ = some (.slice (some ⟨gk, 0, none⟩) ry.length (ry.length + 1)) ∧ W.cell? ⟨b2, o2 + k, none⟩ = some (.slice ay ry.length cy) ∧ Below w.heap.size w W) (first | assumption | exact LfS.drewN (by assumption) 1)
        (first | (go_at_call 117; refine (kS _ (by assumption)).mono ?_; rintro e w' ⟨rfl, hb⟩))
      all_goals
        rename_i hlast
        clear kS
        go_wp2
        go_roundw
        case rel => exact ⟨k + 1, by omega, by go_num, hlast.2.2⟩
        case measure => simp [intOf]; omega
    · obtain rfl : k = l.length := by omega
      have cs' := (hB.cell (p := ⟨g, l.length, none⟩) hg).trans cs
      have cb' := (hB.cell (p := ⟨sb, 0, none⟩) hsl).trans cb0
      have bF := hB.trans (((Below.refl wr.heap.size wr).alloc (Nat.le_refl _) (.cells #[.slice (some ⟨sb, 0, none⟩) 1 1] 106)).mono hB.size)
      have hsl' : sb < wr.heap.size := Nat.lt_of_lt_of_le hsl hB.size
      have cb2 : (wr.alloc (.cells #[.slice (some ⟨sb, 0, none⟩) 1 1] 106)).cell? ⟨sb, 0, none⟩ = some (.string ⟨#[115, 112, 97, 114, 101]⟩) := (((Below.refl wr.heap.size wr).alloc (Nat.le_refl _) (.cells #[.slice (some ⟨sb, 0, none⟩) 1 1] 106)).cell (p := ⟨sb, 0, none⟩) hsl').trans cb'
      clear hb3 hrows ct cs cb0 hB hT hms cb'
      go_wp2
      go_ret
      exact ⟨rfl, bF⟩
end Go.Proofs.YtndjgilheleplaaGreatDoor
/- What holds of the lists of RowsResults. -/
set_option linter.unusedSimpArgs false
set_option linter.unusedVariables false
namespace Go.Proofs.YtndjgilheleplaaGreatDoor
open Go.RowKit

/-- The copy of results: n of them from block g on, and the spare one behind them. -/
structure TwM (w : World) (g n sb : Nat) (ms : List ResP) : Prop where
  rows : TwRes w g ms
  own : w.ownsRow g 106 1 (.slice (some ⟨g, 0, none⟩) (n + 1) (n + 1)) (n + 1) (ms.flatMap resCells ++ [.slice (some ⟨sb, 0, none⟩) 1 1])
  sp : w.heap[sb]? = some (.cells #[.string ⟨#[115, 112, 97, 114, 101]⟩, .int .u32 0] 109 (0, 0))
  len : ms.length = n
theorem TwM.below {w w' : World} {g n sb : Nat} {ms : List ResP} (h : TwM w g n sb ms) (hb : Below w.heap.size w w') : TwM w' g n sb ms :=
  ⟨h.rows.below hb, own_below h.own hb, (hb.block sb (lt_of_some h.sp)).trans h.sp, h.len⟩
theorem TwM.first {w : World} {g n sb : Nat} {ms : List ResP} (h : TwM w g n sb ms) : w.ownsRow g 106 1 (.slice (some ⟨g, 0, none⟩) n (n + 1)) n (ms.flatMap resCells) := own_first h.own (by rw [flat_len (s := 1) (fun _ => rfl), h.len])
theorem TwM.at {w : World} {g n sb : Nat} {ms : List ResP} (h : TwM w g n sb ms) (hs : ∀ p ∈ ms, ∀ x ∈ p.2, rowSm x) : ResAt w w.heap.size (.slice (some ⟨g, 0, none⟩) n (n + 1)) ms := by
  have h1 := h.first
  have hl := h.len
  subst hl
  refine ⟨sl_own resCells_len h1, fun p hp => ⟨?_, hs p hp⟩⟩
  obtain ⟨c, -, e, ho⟩ := h.rows.rows p hp
  rw [e]
  exact sl_own rowCells_len (twin_own rowCells_len ho)
theorem OwnRes.wrote {d : Nat → Prop} {w w' : World} {base : Nat} {v : Value} {l : List ResP} (h : OwnRes w base v l) (hw : Wrote d w w') (h1 : ∀ b, v.ownBlock = some b → ¬ d b) (h2 : ∀ p ∈ l, ∀ b, p.1.ownBlock = some b → ¬ d b) : OwnRes w' base v l :=
  ⟨own_wrote h.own hw h1, fun p hp => own_wrote (h.rows p hp) hw (h2 p hp), h.apart, h.pair⟩
theorem mem_snd {ms l : List ResP} (h : ms.map (·.2) = l.map (·.2)) {p : ResP} (hp : p ∈ ms) : ∃ q ∈ l, q.2 = p.2 := by
  have : p.2 ∈ l.map (·.2) := by rw [← h]; exact List.mem_map_of_mem hp
  obtain ⟨q, hq, e⟩ := List.mem_map.mp this
  exact ⟨q, hq, e⟩
theorem getRes_few (bs : List UInt8) : (getRes bs).1.length ≤ 16 ∧ ∀ r ∈ (getRes bs).1, r.length ≤ 256 ∧ ∀ x ∈ r, rowSm x := by
  rcases getRes_two bs with ⟨m, h, h2, h3, h4, -⟩ | h
  · rw [h]
    refine ⟨h3, fun r hr => ⟨of_decide_eq_true (List.all_eq_true.mp h4 r hr), fun x hx => ?_⟩⟩
    have := chk_size (show chk x.key = true from List.all_eq_true.mp (List.all_eq_true.mp h2 r hr) x hx)
    show x.key.size ≤ maxLen
    unfold maxLen; omega
  · rw [h]
    exact ⟨by show 0 ≤ 16; omega, fun r hr => by cases hr⟩
theorem putRes_few (m : List (List RowD)) : (putRes m).1.length ≤ 1000000000 := by
  by_cases h : m.all resOk = true
  · by_cases hn : m.length ≤ 16 ∧ m.all (fun r => decide (r.length ≤ 256)) = true
    · rw [putRes_fits h hn]
      have e : m = (m.map (fun r => ((.slice none 0 0, r) : ResP))).map (·.2) := by rw [List.map_map]; exact (List.map_id m).symm
      have h' : (m.map (fun r => ((.slice none 0 0, r) : ResP))).all resOkP = true := by rw [← all_P, ← e]; exact h
      have hf' : (m.map (fun r => ((.slice none 0 0, r) : ResP))).all fewP = true := by rw [← few_P, ← e]; exact hn.2
      have := res_len h' hf'
      show (encList encRes m).length ≤ _
      rw [e, ← encList_P]
      unfold encList
      rw [List.length_append, be2_len]
      rw [List.length_map] at this
      have := hn.1
      omega
    · rw [putRes_limit h hn]; show 0 ≤ _; omega
  · rw [putRes_arg (by simpa using h)]; show 0 ≤ _; omega
theorem bookResultsN {w : World} {bk n cl ln : Nat} {al : Option Addr} {vByte vRow vResult : Value} {EByte ERow EResult : List Ent} (I : BkRes w bk n vByte EByte vRow ERow vResult EResult) (l : List ResP) (hln : l.length = ln) (hn : n + ln ≤ 90000)
    (hv : w.ownsRow 0 106 1 (.slice al ln cl) ln (l.flatMap resCells)) (hr : ∀ p ∈ l, p.2.length ≤ 1000000000 ∧ ∃ xs, w.ownsRow 0 109 2 p.1 p.2.length xs)
    (hpair : l.Pairwise (fun p q => ∀ g, p.1.ownBlock = some g → q.1.ownBlock ≠ some g)) (hap : ∀ p ∈ l, ∀ g, p.1.ownBlock = some g → (Value.slice al ln cl).ownBlock ≠ some g)
    (hf : ∀ p ∈ l, ∀ b, p.1.ownBlock = some b → b < bk ∧ ¬ LD EByte b ∧ ¬ LD ERow b ∧ ¬ LD EResult b) (hg : ∀ b, (Value.slice al ln cl).ownBlock = some b → b < bk ∧ ¬ LD EByte b ∧ ¬ LD ERow b ∧ ¬ LD EResult b) :
    Calls Tryz.prog 30 #[ptr bk, .slice al ln cl] w fun e w' => e = .returned (.tuple #[]) ∧ ∃ vR ER vS, BkRes w' bk (n + ln + 1) vByte EByte vR ER vS (EResult ++ [Ent.mk (.slice al ln cl) (.slice none 0 0) ln (n + ln + 1)]) ∧ (∀ b, LD ER b → LD ERow b ∨ ∃ p ∈ l, p.1.ownBlock = some b) ∧ Wrote (fun b => bk ≤ b) w w' := by
  subst hln
  exact bookResults_any I l hn hv hr hpair hap hf hg
theorem ldR_two {v l1 l2 : Value} {n1 n2 k1 k2 b : Nat} (h : LD ([] ++ [Ent.mk l1 v n1 k1] ++ [Ent.mk l2 v n2 k2]) b) : l1.ownBlock = some b ∨ l2.ownBlock = some b := by
  obtain ⟨x, hx, h⟩ := h
  simp at hx
  rcases hx with rfl | rfl
  · exact .inl h
  · exact .inr h
theorem ldR_one {v l1 : Value} {n1 k1 b : Nat} (h : LD ([] ++ [Ent.mk l1 v n1 k1]) b) : l1.ownBlock = some b := by
  obtain ⟨x, hx, h⟩ := h
  simp at hx
  subst hx
  exact h
theorem ldR_no {b : Nat} (h : LD [] b) : False := by
  obtain ⟨x, hx, h⟩ := h
  cases hx
end Go.Proofs.YtndjgilheleplaaGreatDoor
