/- The walk of ClocksTell. -/
import Derived.Test.YtboinccdnaddmaaCkAlive
set_option linter.unusedSimpArgs false
set_option linter.unusedVariables false
namespace Go.Proofs.Ytboinccdnaddmaa
open Go.RowKit Go.Maps

/-- A row that was appended to, wherever it lies then. -/
theorem St.append2 {S0 : Nat → Prop} {w0 w w' : World} {L : List Part} {e : TypeId} {s n m : Nat} {v v' : Value} {xs ys : List Value} (h : St S0 w0 w (Part.row e s v n xs :: L)) (ho : w'.ownsRow 0 e s v' m ys) (hg : w.grownBy w' v.ownBlock) (hb : v'.ownBlock = v.ownBlock ∨ v'.ownBlock = some w.heap.size) :
    St S0 w0 w' (Part.row e s v' m ys :: L) := by
  refine h.step (P := [_]) (Q := [_]) (fun S hS => ?_)
  obtain ⟨h1, h2⟩ := parts_one.1 hS
  refine ⟨fun b => v'.ownBlock = some b, parts_one.2 ⟨ho, fun _ => Iff.rfl⟩, fun b hb' => ?_, .grown hg (fun k e _ => (h2 k).2 e)⟩
  rcases hb with e | e
  · exact .inl ((h2 b).2 (by rw [← e]; exact hb'))
  · rw [e] at hb'; cases hb'; exact .inr (Nat.le_refl _)
def dueA (due : Nat → Nat) : Array Value := ((List.range 256).map (fun k => Value.int .i64 (due k : Int))).toArray
theorem dueA_get (due : Nat → Nat) (k : Nat) (hk : k < 256) : (dueA due)[k]? = some (.int .i64 (due k : Int)) := by simp [dueA, hk]
def updN (due : Nat → Nat) (k n : Nat) : Nat → Nat := fun j => if j = k then n else due j
theorem dueA_set (due : Nat → Nat) (k n : Nat) (hk : k < 256) : (dueA due).setIfInBounds k (.int .i64 (n : Int)) = dueA (updN due k n) := by
  apply Array.ext_getElem?
  intro i
  rw [Array.getElem?_setIfInBounds]
  by_cases hi : i < 256
  · rw [dueA_get _ i hi]
    by_cases e : k = i
    · subst e; simp [dueA, hk, updN]
    · have e2 : ¬ i = k := fun h => e h.symm
      rw [if_neg e, dueA_get _ i hi]; simp [updN, e2]
  · have h1 : (dueA due)[i]? = none := Array.getElem?_eq_none (by simp [dueA]; omega)
    have h2 : (dueA (updN due k n))[i]? = none := Array.getElem?_eq_none (by simp [dueA]; omega)
    rw [h1, h2, if_neg (by omega)]
theorem dueA_zero : Array.replicate 256 (Value.int .i64 0) = dueA (fun _ => 0) := by
  apply Array.ext_getElem?
  intro i
  by_cases hi : i < 256
  · rw [dueA_get _ i hi]; simp [hi]
  · rw [Array.getElem?_eq_none (by simp; omega), Array.getElem?_eq_none (by simp [dueA]; omega)]
theorem info_due : (Try.prog.info? 42).map (fun i => (i.zero, i.size)) = some (some (.agg (Array.replicate 256 (.int .i64 0))), 256) := by kernel_rfl
/-- Who is set, as the array tells it, of those that are told behind tick s. -/
def fF (due : Nat → Nat) (s : Nat) : Nat → Option Nat := fun x => if x % 16777216 = 0 ∧ x / 16777216 < 256 ∧ s < due (x / 16777216) then some (due (x / 16777216)) else none
theorem fF_none : fF (fun _ => 0) 0 = noneD := by funext x; simp [fF, noneD]
theorem fF_set (due : Nat → Nat) (k n : Nat) (hk : k < 256) (hn : 0 < n) : updF (fF due 0) (k * 16777216) (some (0 + n)) = fF (updN due k n) 0 := by
  funext x
  unfold updF fF updN
  by_cases e : x = k * 16777216
  · subst e
    have h1 : k * 16777216 / 16777216 = k := by omega
    have h2 : k * 16777216 % 16777216 = 0 := by omega
    simp [h1, h2, hk, hn]
  · rw [if_neg e]
    by_cases h : x / 16777216 = k
    · have : x % 16777216 ≠ 0 := by omega
      simp [this]
    · simp [h]
theorem fF_tick (due : Nat → Nat) (s : Nat) : tickF (fF due s) (s + 1) = fF due (s + 1) := by
  funext x
  unfold tickF fF
  by_cases h1 : x % 16777216 = 0 ∧ x / 16777216 < 256
  · by_cases h2 : s < due (x / 16777216)
    · by_cases h3 : due (x / 16777216) = s + 1
      · simp [h1.1, h1.2, h3]
      · have : s + 1 < due (x / 16777216) := by omega
        simp [h1.1, h1.2, h2, h3, this]
    · have : ¬ s + 1 < due (x / 16777216) := by omega
      simp [h2, this]
  · have e : ∀ p : Prop, ¬ (x % 16777216 = 0 ∧ x / 16777216 < 256 ∧ p) := fun p h => h1 ⟨h.1, h.2.1⟩
    simp only [e, if_false]
    simp
def wantL (due : Nat → Nat) (t k : Nat) : List Nat := ((List.range k).filter (fun j => decide (due j = t))).map (· * 16777216)
theorem wantL_step (due : Nat → Nat) (t k : Nat) : wantL due t (k + 1) = wantL due t k ++ (if due k = t then [k * 16777216] else []) := by
  unfold wantL
  rw [List.range_succ, List.filter_append, List.map_append]
  by_cases h : due k = t <;> simp [h]
theorem wantL_asc (due : Nat → Nat) (t k : Nat) : (wantL due t k).Pairwise (· < ·) := by
  unfold wantL
  refine List.pairwise_map.2 ((List.Pairwise.filter _ (List.pairwise_lt_range)).imp (fun h => by omega))
theorem wantL_mem (due : Nat → Nat) (s : Nat) (x : Nat) : fF due s x = some (s + 1) ↔ x ∈ wantL due (s + 1) 256 := by
  unfold wantL fF
  simp only [List.mem_map, List.mem_filter, List.mem_range, decide_eq_true_eq]
  constructor
  · intro h
    split at h
    · rename_i hc
      simp only [Option.some.injEq] at h
      exact ⟨x / 16777216, ⟨hc.2.1, h⟩, by omega⟩
    · cases h
  · rintro ⟨k, ⟨h1, h2⟩, rfl⟩
    have e1 : k * 16777216 / 16777216 = k := by omega
    have e2 : k * 16777216 % 16777216 = 0 := by omega
    rw [e1, e2, h2]
    simp [h1]
theorem wantL_len (due : Nat → Nat) (t k : Nat) : (wantL due t k).length ≤ k := by
  unfold wantL
  rw [List.length_map]
  exact Nat.le_trans (List.length_filter_le _ _) (by simp)
theorem fF_near (due : Nat → Nat) (s : Nat) (hd : ∀ k, due k ≤ 256) : Near (fF due s) := fun j t h => by
  unfold fF at h
  split at h
  · rename_i hc
    simp only [Option.some.injEq] at h
    exact ⟨by omega, by have := hd (j / 16777216); omega⟩
  · cases h
theorem updN_le {due : Nat → Nat} {k n : Nat} (h : ∀ k, due k ≤ 256) (hn : n ≤ 256) : ∀ j, updN due k n j ≤ 256 := fun j => by
  unfold updN; split
  · exact hn
  · exact h j

/-- Bytes handed in, told one by one. -/
theorem in_cells {w : World} {lim : Nat} {v : Value} {l : List UInt8} (h : InAt w lim v l) : ∃ ao c, v = .slice ao l.length c ∧ l.length ≤ c ∧ c ≤ 9223372036854775807 ∧ (0 < l.length → ∃ b off, ao = some ⟨b, off, none⟩ ∧ b < lim ∧ ∀ k, k < l.length → w.cell? ⟨b, off + k, none⟩ = some (.int .u8 ((l.getD k 0).toNat : Int))) := by
  obtain ⟨ao, c, rfl, h1, h2, h3⟩ := h
  refine ⟨ao, c, rfl, h1, by unfold maxLen at h2; omega, fun h0 => ?_⟩
  obtain ⟨b, off, e, hb, hc⟩ := h3 h0
  refine ⟨b, off, e, hb, fun k hk => ?_⟩
  have := hc k hk 0 (.int .u8 ((l.getD k 0).toNat : Int)) (by rw [List.getD, List.getElem?_eq_getElem hk]; rfl)
  simpa using this
set_option maxHeartbeats 1000000 in
set_option maxRecDepth 1000000 in
theorem tell_walk (w : World) (vi vt : Value) (ids ticks : List UInt8) (hi : InAt w w.heap.size vi ids) (ht : InAt w w.heap.size vt ticks) :
    Calls Try.prog 4 #[vi, vt] w fun e w' => e = .returned (.bool true) ∧ Below w.heap.size w w' := by
  have ka := alive_ok
  obtain ⟨ao, ca, rfl, ha1, ha2, ha3⟩ := in_cells hi
  obtain ⟨bo, cb, rfl, hb1, hb2, hb3⟩ := in_cells ht
  clear hi ht
  go_enter Try.func4, Try.ntmps4
  go_wp2_with fail
  refine (ka w).mono ?_
  rintro e w1 ⟨rfl, b1⟩
  by_cases h60 : 60 < ids.length
  · have h60z : (60 : Int) < (ids.length : Int) := by omega
    clear ha3 hb3
    go_wp2_with fail
    refine (ka w1).mono ?_
    rintro e w2 ⟨rfl, b2⟩
    go_wp2
    go_ret
    exact ⟨rfl, b1.trans (b2.mono b1.size)⟩
  · have h60z : ¬ (60 : Int) < (ids.length : Int) := by omega
    by_cases hl : ids.length = ticks.length
    · have HL : Hid (ids.length = ticks.length) := hl
      rw [← hl] at hb1 hb3 ⊢
      obtain ⟨n, hn⟩ : ∃ n, n = ids.length := ⟨_, rfl⟩
      rw [← hn] at ha1 ha3 hb1 hb3 h60 h60z ⊢
      obtain ⟨ic, hic⟩ : ∃ ic : Nat → UInt8, ∀ k, ic k = ids.getD k 0 := ⟨fun k => ids.getD k 0, fun _ => rfl⟩
      obtain ⟨tc, htc⟩ : ∃ tc : Nat → UInt8, ∀ k, tc k = ticks.getD k 0 := ⟨fun k => ticks.getD k 0, fun _ => rfl⟩
      have HA : Hid (0 < n → ∃ b off, ao = some ⟨b, off, none⟩ ∧ b < w.heap.size ∧ ∀ k, k < n → w.cell? ⟨b, off + k, none⟩ = some (.int .u8 ((ic k).toNat : Int))) := fun h => by simp only [hic]; exact ha3 h
      have HB : Hid (0 < n → ∃ b off, bo = some ⟨b, off, none⟩ ∧ b < w.heap.size ∧ ∀ k, k < n → w.cell? ⟨b, off + k, none⟩ = some (.int .u8 ((tc k).toNat : Int))) := fun h => by simp only [htc]; exact hb3 h
      clear hl hb3 ha3 hn HL hic htc
      have kn := New_ok w1
      have hz : ∀ w, (zeroValue 42).run Try.prog w = .ok (.agg (dueA (fun _ => 0))) w := by rw [← dueA_zero]; exact (zero_of_info info_due).1
      have hcz : (Value.agg (dueA (fun _ => 0))).cells = dueA (fun _ => 0) := rfl
      go_wp2_with fail
      refine kn.mono ?_
      rintro e w2 ⟨rfl, s1⟩
      clear kn
      obtain ⟨C, hC⟩ : ∃ C, C = w1.heap.size + 3 := ⟨_, rfl⟩
      rw [← hC] at s1 ⊢
      clear hC
      have s2 := s1.alloc (.cells (dueA (fun _ => 0)) 42)
      obtain ⟨D, hD⟩ : ∃ D, D = w2.heap.size := ⟨_, rfl⟩
      have S2 : Hid (St noB w1 (w2.alloc (.cells (dueA (fun _ => 0)) 42)) [Part.blk w2.heap.size (.cells (dueA (fun _ => 0)) 42 (0, 0)), clkP C 0 noneD 0]) := s2
      rw [← hD] at S2
      clear s1 s2
      have HD : Hid (D = w2.heap.size) := hD
      go_wp2
      rw [← hD]
      clear hD
      have hnu : ∀ k, (fun (_ : Nat) => 0) k ≤ 256 := fun _ => Nat.zero_le _
      go_loopw [7] (fun v W => ∃ (k : Nat) (due : Nat → Nat), v = .int .i64 k ∧ k ≤ n ∧ (∀ j, due j ≤ 256) ∧ St noB w1 W [Part.blk D (.cells (dueA due) 42 (0, 0)), clkP C 0 (fF due 0) k]) (fun v _ => n - (intOf v).toNat)
      case atStart => exact ⟨0, fun _ => 0, rfl, Nat.zero_le _, hnu, by rw [fF_none]; exact S2.out⟩
      case round =>
        obtain ⟨k, due, rfl, hk, hd, s3⟩ := hrel
        clear S2 hz hcz hnu
        by_cases hlt : k < n
        · obtain ⟨ba, oa, rfl, hba, hca⟩ := HA.out (by omega)
          obtain ⟨bb, ob, rfl, hbb, hcb⟩ := HB.out (by omega)
          have BW : Hid (Below w.heap.size w wr) := b1.trans (s3.below.mono b1.size)
          obtain ⟨x, hx⟩ : ∃ x, x = (ic k).toNat := ⟨_, rfl⟩
          obtain ⟨y, hy⟩ : ∃ y, y = (tc k).toNat := ⟨_, rfl⟩
          have p0 : wr.cell? ⟨ba, oa + k, none⟩ = some (.int .u8 (x : Int)) := by rw [hx]; exact (BW.out.cell (p := ⟨ba, oa + k, none⟩) hba).trans (hca k hlt)
          have q0 : wr.cell? ⟨bb, ob + k, none⟩ = some (.int .u8 (y : Int)) := by rw [hy]; exact (BW.out.cell (p := ⟨bb, ob + k, none⟩) hbb).trans (hcb k hlt)
          have hx256 : x < 256 := by rw [hx]; exact (ic k).toNat_lt
          have hy256 : y < 256 := by rw [hy]; exact (tc k).toNat_lt
          have kc := Set_ok (x * 16777216) (1 + y) (by omega) (by omega) (by omega) (by omega) (by omega) (fF_near due 0 hd) (s3.swap)
          rw [fF_set due x (1 + y) hx256 (by omega)] at kc
          rw [show ((x * 16777216 : Nat) : Int) = (x : Int) * 16777216 by omega, show ((1 + y : Nat) : Int) = 1 + (y : Int) by omega] at kc
          have HD2 : Hid (∀ j, updN due x (1 + y) j ≤ 256) := updN_le hd (by omega)
          clear hx hy hca hcb s3 hd
          go_wp2_with fail
          refine kc.mono ?_
          rintro e w4 ⟨rfl, s4⟩
          have s5 := s4.swap
          have BW4 : Below w.heap.size w w4 := b1.trans (s5.below.mono b1.size)
          have p4 : w4.cell? ⟨ba, oa + k, none⟩ = some (.int .u8 (x : Int)) := (BW4.cell (p := ⟨ba, oa + k, none⟩) hba).trans ((BW.out.cell (p := ⟨ba, oa + k, none⟩) hba).symm.trans p0)
          have fD := box_frozen (i := x) s5.blk.1
          have cD : w4.cell? ⟨D, x, none⟩ = some (.int .i64 (due x : Int)) := by
            have := s5.blk.1
            simp [World.cell?, this, dueA_get due x hx256]
          have s6 := s5.set x (.int .i64 ((1 + y : Nat) : Int))
          rw [dueA_set due x (1 + y) hx256, show ((1 + y : Nat) : Int) = 1 + (y : Int) by omega] at s6
          have S6 : Hid (St noB w1 (w4.setCell ⟨D, x, none⟩ (.int .i64 (1 + (y : Int)))) [Part.blk D (.cells (dueA (updN due x (1 + y))) 42 (0, 0)), clkP C 0 (fF (updN due x (1 + y)) 0) (k + 1)]) := s6
          clear kc s4 s5 s6 p0 q0 BW4
          go_wp2
          go_roundw
          case rel => exact ⟨k + 1, _, by go_num, by omega, HD2.out, S6.out⟩
          case measure => (simp [intOf]; try omega)
        · obtain rfl : k = n := by omega
          have S3 : Hid (St noB w1 wr [Part.blk D (.cells (dueA due) 42 (0, 0)), clkP C 0 (fF due 0) k]) := s3
          clear HA HB s3
          go_wp2
          go_loopw [9] (fun v W => ∃ (t : Nat) (z : Int), v = .int .i64 z ∧ z = (t : Int) + 1 ∧ t ≤ 257 ∧ St noB w1 W [Part.blk D (.cells (dueA due) 42 (0, 0)), clkP C t (fF due t) k]) (fun v _ => 258 - (intOf v).toNat)
          case atStart => exact ⟨0, 1, rfl, rfl, by omega, S3.out⟩
          case round =>
            obtain ⟨t, z, rfl, hz, ht, s4⟩ := hrel
            by_cases hlt2 : t < 257
            · have HZ : Hid (z = (t : Int) + 1) := hz
              have z1 : 1 ≤ z := by omega
              have z2 : z ≤ 257 := by omega
              clear hz
              have s5 := (s4.more (Q := [Part.row 22 1 (.slice none 0 0) 0 []]) (T := fun _ => False) (Below.refl _ _) (parts_one.2 ⟨World.ownsRow_nil _ _ _ _, fun x => ⟨fun h => h.elim, fun h => by cases h⟩⟩) (fun _ h => h.elim))
              have S5 : Hid (St noB w1 wr [Part.row 22 1 (.slice none 0 0) 0 [], Part.blk D (.cells (dueA due) 42 (0, 0)), clkP C t (fF due t) k]) := s5
              clear s4 s5
              go_wp2
              go_loopw [10, 11] (fun v u W => ∃ q : Nat, u = .int .i64 q ∧ q ≤ 256 ∧ St noB w1 W [Part.row 22 1 v (wantL due (t + 1) q).length ((wantL due (t + 1) q).map u32V), Part.blk D (.cells (dueA due) 42 (0, 0)), clkP C t (fF due t) k]) (fun _ u _ => 256 - (intOf u).toNat)
              case atStart => exact ⟨0, rfl, by omega, S5.out⟩
              case round =>
                obtain ⟨q, rfl, hq, s6⟩ := hrel
                by_cases hq2 : q < 256
                · have cD : wr.cell? ⟨D, q, none⟩ = some (.int .i64 (due q : Int)) := by
                    have := (s6.pick 1 rfl).blk.1
                    simp [World.cell?, this, dueA_get due q hq2]
                  by_cases hdq : due q = t + 1
                  · have s7 := s6.alloc (.cells #[u32V (q * 16777216)] 22)
                    have s8 := s7.swap
                    have own : Hid ((wr.alloc (.cells #[u32V (q * 16777216)] 22)).ownsRow 0 22 1 u10 (wantL due (t + 1) q).length ((wantL due (t + 1) q).map u32V)) := s8.row
                    have src : Hid (Src Try.prog 1 36 (.slice (some ⟨wr.heap.size, 0, none⟩) 1 1) 1 [u32V (q * 16777216)] (wr.alloc (.cells #[u32V (q * 16777216)] 22))) :=
                      Src.ofSlice _ Try.underlying36 ⟨wr.heap.size, 0, none⟩ 1 1 _ rfl (news_ofv _ _) (by intro u hu; simp at hu; rw [hu]; rfl)
                    have hW := wantL_step due (t + 1) q
                    rw [if_pos hdq] at hW
                    have hWl := wantL_len due (t + 1) q
                    have bb : Hid ((wantL due (t + 1) q).length + 1 ≤ maxLen ∧ ((wantL due (t + 1) q).length + 1) * 4 ≤ 140737488355328) := by show _ ∧ _; unfold maxLen; omega
                    have FIN : Hid (∀ v' w2, w2.ownsRow 0 22 1 v' ((wantL due (t + 1) q).length + 1) ((wantL due (t + 1) q).map u32V ++ [u32V (q * 16777216)]) → (wr.alloc (.cells #[u32V (q * 16777216)] 22)).grownBy w2 u10.ownBlock → (v'.ownBlock = u10.ownBlock ∨ v'.ownBlock = some (wr.alloc (.cells #[u32V (q * 16777216)] 22)).heap.size) →
                        St noB w1 w2 [Part.row 22 1 v' (wantL due (t + 1) (q + 1)).length ((wantL due (t + 1) (q + 1)).map u32V), Part.blk D (.cells (dueA due) 42 (0, 0)), clkP C t (fF due t) k]) := fun v' w2 ho hg hb => by
                      rw [hW, List.length_append, List.map_append]
                      exact ((s8.append2 ho hg hb).swap).drop
                    obtain ⟨au, nu, cu, hu⟩ := own_slice own.out
                    subst hu
                    rw [show u32V (q * 16777216) = .int .u32 ((q : Int) * 16777216) by simp [u32V]] at own src FIN
                    have hdqz : ((due q : Int) == z) = true := by have := HZ.out; simpa using (by omega : (due q : Int) = z)
                    have FR := fF
                    clear s6 s7 s8 hW hWl FR
                    obtain ⟨i0, hi, hz0, hz1, hz2⟩ := info_parts info_u32
                    go_wp2_with (at_builtin; refine wpList_append_own_src _ rfl (.tmp 69) (.tmp 73) 36 36 rfl 0 22 i0 (.int .u32 0) 1 4 Try.underlying36 hi hz0 hz1 hz2 rfl (by decide) (.slice au nu cu) _ _ rfl own.out (.slice (some ⟨wr.heap.size, 0, none⟩) 1 1) 1 _ rfl src.out bb.out.1 bb.out.2 (Nat.zero_le _) ?_; intro v' w2 ho hg hb; have R := FIN.out v' w2 ho hg hb; obtain ⟨av, nv, cv, rfl⟩ := own_slice ho)
                    go_roundw
                    case rel => exact ⟨q + 1, by go_num, by omega, R⟩
                    case measure => (simp [intOf]; try omega)
                  · have hW := wantL_step due (t + 1) q
                    rw [if_neg hdq, List.append_nil] at hW
                    rw [← hW] at s6
                    have S6 : Hid (St noB w1 wr [Part.row 22 1 u10 (wantL due (t + 1) (q + 1)).length ((wantL due (t + 1) (q + 1)).map u32V), Part.blk D (.cells (dueA due) 42 (0, 0)), clkP C t (fF due t) k]) := s6
                    have hdqz : ((due q : Int) == z) = false := by have := HZ.out; simpa using (by omega : ¬ (due q : Int) = z)
                    clear s6 hW
                    go_wp2
                    go_roundw
                    case rel => exact ⟨q + 1, by go_num, by omega, S6.out⟩
                    case measure => (simp [intOf]; try omega)
                · obtain rfl : q = 256 := by omega
                  have hA := wantL_asc due (t + 1) 256
                  have hM := wantL_mem due t
                  generalize wantL due (t + 1) 256 = WL at s6 hA hM
                  have kt := Tick_ok (by omega) (by omega) (fF_near due t hd) (s6.rt (K := [_, _, _]) 3 [2, 0, 1] (by decide))
                  rw [fF_tick] at kt
                  obtain ⟨au, cu, hv, -⟩ := row_form s6.row
                  subst hv
                  clear s6
                  go_wp2_with fail
                  refine kt.mono ?_
                  rintro e w5 ⟨v, ys, rfl, h1, h2, h3, s7⟩
                  obtain rfl : ys = WL := told_is h1 h2 hA hM
                  have s8 := s7.rt (K := [_, _, _, _]) 4 [2, 0, 3, 1] (by decide)
                  have ks := sameIds_ok w5 v _ _ _ (ids_row (s8.pick 1 rfl).row) (ids_row s8.row)
                  have S8 : Hid (St noB w1 w5 [Part.blk D (.cells (dueA due) 42 (0, 0)), clkP C (t + 1) (fF due (t + 1)) k]) := s8.drop.drop
                  obtain ⟨av, cv, hv, -⟩ := row_form (s8.pick 1 rfl).row
                  subst hv
                  obtain ⟨nn, hnn⟩ : ∃ nn, nn = ys.length := ⟨_, rfl⟩
                  rw [← hnn] at ks ⊢
                  clear s7 s8 kt h1 h2 h3 hA hM S5 S3 ka hnn
                  go_wp2_with fail
                  refine ks.mono ?_
                  rintro e w6 ⟨rfl, n6, rfl⟩
                  have S9 : Hid (St noB w1 (w5.drewN n6) [Part.blk D (.cells (dueA due) 42 (0, 0)), clkP C (t + 1) (fF due (t + 1)) k]) := S8.out.up (below_drewN _ _)
                  clear ks S8
                  rw [show decide True = true from decide_eq_true trivial]
                  go_wp2
                  go_roundw
                  case rel => exact ⟨t + 1, z + 1, rfl, by have := HZ.out; omega, by omega, S9.out⟩
                  case measure => (simp [intOf]; try omega)
            · obtain rfl : t = 257 := by omega
              have B := s4.below
              clear s4
              have z2 : ¬ z ≤ 257 := by omega
              clear hz
              go_wp2
              go_ret
              exact ⟨rfl, b1.trans (B.mono b1.size)⟩
    · have hlz : ((ids.length : Int) != (ticks.length : Int)) = true := by simpa using (by omega : ¬ (ids.length : Int) = (ticks.length : Int))
      clear ha3 hb3
      go_wp2_with fail
      refine (ka w1).mono ?_
      rintro e w2 ⟨rfl, b2⟩
      go_wp2
      go_ret
      exact ⟨rfl, b1.trans (b2.mono b1.size)⟩
end Go.Proofs.Ytboinccdnaddmaa
