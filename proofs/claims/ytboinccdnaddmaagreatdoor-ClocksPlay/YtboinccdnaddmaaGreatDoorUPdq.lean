/- The walks of pdqsortOrdered and slices.Sort at uint32. -/
import Derived.Test.YtboinccdnaddmaaGreatDoorUPdqM
import Derived.Test.YtboinccdnaddmaaGreatDoorUIns
import Derived.Test.YtboinccdnaddmaaGreatDoorUSift
import Derived.Test.YtboinccdnaddmaaGreatDoorURev
import Derived.Test.YtboinccdnaddmaaGreatDoorUBreak
import Derived.Test.YtboinccdnaddmaaGreatDoorUPiv
import Derived.Test.YtboinccdnaddmaaGreatDoorUPart
import Derived.Test.YtboinccdnaddmaaGreatDoorUPIns
set_option linter.unusedSimpArgs false
set_option linter.unusedVariables false
namespace Go.Proofs.YtboinccdnaddmaaGreatDoor
open Go.RowKit Go.Sort

abbrev slV (g off len cap : Nat) : Value := .slice (some ⟨g, off, none⟩) len cap
/-- What the callees of pdqsort do to the row, from wherever it stands. -/
structure Callees (w : World) (g off cap len : Nat) (d : Array Nat) : Prop where
  ins : ∀ (dk : Array Nat) (W : World) (a b : Nat), RowIs w g off d dk W → a ≤ b → b ≤ len → Calls Tryz.prog 93 #[slV g off len cap, .int .i64 (a : Int), .int .i64 (b : Int)] W fun e w' => e = .returned (.tuple #[]) ∧ ∃ d', RowIs w g off d d' w' ∧ PermIn a b dk d' ∧ SortedIn ltN a b d'
  heap : ∀ (dk : Array Nat) (W : World) (a b : Nat), RowIs w g off d dk W → a ≤ b → b ≤ len → Calls Tryz.prog 94 #[slV g off len cap, .int .i64 (a : Int), .int .i64 (b : Int)] W fun e w' => e = .returned (.tuple #[]) ∧ ∃ d', RowIs w g off d d' w' ∧ PermIn a b dk d' ∧ SortedIn ltN a b d'
  rev : ∀ (dk : Array Nat) (W : World) (a b : Nat), RowIs w g off d dk W → a ≤ b → b ≤ len → Calls Tryz.prog 97 #[slV g off len cap, .int .i64 (a : Int), .int .i64 (b : Int)] W fun e w' => e = .returned (.tuple #[]) ∧ ∃ d', RowIs w g off d d' w' ∧ PermIn a b dk d'
  brk : ∀ (dk : Array Nat) (W : World) (a b : Nat), RowIs w g off d dk W → a ≤ b → b ≤ len → Calls Tryz.prog 95 #[slV g off len cap, .int .i64 (a : Int), .int .i64 (b : Int)] W fun e w' => e = .returned (.tuple #[]) ∧ ∃ d', RowIs w g off d d' w' ∧ PermIn a b dk d'
  piv : ∀ (dk : Array Nat) (W : World) (a b : Nat), RowIs w g off d dk W → 12 < b - a → b ≤ len → Calls Tryz.prog 96 #[slV g off len cap, .int .i64 (a : Int), .int .i64 (b : Int)] W fun e w' => ∃ (x : Nat) (t : Int), e = .returned (.tuple #[.int .i64 (x : Int), .int .i64 t]) ∧ a ≤ x ∧ x < b ∧ RowIs w g off d dk w'
  part : ∀ (dk : Array Nat) (W : World) (a b pv : Nat), RowIs w g off d dk W → a ≤ pv → pv < b → b ≤ len → Calls Tryz.prog 101 #[slV g off len cap, .int .i64 (a : Int), .int .i64 (b : Int), .int .i64 (pv : Int)] W fun e w' => ∃ (mid : Nat) (t : Bool) (d' : Array Nat), e = .returned (.tuple #[.int .i64 (mid : Int), .bool t]) ∧ RowIs w g off d d' w' ∧ PermIn a b dk d' ∧ a ≤ mid ∧ mid < b ∧
      (∀ k, a ≤ k → k < mid → d'[k]! < d'[mid]!) ∧ ∀ k, mid < k → k < b → d'[mid]! ≤ d'[k]!
  parte : ∀ (dk : Array Nat) (W : World) (a b pv : Nat), RowIs w g off d dk W → a ≤ pv → pv < b → b ≤ len → Calls Tryz.prog 100 #[slV g off len cap, .int .i64 (a : Int), .int .i64 (b : Int), .int .i64 (pv : Int)] W fun e w' => ∃ (mid : Nat) (d' : Array Nat), e = .returned (.int .i64 (mid : Int)) ∧ RowIs w g off d d' w' ∧ PermIn a b dk d' ∧ a < mid ∧ mid ≤ b ∧
      (∀ k, a ≤ k → k < mid → d'[k]! ≤ dk[pv]!) ∧ ∀ k, mid ≤ k → k < b → dk[pv]! < d'[k]!
  pins : ∀ (dk : Array Nat) (W : World) (a b : Nat), RowIs w g off d dk W → a < b → b ≤ len → Sort.Below ltN a b dk → Calls Tryz.prog 98 #[slV g off len cap, .int .i64 (a : Int), .int .i64 (b : Int)] W fun e w' => ∃ (t : Bool) (d' : Array Nat), e = .returned (.bool t) ∧ RowIs w g off d d' w' ∧ PermIn a b dk d' ∧ (t = true → SortedIn ltN a b d')
theorem callees (w : World) (g off cap len : Nat) (d : Array Nat) (hlen : d.size = len) (hH : Holds u32e w g off d) (hg : g < w.heap.size) (hsz : len < 4611686018427387904) : Callees w g off cap len d where
  ins := fun dk W a b hR hab hb => by
    have hs : dk.size = len := hR.size.trans hlen
    have h := insertion_ok g off cap a b dk W (hR.holds hH) (Nat.lt_of_lt_of_le hg hR.ge) hab (by omega) (by omega)
    rw [hs] at h
    have hh := insertionSort_holds swo_ltN dk a b hab (by omega)
    exact h.mono fun e w' ⟨k1, k2⟩ => ⟨k1, _, hR.trans k2, hh.1, hh.2⟩
  heap := fun dk W a b hR hab hb => by
    have hs : dk.size = len := hR.size.trans hlen
    have hh := heapSort_holds swo_ltN dk a b hab (by omega)
    exact (heapSort_ok g off cap a b len dk W hs (hR.holds hH) (Nat.lt_of_lt_of_le hg hR.ge) hab hb hsz).mono fun e w' ⟨k1, k2⟩ => ⟨k1, _, hR.trans k2, hh.1, hh.2⟩
  rev := fun dk W a b hR hab hb => (reverse_ok g off cap a b len dk W (hR.size.trans hlen) (hR.holds hH) (Nat.lt_of_lt_of_le hg hR.ge) hab hb hsz).mono fun e w' ⟨k1, d', k2, k3⟩ => ⟨k1, d', hR.trans k2, k3⟩
  brk := fun dk W a b hR hab hb => by
    obtain ⟨L, rfl⟩ : ∃ L, b = a + L := ⟨b - a, by omega⟩
    exact (break_ok g off cap a L len dk W (hR.size.trans hlen) (hR.holds hH) (Nat.lt_of_lt_of_le hg hR.ge) hb hsz).mono fun e w' ⟨k1, d', k2, k3⟩ => ⟨k1, d', hR.trans k2, k3⟩
  piv := fun dk W a b hR h12 hb => by
    obtain ⟨L, rfl⟩ : ∃ L, b = a + L := ⟨b - a, by omega⟩
    exact (pivot_ok g off cap a L len dk W (hR.size.trans hlen) (hR.holds hH) (Nat.lt_of_lt_of_le hg hR.ge) (by omega) hb hsz).mono fun e w' ⟨x, t, k1, k2, k3, k4⟩ => ⟨x, t, k1, k2, k3, hR.trans k4⟩
  part := fun dk W a b pv hR h1 h2 hb => (partition_ok g off cap a b pv len dk W (hR.size.trans hlen) (hR.holds hH) (Nat.lt_of_lt_of_le hg hR.ge) h1 h2 hb hsz).mono fun e w' ⟨m, t, d', k1, k2, k3⟩ => ⟨m, t, d', k1, hR.trans k2, k3⟩
  parte := fun dk W a b pv hR h1 h2 hb => (partEq_ok g off cap a b pv len dk W (hR.size.trans hlen) (hR.holds hH) (Nat.lt_of_lt_of_le hg hR.ge) h1 h2 hb hsz).mono fun e w' ⟨m, d', k1, k2, k3⟩ => ⟨m, d', k1, hR.trans k2, k3⟩
  pins := fun dk W a b hR hab hb hB => (partialIns_ok g off cap a b len dk W (hR.size.trans hlen) (hR.holds hH) (Nat.lt_of_lt_of_le hg hR.ge) hab hb hsz hB).mono fun e w' ⟨t, d', k1, k2, k3⟩ => ⟨t, d', k1, hR.trans k2, k3⟩

abbrev PdqC (n : Nat) : Prop := ∀ (g off cap a b lim len : Nat) (d : Array Nat) (w : World), b - a ≤ n → d.size = len → Holds u32e w g off d → g < w.heap.size → a ≤ b → b ≤ len → len < 4611686018427387904 → lim ≤ 100 → Sort.Below ltN a b d →
    Calls Tryz.prog 90 #[slV g off len cap, .int .i64 (a : Int), .int .i64 (b : Int), .int .i64 (lim : Int)] w fun e w' => e = .returned (.tuple #[]) ∧ ∃ d', RowIs w g off d d' w' ∧ PermIn a b d d' ∧ SortedIn ltN a b d'

set_option maxHeartbeats 1500000 in
set_option maxRecDepth 1000000 in
theorem pdq_step (n : Nat) (ih : ∀ m, m < n → PdqC m) : PdqC n := by
  intro g off cap a b lim len d w hn hlen hH hg hab hb hsz hlim hB
  have HC : Hid (Callees w g off cap len d) := callees w g off cap len d hlen hH hg hsz
  have T0 : Hid (Todo d a b a b d) := Todo.start hab (by omega) hB
  have R0 : Hid (RowIs w g off d d w) := RowIs.start hH hg
  have REC : Hid (∀ (dk : Array Nat) (W : World) (a2 b2 l2 : Nat), RowIs w g off d dk W → a2 ≤ b2 → b2 ≤ len → b2 - a2 < b - a → l2 ≤ 100 → Sort.Below ltN a2 b2 dk → Calls Tryz.prog 90 #[slV g off len cap, .int .i64 (a2 : Int), .int .i64 (b2 : Int), .int .i64 (l2 : Int)] W fun e w' => e = .returned (.tuple #[]) ∧ ∃ d', RowIs w g off d d' w' ∧ PermIn a2 b2 dk d' ∧ SortedIn ltN a2 b2 d') := fun dk W a2 b2 l2 hR h1 h2 h3 h4 h5 =>
    (ih (b2 - a2) (by omega) g off cap a2 b2 l2 len dk W (Nat.le_refl _) (hR.size.trans hlen) (hR.holds hH) (Nat.lt_of_lt_of_le hg hR.ge) h1 h2 hsz h4 h5).mono fun e w' ⟨k1, d', k2, k3⟩ => ⟨k1, d', hR.trans k2, k3⟩
  have HH : Hid (Holds u32e w g off d) := hH
  have HN : Hid (d.size = len) := hlen
  clear ih hH hlen hB hn
  go_enter Tryz.func90, Tryz.ntmps90
  go_wp2
  go_loopw [1, 2, 3, 8, 9] (fun v1 v2 v3 v8 v9 W => ∃ (a' b' l' : Nat) (wb wp : Bool) (dk : Array Nat), v1 = .int .i64 a' ∧ v2 = .int .i64 b' ∧ v3 = .int .i64 l' ∧ v8 = .bool wb ∧ v9 = .bool wp ∧ l' ≤ 100 ∧ Todo d a b a' b' dk ∧ RowIs w g off d dk W) (fun v1 v2 _ _ _ _ => (intOf v2 - intOf v1).toNat)
  case atStart => exact ⟨a, b, lim, true, true, d, rfl, rfl, rfl, rfl, rfl, hlim, T0.out, R0.out⟩
  case round =>
    obtain ⟨a', b', l', wb, wp, dk, rfl, rfl, rfl, rfl, rfl, hl, hT, hR⟩ := hrel
    have hle := hT.le
    have HT : Hid (Todo d a b a' b' dk) := hT
    have HR : Hid (RowIs w g off d dk wr) := hR
    clear hT hR
    by_cases h12 : b' - a' ≤ 12
    · have h12z : (b' : Int) - (a' : Int) ≤ 12 := by omega
      have kc := HC.out.ins dk wr a' b' HR.out (by omega) (by omega)
      go_wp2_with fail
      refine kc.mono ?_
      rintro e w1 ⟨rfl, d', k1, k2, k3⟩
      go_wp2
      try simp only [Exit.inBlock, Exit.then]
      refine bodyPost_ret (results_none rfl _ _ _) rfl ?_
      exact ⟨rfl, d', k1, HT.out.goal d' k2 k3⟩
    · have h12z : ¬ (b' : Int) - (a' : Int) ≤ 12 := by omega
      by_cases hl0 : l' = 0
      · subst hl0
        have kc := HC.out.heap dk wr a' b' HR.out (by omega) (by omega)
        go_wp2_with fail
        refine kc.mono ?_
        rintro e w1 ⟨rfl, d', k1, k2, k3⟩
        go_wp2
        try simp only [Exit.inBlock, Exit.then]
        refine bodyPost_ret (results_none rfl _ _ _) rfl ?_
        exact ⟨rfl, d', k1, HT.out.goal d' k2 k3⟩
      · have hl0z : ((l' : Int) == 0) = false := by simpa using hl0
        go_upto_if 35 with fail
        go_cut [3] from 19 to 133 (fun v3 W => ∃ (l2 : Nat) (dk : Array Nat), v3 = .int .i64 l2 ∧ l2 ≤ 100 ∧ Todo d a b a' b' dk ∧ RowIs w g off d dk W)
        case first =>
          cases wb with
          | true =>
            go_wp2
            go_meet
            case rel => exact ⟨l', dk, rfl, hl, HT.out, HR.out⟩
          | false =>
            have kc := HC.out.brk dk wr a' b' HR.out (by omega) (by omega)
            go_wp2_with fail
            refine kc.mono ?_
            rintro e w1 ⟨rfl, d', k1, k2⟩
            go_wp2
            go_meet
            case rel => exact ⟨l' - 1, d', by congr 1; omega, by omega, HT.out.perm k2, k1⟩
        case rest =>
          clear HT HR hl0z hl0 hl
          obtain ⟨l2, dk, rfl, hl, hT, hR⟩ := hcut
          have HT : Hid (Todo d a b a' b' dk) := hT
          have kc := HC.out.piv dk wc a' b' hR (by omega) (by omega)
          clear hT hR
          go_upto_if 50 with (go_at_call 96; refine kc.mono ?_; rintro e w1 ⟨x, t, rfl, hx1, hx2, hR⟩)
          have HR : Hid (RowIs w g off d dk w1) := hR
          clear hR kc
          go_cut [11, 12] from 19 to 133 (fun v11 v12 W => ∃ (x : Nat) (t : Int) (dk : Array Nat), v11 = .int .i64 x ∧ v12 = .int .i64 t ∧ a' ≤ x ∧ x < b' ∧ Todo d a b a' b' dk ∧ RowIs w g off d dk W)
          case first =>
            by_cases ht : t = 2
            · subst ht
              have kc := HC.out.rev dk w1 a' b' HR.out (by omega) (by omega)
              go_wp2_with fail
              refine kc.mono ?_
              rintro e w2 ⟨rfl, d', k1, k2⟩
              go_wp2
              go_meet
              case rel => exact ⟨b' - 1 - (x - a'), 1, d', by congr 1; omega, rfl, by omega, by omega, HT.out.perm k2, k1⟩
            · have htz : (t == 2) = false := by simpa using ht
              clear ht
              go_wp2
              go_meet
              case rel => exact ⟨x, t, dk, rfl, rfl, hx1, hx2, HT.out, HR.out⟩
          case rest =>
            clear HT HR hx1 hx2
            obtain ⟨x, t, dk, rfl, rfl, hx1, hx2, hT, hR⟩ := hcut
            have HT : Hid (Todo d a b a' b' dk) := hT
            have HR : Hid (RowIs w g off d dk wc) := hR
            clear hT hR
            go_upto_region 15 with fail
            go_cut [68] from 19 to 133 (fun v68 W => ∃ c : Bool, v68 = .bool c ∧ W = wc)
            case first =>
              cases wb with
              | false =>
                go_wp2
                go_meet
                case rel => exact ⟨false, rfl, rfl⟩
              | true =>
                cases wp with
                | false =>
                  go_wp2
                  go_meet
                  case rel => exact ⟨false, rfl, rfl⟩
                | true =>
                  go_wp2
                  go_meet
                  case rel => exact ⟨_, rfl, rfl⟩
            case rest =>
              obtain ⟨c, rfl, hw⟩ := hcut
              subst hw
              go_upto_if 68 with fail
              go_cut [] from 19 to 133 (fun W => ∃ dk : Array Nat, Todo d a b a' b' dk ∧ RowIs w g off d dk W)
              case first =>
                cases c with
                | false =>
                  go_wp2
                  go_meet
                  case rel => exact ⟨dk, HT.out, HR.out⟩
                | true =>
                  have kc := HC.out.pins dk _ a' b' HR.out (by omega) (by omega) HT.out.below
                  go_wp2_with (go_at_call 98; refine kc.mono ?_; rintro e w2 ⟨c2, d', rfl, k1, k2, k3⟩; cases c2)
                  · go_meet
                    case rel => exact ⟨d', HT.out.perm k2, k1⟩
                  · refine bodyPost_ret (results_none rfl _ _ _) rfl ?_
                    exact ⟨rfl, d', k1, HT.out.goal d' k2 (k3 trivial)⟩
              case rest =>
                clear HT HR
                obtain ⟨dk, hT, hR⟩ := hcut
                have HT : Hid (Todo d a b a' b' dk) := hT
                have HR : Hid (RowIs w g off d dk wc) := hR
                have hs : Hid (dk.size = len) := hT.size.trans HN.out
                clear hT hR
                go_upto_region 17 with fail
                go_cut [87] from 19 to 133 (fun v87 W => ∃ c : Bool, v87 = .bool c ∧ (c = true → 0 < a' ∧ ltN dk[a' - 1]! dk[x]! = false) ∧ RowIs w g off d dk W)
                case first =>
                  obtain ⟨G, hG⟩ : ∃ G : Nat → Nat, ∀ t, G t = dk[t]! := ⟨fun t => dk[t]!, fun _ => rfl⟩
                  have cw : ∀ t, t < len → wc.cell? ⟨g, off + t, none⟩ = some (.int .u32 (G t : Int)) := fun t ht => by rw [hG]; exact HR.out.cell HH.out t (by rw [HN.out]; exact ht)
                  have HG : Hid (∀ t, G t = dk[t]!) := hG
                  clear hG
                  by_cases h0 : 0 < a'
                  · have h0z : (0 : Int) < (a' : Int) := by omega
                    go_quiet (first | (go_at_call 99; refine Calls.quiet_of_same (less_u32 _ _ _)))
                    go_wp2
                    go_meet
                    case rel => exact ⟨_, rfl, fun h => ⟨h0, by rw [← HG.out, ← HG.out]; simpa using h⟩, HR.out.drew nq⟩
                  · have h0z : ¬ (0 : Int) < (a' : Int) := by omega
                    go_quiet (first | (go_at_call 99; refine Calls.quiet_of_same (less_u32 _ _ _)))
                    go_wp2
                    go_meet
                    case rel => exact ⟨false, rfl, fun h => (by cases h), HR.out.drew nq⟩
                case rest =>
                  clear HR
                  obtain ⟨c, rfl, hc, hR⟩ := hcut
                  have HC2 : Hid (c = true → 0 < a' ∧ ltN dk[a' - 1]! dk[x]! = false) := hc
                  have HR : Hid (RowIs w g off d dk wc) := hR
                  clear hc hR
                  cases c with
                  | true =>
                    have kc := HC.out.parte dk wc a' b' x HR.out hx1 hx2 (by omega)
                    go_wp2_with (go_at_call 100; refine kc.mono ?_; rintro e w2 ⟨mid, d', rfl, k1, k2, k3, k4, k5, k6⟩)
                    have hh := HC2.out trivial
                    have T2 : Hid (Todo d a b mid b' d') := HT.out.eq k2 hh.1 hh.2 k3 k4 k5 k6
                    go_roundw
                    case rel => exact ⟨mid, b', l2, wb, wp, d', rfl, rfl, rfl, rfl, rfl, hl, T2.out, k1⟩
                    case measure => (simp [intOf]; omega)
                  | false =>
                    have kc := HC.out.part dk wc a' b' x HR.out hx1 hx2 (by omega)
                    go_upto_if 113 with (go_at_call 101; refine kc.mono ?_; rintro e w2 ⟨mid, tt, d', rfl, k1, k2, k3, k4, k5, k6⟩)
                    have hcl := HT.out.cells k2 k3 k4 k6
                    have TL : Hid (∀ L, PermIn a' mid d' L → SortedIn ltN a' mid L → Todo d a b (mid + 1) b' L) := fun L q1 q2 => HT.out.left k2 k3 k4 k5 k6 q1 q2
                    have TR : Hid (∀ L, PermIn (mid + 1) b' d' L → SortedIn ltN (mid + 1) b' L → Todo d a b a' mid L) := fun L q1 q2 => HT.out.right k2 k3 k4 k5 k6 q1 q2
                    have RL := REC.out d' w2 a' mid l2 k1 k3 (by omega) (by omega) hl hcl.1
                    have RR := REC.out d' w2 (mid + 1) b' l2 k1 (by omega) (by omega) (by omega) hl hcl.2
                    rw [show ((mid + 1 : Nat) : Int) = (mid : Int) + 1 by omega] at RR
                    clear kc k1 k2 k5 k6 hcl HC2 HR HT
                    by_cases hlr : mid - a' < b' - mid
                    · have hlrz : (mid : Int) - (a' : Int) < (b' : Int) - (mid : Int) := by omega
                      clear RR
                      go_wp2_with (go_at_call 90; refine RL.mono ?_; rintro e w3 ⟨rfl, d3, q1, q2, q3⟩)
                      have T2 : Hid (Todo d a b (mid + 1) b' d3) := TL.out d3 q2 q3
                      go_roundw
                      case rel => exact ⟨mid + 1, b', l2, _, tt, d3, by go_num, rfl, rfl, rfl, rfl, hl, T2.out, q1⟩
                      case measure => (simp [intOf]; omega)
                    · have hlrz : ¬ (mid : Int) - (a' : Int) < (b' : Int) - (mid : Int) := by omega
                      clear RL
                      go_wp2_with (go_at_call 90; refine RR.mono ?_; rintro e w3 ⟨rfl, d3, q1, q2, q3⟩)
                      have T2 : Hid (Todo d a b a' mid d3) := TR.out d3 q2 q3
                      go_roundw
                      case rel => exact ⟨a', mid, l2, _, tt, d3, rfl, rfl, rfl, rfl, rfl, hl, T2.out, q1⟩
                      case measure => (simp [intOf]; omega)
theorem pdq_ok (n : Nat) : PdqC n := by
  induction n using Nat.strongRecOn with
  | _ n ih => exact pdq_step n ih
end Go.Proofs.YtboinccdnaddmaaGreatDoor
