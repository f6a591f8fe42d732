/- The walks of a book's lists of ids. -/
import Derived.Test.YtboinccdnaddmaaGreatDoorIBkU
import Derived.Deep.QuietTactic
import Derived.BigQuiet
set_option linter.unusedSimpArgs false
set_option linter.unusedVariables false
namespace Go.Proofs.YtboinccdnaddmaaGreatDoor
open Go.RowKit

theorem wp_region_class {P : Program} {C : World → Prop} {id : Nat} {Q : Exit → Act → World → Prop} {a : Act} {w : World} {l : List Oper} (hm : P.follows .mixedOrders = true) (hB : Region.lexB .any l.toArray = true) (hC : C w.drew)
    (h : wpQuiet P l.toArray C (fun a' => ∀ w', C w' → Q .normal a' w') l a) : (Code.region id l.toArray true).wp P Q a w :=
  wp_region_quiet (C := C) hm hB hC (by simpa using h)
theorem block_cell {w : World} {R : Nat} {arr : Array Value} {t : TypeId} (h : w.heap[R]? = some (.cells arr t (0, 0))) (i : Nat) (u : Value) (hu : arr[i]? = some u) : w.cell? ⟨R, i, none⟩ = some u := by simp [World.cell?, h, hu]
theorem below_drewN' {B : Nat} {a w : World} (h : Below B a w) (n : Nat) : Below B a (w.drewN n) := h.trans ⟨rfl, rfl, rfl, Nat.le_refl _, fun _ _ => rfl⟩
theorem slp_parts {p : Nat → Prop} {s : Nat} {mk : Nat → List Value} {w : World} {v : Value} {q n : Nat} (h : SlP p s mk w v (List.replicate q n)) : ∃ ao cap, v = .slice ao q cap ∧ q ≤ cap ∧ cap ≤ maxLen ∧ ∀ k, k < q → ∃ b off, ao = some ⟨b, off, none⟩ ∧ b < w.heap.size ∧ ∀ j u, (mk n)[j]? = some u → w.cell? ⟨b, off + k * s + j, none⟩ = some u := by
  obtain ⟨ao, cap, e1, h2, h3, h4⟩ := h
  rw [List.length_replicate] at e1 h2
  refine ⟨ao, cap, e1, h2, h3, fun k hk => ?_⟩
  obtain ⟨b, off, e, -, hb, hc⟩ := h4 (by rw [List.length_replicate]; omega)
  refine ⟨b, off, e, hb, fun j u hu => ?_⟩
  have := hc k (by rw [List.length_replicate]; exact hk) j u (by rw [List.getElem_replicate]; exact hu)
  exact this

set_option maxHeartbeats 1000000 in
set_option maxRecDepth 1000000 in
theorem isId_any (w : World) (n : Nat) (hn : n ≤ 1000000000) :
    Calls Tryz.prog 78 #[.int .u32 (1000 + (n : Int)), .int .i64 (n : Int)] w fun e w' => e = .returned (.bool true) ∧ w' = w := by
  go_enter Tryz.func78, Tryz.ntmps78
  go_wp2
  go_ret
  exact ⟨rfl, rfl⟩

set_option maxHeartbeats 2000000 in
set_option maxRecDepth 1000000 in
theorem lookId_any (w : World) (bk top : Nat) (v : Value) (E : List Ent) (hb : w.cell? ⟨bk, 2, none⟩ = some v) (hbk : bk < w.heap.size) (h : GAt top w 81 1 mkId v E) :
    Calls Tryz.prog 49 #[ptr bk] w fun e w' => e = .returned (.bool true) ∧ Below w.heap.size w w' := by
  have hfew := h.few
  obtain ⟨ao, cap, rfl, hc1, hc2⟩ := own_len' h.held
  unfold maxLen at hc2
  go_enter Tryz.func49, Tryz.ntmps49
  go_wp2
  go_loopw [3] (fun i wr => ∃ k : Nat, k ≤ E.length ∧ i = .int .i64 k ∧ Below w.heap.size w wr) (fun i _ => E.length - (intOf i).toNat)
  case atStart => exact ⟨0, by omega, rfl, Below.refl _ _⟩
  case round =>
    obtain ⟨k, hk, rfl, hB⟩ := hrel
    have hb1 : wr.cell? ⟨bk, 2, none⟩ = some (.slice ao E.length cap) := (hB.cell (p := ⟨bk, 2, none⟩) hbk).trans hb
    by_cases h1 : k < E.length
    · obtain ⟨x, hx⟩ : ∃ x, E[k]? = some x := ⟨E[k]'h1, by simp [h1]⟩
      obtain ⟨hdone, hLn, hN⟩ := h.done x (List.mem_of_getElem? hx)
      obtain ⟨g, cap', e1, -, -, c0, c1, c2, -⟩ := held_cell h.held hx
      simp only [Value.slice.injEq, true_and] at e1
      obtain ⟨rfl, rfl⟩ := e1
      obtain ⟨al, cl, el, hl1, hl2, hlc⟩ := slp_parts hdone.1
      obtain ⟨am, cm, em, hm1, hm2, hmc⟩ := slp_parts hdone.2
      rw [el] at c0
      rw [em] at c1
      unfold maxLen at hl2 hm2
      have hgs : g < w.heap.size := (h.held.lt g rfl).2
      rw [← hB.cell (p := ⟨g, k * 3, none⟩) hgs] at c0
      rw [← hB.cell (p := ⟨g, k * 3 + 1, none⟩) hgs] at c1
      rw [← hB.cell (p := ⟨g, k * 3 + 2, none⟩) hgs] at c2
      have i1 : (k : Int) < (E.length : Int) := by omega
      have hz := hB.size
      obtain ⟨wO, hO⟩ : ∃ x, x = wr := ⟨_, rfl⟩
      subst hO
      go_wp2
      go_loopw [5] (fun j wq => ∃ q : Nat, q ≤ x.len + 40 ∧ j = .int .i64 q ∧ Below w.heap.size w wq ∧ wO.heap.size < wq.heap.size ∧ wq.heap[wO.heap.size]? = some (.cells #[.slice al x.len cl, .slice am (x.len + 40) cm, .int .i64 (x.n : Int)] 81 (0, 0))) (fun j _ => x.len + 40 - (intOf j).toNat)
      case atStart => exact ⟨0, by omega, rfl, hB.trans (((Below.refl _ _).alloc (Nat.le_refl _) _).mono hz), by simp, heap_alloc_new wO _⟩
      case round =>
        clear c0 c1 c2 hb1 hB
        obtain ⟨q, hq, rfl, hB, hzq, hH⟩ := hrel
        obtain ⟨d0, d1, d2⟩ := triple_cell hH
        by_cases hq1 : q < x.len + 40
        · obtain ⟨b1, o1, rfl, hb1, hcell1⟩ := hmc q hq1
          have e0 := (hB.cell (p := ⟨b1, _, none⟩) hb1).trans (hcell1 0 _ rfl)
          simp only [Nat.mul_one, Nat.add_zero] at e0
          have i2 : (q : Int) < (x.len : Int) + 40 := by omega
          have kis := fun W => isId_any W x.n hN
          by_cases hq2 : q < x.len
          · obtain ⟨b2, o2, rfl, hb2, hcell2⟩ := hlc q hq2
            have e2 := (hB.cell (p := ⟨b2, _, none⟩) hb2).trans (hcell2 0 _ rfl)
            simp only [Nat.mul_one, Nat.add_zero] at e2
            have i3 : (q : Int) < (x.len : Int) := by omega
            clear hcell1 hcell2 hlc hmc
            go_wp2
            go_quiet (first | (go_at_call 78; refine Calls.quiet_of_same (kis _)))
            go_wp2
            go_roundw
            case rel => exact ⟨q + 1, by omega, by go_num, below_drewN' hB _, hzq, hH⟩
            case measure => simp [intOf]; omega
          · have i3 : decide ((q : Int) < (x.len : Int)) = false := by simp; omega
            clear hcell1 hlc hmc
            go_wp2
            go_quiet (first | (go_at_call 78; refine Calls.quiet_of_same (kis _)))
            go_wp2
            go_roundw
            case rel => exact ⟨q + 1, by omega, by go_num, below_drewN' hB _, hzq, hH⟩
            case measure => simp [intOf]; omega
        · obtain rfl : q = x.len + 40 := by omega
          have i2 : ¬ (((x.len + 40 : Nat) : Int) < (x.len : Int) + 40) := by omega
          clear hlc hmc
          go_wp2
          go_roundw
          case rel => exact ⟨k + 1, by omega, by go_num, hB⟩
          case measure => simp [intOf]; omega
    · obtain rfl : k = E.length := by omega
      go_wp2
      go_ret
      exact ⟨rfl, hB⟩
end Go.Proofs.YtboinccdnaddmaaGreatDoor
