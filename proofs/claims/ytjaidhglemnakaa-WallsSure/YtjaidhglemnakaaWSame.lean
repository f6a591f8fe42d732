/- Logs with the records that stand on their disks: what each call leaves; Whether two lists of records are the same; how much a list of records has in it. -/
import Derived.Test.YtjaidhglemnakaaWOpen
import Derived.Test.YtjaidhglemnakaaWAdd
import Derived.Test.YtjaidhglemnakaaWDisk
import Derived.Test.YtjaidhglemnakaaGSame
set_option linter.unusedSimpArgs false
set_option linter.unusedVariables false
namespace Go.Proofs.Ytjaidhglemnakaa
open Go.RowKit Go.Maps

/-- A log at L on the disk d at B, on which the records Rs stand; all lies from block 'base' on. -/
structure LS (base : Nat) (w : World) (L B : Nat) (d : Dk) (Rs : List (List UInt8)) : Prop where
  at_ : ∃ S, LgAt w L B S d (span Rs) ∧ base ≤ L ∧ ∀ x ∈ S, base ≤ x
  clean : Clean d Rs
theorem LS.own {base : Nat} {w : World} {L B : Nat} {d : Dk} {Rs : List (List UInt8)} (h : LS base w L B d Rs) : Own base w B d := by
  obtain ⟨S, h1, -, h3⟩ := h.at_
  exact ⟨S, h1.dk, h3⟩
theorem LS.below {base : Nat} {w w' : World} {L B : Nat} {d : Dk} {Rs : List (List UInt8)} (h : LS base w L B d Rs) (hb : Below w.heap.size w w') : LS base w' L B d Rs := by
  obtain ⟨S, h1, h2, h3⟩ := h.at_
  exact ⟨⟨S, h1.below hb, h2, h3⟩, h.clean⟩
theorem own_weak {base base' : Nat} {w : World} {B : Nat} {d : Dk} (h : Own base w B d) (hb : base' ≤ base) : Own base' w B d := by
  obtain ⟨S, h1, h2⟩ := h
  exact ⟨S, h1, fun x hx => Nat.le_trans hb (h2 x hx)⟩
theorem chg_base {base : Nat} {S : List Nat} {w w' : World} (hc : Chg S w w') (hS : ∀ x ∈ S, base ≤ x) (hb : base ≤ w.heap.size) : Below base w w' := hc.belowOf hS hb
theorem ls_open {base : Nat} {w : World} {B : Nat} {d : Dk} (h : Own base w B d) (hb : base ≤ w.heap.size) (hw : d.ws.length ≤ 800000) : Calls Try.prog 11 #[.pointer (some ⟨B, 0, none⟩)] w fun e w' =>
    ∃ L v X, e = .returned (.tuple #[.pointer (some ⟨L, 0, none⟩), v, .int .i64 0]) ∧ LS base w' L B d.opened (recs d.all) ∧ RcOwn w' w.heap.size v X ∧ X.map (·.2) = recs d.all ∧ Below base w w' ∧ OChg (KT true lT) w w' := by
  obtain ⟨S, h1, h2⟩ := h
  have hok := h1.ok
  refine (open_ok h1 hw).mono ?_
  rintro e w' ⟨L, v, X, S', rfl, k1, k2, k3, k4, k5, k6⟩
  exact ⟨L, v, X, rfl, ⟨⟨S', k2, Nat.le_trans hb k1, fun x hx => (k6 x hx).elim (h2 x) (fun h => Nat.le_trans hb h)⟩, Dk.opened_clean hok⟩, k3, k4, chg_base k5 h2 hb, (h1.och k5).mono (fun o => dT_lT)⟩
theorem ls_add {base : Nat} {w : World} {L B : Nat} {d : Dk} {Rs : List (List UInt8)} (h : LS base w L B d Rs) (hb : base ≤ w.heap.size) (v : Value) (r : List UInt8) (hv : InAt w w.heap.size v r) (hr : r.length ≤ 16384) (hn : span Rs + secs r.length ≤ d.sure.length) (hw : d.ws.length ≤ 900000) :
    Calls Try.prog 8 #[.pointer (some ⟨L, 0, none⟩), v] w fun e w' =>
      e = .returned (.int .i64 0) ∧ LS base w' L B (d.added (span Rs) r) (Rs ++ [r]) ∧ Below base w w' ∧ OChg (KT true lT) w w' := by
  obtain ⟨S, h1, h2, h3⟩ := h.at_
  refine (add_ok h1 v r hv hr hn hw).mono ?_
  rintro e w' ⟨rfl, S', k1, k2, k3⟩
  refine ⟨rfl, ⟨⟨S', by rw [span_snoc]; exact k1, h2, fun x hx => (k3 x hx).elim (h3 x) (fun h => Nat.le_trans hb h)⟩, h.clean.add hr hn⟩, chg_base k2 (fun x hx => ?_) hb, h1.och k2⟩
  rcases List.mem_cons.1 hx with rfl | hx
  · exact h2
  · exact h3 x hx
theorem ls_full {base : Nat} {w : World} {L B : Nat} {d : Dk} {Rs : List (List UInt8)} (h : LS base w L B d Rs) (v : Value) (r : List UInt8) (hv : InAt w w.heap.size v r) (hr : r.length ≤ 16384) (hf : ¬ span Rs + secs r.length ≤ d.sure.length) :
    Calls Try.prog 8 #[.pointer (some ⟨L, 0, none⟩), v] w fun e w' => e = .returned (.int .i64 5) ∧ Below w.heap.size w w' := by
  obtain ⟨S, h1, h2, h3⟩ := h.at_
  exact add_full h1 v r hv hr h.clean.fits hf
theorem ls_big {base : Nat} {w : World} {L B : Nat} {d : Dk} {Rs : List (List UInt8)} (h : LS base w L B d Rs) (v : Value) (r : List UInt8) (hv : InAt w w.heap.size v r) (hr : 16384 < r.length) :
    Calls Try.prog 8 #[.pointer (some ⟨L, 0, none⟩), v] w fun e w' => e = .returned (.int .i64 3) ∧ w = w' := by
  obtain ⟨S, h1, h2, h3⟩ := h.at_
  exact add_big h1 v r hv hr
theorem ls_force {base : Nat} {w : World} {L B : Nat} {d : Dk} {Rs : List (List UInt8)} (h : LS base w L B d Rs) (hb : base ≤ w.heap.size) :
    Calls Try.prog 9 #[.pointer (some ⟨L, 0, none⟩)] w fun e w' => e = .returned (.int .i64 0) ∧ LS base w' L B d.sync Rs ∧ Below base w w' ∧ OChg (KT true lT) w w' := by
  obtain ⟨S, h1, h2, h3⟩ := h.at_
  refine (force_ok h1).mono ?_
  rintro e w' ⟨rfl, S', k1, k2, k3⟩
  exact ⟨rfl, ⟨⟨S', k1, h2, fun x hx => (k3 x hx).elim (h3 x) (fun h => Nat.le_trans hb h)⟩, h.clean.sync⟩, chg_base k2 h3 hb, (h1.dk.och k2).mono (fun o => dT_lT)⟩
theorem ls_room {base : Nat} {w : World} {L B : Nat} {d : Dk} {Rs : List (List UInt8)} (h : LS base w L B d Rs) (k : Nat) (hk : k ≤ 16384) :
    Calls Try.prog 10 #[.pointer (some ⟨L, 0, none⟩), .int .i64 (k : Int)] w fun e w' => e = .returned (.bool (decide (span Rs + secs k ≤ d.sure.length))) ∧ Below w.heap.size w w' := by
  obtain ⟨S, h1, h2, h3⟩ := h.at_
  exact room_in h1 h.clean.fits k hk
theorem ls_noroom {base : Nat} {w : World} {L B : Nat} {d : Dk} {Rs : List (List UInt8)} (h : LS base w L B d Rs) (k : Int) (hk : k < 0 ∨ 16384 < k) :
    Calls Try.prog 10 #[.pointer (some ⟨L, 0, none⟩), .int .i64 k] w fun e w' => e = .returned (.bool false) ∧ w = w' := by
  obtain ⟨S, h1, h2, h3⟩ := h.at_
  exact room_out h1 k hk
/-- A list of byte lists in memory. -/
def recCell (x : Value × List UInt8) : List Value := [x.1]
structure RcIn (w : World) (lim : Nat) (v : Value) (l : List (Value × List UInt8)) : Prop where
  sl : SlAt 1 recCell w lim v l
  els : ∀ x ∈ l, InAt w lim x.1 x.2
theorem RcIn.below {w w' : World} {lim B : Nat} {v : Value} {l : List (Value × List UInt8)} (h : RcIn w lim v l) (hb : Below B w w') (hB : lim ≤ B) : RcIn w' lim v l :=
  ⟨h.sl.below hb hB, fun x hx => SlAt.below (h.els x hx) hb hB⟩
theorem RcIn.mono {w : World} {lim lim' : Nat} {v : Value} {l : List (Value × List UInt8)} (h : RcIn w lim v l) (hB : lim ≤ lim') : RcIn w lim' v l :=
  ⟨h.sl.mono hB, fun x hx => SlAt.mono (h.els x hx) hB⟩
def recP (x : Rec) : Value × List UInt8 := (recV x, x.2)
theorem RcOwn.in {w : World} {base : Nat} {v : Value} {X : List Rec} (h : RcOwn w base v X) : RcIn w w.heap.size v (X.map recP) := by
  refine ⟨?_, fun x hx => ?_⟩
  · have hr := h.row
    have e : X.map recV = (X.map recP).flatMap recCell := by
      clear h hr
      induction X with
      | nil => rfl
      | cons x X ih => rw [List.map_cons, List.map_cons, List.flatMap_cons, ih]; rfl
    rw [e, show X.length = (X.map recP).length by simp] at hr
    exact sl_own (fun _ => rfl) hr
  · obtain ⟨y, hy, rfl⟩ := List.mem_map.1 hx
    exact (h.els y hy).in
end Go.Proofs.Ytjaidhglemnakaa
namespace Go.Proofs.Ytjaidhglemnakaa
open Go.RowKit

theorem rc_cell {w : World} {lim n c : Nat} {ao : Option Addr} {l : List (Value × List UInt8)} (h : RcIn w lim (.slice ao n c) l) {k : Nat} (hk : k < l.length) : ∃ b off u, ao = some ⟨b, off, none⟩ ∧ b < lim ∧ w.cell? ⟨b, off + k, none⟩ = some u ∧ InAt w lim u (l[k]'hk).2 ∧ u = (l[k]'hk).1 := by
  obtain ⟨ao', c', e, h1, h2, h3⟩ := h.sl
  cases e
  obtain ⟨b, off, rfl, hb, hc⟩ := h3 (by omega)
  have := hc k hk 0 _ rfl
  rw [Nat.mul_one, Nat.add_zero] at this
  exact ⟨b, off, _, rfl, hb, this, h.els _ (List.getElem_mem hk), rfl⟩
theorem rc_len {w : World} {lim : Nat} {v : Value} {l : List (Value × List UInt8)} (h : RcIn w lim v l) : ∃ ao c, v = .slice ao l.length c ∧ l.length ≤ c ∧ c ≤ maxLen := by
  obtain ⟨ao, c, rfl, h1, h2, -⟩ := h.sl
  exact ⟨ao, c, rfl, h1, h2⟩
theorem in_slice {w : World} {lim : Nat} {v : Value} {l : List UInt8} (h : InAt w lim v l) : ∃ ao c, v = .slice ao l.length c := by
  obtain ⟨ao, c, rfl, -⟩ := h
  exact ⟨ao, c, rfl⟩
set_option maxHeartbeats 2000000 in
set_option maxRecDepth 1000000 in
theorem sameRecs_any (w : World) (la lb : Nat) (va vb : Value) (l m : List (Value × List UInt8)) (ha : RcIn w la va l) (hb : RcIn w lb vb m) (he : l.map (·.2) = m.map (·.2)) :
    Calls Try.prog 16 #[va, vb] w fun e w' => e = .returned (.bool true) ∧ ∃ n, w' = w.drewN n := by
  have hlen : l.length = m.length := by have := congrArg List.length he; simpa using this
  obtain ⟨ao, ca, rfl, ha1, ha2⟩ := rc_len ha
  obtain ⟨bo, cb, rfl, hb1, hb2⟩ := rc_len hb
  unfold maxLen at ha2 hb2
  rw [← hlen] at hb hb1 ⊢
  have hlH : Hid (l.length = m.length) := hlen
  have heH : Hid (l.map (·.2) = m.map (·.2)) := he
  clear hlen he
  go_enter Try.func16, Try.ntmps16
  go_wp2
  go_loopw [5] (fun i wr => ∃ k n : Nat, k ≤ l.length ∧ i = .int .i64 k ∧ wr = w.drewN n) (fun i _ => l.length - (intOf i).toNat)
  case atStart => exact ⟨0, 0, by omega, rfl, rfl⟩
  case round =>
    obtain ⟨k, n, hk, rfl, hwr⟩ := hrel
    by_cases h1 : k < l.length
    · have ha' : RcIn wr la (.slice ao l.length ca) l := by rw [hwr]; exact ⟨ha.sl.kept (fun _ _ => rfl), fun x hx => SlAt.kept (ha.els x hx) (fun _ _ => rfl)⟩
      have hb' : RcIn wr lb (.slice bo l.length cb) m := by rw [hwr]; exact ⟨hb.sl.kept (fun _ _ => rfl), fun x hx => SlAt.kept (hb.els x hx) (fun _ _ => rfl)⟩
      obtain ⟨b1, o1, u1, rfl, hl1, p0, f1, -⟩ := rc_cell ha' h1
      obtain ⟨b2, o2, u2, rfl, hl2, q0, f2, -⟩ := rc_cell hb' (by rw [← hlH.out]; exact h1)
      have hee : (l[k]'h1).2 = (m[k]'(by rw [← hlH.out]; exact h1)).2 := by
        have := congrArg (fun x => x[k]?) heH.out
        have h1' : k < m.length := by rw [← hlH.out]; exact h1
        simpa [h1, h1'] using this
      rw [← hee] at f2
      have kS : ∀ j, Calls Try.prog 17 #[u1, u2] (wr.drewN j) fun e w' => e = .returned (.bool true) ∧ ∃ m', w' = (wr.drewN j).drewN m' := fun j => sameBytes_any (wr.drewN j) _ _ _ _ _ (SlAt.kept f1 (fun _ _ => rfl)) (SlAt.kept f2 (fun _ _ => rfl))
      obtain ⟨x1, y1, rfl⟩ := in_slice f1
      obtain ⟨x2, y2, rfl⟩ := in_slice f2
      have i1 : (k : Int) < (l.length : Int) := by omega
      have hwH : Hid (wr = w.drewN n) := hwr
      generalize (l[k]'h1).2.length = z1 at *
      clear hwr ha' hb' hee f1 f2 ha hb heH hlH
      go_wp2
      go_quiet (first | (go_at_call 17; refine Calls.quiet_of (kS _)))
      go_wp2
      go_roundw
      case rel => exact ⟨k + 1, _, by omega, by go_num, by rw [hwH.out, World.drewN_drewN]⟩
      case measure => simp [intOf]; omega
    · subst hwr
      clear ha hb
      go_wp2
      go_ret
      exact ⟨rfl, n, rfl⟩
/-- How many bytes and records. -/
def weigh (l : List (Value × List UInt8)) : Nat := l.length + (l.map (·.2.length)).sum
theorem weigh_take (l : List (Value × List UInt8)) (k : Nat) : l.length + ((l.take k).map (·.2.length)).sum ≤ weigh l := by
  have h : (l.map (·.2.length)).sum = ((l.take k).map (·.2.length)).sum + ((l.drop k).map (·.2.length)).sum := by rw [← List.sum_append, ← List.map_append, List.take_append_drop]
  unfold weigh
  omega
set_option maxHeartbeats 2000000 in
set_option maxRecDepth 1000000 in
theorem recsSize_any (w : World) (la : Nat) (va : Value) (l : List (Value × List UInt8)) (ha : RcIn w la va l) (hl : l.length ≤ 140737488351232) (hs : ∀ x ∈ l, x.2.length ≤ 140737488351232) :
    Calls Try.prog 13 #[va] w fun e w' => (∃ z : Int, e = .returned (.int .i64 z) ∧ (z ≤ 1048576 → z = (weigh l : Int)) ∧ (1048576 < z → (1048576 : Int) < (weigh l : Int))) ∧ w = w' := by
  obtain ⟨ao, ca, rfl, ha1, ha2⟩ := rc_len ha
  unfold maxLen at ha2
  have hsum : ∀ k, k < l.length → ∀ (hk : k < l.length), ((l.take (k + 1)).map (·.2.length)).sum = ((l.take k).map (·.2.length)).sum + (l[k]'hk).2.length := fun k hk _ => by
    rw [List.take_succ_eq_append_getElem hk, List.map_append, List.sum_append]
    simp only [List.map_cons, List.map_nil, List.sum_cons, List.sum_nil, Nat.add_zero]
  go_enter Try.func13, Try.ntmps13
  go_wp2
  go_loopw [3, 4] (fun s i wr => ∃ (k : Nat) (z : Int), k ≤ l.length ∧ i = .int .i64 k ∧ s = .int .i64 z ∧ 0 ≤ z ∧ z ≤ 281474976710656 ∧ z = ((l.length + ((l.take k).map (·.2.length)).sum : Nat) : Int) ∧ w = wr) (fun _ i _ => l.length - (intOf i).toNat)
  case atStart => exact ⟨0, l.length, by omega, rfl, rfl, by omega, by omega, by simp, rfl⟩
  case round =>
    obtain ⟨k, z, hk, rfl, rfl, hz0, hz1, hz, rfl⟩ := hrel
    by_cases h1 : k < l.length
    · by_cases h2 : z ≤ 1048576
      · obtain ⟨b1, o1, u1, rfl, hl1, p0, f1, hu1⟩ := rc_cell ha h1
        have hlx := hs _ (List.getElem_mem h1)
        have hsk := hsum k h1 h1
        obtain ⟨x1, y1, e1⟩ := in_slice f1
        obtain ⟨q, hq⟩ : ∃ q, q = (l[k]'h1).2.length := ⟨_, rfl⟩
        rw [← hq] at hsk hlx e1
        clear hq
        have kB : ∀ W : World, Calls Try.prog 29 #[.slice x1 q y1] W fun e w' => e = .returned (.int .i64 (q : Int)) ∧ W = w' := fun W => by
          go_enter Try.func29, Try.ntmps29
          go_wp2
          go_ret
          exact ⟨rfl, rfl⟩
        subst e1
        have i1 : (k : Int) < (l.length : Int) := by omega
        have hz' : z + (q : Int) = ((l.length + ((l.take (k + 1)).map (·.2.length)).sum : Nat) : Int) := by rw [hsk, hz]; push_cast; omega
        have hzH : Hid (z + (q : Int) = ((l.length + ((l.take (k + 1)).map (·.2.length)).sum : Nat) : Int)) := hz'
        clear hz hz' hsk f1 hu1 ha hs hsum
        go_wp2_with (go_at_call 29; refine (kB _).mono ?_; rintro e w' ⟨rfl, rfl⟩)
        go_roundw
        case rel => exact ⟨k + 1, z + (q : Int), by omega, by go_num, rfl, by omega, by omega, hzH.out, trivial⟩
        case measure => simp [intOf]; omega
      · have hzH : Hid (z = ((l.length + ((l.take k).map (·.2.length)).sum : Nat) : Int)) := hz
        clear hz ha hs hsum
        go_wp2
        go_ret
        have hle := weigh_take l k
        rw [hzH.out] at *
        exact ⟨⟨_, rfl, fun h => absurd h (by omega), fun h => by omega⟩, rfl⟩
    · have hz' : z = (weigh l : Int) := by rw [hz, List.take_of_length_le (by omega)]; rfl
      have hzH : Hid (z = (weigh l : Int)) := hz'
      clear hz hz' ha hs hsum
      go_wp2
      go_ret
      exact ⟨⟨z, rfl, fun _ => hzH.out, fun h => by have := hzH.out; omega⟩, rfl⟩
end Go.Proofs.Ytjaidhglemnakaa
