/- Logs with the records that stand on their disks: what each call leaves. -/
import Derived.Test.YtjaidhglemnakaaWOpen
import Derived.Test.YtjaidhglemnakaaWAdd
import Derived.Test.YtjaidhglemnakaaWDisk
set_option linter.unusedSimpArgs false
set_option linter.unusedVariables false
namespace Go.Proofs.Ytjaidhglemnakaa
open Go.RowKit Go.Maps

/-- A log at L on the disk d at B, on which the records Rs stand; all lies from block 'base' on. -/
structure LS (base : Nat) (w : World) (L B : Nat) (d : Dk) (Rs : List (List UInt8)) : Prop where
  at_ : ∃ S, LgAt w L B S d (span Rs) ∧ base ≤ L ∧ ∀ x ∈ S, base ≤ x
  clean : Clean d Rs
theorem LS.own {base : Nat} {w : World} {L B : Nat} {d : Dk} {Rs : List (List UInt8)} (h : LS base w L B d Rs) : Own base w B d := by
  obtain ⟨S, h1, -, h3⟩ := h.at_
  exact ⟨S, h1.dk, h3⟩
theorem LS.below {base : Nat} {w w' : World} {L B : Nat} {d : Dk} {Rs : List (List UInt8)} (h : LS base w L B d Rs) (hb : Below w.heap.size w w') : LS base w' L B d Rs := by
  obtain ⟨S, h1, h2, h3⟩ := h.at_
  exact ⟨⟨S, h1.below hb, h2, h3⟩, h.clean⟩
theorem own_weak {base base' : Nat} {w : World} {B : Nat} {d : Dk} (h : Own base w B d) (hb : base' ≤ base) : Own base' w B d := by
  obtain ⟨S, h1, h2⟩ := h
  exact ⟨S, h1, fun x hx => Nat.le_trans hb (h2 x hx)⟩
theorem chg_base {base : Nat} {S : List Nat} {w w' : World} (hc : Chg S w w') (hS : ∀ x ∈ S, base ≤ x) (hb : base ≤ w.heap.size) : Below base w w' := hc.belowOf hS hb
theorem ls_open {base : Nat} {w : World} {B : Nat} {d : Dk} (h : Own base w B d) (hb : base ≤ w.heap.size) (hw : d.ws.length ≤ 800000) : Calls Try.prog 11 #[.pointer (some ⟨B, 0, none⟩)] w fun e w' =>
    ∃ L v X, e = .returned (.tuple #[.pointer (some ⟨L, 0, none⟩), v, .int .i64 0]) ∧ LS base w' L B d.opened (recs d.all) ∧ RcOwn w' w.heap.size v X ∧ X.map (·.2) = recs d.all ∧ Below base w w' ∧ OChg (KT true lT) w w' := by
  obtain ⟨S, h1, h2⟩ := h
  have hok := h1.ok
  refine (open_ok h1 hw).mono ?_
  rintro e w' ⟨L, v, X, S', rfl, k1, k2, k3, k4, k5, k6⟩
  exact ⟨L, v, X, rfl, ⟨⟨S', k2, Nat.le_trans hb k1, fun x hx => (k6 x hx).elim (h2 x) (fun h => Nat.le_trans hb h)⟩, Dk.opened_clean hok⟩, k3, k4, chg_base k5 h2 hb, (h1.och k5).mono (fun o => dT_lT)⟩
theorem ls_add {base : Nat} {w : World} {L B : Nat} {d : Dk} {Rs : List (List UInt8)} (h : LS base w L B d Rs) (hb : base ≤ w.heap.size) (v : Value) (r : List UInt8) (hv : InAt w w.heap.size v r) (hr : r.length ≤ 16384) (hn : span Rs + secs r.length ≤ d.sure.length) (hw : d.ws.length ≤ 900000) :
    Calls Try.prog 8 #[.pointer (some ⟨L, 0, none⟩), v] w fun e w' =>
      e = .returned (.int .i64 0) ∧ LS base w' L B (d.added (span Rs) r) (Rs ++ [r]) ∧ Below base w w' ∧ OChg (KT true lT) w w' := by
  obtain ⟨S, h1, h2, h3⟩ := h.at_
  refine (add_ok h1 v r hv hr hn hw).mono ?_
  rintro e w' ⟨rfl, S', k1, k2, k3⟩
  refine ⟨rfl, ⟨⟨S', by rw [span_snoc]; exact k1, h2, fun x hx => (k3 x hx).elim (h3 x) (fun h => Nat.le_trans hb h)⟩, h.clean.add hr hn⟩, chg_base k2 (fun x hx => ?_) hb, h1.och k2⟩
  rcases List.mem_cons.1 hx with rfl | hx
  · exact h2
  · exact h3 x hx
theorem ls_full {base : Nat} {w : World} {L B : Nat} {d : Dk} {Rs : List (List UInt8)} (h : LS base w L B d Rs) (v : Value) (r : List UInt8) (hv : InAt w w.heap.size v r) (hr : r.length ≤ 16384) (hf : ¬ span Rs + secs r.length ≤ d.sure.length) :
    Calls Try.prog 8 #[.pointer (some ⟨L, 0, none⟩), v] w fun e w' => e = .returned (.int .i64 5) ∧ Below w.heap.size w w' := by
  obtain ⟨S, h1, h2, h3⟩ := h.at_
  exact add_full h1 v r hv hr h.clean.fits hf
theorem ls_big {base : Nat} {w : World} {L B : Nat} {d : Dk} {Rs : List (List UInt8)} (h : LS base w L B d Rs) (v : Value) (r : List UInt8) (hv : InAt w w.heap.size v r) (hr : 16384 < r.length) :
    Calls Try.prog 8 #[.pointer (some ⟨L, 0, none⟩), v] w fun e w' => e = .returned (.int .i64 3) ∧ w = w' := by
  obtain ⟨S, h1, h2, h3⟩ := h.at_
  exact add_big h1 v r hv hr
theorem ls_force {base : Nat} {w : World} {L B : Nat} {d : Dk} {Rs : List (List UInt8)} (h : LS base w L B d Rs) (hb : base ≤ w.heap.size) :
    Calls Try.prog 9 #[.pointer (some ⟨L, 0, none⟩)] w fun e w' => e = .returned (.int .i64 0) ∧ LS base w' L B d.sync Rs ∧ Below base w w' ∧ OChg (KT true lT) w w' := by
  obtain ⟨S, h1, h2, h3⟩ := h.at_
  refine (force_ok h1).mono ?_
  rintro e w' ⟨rfl, S', k1, k2, k3⟩
  exact ⟨rfl, ⟨⟨S', k1, h2, fun x hx => (k3 x hx).elim (h3 x) (fun h => Nat.le_trans hb h)⟩, h.clean.sync⟩, chg_base k2 h3 hb, (h1.dk.och k2).mono (fun o => dT_lT)⟩
theorem ls_room {base : Nat} {w : World} {L B : Nat} {d : Dk} {Rs : List (List UInt8)} (h : LS base w L B d Rs) (k : Nat) (hk : k ≤ 16384) :
    Calls Try.prog 10 #[.pointer (some ⟨L, 0, none⟩), .int .i64 (k : Int)] w fun e w' => e = .returned (.bool (decide (span Rs + secs k ≤ d.sure.length))) ∧ Below w.heap.size w w' := by
  obtain ⟨S, h1, h2, h3⟩ := h.at_
  exact room_in h1 h.clean.fits k hk
theorem ls_noroom {base : Nat} {w : World} {L B : Nat} {d : Dk} {Rs : List (List UInt8)} (h : LS base w L B d Rs) (k : Int) (hk : k < 0 ∨ 16384 < k) :
    Calls Try.prog 10 #[.pointer (some ⟨L, 0, none⟩), .int .i64 k] w fun e w' => e = .returned (.bool false) ∧ w = w' := by
  obtain ⟨S, h1, h2, h3⟩ := h.at_
  exact room_out h1 k hk
/-- A list of byte lists in memory. -/
def recCell (x : Value × List UInt8) : List Value := [x.1]
structure RcIn (w : World) (lim : Nat) (v : Value) (l : List (Value × List UInt8)) : Prop where
  sl : SlAt 1 recCell w lim v l
  els : ∀ x ∈ l, InAt w lim x.1 x.2
theorem RcIn.below {w w' : World} {lim B : Nat} {v : Value} {l : List (Value × List UInt8)} (h : RcIn w lim v l) (hb : Below B w w') (hB : lim ≤ B) : RcIn w' lim v l :=
  ⟨h.sl.below hb hB, fun x hx => SlAt.below (h.els x hx) hb hB⟩
theorem RcIn.mono {w : World} {lim lim' : Nat} {v : Value} {l : List (Value × List UInt8)} (h : RcIn w lim v l) (hB : lim ≤ lim') : RcIn w lim' v l :=
  ⟨h.sl.mono hB, fun x hx => SlAt.mono (h.els x hx) hB⟩
def recP (x : Rec) : Value × List UInt8 := (recV x, x.2)
theorem RcOwn.in {w : World} {base : Nat} {v : Value} {X : List Rec} (h : RcOwn w base v X) : RcIn w w.heap.size v (X.map recP) := by
  refine ⟨?_, fun x hx => ?_⟩
  · have hr := h.row
    have e : X.map recV = (X.map recP).flatMap recCell := by
      clear h hr
      induction X with
      | nil => rfl
      | cons x X ih => rw [List.map_cons, List.map_cons, List.flatMap_cons, ih]; rfl
    rw [e, show X.length = (X.map recP).length by simp] at hr
    exact sl_own (fun _ => rfl) hr
  · obtain ⟨y, hy, rfl⟩ := List.mem_map.1 hx
    exact (h.els y hy).in
end Go.Proofs.Ytjaidhglemnakaa
