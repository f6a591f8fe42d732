/- A disk's records, gone through one by one: the iterator's word. -/
import Derived.Test.YtjaidhglemnakaaWBytes
set_option linter.unusedSimpArgs false
set_option linter.unusedVariables false
namespace Go.Proofs.Ytjaidhglemnakaa
open Go.RowKit Go.Maps
attribute [local go_sem] Oper.semAt_some wfn wdp rfn rdp

theorem recordsOn_ok (w : World) (B : Nat) : Calls Try.prog 27 #[.pointer (some ⟨B, 0, none⟩)] w fun e w' =>
    e = .returned (.func (.func 39) #[] #[.pointer (some ⟨w.heap.size, 0, none⟩)]) ∧ w.alloc (.cells #[.pointer (some ⟨B, 0, none⟩)] 24) = w' := by
  go_enter Try.func27, Try.ntmps27
  go_wp2
  go_ret
  exact ⟨rfl, rfl⟩

/-- A record, and the block where it lies. -/
abbrev Rec := Nat × List UInt8
def recV (x : Rec) : Value := .slice (some ⟨x.1, 0, none⟩) x.2.length x.2.length
def recEnc (x : Rec) : Array Value := #[recV x, .int .i64 ((secs x.2.length : Nat) : Int)]
/-- What is left of a row of bytes at block G. -/
structure RestAt (W : World) (G : Nat) (v : Value) (b : List UInt8) : Prop where
  blk : ∃ cs fr, W.heap[G]? = some (.cells cs 5 fr)
  sl : ∃ ao cap, v = .slice ao b.length cap ∧ b.length ≤ cap ∧ cap ≤ maxLen ∧ (0 < b.length → ∃ off, ao = some ⟨G, off, none⟩ ∧ ∀ i (hi : i < b.length), W.cell? ⟨G, off + i, none⟩ = some (bv (b[i]'hi)))
theorem RestAt.in {W : World} {G : Nat} {v : Value} {b : List UInt8} (h : RestAt W G v b) : InAt W W.heap.size v b := by
  obtain ⟨cs, fr, hb⟩ := h.blk
  obtain ⟨ao, cap, rfl, h1, h2, h3⟩ := h.sl
  refine ⟨ao, cap, rfl, h1, h2, fun hp => ?_⟩
  obtain ⟨off, rfl, hc⟩ := h3 hp
  refine ⟨G, off, rfl, lt_of_block hb, fun i hi j u hu => ?_⟩
  have hj : j = 0 := by
    cases j with
    | zero => rfl
    | succ j => cases hu
  subst hj
  simp only [bCell, List.getElem?_cons_zero, Option.some.injEq] at hu
  subst hu
  rw [Nat.mul_one, Nat.add_zero]
  exact hc i hi
theorem RestAt.kept {W W' : World} {G : Nat} {v : Value} {b : List UInt8} (h : RestAt W G v b) (hk : W'.heap[G]? = W.heap[G]?) : RestAt W' G v b := by
  obtain ⟨cs, fr, hb⟩ := h.blk
  obtain ⟨ao, cap, rfl, h1, h2, h3⟩ := h.sl
  refine ⟨⟨cs, fr, hk.trans hb⟩, ao, cap, rfl, h1, h2, fun hp => ?_⟩
  obtain ⟨off, rfl, hc⟩ := h3 hp
  exact ⟨off, rfl, fun i hi => by rw [World.cell?_of_block (w := W) hk]; exact hc i hi⟩
theorem RestAt.of {W : World} {base : Nat} {v : Value} {b : List UInt8} (h : BsAt W base v b) (h0 : 0 < b.length) : ∃ G, RestAt W G v b ∧ base ≤ G := by
  have hi := h.in
  rcases h.2 with ⟨h1, h2⟩ | ⟨g, cap, cur, h1, h2, h3, _⟩
  · omega
  · subst h1
    obtain ⟨ao, c, e, k1, k2, k3⟩ := hi
    cases e
    refine ⟨g, ⟨⟨_, _, h3⟩, _, _, rfl, k1, k2, fun hp => ?_⟩, h2⟩
    obtain ⟨b', off, e, k4, k5⟩ := k3 hp
    cases e
    refine ⟨0, rfl, fun i hi => ?_⟩
    have := k5 i hi 0 (bv (b[i]'hi)) rfl
    rw [Nat.mul_one, Nat.add_zero] at this
    exact this
theorem RestAt.drop {W : World} {G n cap : Nat} {ao ao' : Option Addr} {b : List UInt8} (h : RestAt W G (.slice ao b.length cap) b) (hn : n ≤ b.length) (ha : n < cap → ∀ g off, ao = some ⟨g, off, none⟩ → ao' = some ⟨g, off + n, none⟩) : RestAt W G (.slice ao' (b.length - n) (cap - n)) (b.drop n) := by
  obtain ⟨ao1, cap', hv, h1, h2, h3⟩ := h.sl
  simp only [Value.slice.injEq, true_and] at hv
  obtain ⟨rfl, rfl⟩ := hv
  refine ⟨h.blk, ao', cap - n, by rw [List.length_drop], by rw [List.length_drop]; omega, by omega, fun hp => ?_⟩
  rw [List.length_drop] at hp
  obtain ⟨off, rfl, hc⟩ := h3 (by omega)
  refine ⟨off + n, ha (by omega) _ _ rfl, fun i hi => ?_⟩
  rw [List.length_drop] at hi
  have := hc (n + i) (by omega)
  rw [List.getElem_drop, show off + n + i = off + (n + i) by omega]
  exact this

structure RecHx (d : Dk) (pre : List Rec) (x : Rec) (W W' : World) : Prop where
  next : ∃ M, recs d.all = pre.map (·.2) ++ x.2 :: M
  new : W.heap.size ≤ x.1
  mem : BsAt W' W.heap.size (recV x) x.2
theorem RecHx.put {d : Dk} {pre : List Rec} {x : Rec} {W W' : World} {k : Nat} {o : Obj} (hk : k < W.heap.size) (h : RecHx d pre x W W') : RecHx d pre x (W.putObj k o) (W'.putObj k o) :=
  ⟨h.next, by rw [World.putObj_size]; exact h.new, by
    rw [World.putObj_size]
    exact own_kept h.mem (fun b e => World.putObj_heap_other (by have := own_row_ge h.mem b e; omega))⟩
def RecInv (bd B : Nat) (d : Dk) (pre : List Rec) (W : World) : Prop := pre = [] → W.heap[bd]? = some (.cells #[.pointer (some ⟨B, 0, none⟩)] 24 (0, 0)) ∧ ∃ S, DkAt W B S d
/-- Bytes stay. -/
def BytesStay (W W' : World) : Prop := ∀ (k : Nat) cs fr, W.heap[k]? = some (.cells cs 5 fr) → W'.heap[k]? = W.heap[k]?
set_option maxHeartbeats 2000000 in
set_option maxRecDepth 1000000 in
theorem recs_seq (bd B : Nat) (d : Dk) :
    SeqTo Try.prog 39 #[.pointer (some ⟨bd, 0, none⟩)] recEnc (RecInv bd B d) (RecHx d) BytesStay (fun xs => xs.map (·.2) = recs d.all) := by
  intro l J hInv hY W0 h0
  obtain ⟨hcd, S, hdk⟩ := hInv _ _ h0 rfl
  have hok := hdk.ok
  have hlen := Dk.all_len hok
  have hpos := hok.pos
  have hmx := hok.max
  have kb := bytesOf_ok hdk
  have ccd := box_cell hcd
  refine callsIn_of_wp Try.func39 rfl trivial ?_ rfl
  simp only [Try.ntmps39, List.size_toArray, List.length_cons, List.length_nil, Nat.reduceAdd, Nat.reduceSub, Array.replicate_succ, Array.replicate_zero, List.push_toArray, List.append_toArray, List.nil_append, List.cons_append]
  gi_wp2_with fail
  refine (callsIn_wide.2 kb).mono ?_
  rintro e w1 ⟨v, rfl, O1, b1⟩
  obtain ⟨G, R1, hG⟩ := RestAt.of O1 (by omega)
  gi_wp2
  gi_loopw [3] (fun v wr => ∃ (pre : List Rec) (W : World) (b : List UInt8), J pre W ∧ Below W.heap.size W wr ∧ recs d.all = pre.map (·.2) ++ recs b ∧ RestAt wr G v b ∧ b.length ≤ 262144) (fun v _ => match v with | .slice _ n _ => n | _ => 0)
  case atStart => exact ⟨[], W0, d.all, h0, b1, by simp, R1, by omega⟩
  case round =>
    obtain ⟨pre, W, b, hJ, hb, hrec, hr, hbl⟩ := hrel
    have hrin := hr.in
    cases hget : getF b with
    | none =>
      have kg := get_none wr _ b hrin hget
      rw [recs_none hget, List.append_nil] at hrec
      clear hget hrin
      gi_wp2_with fail
      refine (callsIn_wide.2 kg).mono ?_
      rintro e w2 ⟨rfl, b2⟩
      gi_wp2
      (try simp only [Exit.inBlock, Exit.then])
      refine bodyPost_ret (results_none rfl _ _ _) rfl ?_
      exact ⟨⟨_, rfl⟩, pre, W, (show pre.map (·.2) = recs d.all from hrec.symm), hJ, hb.trans (b2.mono hb.size)⟩
    | some r =>
      have kg := get_some wr _ b r hrin hget
      obtain ⟨hr1, hr2, hr3⟩ := getF_some hget
      rw [recs_some hget] at hrec
      have hsp := secs_pos r.length
      clear hget hrin
      gi_wp2_with fail
      refine (callsIn_wide.2 kg).mono ?_
      rintro e w2 ⟨g, rfl, O2, hg, b2⟩
      obtain ⟨cs0, fr0, hG0⟩ := hr.blk
      have r2 := hr.kept (b2.block G (lt_of_block hG0))
      have hb2 := hb.trans (b2.mono hb.size)
      obtain ⟨fn, tmps, assign, body, hy, hR⟩ := hY pre (g, r) W w2 hJ hb2 ⟨⟨_, hrec⟩, Nat.le_trans hb.size hg, own_from' O2 hb.size⟩
      dsimp only [recEnc, recV] at hy
      obtain ⟨Z, hZ⟩ : ∃ Z, Z = secs r.length := ⟨_, rfl⟩
      rw [← hZ] at hy hr2 hr3 hrec hsp ⊢
      have hZH : Hid (Z = secs r.length) := hZ
      clear hZ
      gi_wp2
      refine hR.mono ?_
      rintro e W2 ⟨rfl, hJ2, hK⟩
      obtain ⟨cs2, fr2, hG2⟩ := r2.blk
      have r3 := r2.kept (hK G cs2 fr2 hG2)
      obtain ⟨ao, cap, rfl, q1, q2, q3⟩ := r3.sl
      unfold maxLen at q2
      gi_wp2
      go_roundw
      case rel => exact ⟨pre ++ [(g, r)], W2, b.drop (Z * 64), hJ2, Below.refl _ _, by rw [hrec, hZH.out]; simp, r3.drop hr2 (fun hlt g0 off e => by subst e; rw [if_neg (by omega)]; simp [Addr.add_lit]), by rw [List.length_drop]; omega⟩
      case measure => show b.length - Z * 64 < b.length; omega
end Go.Proofs.Ytjaidhglemnakaa
