/- The walk of SectorsSeen. -/
import Derived.Test.YtapfkoojplbfmaaDAlive
import Derived.Test.YtapfkoojplbfmaaGOpen
import Derived.LoopTactic
set_option linter.unusedSimpArgs false
set_option linter.unusedVariables false
namespace Go.Proofs.Ytapfkoojplbfmaa
open Go.RowKit Go.Maps Go.ChangeShapes Go.WideShapes

def seenAt (l : List UInt8) (k : Nat) : Bool := l.any fun x => x.toNat % 20 == k
theorem seenAt_succ (l : List UInt8) (k j : Nat) (h : j < l.length) : seenAt (l.take (j + 1)) k = (seenAt (l.take j) k || ((l[j]'h).toNat % 20 == k)) := by
  unfold seenAt
  rw [List.take_succ_eq_append_getElem h, List.any_append, List.any_cons, List.any_nil, Bool.or_false]
/-- A sector of noughts. -/
def z64 : Sec := List.replicate 64 0
theorem z64_get {i : Nat} (h : i < 64) : z64[i]? = some 0 := by unfold z64; rw [List.getElem?_replicate, if_pos h]
/-- Sectors of which some are b, the others noughts. -/
def SeenInv (b : List UInt8) (l : List UInt8) (j : Nat) (d : Dk) : Prop := d.sure.length = 20 ∧ d.ws.length ≤ j ∧ ∀ k, k < 20 → d.view k = if seenAt (l.take j) k = true then pad b else z64
theorem seenInv_write {b l : List UInt8} {j : Nat} {d : Dk} (h : SeenInv b l j d) (hj : j < l.length) : SeenInv b l (j + 1) (d.write ((l[j]'hj).toNat % 20) b) := by
  obtain ⟨h1, h2, h3⟩ := h
  refine ⟨h1, by rw [ws_len]; omega, fun k hk => ?_⟩
  rw [Dk.view_write, seenAt_succ l k j hj, h3 k hk]
  by_cases e : (l[j]'hj).toNat % 20 = k
  · simp [e]
  · simp [e]
theorem seenInv_sync {b l : List UInt8} {j : Nat} {d : Dk} (h : SeenInv b l j d) : SeenInv b l j d.sync := by
  obtain ⟨h1, h2, h3⟩ := h
  refine ⟨by simpa [Dk.sync] using h1, by simp [Dk.sync], fun k hk => ?_⟩
  rw [Dk.view_sync (by omega), h3 k hk]
theorem seenInv_new (b l : List UInt8) : SeenInv b l 0 (Dk.new 20) := by
  refine ⟨by simp [Dk.new], by simp [Dk.new], fun k hk => ?_⟩
  rw [Dk.view_new hk]
  simp only [List.take_zero, seenAt, List.any_nil, Bool.false_eq_true, if_false]
  rfl
theorem in_cell {w : World} {lim : Nat} {ao : Option Addr} {n c : Nat} {l : List UInt8} (h : InAt w lim (.slice ao n c) l) {j : Nat} (hj : j < l.length) : ∃ b o, ao = some ⟨b, o, none⟩ ∧ b < lim ∧ ∀ i (hi : i < l.length), w.cell? ⟨b, o + i, none⟩ = some (.int .u8 ((l[i]'hi).toNat : Int)) := by
  obtain ⟨ao', c', e, h1, h2, h3⟩ := h
  cases e
  obtain ⟨b, o, rfl, hb, hc⟩ := h3 (by omega)
  refine ⟨b, o, rfl, hb, fun i hi => ?_⟩
  have := hc i hi 0 _ rfl
  rw [Nat.mul_one, Nat.add_zero] at this
  exact this
theorem tmod_nat (a n : Nat) : ((a : Int)).tmod (n : Int) = ((a % n : Nat) : Int) := rfl
theorem row_cell {w : World} {g : Nat} {s : Sec} {t : TypeId} (h : w.heap[g]? = some (.cells (bcells s).toArray t (0, 0))) {i : Nat} {c : UInt8} (hc : s[i]? = some c) : w.cell? ⟨g, i, none⟩ = some (.int .u8 (c.toNat : Int)) := by
  rw [cell_of_row _ _ _ _ _ _ h]
  simp [bcells, hc, bv]

set_option maxHeartbeats 8000000 in
set_option maxRecDepth 1000000 in
theorem seen_any (w : World) (vb vl : Value) (b l : List UInt8) (z : Int) (hb : InAt w w.heap.size vb b) (hl : InAt w w.heap.size vl l) (hz : (Lit.int .u8 z).wf = true) :
    Calls Try.prog 5 #[vb, vl, .int .u8 z] w fun e w' => e = .returned (.bool true) ∧ Below w.heap.size w w' := by
  have zb := bounds_u8 hz
  obtain ⟨zn, rfl⟩ : ∃ zn : Nat, z = (zn : Int) := ⟨z.toNat, by omega⟩
  clear hz
  obtain ⟨ab, cb, eb, hb1, hb2, -⟩ := id hb
  obtain ⟨al, cl, el, hl1, hl2, -⟩ := id hl
  subst eb el
  unfold maxLen at hb2 hl2
  have kA := alive_any w
  have tz : ((zn : Int)).tmod 20 = ((zn % 20 : Nat) : Int) := tmod_nat zn 20
  obtain ⟨k, hk⟩ : ∃ k, k = zn % 20 := ⟨_, rfl⟩
  rw [← hk] at tz
  have hk20 : k < 20 := by omega
  clear hk
  by_cases hlong : 60 < l.length ∨ 64 < b.length
  · by_cases h1 : 60 < l.length
    · have i1 : (60 : Int) < (l.length : Int) := by omega
      clear hlong hb hl
      go_enter Try.func5, Try.ntmps5
      go_wp2_with fail
      refine kA.mono ?_
      rintro e w1 ⟨rfl, b1⟩
      go_wp2_with fail
      refine (alive_any _).mono ?_
      rintro e w2 ⟨rfl, b2⟩
      go_wp2
      go_ret
      exact ⟨rfl, b1.trans (b2.mono b1.size)⟩
    · have i1 : ¬ (60 : Int) < (l.length : Int) := by omega
      have i2 : (64 : Int) < (b.length : Int) := by omega
      clear hlong hb hl
      go_enter Try.func5, Try.ntmps5
      go_wp2_with fail
      refine kA.mono ?_
      rintro e w1 ⟨rfl, b1⟩
      go_wp2_with fail
      refine (alive_any _).mono ?_
      rintro e w2 ⟨rfl, b2⟩
      go_wp2
      go_ret
      exact ⟨rfl, b1.trans (b2.mono b1.size)⟩
  · have i1 : ¬ (60 : Int) < (l.length : Int) := by omega
    have i2 : ¬ (64 : Int) < (b.length : Int) := by omega
    have h60 : l.length ≤ 60 := by omega
    have h64 : b.length ≤ 64 := by omega
    clear hlong
    go_enter Try.func5, Try.ntmps5
    go_wp2_with fail
    refine kA.mono ?_
    rintro e w0 ⟨rfl, b0⟩
    go_wp2_with fail
    refine (new_own w0 20 (by omega) (by omega)).mono ?_
    rintro e w1 ⟨B, rfl, b1', o1⟩
    have b1 := b0.trans (b1'.mono b0.size)
    have hbase := b0.size
    clear kA
    go_wp2
    go_loopw [10, 11] (fun s i wr => ∃ (j : Nat) (d : Dk), j ≤ l.length ∧ i = .int .i64 (j : Int) ∧ s = .bool (seenAt (l.take j) k) ∧ SeenInv b l j d ∧ Own w0.heap.size wr B d ∧ Below w.heap.size w wr ∧ w0.heap.size ≤ wr.heap.size) (fun _ i _ => l.length - (intOf i).toNat)
    case atStart => exact ⟨0, Dk.new 20, Nat.zero_le _, rfl, by simp [seenAt], seenInv_new b l, o1, b1, b1'.size⟩
    case round =>
      obtain ⟨j, d, hj, rfl, rfl, hinv, ho, hbr, hsz⟩ := hrel
      by_cases hjl : j < l.length
      · obtain ⟨bl, ol, rfl, hbl, hcl⟩ := in_cell hl hjl
        obtain ⟨x, hx⟩ : ∃ x, x = l[j]'hjl := ⟨_, rfl⟩
        have hc : ∀ W, Below w.heap.size w W → W.cell? ⟨bl, ol + j, none⟩ = some (.int .u8 (x.toNat : Int)) := fun W hW => by
          rw [World.cell?_of_block (w := w) (hW.block bl hbl), hx]
          exact hcl j hjl
        have hx256 := x.toNat_lt
        have t20 : ((x.toNat : Int)).tmod 20 = ((x.toNat % 20 : Nat) : Int) := tmod_nat _ 20
        have hm20 : x.toNat % 20 < 20 := Nat.mod_lt _ (by omega)
        have iw := seenInv_write hinv hjl
        rw [← hx] at iw
        have hss := seenAt_succ l k j hjl
        rw [← hx] at hss
        have j1 : (j : Int) < (l.length : Int) := by omega
        have kw := write_own ho hsz (x.toNat % 20) (by rw [hinv.1]; exact hm20) _ b (hb.below hbr (Nat.le_refl _)) h64 (by have := hinv.2.1; omega)
        obtain ⟨xm, hxm⟩ : ∃ xm, xm = x.toNat % 20 := ⟨_, rfl⟩
        rw [← hxm] at t20 kw iw hss
        have c0 := hc wr hbr
        obtain ⟨sv, hsv⟩ : ∃ sv, sv = seenAt (l.take j) k := ⟨_, rfl⟩
        rw [← hsv] at hss ⊢
        have hssH : Hid (seenAt (List.take (j + 1) l) k = (sv || xm == k)) := hss
        have tk : ((xm : Int) == (k : Int)) = (xm == k) := by rw [Bool.eq_iff_iff, beq_iff_eq, beq_iff_eq]; omega
        clear hx hcl hsv hxm hm20 hinv hss
        by_cases h3 : x.toNat % 3 = 0
        · have t3 : ((x.toNat : Int)).tmod 3 = 0 := by have := tmod_nat x.toNat 3; rw [h3] at this; exact this
          cases sv with
          | true =>
            go_wp2_with (first
              | (go_at_call 10; refine kw.mono ?_; rintro e w2 ⟨rfl, o2, b2⟩; have b2w := hbr.trans (b2.mono hbase); have c2 := hc w2 b2w; have s2 := Nat.le_trans hsz b2.size)
              | (go_at_call 11; refine (sync_own o2 s2).mono ?_; rintro e w3 ⟨rfl, o3, b3⟩; have b3w := b2w.trans (b3.mono hbase); have c3 := hc w3 b3w; have s3 := Nat.le_trans s2 b3.size))
            go_roundw
            case rel => exact ⟨j + 1, _, by omega, by go_num, by rw [hssH.out]; simp, seenInv_sync iw, o3, b3w, s3⟩
            case measure => simp [intOf]; omega
          | false =>
            go_wp2_with (first
              | (go_at_call 10; refine kw.mono ?_; rintro e w2 ⟨rfl, o2, b2⟩; have b2w := hbr.trans (b2.mono hbase); have c2 := hc w2 b2w; have s2 := Nat.le_trans hsz b2.size)
              | (go_at_call 11; refine (sync_own o2 s2).mono ?_; rintro e w3 ⟨rfl, o3, b3⟩; have b3w := b2w.trans (b3.mono hbase); have c3 := hc w3 b3w; have s3 := Nat.le_trans s2 b3.size))
            go_roundw
            case rel => exact ⟨j + 1, _, by omega, by go_num, by rw [hssH.out]; simp, seenInv_sync iw, o3, b3w, s3⟩
            case measure => simp [intOf]; omega
        · have t3 : (((x.toNat : Int)).tmod 3 == 0) = false := by have t : ((x.toNat : Int)).tmod 3 = ((x.toNat % 3 : Nat) : Int) := tmod_nat _ 3; rw [t]; simp; omega
          cases sv with
          | true =>
            go_wp2_with (first
              | (go_at_call 10; refine kw.mono ?_; rintro e w2 ⟨rfl, o2, b2⟩; have b2w := hbr.trans (b2.mono hbase); have c2 := hc w2 b2w; have s2 := Nat.le_trans hsz b2.size))
            go_roundw
            case rel => exact ⟨j + 1, _, by omega, by go_num, by rw [hssH.out]; simp, iw, o2, b2w, s2⟩
            case measure => simp [intOf]; omega
          | false =>
            go_wp2_with (first
              | (go_at_call 10; refine kw.mono ?_; rintro e w2 ⟨rfl, o2, b2⟩; have b2w := hbr.trans (b2.mono hbase); have c2 := hc w2 b2w; have s2 := Nat.le_trans hsz b2.size))
            go_roundw
            case rel => exact ⟨j + 1, _, by omega, by go_num, by rw [hssH.out]; simp, iw, o2, b2w, s2⟩
            case measure => simp [intOf]; omega
      · have ejl : j = l.length := by omega
        have j1 : ¬ (j : Int) < (l.length : Int) := by omega
        have hvk := hinv.2.2 k hk20
        have kr := read_own ho k (by rw [hinv.1]; exact hk20)
        have hbw : InAt wr w.heap.size (.slice ab b.length cb) b := hb.below hbr (Nat.le_refl _)
        rw [hvk] at kr
        generalize seenAt (l.take j) k = sv at *
        clear hinv hvk hl hb o1 b1 ejl
        go_wp2_with (go_at_call 8; refine kr.mono ?_; rintro e w2 ⟨rfl, r2, b2⟩)
        have b2w := hbr.trans (b2.mono hbr.size)
        have hb2 : InAt w2 w.heap.size (.slice ab b.length cb) b := hbw.below b2 hbr.size
        clear hbw kr
        generalize wr.heap.size + 1 = gx at *
        go_loopw [14] (fun i wq => wq = w2 ∧ ∃ q : Nat, q ≤ 64 ∧ i = .int .i64 (q : Int)) (fun i _ => 64 - (intOf i).toNat)
        case atStart => exact ⟨rfl, 0, by omega, rfl⟩
        case round =>
          obtain ⟨rfl, q, hq, rfl⟩ := hrel
          by_cases hq64 : q < 64
          · have q1 : (q : Int) < 64 := by omega
            cases sv with
            | true =>
              simp only [if_true] at r2
              have cx := row_cell r2 (pad_get b q hq64)
              by_cases hqb : q < b.length
              · obtain ⟨bb, ob, rfl, hbb, hcb⟩ := in_cell hb2 hqb
                have cb' := hcb q hqb
                have q2 : (q : Int) < (b.length : Int) := by omega
                have e1 : b.getD q 0 = b[q]'hqb := by simp [hqb]
                rw [e1] at cx
                clear hcb hb2 r2 e1
                generalize b[q]'hqb = y at *
                go_wp2
                go_roundw
                case rel => exact ⟨trivial, q + 1, by omega, by go_num⟩
                case measure => simp [intOf]; omega
              · have q2 : ¬ (q : Int) < (b.length : Int) := by omega
                have e1 : b.getD q 0 = 0 := by simp [List.getElem?_eq_none (show b.length ≤ q by omega)]
                rw [e1] at cx
                have cx' : wr.cell? ⟨gx, q, none⟩ = some (.int .u8 0) := cx
                clear hb2 r2 e1 cx
                go_wp2
                go_roundw
                case rel => exact ⟨trivial, q + 1, by omega, by go_num⟩
                case measure => simp [intOf]; omega
            | false =>
              simp only [Bool.false_eq_true, if_false] at r2
              have cx : wr.cell? ⟨gx, q, none⟩ = some (.int .u8 0) := row_cell (c := 0) r2 (z64_get hq64)
              clear hb2 r2
              go_wp2
              go_roundw
              case rel => exact ⟨trivial, q + 1, by omega, by go_num⟩
              case measure => simp [intOf]; omega
          · have q1 : ¬ (q : Int) < 64 := by omega
            clear r2 hb2
            go_wp2
            go_ret
            exact ⟨rfl, b2w⟩
end Go.Proofs.Ytapfkoojplbfmaa
