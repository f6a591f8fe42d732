/- The walk of WallsRoom. -/
import Derived.Test.YtjaidhglemnakaaWAlive
import Derived.Test.YtjaidhglemnakaaG16
import Derived.Test.YtjaidhglemnakaaGOpenS
set_option linter.unusedSimpArgs false
set_option linter.unusedVariables false
namespace Go.Proofs.Ytjaidhglemnakaa
open Go.RowKit Go.Maps Go.ChangeShapes Go.WideShapes

theorem wwrap (n : Nat) (h : n < 9223372036854775808) : IntKind.i64.wrap (n : Int) = (n : Int) := by
  simp [IntKind.wrap, IntKind.signed, IntKind.bits]
  omega
theorem wtmod (a n : Nat) : ((a : Int)).tmod (n : Int) = ((a % n : Nat) : Int) := rfl
set_option maxHeartbeats 1000000 in
set_option maxRecDepth 1000000 in
theorem room_loop (w : World) (vl : Value) (l : List UInt16) (sn : Nat) (hl : In16 w w.heap.size vl l) (hs : sn ≤ 255) (h60 : l.length ≤ 60) :
    Calls Try.prog 6 #[.int .u8 (sn : Int), vl] w fun e w' => e = .returned (.bool true) ∧ Below w.heap.size w w' := by
  obtain ⟨al, cl, el, hl1, hl2, -⟩ := id hl
  subst el
  unfold maxLen at hl2
  have i1 : ¬ (60 : Int) < (l.length : Int) := by omega
  obtain ⟨s, hsz⟩ : ∃ s, s = sn % 100 := ⟨_, rfl⟩
  have hs2 : s ≤ 99 := by omega
  have ts : ((sn : Int)).tmod 100 = (s : Int) := by rw [hsz]; exact wtmod sn 100
  have wsn := wwrap sn (by omega)
  clear hsz
  obtain ⟨size, hsize⟩ : ∃ size, size = 1 + s := ⟨_, rfl⟩
  have is : (1 : Int) + (s : Int) = (size : Int) := by omega
  have hz1 : 1 ≤ size := by omega
  have hz2 : size ≤ 100 := by omega
  clear hsize hs2
  go_enter Try.func6, Try.ntmps6
  go_wp2_with fail
  refine (walive_any w).mono ?_
  rintro e w0 ⟨rfl, b0⟩
  go_wp2_with fail
  refine (new_own w0 size (by omega) (by omega)).mono ?_
  rintro e w1 ⟨B, rfl, b1, o1⟩
  go_wp2_with fail
  have o1' : Own w.heap.size w1 B (Dk.new size) := own_weak o1 b0.size
  replace b1 := b0.trans (b1.mono b0.size)
  refine (ls_open o1' b1.size (by show (0 : Nat) ≤ _; omega)).mono ?_
  rintro e w2 ⟨L, v, X, rfl, l2, r2, x2, b2, -⟩
  rw [(Clean.new (by omega) (by omega)).recs] at l2 x2
  obtain ⟨ao, c, rfl⟩ := rc_nil r2 x2
  replace b2 := b1.trans b2
  have hs2 : (Dk.new size).opened.sure.length = size := by rw [Dk.opened_len, Dk.new_len]
  have hw2 : (Dk.new size).opened.ws.length ≤ 0 := by rw [Dk.opened_ws]; simp
  generalize (Dk.new size).opened = d2 at *
  clear r2 x2 o1 o1' b1 b0
  go_wp2_with fail
  go_loopw [11, 12] (fun a i wr => ∃ (j left : Nat) (d : Dk) (Rs : List (List UInt8)), j ≤ l.length ∧ i = .int .i64 (j : Int) ∧ a = .int .i64 (left : Int) ∧ left + span Rs = size ∧ LS w.heap.size wr L B d Rs ∧ d.sure.length = size ∧ d.ws.length ≤ j * 20 ∧ Below w.heap.size w wr) (fun _ i _ => l.length - (intOf i).toNat)
  case atStart => exact ⟨0, size, d2, [], by omega, rfl, rfl, by simp [span_nil], l2, hs2, by omega, b2⟩
  case round =>
    obtain ⟨j, left, d, Rs, hj, rfl, rfl, hleft, hls, hds, hdw, hbe⟩ := hrel
    by_cases h1 : j < l.length
    · have i2 : (j : Int) < (l.length : Int) := by omega
      obtain ⟨bl, ol, rfl, hbl, hcl⟩ := in16_cell hl h1
      obtain ⟨x, hx⟩ : ∃ x, x = l[j]'h1 := ⟨_, rfl⟩
      have hc := hcl j h1
      rw [← hx, ← World.cell?_of_block (w := w) (hbe.block bl hbl)] at hc
      have wx := wwrap x.toNat (by have := x.toNat_lt; omega)
      obtain ⟨k, hk⟩ : ∃ k, k = x.toNat % 700 := ⟨_, rfl⟩
      have tk : ((x.toNat : Int)).tmod 700 = (k : Int) := by rw [hk]; exact wtmod _ 700
      have hk2 : k < 700 := by omega
      obtain ⟨m, hm⟩ : ∃ m, m = secs k := ⟨_, rfl⟩
      have tq : ((k : Int) + 8 + 63).tdiv 64 = (m : Int) := by rw [hm]; unfold secs; rw [Int.tdiv_eq_ediv_of_nonneg (by omega)]; omega
      have hm2 : m ≤ 12 := by rw [hm]; unfold secs; omega
      have kr := ls_room hls k (by omega)
      have kz := run_zc k (by omega)
      have hbs := hbe.size
      have ka := fun (W : World) (hW : LS w.heap.size W L B d Rs) (hz : w.heap.size ≤ W.heap.size) (hn : span Rs + secs k ≤ d.sure.length) => ls_addZ hW hz k (by omega) hn (by omega)
      have kf := fun (W : World) (hW : LS w.heap.size W L B d Rs) (hn : ¬ span Rs + secs k ≤ d.sure.length) => ls_fullZ hW k (by omega) hn
      rw [← hm] at kr ka kf
      rw [hds] at kr ka kf
      have hsn : span (Rs ++ [List.replicate k 0]) = span Rs + m := by rw [span_snoc, zeros_len, hm]
      have hal : (d.added (span Rs) (List.replicate k 0)).sure.length = size := by rw [Dk.added_len]; exact hds
      have haw : (d.added (span Rs) (List.replicate k 0)).ws.length ≤ (j + 1) * 20 := by unfold Dk.added; rw [Dk.puts_wlen, zeros_len, ← hm]; omega
      have hlsH : Hid (LS w.heap.size wr L B d Rs) := hls
      by_cases hfit : span Rs + m ≤ size
      · have i3 : (m : Int) ≤ (left : Int) := by omega
        obtain ⟨q, hq⟩ : ∃ q, q = left - m := ⟨_, rfl⟩
        have hl3 : (left : Int) - (m : Int) = (q : Int) := by omega
        have hq2 : q ≤ 100 := by omega
        have hleft' : q + span (Rs ++ [List.replicate k 0]) = size := by rw [hsn]; omega
        rw [show decide (span Rs + m ≤ size) = true by simpa using hfit] at kr
        have ka' := fun (W : World) (hW : LS w.heap.size W L B d Rs) (hz : w.heap.size ≤ W.heap.size) => ka W hW hz hfit
        have rest : Hid (q + span (Rs ++ [List.replicate k 0]) = size ∧ (d.added (span Rs) (List.replicate k 0)).sure.length = size ∧ (d.added (span Rs) (List.replicate k 0)).ws.length ≤ (j + 1) * 20) := ⟨hleft', hal, haw⟩
        clear ka kf hsn hal haw hq hleft' hfit hls hx hk hm hcl hl hds hdw hleft
        go_wp2_with fail
        refine kr.mono ?_
        rintro e w3 ⟨rfl, b3⟩
        have l3 := hlsH.out.below b3
        have b3' := hbe.trans (b3.mono hbs)
        clear kr
        go_wp2_with fail
        refine (ka' w3 l3 b3'.size).mono ?_
        rintro e w4 ⟨rfl, l4, b4, -⟩
        have b4' := b3'.trans b4
        clear ka' l3
        go_wp2
        go_roundw
        case rel =>
          obtain ⟨r1, r3, r4⟩ := rest.out
          exact ⟨j + 1, q, _, _, by omega, by go_num, by go_num, r1, l4, r3, r4, b4'⟩
        case measure => simp [intOf]; omega
      · have i3 : ¬ (m : Int) ≤ (left : Int) := by omega
        rw [show decide (span Rs + m ≤ size) = false by simpa using hfit] at kr
        have kf' := fun (W : World) (hW : LS w.heap.size W L B d Rs) => kf W hW hfit
        have rest : Hid (left + span Rs = size ∧ d.sure.length = size ∧ d.ws.length ≤ (j + 1) * 20) := ⟨hleft, hds, by omega⟩
        clear ka kf hsn hal haw hfit hls hx hk hm hcl hl hds hdw hleft
        go_wp2_with fail
        refine kr.mono ?_
        rintro e w3 ⟨rfl, b3⟩
        have l3 := hlsH.out.below b3
        have b3' := hbe.trans (b3.mono hbs)
        clear kr
        go_wp2_with fail
        refine (kf' w3 l3).mono ?_
        rintro e w4 ⟨rfl, b4⟩
        have l4 := l3.below b4
        have b4' := b3'.trans (b4.mono b3'.size)
        clear kf' l3
        go_wp2
        go_roundw
        case rel =>
          obtain ⟨r1, r3, r4⟩ := rest.out
          exact ⟨j + 1, left, d, Rs, by omega, by go_num, rfl, r1, l4, r3, r4, b4'⟩
        case measure => simp [intOf]; omega
    · have i2 : ¬ (j : Int) < (l.length : Int) := by omega
      have hcl := hls.clean.fits
      have k0 := fun (W : World) (hW : LS w.heap.size W L B d Rs) => ls_room hW 0 (by omega)
      have kn := fun (W : World) (hW : LS w.heap.size W L B d Rs) (k : Int) (hk : k < 0 ∨ 16384 < k) => ls_noroom hW k hk
      by_cases h0 : left = 0
      · subst h0
        rw [hds] at k0
        rw [show decide (span Rs + secs 0 ≤ size) = false by have e : secs 0 = 1 := (by decide); rw [e]; simp; omega] at k0
        clear hl hleft hds hdw hcl
        go_wp2_with fail
        refine (k0 wr hls).mono ?_
        rintro e w3 ⟨rfl, b3⟩
        have l3 := hls.below b3
        have b3' := hbe.trans (b3.mono hbe.size)
        clear k0 hls b3 hbe
        go_wp2_with fail
        refine (kn w3 l3 (-1) (.inl (by omega))).mono ?_
        rintro e w' ⟨rfl, rfl⟩
        go_wp2_with fail
        refine (kn _ l3 16385 (.inr (by omega))).mono ?_
        rintro e w' ⟨rfl, rfl⟩
        go_wp2_with fail
        refine (kn _ l3 _ (.inl (by omega))).mono ?_
        rintro e w' ⟨rfl, rfl⟩
        go_wp2_with fail
        refine (kn _ l3 _ (.inl (by omega))).mono ?_
        rintro e w' ⟨rfl, rfl⟩
        go_wp2
        go_ret
        exact ⟨rfl, b3'⟩
      · have hp : (0 : Int) < (left : Int) := by omega
        have hlb : (left : Int) ≤ 100 := by omega
        obtain ⟨k8, hk8⟩ : ∃ k8, k8 = left * 64 - 8 := ⟨_, rfl⟩
        obtain ⟨k7, hk7⟩ : ∃ k7, k7 = left * 64 - 7 := ⟨_, rfl⟩
        have e8 : (left : Int) * 64 - 8 = (k8 : Int) := by omega
        have e7 : (left : Int) * 64 - 7 = (k7 : Int) := by omega
        have k1 := fun (W : World) (hW : LS w.heap.size W L B d Rs) => ls_room hW k8 (by omega)
        have k2 := fun (W : World) (hW : LS w.heap.size W L B d Rs) => ls_room hW k7 (by omega)
        rw [hds] at k0 k1 k2
        rw [show decide (span Rs + secs 0 ≤ size) = true by have e : secs 0 = 1 := (by decide); rw [e]; simp; omega] at k0
        rw [show decide (span Rs + secs k8 ≤ size) = true by have e : secs k8 = left := (by rw [hk8]; unfold secs; omega); rw [e]; simp; omega] at k1
        rw [show decide (span Rs + secs k7 ≤ size) = false by have e : secs k7 = left + 1 := (by rw [hk7]; unfold secs; omega); rw [e]; simp; omega] at k2
        clear hl hleft hds hdw hcl hk8 hk7
        go_wp2_with fail
        refine (k0 wr hls).mono ?_
        rintro e w3 ⟨rfl, b3⟩
        have l3 := hls.below b3
        have b3' := hbe.trans (b3.mono hbe.size)
        clear k0 hls b3 hbe
        go_wp2_with fail
        refine (kn w3 l3 (-1) (.inl (by omega))).mono ?_
        rintro e w' ⟨rfl, rfl⟩
        go_wp2_with fail
        refine (kn _ l3 16385 (.inr (by omega))).mono ?_
        rintro e w' ⟨rfl, rfl⟩
        go_wp2_with fail
        refine (k1 _ l3).mono ?_
        rintro e w4 ⟨rfl, b4⟩
        have l4 := l3.below b4
        have b4' := b3'.trans (b4.mono b3'.size)
        clear k1 l3 b4 b3'
        go_wp2_with fail
        refine (k2 _ l4).mono ?_
        rintro e w5 ⟨rfl, b5⟩
        have b5' := b4'.trans (b5.mono b4'.size)
        go_wp2
        go_ret
        exact ⟨rfl, b5'⟩
theorem room_any (w : World) (vl : Value) (n : Int) (l : List UInt16) (hn : (Lit.int .u8 n).wf = true) (hl : In16 w w.heap.size vl l) :
    Calls Try.prog 6 #[.int .u8 n, vl] w fun e w' => e = .returned (.bool true) ∧ Below w.heap.size w w' := by
  have zb := bounds_u8 hn
  obtain ⟨zn, rfl⟩ : ∃ zn : Nat, n = (zn : Int) := ⟨n.toNat, by omega⟩
  clear hn
  by_cases h60 : l.length ≤ 60
  · exact room_loop w vl l zn hl (by omega) h60
  · obtain ⟨al, cl, rfl, hl1, hl2, -⟩ := hl
    unfold maxLen at hl2
    have i1 : (60 : Int) < (l.length : Int) := by omega
    go_enter Try.func6, Try.ntmps6
    go_wp2_with fail
    refine (walive_any w).mono ?_
    rintro e w1 ⟨rfl, b1⟩
    go_wp2_with fail
    refine (walive_any _).mono ?_
    rintro e w2 ⟨rfl, b2⟩
    go_wp2
    go_ret
    exact ⟨rfl, b1.trans (b2.mono b1.size)⟩
end Go.Proofs.Ytjaidhglemnakaa
