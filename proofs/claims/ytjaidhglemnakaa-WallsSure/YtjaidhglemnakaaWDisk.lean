/- A disk's bytes, one sector behind the other: sectors written in a row, noughts behind, what is left. -/
import Derived.Test.YtjaidhglemnakaaDMath
import Derived.Test.YtjaidhglemnakaaWMath
set_option linter.unusedSimpArgs false
set_option linter.unusedVariables false
namespace Go.Proofs.Ytjaidhglemnakaa

/-- The i-th 64 bytes. -/
def chunk (b : List UInt8) (i : Nat) : List UInt8 := (b.drop (i * 64)).take 64
theorem chunk_len {b : List UInt8} {i : Nat} (h : (i + 1) * 64 ≤ b.length) : (chunk b i).length = 64 := by unfold chunk; rw [List.length_take, List.length_drop]; omega
theorem chunk_left {a b : List UInt8} {i : Nat} (h : (i + 1) * 64 ≤ a.length) : chunk (a ++ b) i = chunk a i := by
  unfold chunk
  rw [List.drop_append_of_le_length (by omega), List.take_append_of_le_length (by rw [List.length_drop]; omega)]
theorem chunk_right {a b : List UInt8} {n i : Nat} (h : a.length = n * 64) (hi : n ≤ i) : chunk (a ++ b) i = chunk b (i - n) := by
  unfold chunk
  rw [List.drop_append, List.drop_of_length_le (by omega), List.nil_append, h, ← Nat.sub_mul]
theorem chunk_take {b : List UInt8} {k i : Nat} (h : (i + 1) * 64 ≤ k) : chunk (b.take k) i = chunk b i := by
  unfold chunk
  rw [List.drop_take, List.take_take, Nat.min_eq_left (by omega)]
theorem chunk_drop (b : List UInt8) (n i : Nat) : chunk (b.drop (n * 64)) i = chunk b (n + i) := by
  unfold chunk
  rw [List.drop_drop, Nat.add_mul]
theorem chunk_zero {n i : Nat} (h : i < n) : chunk (List.replicate (n * 64) 0) i = List.replicate 64 0 := by
  unfold chunk
  rw [List.drop_replicate, List.take_replicate, Nat.min_eq_left (by omega)]
theorem pad64 {c : List UInt8} (h : c.length = 64) : pad c = c := by unfold pad; rw [h]; simp

/-- All bytes of a disk, as it is read. -/
def Dk.upto (d : Dk) (k : Nat) : List UInt8 := (List.range k).flatMap d.view
def Dk.all (d : Dk) : List UInt8 := d.upto d.sure.length
theorem Dk.upto_succ (d : Dk) (k : Nat) : d.upto (k + 1) = d.upto k ++ d.view k := by unfold Dk.upto; rw [List.range_succ, List.flatMap_append]; simp
theorem Dk.upto_len {d : Dk} (h : d.ok) {k : Nat} (hk : k ≤ d.sure.length) : (d.upto k).length = k * 64 := by
  induction k with
  | zero => rfl
  | succ k ih => rw [Dk.upto_succ, List.length_append, ih (by omega), Dk.view_len h (by omega)]; omega
theorem Dk.all_len {d : Dk} (h : d.ok) : d.all.length = d.sure.length * 64 := Dk.upto_len h (Nat.le_refl _)
theorem Dk.upto_chunk {d : Dk} (h : d.ok) {k : Nat} (hk : k ≤ d.sure.length) {i : Nat} (hi : i < k) : chunk (d.upto k) i = d.view i := by
  induction k with
  | zero => omega
  | succ k ih =>
    have hl := Dk.upto_len h (k := k) (by omega)
    rw [Dk.upto_succ]
    by_cases e : i = k
    · subst e
      rw [chunk_right hl (Nat.le_refl _), Nat.sub_self]
      unfold chunk
      rw [Nat.zero_mul, List.drop_zero, List.take_of_length_le (by rw [Dk.view_len h (by omega)]; exact Nat.le_refl _)]
    · rw [chunk_left (by omega)]
      exact ih (by omega) (by omega)
theorem Dk.all_chunk {d : Dk} (h : d.ok) {i : Nat} (hi : i < d.sure.length) : chunk d.all i = d.view i := Dk.upto_chunk h (Nat.le_refl _) hi
theorem Dk.all_eq {d : Dk} (h : d.ok) {b : List UInt8} (hl : b.length = d.sure.length * 64) (hb : ∀ i, i < d.sure.length → chunk b i = d.view i) : d.all = b := by
  have key : ∀ k, k ≤ d.sure.length → d.upto k = b.take (k * 64) := by
    intro k
    induction k with
    | zero => intro _; simp [Dk.upto]
    | succ k ih =>
      intro hk
      rw [Dk.upto_succ, ih (by omega), ← hb k (by omega), Nat.succ_mul, List.take_add]
      rfl
  unfold Dk.all
  rw [key _ (Nat.le_refl _), List.take_of_length_le (by omega)]

/-- The first k sectors of b are written from the sector n on. -/
def Dk.puts (d : Dk) (n : Nat) (b : List UInt8) : Nat → Dk
  | 0 => d
  | k + 1 => (d.puts n b k).write (n + k) (chunk b k)
theorem Dk.puts_sure (d : Dk) (n : Nat) (b : List UInt8) (k : Nat) : (d.puts n b k).sure = d.sure := by
  induction k with
  | zero => rfl
  | succ k ih => simp only [Dk.puts, Dk.write, ih]
theorem Dk.puts_wlen (d : Dk) (n : Nat) (b : List UInt8) (k : Nat) : (d.puts n b k).ws.length = d.ws.length + k := by
  induction k with
  | zero => rfl
  | succ k ih => simp only [Dk.puts, Dk.write, List.length_append, ih, List.length_singleton]; omega
theorem Dk.puts_ok {d : Dk} (h : d.ok) {n m : Nat} {b : List UInt8} (hb : b.length = m * 64) (hn : n + m ≤ d.sure.length) : ∀ k, k ≤ m → (d.puts n b k).ok := by
  intro k
  induction k with
  | zero => intro _; exact h
  | succ k ih => intro hk; exact (ih (by omega)).write (by rw [Dk.puts_sure]; omega) (by rw [chunk_len (by omega)]; exact Nat.le_refl _)
theorem Dk.puts_ws {d : Dk} {n m : Nat} {b : List UInt8} (hb : b.length = m * 64) : ∀ k, k ≤ m → (d.puts n b k).ws = d.ws ++ (List.range k).map fun i => (n + i, chunk b i) := by
  intro k
  induction k with
  | zero => intro _; simp [Dk.puts]
  | succ k ih =>
    intro hk
    simp only [Dk.puts, Dk.write]
    rw [ih (by omega), pad64 (chunk_len (by omega)), List.range_succ, List.map_append, List.append_assoc]
    rfl
theorem Dk.puts_view {d : Dk} {n m : Nat} {b : List UInt8} (hb : b.length = m * 64) (i : Nat) : ∀ k, k ≤ m → (d.puts n b k).view i = if n ≤ i ∧ i < n + k then chunk b (i - n) else d.view i := by
  intro k
  induction k with
  | zero => intro _; rw [if_neg (by omega)]; rfl
  | succ k ih =>
    intro hk
    show ((d.puts n b k).write (n + k) (chunk b k)).view i = _
    rw [Dk.view_write, ih (by omega), pad64 (chunk_len (by omega))]
    by_cases e : n + k = i
    · subst e
      rw [if_pos rfl, if_pos (by omega), show n + k - n = k by omega]
    · rw [if_neg e]
      by_cases h2 : n ≤ i ∧ i < n + k
      · rw [if_pos h2, if_pos (by omega)]
      · rw [if_neg h2, if_neg (by omega)]
theorem Dk.puts_all {d : Dk} (h : d.ok) {n m : Nat} {b : List UInt8} (hb : b.length = m * 64) (hn : n + m ≤ d.sure.length) : (d.puts n b m).all = d.all.take (n * 64) ++ (b ++ d.all.drop ((n + m) * 64)) := by
  have hl := Dk.all_len h
  have ht : (d.all.take (n * 64)).length = n * 64 := by rw [List.length_take]; omega
  refine Dk.all_eq (Dk.puts_ok h hb hn m (Nat.le_refl _)) (by rw [Dk.puts_sure, List.length_append, List.length_append, ht, List.length_drop, hl, hb]; omega) (fun i hi => ?_)
  rw [Dk.puts_sure] at hi
  rw [Dk.puts_view hb i m (Nat.le_refl _)]
  by_cases h1 : i < n
  · rw [if_neg (by omega), chunk_left (by rw [ht]; omega), chunk_take (by omega), Dk.all_chunk h hi]
  · rw [chunk_right ht (by omega)]
    by_cases h2 : i < n + m
    · rw [if_pos ⟨by omega, h2⟩, chunk_left (by rw [hb]; omega)]
    · rw [if_neg (by omega), chunk_right hb (by omega), chunk_drop, show n + m + (i - n - m) = i by omega, Dk.all_chunk h hi]

/-- Sectors from n on that have another byte than 0 are written with noughts, k of them looked at. -/
def Dk.wipe (d : Dk) (n : Nat) : Nat → Dk
  | 0 => d
  | k + 1 => if ((d.wipe n k).view (n + k)).all (· == 0) = true then d.wipe n k else (d.wipe n k).write (n + k) []
theorem Dk.wipe_size (d : Dk) (n k : Nat) : (d.wipe n k).sure = d.sure := by
  induction k with
  | zero => rfl
  | succ k ih =>
    rw [Dk.wipe]
    split
    · exact ih
    · simp only [Dk.write, ih]
theorem Dk.wipe_wlen (d : Dk) (n k : Nat) : (d.wipe n k).ws.length ≤ d.ws.length + k := by
  induction k with
  | zero => exact Nat.le_refl _
  | succ k ih =>
    rw [Dk.wipe]
    split
    · omega
    · simp only [Dk.write, List.length_append, List.length_singleton]; omega
theorem Dk.wipe_ok {d : Dk} (h : d.ok) {n : Nat} : ∀ k, n + k ≤ d.sure.length → (d.wipe n k).ok := by
  intro k
  induction k with
  | zero => intro _; exact h
  | succ k ih =>
    intro hk
    rw [Dk.wipe]
    split
    · exact ih (by omega)
    · exact (ih (by omega)).write (by rw [Dk.wipe_size]; omega) (Nat.zero_le _)
theorem zeros_of {s : List UInt8} (h : s.all (· == 0) = true) (hl : s.length = 64) : s = List.replicate 64 0 := by
  have := all_zero.1 h
  rw [hl] at this
  exact this
theorem pad_nil : pad [] = List.replicate 64 0 := by unfold pad; simp
theorem Dk.wipe_view {d : Dk} (h : d.ok) {n : Nat} (i : Nat) : ∀ k, n + k ≤ d.sure.length → (d.wipe n k).view i = if n ≤ i ∧ i < n + k then List.replicate 64 0 else d.view i := by
  intro k
  induction k with
  | zero => intro _; rw [if_neg (by omega)]; rfl
  | succ k ih =>
    intro hk
    have hv := Dk.view_len (Dk.wipe_ok h (n := n) k (by omega)) (i := n + k) (by rw [Dk.wipe_size]; omega)
    rw [Dk.wipe]
    by_cases e : n + k = i
    · subst e
      rw [if_pos (show n ≤ n + k ∧ n + k < n + (k + 1) by omega)]
      split
      · rename_i h2
        exact zeros_of h2 hv
      · rw [Dk.view_write, if_pos rfl, pad_nil]
    · have e2 : (if n ≤ i ∧ i < n + (k + 1) then List.replicate 64 (0 : UInt8) else d.view i) = if n ≤ i ∧ i < n + k then List.replicate 64 0 else d.view i := by
        by_cases h2 : n ≤ i ∧ i < n + k
        · rw [if_pos h2, if_pos (by omega)]
        · rw [if_neg h2, if_neg (by omega)]
      rw [e2, ← ih (by omega)]
      split
      · rfl
      · rw [Dk.view_write, if_neg e]
theorem Dk.wipe_all {d : Dk} (h : d.ok) {n m : Nat} (hn : n + m = d.sure.length) : (d.wipe n m).all = d.all.take (n * 64) ++ List.replicate (m * 64) 0 := by
  have hl := Dk.all_len h
  have ht : (d.all.take (n * 64)).length = n * 64 := by rw [List.length_take]; omega
  refine Dk.all_eq (Dk.wipe_ok h m (by omega)) (by rw [Dk.wipe_size, List.length_append, ht, List.length_replicate]; omega) (fun i hi => ?_)
  rw [Dk.wipe_size] at hi
  rw [Dk.wipe_view h i m (by omega)]
  by_cases h1 : i < n
  · rw [if_neg (by omega), chunk_left (by rw [ht]; omega), chunk_take (by omega), Dk.all_chunk h hi]
  · rw [if_pos (by omega), chunk_right ht (by omega), chunk_zero (by omega)]
theorem Dk.sync_len (d : Dk) : d.sync.sure.length = d.sure.length := by simp [Dk.sync]
theorem Dk.sync_all {d : Dk} (h : d.ok) : d.sync.all = d.all := by
  refine Dk.all_eq h.sync (by rw [Dk.sync_len]; exact Dk.all_len h) (fun i hi => ?_)
  rw [Dk.sync_len] at hi
  rw [Dk.all_chunk h hi, Dk.view_sync hi]
theorem Dk.new_len (n : Nat) : (Dk.new n).sure.length = n := by simp [Dk.new]
theorem Dk.new_all {n : Nat} (h1 : 1 ≤ n) (h2 : n ≤ 4096) : (Dk.new n).all = List.replicate (n * 64) 0 := by
  refine Dk.all_eq (Dk.ok_new h1 h2) (by rw [Dk.new_len, List.length_replicate]) (fun i hi => ?_)
  rw [Dk.new_len] at hi
  rw [chunk_zero hi, Dk.view_new hi]

/-- What Open leaves of a disk. -/
def Dk.opened (d : Dk) : Dk := (d.wipe (span (recs d.all)) (d.sure.length - span (recs d.all))).sync
/-- A disk on which these records stand, and nothing else. -/
structure Clean (d : Dk) (L : List (List UInt8)) : Prop where
  ok : d.ok
  le : ∀ r ∈ L, r.length ≤ 16384
  fits : span L ≤ d.sure.length
  all : d.all = L.flatMap frame ++ List.replicate ((d.sure.length - span L) * 64) 0
theorem rep_all (n : Nat) : (List.replicate n (0 : UInt8)).all (· == 0) = true := all_zero.2 (by rw [List.length_replicate])
theorem Clean.recs {d : Dk} {L : List (List UInt8)} (h : Clean d L) : recs d.all = L := by
  rw [h.all, recs_frames L _ h.le, recs_noughts (rep_all _), List.append_nil]
theorem Dk.span_fits {d : Dk} (h : d.ok) : span (Proofs.Ytjaidhglemnakaa.recs d.all) ≤ d.sure.length := by
  have h1 := recs_span d.all
  rw [Dk.all_len h] at h1
  omega
theorem Dk.opened_len (d : Dk) : d.opened.sure.length = d.sure.length := by unfold Dk.opened; rw [Dk.sync_len, Dk.wipe_size]
theorem Dk.opened_ws (d : Dk) : d.opened.ws = [] := rfl
theorem Dk.opened_clean {d : Dk} (h : d.ok) : Clean d.opened (Proofs.Ytjaidhglemnakaa.recs d.all) := by
  have hs := Dk.span_fits h
  have hw := Dk.wipe_ok h (n := span (Proofs.Ytjaidhglemnakaa.recs d.all)) (d.sure.length - span (Proofs.Ytjaidhglemnakaa.recs d.all)) (by omega)
  refine ⟨hw.sync, recs_le _, by rw [Dk.opened_len]; exact hs, ?_⟩
  rw [Dk.opened_len]
  unfold Dk.opened
  rw [Dk.sync_all hw, Dk.wipe_all h (by omega), recs_take]
theorem Clean.new {n : Nat} (h1 : 1 ≤ n) (h2 : n ≤ 4096) : Clean (Dk.new n) [] :=
  ⟨Dk.ok_new h1 h2, (fun r hr => by cases hr), Nat.zero_le _, by rw [Dk.new_all h1 h2, Dk.new_len]; rfl⟩
theorem Clean.sync {d : Dk} {L : List (List UInt8)} (h : Clean d L) : Clean d.sync L :=
  ⟨h.ok.sync, h.le, by rw [Dk.sync_len]; exact h.fits, by rw [Dk.sync_all h.ok, Dk.sync_len]; exact h.all⟩
/-- What Add leaves of a disk. -/
def Dk.added (d : Dk) (n : Nat) (r : List UInt8) : Dk := d.puts n (frame r) (secs r.length)
theorem Dk.added_len (d : Dk) (n : Nat) (r : List UInt8) : (d.added n r).sure.length = d.sure.length := by unfold Dk.added; rw [Dk.puts_sure]
theorem span_one (r : List UInt8) : span [r] = secs r.length := by simp [span]
theorem span_snoc (L : List (List UInt8)) (r : List UInt8) : span (L ++ [r]) = span L + secs r.length := by rw [span_app, span_one]
theorem Clean.add {d : Dk} {L : List (List UInt8)} (h : Clean d L) {r : List UInt8} (hr : r.length ≤ 16384) (hf : span L + secs r.length ≤ d.sure.length) : Clean (d.added (span L) r) (L ++ [r]) := by
  refine ⟨Dk.puts_ok h.ok (frame_len r) hf _ (Nat.le_refl _), fun x hx => ?_, by rw [Dk.added_len, span_snoc]; exact hf, ?_⟩
  · rcases List.mem_append.1 hx with hx | hx
    · exact h.le x hx
    · simp at hx; subst hx; exact hr
  · rw [Dk.added_len]
    unfold Dk.added
    rw [Dk.puts_all h.ok (frame_len r) hf, h.all, List.take_left' (frames_len L), List.flatMap_append, span_snoc, List.append_assoc]
    congr 1
    rw [List.flatMap_cons, List.flatMap_nil, List.append_nil]
    congr 1
    rw [List.drop_append, List.drop_of_length_le (by rw [frames_len]; omega), List.nil_append, List.drop_replicate, frames_len]
    congr 1
    omega
end Go.Proofs.Ytjaidhglemnakaa
