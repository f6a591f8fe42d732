/- Frames, plain facts: numbers as four bytes, what a frame is, what is got from bytes. -/
import Derived.Test.YtjaidhglemnakaaSMath
set_option linter.unusedSimpArgs false
set_option linter.unusedVariables false
namespace Go.Proofs.Ytjaidhglemnakaa

theorem u8of {n : Nat} (h : n < 256) : (UInt8.ofNat n).toNat = n := by simp; omega
/-- A number's byte, the lowest one is the 0th. -/
def byteBE (n k : Nat) : UInt8 := UInt8.ofNat (n / 256 ^ k % 256)
theorem byteBE_nat (n k : Nat) : (byteBE n k).toNat = n / 256 ^ k % 256 := u8of (Nat.mod_lt _ (by omega))
/-- A number as four bytes, the highest first. -/
def be4 (n : Nat) : List UInt8 := [byteBE n 3, byteBE n 2, byteBE n 1, byteBE n 0]
theorem be4_len (n : Nat) : (be4 n).length = 4 := rfl
/-- Bytes as a number. -/
def num (l : List UInt8) : Nat := l.foldl (fun n x => 256 * n + x.toNat) 0
theorem num_four (a b c d : UInt8) : num [a, b, c, d] = 16777216 * a.toNat + 65536 * b.toNat + 256 * c.toNat + d.toNat := by
  simp only [num, List.foldl_cons, List.foldl_nil]; omega
theorem four_list {l : List UInt8} (h : l.length = 4) : ∃ a b c d, l = [a, b, c, d] := by
  match l, h with
  | [a, b, c, d], _ => exact ⟨a, b, c, d, rfl⟩
theorem num_be4 {n : Nat} (h : n < 4294967296) : num (be4 n) = n := by
  unfold be4
  rw [num_four, byteBE_nat, byteBE_nat, byteBE_nat, byteBE_nat]
  omega
theorem num_lt {l : List UInt8} (h : l.length = 4) : num l < 4294967296 := by
  obtain ⟨a, b, c, d, rfl⟩ := four_list h
  have := a.toNat_lt; have := b.toNat_lt; have := c.toNat_lt; have := d.toNat_lt
  rw [num_four]; omega
theorem be4_num {l : List UInt8} (h : l.length = 4) : be4 (num l) = l := by
  obtain ⟨a, b, c, d, rfl⟩ := four_list h
  have ha := a.toNat_lt; have hb := b.toNat_lt; have hc := c.toNat_lt; have hd := d.toNat_lt
  rw [num_four]
  have e : ∀ k (x : UInt8), (16777216 * a.toNat + 65536 * b.toNat + 256 * c.toNat + d.toNat) / 256 ^ k % 256 = x.toNat → byteBE (16777216 * a.toNat + 65536 * b.toNat + 256 * c.toNat + d.toNat) k = x := fun k x h => by
    apply UInt8.toNat_inj.1
    rw [byteBE_nat, h]
  unfold be4
  rw [e 3 a (by omega), e 2 b (by omega), e 1 c (by omega), e 0 d (by omega)]
theorem be4_inj {a b : Nat} (ha : a < 4294967296) (hb : b < 4294967296) (h : be4 a = be4 b) : a = b := by
  rw [← num_be4 ha, h, num_be4 hb]
/-- Of how many sectors the frame of so many bytes is. -/
def secs (n : Nat) : Nat := (n + 71) / 64
theorem secs_ge (n : Nat) : n + 8 ≤ secs n * 64 := by unfold secs; omega
theorem secs_lt (n : Nat) : secs n * 64 < n + 8 + 64 := by unfold secs; omega
theorem secs_pos (n : Nat) : 1 ≤ secs n := by unfold secs; omega
/-- A frame's sum. -/
def fsum (r : List UInt8) : BitVec 32 := sumOf (be4 r.length ++ r)
/-- A record's frame. -/
def frame (r : List UInt8) : List UInt8 := be4 r.length ++ (be4 (fsum r).toNat ++ (r ++ List.replicate (secs r.length * 64 - (8 + r.length)) 0))
theorem frame_len (r : List UInt8) : (frame r).length = secs r.length * 64 := by
  have := secs_ge r.length
  unfold frame
  simp only [List.length_append, be4_len, List.length_replicate]
  omega
/-- The record that bytes begin with. -/
def getF (b : List UInt8) : Option (List UInt8) :=
  if b.length < 64 then none else if 16384 < num (b.take 4) then none else if b.length < secs (num (b.take 4)) * 64 then none
  else if b.take (secs (num (b.take 4)) * 64) = frame ((b.drop 8).take (num (b.take 4))) then some ((b.drop 8).take (num (b.take 4))) else none
theorem frame_head (r m : List UInt8) : (frame r ++ m).take 4 = be4 r.length := by
  unfold frame
  rw [List.append_assoc, List.take_left' (be4_len _)]
theorem frame_body (r m : List UInt8) : ((frame r ++ m).drop 8).take r.length = r := by
  unfold frame
  rw [List.append_assoc, List.append_assoc, ← List.append_assoc (be4 _), List.drop_left' (by simp [be4_len]), List.append_assoc, List.take_left' rfl]
theorem getF_frame (r m : List UInt8) (h : r.length ≤ 16384) : getF (frame r ++ m) = some r := by
  have hl := frame_len r
  have h1 := secs_pos r.length
  have hn : num ((frame r ++ m).take 4) = r.length := by rw [frame_head, num_be4 (by omega)]
  unfold getF
  rw [hn, frame_body, if_neg (by rw [List.length_append, hl]; omega), if_neg (by omega), if_neg (by rw [List.length_append, hl]; omega), List.take_left' hl, if_pos rfl]
theorem getF_some {b r : List UInt8} (h : getF b = some r) : r.length ≤ 16384 ∧ secs r.length * 64 ≤ b.length ∧ b.take (secs r.length * 64) = frame r := by
  unfold getF at h
  split at h
  · cases h
  split at h
  · cases h
  split at h
  · cases h
  split at h
  · rename_i h1 h2 h3 h4
    have h5 := secs_ge (num (b.take 4))
    have hr : ((b.drop 8).take (num (b.take 4))).length = num (b.take 4) := by rw [List.length_take, List.length_drop]; omega
    obtain rfl := Option.some.inj h
    rw [hr]
    exact ⟨by omega, by omega, h4⟩
  · cases h
theorem take_parts (b : List UInt8) (n W : Nat) (h : 8 + n ≤ W) : b.take W = b.take 4 ++ ((b.drop 4).take 4 ++ ((b.drop 8).take n ++ (b.drop (8 + n)).take (W - (8 + n)))) := by
  have e1 : b.take W = b.take 4 ++ (b.drop 4).take (W - 4) := by rw [← List.take_add]; congr 1; omega
  have e2 : (b.drop 4).take (W - 4) = (b.drop 4).take 4 ++ (b.drop 8).take (W - 8) := by
    rw [show (b.drop 8) = (b.drop 4).drop 4 by rw [List.drop_drop], ← List.take_add]; congr 1; omega
  have e3 : (b.drop 8).take (W - 8) = (b.drop 8).take n ++ (b.drop (8 + n)).take (W - (8 + n)) := by
    rw [show (b.drop (8 + n)) = (b.drop 8).drop n by rw [List.drop_drop], ← List.take_add]; congr 1; omega
  rw [e1, e2, e3]
theorem all_zero {l : List UInt8} : l.all (· == 0) = true ↔ l = List.replicate l.length 0 := by
  rw [List.all_eq_true, List.eq_replicate_iff]
  simp
/-- Whether bytes begin with the frame, part by part. -/
theorem frame_parts (b : List UInt8) (n : Nat) (hn : n = num (b.take 4)) (hW : secs n * 64 ≤ b.length) :
    b.take (secs n * 64) = frame ((b.drop 8).take n) ↔ num ((b.drop 4).take 4) = (sumOf (b.take 4 ++ (b.drop 8).take n)).toNat ∧ ((b.drop (8 + n)).take (secs n * 64 - (8 + n))).all (· == 0) = true := by
  have h5 := secs_ge n
  have l4 : (b.take 4).length = 4 := by rw [List.length_take]; omega
  have l8 : ((b.drop 4).take 4).length = 4 := by rw [List.length_take, List.length_drop]; omega
  have hr : ((b.drop 8).take n).length = n := by rw [List.length_take, List.length_drop]; omega
  have hp : ((b.drop (8 + n)).take (secs n * 64 - (8 + n))).length = secs n * 64 - (8 + n) := by rw [List.length_take, List.length_drop]; omega
  have hb : be4 n = b.take 4 := by rw [hn]; exact be4_num l4
  rw [take_parts b n _ (by omega), all_zero, hp]
  unfold frame fsum
  rw [hr, hb]
  have hs := (sumOf (b.take 4 ++ (b.drop 8).take n)).isLt
  generalize (sumOf (b.take 4 ++ (b.drop 8).take n)).toNat = s at *
  constructor
  · intro h
    have h1 := List.append_cancel_left h
    obtain ⟨h2, h3⟩ := List.append_inj h1 (by rw [l8, be4_len])
    exact ⟨by rw [h2, num_be4 (by omega)], List.append_cancel_left h3⟩
  · rintro ⟨h1, h2⟩
    rw [← h2, ← h1, be4_num l8]
theorem getF_step {b : List UInt8} (h1 : ¬ b.length < 64) (h2 : ¬ 16384 < num (b.take 4)) (h3 : ¬ b.length < secs (num (b.take 4)) * 64) :
    getF b = if num ((b.drop 4).take 4) = (sumOf (b.take 4 ++ (b.drop 8).take (num (b.take 4)))).toNat ∧ ((b.drop (8 + num (b.take 4))).take (secs (num (b.take 4)) * 64 - (8 + num (b.take 4)))).all (· == 0) = true then some ((b.drop 8).take (num (b.take 4))) else none := by
  unfold getF
  rw [if_neg h1, if_neg h2, if_neg h3]
  have := frame_parts b _ rfl (by omega)
  split
  · rename_i h; rw [if_pos (this.1 h)]
  · rename_i h; rw [if_neg (fun h' => h (this.2 h'))]
/-- Unlike records have unlike frames, neither of which begins the other one. -/
theorem frame_apart {a b : List UInt8} (ha : a.length ≤ 16384) (hb : b.length ≤ 16384) {n : Nat} (hn : n = min (frame a).length (frame b).length) : (frame a).take n = (frame b).take n ↔ a = b := by
  constructor
  · intro h
    have la := frame_len a
    have lb := frame_len b
    have pa := secs_pos a.length
    have pb := secs_pos b.length
    have h4 : ((frame a).take n).take 4 = ((frame b).take n).take 4 := by rw [h]
    rw [List.take_take, List.take_take, Nat.min_eq_left (by omega)] at h4
    have fa := frame_head a []
    have fb := frame_head b []
    rw [List.append_nil] at fa fb
    rw [fa, fb] at h4
    have hl := be4_inj (by omega) (by omega) h4
    rw [List.take_of_length_le (by rw [la]; rw [la, lb, hl] at hn; rw [hl]; omega), List.take_of_length_le (by rw [lb]; rw [la, lb, hl] at hn; omega)] at h
    have ga := frame_body a []
    have gb := frame_body b []
    rw [List.append_nil] at ga gb
    rw [← ga, h, hl, gb]
  · rintro rfl; rfl
end Go.Proofs.Ytjaidhglemnakaa
