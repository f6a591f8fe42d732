/- Disks, plainly: sectors, writes that are not sure, what is left. -/
set_option linter.unusedSimpArgs false
set_option linter.unusedVariables false
namespace Go.Proofs.Ytjaidhglemnakaa

/-- A sector's bytes. -/
abbrev Sec := List UInt8
/-- A disk: what is sure, and the writes that are not, in order. -/
structure Dk where
  sure : List Sec
  ws : List (Nat × Sec)

structure Dk.ok (d : Dk) : Prop where
  pos : 0 < d.sure.length
  max : d.sure.length ≤ 4096
  len : ∀ (i : Nat) (h : i < d.sure.length), (d.sure[i]'h).length = 64
  ats : ∀ p ∈ d.ws, p.1 < d.sure.length ∧ p.2.length = 64

/-- What was written last at k. -/
def lastAt : List (Nat × Sec) → Nat → Option Sec
  | [], _ => none
  | p :: l, k => match lastAt l k with
    | some s => some s
    | none => if p.1 = k then some p.2 else none
theorem lastAt_snoc (l : List (Nat × Sec)) (i : Nat) (s : Sec) (k : Nat) : lastAt (l ++ [(i, s)]) k = if i = k then some s else lastAt l k := by
  induction l with
  | nil => simp [lastAt]
  | cons p l ih =>
    rw [List.cons_append, lastAt, ih, lastAt]
    by_cases h : i = k <;> simp [h]
theorem lastAt_mem {l : List (Nat × Sec)} {k : Nat} {s : Sec} (h : lastAt l k = some s) : (k, s) ∈ l := by
  induction l with
  | nil => simp [lastAt] at h
  | cons p l ih =>
    rw [lastAt] at h
    cases hl : lastAt l k with
    | some t => rw [hl] at h; simp at h; subst h; exact List.mem_cons_of_mem _ (ih hl)
    | none =>
      rw [hl] at h
      simp only at h
      by_cases hp : p.1 = k
      · rw [if_pos hp] at h; simp at h; subst h; subst hp; exact List.mem_cons_self
      · rw [if_neg hp] at h; cases h

/-- Bytes, and noughts behind them. -/
def pad (b : List UInt8) : Sec := b ++ List.replicate (64 - b.length) 0
theorem pad_len {b : List UInt8} (h : b.length ≤ 64) : (pad b).length = 64 := by simp [pad]; omega
theorem pad_get (b : List UInt8) (i : Nat) (h : i < 64) : (pad b)[i]? = some (b.getD i 0) := by
  unfold pad
  by_cases hi : i < b.length
  · rw [List.getElem?_append_left hi]; simp [hi]
  · rw [List.getElem?_append_right (by omega)]
    simp [List.getElem?_replicate, show i - b.length < 64 - b.length by omega, List.getElem?_eq_none (show b.length ≤ i by omega)]
/-- A sector as it is read. -/
def Dk.view (d : Dk) (i : Nat) : Sec := (lastAt d.ws i).getD (d.sure.getD i [])
def Dk.write (d : Dk) (i : Nat) (b : List UInt8) : Dk := { d with ws := d.ws ++ [(i, pad b)] }
def Dk.sync (d : Dk) : Dk := { sure := (List.range d.sure.length).map d.view, ws := [] }
/-- The first n bytes are new. -/
def lay (n : Nat) (old new : Sec) : Sec := new.take n ++ old.drop n
theorem lay_len {n : Nat} {old new : Sec} (hn : n ≤ 64) (ho : old.length = 64) (hw : new.length = 64) : (lay n old new).length = 64 := by simp [lay]; omega
theorem lay_all {old new : Sec} (ho : old.length = 64) (hw : new.length = 64) : lay 64 old new = new := by
  unfold lay; rw [List.take_of_length_le (by omega), List.drop_eq_nil_of_le (by omega), List.append_nil]
/-- How many bytes of the i-th write are written. -/
def tornN (torn : Int) (i : Nat) : Nat := if (i : Int) = torn then 32 else 64
theorem tornN_le (torn : Int) (i : Nat) : tornN torn i ≤ 64 := by unfold tornN; split <;> omega
def failStep (keep : Nat) (torn : Int) (cur : List Sec) (i : Nat) (p : Nat × Sec) : List Sec :=
  if keep.testBit i = true then cur.set p.1 (lay (tornN torn i) (cur.getD p.1 []) p.2) else cur
/-- The sectors, when the first k writes were looked at. -/
def failTo (sure : List Sec) (ws : List (Nat × Sec)) (keep : Nat) (torn : Int) : Nat → List Sec
  | 0 => sure
  | k + 1 => match ws[k]? with
    | some p => failStep keep torn (failTo sure ws keep torn k) k p
    | none => failTo sure ws keep torn k
def Dk.fail (d : Dk) (keep : Nat) (torn : Int) : Dk := { sure := failTo d.sure d.ws keep torn (min 64 d.ws.length), ws := [] }
theorem failStep_len (keep : Nat) (torn : Int) (cur : List Sec) (i : Nat) (p : Nat × Sec) : (failStep keep torn cur i p).length = cur.length := by unfold failStep; split <;> simp
theorem failTo_len (sure : List Sec) (ws : List (Nat × Sec)) (keep : Nat) (torn : Int) (k : Nat) : (failTo sure ws keep torn k).length = sure.length := by
  induction k with
  | zero => rfl
  | succ k ih =>
    rw [failTo]
    split
    · rw [failStep_len, ih]
    · exact ih
/-- All sectors have 64 bytes. -/
def Full (l : List Sec) : Prop := ∀ (i : Nat) (h : i < l.length), (l[i]'h).length = 64
theorem Full.set {l : List Sec} (h : Full l) (k : Nat) {s : Sec} (hs : s.length = 64) : Full (l.set k s) := by
  intro i hi
  rw [List.getElem_set]
  split
  · exact hs
  · exact h i _
theorem Full.getD {l : List Sec} (h : Full l) {k : Nat} (hk : k < l.length) : (l.getD k []).length = 64 := by
  rw [List.getD_eq_getElem?_getD, List.getElem?_eq_getElem hk]; exact h k hk
theorem failStep_full {keep : Nat} {torn : Int} {cur : List Sec} {i : Nat} {p : Nat × Sec} (h : Full cur) (hp : p.1 < cur.length) (h2 : p.2.length = 64) : Full (failStep keep torn cur i p) := by
  unfold failStep
  split
  · exact h.set _ (lay_len (tornN_le _ _) (h.getD hp) h2)
  · exact h
theorem failTo_full {sure : List Sec} {ws : List (Nat × Sec)} (keep : Nat) (torn : Int) (hs : Full sure) (hw : ∀ p ∈ ws, p.1 < sure.length ∧ p.2.length = 64) (k : Nat) : Full (failTo sure ws keep torn k) := by
  induction k with
  | zero => exact hs
  | succ k ih =>
    rw [failTo]
    split
    · rename_i p hp
      have := hw p (List.mem_of_getElem? hp)
      exact failStep_full ih (by rw [failTo_len]; exact this.1) this.2
    · exact ih
theorem Dk.ok.full {d : Dk} (h : d.ok) : Full d.sure := h.len
theorem Dk.view_len {d : Dk} (h : d.ok) {i : Nat} (hi : i < d.sure.length) : (d.view i).length = 64 := by
  unfold Dk.view
  cases hl : lastAt d.ws i with
  | none => exact h.full.getD hi
  | some s => exact (h.ats _ (lastAt_mem hl)).2
theorem Dk.ok.write {d : Dk} (h : d.ok) {i : Nat} {b : List UInt8} (hi : i < d.sure.length) (hb : b.length ≤ 64) : (d.write i b).ok :=
  ⟨h.pos, h.max, h.len, fun p hp => by
    rcases List.mem_append.1 hp with hp | hp
    · exact h.ats p hp
    · simp at hp; subst hp; exact ⟨hi, pad_len hb⟩⟩
theorem Dk.ok.sync {d : Dk} (h : d.ok) : d.sync.ok :=
  ⟨by simpa [Dk.sync] using h.pos, by simpa [Dk.sync] using h.max, fun i hi => by simp [Dk.sync] at hi ⊢; exact Dk.view_len h hi, fun p hp => by cases hp⟩
theorem Dk.ok.fail {d : Dk} (h : d.ok) (keep : Nat) (torn : Int) : (d.fail keep torn).ok :=
  ⟨by simpa [Dk.fail, failTo_len] using h.pos, by simpa [Dk.fail, failTo_len] using h.max, failTo_full keep torn h.full h.ats _, fun p hp => by cases hp⟩
/-- A disk of noughts. -/
def Dk.new (n : Nat) : Dk := { sure := List.replicate n (List.replicate 64 0), ws := [] }
theorem Dk.ok_new {n : Nat} (h1 : 1 ≤ n) (h2 : n ≤ 4096) : (Dk.new n).ok :=
  ⟨by simp [Dk.new]; omega, by simpa [Dk.new] using h2, fun i hi => by simp [Dk.new], fun p hp => by cases hp⟩
theorem Dk.view_write (d : Dk) (i : Nat) (b : List UInt8) (k : Nat) : (d.write i b).view k = if i = k then pad b else d.view k := by
  unfold Dk.view Dk.write
  simp only [lastAt_snoc]
  by_cases h : i = k <;> simp [h]
theorem Dk.view_new {n k : Nat} (h : k < n) : (Dk.new n).view k = List.replicate 64 0 := by
  unfold Dk.view Dk.new
  simp [lastAt, h]
theorem Dk.view_sync {d : Dk} {k : Nat} (h : k < d.sure.length) : d.sync.view k = d.view k := by
  unfold Dk.sync
  simp [Dk.view, lastAt, h]
end Go.Proofs.Ytjaidhglemnakaa
