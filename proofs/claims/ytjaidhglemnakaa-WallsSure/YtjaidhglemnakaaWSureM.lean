/- What is left of a disk with records on it, plainly. -/
import Derived.Test.YtjaidhglemnakaaWCleanP
set_option linter.unusedSimpArgs false
set_option linter.unusedVariables false
namespace Go.Proofs.Ytjaidhglemnakaa

theorem chunks_take {a b : List UInt8} {n : Nat} (h : ∀ k, k < n → chunk a k = chunk b k) : a.take (n * 64) = b.take (n * 64) := by
  induction n with
  | zero => simp
  | succ n ih =>
    rw [Nat.succ_mul, List.take_add, List.take_add, ih (fun k hk => h k (by omega))]
    have := h n (by omega)
    unfold chunk at this
    rw [this]
theorem chunks_zero {b : List UInt8} {m : Nat} (hl : b.length = m * 64) (h : ∀ k, k < m → chunk b k = List.replicate 64 0) : b = List.replicate (m * 64) 0 := by
  have := chunks_take (a := b) (b := List.replicate (m * 64) 0) (n := m) (fun k hk => by rw [h k hk, chunk_zero hk])
  rwa [List.take_of_length_le (by omega), List.take_of_length_le (by rw [List.length_replicate]; exact Nat.le_refl _)] at this
theorem take32_lay {n : Nat} {old new : List UInt8} (hn : 32 ≤ n) (hl : new.length = 64) : (lay n old new).take 32 = new.take 32 := by
  unfold lay
  rw [List.take_append_of_le_length (by rw [List.length_take]; omega), List.take_take, Nat.min_eq_left hn]
/-- A sector that fails: as it was, or begun anew. -/
theorem failTo_cases {sure : List Sec} {ws : List (Nat × Sec)} {keep : Nat} {torn : Int} (hf : Full sure) (hw : ∀ p ∈ ws, p.1 < sure.length ∧ p.2.length = 64) (i : Nat) : ∀ t,
    ((∀ p ∈ ws, p.1 ≠ i) → (failTo sure ws keep torn t).getD i [] = sure.getD i []) ∧
    (((failTo sure ws keep torn t).getD i []).take 32 = (sure.getD i []).take 32 ∨ ∃ p ∈ ws, p.1 = i ∧ ((failTo sure ws keep torn t).getD i []).take 32 = p.2.take 32) := by
  intro t
  induction t with
  | zero => exact ⟨fun _ => rfl, .inl rfl⟩
  | succ t ih =>
    by_cases ht : t < ws.length
    · rw [failTo_succ ht]
      obtain ⟨p, hp⟩ : ∃ p, p = ws[t]'ht := ⟨_, rfl⟩
      have hpm : p ∈ ws := by rw [hp]; exact List.getElem_mem ht
      have hpl := hw p hpm
      rw [← hp]
      unfold failStep
      split
      · by_cases e : p.1 = i
        · refine ⟨fun h => absurd e (h p hpm), .inr ⟨p, hpm, e, ?_⟩⟩
          have hlt : i < (failTo sure ws keep torn t).length := by rw [failTo_len, ← e]; exact hpl.1
          rw [e]
          have : ((failTo sure ws keep torn t).set i (lay (tornN torn t) ((failTo sure ws keep torn t).getD i []) p.2)).getD i [] = lay (tornN torn t) ((failTo sure ws keep torn t).getD i []) p.2 := by
            simp [List.getD_eq_getElem?_getD, List.getElem?_set_self hlt]
          rw [this]
          exact take32_lay (by unfold tornN; split <;> omega) hpl.2
        · have : ((failTo sure ws keep torn t).set p.1 (lay (tornN torn t) ((failTo sure ws keep torn t).getD p.1 []) p.2)).getD i [] = (failTo sure ws keep torn t).getD i [] := by
            simp only [List.getD_eq_getElem?_getD]
            rw [List.getElem?_set_ne e]
          rw [this]
          exact ih
      · exact ih
    · have : failTo sure ws keep torn (t + 1) = failTo sure ws keep torn t := by
        rw [failTo]
        simp [List.getElem?_eq_none (show ws.length ≤ t by omega)]
      rw [this]
      exact ih
/-- Of bytes at which records may begin, at most so many are told. -/
theorem recs_few : ∀ (L : List (List UInt8)) (b : List UInt8), (∀ r ∈ L, r.length ≤ 16384) → span L * 64 ≤ b.length →
    (∀ A r C, L = A ++ r :: C → (b.drop (span A * 64)).take 32 = (frame r).take 32 ∨ (b.drop (span A * 64)).take 32 = List.replicate 32 0) →
    (b.drop (span L * 64)).all (· == 0) = true → (recs b).length ≤ L.length ∧ span (recs b) ≤ span L := by
  intro L
  induction L with
  | nil =>
    intro b _ _ _ hz
    rw [span_nil, Nat.zero_mul, List.drop_zero] at hz
    rw [recs_noughts hz]
    exact ⟨Nat.le_refl _, Nat.le_refl _⟩
  | cons r L ih =>
    intro b hle hlen hat hz
    rw [span_cons] at hlen hz
    cases hg : getF b with
    | none => rw [recs_none hg]; exact ⟨Nat.zero_le _, Nat.zero_le _⟩
    | some r' =>
      have h0 := hat [] r L rfl
      rw [span_nil, Nat.zero_mul, List.drop_zero] at h0
      obtain ⟨g1, g2, g3⟩ := getF_some hg
      have hsp' := secs_pos r'.length
      have hsp := secs_pos r.length
      have hr := hle r (by simp)
      have hlr : r'.length = r.length := by
        rcases h0 with h0 | h0
        · have e1 : b.take 4 = be4 r.length := by
            have := congrArg (List.take 4) h0
            rw [List.take_take, List.take_take] at this
            have e2 := frame_head r []
            rw [List.append_nil] at e2
            rw [← e2]
            exact this
          have e3 : b.take 4 = be4 r'.length := by
            have := congrArg (List.take 4) g3
            rw [List.take_take, Nat.min_eq_left (by omega)] at this
            have e2 := frame_head r' []
            rw [List.append_nil] at e2
            rw [this]
            exact e2
          exact be4_inj (by omega) (by omega) (e3.symm.trans e1)
        · exfalso
          have : b.take 8 = List.replicate 8 0 := by
            have := congrArg (List.take 8) h0
            rw [List.take_take] at this
            exact this
          rw [getF_eight this] at hg
          cases hg
      rw [recs_some hg, hlr]
      have hi := ih (b.drop (secs r.length * 64)) (fun x hx => hle x (by simp [hx])) (by rw [List.length_drop]; omega) (fun A x C hA => by
        have := hat (r :: A) x C (by rw [hA]; rfl)
        rw [span_cons, Nat.add_mul, ← List.drop_drop] at this
        exact this) (by rw [List.drop_drop, ← Nat.add_mul]; exact hz)
      rw [List.length_cons, List.length_cons, span_cons, span_cons, hlr]
      omega
/-- What waits: whole sectors behind n, ahead of e, each as it is read. -/
def Waits (d : Dk) (n e : Nat) : Prop := ∀ p ∈ d.ws, n ≤ p.1 ∧ p.1 < e ∧ p.2 = d.view p.1
theorem Waits.nil {d : Dk} (h : d.ws = []) (n e : Nat) : Waits d n e := by intro p hp; rw [h] at hp; cases hp
theorem Waits.added {d : Dk} {n e : Nat} (h : Waits d n e) (hn : n ≤ e) (r : List UInt8) : Waits (d.added e r) n (e + secs r.length) := by
  intro p hp
  have hfl := frame_len r
  unfold Dk.added at hp ⊢
  rw [Dk.puts_ws hfl _ (Nat.le_refl _)] at hp
  rw [Dk.puts_view hfl _ _ (Nat.le_refl _)]
  rcases List.mem_append.1 hp with hp | hp
  · obtain ⟨h1, h2, h3⟩ := h p hp
    exact ⟨h1, by omega, by rw [if_neg (by omega)]; exact h3⟩
  · obtain ⟨q, hq, rfl⟩ := List.mem_map.1 hp
    rw [List.mem_range] at hq
    refine ⟨by show n ≤ e + q; omega, by show e + q < _; omega, ?_⟩
    show chunk (frame r) q = _
    rw [if_pos ⟨Nat.le_add_right _ _, by show e + q < _; omega⟩, Nat.add_sub_cancel_left]
theorem Dk.low_view (d : Dk) (i : Nat) : d.low.view i = d.sure.getD i [] := rfl
theorem frames_first (A : List (List UInt8)) (r : List UInt8) (C : List (List UInt8)) (z : List UInt8) : ((((A ++ r :: C).flatMap frame) ++ z).drop (span A * 64)).take 32 = (frame r).take 32 := by
  rw [List.flatMap_append, List.append_assoc, List.drop_left' (frames_len A), List.flatMap_cons, List.append_assoc, List.take_append_of_le_length (by rw [frame_len]; have := secs_pos r.length; omega)]
/-- What is left, where the records Lk were sure: these first, and no more than were added. -/
theorem sure_few {d : Dk} {L Lk rest : List (List UInt8)} (hL : L = Lk ++ rest) (c : Clean d L) (c0 : Clean d.low Lk) (hw : Waits d (span Lk) (span L)) (keep : Nat) (torn : Int) :
    (∃ M, recs (d.fail keep torn).all = Lk ++ M) ∧ (recs (d.fail keep torn).all).length ≤ L.length ∧ span (recs (d.fail keep torn).all) ≤ span L := by
  have hok := c.ok
  have hfo := hok.fail keep torn
  have hsz := Dk.fail_len d keep torn
  have hal := Dk.all_len hfo
  rw [hsz] at hal
  have hfits := c.fits
  have hLk : span Lk ≤ span L := by rw [hL, span_app]; omega
  have hcase := fun i => failTo_cases (keep := keep) (torn := torn) hok.full hok.ats i (min 64 d.ws.length)
  have hv : ∀ i, i < d.sure.length → chunk (d.fail keep torn).all i = (failTo d.sure d.ws keep torn (min 64 d.ws.length)).getD i [] := fun i hi => by
    rw [Dk.all_chunk hfo (by rw [hsz]; exact hi)]
    rfl
  have hlo : ∀ i, i < d.sure.length → chunk d.low.all i = d.sure.getD i [] := fun i hi => by
    rw [Dk.all_chunk (Dk.low_ok hok) hi]
    rfl
  have hnone : ∀ i, i < span Lk ∨ span L ≤ i → ∀ p ∈ d.ws, p.1 ≠ i := fun i hi p hp e => by
    obtain ⟨h1, h2, -⟩ := hw p hp
    omega
  have htk : (d.fail keep torn).all.take (span Lk * 64) = Lk.flatMap frame := by
    rw [chunks_take (b := d.low.all) (fun i hi => by rw [hv i (by omega), hlo i (by omega)]; exact (hcase i).1 (hnone i (.inl hi))), c0.all, List.take_left' (frames_len Lk)]
  have hdz : (d.fail keep torn).all.drop (span L * 64) = List.replicate ((d.sure.length - span L) * 64) 0 := by
    refine chunks_zero (by rw [List.length_drop, hal]; omega) (fun i hi => ?_)
    rw [chunk_drop, hv _ (by omega), (hcase (span L + i)).1 (hnone _ (.inr (by omega))), ← Dk.low_view]
    exact c0.behind (by omega) (by show _ < d.sure.length; omega)
  refine ⟨recs_first Lk _ c0.le htk, recs_few L _ c.le (by rw [hal]; omega) (fun A r C hA => ?_) (by rw [hdz]; exact rep_all _)⟩
  have hspA : span A < span L := by rw [hA, span_app, span_cons]; have := secs_pos r.length; omega
  have hiA : span A < d.sure.length := by omega
  have hck : ∀ (b : List UInt8), (b.drop (span A * 64)).take 32 = (chunk b (span A)).take 32 := fun b => by unfold chunk; rw [List.take_take, Nat.min_eq_left (by omega)]
  have hfr : (d.view (span A)).take 32 = (frame r).take 32 := by
    rw [← Dk.all_chunk hok hiA, ← hck, c.all, hA]
    exact frames_first A r C _
  rw [hck, hv _ hiA]
  rcases (hcase (span A)).2 with h1 | ⟨p, hp, hpi, h1⟩
  · by_cases hin : span A < span Lk
    · refine .inl ?_
      rw [h1, ← hfr, ← hlo _ hiA, ← Dk.all_chunk hok hiA]
      have e1 : d.low.all.take (span Lk * 64) = d.all.take (span Lk * 64) := by
        rw [c0.all, List.take_left' (frames_len Lk), c.all, hL, List.flatMap_append, List.append_assoc, List.take_left' (frames_len Lk)]
      rw [← chunk_take (k := span Lk * 64) (b := d.low.all) (by omega), e1, chunk_take (by omega)]
    · refine .inr ?_
      rw [h1, ← Dk.low_view, c0.behind (by omega) (by show _ < d.sure.length; omega), List.take_replicate]
      rfl
  · refine .inl ?_
    rw [h1, (hw p hp).2.2, hpi, hfr]
end Go.Proofs.Ytjaidhglemnakaa
