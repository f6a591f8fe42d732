/- What a round of pdqsort comes to: plain facts. -/
import Derived.Test.YtboinccdnaddmaaGreatDoorUBase
set_option linter.unusedSimpArgs false
set_option linter.unusedVariables false
namespace Go.Proofs.YtboinccdnaddmaaGreatDoor
open Go.RowKit Go.Sort

theorem le_of_not {x y : Nat} : ltN x y = false ↔ y ≤ x := by simp [ltN]
theorem sortedN {a b : Nat} {d : Array Nat} : SortedIn ltN a b d ↔ ∀ i j, a ≤ i → i < j → j < b → d[i]! ≤ d[j]! :=
  ⟨fun h i j h1 h2 h3 => le_of_not.1 (h i j h1 h2 h3), fun h i j h1 h2 h3 => le_of_not.2 (h i j h1 h2 h3)⟩
/-- What is left to do of d, a to b: whoever sorts R, a' to b', has sorted all. -/
structure Todo (d : Array Nat) (a b a' b' : Nat) (dk : Array Nat) : Prop where
  le : a ≤ a' ∧ a' ≤ b' ∧ b' ≤ b
  size : dk.size = d.size
  bd : b ≤ d.size
  below : Sort.Below ltN a' b' dk
  goal : ∀ R, PermIn a' b' dk R → SortedIn ltN a' b' R → PermIn a b d R ∧ SortedIn ltN a b R
section
variable {d dk d4 : Array Nat} {a b a' b' mid : Nat}
theorem Todo.start (hab : a ≤ b) (hb : b ≤ d.size) (hB : Sort.Below ltN a b d) : Todo d a b a b d := ⟨⟨Nat.le_refl _, hab, Nat.le_refl _⟩, rfl, hb, hB, fun R h1 h2 => ⟨h1, h2⟩⟩
theorem Todo.perm (h : Todo d a b a' b' dk) (hp : PermIn a' b' dk d4) : Todo d a b a' b' d4 :=
  ⟨h.le, hp.1.trans h.size, h.bd, h.below.perm (by have := h.size; have := h.bd; have := h.le; omega) hp, fun R h1 h2 => h.goal R (permIn_trans _ _ _ _ _ hp h1) h2⟩
theorem Todo.eq (h : Todo d a b a' b' dk) {p : Nat} (hp : PermIn a' b' dk d4) (h0 : 0 < a') (hpl : ltN dk[a' - 1]! p = false) (h1 : a' < mid) (h2 : mid ≤ b') (hle : ∀ k, a' ≤ k → k < mid → d4[k]! ≤ p) (hgt : ∀ k, mid ≤ k → k < b' → p < d4[k]!) : Todo d a b mid b' d4 := by
  have hs := h.size
  have hl := h.le
  have hbd := h.bd
  have hge : ∀ k, a' ≤ k → k < b' → p ≤ dk[k]! := fun k k1 k2 => by
    rcases h.below with e | e
    · omega
    · have := le_of_not.1 (e k k1 k2)
      have := le_of_not.1 hpl
      omega
  have hge4 := permIn_all dk d4 a' b' (fun x => p ≤ x) (by omega) hp hge
  refine ⟨⟨by omega, h2, hl.2.2⟩, hp.1.trans hs, hbd, .inr fun k k1 k2 => le_of_not.2 ?_, fun R hR hsR => h.goal R (permIn_trans _ _ _ _ _ hp (permIn_mono _ _ mid b' a' b' (by omega) (Nat.le_refl _) (by rw [hp.1]; omega) hR)) (sortedN.2 fun i j k1 k2 k3 => ?_)⟩
  · have := hgt k k1 k2
    have := hle (mid - 1) (by omega) (by omega)
    omega
  · have hRgt := permIn_all d4 R mid b' (fun x => p < x) (by rw [hp.1]; omega) hR hgt
    have e : ∀ k, a' ≤ k → k < mid → p ≤ R[k]! ∧ R[k]! ≤ p := fun k q1 q2 => by
      rw [hR.2.1 k (.inl q2)]
      exact ⟨hge4 k q1 (by omega), hle k q1 q2⟩
    rcases Nat.lt_or_ge i mid with hi | hi
    · have := e i k1 hi
      rcases Nat.lt_or_ge j mid with hj | hj
      · have := e j (by omega) hj; omega
      · have := hRgt j hj k3; omega
    · exact sortedN.1 hsR i j hi k2 k3
theorem glue {R : Array Nat} {m : Nat} (h1 : ∀ k, a' ≤ k → k < mid → R[k]! < m) (h2 : R[mid]! = m) (h3 : ∀ k, mid < k → k < b' → m ≤ R[k]!) (hl : SortedIn ltN a' mid R) (hr : SortedIn ltN (mid + 1) b' R) : SortedIn ltN a' b' R :=
  sortedN.2 fun i j k1 k2 k3 => by
    rcases Nat.lt_trichotomy i mid with hi | hi | hi
    · rcases Nat.lt_trichotomy j mid with hj | hj | hj
      · exact sortedN.1 hl i j k1 k2 hj
      · subst hj; have := h1 i k1 hi; omega
      · have := h1 i k1 hi; have := h3 j hj k3; omega
    · subst hi; have := h3 j k2 k3; omega
    · exact sortedN.1 hr i j hi k2 k3
theorem Todo.cells (h : Todo d a b a' b' dk) (hp : PermIn a' b' dk d4) (h1 : a' ≤ mid) (h2 : mid < b') (hhi : ∀ k, mid < k → k < b' → d4[mid]! ≤ d4[k]!) : Sort.Below ltN a' mid d4 ∧ Sort.Below ltN (mid + 1) b' d4 :=
  ⟨((h.perm hp).below).mono (by omega), .inr fun k k1 k2 => le_of_not.2 (by rw [Nat.add_sub_cancel]; exact hhi k (by omega) k2)⟩
theorem Todo.left (h : Todo d a b a' b' dk) (hp : PermIn a' b' dk d4) (h1 : a' ≤ mid) (h2 : mid < b') (hlo : ∀ k, a' ≤ k → k < mid → d4[k]! < d4[mid]!) (hhi : ∀ k, mid < k → k < b' → d4[mid]! ≤ d4[k]!) {L : Array Nat} (hL : PermIn a' mid d4 L) (hsL : SortedIn ltN a' mid L) : Todo d a b (mid + 1) b' L := by
  have hs := h.size
  have hl := h.le
  have hbd := h.bd
  have h4 : d4.size = d.size := hp.1.trans hs
  have hLs : L.size = d.size := hL.1.trans h4
  have eL : ∀ k, mid ≤ k → L[k]! = d4[k]! := fun k hk => hL.2.1 k (.inr hk)
  have lL := permIn_all d4 L a' mid (fun x => x < d4[mid]!) (by omega) hL hlo
  have hL2 : ∀ k, mid < k → k < b' → d4[mid]! ≤ L[k]! := fun k k1 k2 => by rw [eL k (by omega)]; exact hhi k k1 k2
  refine ⟨⟨by omega, by omega, hl.2.2⟩, hLs, hbd, .inr fun k k1 k2 => le_of_not.2 (by rw [Nat.add_sub_cancel, eL mid (Nat.le_refl _)]; exact hL2 k (by omega) k2), fun R hR hsR => h.goal R ?_ ?_⟩
  · exact permIn_trans _ _ _ _ _ hp (permIn_trans _ _ _ _ _ (permIn_mono _ _ a' mid a' b' (Nat.le_refl _) (by omega) (by omega) hL) (permIn_mono _ _ (mid + 1) b' a' b' (by omega) (Nat.le_refl _) (by omega) hR))
  · have eR : ∀ k, k ≤ mid → R[k]! = L[k]! := fun k hk => hR.2.1 k (.inl (by omega))
    have rR := permIn_all L R (mid + 1) b' (fun x => d4[mid]! ≤ x) (by omega) hR (fun k k1 k2 => hL2 k (by omega) k2)
    exact glue (m := d4[mid]!) (fun k k1 k2 => by rw [eR k (by omega)]; exact lL k k1 k2) (by rw [eR mid (Nat.le_refl _), eL mid (Nat.le_refl _)]) (fun k k1 k2 => rR k (by omega) k2)
      (hsL.congr fun k _ k2 => eR k (by omega)) hsR
theorem Todo.right (h : Todo d a b a' b' dk) (hp : PermIn a' b' dk d4) (h1 : a' ≤ mid) (h2 : mid < b') (hlo : ∀ k, a' ≤ k → k < mid → d4[k]! < d4[mid]!) (hhi : ∀ k, mid < k → k < b' → d4[mid]! ≤ d4[k]!) {L : Array Nat} (hL : PermIn (mid + 1) b' d4 L) (hsL : SortedIn ltN (mid + 1) b' L) : Todo d a b a' mid L := by
  have hs := h.size
  have hl := h.le
  have hbd := h.bd
  have h4 : d4.size = d.size := hp.1.trans hs
  have hLs : L.size = d.size := hL.1.trans h4
  have eL : ∀ k, k ≤ mid → L[k]! = d4[k]! := fun k hk => hL.2.1 k (.inl (by omega))
  have lL := permIn_all d4 L (mid + 1) b' (fun x => d4[mid]! ≤ x) (by omega) hL (fun k k1 k2 => hhi k (by omega) k2)
  refine ⟨⟨hl.1, h1, by omega⟩, hLs, hbd, ?_, fun R hR hsR => h.goal R ?_ ?_⟩
  · rcases (h.cells hp h1 h2 hhi).1 with e | e
    · exact .inl e
    · rcases Nat.eq_zero_or_pos a' with z | z
      · exact .inl z
      · exact .inr fun k k1 k2 => by rw [eL k (by omega), eL (a' - 1) (by omega)]; exact e k k1 k2
  · exact permIn_trans _ _ _ _ _ hp (permIn_trans _ _ _ _ _ (permIn_mono _ _ (mid + 1) b' a' b' (by omega) (Nat.le_refl _) (by omega) hL) (permIn_mono _ _ a' mid a' b' (Nat.le_refl _) (by omega) (by omega) hR))
  · have eR : ∀ k, mid ≤ k → R[k]! = L[k]! := fun k hk => hR.2.1 k (.inr hk)
    have rR := permIn_all L R a' mid (fun x => x < d4[mid]!) (by omega) hR (fun k k1 k2 => by rw [eL k (by omega)]; exact hlo k k1 k2)
    exact glue (m := d4[mid]!) rR (by rw [eR mid (Nat.le_refl _), eL mid (Nat.le_refl _)]) (fun k k1 k2 => by rw [eR k (by omega)]; exact lL k (by omega) k2)
      hsR (hsL.congr fun k k1 _ => eR k (by omega))
end
end Go.Proofs.YtboinccdnaddmaaGreatDoor
