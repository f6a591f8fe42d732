/- The walk of slices.Delete of one message, and of a queue's pull. -/
import Derived.Test.YtpmmdbdooclcoabBaQueue
import Derived.Deep.RegionLaw
import Derived.Lib.SliceRun
import Derived.Shelf.RegionOpenPlain
set_option linter.unusedSimpArgs false
set_option linter.unusedVariables false
namespace Go.Proofs.Ytpmmdbdooclcoab
open Go.RowKit

/-- The first of some that lie in a row, fewer of them. -/
theorem own_few {w : World} {base : Nat} {e : TypeId} {s g n n' cap : Nat} {xs : List Value} (h : w.ownsRow base e s (.slice (some ⟨g, 0, none⟩) n cap) n xs) (hn : n' ≤ n) : w.ownsRow base e s (.slice (some ⟨g, 0, none⟩) n' cap) n' (xs.take (n' * s)) := by
  have hm : n' * s ≤ n * s := Nat.mul_le_mul_right _ hn
  refine ⟨by rw [List.length_take, h.1]; omega, ?_⟩
  rcases h.2 with ⟨h1, _⟩ | ⟨g', cap', cur, h1, h2, h3, h4, h5, h6, h7⟩
  · cases h1
  · simp only [Value.slice.injEq, Option.some.injEq, Addr.mk.injEq, and_true, true_and] at h1
    obtain ⟨rfl, rfl⟩ := h1
    refine .inr ⟨g, cap, cur, rfl, h2, h3, by omega, h5, h6, ?_⟩
    rw [← h7, List.take_take, Nat.min_eq_left hm]
theorem St.few {S0 : Nat → Prop} {w0 w : World} {e : TypeId} {s g n n' cap : Nat} {xs : List Value} {L : List Part} (h : St S0 w0 w (Part.row e s (.slice (some ⟨g, 0, none⟩) n cap) n xs :: L)) (hn : n' ≤ n) : St S0 w0 w (Part.row e s (.slice (some ⟨g, 0, none⟩) n' cap) n' (xs.take (n' * s)) :: L) :=
  h.keep (fun S ⟨h1, h2⟩ => ⟨S, ⟨own_few h1 hn, h2⟩, fun _ h => h⟩)
theorem St.setCells {S0 : Nat → Prop} {w0 : World} {e : TypeId} {s g n cap : Nat} {L : List Part} : ∀ (us : List Value) (w : World) (xs : List Value) (o : Nat), o + us.length ≤ xs.length → St S0 w0 w (Part.row e s (.slice (some ⟨g, 0, none⟩) n cap) n xs :: L) →
    St S0 w0 (w.setCells g o us) (Part.row e s (.slice (some ⟨g, 0, none⟩) n cap) n (xs.take o ++ us ++ xs.drop (o + us.length)) :: L) := by
  intro us
  induction us with
  | nil => intro w xs o _ h; simpa [World.setCells] using h
  | cons u us ih =>
    intro w xs o ho h
    simp only [List.length_cons] at ho
    have h1 := ih (w.setCell ⟨g, o, none⟩ u) (xs.set o u) (o + 1) (by rw [List.length_set]; omega) (h.row_set o u)
    have e1 : (xs.set o u).take (o + 1) ++ us ++ (xs.set o u).drop (o + 1 + us.length) = xs.take o ++ u :: us ++ xs.drop (o + (us.length + 1)) := by
      rw [List.take_add_one, List.getElem?_set_self (by omega), List.take_set_of_le (Nat.le_refl _), List.drop_set_of_lt (by omega), show o + 1 + us.length = o + (us.length + 1) by omega]
      simp
    rw [e1] at h1
    exact h1
def zCells : List Value := [.int .u8 0, .int .u8 0, .int .u8 0, .int .u32 0, .slice none 0 0, .slice none 0 0]
theorem run_clear_msg (w : World) (ty : TypeId) (b o c : Nat) (hc : ∀ j, j < 6 → (w.cell? ⟨b, o + j, none⟩).isSome = true) (hf : ∀ j, j < 6 → w.frozen? ⟨b, o + j, none⟩ = false) :
    (Builtin.clear_ #[41] ty #[.slice (some ⟨b, o, none⟩) 1 c]).run Try.prog w = .ok (.tuple #[]) (w.setCells b o zCells) := by
  obtain ⟨i0, hi, hz0, hz1, hz2⟩ := info_parts info_freshMsg
  have hst := run_storeCells_cells (P := Try.prog) b o zCells 0 w (by simpa [zCells] using hc) (by simpa [zCells] using hf) (by intro v hv; simp [zCells] at hv; rcases hv with rfl | rfl | rfl <;> rfl)
  simp only [Nat.add_zero] at hst
  have hzc : (Builtin.zeroCells (Value.agg #[.int .u8 0, .int .u8 0, .int .u8 0, .int .u32 0, .slice none 0 0, .slice none 0 0]).cells 1).toList = zCells := by
    simp [Builtin.zeroCells, zCells, Value.cells]
    rfl
  simp [Builtin.clear_, run_underlying Try.underlying41, zeroValue, typeInfo, hi, hz0, hzc, hst]
theorem take_drop_one {α : Type} (xs : List α) (a b c : Nat) (h : a + b + c = xs.length) : (((xs.take a ++ xs.drop (a + b) ++ xs.drop (a + c))).take (a + c)) = xs.take a ++ xs.drop (a + b) := by
  rw [List.take_append_of_le_length (by simp; omega), List.take_of_length_le (by simp; omega)]
set_option maxHeartbeats 4000000 in
set_option maxRecDepth 1000000 in
theorem delete_ok {S0 : Nat → Prop} {w0 w : World} {L : List Part} (g n cap i : Nat) (xs : List Value) (hi : i < n) (hn : n ≤ 1000000) (h1 : ∀ u ∈ xs, u.oneCell' = true)
    (h : St S0 w0 w (Part.row 27 6 (.slice (some ⟨g, 0, none⟩) n cap) n xs :: L)) :
    Calls Try.prog 30 #[.slice (some ⟨g, 0, none⟩) n cap, .int .i64 (i : Int), .int .i64 ((i + 1 : Nat) : Int)] w fun e w' => e = .returned (.slice (some ⟨g, 0, none⟩) (n - 1) cap) ∧
      St S0 w0 w' (Part.row 27 6 (.slice (some ⟨g, 0, none⟩) (n - 1) cap) (n - 1) (xs.take (i * 6) ++ xs.drop ((i + 1) * 6)) :: L) := by
  obtain ⟨i0, hi0, hz0, hz1, hz2⟩ := info_parts info_freshMsg
  have hlen := h.row.1
  obtain ⟨⟨ao', c', e, hcap, hm⟩, -⟩ := h.form
  simp only [Value.slice.injEq, true_and] at e
  obtain ⟨-, rfl⟩ := e
  unfold maxLen at hm
  obtain ⟨news, hnews⟩ : ∃ news, news = xs.drop ((i + 1) * 6) := ⟨_, rfl⟩
  have hnl : news.length = (n - (i + 1)) * 6 := by rw [hnews, List.length_drop, hlen, Nat.sub_mul]
  have hcell : ∀ W, W = w.drew → ∀ j, j < n * 6 → W.cell? ⟨g, j, none⟩ = xs[j]? ∧ W.frozen? ⟨g, j, none⟩ = false := fun W hW j hj => by
    have hr := h.drew.row
    rw [← hW] at hr
    refine ⟨?_, hr.frozenAt _⟩
    have := hr.cells (g := g) rfl j (xs[j]'(by omega)) (List.getElem?_eq_getElem _)
    rw [Addr.add_lit] at this
    rw [List.getElem?_eq_getElem (by omega)]
    simpa using this
  obtain ⟨A, hA, hsrc⟩ : ∃ A : Addr, (if cap = i + 1 then some (⟨g, 0, none⟩ : Addr) else some ⟨g, (i + 1) * 6, none⟩) = some A ∧ Hid (∀ t u, news[t]? = some u → w.drew.cell? (A.add t) = some u) := by
    by_cases hc : cap = i + 1
    · refine ⟨⟨g, 0, none⟩, by simp [hc], fun t u hu => ?_⟩
      have h0 : news.length = 0 := by rw [hnl, show n - (i + 1) = 0 by omega]
      rw [List.length_eq_zero_iff.1 h0] at hu
      simp at hu
    · refine ⟨⟨g, (i + 1) * 6, none⟩, by simp [hc], fun t u hu => ?_⟩
      have ht : t < (n - (i + 1)) * 6 := by
        have := (List.getElem?_eq_some_iff.1 hu).1
        rwa [hnl] at this
      rw [hnews, List.getElem?_drop] at hu
      rw [Addr.add_lit, (hcell _ rfl _ (by omega)).1]
      exact hu
  have s1 : Hid (news.length = (n - (i + 1)) * 6) := hnl
  have s2 : Hid (∀ u ∈ news, u.oneCell' = true) := by
    intro u hu
    rw [hnews] at hu
    exact h1 u (List.mem_of_mem_drop hu)
  have s3 : Hid (∀ t, t < news.length → (w.drew.cell? ⟨g, 0 + i * 6 + t, none⟩).isSome = true ∧ w.drew.frozen? ⟨g, 0 + i * 6 + t, none⟩ = false) := by
    intro t ht
    rw [hnl] at ht
    have := hcell _ rfl (0 + i * 6 + t) (by omega)
    rw [this.1]
    exact ⟨by rw [List.getElem?_eq_getElem (by omega)]; rfl, this.2⟩
  obtain ⟨W1, hW1⟩ : ∃ W1, W1 = w.drew.setCells g (0 + i * 6) news := ⟨_, rfl⟩
  have st1 := St.setCells (g := g) news w.drew xs (0 + i * 6) (by rw [hnl, hlen]; omega) h.drew
  rw [← hW1] at st1
  have hcl : ∀ ty, (Builtin.clear_ #[41] ty #[.slice (some ⟨g, (n - 1) * 6, none⟩) 1 (cap - (n - 1))]).run Try.prog W1 = .ok (.tuple #[]) (W1.setCells g ((n - 1) * 6) zCells) := fun ty => by
    have hl2 := st1.row.1
    refine run_clear_msg W1 ty g ((n - 1) * 6) _ (fun j hj => ?_) (fun j hj => st1.row.frozenAt _)
    have hx := st1.row.cells (g := g) rfl ((n - 1) * 6 + j) _ (List.getElem?_eq_getElem (by rw [hl2]; omega))
    rw [Addr.add_lit, Nat.zero_add] at hx
    rw [hx]; rfl
  have eN : i + (n - (i + 1)) = n - 1 := by omega
  have hcl2 : (Builtin.clear_ #[41] 0 #[.slice (some ⟨g, (i + (n - (i + 1))) * 6, none⟩) (n - (i + (n - (i + 1)))) (cap - (i + (n - (i + 1))))]).run Try.prog W1 = .ok (.tuple #[]) (W1.setCells g ((n - 1) * 6) zCells) := by
    have := hcl 0
    rw [eN, show n - (n - 1) = 1 by omega]
    exact this
  have st2 := St.setCells (g := g) zCells W1 _ ((n - 1) * 6) (by rw [st1.row.1]; show _ + 6 ≤ _; omega) st1
  have st3 := st2.few (n' := n - 1) (by omega)
  have FIN : Hid (St S0 w0 (W1.setCells g ((n - 1) * 6) zCells) (Part.row 27 6 (.slice (some ⟨g, 0, none⟩) (n - 1) cap) (n - 1) (xs.take (i * 6) ++ xs.drop ((i + 1) * 6)) :: L)) := by
    have e : ((((xs.take (0 + i * 6) ++ news ++ xs.drop (0 + i * 6 + news.length))).take ((n - 1) * 6) ++ zCells ++ ((xs.take (0 + i * 6) ++ news ++ xs.drop (0 + i * 6 + news.length))).drop ((n - 1) * 6 + zCells.length)).take ((n - 1) * 6)) = xs.take (i * 6) ++ xs.drop ((i + 1) * 6) := by
      have hl : (xs.take (0 + i * 6) ++ news).length = (n - 1) * 6 := by rw [List.length_append, List.length_take, hlen, hnl]; omega
      rw [List.append_assoc, List.take_append_of_le_length (by rw [List.length_take, List.length_append, hl]; omega), List.take_take, Nat.min_self, List.take_append_of_le_length (by omega), List.take_of_length_le (by omega), Nat.zero_add, hnews]
    have h3 := st3
    rw [e] at h3
    exact h3
  have hW : Hid (W1 = w.drew.setCells g (0 + i * 6) news) := hW1
  have hic : i ≤ cap := by omega
  have j1 : (i : Int) + 1 ≤ (n : Int) := by omega
  have j0 : (0 : Int) ≤ (i : Int) + 1 := by omega
  have hjc : i + 1 ≤ cap := by omega
  have EN : Hid (i + (n - (i + 1)) = n - 1) := eN
  clear hW1 st1 st2 st3 h hnews hnl hcell hlen hcl eN
  go_enter Try.func30, Try.ntmps30
  go_wp2_with fail
  go_region_law (refine step_append_room rfl (.tmp 22) (.tmp 25) 41 rfl 27 i0 6 Try.underlying41 hi0 hz1 g 0 i cap (by simp [Act.eval, Act.put]) A (n - (i + 1)) (cap - (i + 1)) news (by simp [Act.eval, Act.put]) s1.out hsrc.out s2.out (by omega) s3.out ?_; rw [← hW.out])
  all_goals
    go_wp2
    go_ret
    exact ⟨by rw [← EN.out]; rfl, FIN.out⟩
end Go.Proofs.Ytpmmdbdooclcoab
