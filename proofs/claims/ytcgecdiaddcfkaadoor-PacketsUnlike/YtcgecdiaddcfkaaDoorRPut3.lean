/- The walk of rows.PutResults: the bytes, or the error. -/
import Derived.Test.YtcgecdiaddcfkaaDoorRPut2
import Derived.Test.YtcgecdiaddcfkaaDoorRAll3
set_option linter.unusedSimpArgs false
set_option linter.unusedVariables false
namespace Go.Proofs.YtcgecdiaddcfkaaDoor
open Go.RowKit

def encResP (p : ResP) : List UInt8 := encRes p.2

set_option maxHeartbeats 2000000 in
set_option maxRecDepth 1000000 in
theorem putRes1_any (w : World) (B base V lim : Nat) (tv : TypeId) (bs : List UInt8) (v : Value) (x : ResP) (h : WAt w B base bs v) (hV : Held B w v V (.cells #[ptr B] tv (0, 0))) (hlB : lim ≤ B) (hr : RowsAt w lim x) (hx : ∀ y ∈ x.2, y.key.size < 256) (h6 : x.2.length < 65536) (hl : bs.length + (encResP x).length ≤ 700000000) :
    Calls Tryd.prog 40 #[resV x, ptr V] w fun e w' => e = .returned (.tuple #[]) ∧ ∃ v', WAt w' B base (bs ++ encResP x) v' ∧ WrStep B w w' v v' := by
  obtain ⟨vx, rx⟩ := x
  unfold resV encResP at *
  simp only at hx h6 hl ⊢
  have hmf : ∀ (fn : Fn) (first cap : Array Value) (w : World), (Instr.makeFunc fn first cap).run Tryd.prog w = .ok (.func fn first cap) w := fun _ _ _ _ => rfl
  obtain ⟨W, hW⟩ : ∃ W, W = w.alloc (.cells #[vx] 46) := ⟨_, rfl⟩
  have h0 : WAt W B base bs v := by rw [hW]; exact h.alloc _
  have S : WrStep B w W v v := by rw [hW]; exact (WrStep.refl B w v).alloc _
  have hV1 := hV.step S
  have hlt := h.2.2
  have hrW : RowsAt W lim (vx, rx) := hr.kept (fun k hk => (h.kept S).block k (by omega) (by omega))
  have hle : (rx.flatMap encRow).length ≤ (encRes rx).length := by unfold encRes encList; simp
  have k := putListRow_any W B base V lim tv bs v vx rx h0 hV1 hlB hrW.1 hx h6 (by omega)
  obtain ⟨ax, cx, hvx, -, -, -⟩ := hr.1
  simp only at hvx
  subst hvx
  have cV : W.cell? ⟨V, 0, none⟩ = some (ptr B) := hV1.cell 0
  have fin : ∀ w1 v1, WrStep B W w1 v v1 → WrStep B w w1 v v1 := fun w1 v1 s => S.trans s
  clear h0 S hV1 hV h hr hrW hle
  subst hW
  go_enter Tryd.func40, Tryd.ntmps40
  go_wp2_with fail
  refine k.mono ?_
  rintro e w1 ⟨rfl, v1, hw1, s1⟩
  have s2 := fin w1 v1 s1
  clear k fin s1
  go_wp2
  go_end0
  exact ⟨rfl, v1, hw1, s2⟩

set_option maxHeartbeats 2000000 in
set_option maxRecDepth 1000000 in
theorem putListRes_any (w : World) (B base V lim : Nat) (tv : TypeId) (bs : List UInt8) (v : Value) (vl : Value) (l : List ResP) (h : WAt w B base bs v) (hV : Held B w v V (.cells #[ptr B] tv (0, 0))) (hlB : lim ≤ B) (hs : SlAt 1 resCells w lim vl l) (hr : ∀ p ∈ l, RowsAt w lim p) (hx : ∀ x ∈ l, (∀ y ∈ x.2, y.key.size < 256) ∧ x.2.length < 65536) (h6 : l.length < 65536) (hl : bs.length + (l.flatMap encResP).length ≤ 600000000) :
    Calls Tryd.prog 39 #[ptr B, vl, .func (.func 40) #[] #[ptr V]] w fun e w' => e = .returned (.tuple #[]) ∧ ∃ v', WAt w' B base (bs ++ encList encResP l) v' ∧ WrStep B w w' v v' := by
  obtain ⟨ao, cap, rfl, hlc, hcm, hc⟩ := hs
  unfold maxLen at hcm
  have k0 := count_any w B base bs l.length h6 v h (by omega)
  go_enter Tryd.func39, Tryd.ntmps39
  go_wp2_with fail
  refine k0.mono ?_
  rintro e w0 ⟨rfl, v0, hw0, s0⟩
  have hV0 := hV.step s0
  clear k0
  go_wp2
  go_loopw [7, 14] (fun _ i wr => ∃ (k : Nat) (vk : Value), k ≤ l.length ∧ i = .int .i64 k ∧ WAt wr B base (bs ++ be2 l.length ++ (l.take k).flatMap encResP) vk ∧ WrStep B w wr v vk ∧ Held B wr vk V (.cells #[ptr B] tv (0, 0))) (fun _ i _ => l.length - (intOf i).toNat)
  case atStart => exact ⟨0, v0, Nat.zero_le _, rfl, by simpa using hw0, s0, hV0⟩
  case round =>
    clear hw0 s0 hV0
    obtain ⟨k, vk, hk, rfl, hwk, sk, hVk⟩ := hrel
    by_cases hlt : k < l.length
    · obtain ⟨b, off, rfl, hbl, hcell⟩ := hc (by omega)
      have hz := sk.size
      have hkp := h.kept sk
      have hB := h.2.2
      obtain ⟨x, hxk⟩ : ∃ x, x = l[k]'hlt := ⟨_, rfl⟩
      have hrk : RowsAt wr lim x := (hr x (by rw [hxk]; exact List.getElem_mem _)).kept (fun q hq => hkp.block q (by omega) (by omega))
      have cc : ∀ j u, (resCells x)[j]? = some u → wr.cell? ⟨b, off + k * 1 + j, none⟩ = some u := fun j u hu => (hkp.cell (by simp; omega) (by simp; omega)).trans (hcell k hlt j u (by rw [← hxk]; exact hu))
      have c0 := cc 0 _ rfl
      simp only [Nat.add_zero, Nat.mul_one] at c0
      have hlen1 := flat_take_len encResP l (k + 1)
      rw [flat_take_succ encResP l k hlt, ← hxk, List.length_append] at hlen1
      have hE : Hid (bs ++ be2 l.length ++ (l.take (k + 1)).flatMap encResP = bs ++ be2 l.length ++ (l.take k).flatMap encResP ++ encResP x) := by
        show _ = _
        rw [flat_take_succ encResP l k hlt, ← hxk]; simp only [List.append_assoc]
      have hxc := hx x (by rw [hxk]; exact List.getElem_mem _)
      clear cc hcell hc hkp hxk hx hr
      obtain ⟨ax, cx, hvx, -, -, -⟩ := hrk.1
      obtain ⟨vx, rx⟩ := x
      simp only at hvx
      subst hvx
      obtain ⟨W, hW⟩ : ∃ W, W = wr.alloc (.cells #[.slice ax rx.length cx] 46) := ⟨_, rfl⟩
      have sW : WrStep B wr W vk vk := by rw [hW]; exact (WrStep.refl B wr vk).alloc _
      have hWA : WAt W B base (bs ++ be2 l.length ++ (l.take k).flatMap encResP) vk := by rw [hW]; exact hwk.alloc _
      have kW := putRes1_any W B base V lim tv _ vk (.slice ax rx.length cx, rx) hWA (hVk.step sW) hlB (hrk.kept (fun q hq => (hwk.kept sW).block q (by omega) (by omega))) hxc.1 hxc.2 (by simp only [List.length_append, be2_len]; omega)
      have fin : ∀ w1 v1, WrStep B W w1 vk v1 → WrStep B w w1 v v1 ∧ Held B w1 v1 V (.cells #[ptr B] tv (0, 0)) := fun w1 v1 s1 => ⟨sk.trans (sW.trans s1), (hVk.step sW).step s1⟩
      clear hWA sW hVk sk hwk hlen1 hxc hrk
      subst hW
      go_wp2_with fail
      refine kW.mono ?_
      rintro e w1 ⟨rfl, v1, hw1, s1⟩
      obtain ⟨S1, hV1⟩ := fin w1 v1 s1
      rw [← hE.out] at hw1
      clear fin s1 kW hE
      go_wp2
      go_roundw
      case rel => exact ⟨k + 1, v1, by omega, by go_num, hw1, S1, hV1⟩
      case measure => simp [intOf]; omega
    · have e : l.take k = l := List.take_of_length_le (by omega)
      rw [e, List.append_assoc] at hwk
      clear hc e
      go_wp2
      go_end0
      exact ⟨rfl, vk, hwk, sk⟩

theorem encList_P (l : List ResP) : encList encResP l = encList encRes (l.map (·.2)) := by
  unfold encList
  rw [List.length_map, List.flatMap_map]
  rfl
theorem all_P (l : List ResP) : (l.map (·.2)).all resOk = l.all resOkP := by
  rw [List.all_map]; rfl
theorem few_P (l : List ResP) : (l.map (·.2)).all (fun r => decide (r.length ≤ 256)) = l.all fewP := by
  rw [List.all_map]; rfl
theorem row_len {l : List RowD} (h : l.all rowOk = true) : (l.flatMap encRow).length ≤ l.length * 40 := by
  induction l with
  | nil => simp
  | cons x l ih =>
    rw [List.all_cons, Bool.and_eq_true] at h
    have h1 := ih h.2
    have h2 : (encRow x).length ≤ 40 := by
      have h3 := chk_size h.1
      simp only [encRow, List.length_cons, List.length_append, txt_len, be4_len]; omega
    rw [List.flatMap_cons, List.length_append, List.length_cons]
    omega
theorem res_len {l : List ResP} (h : l.all resOkP = true) (hf : l.all fewP = true) : (l.flatMap encResP).length ≤ l.length * 12000 := by
  induction l with
  | nil => simp
  | cons x l ih =>
    rw [List.all_cons, Bool.and_eq_true] at h hf
    have h1 := ih h.2 hf.2
    have h2 : (encResP x).length ≤ 12000 := by
      have h3 := row_len h.1
      have h4 : x.2.length ≤ 256 := by simpa [fewP] using hf.1
      simp only [encResP, encRes, encList, List.length_append, be2_len]; omega
    rw [List.flatMap_cons, List.length_append, List.length_cons]
    omega

set_option maxHeartbeats 2000000 in
set_option maxRecDepth 1000000 in
theorem PutResults_any (w : World) (vl : Value) (l : List ResP) (hs : ResAt w w.heap.size vl l) :
    Calls Tryd.prog 14 #[vl] w fun e w' => ∃ v, e = .returned (.tuple #[v, .int .i64 ((putRes (l.map (·.2))).2 : Int)]) ∧ BsAt w' w.heap.size v (putRes (l.map (·.2))).1 ∧ Below w.heap.size w w' := by
  have ka := allRes_any w vl l hs
  have kf : ∀ w1, Below w.heap.size w w1 → _ := fun w1 (b1 : Below w.heap.size w w1) => allFew_any w1 vl l ((hs.below b1 (Nat.le_refl _)).mono b1.size)
  have hmf : ∀ (fn : Fn) (first cap : Array Value) (w : World), (Instr.makeFunc fn first cap).run Tryd.prog w = .ok (.func fn first cap) w := fun _ _ _ _ => rfl
  unfold putRes
  rw [all_P, few_P, List.length_map, ← encList_P]
  cases hok : l.all resOkP with
  | false =>
    rw [hok] at ka
    obtain ⟨⟨ao, cap, rfl, hlc, hcm, hc⟩, -⟩ := hs
    rw [if_neg (by simp)]
    clear hok hc kf
    go_enter Tryd.func14, Tryd.ntmps14
    go_wp2_with fail
    refine ka.mono ?_
    rintro e w1 ⟨rfl, b1⟩
    clear ka
    go_wp2
    go_ret2
    exact ⟨_, rfl, BsAt_nil _ _, b1⟩
  | true =>
    rw [hok] at ka
    rw [if_pos rfl]
    by_cases hn : l.length ≤ 16
    case neg =>
      rw [if_neg (by simp [hn])]
      obtain ⟨⟨ao, cap, rfl, hlc, hcm, hc⟩, -⟩ := hs
      clear hok hc kf
      go_enter Tryd.func14, Tryd.ntmps14
      go_wp2_with fail
      refine ka.mono ?_
      rintro e w1 ⟨rfl, b1⟩
      clear ka
      go_wp2
      go_ret2
      exact ⟨_, rfl, BsAt_nil _ _, b1⟩
    cases hfw : l.all fewP with
    | false =>
      rw [if_neg (by simp)]
      rw [hfw] at kf
      obtain ⟨⟨ao, cap, rfl, hlc, hcm, hc⟩, -⟩ := hs
      clear hok hc hfw
      go_enter Tryd.func14, Tryd.ntmps14
      go_wp2_with fail
      refine ka.mono ?_
      rintro e w1 ⟨rfl, b1⟩
      have kf1 := kf w1 b1
      clear ka kf
      go_wp2_with fail
      refine kf1.mono ?_
      rintro e w2 ⟨rfl, b2⟩
      have b3 := b1.trans (b2.mono b1.size)
      clear kf1 b2
      go_wp2
      go_ret2
      exact ⟨_, rfl, BsAt_nil _ _, b3⟩
    | true =>
    rw [if_pos ⟨hn, rfl⟩]
    rw [hfw] at kf
    have hlen := res_len hok hfw
    have hxs : ∀ x ∈ l, (∀ y ∈ x.2, y.key.size < 256) ∧ x.2.length < 65536 := fun x hx => by
      have h := List.all_eq_true.mp hok x hx
      have h2 := List.all_eq_true.mp hfw x hx
      refine ⟨fun y hy => ?_, by have : x.2.length ≤ 256 := by simpa [fewP] using h2
                                 omega⟩
      have h3 := List.all_eq_true.mp h y hy
      have h1 := chk_size h3
      omega
    have hs0 := hs
    obtain ⟨⟨ao, cap, rfl, hlc, hcm, hc⟩, -⟩ := hs
    clear hok hc hfw
    go_enter Tryd.func14, Tryd.ntmps14
    go_wp2_with fail
    refine ka.mono ?_
    rintro e w0 ⟨rfl, b0⟩
    have kf1 := kf w0 b0
    clear ka kf
    go_wp2_with fail
    refine kf1.mono ?_
    rintro e w1 ⟨rfl, b2⟩
    have b1 := b0.trans (b2.mono b0.size)
    clear kf1 b2 b0
    have hN := wat_new w1
    have bN := b1.trans ((below_two (w := w1) (.cells #[.slice none 0 0] 67) (.cells #[ptr w1.heap.size] 65)).mono b1.size)
    have hsN := hs0.below bN (Nat.le_refl _)
    have kp := putListRes_any _ w1.heap.size (w1.heap.size + 2) (w1.heap.size + 1) w.heap.size 65 [] (.slice none 0 0) _ l hN.1 hN.2 b1.size hsN.1 hsN.2 hxs (by omega) (by simp only [List.length_nil]; omega)
    have fin : ∀ w2 v2, WAt w2 w1.heap.size (w1.heap.size + 2) (encList encResP l) v2 → WrStep w1.heap.size ((w1.alloc (.cells #[.slice none 0 0] 67)).alloc (.cells #[ptr w1.heap.size] 65)) w2 (.slice none 0 0) v2 →
        BsAt w2 w.heap.size v2 (encList encResP l) ∧ Below w.heap.size w w2 ∧ w2.cell? ⟨w1.heap.size, 0, none⟩ = some v2 ∧ w2.cell? ⟨w1.heap.size + 1, 0, none⟩ = some (ptr w1.heap.size) := by
      intro w2 v2 h2 s2
      have z := b1.size
      exact ⟨own_mono h2.2.1 (by omega), bN.trans ((hN.1.kept s2).below (by omega) (by omega)), box_cell h2.1, (hN.2.step s2).cell 0⟩
    clear hN bN hsN hs0 hxs
    go_wp2_with fail
    refine kp.mono ?_
    rintro e w2 ⟨rfl, v2, h2, s2⟩
    obtain ⟨f1, f2, f3, f4⟩ := fin w2 v2 h2 s2
    clear fin h2 s2 kp
    obtain ⟨ao2, n2, c2, rfl⟩ := own_slice f1
    go_wp2
    go_ret2
    exact ⟨_, rfl, f1, f2⟩
end Go.Proofs.YtcgecdiaddcfkaaDoor
