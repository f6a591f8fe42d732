/- The walks of tell and is. -/
import Derived.Test.YtpmmdbdooclcoabBaHelp
set_option linter.unusedSimpArgs false
set_option linter.unusedVariables false
namespace Go.Proofs.Ytpmmdbdooclcoab
open Go.RowKit

theorem info_u32i : (Try.prog.info? 23).map (fun i => (i.zero, i.size, i.bytes)) = some (some (.int .u32 0), 1, 4) := by kernel_rfl
def idsOf (ms : List MsgO) : List UInt32 := ms.map (·.d.g)
set_option maxHeartbeats 2000000 in
set_option maxRecDepth 1000000 in
theorem tell_ok {S0 : Nat → Prop} {w0 w : World} {L : List Part} (B most : Nat) (ms : List MsgO) (h : St S0 w0 w (bagP B most ms :: L)) (h0 : 0 < most) (hn : most ≤ 256) (hl : ms.length ≤ most) :
    Calls Try.prog 8 #[ptr B] w fun e w' => ∃ v, e = .returned v ∧ St S0 w0 w' (Part.row 23 1 v (idsOf ms).length ((idsOf ms).flatMap idCell) :: bagP B most ms :: L) := by
  obtain ⟨i0, hi, hz0, hz1, hz2⟩ := info_parts info_u32i
  have kl := List_ok B most ms h h0 hn hl
  clear h
  go_enter Try.func8, Try.ntmps8
  go_wp2_with fail
  refine kl.mono ?_
  rintro e w1 ⟨v1, rfl, ms', hd, st⟩
  have hm := msgsAt_of st
  have hlen : ms'.length = ms.length := by have := congrArg List.length hd; simpa using this
  obtain ⟨⟨ao, ca, rfl, ha1, ha2, ha3⟩, -⟩ := hm
  unfold maxLen at ha2
  have hids : idsOf ms' = idsOf ms := by
    have := congrArg (List.map (·.g)) hd
    rw [List.map_map, List.map_map] at this
    exact this
  have st0 : Hid (St S0 w0 w1 (Part.row 23 1 (.slice none 0 0) 0 [] :: msgsP (.slice ao ms'.length ca) ms' :: bagP B most ms :: L)) :=
    st.more (Q := [Part.row 23 1 (.slice none 0 0) 0 []]) (T := fun _ => False) (Below.refl _ _) (parts_one.2 ⟨World.ownsRow_nil _ _ _ _, fun x => ⟨fun h => h.elim, fun h => by cases h⟩⟩) (fun _ h => h.elim)
  obtain ⟨N, hN⟩ : ∃ N, N = ms'.length := ⟨_, rfl⟩
  have HN : Hid (N = ms'.length) := hN
  have hN2 : N ≤ 256 := by omega
  have HI : Hid (idsOf ms' = idsOf ms) := hids
  rw [← hN]
  rw [← hN] at st0
  have ha3' : Hid (∀ wr (M : List Part), St S0 w0 wr (M ++ (msgsP (.slice ao N ca) ms' :: bagP B most ms :: L)) → ∀ k x, ms'[k]? = some x → ∃ b o, ao = some ⟨b, o, none⟩ ∧ wr.cell? ⟨b, o + k * 6 + 3, none⟩ = some (.int .u32 (x.d.g.toNat : Int))) := fun wr M hst k x hx => by
    have h2 : St S0 w0 wr (msgsP (.slice ao N ca) ms' :: (M ++ (bagP B most ms :: L))) := hst.perm List.perm_middle
    obtain ⟨⟨ao', ca', e, g1, g2, g3⟩, -⟩ := msgsAt_of h2
    have hk := (List.getElem?_eq_some_iff.mp hx)
    obtain ⟨hk, hxe⟩ := hk
    obtain ⟨b, o, e2, -, hc⟩ := g3 (by omega)
    simp only [Value.slice.injEq] at e
    refine ⟨b, o, by rw [e.1, e2], hc k hk 3 _ (by rw [hxe]; rfl)⟩
  clear kl st hd ha3 hlen hN ha1 hids
  go_wp2
  go_loopw [3, 5] (fun vt i wr => ∃ k : Nat, k ≤ N ∧ i = .int .i64 (k : Int) ∧ (∃ a n c, vt = .slice a n c) ∧ Hid (St S0 w0 wr (Part.row 23 1 vt k ((idsOf (ms'.take k)).flatMap idCell) :: msgsP (.slice ao N ca) ms' :: bagP B most ms :: L))) (fun _ i _ => N - (intOf i).toNat)
  case atStart => exact ⟨0, by omega, rfl, ⟨_, _, _, rfl⟩, st0⟩
  case round =>
    clear st0
    obtain ⟨k, hk, rfl, ⟨at_, nt, ct, rfl⟩, hI⟩ := hrel
    by_cases hkn : k < N
    · have hkm : k < ms'.length := by rw [← HN.out]; exact hkn
      obtain ⟨x, hx⟩ : ∃ x, ms'[k]? = some x := ⟨_, List.getElem?_eq_getElem hkm⟩
      obtain ⟨b, o, rfl, c3⟩ := ha3'.out wr [_] hI.out k x hx
      have hnt : nt = k := by
        obtain ⟨a', c', e, -⟩ := hI.out.form.1
        simp only [Value.slice.injEq] at e; exact e.2.1
      subst hnt
      have st1 := (hI.out.alloc (.cells (idCell x.d.g).toArray 23))
      have s2 := st1.swap
      have bb : Hid (nt + 1 ≤ maxLen ∧ (nt + 1) * 4 ≤ 140737488355328) := by show _ ∧ _; unfold maxLen; omega
      have src : Hid (Src Try.prog 1 35 (.slice (some ⟨wr.heap.size, 0, none⟩) 1 1) 1 (idCell x.d.g) (wr.alloc (.cells (idCell x.d.g).toArray 23))) :=
        Src.ofSlice _ Try.underlying35 ⟨wr.heap.size, 0, none⟩ 1 1 _ rfl (news_ofv _ _) (by intro u hu; simp [idCell] at hu; rw [hu]; rfl)
      have e2 : (idsOf (ms'.take (nt + 1))).flatMap idCell = (idsOf (ms'.take nt)).flatMap idCell ++ idCell x.d.g := by
        unfold idsOf
        rw [List.take_add_one, hx]; simp
      have FIN : Hid (∀ v' w2, w2.ownsRow 0 23 1 v' (nt + 1) ((idsOf (ms'.take nt)).flatMap idCell ++ idCell x.d.g) → ((v'.ownBlock = (Value.slice at_ nt ct).ownBlock ∧ (wr.alloc (.cells (idCell x.d.g).toArray 23)).grownBy w2 (Value.slice at_ nt ct).ownBlock) ∨ (v'.ownBlock = some (wr.alloc (.cells (idCell x.d.g).toArray 23)).heap.size ∧ (wr.alloc (.cells (idCell x.d.g).toArray 23)).grownBy w2 none)) →
          Hid (St S0 w0 w2 (Part.row 23 1 v' (nt + 1) ((idsOf (ms'.take (nt + 1))).flatMap idCell) :: msgsP (.slice (some ⟨b, o, none⟩) N ca) ms' :: bagP B most ms :: L))) := fun v' w2 ho hg => by
        rw [e2]
        exact ((s2.append ho hg).swap).drop
      have own : Hid ((wr.alloc (.cells (idCell x.d.g).toArray 23)).ownsRow 0 23 1 (.slice at_ nt ct) nt ((idsOf (ms'.take nt)).flatMap idCell)) := s2.row
      have i1 : (nt : Int) < (N : Int) := by omega
      unfold idCell at src own FIN
      clear hI st1 s2 e2 ha3' hx
      go_wp2_with (at_builtin; refine wpList_append_stays _ rfl (.tmp 14) (.tmp 20) 35 35 rfl 0 23 i0 (.int .u32 0) 1 4 Try.underlying35 hi hz0 hz1 hz2 rfl (by decide) (.slice at_ nt ct) nt ((idsOf (ms'.take nt)).flatMap idCell) rfl own.out (.slice (some ⟨wr.heap.size, 0, none⟩) 1 1) 1 _ rfl src.out bb.out.1 bb.out.2 (Nat.zero_le _) ?_; intro v' w2 ho hg; have R := FIN.out v' w2 ho hg; obtain ⟨av, nv, cv, rfl⟩ := own_slice ho)
      go_roundw
      case rel => exact ⟨nt + 1, by omega, by go_num, ⟨_, _, _, rfl⟩, R⟩
      case measure => simp [intOf]; omega
    · obtain rfl : k = N := by omega
      have F : Hid (St S0 w0 wr (Part.row 23 1 (.slice at_ nt ct) (idsOf ms).length ((idsOf ms).flatMap idCell) :: bagP B most ms :: L)) := by
        have s := hI.out
        have hl2 : (idsOf ms).length = k := by rw [← HI.out, HN.out]; simp [idsOf]
        have e : ms'.take k = ms' := by rw [HN.out, List.take_length]
        rw [hl2, ← HI.out]
        rw [e] at s
        exact s.swap.drop
      clear hI ha3'
      go_wp2
      go_ret
      exact ⟨_, rfl, F.out⟩
set_option maxHeartbeats 2000000 in
set_option maxRecDepth 1000000 in
theorem is_ok {S0 : Nat → Prop} {w0 w : World} {L : List Part} (B most : Nat) (ms : List MsgO) (h : St S0 w0 w (bagP B most ms :: L)) (h0 : 0 < most) (hn : most ≤ 256) (hl : ms.length ≤ most) (aw : Option Addr) (nw cw : Nat) (M : List Part)
    (hw : ∀ w', St S0 w0 w' (bagP B most ms :: L) → SlAt 1 idCell w' w'.heap.size (.slice aw nw cw) (idsOf ms)) :
    Calls Try.prog 13 #[ptr B, .slice aw nw cw] w fun e w' => e = .returned (.bool true) ∧ St S0 w0 w' (bagP B most ms :: L) := by
  have kt := tell_ok B most ms h h0 hn hl
  clear h
  go_enter Try.func13, Try.ntmps13
  go_wp2_with fail
  refine kt.mono ?_
  rintro e w1 ⟨v, rfl, st⟩
  obtain ⟨⟨av, cv, rfl, -, -⟩, -⟩ := st.form
  have ks := sameIds_any w1 _ _ _ _ (idsOf ms) (sl_own idCell_len st.row) (hw w1 st.drop)
  have S1 : Hid (St S0 w0 w1 (bagP B most ms :: L)) := st.drop
  clear kt st hw
  go_wp2_with fail
  refine ks.mono ?_
  rintro e w2 ⟨rfl, n2, rfl⟩
  clear ks
  go_wp2
  go_ret
  exact ⟨rfl, S1.out.up (below_drewN w1 n2)⟩
end Go.Proofs.Ytpmmdbdooclcoab
