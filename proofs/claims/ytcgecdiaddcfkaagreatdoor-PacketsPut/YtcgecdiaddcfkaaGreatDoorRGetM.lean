import Derived.Test.YtcgecdiaddcfkaaGreatDoorM13
import Derived.Test.YtcgecdiaddcfkaaGreatDoorM4
import Derived.Deep.RegionWith
import Derived.Deep.RegionHeld3
import Derived.Laws.ResultCell
/- The walks of what gets each one of a list. -/
set_option linter.unusedSimpArgs false
set_option linter.unusedVariables false
namespace Go.Proofs.YtcgecdiaddcfkaaGreatDoor
open Go.RowKit

/-- The memory of a function that gets one: the reader in block R, the variable V that holds it, two blocks of its own from N on. -/
structure G (w0 : World) (R lim V N : Nat) (tv T : TypeId) (z c : Array Value) (s : St) (w : World) : Prop where
  r : RAt w R lim s
  hv : w.heap[V]? = some (.cells #[ptr R] tv (0, 0))
  h0 : w.heap[N]? = some (.cells z T (0, 0))
  h1 : w.heap[N + 1]? = some (.cells c T (0, 0))
  nV : V < N
  nR : R < N
  vR : V ≠ R
  lt : N + 1 < w.heap.size
  k : Kept R N w0 w
section
variable {w0 w w' : World} {R lim V N : Nat} {tv T : TypeId} {z c : Array Value} {s s' : St}
theorem G.start (h : RAt w R lim s) (hv : w.heap[V]? = some (.cells #[ptr R] tv (0, 0))) (hlt : V < w.heap.size) (hn : V ≠ R) (T : TypeId) (z : Array Value) :
    G w R lim V w.heap.size tv T z z s ((w.alloc (.cells z T)).alloc (.cells z T)) := by
  refine ⟨(h.alloc _).alloc _, alloc_block (alloc_block hv _) _, alloc_block (heap_alloc_new w _) _, ?_, hlt, h.choose_spec.2.2.2, hn, by simp, ((Kept.refl _ _ _).alloc (Nat.le_refl _) _).alloc (by simp) _⟩
  have := heap_alloc_new (w.alloc (.cells z T)) (.cells z T)
  simpa using this
theorem G.call (g : G w0 R lim V N tv T z c s w) (hr : RAt w' R lim s') (hk : Kept R w.heap.size w w') : G w0 R lim V N tv T z c s' w' := by
  have hl := g.lt
  have hV := g.nV
  have hR := g.nR
  exact ⟨hr, by rw [hk.block V (by omega) g.vR]; exact g.hv, by rw [hk.block N (by omega) (by omega)]; exact g.h0, by rw [hk.block (N + 1) (by omega) (by omega)]; exact g.h1, g.nV, g.nR, g.vR, by have := hk.size; omega, g.k.trans (hk.mono (by omega))⟩
theorem G.below (g : G w0 R lim V N tv T z c s w) (hb : Below w.heap.size w w') : G w0 R lim V N tv T z c s w' := g.call (g.r.below hb) (Kept.of_below hb)
theorem G.store (g : G w0 R lim V N tv T z c s w) (i : Nat) (u : Value) : G w0 R lim V N tv T z (c.setIfInBounds i u) s (w.setCell ⟨N + 1, i, none⟩ u) := by
  have hl := g.lt
  have hV := g.nV
  have hR := g.nR
  have e : ∀ k, k ≠ N + 1 → (w.setCell ⟨N + 1, i, none⟩ u).heap[k]? = w.heap[k]? := fun k hk => Below.heap_setCell _ _ _ _ hk
  obtain ⟨v, r1, r2, r3, r4⟩ := g.r
  refine ⟨⟨v, by rw [e R (by omega)]; exact r1, r2.kept (fun k hk => e k (by omega)), r3, by simp [World.setCell]; omega⟩, by rw [e V (by omega)]; exact g.hv, by rw [e N (by omega)]; exact g.h0, heap_setCell_same w (N + 1) i c T u g.h1, g.nV, g.nR, g.vR, by simp [World.setCell]; omega, ?_⟩
  exact g.k.trans ⟨rfl, rfl, rfl, by simp [World.setCell], fun k hk _ => e k (by omega)⟩
theorem G.store0 (g : G w0 R lim V N tv T z c s w) (i : Nat) (u : Value) : G w0 R lim V N tv T (z.setIfInBounds i u) c s (w.setCell ⟨N, i, none⟩ u) := by
  have hl := g.lt
  have hV := g.nV
  have hR := g.nR
  have e : ∀ k, k ≠ N → (w.setCell ⟨N, i, none⟩ u).heap[k]? = w.heap[k]? := fun k hk => Below.heap_setCell _ _ _ _ hk
  obtain ⟨v, r1, r2, r3, r4⟩ := g.r
  refine ⟨⟨v, by rw [e R (by omega)]; exact r1, r2.kept (fun k hk => e k (by omega)), r3, by simp [World.setCell]; omega⟩, by rw [e V (by omega)]; exact g.hv, heap_setCell_same w N i z T u g.h0, by rw [e (N + 1) (by omega)]; exact g.h1, g.nV, g.nR, g.vR, by simp [World.setCell]; omega, ?_⟩
  exact g.k.trans ⟨rfl, rfl, rfl, by simp [World.setCell], fun k hk _ => e k (by omega)⟩
theorem G.drew (g : G w0 R lim V N tv T z c s w) : G w0 R lim V N tv T z c s w.drew := ⟨g.r, g.hv, g.h0, g.h1, g.nV, g.nR, g.vR, g.lt, g.k.drew⟩
theorem G.cellV (g : G w0 R lim V N tv T z c s w) : w.cell? ⟨V, 0, none⟩ = some (ptr R) := box_cell g.hv
theorem G.cell (g : G w0 R lim V N tv T z c s w) (i : Nat) : w.cell? ⟨N + 1, i, none⟩ = c[i]? := by simp [World.cell?, g.h1]
theorem G.cell0 (g : G w0 R lim V N tv T z c s w) (i : Nat) : w.cell? ⟨N, i, none⟩ = z[i]? := by simp [World.cell?, g.h0]
theorem G.frz (g : G w0 R lim V N tv T z c s w) (i : Nat) : w.frozen? ⟨N + 1, i, none⟩ = false := box_frozen g.h1
theorem G.frz0 (g : G w0 R lim V N tv T z c s w) (i : Nat) : w.frozen? ⟨N, i, none⟩ = false := box_frozen g.h0
end

theorem text_len (s : St) : (textS s).1.size ≤ 255 := by
  have h := high1_lt s
  have h2 := takeS_len (highS 1 s).1 (highS 1 s).2
  show (takeS (highS 1 s).1 (highS 1 s).2).1.toArray.size ≤ 255
  rw [List.size_toArray]; omega

set_option maxHeartbeats 2000000 in
set_option maxRecDepth 1000000 in
theorem getOp1_any (w : World) (R lim V : Nat) (tv : TypeId) (s : St) (h : RAt w R lim s) (hv : w.heap[V]? = some (.cells #[ptr R] tv (0, 0))) (hlt : V < w.heap.size) (hn : V ≠ R) :
    Calls Tryz.prog 138 #[ptr V] w fun e w' => e = .returned (opV (stepOp s).1) ∧ RAt w' R lim (stepOp s).2 ∧ Kept R w.heap.size w w' := by
  have g := G.start h hv hlt hn 85 #[.int .u8 0, .string ⟨#[]⟩, .string ⟨#[]⟩, .int .u32 0]
  obtain ⟨s1, hs1⟩ : ∃ x, x = (highS 1 s).2 := ⟨_, rfl⟩
  obtain ⟨s2, hs2⟩ : ∃ x, x = (textS s1).2 := ⟨_, rfl⟩
  obtain ⟨s3, hs3⟩ : ∃ x, x = (textS s2).2 := ⟨_, rfl⟩
  obtain ⟨s4, hs4⟩ : ∃ x, x = (highS 4 s3).2 := ⟨_, rfl⟩
  obtain ⟨kd, hkd⟩ : ∃ x, x = (highS 1 s).1 := ⟨_, rfl⟩
  obtain ⟨key, hkey⟩ : ∃ x, x = (textS s1).1 := ⟨_, rfl⟩
  obtain ⟨to, hto⟩ : ∃ x, x = (textS s2).1 := ⟨_, rfl⟩
  obtain ⟨vl, hvl⟩ : ∃ x, x = (highS 4 s3).1 := ⟨_, rfl⟩
  have e : stepOp s = (⟨UInt8.ofNat kd, key, to, UInt32.ofNat vl⟩, needS (opOk ⟨UInt8.ofNat kd, key, to, UInt32.ofNat vl⟩) s4) := by
    unfold stepOp; simp only [hkd, hkey, hto, hvl, hs4, hs3, hs2, hs1]
  have hbkd : kd < 256 := by rw [hkd]; exact high1_lt s
  have hzkey : key.size ≤ maxLen := by have := text_len s1; rw [hkey]; unfold maxLen; omega
  have hzto : to.size ≤ maxLen := by have := text_len s2; rw [hto]; unfold maxLen; omega
  have hbvl : vl < 4294967296 := by rw [hvl]; exact high4_lt s3
  have k1 := fun w' (h : RAt w' R lim s) => rsmall_any w' R lim s h
  have k2 := fun w' (h : RAt w' R lim s1) => rtext_any w' R lim s1 h
  have k3 := fun w' (h : RAt w' R lim s2) => rtext_any w' R lim s2 h
  have k4 := fun w' (h : RAt w' R lim s3) => rnumber_any w' R lim s3 h
  rw [← hkd, ← hs1] at k1
  rw [← hkey, ← hs2] at k2
  rw [← hto, ← hs3] at k3
  rw [← hvl, ← hs4] at k4
  rw [e]
  clear e hv h hkd hkey hto hvl hs1 hs2 hs3 hs4
  unfold opV
  simp only [u8_nat hbkd, u32_nat hbvl]
  have kc := fun w' => rcheck_any w' ⟨UInt8.ofNat kd, key, to, UInt32.ofNat vl⟩ ⟨hzkey, hzto⟩
  unfold opV at kc
  simp only [u8_nat hbkd, u32_nat hbvl] at kc
  generalize opOk ⟨UInt8.ofNat kd, key, to, UInt32.ofNat vl⟩ = ok at *
  have kn := fun w' (h : RAt w' R lim s4) => need_any w' R lim s4 ok h
  have cV := g.cellV
  go_enter Tryz.func138, Tryz.ntmps138
  go_wp2_with fail
  refine (k1 _ g.r).mono ?_
  rintro e w1 ⟨rfl, r, q⟩
  have gg1 := g.call r q
  clear r q k1 cV g
  have cV := gg1.cellV
  have f0 := gg1.frz 0
  have d0 : w1.cell? ⟨w.heap.size + 1, 0, none⟩ = some (.int .u8 0) := gg1.cell 0
  have gs1 : G w R lim V w.heap.size tv 85 _ #[.int .u8 (kd : Int), .string ⟨#[]⟩, .string ⟨#[]⟩, .int .u32 0] s1 (w1.setCell ⟨w.heap.size + 1, 0, none⟩ (.int .u8 (kd : Int))) := gg1.store 0 _
  clear gg1
  go_wp2_with fail
  refine (k2 _ gs1.r).mono ?_
  rintro e w2 ⟨rfl, r, q⟩
  have gg2 := gs1.call r q
  clear r q k2 cV gs1 f0 d0
  have cV := gg2.cellV
  have f0 := gg2.frz 1
  have d0 : w2.cell? ⟨w.heap.size + 1, 1, none⟩ = some (.string ⟨#[]⟩) := gg2.cell 1
  have gs2 : G w R lim V w.heap.size tv 85 _ #[.int .u8 (kd : Int), .string key, .string ⟨#[]⟩, .int .u32 0] s2 (w2.setCell ⟨w.heap.size + 1, 1, none⟩ (.string key)) := gg2.store 1 _
  clear gg2
  go_wp2_with fail
  refine (k3 _ gs2.r).mono ?_
  rintro e w3 ⟨rfl, r, q⟩
  have gg3 := gs2.call r q
  clear r q k3 cV gs2 f0 d0
  have cV := gg3.cellV
  have f0 := gg3.frz 2
  have d0 : w3.cell? ⟨w.heap.size + 1, 2, none⟩ = some (.string ⟨#[]⟩) := gg3.cell 2
  have gs3 : G w R lim V w.heap.size tv 85 _ #[.int .u8 (kd : Int), .string key, .string to, .int .u32 0] s3 (w3.setCell ⟨w.heap.size + 1, 2, none⟩ (.string to)) := gg3.store 2 _
  clear gg3
  go_wp2_with fail
  refine (k4 _ gs3.r).mono ?_
  rintro e w4 ⟨rfl, r, q⟩
  have gg4 := gs3.call r q
  clear r q k4 cV gs3 f0 d0
  have cV := gg4.cellV
  have f0 := gg4.frz 3
  have d0 : w4.cell? ⟨w.heap.size + 1, 3, none⟩ = some (.int .u32 0) := gg4.cell 3
  have gs4 : G w R lim V w.heap.size tv 85 _ #[.int .u8 (kd : Int), .string key, .string to, .int .u32 (vl : Int)] s4 (w4.setCell ⟨w.heap.size + 1, 3, none⟩ (.int .u32 (vl : Int))) := gg4.store 3 _
  clear gg4
  go_wp2_with fail
  clear cV f0 d0
  generalize w4.setCell ⟨w.heap.size + 1, 3, none⟩ (.int .u32 (vl : Int)) = w9 at *
  have cV := gs4.cellV
  have d0 : w9.cell? ⟨w.heap.size + 1, 0, none⟩ = some (.int .u8 (kd : Int)) := gs4.cell 0
  have d1 : w9.cell? ⟨w.heap.size + 1, 1, none⟩ = some (.string key) := gs4.cell 1
  have d2 : w9.cell? ⟨w.heap.size + 1, 2, none⟩ = some (.string to) := gs4.cell 2
  have d3 : w9.cell? ⟨w.heap.size + 1, 3, none⟩ = some (.int .u32 (vl : Int)) := gs4.cell 3
  have g8 := gs4.drew
  clear gs4
  go_region_with (first | (go_at_call 91; refine (kc _).mono ?_; rintro e wA ⟨rfl, bA⟩; have gA := g8.below bA; have cA := gA.cellV) | (go_at_call 142; refine (kn _ gA.r).mono ?_; rintro e wB ⟨rfl, rB, qB⟩; have gB := gA.call rB qB))
  all_goals
    have x0 : wB.cell? ⟨w.heap.size + 1, 0, none⟩ = some (.int .u8 (kd : Int)) := gB.cell 0
    have x1 : wB.cell? ⟨w.heap.size + 1, 1, none⟩ = some (.string key) := gB.cell 1
    have x2 : wB.cell? ⟨w.heap.size + 1, 2, none⟩ = some (.string to) := gB.cell 2
    have x3 : wB.cell? ⟨w.heap.size + 1, 3, none⟩ = some (.int .u32 (vl : Int)) := gB.cell 3
    have y0 : wB.cell? ⟨w.heap.size, 0, none⟩ = some (.int .u8 0) := gB.cell0 0
    have z0 := gB.frz0 0
    have y1 : wB.cell? ⟨w.heap.size, 1, none⟩ = some (.string ⟨#[]⟩) := gB.cell0 1
    have z1 := gB.frz0 1
    have y2 : wB.cell? ⟨w.heap.size, 2, none⟩ = some (.string ⟨#[]⟩) := gB.cell0 2
    have z2 := gB.frz0 2
    have y3 : wB.cell? ⟨w.heap.size, 3, none⟩ = some (.int .u32 0) := gB.cell0 3
    have z3 := gB.frz0 3
    have gF := ((((gB.store0 0 (.int .u8 (kd : Int))).store0 1 (.string key)).store0 2 (.string to)).store0 3 (.int .u32 (vl : Int)))
    clear cA bA gA g8 cV d0 d1 d2 d3 rB qB gB
    go_wp2
    exact bodyPost_ret (results_cell_row rfl _ _ w.heap.size 85 #[.int .u8 (kd : Int), .string key, .string to, .int .u32 (vl : Int)] (0, 0) _ rfl gF.h0 Tryz.underlying85 rfl (by kernel_rfl)) rfl ⟨rfl, gF.r, gF.k⟩

set_option maxHeartbeats 2000000 in
set_option maxRecDepth 1000000 in
theorem getRow1_any (w : World) (R lim V : Nat) (tv : TypeId) (s : St) (h : RAt w R lim s) (hv : w.heap[V]? = some (.cells #[ptr R] tv (0, 0))) (hlt : V < w.heap.size) (hn : V ≠ R) :
    Calls Tryz.prog 147 #[ptr V] w fun e w' => e = .returned (rowV (stepRow s).1) ∧ RAt w' R lim (stepRow s).2 ∧ Kept R w.heap.size w w' := by
  have g := G.start h hv hlt hn 92 #[.string ⟨#[]⟩, .int .u32 0]
  obtain ⟨s1, hs1⟩ : ∃ x, x = (textS s).2 := ⟨_, rfl⟩
  obtain ⟨s2, hs2⟩ : ∃ x, x = (highS 4 s1).2 := ⟨_, rfl⟩
  obtain ⟨key, hkey⟩ : ∃ x, x = (textS s).1 := ⟨_, rfl⟩
  obtain ⟨vl, hvl⟩ : ∃ x, x = (highS 4 s1).1 := ⟨_, rfl⟩
  have e : stepRow s = (⟨key, UInt32.ofNat vl⟩, needS (rowOk ⟨key, UInt32.ofNat vl⟩) s2) := by
    unfold stepRow; simp only [hkey, hvl, hs2, hs1]
  have hzkey : key.size ≤ maxLen := by have := text_len s; rw [hkey]; unfold maxLen; omega
  have hbvl : vl < 4294967296 := by rw [hvl]; exact high4_lt s1
  have k1 := fun w' (h : RAt w' R lim s) => rtext_any w' R lim s h
  have k2 := fun w' (h : RAt w' R lim s1) => rnumber_any w' R lim s1 h
  rw [← hkey, ← hs1] at k1
  rw [← hvl, ← hs2] at k2
  rw [e]
  clear e hv h hkey hvl hs1 hs2
  unfold rowV
  simp only [u32_nat hbvl]
  have kc := fun w' => checkRow_any w' ⟨key, UInt32.ofNat vl⟩ hzkey
  unfold rowV at kc
  simp only [u32_nat hbvl] at kc
  generalize rowOk ⟨key, UInt32.ofNat vl⟩ = ok at *
  have kn := fun w' (h : RAt w' R lim s2) => need_any w' R lim s2 ok h
  have cV := g.cellV
  go_enter Tryz.func147, Tryz.ntmps147
  go_wp2_with fail
  refine (k1 _ g.r).mono ?_
  rintro e w1 ⟨rfl, r, q⟩
  have gg1 := g.call r q
  clear r q k1 cV g
  have cV := gg1.cellV
  have f0 := gg1.frz 0
  have d0 : w1.cell? ⟨w.heap.size + 1, 0, none⟩ = some (.string ⟨#[]⟩) := gg1.cell 0
  have gs1 : G w R lim V w.heap.size tv 92 _ #[.string key, .int .u32 0] s1 (w1.setCell ⟨w.heap.size + 1, 0, none⟩ (.string key)) := gg1.store 0 _
  clear gg1
  go_wp2_with fail
  refine (k2 _ gs1.r).mono ?_
  rintro e w2 ⟨rfl, r, q⟩
  have gg2 := gs1.call r q
  clear r q k2 cV gs1 f0 d0
  have cV := gg2.cellV
  have f0 := gg2.frz 1
  have d0 : w2.cell? ⟨w.heap.size + 1, 1, none⟩ = some (.int .u32 0) := gg2.cell 1
  have gs2 : G w R lim V w.heap.size tv 92 _ #[.string key, .int .u32 (vl : Int)] s2 (w2.setCell ⟨w.heap.size + 1, 1, none⟩ (.int .u32 (vl : Int))) := gg2.store 1 _
  clear gg2
  go_wp2_with fail
  clear cV f0 d0
  generalize w2.setCell ⟨w.heap.size + 1, 1, none⟩ (.int .u32 (vl : Int)) = w9 at *
  have cV := gs2.cellV
  have d0 : w9.cell? ⟨w.heap.size + 1, 0, none⟩ = some (.string key) := gs2.cell 0
  have d1 : w9.cell? ⟨w.heap.size + 1, 1, none⟩ = some (.int .u32 (vl : Int)) := gs2.cell 1
  have g8 := gs2.drew
  clear gs2
  go_region_with (first | (go_at_call 148; refine (kc _).mono ?_; rintro e wA ⟨rfl, bA⟩; have gA := g8.below bA; have cA := gA.cellV) | (go_at_call 142; refine (kn _ gA.r).mono ?_; rintro e wB ⟨rfl, rB, qB⟩; have gB := gA.call rB qB))
  all_goals
    have x0 : wB.cell? ⟨w.heap.size + 1, 0, none⟩ = some (.string key) := gB.cell 0
    have x1 : wB.cell? ⟨w.heap.size + 1, 1, none⟩ = some (.int .u32 (vl : Int)) := gB.cell 1
    have y0 : wB.cell? ⟨w.heap.size, 0, none⟩ = some (.string ⟨#[]⟩) := gB.cell0 0
    have z0 := gB.frz0 0
    have y1 : wB.cell? ⟨w.heap.size, 1, none⟩ = some (.int .u32 0) := gB.cell0 1
    have z1 := gB.frz0 1
    have gF := ((gB.store0 0 (.string key)).store0 1 (.int .u32 (vl : Int)))
    clear cA bA gA g8 cV d0 d1 rB qB gB
    go_wp2
    exact bodyPost_ret (results_cell_row rfl _ _ w.heap.size 92 #[.string key, .int .u32 (vl : Int)] (0, 0) _ rfl gF.h0 Tryz.underlying92 rfl (by kernel_rfl)) rfl ⟨rfl, gF.r, gF.k⟩

end Go.Proofs.YtcgecdiaddcfkaaGreatDoor
