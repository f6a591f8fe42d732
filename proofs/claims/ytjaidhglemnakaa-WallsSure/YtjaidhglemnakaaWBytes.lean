/- A disk's sectors, gone through one by one: the iterator's word; All bytes of a disk: the walk of bytesOf. -/
import Derived.Test.YtjaidhglemnakaaWLog
import Derived.Test.YtjaidhglemnakaaGRound
import Derived.Shelf.Abstract
import Derived.Test.YtjaidhglemnakaaWDisk
set_option linter.unusedSimpArgs false
set_option linter.unusedVariables false
namespace Go.Proofs.Ytjaidhglemnakaa
open Go.RowKit Go.Maps
attribute [local go_sem] Oper.semAt_some wfn wdp rfn rdp

theorem sectorsFrom_ok (w : World) (v : Value) (from_ : Int) (hv : v = .pointer none ∨ ∃ B, v = .pointer (some ⟨B, 0, none⟩)) : Calls Try.prog 42 #[v, .int .i64 from_] w fun e w' =>
    e = .returned (.func (.func 49) #[] #[.pointer (some ⟨w.heap.size + 1, 0, none⟩), .pointer (some ⟨w.heap.size, 0, none⟩)]) ∧ (w.alloc (.cells #[v] 24)).alloc (.cells #[.int .i64 from_] 3) = w' := by
  rcases hv with rfl | ⟨B, rfl⟩
  all_goals
    go_enter Try.func42, Try.ntmps42
    go_wp2
    go_ret
    exact ⟨rfl, rfl⟩

/-- A sector's number, and where what is read of it lies. -/
def secEnc (x : Nat × Nat) : Array Value := #[.int .i64 (x.1 : Int), .slice (some ⟨x.2, 0, none⟩) 64 64]
structure FromInv (bf bd B from_ n : Nat) (dk : List (Nat × Nat) → Dk) (pre : List (Nat × Nat)) (W : World) : Prop where
  cf : W.heap[bf]? = some (.cells #[.int .i64 (from_ : Int)] 3 (0, 0))
  cd : W.heap[bd]? = some (.cells #[.pointer (some ⟨B, 0, none⟩)] 24 (0, 0))
  disk : ∃ S, DkAt W B S (dk pre)
  size : (dk pre).sure.length = n
structure FromHx (from_ n : Nat) (dk : List (Nat × Nat) → Dk) (pre : List (Nat × Nat)) (x : Nat × Nat) (W W' : World) : Prop where
  at_ : x.1 = from_ + pre.length
  lt : x.1 < n
  new : W.heap.size ≤ x.2
  mem : W'.heap[x.2]? = some (.cells (bcells ((dk pre).view x.1)).toArray 5 (0, 0))
theorem FromHx.put {from_ n : Nat} {dk : List (Nat × Nat) → Dk} {pre : List (Nat × Nat)} {x : Nat × Nat} {W W' : World} {k : Nat} {o : Obj} (hk : k < W.heap.size) (h : FromHx from_ n dk pre x W W') : FromHx from_ n dk pre x (W.putObj k o) (W'.putObj k o) :=
  ⟨h.at_, h.lt, by rw [World.putObj_size]; exact h.new, by rw [World.putObj_heap_other (by have := h.new; omega)]; exact h.mem⟩
set_option maxHeartbeats 2000000 in
set_option maxRecDepth 1000000 in
theorem from_seq (bf bd B from_ n : Nat) (hn : n ≤ 4096) (dk : List (Nat × Nat) → Dk) :
    SeqTo Try.prog 49 #[.pointer (some ⟨bf, 0, none⟩), .pointer (some ⟨bd, 0, none⟩)] secEnc (FromInv bf bd B from_ n dk) (FromHx from_ n dk) (fun _ _ => True) (fun xs => xs.length = n - from_) := by
  intro l J hInv hY W0 h0
  refine callsIn_of_wp Try.func49 rfl trivial ?_ rfl
  simp only [Try.ntmps49, List.size_toArray, List.length_cons, List.length_nil, Nat.reduceAdd, Nat.reduceSub, Array.replicate_succ, Array.replicate_zero, List.push_toArray, List.append_toArray, List.nil_append, List.cons_append]
  have hcf := box_cell (hInv _ _ h0).cf
  gi_wp2
  gi_loopw [4] (fun i wr => ∃ (pre : List (Nat × Nat)) (W : World), i = .int .i64 ((from_ + pre.length : Nat) : Int) ∧ pre.length ≤ n - from_ ∧ J pre W ∧ Below W.heap.size W wr) (fun i _ => n - (intOf i).toNat)
  case atStart => exact ⟨[], W0, by simp, by simp, h0, Below.refl _ _⟩
  case round =>
    obtain ⟨pre, W, rfl, hpl, hJ, hb⟩ := hrel
    have hI := hInv _ _ hJ
    obtain ⟨S, hdk⟩ := hI.disk
    have hsz := hI.size
    have hdk' := hdk.below hb
    have hcd : wr.cell? ⟨bd, 0, none⟩ = some (.pointer (some ⟨B, 0, none⟩)) := box_cell ((hb.block bd (lt_of_block hI.cd)).trans hI.cd)
    have ks := size_ok hdk'
    rw [hsz] at ks
    by_cases hlt : from_ + pre.length < n
    · have kr := read_ok hdk' (from_ + pre.length) (by rw [hsz]; exact hlt)
      have i1 : ((from_ + pre.length : Nat) : Int) < (n : Int) := by omega
      obtain ⟨at_, hat⟩ : ∃ at_, at_ = from_ + pre.length := ⟨_, rfl⟩
      rw [← hat] at kr i1 ⊢
      have hatH : Hid (at_ = from_ + pre.length) := hat
      have hlt' : at_ < n := by omega
      clear hat
      gi_wp2_with fail
      refine (callsIn_wide.2 ks).mono ?_
      rintro e w' ⟨rfl, rfl⟩
      gi_wp2_with fail
      refine (callsIn_wide.2 kr).mono ?_
      rintro e w1 ⟨rfl, r1, b1⟩
      obtain ⟨fn, tmps, assign, body, hy, hR⟩ := hY pre (at_, wr.heap.size + 1) W w1 hJ (hb.trans (b1.mono hb.size)) ⟨hatH.out, hlt', Nat.le_succ_of_le hb.size, r1⟩
      dsimp only [secEnc] at hy
      gi_wp2
      refine hR.mono ?_
      rintro e W2 ⟨rfl, hJ2, -⟩
      gi_wp2
      go_roundw
      case rel => exact ⟨pre ++ [(at_, wr.heap.size + 1)], W2, by rw [hatH.out]; go_num, by have := hatH.out; simp; omega, hJ2, Below.refl _ _⟩
      case measure => simp [intOf]; omega
    · have i1 : ¬ ((from_ + pre.length : Nat) : Int) < (n : Int) := by omega
      gi_wp2_with (gi_at_call 37; refine (callsIn_wide.2 ks).mono ?_; rintro e w' ⟨rfl, rfl⟩)
      go_end0
      exact ⟨⟨_, rfl⟩, pre, W, by show pre.length = _; omega, hJ, hb⟩
end Go.Proofs.Ytjaidhglemnakaa
namespace Go.Proofs.Ytjaidhglemnakaa
open Go.RowKit Go.Maps
attribute [local go_sem] Oper.semAt_some wfn wdp rfn rdp

theorem wpListIn_append_own_src {F : Fence} {n0 : Nat} {P : Program} (w : World) {ops : Array Oper} {rest : List Oper} {o : Oper} {a : Act} {Q : Exit → Act → World → Prop} (hgd : o.guard = none) (s x : Operand) (t tx : TypeId)
    (ho : o.op = .call { callee := .builtin .append, args := #[s, x], argTypes := #[t, tx] })
    (base : Nat) (e : TypeId) (i : TypeInfo) (z : Value) (size bytes : Nat) (ht : P.underlying t = some (.slice e)) (hi : P.info? e = some i) (hz : i.zero = some z)
    (hsize : i.size = size) (hby : i.bytes = bytes) (hzs : z.cells.size = size) (hsz : 0 < size)
    (v : Value) (n : Nat) (xs : List Value) (hs : a.eval s = v) (hown : w.ownsRow base e size v n xs)
    (u : Value) (m : Nat) (news : List Value) (hx : a.eval x = u) (hsrc : Src P size tx u m news w)
    (h63 : n + m ≤ maxLen) (hbytes : (n + m) * bytes ≤ 140737488355328) (hbase : base ≤ w.heap.size)
    (h : ∀ v' w', w'.ownsRow base e size v' (n + m) (xs ++ news) → w.grownBy w' v.ownBlock → (v'.ownBlock = v.ownBlock ∨ v'.ownBlock = some w.heap.size) → wpListIn F n0 P ops Q rest (a.put o.dst v') w') : wpListIn F n0 P ops Q (o :: rest) a w := by
  refine wpListIn_plain hgd fun K hK' => ?_
  obtain ⟨v', w', hrun, h2, h3, h4⟩ := run_append_own_src (P := P) w base t tx o.type e i z size bytes ht hi hz hsize hby hzs hsz v n xs hown u m news hsrc h63 hbytes hbase
  unfold Oper.wpIn
  refine ⟨?_, ?_⟩
  · simp [Oper.about, ho, resolve, Target.leads, Sem.run_pure]
  · rw [Oper.semAt_plain F _ _ (by rw [ho]; intro c hc'; cases hc')]
    simp [execOp, ho, resolve, invoke, builtin, hs, hx, hrun, Result.andThen]
    exact hK' _ _ (h v' w' h2 h3 h4)

theorem heap_put {W : World} {b k : Nat} {cs : Array Value} {t : TypeId} {fr : Nat × Nat} {o : Obj} (o' : Obj) (hb : W.heap[b]? = some (.cells cs t fr)) (hk : W.heap[k]? = some o) (ho : o.isCells = false) : (W.putObj k o').heap[b]? = some (.cells cs t fr) := by
  rw [World.putObj_heap_other]
  · exact hb
  · rintro rfl
    rw [hb] at hk
    cases hk
    cases ho
theorem cell_put {W : World} {a : Addr} {v : Value} {k : Nat} {o : Obj} (o' : Obj) (h : W.cell? a = some v) (hk : W.heap[k]? = some o) (ho : o.isCells = false) : (W.putObj k o').cell? a = some v :=
  cell_kept h (grownBy_putObj' W k o') (fun r e => by cases e; exact ⟨o, hk, ho⟩)
theorem below_putObj {W W0 : World} {base k : Nat} (o' : Obj) (h : Below base W0 W) (hk : base ≤ k) (hb : base ≤ W.heap.size) : Below base W0 (W.putObj k o') :=
  h.grown (grownBy_putObj' W k o') hb (fun j e => by cases e; exact hk)
theorem DkAt.put {W : World} {B : Nat} {S : List Nat} {d : Dk} (h : DkAt W B S d) {k : Nat} {o : Obj} (o' : Obj) (hk : W.heap[k]? = some o) (ho : o.isCells = false) (hw : o.isWalk = false) : DkAt (W.putObj k o') B S d := by
  have hn : k ∉ S := h.not hk (fun e c he => by subst he; cases hw) (fun _ _ he => by subst he; cases ho) (fun _ _ he => by subst he; cases ho) (fun _ _ he => by subst he; cases ho)
  exact h.kept (fun x hx => World.putObj_heap_other (fun e => hn (e ▸ hx)))
theorem och_putObj {W : World} {r : Nat} (h : W.heap[r]? = some (.deferred (some []))) : OChg (fun o => o = .deferred (some [])) W (W.putObj r (.deferred none)) :=
  ⟨rfl, rfl, rfl, by rw [World.putObj_size]; exact Nat.le_refl _, fun k o hk hn => by
    rw [World.putObj_heap_other (fun e => hn (by subst e; rw [h] at hk; exact (Option.some.inj hk).symm))]
    exact hk⟩
/-- Off the end of a function in which a range over a function stands. -/
theorem leaves_ret {P : Program} {fn : Func} {R : Ending → World → Prop} {a : Act} {W : World} {r : Nat} {v : Value} (hd : a.defers = [{ target := .collected r, args := #[] }]) (hW : W.heap[r]? = some (.deferred (some [])))
    (hr : (results fn a.tmps).run P (W.putObj r (.deferred none)) = .ok v (W.putObj r (.deferred none))) (hR : R (.returned v) (W.putObj r (.deferred none))) : bodyPostM Fence.wide 0 P fn R .ret a W := by
  show LeavesInM Fence.wide 0 P fn a.tmps R a.defers .returning W
  rw [hd]
  exact ⟨by simp, .inl ⟨_, _, rfl, run_takeDeferred hW, v, hr, hR⟩⟩
theorem leaves_end {P : Program} {fn : Func} {R : Ending → World → Prop} {a : Act} {W : World} {r : Nat} {v : Value} (hd : a.defers = [{ target := .collected r, args := #[] }]) (hW : W.heap[r]? = some (.deferred (some [])))
    (hr : (results fn a.tmps).run P (W.putObj r (.deferred none)) = .ok v (W.putObj r (.deferred none))) (hR : R (.returned v) (W.putObj r (.deferred none))) : bodyPostM Fence.wide 0 P fn R .normal a W := by
  show LeavesInM Fence.wide 0 P fn a.tmps R a.defers .returning W
  rw [hd]
  exact ⟨by simp, .inl ⟨_, _, rfl, run_takeDeferred hW, v, hr, hR⟩⟩
theorem FromInv.put {bf bd B from_ n : Nat} {dk : List (Nat × Nat) → Dk} {pre : List (Nat × Nat)} {W : World} (h : FromInv bf bd B from_ n dk pre W) {k : Nat} {o : Obj} (o' : Obj) (hk : W.heap[k]? = some o) (ho : o.isCells = false) (hw : o.isWalk = false) : FromInv bf bd B from_ n dk pre (W.putObj k o') := by
  obtain ⟨S, hd⟩ := h.disk
  exact ⟨heap_put _ h.cf hk ho, heap_put _ h.cd hk ho, ⟨S, hd.put _ hk ho hw⟩, h.size⟩
theorem FromInv.ochg {K : Obj → Prop} {bf bd B from_ n : Nat} {dk dk' : List (Nat × Nat) → Dk} {pre pre' : List (Nat × Nat)} {W W' : World} (h : FromInv bf bd B from_ n dk pre W) (hc : OChg K W W') (h1 : ∀ cs fr, ¬ K (.cells cs 3 fr)) (h2 : ∀ cs fr, ¬ K (.cells cs 24 fr)) (hK : ∀ o, KT true dT o → ¬ K o) (hd : dk' pre' = dk pre) : FromInv bf bd B from_ n dk' pre' W' := by
  obtain ⟨S, hk⟩ := h.disk
  exact ⟨hc.block _ _ h.cf (h1 _ _), hc.block _ _ h.cd (h2 _ _), ⟨S, by rw [hd]; exact hk.ochg hc hK⟩, by rw [hd]; exact h.size⟩
theorem FromInv.below {bf bd B from_ n : Nat} {dk : List (Nat × Nat) → Dk} {pre : List (Nat × Nat)} {W W' : World} (h : FromInv bf bd B from_ n dk pre W) (hc : Below W.heap.size W W') : FromInv bf bd B from_ n dk pre W' :=
  h.ochg (OChg.of_below hc (fun _ => False)) (fun _ _ h => h) (fun _ _ h => h) (fun _ _ h => h) rfl
theorem row_src {W : World} {g : Nat} {bs : List UInt8} {fr : Nat × Nat} (h : W.heap[g]? = some (.cells (bcells bs).toArray 5 fr)) (hn : bs.length = 64) : InAt W (g + 1) (.slice (some ⟨g, 0, none⟩) 64 64) bs := by
  refine ⟨_, _, by rw [hn], by omega, by unfold maxLen; omega, fun hp => ⟨g, 0, rfl, by omega, fun i hi j u hu => ?_⟩⟩
  have hj : j < 1 := by
    rcases Nat.lt_or_ge j 1 with h' | h'
    · exact h'
    · rw [List.getElem?_eq_none (by exact h')] at hu; cases hu
  obtain rfl : j = 0 := by omega
  have hcl : W.cell? ⟨g, i, none⟩ = (bcells bs).toArray[i]? := by simp [World.cell?, h]
  rw [show 0 + i * 1 + 0 = i by omega, hcl]
  simp only [bCell, List.getElem?_cons_zero] at hu
  simp [bcells, hi]
  exact Option.some.inj hu
set_option maxHeartbeats 400000 in
set_option maxRecDepth 1000000 in
theorem bytesOf_ok {w : World} {B : Nat} {S : List Nat} {d : Dk} (h : DkAt w B S d) : Calls Try.prog 40 #[.pointer (some ⟨B, 0, none⟩)] w fun e w' => ∃ v, e = .returned v ∧ BsAt w' w.heap.size v d.all ∧ Below w.heap.size w w' := by
  obtain ⟨i0, hi, hz0, hz1, hz2⟩ := info_parts info_u8
  have ks := size_ok h
  have hok := h.ok
  have hmx := hok.max
  have hlen := fun k hk => Dk.upto_len hok (k := k) hk
  have hvl := fun i hi => Dk.view_len hok (i := i) hi
  have hall : d.all = d.upto d.sure.length := rfl
  obtain ⟨n, hn⟩ : ∃ n, n = d.sure.length := ⟨_, rfl⟩
  rw [← hn] at ks hmx hlen hvl hall
  have hnH : Hid (d.sure.length = n) := hn.symm
  clear hn
  refine callsIn_wide.1 (callsIn_of_wp_marks (n := 0) Try.func40 rfl trivial ?_ rfl)
  simp only [Try.ntmps40, List.size_toArray, List.length_cons, List.length_nil, Nat.reduceAdd, Nat.reduceSub, Array.replicate_succ, Array.replicate_zero, List.push_toArray, List.append_toArray, List.nil_append, List.cons_append]
  gi_wp2_with (first
    | (gi_at_call 37; refine (callsIn_wide.2 ks).mono ?_; rintro e w' ⟨rfl, rfl⟩)
    | (gi_at_make; refine wpListIn_make_own _ rfl _ _ 22 rfl w.heap.size 5 i0 (.int .u8 0) 1 Try.underlying22 hi hz0 hz1 .i64 .i64 _ (n * 64) rfl rfl (by go_num) (by rw [hz2]; omega) (by unfold maxLen; omega) (Nat.le_refl _) ?_; intro w1 o1 g1))
  have b1 : Below w.heap.size w w1 := (Below.refl _ _).grown g1 (Nat.le_refl _) (fun k e => by cases e)
  have z1 := b1.size
  have O1 : BsAt w1 w.heap.size (.slice (some ⟨w.heap.size, 0, none⟩) 0 (n * 64)) (d.upto 0) := o1
  have d1 := h.below b1
  have h2 : (w1.alloc (.cells #[.slice (some ⟨w.heap.size, 0, none⟩) 0 (n * 64)] 22)).heap[w1.heap.size]? = some (.cells #[.slice (some ⟨w.heap.size, 0, none⟩) 0 (n * 64)] 22 (0, 0)) := World.alloc_heap_new w1 _
  have b2 := b1.alloc z1 (.cells #[.slice (some ⟨w.heap.size, 0, none⟩) 0 (n * 64)] 22)
  have O2 := O1.alloc (.cells #[.slice (some ⟨w.heap.size, 0, none⟩) 0 (n * 64)] 22)
  have d2 := d1.below (below_one w1 (.cells #[.slice (some ⟨w.heap.size, 0, none⟩) 0 (n * 64)] 22))
  have z2 : (w1.alloc (.cells #[.slice (some ⟨w.heap.size, 0, none⟩) 0 (n * 64)] 22)).heap.size = w1.heap.size + 1 := by simp
  obtain ⟨W2, hW2⟩ : ∃ W2, w1.alloc (.cells #[.slice (some ⟨w.heap.size, 0, none⟩) 0 (n * 64)] 22) = W2 := ⟨_, rfl⟩
  rw [hW2] at h2 b2 O2 d2 z2 ⊢
  obtain ⟨R, hR⟩ : ∃ R, w1.heap.size = R := ⟨_, rfl⟩
  rw [hR] at h2 z2 z1 ⊢
  have hz : Hid (W2.heap.size = R + 1) := z2
  clear hW2 o1 g1 O1 d1 b1 hR z2
  refine (callsIn_wide.2 (sectorsFrom_ok W2 _ 0 (.inr ⟨B, rfl⟩))).mono ?_
  rintro e w' ⟨rfl, rfl⟩
  gi_wp2
  refine over_all (gf := 49) (lb := #[.pointer (some ⟨W2.heap.size + 1, 0, none⟩), .pointer (some ⟨W2.heap.size, 0, none⟩)]) (by rfl) (enters_of Try.func49 (by kernel_rfl) rfl) (from_seq (W2.heap.size + 1) W2.heap.size B 0 n hmx (fun _ => d)) (fun _ => by rfl)
    (fun pre W => FromInv (W2.heap.size + 1) W2.heap.size B 0 n (fun _ => d) pre W ∧ (∃ v, W.heap[R]? = some (.cells #[v] 22 (0, 0)) ∧ BsAt W w.heap.size v (d.upto pre.length)) ∧ Below w.heap.size w W)
    (fun _ _ hI => hI.1) ?put (fun _ _ _ _ _ _ hk hx => hx.put hk) (fun _ _ _ _ _ _ _ _ _ _ _ _ => trivial) ?start ?a1 ?assign ?body ?done
  case assign =>
    intro l x W K hK
    simp only [secEnc]
    gi_wp2
    exact hK
  case put =>
    rintro pre W k o o' hk ⟨hf, ⟨v, hv, ho⟩, hb⟩ hko hc hw
    refine ⟨hf.put _ hko hc hw, ⟨v, heap_put _ hv hko hc, ownsRow_putObj ho _ hko hc⟩, below_putObj _ hb ?_ hb.size⟩
    have := hz.out
    rcases hk with rfl | rfl <;> simp <;> omega
  case start =>
    intro o
    have e1 := below_one W2 (.cells #[.pointer (some ⟨B, 0, none⟩)] 24)
    obtain ⟨W3, hW3⟩ : ∃ W3, W2.alloc (.cells #[.pointer (some ⟨B, 0, none⟩)] 24) = W3 := ⟨_, rfl⟩
    have c3 : W3.heap[W2.heap.size]? = some (.cells #[.pointer (some ⟨B, 0, none⟩)] 24 (0, 0)) := by rw [← hW3]; exact World.alloc_heap_new W2 _
    have s3 : W3.heap.size = W2.heap.size + 1 := by rw [← hW3]; simp
    rw [hW3] at e1 ⊢
    have e2 := below_one W3 (.cells #[.int .i64 0] 3)
    have c4 : (W3.alloc (.cells #[.int .i64 0] 3)).heap[W3.heap.size]? = some (.cells #[.int .i64 0] 3 (0, 0)) := World.alloc_heap_new W3 _
    have s4 : (W3.alloc (.cells #[.int .i64 0] 3)).heap.size = W3.heap.size + 1 := by simp
    obtain ⟨W4, hW4⟩ : ∃ W4, W3.alloc (.cells #[.int .i64 0] 3) = W4 := ⟨_, rfl⟩
    rw [hW4] at e2 c4 s4 ⊢
    have e3 : Below W4.heap.size W4 ((W4.alloc (.deferred (some []))).alloc o) := (below_one W4 _).trans ((below_one _ _).mono (by simp))
    obtain ⟨W5, hW5⟩ : ∃ W5, (W4.alloc (.deferred (some []))).alloc o = W5 := ⟨_, rfl⟩
    rw [hW5] at e3 ⊢
    rw [s3] at c4
    have E : Below W2.heap.size W2 W5 := (e1.trans (e2.mono (by omega))).trans (e3.mono (by omega))
    refine ⟨⟨?_, ?_, ⟨S, d2.below E⟩, hnH.out⟩, ⟨_, by rw [E.block R (by have := hz.out; omega)]; exact h2, O2.below E⟩, b2.trans (E.mono b2.size)⟩
    · rw [e3.block _ (by omega)]; exact c4
    · rw [e3.block _ (by omega), e2.block _ (by omega)]; exact c3
  case body =>
    rintro l pre x W W' ⟨hf, ⟨v, hv, ho⟩, hb⟩ bW hx hD hN
    have hRlt : R < W.heap.size := lt_of_block hv
    have hv' : W'.heap[R]? = some (.cells #[v] 22 (0, 0)) := by rw [bW.block R hRlt]; exact hv
    have ho' := ho.below bW
    have hb' := hb.trans (bW.mono hb.size)
    have hf' := hf.below bW
    have cR := box_cell hv'
    have hlt := hx.lt
    have hat : x.1 = pre.length := by have := hx.at_; omega
    have hl1 := hlen pre.length (by omega)
    have hsrc := src_in (row_src hx.mem (hvl x.1 hlt))
    rw [hvl x.1 hlt] at hsrc
    have hup : d.upto (pre ++ [x]).length = d.upto pre.length ++ d.view x.1 := by rw [List.length_append, List.length_singleton, Dk.upto_succ, hat]
    have hupl : (d.upto (pre ++ [x]).length).length = pre.length * 64 + 64 := by rw [hlen _ (by rw [List.length_append, List.length_singleton]; omega), List.length_append, List.length_singleton]; omega
    have hob := own_obj ho'
    have hge : ∀ k, v.ownBlock = some k → w.heap.size ≤ k := fun k e => own_row_ge ho' k e
    unfold BsAt at ho'
    rw [hl1] at ho'
    have hvw : Hid (bcells (d.upto pre.length) ++ bcells (d.view x.1) = bcells (d.upto (pre ++ [x]).length)) := by show _ = _; rw [hup, bcells_app]
    obtain ⟨vw, hvv⟩ : ∃ vw, vw = d.view x.1 := ⟨_, rfl⟩
    rw [← hvv] at hsrc hvw
    clear hvv hup
    obtain ⟨UP, hUP⟩ : ∃ UP, UP = d.upto (pre ++ [x]).length := ⟨_, rfl⟩
    rw [← hUP] at hvw hupl
    have hUPH : Hid (UP = d.upto (pre ++ [x]).length) := hUP
    clear hUP
    gi_wp2_with (gi_at_builtin; refine wpListIn_append_own_src _ rfl _ _ 22 22 rfl w.heap.size 5 i0 (.int .u8 0) 1 1 Try.underlying22 hi hz0 hz1 hz2 rfl (by decide) v (pre.length * 64) _ rfl ho' (.slice (some ⟨x.2, 0, none⟩) 64 64) 64 (bcells vw) rfl hsrc (by unfold maxLen; omega) (by omega) hb'.size ?_; refine fun v3 w3 o3 g3 q3 => ?_; obtain ⟨ao3, k3, c3, rfl⟩ := own_slice o3; have hv3 : w3.heap[R]? = some (.cells #[v] 22 (0, 0)) := (g3.block R (lt_of_block hv') (fun e => by obtain ⟨cs, fr, h⟩ := hob R e.symm; rw [hv'] at h; cases h)).trans hv'; have c3R := box_cell hv3; have z3R := box_frozen (i := 0) hv3)
    obtain ⟨V3, hV3⟩ : ∃ V3, V3 = Value.slice ao3 k3 c3 := ⟨_, rfl⟩
    rw [← hV3] at o3 q3 ⊢
    clear hV3
    have c1 : OChg (KT false [5, 22]) W' w3 := OChg.grown g3 (fun k o e hk => by obtain ⟨cs, fr, h⟩ := hob k e; rw [h] at hk; cases hk; exact (by decide : 5 ∈ [5, 22]))
    have c2 : OChg (KT false [5, 22]) W' (w3.setCell ⟨R, 0, none⟩ V3) := c1.trans (OChg.setCell hv3 (by decide : 22 ∈ [5, 22]) V3)
    have o5 : BsAt (w3.setCell ⟨R, 0, none⟩ V3) w.heap.size V3 (d.upto (pre ++ [x]).length) := by
      rw [← hUPH.out]
      unfold BsAt
      rw [hupl, ← hvw.out]
      exact own_kept o3 (fun b e => Below.heap_setCell _ _ _ _ (by
        obtain ⟨cs, fr, h⟩ := own_obj o3 b e
        rintro rfl
        rw [hv3] at h
        cases h))
    have b5 : Below w.heap.size w (w3.setCell ⟨R, 0, none⟩ V3) := (hb'.grown g3 hb'.size hge).setCell (by simpa using z1) _
    clear o3 hvw hUPH
    refine ⟨⟨⟨hf'.ochg c2 (KT.no (by decide)) (KT.no (by decide)) (fun o h1 h2 => KT.off (by decide) h1 h2) rfl, ⟨V3, box_set V3 hv3, o5⟩, b5⟩, trivial⟩, fun k hk => ?_⟩
    obtain ⟨o, ho1, ho2, ho3⟩ := hN k hk
    rw [ho1]
    refine c2.block k o ho1 (fun hK => ?_)
    cases o with
    | cells cs t fr => cases ho2
    | map e c => cases hK
    | _ => exact hK
  case done =>
    rintro xs W1 W hS ⟨hf, ⟨v, hv, ho⟩, hb⟩ bW hD hK
    have hv' : W.heap[R]? = some (.cells #[v] 22 (0, 0)) := by rw [bW.block R (lt_of_block hv)]; exact hv
    have cR := box_cell hv'
    have ho' := ho.below bW
    have hb' := hb.trans (bW.mono hb.size)
    rw [hS, Nat.sub_zero, ← hall] at ho'
    gi_wp2
    have e5 := hz.out
    exact leaves_ret rfl hK (by simp [results, Try.results40, go_sem]) ⟨_, rfl, ho'.ochg (och_putObj hK) (fun _ _ h => by cases h), below_putObj _ hb' (by simp; omega) hb'.size⟩
end Go.Proofs.Ytjaidhglemnakaa
