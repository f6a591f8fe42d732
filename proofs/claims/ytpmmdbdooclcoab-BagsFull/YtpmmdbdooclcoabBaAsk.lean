/- The walks of what a bag asks of places: there, some, more, taken, free, first. -/
import Derived.Test.YtpmmdbdooclcoabQMsg
import Derived.BigRegion
set_option linter.unusedSimpArgs false
set_option linter.unusedVariables false
namespace Go.Proofs.Ytpmmdbdooclcoab
open Go.RowKit

/-- The bag at B: as many as there may be, and its list. -/
def bagO (most : Nat) (v : Value) : Obj := .cells #[.int .i64 (most : Int), v] 50 (0, 0)
theorem two_cells {w : World} {B : Nat} {a b : Value} {t : TypeId} (h : w.heap[B]? = some (.cells #[a, b] t (0, 0))) : w.cell? ⟨B, 0, none⟩ = some a ∧ w.cell? ⟨B, 1, none⟩ = some b := by simp [World.cell?, h]
set_option maxHeartbeats 1000000 in
set_option maxRecDepth 1000000 in
theorem there_nil (w : World) :
    Calls Try.prog 16 #[.pointer none] w fun e w' => e = .returned (.bool false) ∧ w = w' := by
  go_enter Try.func16, Try.ntmps16
  go_wp2
  go_ret
  exact ⟨rfl, rfl⟩
set_option maxHeartbeats 1000000 in
set_option maxRecDepth 1000000 in
theorem there_ok (w : World) (B most : Nat) (v : Value) (hB : w.heap[B]? = some (bagO most v)) (h0 : 0 < most) :
    Calls Try.prog 16 #[ptr B] w fun e w' => e = .returned (.bool true) ∧ w = w' := by
  obtain ⟨c0, c1⟩ := two_cells hB
  have i1 : (0 : Int) < (most : Int) := by omega
  clear hB
  go_enter Try.func16, Try.ntmps16
  go_wp2
  go_ret
  exact ⟨rfl, rfl⟩
set_option maxHeartbeats 1000000 in
set_option maxRecDepth 1000000 in
theorem there_zero (w : World) (B : Nat) (v : Value) (hB : w.heap[B]? = some (bagO 0 v)) :
    Calls Try.prog 16 #[ptr B] w fun e w' => e = .returned (.bool false) ∧ w = w' := by
  obtain ⟨c0, c1⟩ := two_cells hB
  clear hB
  go_enter Try.func16, Try.ntmps16
  go_wp2
  go_ret
  exact ⟨rfl, rfl⟩
set_option maxHeartbeats 1000000 in
set_option maxRecDepth 1000000 in
theorem taken_ok (w : World) (B most n c : Nat) (a : Option Addr) (at_ : Int) (hB : w.heap[B]? = some (bagO most (.slice a n c))) :
    Calls Try.prog 29 #[ptr B, .int .i64 at_] w fun e w' => e = .returned (.bool (decide (0 ≤ at_ ∧ at_ < n))) ∧ Below w.heap.size w w' := by
  obtain ⟨c0, c1⟩ := two_cells hB
  clear hB
  by_cases h0 : 0 ≤ at_
  · by_cases h1 : at_ < n
    · rw [decide_eq_true (show 0 ≤ at_ ∧ at_ < (n : Int) from ⟨h0, h1⟩)]
      go_enter Try.func29, Try.ntmps29
      go_wp2
      go_ret
      exact ⟨rfl, Below.refl _ _⟩
    · rw [decide_eq_false (show ¬ (0 ≤ at_ ∧ at_ < (n : Int)) from fun h => h1 h.2)]
      go_enter Try.func29, Try.ntmps29
      go_wp2
      go_ret
      exact ⟨rfl, Below.refl _ _⟩
  · rw [decide_eq_false (show ¬ (0 ≤ at_ ∧ at_ < (n : Int)) from fun h => h0 h.1)]
    go_enter Try.func29, Try.ntmps29
    go_wp2
    go_ret
    exact ⟨rfl, Below.refl _ _⟩
set_option maxHeartbeats 1000000 in
set_option maxRecDepth 1000000 in
theorem free_ok (w : World) (B most n c : Nat) (a : Option Addr) (hB : w.heap[B]? = some (bagO most (.slice a n c))) :
    Calls Try.prog 25 #[ptr B, .int .i64 (n : Int)] w fun e w' => e = .returned (.bool (decide (n < most))) ∧ Below w.heap.size w w' := by
  obtain ⟨c0, c1⟩ := two_cells hB
  clear hB
  by_cases h1 : n < most
  · have i1 : (n : Int) < (most : Int) := by omega
    rw [decide_eq_true h1]
    go_enter Try.func25, Try.ntmps25
    go_wp2
    go_ret
    exact ⟨rfl, Below.refl _ _⟩
  · have i1 : ¬ (n : Int) < (most : Int) := by omega
    rw [decide_eq_false h1]
    go_enter Try.func25, Try.ntmps25
    go_wp2
    go_ret
    exact ⟨rfl, Below.refl _ _⟩
/-- A question, as a value. -/
def askV (at_ : Int) (f B : Nat) (e : Int) : Value := .agg #[.int .i64 at_, .func (.func f) #[ptr B] #[], .int .i64 e]
set_option maxHeartbeats 1000000 in
set_option maxRecDepth 1000000 in
theorem some_ok (w : World) (B : Nat) (at_ : Int) :
    Calls Try.prog 21 #[ptr B, .int .i64 at_] w fun e w' => e = .returned (askV at_ 29 B 1) ∧ Below w.heap.size w w' := by
  have hmf : ∀ (fn : Fn) (first cap : Array Value) (w : World), (Instr.makeFunc fn first cap).run Try.prog w = .ok (.func fn first cap) w := fun _ _ _ _ => rfl
  have hsf : ∀ (W : World) (a : Addr) (fn : Fn) (first cp : Array Value), (store a (.func fn first cp)).run Try.prog W = stored Try.prog W a (.func fn first cp) .plain := fun W a fn first cp => run_store Try.prog W a _ .plain rfl
  go_enter Try.func21, Try.ntmps21
  go_wp2
  refine bodyPost_ret (v := askV at_ 29 B 1) ?_ rfl ⟨rfl, ?_⟩
  · simp [results, Try.results21, go_sem, askV]
  · exact below_one _ _
set_option maxHeartbeats 1000000 in
set_option maxRecDepth 1000000 in
theorem more_ok (w : World) (B most n c : Nat) (a : Option Addr) (hB : w.heap[B]? = some (bagO most (.slice a n c))) :
    Calls Try.prog 18 #[ptr B] w fun e w' => e = .returned (askV (n : Int) 25 B 5) ∧ Below w.heap.size w w' := by
  obtain ⟨c0, c1⟩ := two_cells hB
  have hlt := blk_lt hB
  clear hB
  have hmf : ∀ (fn : Fn) (first cap : Array Value) (w : World), (Instr.makeFunc fn first cap).run Try.prog w = .ok (.func fn first cap) w := fun _ _ _ _ => rfl
  have hsf : ∀ (W : World) (a : Addr) (fn : Fn) (first cp : Array Value), (store a (.func fn first cp)).run Try.prog W = stored Try.prog W a (.func fn first cp) .plain := fun W a fn first cp => run_store Try.prog W a _ .plain rfl
  go_enter Try.func18, Try.ntmps18
  go_wp2
  have c1' : (w.alloc (.cells #[.int .i64 0, .nilFunc, .int .i64 0] 54)).cell? ⟨B, 1, none⟩ = some (.slice a n c) := (World.cell?_alloc_lt _ _ _ hlt).trans c1
  go_region
  all_goals
    go_wp2
    refine bodyPost_ret (v := askV (n : Int) 25 B 5) ?_ rfl ⟨rfl, ?_⟩
    · simp [results, Try.results18, go_sem, askV]
    · exact (below_one _ _).trans ⟨rfl, rfl, rfl, Nat.le_refl _, fun _ _ => rfl⟩

/-- Questions in memory: the place, who is asked, the error, and the answer. -/
structure AskD where
  at_ : Int
  t : Bool
  e : Int
  b : Bool
def AskD.f (q : AskD) : Nat := if q.t then 29 else 25
def askCells (B : Nat) (q : AskD) : List Value := [.int .i64 q.at_, .func (.func q.f) #[ptr B] #[], .int .i64 q.e]
def firstE : List AskD → Int
  | [] => 0
  | q :: l => if q.b then firstE l else q.e
theorem firstE_step (l : List AskD) (k : Nat) (h : k < l.length) : firstE (l.drop k) = if (l[k]'h).b then firstE (l.drop (k + 1)) else (l[k]'h).e := by
  rw [List.drop_eq_getElem_cons h]; rfl
set_option maxHeartbeats 2000000 in
set_option maxRecDepth 1000000 in
theorem first_ok (w : World) (B : Nat) (v : Value) (l : List AskD) (hv : SlAt 3 (askCells B) w w.heap.size v l)
    (hq : ∀ q ∈ l, ∀ W, Below w.heap.size w W → Calls Try.prog q.f #[ptr B, .int .i64 q.at_] W fun e w' => e = .returned (.bool q.b) ∧ Below W.heap.size W w') :
    Calls Try.prog 17 #[v] w fun e w' => e = .returned (.int .i64 (firstE l)) ∧ Below w.heap.size w w' := by
  obtain ⟨ao, ca, rfl, ha1, ha2, ha3⟩ := hv
  unfold maxLen at ha2
  have hsf : ∀ (W : World) (a : Addr) (fn : Fn) (first cp : Array Value), (store a (.func fn first cp)).run Try.prog W = stored Try.prog W a (.func fn first cp) .plain := fun W a fn first cp => run_store Try.prog W a _ .plain rfl
  go_enter Try.func17, Try.ntmps17
  go_wp2
  go_loopw [7] (fun i wr => ∃ k : Nat, k ≤ l.length ∧ i = .int .i64 (k : Int) ∧ Below w.heap.size w wr ∧ Hid (firstE l = firstE (l.drop k))) (fun i _ => l.length - (intOf i).toNat)
  case atStart => exact ⟨0, by omega, rfl, Below.refl _ _, by show _ = _; rfl⟩
  case round =>
    obtain ⟨k, hk, rfl, hB, hE⟩ := hrel
    by_cases h1 : k < l.length
    · obtain ⟨b1, o1, rfl, hl1, hc1⟩ := ha3 (by omega)
      obtain ⟨q, hqe⟩ : ∃ q, q = l[k]'h1 := ⟨_, rfl⟩
      have hqm : q ∈ l := by rw [hqe]; exact List.getElem_mem _
      have hst := firstE_step l k h1
      rw [← hqe] at hst
      have p : ∀ j u, (askCells B q)[j]? = some u → wr.cell? ⟨b1, o1 + k * 3 + j, none⟩ = some u := fun j u hu => (hB.cell (p := ⟨b1, _, none⟩) hl1).trans (hc1 k h1 j u (by rw [← hqe]; exact hu))
      have p0 := p 0 _ rfl
      have p1 := p 1 _ rfl
      have p2 := p 2 _ rfl
      simp only [Nat.add_zero] at p0
      have hz := hB.size
      have bA : Below w.heap.size w (wr.alloc (.cells #[.int .i64 q.at_, .func (.func q.f) #[ptr B] #[], .int .i64 q.e] 54)) := hB.alloc hz _
      have kq := hq q hqm _ bA
      have fin : Hid (∀ w2, Below (wr.alloc (.cells #[.int .i64 q.at_, .func (.func q.f) #[ptr B] #[], .int .i64 q.e] 54)).heap.size (wr.alloc (.cells #[.int .i64 q.at_, .func (.func q.f) #[ptr B] #[], .int .i64 q.e] 54)) w2 → w2.cell? ⟨wr.heap.size, 2, none⟩ = some (.int .i64 q.e) ∧ Below w.heap.size w w2) := fun w2 hb => by
        refine ⟨(hb.cell (by simp)).trans (by go_simp), bA.trans (hb.mono bA.size)⟩
      clear p hc1 ha3 hqe hqm hB bA hq
      obtain ⟨at_, t, e', b⟩ := q
      simp only [AskD.f] at p0 p1 p2 kq fin hst
      have hst' : Hid (firstE (l.drop k) = if b = true then firstE (l.drop (k + 1)) else e') := hst
      clear hst
      cases b
      · have hE2 : Hid (firstE l = e') := hE.out.trans hst'.out
        clear hE hst'
        cases t
        all_goals
          simp only [if_true, if_false, Bool.false_eq_true] at p1 kq fin
          go_wp2_with (first | (go_at_call 29; refine kq.mono ?_; rintro e w2 ⟨rfl, hb2⟩; obtain ⟨ce, bw⟩ := fin.out w2 hb2; clear kq fin hb2) | (go_at_call 25; refine kq.mono ?_; rintro e w2 ⟨rfl, hb2⟩; obtain ⟨ce, bw⟩ := fin.out w2 hb2; clear kq fin hb2))
          go_ret
          exact ⟨by rw [hE2.out]; rfl, bw⟩
      · have hE2 : Hid (firstE l = firstE (l.drop (k + 1))) := hE.out.trans hst'.out
        clear hE hst'
        cases t
        all_goals
          simp only [if_true, if_false, Bool.false_eq_true] at p1 kq fin
          go_wp2_with (first | (go_at_call 29; refine kq.mono ?_; rintro e w2 ⟨rfl, hb2⟩; obtain ⟨ce, bw⟩ := fin.out w2 hb2; clear kq fin hb2) | (go_at_call 25; refine kq.mono ?_; rintro e w2 ⟨rfl, hb2⟩; obtain ⟨ce, bw⟩ := fin.out w2 hb2; clear kq fin hb2))
          go_roundw
          case rel => exact ⟨k + 1, by omega, by go_num, bw, hE2⟩
          case measure => simp [intOf]; omega
    · clear ha3
      obtain rfl : k = l.length := by omega
      have hE2 : Hid (firstE l = 0) := hE.out.trans (by rw [List.drop_length]; rfl)
      clear hE
      go_wp2
      go_ret
      exact ⟨by rw [hE2.out]; rfl, hB⟩
end Go.Proofs.Ytpmmdbdooclcoab
