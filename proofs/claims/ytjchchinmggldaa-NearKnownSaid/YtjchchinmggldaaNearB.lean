/-
  Contracts of package near: the stack; slices.All and slices.Backward of numbers. No conditions but that rows are small.
-/
import Derived.Test.YtjchchinmggldaaNearA
import Derived.Test.YtjchchinmggldaaCount
import Derived.Test.YtjchchinmggldaaRegIn
import Derived.Test.YtjchchinmggldaaGzS
namespace Go.Proofs.Ytjchchinmggldaa.Near
open Go.RowKit Go.Shelf Go.Proofs.Ytjchchinmggldaa.Suf

attribute [local go_sem] Oper.semAt_some

/-- A shorter slice of the same row. -/
theorem shorterRow {B : Nat} {w0 w : World} {r : List Thing} {e : TypeId} {a : Option Addr} {n c : Nat} {xs : List Value} (st : St B w0 w (rowT e 1 (.slice a n c) n xs :: r)) (m : Nat) (hm : m ≤ n) : St B w0 w (rowT e 1 (.slice a m c) m (xs.take m) :: r) :=
  st.step fun S hS => by
    refine ⟨S, ⟨?_, fun k => by cases a <;> exact hS.2 k⟩, Only.refl _ _, fun k hk => .inl hk⟩
    have h := hS.1
    refine ⟨by rw [List.length_take, h.1]; omega, ?_⟩
    rcases h.2 with ⟨e1, h0⟩ | ⟨g, cap, cur, e1, hb, hg, hnc, hcm, hcs, ht⟩
    · obtain ⟨rfl, rfl, rfl⟩ := Value.slice.inj e1
      obtain rfl : m = 0 := by omega
      exact .inl ⟨rfl, rfl⟩
    · obtain ⟨rfl, -, rfl⟩ := Value.slice.inj e1
      refine .inr ⟨g, c, cur, rfl, hb, hg, by omega, hcm, hcs, ?_⟩
      rw [← ht, List.take_take, Nat.mul_one, Nat.mul_one, Nat.min_eq_left hm]

section
variable {B : Nat} {w0 w : World} {r : List Thing}

/-- A stack at block sb, and its places, the last one behind. -/
def Stk (B : Nat) (w0 w : World) (r : List Thing) (sb : Nat) (xs : List Int) : Prop := ∃ v, St B w0 w (boxT sb #[v] 34 :: rowT 3 1 v xs.length (iVals xs) :: r)

set_option maxRecDepth 100000 in
set_option maxHeartbeats 2000000 in
theorem push_st (sb : Nat) (xs : List Int) (x : Int) (hn : xs.length ≤ 900000) (h : Stk B w0 w r sb xs) :
    Calls Try.prog 18 #[.pointer (some ⟨sb, 0, none⟩), .int .i64 x] w fun e w' => e = .returned (.tuple #[]) ∧ Stk B w0 w' r sb (xs ++ [x]) := by
  obtain ⟨v, st⟩ := h
  unfold Stk
  simp only [List.length_append, List.length_singleton]
  obtain ⟨va, vc, rfl⟩ : ∃ a c, v = .slice a xs.length c := ownsRow_slice (St.row st.swap)
  obtain ⟨n, hn'⟩ : ∃ n, xs.length = n := ⟨_, rfl⟩
  rw [hn'] at hn st ⊢
  clear hn'
  have c0 := (st.boxAt 0).1
  have f0 := (st.boxAt 0).2
  simp only [List.getElem?_toArray, List.getElem?_cons_zero] at c0
  go_enter Try.func18, Try.ntmps18
  go_wp2_with (at_builtin; refine wpList_append_int rfl _ _ rfl x st.swap rfl rfl (by omega) ?_)
  intro v' w' s3
  obtain ⟨xa, xc, rfl⟩ : ∃ a c, v' = .slice a (n + 1) c := ownsRow_slice (St.row s3)
  have c1 := (s3.swap.boxAt 0).1
  have f1 := (s3.swap.boxAt 0).2
  simp only [List.getElem?_toArray, List.getElem?_cons_zero] at c1
  have s4 := s3.swap.setBox (.slice xa (n + 1) xc)
  go_wp2
  go_end0
  exact ⟨rfl, _, s4⟩

set_option maxRecDepth 100000 in
set_option maxHeartbeats 2000000 in
theorem pop_st (sb : Nat) (xs : List Int) (x : Int) (hn : xs.length ≤ 900000) (h : Stk B w0 w r sb (xs ++ [x])) :
    Calls Try.prog 19 #[.pointer (some ⟨sb, 0, none⟩)] w fun e w' => e = .returned (.int .i64 x) ∧ Stk B w0 w' r sb xs := by
  obtain ⟨v, st⟩ := h
  unfold Stk
  obtain ⟨g, vc, rfl, hcap⟩ := St.rowShape st.swap (by simp)
  have hx : w.cell? ⟨g, xs.length, none⟩ = some (.int .i64 x) := by
    have := (St.row st.swap).cellAt xs.length (by simp)
    rw [this, iVals_get _ _ (by simp)]
    simp
  have e2 : (iVals (xs ++ [x])).take xs.length = iVals xs := by rw [iVals_snoc, List.take_left' (iVals_length xs)]
  rw [List.length_append, List.length_singleton] at st hcap
  have s2 := (shorterRow st.swap xs.length (by omega)).swap
  rw [e2] at s2
  obtain ⟨n, hn'⟩ : ∃ n, xs.length = n := ⟨_, rfl⟩
  rw [hn'] at hn st s2 hx hcap ⊢
  clear hn'
  have c0 := (st.boxAt 0).1
  have f0 := (st.boxAt 0).2
  simp only [List.getElem?_toArray, List.getElem?_cons_zero] at c0
  have s3 := s2.setBox (.slice (some ⟨g, 0, none⟩) n vc)
  clear s2 st e2
  go_enter Try.func19, Try.ntmps19
  go_wp2
  go_ret
  exact ⟨rfl, _, s3⟩

end

/-- What a loop over a row is told of it. -/
theorem rowNth {n0 : Nat} {w : World} {a : Option Addr} {c : Nat} {l : List Int} (hv : ∀ W, Below n0 w W → IntRow W (.slice a l.length c) l) :
    ∀ W, Below n0 w W → ∀ i, i < l.length → (-9223372036854775808 ≤ nthI l i ∧ nthI l i ≤ 9223372036854775807) ∧ ∃ b off, a = some ⟨b, off, none⟩ ∧ W.cell? ⟨b, off + i, none⟩ = some (.int .i64 (nthI l i)) := fun W hW i hi => by
  obtain ⟨a', c', e, _, h⟩ := intNth (hv W hW)
  obtain ⟨rfl, -, -⟩ := Value.slice.inj e
  exact h i hi

set_option maxRecDepth 100000 in
set_option maxHeartbeats 2000000 in
/-- slices.All's function: the numbers of a row, with their places. -/
theorem all_seq (n : Nat) (hn : 1 ≤ n) (Bs n0 : Nat) (a : Option Addr) (c : Nat) (l : List Int) (w : World) (hB0 : Bs < n0) (hn0 : n0 ≤ w.heap.size) (hL : l.length ≤ 1000000)
    (hb : w.cell? ⟨Bs, 0, none⟩ = some (.slice a l.length c)) (hv : ∀ W, Below n0 w W → IntRow W (.slice a l.length c) l) :
    SeqN Fence.wide n Try.prog 20 #[.pointer (some ⟨Bs, 0, none⟩)] (fun k => #[.int .i64 (k : Int), .int .i64 (nthI l k)]) (Below n0) l.length w := by
  intro ll J W hW _ hY h0
  refine callsIn_of_wp Try.func20 rfl trivial ?_ rfl
  simp only [Try.ntmps20, List.size_toArray, List.length_cons, List.length_nil, Nat.reduceAdd, Nat.reduceSub, Array.replicate_succ, Array.replicate_zero, List.push_toArray, List.append_toArray, List.nil_append, List.cons_append]
  have hW0 : Below n0 w W := hW.mono hn0
  have hb1 := (hW0.cell (p := ⟨Bs, 0, none⟩) hB0).trans hb
  have HR := Lib.hid (rowNth hv)
  obtain ⟨N, hN⟩ : ∃ N, l.length = N := ⟨_, rfl⟩
  rw [hN] at hL hb1 HR hY ⊢
  clear hb hv hW hN
  gi_wp2
  gi_loopw [7] (fun iv wr => ∃ k : Nat, k ≤ N ∧ iv = .int .i64 (k : Int) ∧ J k wr ∧ Below n0 w wr) (fun iv _ => N - (intOf iv).toNat)
  case atStart => exact ⟨0, Nat.zero_le _, rfl, h0, hW0⟩
  case round =>
    clear hb1 hW0 h0
    obtain ⟨k, hk, rfl, hJ, hBl⟩ := hrel
    by_cases hlt : k < N
    · obtain ⟨-, b, off, rfl, c0⟩ := HR.out wr hBl k hlt
      obtain ⟨fn, tmps, assign, body, hy, hR⟩ := hY _ _ hlt hJ
      gi_wp2
      refine hR.mono ?_
      rintro e W3 ⟨rfl, hJ3, hk3⟩
      have hB3 := hBl.trans hk3
      clear hR hy c0
      gi_wp2
      go_roundw
      case rel => exact ⟨k + 1, by omega, by go_num, hJ3, hB3⟩
      case measure => simp only [intOf]; omega
    · obtain rfl : k = N := by omega
      gi_wp2
      go_end0
      exact ⟨⟨_, rfl⟩, hJ⟩

set_option maxRecDepth 100000 in
set_option maxHeartbeats 2000000 in
/-- slices.Backward's function: the same, the last first. -/
theorem back_seq (n : Nat) (hn : 1 ≤ n) (Bs n0 : Nat) (a : Option Addr) (c : Nat) (l : List Int) (w : World) (hB0 : Bs < n0) (hn0 : n0 ≤ w.heap.size) (hL : l.length ≤ 1000000)
    (hb : w.cell? ⟨Bs, 0, none⟩ = some (.slice a l.length c)) (hv : ∀ W, Below n0 w W → IntRow W (.slice a l.length c) l) :
    SeqN Fence.wide n Try.prog 21 #[.pointer (some ⟨Bs, 0, none⟩)] (fun k => #[.int .i64 ((l.length - 1 - k : Nat) : Int), .int .i64 (nthI l (l.length - 1 - k))]) (Below n0) l.length w := by
  intro ll J W hW _ hY h0
  refine callsIn_of_wp Try.func21 rfl trivial ?_ rfl
  simp only [Try.ntmps21, List.size_toArray, List.length_cons, List.length_nil, Nat.reduceAdd, Nat.reduceSub, Array.replicate_succ, Array.replicate_zero, List.push_toArray, List.append_toArray, List.nil_append, List.cons_append]
  have hW0 : Below n0 w W := hW.mono hn0
  have hb1 := (hW0.cell (p := ⟨Bs, 0, none⟩) hB0).trans hb
  have HB := Lib.hid hb
  have HR := Lib.hid (rowNth hv)
  obtain ⟨N, hN⟩ : ∃ N, l.length = N := ⟨_, rfl⟩
  rw [hN] at hL hb1 HR HB hY ⊢
  clear hb hv hW hN
  gi_wp2
  gi_loopw [3] (fun iv wr => ∃ m : Nat, m ≤ N ∧ iv = .int .i64 ((m : Int) - 1) ∧ J (N - m) wr ∧ Below n0 w wr) (fun iv _ => (intOf iv + 1).toNat)
  case atStart => exact ⟨N, Nat.le_refl _, rfl, by rw [Nat.sub_self]; exact h0, hW0⟩
  case round =>
    clear hb1 hW0 h0
    obtain ⟨m, hm, rfl, hJ, hBl⟩ := hrel
    cases m with
    | zero =>
      gi_wp2
      go_end0
      exact ⟨⟨_, rfl⟩, hJ⟩
    | succ j =>
      have hb1 := (hBl.cell (p := ⟨Bs, 0, none⟩) hB0).trans HB.out
      obtain ⟨-, b, off, rfl, c0⟩ := HR.out wr hBl j (by omega)
      have e1 : N - 1 - (N - (j + 1)) = j := by omega
      obtain ⟨fn, tmps, assign, body, hy, hR⟩ := hY _ _ (by omega) hJ
      rw [e1] at hy
      have e2 : ((j + 1 : Nat) : Int) - 1 = (j : Int) := by omega
      rw [e2]
      gi_wp2
      refine hR.mono ?_
      rintro e W3 ⟨rfl, hJ3, hk3⟩
      have hB3 := hBl.trans hk3
      clear hR hy c0 hb1
      gi_wp2
      go_roundw
      case rel => exact ⟨j, by omega, by go_num, by rw [show N - j = N - (j + 1) + 1 from by omega]; exact hJ3, hB3⟩
      case measure => simp [intOf]

set_option maxHeartbeats 1000000 in
/-- slices.All: the slice is boxed; the function that comes back holds the box. -/
theorem all_any (a : Option Addr) (len cap : Nat) (w : World) :
    Calls Try.prog 16 #[.slice a len cap] w fun e w' => e = .returned (.func (.func 20) #[] #[.pointer (some ⟨w.heap.size, 0, none⟩)]) ∧ w' = w.alloc (.cells #[.slice a len cap] 22) := by
  have hmf : ∀ (fn : Fn) (first cap : Array Value) (w : World), (Instr.makeFunc fn first cap).run Try.prog w = .ok (.func fn first cap) w := fun _ _ _ _ => rfl
  go_enter Try.func16, Try.ntmps16
  go_wp2
  go_ret
  exact ⟨rfl, rfl⟩

set_option maxHeartbeats 1000000 in
/-- slices.Backward: the same. -/
theorem back_any (a : Option Addr) (len cap : Nat) (w : World) :
    Calls Try.prog 17 #[.slice a len cap] w fun e w' => e = .returned (.func (.func 21) #[] #[.pointer (some ⟨w.heap.size, 0, none⟩)]) ∧ w' = w.alloc (.cells #[.slice a len cap] 22) := by
  have hmf : ∀ (fn : Fn) (first cap : Array Value) (w : World), (Instr.makeFunc fn first cap).run Try.prog w = .ok (.func fn first cap) w := fun _ _ _ _ => rfl
  go_enter Try.func17, Try.ntmps17
  go_wp2
  go_ret
  exact ⟨rfl, rfl⟩

end Go.Proofs.Ytjchchinmggldaa.Near
