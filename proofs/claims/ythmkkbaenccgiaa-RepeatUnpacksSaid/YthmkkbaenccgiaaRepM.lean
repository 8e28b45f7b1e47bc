/-
  Contracts of the library: a product of two numbers that is small; 'copy' of elements of several cells; a row of one element, repeated. No conditions but that the numbers are small.
-/
import Derived.Test.YthmkkbaenccgiaaRepS
import Derived.Laws.CopyOwn
namespace Go.Proofs.Ythmkkbaenccgiaa.Rep
open Go.RowKit

theorem and_low (n : Nat) (h : n < 4294967296) : bits .and .u64 (n : Int) 4294967295 = (n : Int) := by
  have h7 : (BitVec.ofInt 64 4294967295).toNat = 2 ^ 32 - 1 := by decide
  have key : (BitVec.ofInt 64 (n : Int) &&& BitVec.ofInt 64 4294967295).toNat = ((n : Int) % ((2 ^ 64 : Nat) : Int)).toNat % 2 ^ 32 := by
    rw [BitVec.toNat_and, BitVec.toNat_ofInt, h7, Nat.and_two_pow_sub_one_eq_mod]
  show IntKind.u64.wrap ((BitVec.ofInt 64 (n : Int) &&& BitVec.ofInt 64 4294967295).toNat : Nat) = (n : Int)
  rw [key]
  simp [IntKind.wrap, IntKind.signed, IntKind.bits]
  omega

/-- bits.Mul64 of 1 and a small number. -/
theorem mul64_any (w : World) (n : Nat) (hn : n < 4294967296) : Calls Try.prog 34 #[.int .u64 1, .int .u64 (n : Int)] w fun e w' => e = .returned (.tuple #[.int .u64 0, .int .u64 (n : Int)]) ∧ w = w' := by
  have e1 : bits .and .u64 1 4294967295 = 1 := by decide
  have e2 := and_low n hn
  have e3 : bits .and .u64 0 4294967295 = 0 := by decide
  have e4 : (n : Int) / 4294967296 = 0 := by omega
  have e5 : (1 : Int) / 4294967296 = 0 := by omega
  go_enter Try.func34, Try.ntmps34
  go_wp2
  go_ret2
  exact ⟨rfl, rfl⟩

theorem mul_any (w : World) (n : Nat) (hn : n < 4294967296) : Calls Try.prog 32 #[.int .u64 1, .int .u64 (n : Int)] w fun e w' => e = .returned (.tuple #[.int .u64 0, .int .u64 (n : Int)]) ∧ w = w' := by
  go_enter Try.func32, Try.ntmps32
  go_wp2_with (go_at_call 34; refine (mul64_any _ n hn).mono ?_; rintro e w1 ⟨rfl, rfl⟩)
  go_ret2
  exact ⟨rfl, rfl⟩

/-- 'copy' of k elements of some cells each. -/
theorem run_copy_sized {P : Program} (w : World) (dT sT ty elem : TypeId) (g o dLen dCap : Nat) (ad : Addr) (sLen sCap : Nat) (cur : Array Value) (t : TypeId) (cs : List Value) (k size : Nat)
    (hu : P.underlying dT = some (.slice elem)) (hs : (P.info? elem).map (·.size) = some size)
    (hg : w.heap[g]? = some (.cells cur t (0, 0))) (hk : k = Nat.min sLen dLen) (hn : cs.length = k * size)
    (hsrc : ∀ j v, cs[j]? = some v → w.cell? (ad.add j) = some v) (hfit : o + cs.length ≤ cur.size) (h1 : ∀ v ∈ cs, v.oneCell' = true) :
    (Builtin.copy_ #[dT, sT] ty #[.slice (some ⟨g, o, none⟩) dLen dCap, .slice (some ad) sLen sCap]).run P w =
      .ok (goInt k) (w.setRow g (cur.toList.take o ++ cs ++ cur.toList.drop (o + cs.length)).toArray) := by
  have hl := run_loadCells_list (P := P) w ad cs hsrc
  have hst := run_storeCells_at P g o t cs 0 cur w hg (by simpa using hfit) h1
  rw [hn] at hl
  cases hq : P.info? elem with
  | none => simp [hq] at hs
  | some i =>
    have hi : i.size = size := by simpa [hq] using hs
    simp [Builtin.copy_, run_underlying hu, Builtin.lenOf, Builtin.firstCells, sizeOf, typeInfo, hq, hi, ← hk, hl, hst]

theorem wpList_copy_st {P : Program} {ops : Array Oper} {rest : List Oper} {o : Oper} {a : Act} {Q : Exit → Act → World → Prop} (hgd : o.guard = none) (d s : Operand) (dT sT : TypeId)
    (ho : o.op = .call { callee := .builtin .copy, args := #[d, s], argTypes := #[dT, sT] }) (elem : TypeId) (size : Nat) (hu : P.underlying dT = some (.slice elem)) (hsz : (P.info? elem).map (·.size) = some size)
    {B : Nat} {w0 w : World} {r : List Thing} {g N : Nat} {cells : List Value} (st : St B w0 w (rowT elem size (.slice (some ⟨g, 0, none⟩) N N) N cells :: r))
    (off dLen dCap : Nat) (ad : Addr) (sLen sCap : Nat) (hd : a.eval d = .slice (some ⟨g, off, none⟩) dLen dCap) (hs : a.eval s = .slice (some ad) sLen sCap)
    (k : Nat) (hk : k = Nat.min sLen dLen) (cs : List Value) (hn : cs.length = k * size)
    (hsrc : ∀ j v, cs[j]? = some v → w.cell? (ad.add j) = some v) (hfit : off + cs.length ≤ N * size) (h1 : ∀ v ∈ cs, v.oneCell' = true)
    (h : ∀ w', St B w0 w' (rowT elem size (.slice (some ⟨g, 0, none⟩) N N) N (splice cells off cs) :: r) → wpList P ops Q rest (a.put o.dst (goInt k)) w') : wpList P ops Q (o :: rest) a w := by
  refine wpList_plain hgd fun K hK => ?_
  have hrow := st.row
  rcases hrow.2 with ⟨e1, _⟩ | ⟨g', cap, cur, e1, _, hg, hc1, hc2, hcs, htk⟩
  · cases e1
  · have e2 := Value.slice.inj e1
    have e3 : g' = g := (congrArg Addr.block (Option.some.inj e2.1)).symm
    have e4 : cap = N := e2.2.2.symm
    subst e3 e4
    have hcl : cur.toList = cells := by rw [← htk, List.take_of_length_le (by simp [hcs])]
    have hrun := run_copy_sized (P := P) w dT sT o.type elem g' off dLen dCap ad sLen sCap cur elem cs k size hu hsz hg hk hn hsrc (by rw [hcs]; exact hfit) h1
    unfold Oper.wp
    simp only [execOp, ho, resolve, invoke, builtin, Sem.run_bind, Sem.run_pure, Result.andThen_ok, List.map_toArray, List.map_cons, List.map_nil, hd, hs, hrun]
    refine hK _ _ (h _ (st.grown ?_ ?_ (Fresh.refl _ _)))
    · have hlen : (splice cells off cs).length = cap * size := by rw [length_splice _ _ _ (by rw [← hcl]; simp [hcs]; exact hfit), ← hcl]; simp [hcs]
      refine ⟨hlen, .inr ⟨g', cap, (splice cells off cs).toArray, rfl, Nat.zero_le _, ?_, Nat.le_refl _, hc2, by simp [hlen], by simp [← hlen]⟩⟩
      rw [hcl, List.append_assoc]
      exact setRow_heap w g' cur (splice cells off cs).toArray elem _ hg
    · refine ⟨rfl, rfl, rfl, by simp [World.setRow], fun k hk hne => ?_⟩
      exact setRow_other w g' k _ (fun e => hne (by rw [← e]; rfl))

theorem run_copy_none_sized {P : Program} (w : World) (dT sT ty elem : TypeId) (d a : Option Addr) (dLen dCap sLen sCap size : Nat) (hu : P.underlying dT = some (.slice elem)) (hs : (P.info? elem).map (·.size) = some size) (hn : Nat.min sLen dLen = 0) :
    (Builtin.copy_ #[dT, sT] ty #[.slice d dLen dCap, .slice a sLen sCap]).run P w = .ok (goInt 0) w := by
  cases hq : P.info? elem with
  | none => simp [hq] at hs
  | some i =>
    have hl : ∀ (x : Addr), (loadCells x 0).run P w = .ok #[] w := fun x => by simpa using run_loadCells_list (P := P) w x [] (by simp)
    cases d <;> cases a <;> simp [Builtin.copy_, run_underlying hu, Builtin.lenOf, Builtin.firstCells, sizeOf, typeInfo, hq, hn, storeCells, hl]

theorem wpList_copy_none_sized {P : Program} {w : World} {ops : Array Oper} {rest : List Oper} {o : Oper} {a : Act} {Q : Exit → Act → World → Prop} (hgd : o.guard = none) (d s : Operand) (dT sT : TypeId)
    (ho : o.op = .call { callee := .builtin .copy, args := #[d, s], argTypes := #[dT, sT] }) (elem : TypeId) (size : Nat) (hu : P.underlying dT = some (.slice elem)) (hsz : (P.info? elem).map (·.size) = some size)
    (dp sp : Option Addr) (dLen dCap sLen sCap : Nat) (hd : a.eval d = .slice dp dLen dCap) (hs : a.eval s = .slice sp sLen sCap) (hn : Nat.min sLen dLen = 0)
    (h : wpList P ops Q rest (a.put o.dst (goInt 0)) w) : wpList P ops Q (o :: rest) a w := by
  refine wpList_plain hgd fun K hK => ?_
  have hrun := run_copy_none_sized (P := P) w dT sT o.type elem dp sp dLen dCap sLen sCap size hu hsz hn
  unfold Oper.wp
  simp [execOp, ho, resolve, invoke, builtin, hd, hs, hrun, Result.andThen]
  exact hK _ _ h

/-- k times these cells. -/
def rep (k : Nat) (cs : List Value) : List Value := (List.replicate k cs).flatten

theorem rep_length (k : Nat) (cs : List Value) : (rep k cs).length = k * cs.length := by
  induction k with
  | zero => simp [rep]
  | succ k ih =>
    unfold rep at *
    rw [List.replicate_succ, List.flatten_cons, List.length_append, ih, Nat.succ_mul]
    omega

theorem rep_add (j k : Nat) (cs : List Value) : rep (j + k) cs = rep j cs ++ rep k cs := by
  unfold rep
  rw [← List.replicate_append_replicate, List.flatten_append]

theorem rep_one (k : Nat) (cs : List Value) (h : ∀ v ∈ cs, v.oneCell' = true) : ∀ v ∈ rep k cs, v.oneCell' = true := by
  intro v hv
  unfold rep at hv
  simp only [List.mem_flatten, List.mem_replicate] at hv
  obtain ⟨l, ⟨_, rfl⟩, h2⟩ := hv
  exact h v h2

/-- A copy behind n elements of k more. -/
theorem splice_rep (n k m : Nat) (cs zs : List Value) (hz : zs.length = cs.length) (h : n + k ≤ m) :
    splice (rep n cs ++ rep (m - n) zs) (n * cs.length) (rep k cs) = rep (n + k) cs ++ rep (m - (n + k)) zs := by
  unfold splice
  have e1 : m - n = k + (m - (n + k)) := by omega
  rw [e1, rep_add n k, rep_add k (m - (n + k)) zs, rep_length]
  have l1 := rep_length n cs
  have l2 := rep_length k zs
  rw [hz] at l2
  rw [List.take_left' l1, List.append_assoc, List.drop_append, List.drop_of_length_le (by omega), List.nil_append, List.drop_append, List.drop_of_length_le (by omega), List.nil_append, l1, l2, show n * cs.length + k * cs.length - n * cs.length - k * cs.length = 0 from by omega, List.drop_zero]

theorem rep_u8s (k y : Nat) : u8s (List.replicate k y) = rep k [.int .u8 (y : Int)] := by
  induction k with
  | zero => rfl
  | succ k ih =>
    unfold rep at *
    rw [List.replicate_succ, List.replicate_succ, List.flatten_cons, ← ih]
    rfl

theorem rep_sgn (k : Nat) (s : Nat × Nat) : sgn (List.replicate k s) = rep k [.int .u8 (s.1 : Int), .int .u8 (s.2 : Int)] := by
  induction k with
  | zero => rfl
  | succ k ih =>
    unfold rep at *
    rw [List.replicate_succ, List.replicate_succ, List.flatten_cons, ← ih]
    rfl

set_option maxRecDepth 100000 in
set_option maxHeartbeats 1000000 in
/-- slices.Repeat of a row of one element. -/
theorem repeatB_st {B : Nat} {w0 w : World} {r : List Thing} (st : St B w0 w r) (b off cap0 : Nat) (cs : List Value) (hcs : cs.length = 1) (h1 : ∀ v ∈ cs, v.oneCell' = true) (hsrc : ∀ j v, cs[j]? = some v → w.cell? ((⟨b, off, none⟩ : Addr).add j) = some v)
    (m : Nat) (hm : m ≤ 1000000) :
    Calls Try.prog 23 #[.slice (some ⟨b, off, none⟩) 1 cap0, .int .i64 (m : Int)] w fun e w' => ∃ v', e = .returned v' ∧ St B w0 w' (rowT 5 1 v' m (rep m cs) :: r) := by
  obtain ⟨i0, hi, hz0, hz1, hz2⟩ := info_parts info8
  have hmk : i0.bytes * m ≤ 281474976710656 := by rw [hz2]; omega
  have hmx : m ≤ maxLen := by unfold maxLen; omega
  have hu : (m : Int) % 18446744073709551616 = (m : Int) := by omega
  go_enter Try.func23, Try.ntmps23
  go_wp2_with (first | (go_at_call 32; refine (mul_any _ m (by omega)).mono ?_; rintro e w1 ⟨rfl, rfl⟩) | (at_make; refine wpList_make_full _ rfl _ _ 22 rfl w.heap.size 5 i0 (.int .u8 0) 1 Try.underlying22 hi hz0 hz1 _ _ _ _ m rfl rfl rfl rfl hmk hmx (Nat.le_refl _) ?_))
  intro w1 hown hgrow
  have s1 : St B w0 w1 (rowT 5 1 (.slice (some ⟨w.heap.size, 0, none⟩) m m) m (rep m [.int .u8 0]) :: r) := by
    rw [toList_madeCells_one] at hown
    have e1 : List.replicate m (Value.int .u8 0) = rep m [.int .u8 0] := by unfold rep; simp
    rw [e1] at hown
    exact st.addRow ((Below.refl w.heap.size w).grown hgrow (Nat.le_refl _) (by simp)) hown
  have hbl : 0 < m → b < w.heap.size := fun _ => by
    have h2 := hsrc 0 cs[0] (by simp)
    rw [add_none] at h2
    exact World.block_lt_of_cell? w _ h2
  have hsrc1 : ∀ j v, cs[j]? = some v → w1.cell? ((⟨b, off, none⟩ : Addr).add j) = some v := fun j v hj => by
    have h2 := hsrc j v hj
    rw [add_none] at h2 ⊢
    have h3 := World.block_lt_of_cell? w _ h2
    exact ((((Below.refl w.heap.size w).grown hgrow (Nat.le_refl _) (by simp)).cell (p := ⟨b, off + j, none⟩) h3)).trans h2
  obtain ⟨g, hg⟩ : ∃ g, g = w.heap.size := ⟨_, rfl⟩
  rw [← hg] at s1 ⊢
  clear hown hgrow hg hi hz0 hz1 hz2 hmk hmx hsrc hbl st
  by_cases h0 : m = 0
  · subst h0
    go_wp2_with (refine wpList_copy_none_sized (o := ⟨some 33, _, _, _, _, _⟩) rfl _ _ 22 22 rfl 5 1 Try.underlying22 (by kernel_rfl) _ _ _ _ _ _ rfl rfl rfl ?_)
    go_loopw [8] (fun n wr => n = .int .i64 0 ∧ wr = w1) (fun _ _ => 0)
    case atStart => exact ⟨rfl, rfl⟩
    case round =>
      obtain ⟨rfl, rfl⟩ := hrel
      go_wp2
      go_ret
      exact ⟨_, rfl, s1⟩
  · have hpos : 0 < m := by omega
    go_wp2_with (refine wpList_copy_st (o := ⟨some 33, _, _, _, _, _⟩) rfl _ _ 22 22 rfl 5 1 Try.underlying22 (by kernel_rfl) s1 0 _ _ _ _ _ rfl rfl 1 (Nat.min_eq_left hpos).symm cs (by omega) hsrc1 (by omega) h1 ?_)
    intro w2 s2
    have e1 := splice_rep 0 1 m cs [.int .u8 0] (by rw [hcs]; rfl) (by omega)
    have e2 : rep 1 cs = cs := by simp [rep]
    rw [Nat.zero_mul, e2, Nat.sub_zero, Nat.zero_add, show rep 0 cs = [] from rfl, List.nil_append] at e1
    rw [e1, show cs ++ rep (m - 1) [Value.int .u8 0] = rep 1 cs ++ rep (m - 1) [Value.int .u8 0] from by rw [e2]] at s2
    clear e1 e2 s1 hsrc1
    go_wp2
    go_loopw [8] (fun v wr => ∃ n : Nat, 1 ≤ n ∧ n ≤ m ∧ v = .int .i64 (n : Int) ∧ St B w0 wr (rowT 5 1 (.slice (some ⟨g, 0, none⟩) m m) m (rep n cs ++ rep (m - n) [.int .u8 0]) :: r)) (fun v _ => m - (intOf v).toNat)
    case atStart => exact ⟨1, Nat.le_refl _, by omega, rfl, s2⟩
    case round =>
      clear s2
      obtain ⟨n, hn1, hnm, rfl, s3⟩ := hrel
      by_cases hlt : n < m
      · obtain ⟨k, hk⟩ : ∃ k, Nat.min n (m - n) = k := ⟨_, rfl⟩
        have hk1 : k = min n (m - n) := hk.symm
        obtain ⟨d, hd⟩ : ∃ d : Nat, d = m - n := ⟨_, rfl⟩
        have hd' : (m : Int) - (n : Int) = (d : Int) := by omega
        rw [← hd] at hk hk1
        have s4 := s3.drew
        go_wp2
        refine region_seg (by kernel_rfl) [0, 1, 2, 4, 5] 5 rfl (by kernel_rfl) (by kernel_rfl) (fun _ _ d _ _ h => by cases d <;> exact h) ?_
        generalize wr.drew = wd at *
        intro K hK
        simp only [pickL, List.getElem?_cons_zero, List.getElem?_cons_succ]
        go_wp2_with fail
        refine wpAny_take (i := 3) (v := .slice (some ⟨g, n, none⟩) d d) rfl (by kernel_rfl) (by kernel_rfl) (by kernel_rfl) (fun _ _ _ h => h) (.inl ⟨rfl, fun w => by go_simp; omega⟩) ?_
        refine wpAny_take (i := 6) (v := .slice (some ⟨g, 0, none⟩) n m) rfl (by kernel_rfl) (by kernel_rfl) (by kernel_rfl) (fun _ _ _ h => h) (.inl ⟨rfl, fun w => by go_simp⟩) ?_
        refine mid_seg [7, 8, 9] 0 (by kernel_rfl) (by kernel_rfl) (fun _ _ d _ _ h => by cases d <;> exact h) ?_
        intro K hK
        simp only [pickL, List.getElem?_cons_zero, List.getElem?_cons_succ]
        have hle : k ≤ n := by omega
        have hkd : k ≤ d := by omega
        have hkp : 1 ≤ k := by omega
        have hl : (rep k cs).length = k * 1 := by rw [rep_length, hcs]
        have hsrc : ∀ j v, (rep k cs)[j]? = some v → wd.cell? ((⟨g, 0, none⟩ : Addr).add j) = some v := fun j v hj => by
          have hjl := (List.getElem?_eq_some_iff.1 hj).1
          rw [add_none, Nat.zero_add, s4.row.cellAt j (by omega), show n = k + (n - k) from by omega, rep_add, List.append_assoc, List.getElem?_append_left hjl]
          exact hj
        have hsp := splice_rep n k m cs [.int .u8 0] (by rw [hcs]; rfl) (by omega)
        rw [hcs, Nat.mul_one] at hsp
        have hfit : n + (rep k cs).length ≤ m * 1 := by omega
        have hone := rep_one k cs h1
        have hadd : (n : Int) + (k : Int) = ((n + k : Nat) : Int) := by omega
        obtain ⟨q, hq⟩ : ∃ q : Nat, n + k = q := ⟨_, rfl⟩
        rw [hq] at hsp hadd
        have hq1 : n < q := by omega
        have hqm : q ≤ m := by omega
        clear hd hd' hk1 hle hkd hkp hq s3
        go_wp2_with (refine wpList_copy_st (o := ⟨some 45, _, _, _, _, _⟩) rfl _ _ 22 22 rfl 5 1 Try.underlying22 (by kernel_rfl) s4 n _ _ _ _ _ rfl rfl k hk.symm (rep k cs) hl hsrc hfit hone ?_)
        intro w5 s5
        clear hsrc hsp hfit hone hl
        go_wp2
        refine wpAny_done (by kernel_rfl) ?_ 0
        go_wp2
        go_roundw
        case rel => exact ⟨q, by omega, hqm, rfl, s5⟩
        case measure => simp [intOf]; omega
      · obtain rfl : n = m := by omega
        go_wp2
        go_ret
        refine ⟨_, rfl, ?_⟩
        rw [Nat.sub_self, show rep 0 [Value.int .u8 0] = [] from rfl, List.append_nil] at s3
        exact s3

end Go.Proofs.Ythmkkbaenccgiaa.Rep
