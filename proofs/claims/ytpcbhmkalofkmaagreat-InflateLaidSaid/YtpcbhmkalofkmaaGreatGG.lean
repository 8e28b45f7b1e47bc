/-
  RepR RepC RepD RepK, one behind the other (merged by wip/merge.py). No conditions but those that each states.
-/
import Derived.Test.YtpcbhmkalofkmaaGreatGF
import Derived.Test.YtpcbhmkalofkmaaGreatGC
import Derived.Test.YtpcbhmkalofkmaaGreatGC
import Derived.Sort.QuietTacIn
import Derived.Sort.BigQuietIn
import Derived.Lib.Hide
import Derived.Test.YtpcbhmkalofkmaaGreatGA
import Derived.Deep.Cut

/-
  Contracts of package repeat: the runs of lengths. No conditions but those of the calls.
-/
namespace Go.Proofs.YtpcbhmkalofkmaaGreat.Rep
open Go.RowKit Go.Shelf

attribute [local go_sem] Oper.semAt_some

/-- The runs of lengths: which length, and how many. -/
def runsOf : List Nat → List (Nat × Nat)
  | [] => []
  | k :: t => (k, lead k t + 1) :: runsOf (t.drop (lead k t))
termination_by L => L.length

theorem pack_runs : ∀ (m : Nat) (L : List Nat), L.length ≤ m → pack L = (runsOf L).flatMap fun s => signs s.1 s.2
  | _, [], _ => by rw [pack, runsOf]; rfl
  | 0, k :: t, h => by simp at h
  | m + 1, k :: t, h => by
    simp at h
    have h1 := lead_le k t
    rw [pack, runsOf, List.flatMap_cons, pack_runs m (t.drop (lead k t)) (by simp; omega)]

theorem runs_from (L : List Nat) (i j k : Nat) (hij : i < j) (hj : j ≤ L.length) (h : ∀ m (h : m < L.length), i ≤ m → m < j → L[m] = k) (he : ∀ h : j < L.length, L[j] ≠ k) :
    runsOf (L.drop i) = (k, j - i) :: runsOf (L.drop j) := by
  have e := drop_run L k (j - i) i (by omega) (fun m hm a b => h m hm a (by omega))
  rw [show i + (j - i) = j from by omega] at e
  rw [e]
  obtain ⟨n, hn⟩ : ∃ n, j - i = n + 1 := ⟨j - i - 1, by omega⟩
  have hh : (L.drop j).head? ≠ some k := by
    rw [List.head?_drop]
    intro c
    obtain ⟨h1, h2⟩ := List.getElem?_eq_some_iff.1 c
    exact he h1 h2
  rw [hn, List.replicate_succ, List.cons_append, runsOf, lead_run k _ hh n]
  congr 2
  rw [List.drop_append]
  simp

theorem runs_nil (L : List Nat) (h : runsOf L = []) : L = [] := by
  cases L with
  | nil => rfl
  | cons k t => rw [runsOf] at h; cases h

theorem runs_bound : ∀ (m : Nat) (L : List Nat), L.length ≤ m → ∀ s ∈ runsOf L, s.1 ∈ L ∧ 1 ≤ s.2 ∧ s.2 ≤ L.length
  | _, [], _, s, hs => by rw [runsOf] at hs; cases hs
  | 0, k :: t, h, _, _ => by simp at h
  | m + 1, k :: t, h, s, hs => by
    simp at h
    have h1 := lead_le k t
    rw [runsOf] at hs
    rcases List.mem_cons.1 hs with rfl | hs
    · simp; exact h1
    · obtain ⟨a, b, c⟩ := runs_bound m (t.drop (lead k t)) (by simp; omega) s hs
      refine ⟨List.mem_cons_of_mem _ (List.mem_of_mem_drop a), b, ?_⟩
      simp at c ⊢
      omega

/-- What a round keeps: what lies below n0, and a box. -/
def KeepR (n0 Bs : Nat) (A B : World) : Prop := Below n0 A B ∧ ∀ v, A.cell? ⟨Bs, 0, none⟩ = some v → B.cell? ⟨Bs, 0, none⟩ = some v

theorem KeepR.trans {n0 Bs : Nat} {A B C : World} (h : KeepR n0 Bs A B) (k : KeepR n0 Bs B C) : KeepR n0 Bs A C := ⟨h.1.trans k.1, fun v hv => k.2 v (h.2 v hv)⟩

/-- Which length, and how many, in round k. -/
def runLen (L : List Nat) (k : Nat) : Nat := ((runsOf L).getD k (0, 0)).1
def runNum (L : List Nat) (k : Nat) : Nat := ((runsOf L).getD k (0, 0)).2
/-- The arguments of round k. -/
def runArgs (L : List Nat) (k : Nat) : Array Value := #[.int .u8 (runLen L k : Int), .int .i64 (runNum L k : Int)]

theorem args_at (L : List Nat) (j y d : Nat) (rest : List (Nat × Nat)) (h : (runsOf L).drop j = (y, d) :: rest) : j < (runsOf L).length ∧ runArgs L j = #[.int .u8 (y : Int), .int .i64 (d : Int)] ∧ (runsOf L).drop (j + 1) = rest := by
  have h1 : j < (runsOf L).length := by
    rcases Nat.lt_or_ge j (runsOf L).length with c | c
    · exact c
    · rw [List.drop_of_length_le c] at h; cases h
  rw [List.drop_eq_getElem_cons h1] at h
  obtain ⟨h2, h3⟩ := List.cons.inj h
  refine ⟨h1, ?_, h3⟩
  unfold runArgs runLen runNum
  rw [List.getD_eq_getElem?_getD, List.getElem?_eq_getElem h1, h2]
  rfl

set_option maxRecDepth 100000 in
set_option maxHeartbeats 2000000 in
/-- The function over the runs. -/
theorem runs_seq (F : Fence) (n : Nat) (h26 : F.fn 112) (hro : F.round = none) (hn : 1 ≤ n) (Bs n0 : Nat) (v : Value) (L : List Nat) (w : World) (hB0 : Bs < w.heap.size) (hn0 : n0 ≤ w.heap.size) (hl : L.length ≤ 1000000)
    (hb : w.cell? ⟨Bs, 0, none⟩ = some v) (hrow : ∀ W, Below n0 w W → ByteRow W v L) :
    SeqN F n Tryz.prog 112 #[.pointer (some ⟨Bs, 0, none⟩)] (runArgs L) (KeepR n0 Bs) (runsOf L).length w := by
  intro l J W hW hA hY h0
  refine callsIn_of_wp Tryz.func112 rfl h26 ?_ hro
  simp only [Tryz.ntmps112, List.size_toArray, List.length_cons, List.length_nil, Nat.reduceAdd, Nat.reduceSub, Array.replicate_succ, Array.replicate_zero, List.push_toArray, List.append_toArray, List.nil_append, List.cons_append]
  have hb1 := (hW.cell (p := ⟨Bs, 0, none⟩) hB0).trans hb
  have hW0 : Below n0 w W := hW.mono hn0
  obtain ⟨a, cap, rfl, -, -, -⟩ := hrow w (Below.refl _ _)
  gi_wp2
  gi_loopw [3, 4] (fun iv _ wr => ∃ j p : Nat, p ≤ L.length ∧ iv = .int .i64 (p : Int) ∧ Hid (runsOf (L.drop p) = (runsOf L).drop j) ∧ Hid (j ≤ (runsOf L).length) ∧ J j wr ∧ wr.cell? ⟨Bs, 0, none⟩ = some (.slice a L.length cap) ∧ Below n0 w wr)
    (fun iv _ _ => L.length - (intOf iv).toNat)
  case atStart => exact ⟨0, 0, Nat.zero_le _, rfl, Lib.hid rfl, Lib.hid (Nat.zero_le _), h0, hb1, hW0⟩
  case round =>
    obtain ⟨j, p, hp, rfl, hr, hj, hJ, hB, hBl⟩ := hrel
    clear hb1 hW0
    by_cases hlt : p < L.length
    · obtain ⟨y, hy⟩ : ∃ y, L[p] = y := ⟨_, rfl⟩
      have HY := Lib.hid hy
      have hp1 : p + 1 ≤ L.length := by omega
      have gD : ∀ (X : World) (i : Nat), X.grownBy (X.drewN i) none := fun X i => ⟨rfl, rfl, rfl, Nat.le_refl _, fun _ _ _ => rfl⟩
      gi_wp2
      gi_loopw [4] (fun tv wi => ∃ q i : Nat, p < q ∧ q ≤ L.length ∧ tv = .int .i64 (q : Int) ∧ Hid (∀ m (hm : m < L.length), p ≤ m → m < q → L[m] = y) ∧ wi = wr.drewN i)
        (fun tv _ => L.length - (intOf tv).toNat)
      case atStart => exact ⟨p + 1, 0, by omega, hp1, by go_num, Lib.hid (fun m hm a b => by (obtain rfl : m = p := (by omega)); exact hy), rfl⟩
      case round =>
        obtain ⟨q, i, hpq, hq, rfl, hall, rfl⟩ := hrel
        clear hy
        have hBi : Below n0 w (wr.drewN i) := hBl.drewN i
        obtain ⟨a', cap', e1, _, _, hat⟩ := hrow _ hBi
        obtain ⟨rfl, -, rfl⟩ := Value.slice.inj e1
        obtain ⟨hyl, b, off, rfl, hcp⟩ := hat p hlt
        rw [HY.out] at hcp
        have hcp : wr.cell? ⟨b, off + p, none⟩ = some (.int .u8 (y : Int)) := hcp
        by_cases hql : q < L.length
        · obtain ⟨z, hz⟩ : ∃ z, L[q] = z := ⟨_, rfl⟩
          obtain ⟨hzl, b', off', e2, hcq⟩ := hat q hql
          obtain ⟨rfl, rfl⟩ : b = b' ∧ off = off' := by simpa using e2
          rw [hz] at hcq
          have hcq : wr.cell? ⟨b, off + q, none⟩ = some (.int .u8 (z : Int)) := hcq
          have HZ := Lib.hid hz
          clear hz hat e1 e2
          have d0 : decide ((q : Int) < (L.length : Int)) = true := by simp; omega
          by_cases hzy : z = y
          · have d1 : ((z : Int) == (y : Int)) = true := by rw [hzy]; simp
            have HZY := Lib.hid hzy
            clear hzy
            gi_wp2
            refine wpIn_region_quiet_lit hro (by kernel_rfl) (by kernel_rfl) ?_
            repeat (gi_big_quiet_step (fail))
            refine wpQuietIn_nil ?_
            intro _ hw'
            obtain ⟨nq, hw''⟩ := hw'
            subst hw''
            gi_wp2
            go_roundw
            case rel =>
              refine ⟨q + 1, i + nq, by omega, by omega, by go_num, Lib.hid fun m hm a1 b1 => ?_, by simp⟩
              by_cases e : m = q
              · subst e
                rw [HZ.out]; exact HZY.out
              · exact hall.out m hm a1 (by omega)
            case measure => simp [intOf]; omega
          · have d1 : ((z : Int) == (y : Int)) = false := beq_eq_false_iff_ne.2 (by omega)
            have hend := runs_from L p q y hpq hq hall.out (fun h => by rw [HZ.out]; exact hzy)
            have HEND := Lib.hid hend
            clear hend hzy
            gi_wp2
            refine wpIn_region_quiet_lit hro (by kernel_rfl) (by kernel_rfl) ?_
            repeat (gi_big_quiet_step (fail))
            refine wpQuietIn_nil ?_
            intro _ hw'
            obtain ⟨nq, hw''⟩ := hw'
            subst hw''
            clear d0
            have hJ4 : J j ((wr.drewN i).drewN nq) := hA j _ _ none hJ (⟨rfl, rfl, rfl, Nat.le_refl _, fun _ _ _ => rfl⟩) (fun r e => by cases e)
            have hB4 : ((wr.drewN i).drewN nq).cell? ⟨Bs, 0, none⟩ = some (.slice (some ⟨b, off, none⟩) L.length cap) := hB
            have hc4 : ((wr.drewN i).drewN nq).cell? ⟨b, off + p, none⟩ = some (.int .u8 (y : Int)) := hcp
            have hl4 : Below n0 w ((wr.drewN i).drewN nq) := hBi.drewN nq
            have hlist : (runsOf L).drop j = (y, q - p) :: runsOf (L.drop q) := hr.out.symm.trans HEND.out
            obtain ⟨hjl, hargs, hnext⟩ := args_at L j y (q - p) _ hlist
            have HN := Lib.hid hnext
            obtain ⟨d, hd⟩ : ∃ d : Nat, q - p = d := ⟨_, rfl⟩
            have hd' : (q : Int) - (p : Int) = (d : Int) := by omega
            rw [hd] at hargs
            clear hJ hB hBl hcp hlist hnext
            generalize (wr.drewN i).drewN nq = wd at *
            obtain ⟨fn, tmps, assign, body, hy, hR⟩ := hY j wd hjl hJ4
            rw [hargs] at hy
            clear hargs hd
            gi_wp2
            refine hR.mono ?_
            rintro e W3 ⟨rfl, hJ3, hk3⟩
            clear hR hy
            have hB5 := hk3.2 _ hB4
            have hl5 := hl4.trans hk3.1
            clear hk3 hB4 hl4 hc4
            gi_wp2
            exact ⟨⟨j + 1, q, hq, rfl, Lib.hid HN.out.symm, Lib.hid hjl, hJ3, hB5, hl5⟩, by simp only [intOf, Int.toNat_natCast]; omega⟩
        · obtain rfl : q = L.length := by omega
          have hend := runs_from L p L.length y hpq hq hall.out (fun h => absurd h (Nat.lt_irrefl _))
          have HEND := Lib.hid hend
          clear hend hat e1
          have d0 : decide ((L.length : Int) < (L.length : Int)) = false := by simp
          gi_wp2
          refine wpIn_region_quiet_lit hro (by kernel_rfl) (by kernel_rfl) ?_
          repeat (gi_big_quiet_step (fail))
          refine wpQuietIn_nil ?_
          intro _ hw'
          obtain ⟨nq, hw''⟩ := hw'
          subst hw''
          clear d0
          have hJ4 : J j ((wr.drewN i).drewN nq) := hA j _ _ none hJ (⟨rfl, rfl, rfl, Nat.le_refl _, fun _ _ _ => rfl⟩) (fun r e => by cases e)
          have hB4 : ((wr.drewN i).drewN nq).cell? ⟨Bs, 0, none⟩ = some (.slice (some ⟨b, off, none⟩) L.length cap) := hB
          have hc4 : ((wr.drewN i).drewN nq).cell? ⟨b, off + p, none⟩ = some (.int .u8 (y : Int)) := hcp
          have hl4 : Below n0 w ((wr.drewN i).drewN nq) := hBi.drewN nq
          have hlist : (runsOf L).drop j = (y, L.length - p) :: runsOf (L.drop L.length) := hr.out.symm.trans HEND.out
          obtain ⟨hjl, hargs, hnext⟩ := args_at L j y (L.length - p) _ hlist
          have HN := Lib.hid hnext
          obtain ⟨d, hd⟩ : ∃ d : Nat, L.length - p = d := ⟨_, rfl⟩
          have hd' : (L.length : Int) - (p : Int) = (d : Int) := by omega
          rw [hd] at hargs
          clear hJ hB hBl hcp hlist hnext
          generalize (wr.drewN i).drewN nq = wd at *
          obtain ⟨fn, tmps, assign, body, hy, hR⟩ := hY j wd hjl hJ4
          rw [hargs] at hy
          clear hargs hd
          gi_wp2
          refine hR.mono ?_
          rintro e W3 ⟨rfl, hJ3, hk3⟩
          clear hR hy
          have hB5 := hk3.2 _ hB4
          have hl5 := hl4.trans hk3.1
          clear hk3 hB4 hl4 hc4
          gi_wp2
          exact ⟨⟨j + 1, L.length, Nat.le_refl _, rfl, Lib.hid HN.out.symm, Lib.hid hjl, hJ3, hB5, hl5⟩, by simp only [intOf, Int.toNat_natCast]; omega⟩
    · obtain rfl : p = L.length := by omega
      have e : j = (runsOf L).length := by
        have h1 := hr.out
        rw [List.drop_length, runsOf] at h1
        have h2 := congrArg List.length h1
        have h3 := hj.out
        simp at h2
        omega
      subst e
      gi_wp2
      go_end0
      exact ⟨⟨_, rfl⟩, hJ⟩

end Go.Proofs.YtpcbhmkalofkmaaGreat.Rep

/-
  Contracts of package repeat: the signs of a run. No conditions but those of the call.
-/
namespace Go.Proofs.YtpcbhmkalofkmaaGreat.Rep
open Go.RowKit

/-- 'append(s, t...)', both of the call's own, of elements of some cells each. -/
theorem wpList_append_rowN {P : Program} {ops : Array Oper} {rest : List Oper} {o : Oper} {a : Act} {Q : Exit → Act → World → Prop} (hgd : o.guard = none) (s x : Operand) (t : TypeId)
    (ho : o.op = .call { callee := .builtin .append, args := #[s, x], argTypes := #[t, t] })
    (e : TypeId) (i : TypeInfo) (z : Value) (size bytes : Nat) (ht : P.underlying t = some (.slice e)) (hi : P.info? e = some i) (hz : i.zero = some z)
    (hsize : i.size = size) (hby : i.bytes = bytes) (hzs : z.cells.size = size) (hpos : 0 < size)
    {B : Nat} {w0 w : World} {v : Value} {n : Nat} {xs : List Value} {ad : Option Addr} {m c : Nat} {ys : List Value} {r : List Thing}
    (st : St B w0 w (rowT e size v n xs :: rowT e size (.slice ad m c) m ys :: r)) (hs : a.eval s = v) (hx : a.eval x = .slice ad m c) (h1 : ∀ u ∈ ys, u.oneCell' = true)
    (h63 : n + m ≤ maxLen) (hbytes : (n + m) * bytes ≤ 140737488355328)
    (h : ∀ v' w', St B w0 w' (rowT e size v' (n + m) (xs ++ ys) :: rowT e size (.slice ad m c) m ys :: r) → wpList P ops Q rest (a.put o.dst v') w') : wpList P ops Q (o :: rest) a w := by
  have hy := st.swap.row
  refine wpList_append_mine _ hgd s x t ho e i z size bytes ht hi hz hsize hby hzs hpos v n xs hs st.row ad m c ys hx ?_ hy.1 ?_ h1 h63 hbytes ?_
  · intro e1
    subst e1
    rcases hy.2 with ⟨e2, e3⟩ | ⟨g, cap, cur, e2, _⟩
    · have := Value.slice.inj e2; exact ⟨e3, this.2.2⟩
    · cases e2
  · intro b hb j u hu
    subst hb
    rcases hy.2 with ⟨e2, e3⟩ | ⟨g, cap, cur, e2, _⟩
    · cases e2
    · have e4 : b = ⟨g, 0, none⟩ := Option.some.inj (Value.slice.inj e2).1
      rw [e4]
      exact hy.cells (g := g) (by rw [e4]; rfl) j u hu
  · intro v' w' g1 g2 g3
    exact h v' w' (st.grown g1 g2 g3)

/-- What the closure leaves. -/
def LeftSt (B : Nat) (w0 : World) (r : List Thing) (nb lb lo n : Nat) (L : List (Nat × Nat)) (R : Nat → List (Nat × Nat)) (e : Ending) (w' : World) : Prop :=
  e = .returned (.tuple #[]) ∧ ∃ (m : Nat) (v' : Value) (L' : List (Nat × Nat)), m < lo ∧ m ≤ n ∧ L' ++ R m = L ++ R n ∧ Small L' ∧ L'.length + m ≤ L.length + n ∧
    St B w0 w' (boxT nb #[.int .i64 (m : Int)] 3 :: boxT lb #[v'] 83 :: signT 131 v' L' :: r)

set_option maxRecDepth 100000 in
set_option maxHeartbeats 2000000 in
/-- The closure that lays repetitions of a code as long as there is enough for one. -/
theorem repeat_st {B : Nat} {w0 w : World} {r : List Thing} (nb lb c n : Nat) (v : Value) (L : List (Nat × Nat)) (hc : c < 19) (hn : n ≤ 1000000) (hL : L.length ≤ 1000000) (hs : Small L) (R : Nat → List (Nat × Nat))
    (hR : ∀ m, m ≤ n → least c ≤ m → R m = (c, min m (most c) - least c) :: R (m - min m (most c)))
    (st : St B w0 w (boxT nb #[.int .i64 (n : Int)] 3 :: boxT lb #[v] 83 :: signT 131 v L :: r)) :
    Calls Tryz.prog 113 #[.int .u8 (c : Int), .pointer (some ⟨nb, 0, none⟩), .pointer (some ⟨lb, 0, none⟩)] w (LeftSt B w0 r nb lb (least c) n L R) := by
  have hl := least_le c
  have hm := most_le c
  have hq1 := fun W => least_q W c (by omega)
  have hq2 : ∀ W, Calls Tryz.prog 115 #[.int .u8 (c : Int)] W fun e w' => e = .returned (.int .i64 (most c : Int)) ∧ w' = W := fun W => (most_any W c (by omega)).mono fun _ _ h => ⟨h.1, h.2.symm⟩
  have HR := Lib.hid hR
  clear hR
  generalize least c = lo at *
  generalize most c = hi at *
  go_enter Tryz.func113, Tryz.ntmps113
  go_wp2
  go_loopw [4] (fun _ wr => ∃ (m : Nat) (v' : Value) (L' : List (Nat × Nat)), m ≤ n ∧ Hid (L' ++ R m = L ++ R n) ∧ Hid (Small L') ∧ L'.length + m ≤ L.length + n ∧
    St B w0 wr (boxT nb #[.int .i64 (m : Int)] 3 :: boxT lb #[v'] 83 :: signT 131 v' L' :: r)) (fun _ wr => match wr.cell? ⟨nb, 0, none⟩ with | some u => (intOf u).toNat | none => 0)
  case atStart => exact ⟨n, v, L, Nat.le_refl _, Lib.hid rfl, Lib.hid hs, Nat.le_refl _, st⟩
  case round =>
    clear st hs
    obtain ⟨m, v1, L1, hmn, hrel, hsm, hlen, s1⟩ := hrel
    have f0 := (s1.boxAt 0).1
    have f1 := (s1.swap.boxAt 0).1
    have HW : Hid (wr.cell? ⟨nb, 0, none⟩ = some (.int .i64 (m : Int))) := Lib.hid f0
    by_cases hlo : lo ≤ m
    · have d1 : decide ((lo : Int) ≤ (m : Int)) = true := by simp; omega
      go_wp2
      go_quiet ((go_at_call 114; exact Calls.quiet_of_same (hq1 _)))
      have s2 := s1.drewN nq
      clear f0 f1 s1 d1
      generalize wr.drewN nq = wa at *
      have f0 := (s2.boxAt 0).1
      have f1 := (s2.swap.boxAt 0).1
      obtain ⟨T, hT⟩ : ∃ T, min m hi = T := ⟨_, rfl⟩
      have hmin : min (m : Int) (hi : Int) = (T : Int) := by omega
      go_wp2
      go_quiet ((go_at_call 115; exact Calls.quiet_of_same (hq2 _)))
      have hif : (if hi < m then (hi : Int) else (m : Int)) = (T : Int) := by split <;> omega
      rw [hif]
      have s3 := s2.drewN nq
      clear f0 f1 s2 hmin hif
      generalize wa.drewN nq = wb at *
      obtain ⟨q, hq⟩ : ∃ q : Nat, T - lo = q := ⟨_, rfl⟩
      have hTm : T ≤ m := by omega
      have hTl : lo ≤ T := by omega
      have hq' : (T : Int) - (lo : Int) = (q : Int) := by omega
      have hq7 : q ≤ 127 := by omega
      have hq8 : (q : Int) % 256 = (q : Int) := by omega
      obtain ⟨i0, hi0, hz0, hz1, hz2⟩ := info_parts infoSign
      have s4 := s3.drew
      clear s3
      go_wp2
      refine region_seg (by kernel_rfl) [1, 2, 3] 8 rfl (by kernel_rfl) (by kernel_rfl) (fun _ _ d _ _ h => by cases d <;> exact h) ?_
      generalize wb.drew = wd at *
      intro K hK
      simp only [pickL, List.getElem?_cons_zero, List.getElem?_cons_succ]
      go_wp2_with fail
      try clear hK K
      have f1 : wd.cell? ⟨lb, 0, none⟩ = some v1 := (s4.swap.boxAt 0).1
      refine wpAny_late (c := 0) (v := v1) rfl (by kernel_rfl) (fun _ _ d _ _ h => by cases d <;> exact h) 2 [4, 5, 6, 7, 8] _ _ _ (by kernel_rfl) ⟨rfl, by go_simp⟩ ?_
      refine late_step _ rfl ?_
      intro N1 hN1
      go_wp2_with (go_at_call 114; refine (hq1 _).mono ?_; rintro e w5 ⟨rfl, rfl⟩)
      refine hN1 _ _ ⟨rfl, by go_simp⟩ ?_
      try clear hN1 N1
      refine late_step _ rfl ?_
      intro N5 hN5
      go_wp2_with fail
      refine hN5 _ _ ⟨rfl, by go_simp⟩ ?_
      try clear hN5 N5
      refine late_step _ rfl ?_
      intro N6 hN6
      go_wp2_with fail
      refine hN6 _ _ ⟨rfl, by go_simp⟩ ?_
      try clear hN6 N6
      refine late_step _ rfl ?_
      intro N7 hN7
      go_wp2_with fail
      refine hN7 _ _ ⟨rfl, by go_simp⟩ ?_
      try clear hN7 N7
      refine late_step _ rfl ?_
      intro N8 hN8
      go_wp2_with fail
      have f1' := cell_alloc f1 (.cells #[.int .u8 (c : Int), .int .u8 (q : Int)] 131)
      refine hN8 _ _ ⟨rfl, by go_simp⟩ ?_
      try clear hN8 N8
      refine late_end ?_
      refine mid_seg [9, 10] 0 (by kernel_rfl) (by kernel_rfl) (fun _ _ d _ _ h => by cases d <;> exact h) ?_
      clear f1 f1'
      intro K2 hK2
      simp only [pickL, List.getElem?_cons_zero, List.getElem?_cons_succ]
      have s5 := s4.third
      go_wp2_with (at_builtin; refine wpList_append_one rfl _ _ 83 rfl 131 i0 (.agg #[.int .u8 0, .int .u8 0]) 2 2 Tryz.underlying83 hi0 hz0 hz1 hz2 rfl (by decide) s5 rfl [.int .u8 (c : Int), .int .u8 (q : Int)] rfl rfl (by simp [Value.oneCell']) (by unfold maxLen; omega) (by omega) ?_)
      intro v6 w6 s6
      have e6 : sgn L1 ++ [Value.int .u8 (c : Int), Value.int .u8 (q : Int)] = sgn (L1 ++ [(c, q)]) := by rw [sgn_append]; rfl
      have l6 : L1.length + 1 = (L1 ++ [(c, q)]).length := by simp
      rw [e6, l6] at s6
      clear e6 l6 s4 s5
      obtain ⟨L2, hL2⟩ : ∃ L2, L2 = L1 ++ [(c, q)] := ⟨_, rfl⟩
      rw [← hL2] at s6
      have HL2 := Lib.hid hL2
      clear hL2
      obtain ⟨xa, xc, rfl⟩ := ownsRow_slice s6.row
      have s7 := s6.third
      have f1 : w6.cell? ⟨lb, 0, none⟩ = some v1 := (s7.boxAt 0).1
      have g1 := (s7.boxAt 0).2
      have s8 := (s7.setBox (.slice xa L2.length xc)).third
      obtain ⟨d, hd⟩ : ∃ d : Nat, m - T = d := ⟨_, rfl⟩
      have hd' : (m : Int) - (T : Int) = (d : Int) := by omega
      clear s6 s7
      go_wp2
      refine wpAny_done (by kernel_rfl) ?_ 0
      clear f1 g1
      generalize w6.setCell ⟨lb, 0, none⟩ (.slice xa L2.length xc) = w7 at *
      have f0 : w7.cell? ⟨nb, 0, none⟩ = some (.int .i64 (m : Int)) := (s8.boxAt 0).1
      have g0 := (s8.boxAt 0).2
      have s9 := s8.setBox (.int .i64 (d : Int))
      go_wp2
      go_roundw
      case rel =>
        refine ⟨d, _, L2, by omega, Lib.hid ?_, Lib.hid ?_, ?_, s9⟩
        · rw [HL2.out, List.append_assoc, List.singleton_append, ← hrel.out, HR.out m hmn hlo, hT, hq, hd]
        · rw [HL2.out]
          intro p hp
          rcases List.mem_append.1 hp with hp | hp
          · exact hsm.out p hp
          · obtain rfl : p = (c, q) := by simpa using hp
            exact ⟨by simp; omega, by simp; omega⟩
        · rw [HL2.out]; simp; omega
      case measure =>
        rw [(s9.boxAt 0).1, HW.out]
        simp [intOf]
        omega
    · have d1 : decide ((lo : Int) ≤ (m : Int)) = false := by simp; omega
      go_wp2
      go_quiet ((go_at_call 114; exact Calls.quiet_of_same (hq1 _)))
      go_wp2
      go_end0
      exact ⟨rfl, m, v1, L1, by omega, hmn, hrel.out, hsm.out, hlen, s1.drewN _⟩

end Go.Proofs.YtpcbhmkalofkmaaGreat.Rep

/-
  Contracts of package repeat: signsOf. No conditions but those of the call.
-/
namespace Go.Proofs.YtpcbhmkalofkmaaGreat.Rep
open Go.RowKit

/-- New signs. -/
def SignsSt (B : Nat) (w0 : World) (r : List Thing) (e : TypeId) (l : List (Nat × Nat)) (x : Ending) (w' : World) : Prop := ∃ v', x = .returned v' ∧ St B w0 w' (signT e v' l :: r)

theorem signs_small (k : Nat) (hk : k < 16) (n : Nat) : Small (signs k n) := by
  intro p hp
  have := List.all_eq_true.1 (fits_signs k hk n) p hp
  have := times_le' p this
  omega

theorem small_one (k : Nat) (hk : k < 16) : Small [(k, 0)] := by
  intro p hp
  have e : p = (k, 0) := by simpa using hp
  rw [e]
  exact ⟨by simp; omega, by simp⟩

set_option maxRecDepth 100000 in
set_option maxHeartbeats 4000000 in
/-- signsOf. -/
theorem signsOf_st {B : Nat} {w0 w : World} {r : List Thing} (st : St B w0 w r) (k n : Nat) (hk : k < 16) (hn0 : 1 ≤ n) (hn : n ≤ 1000000) :
    Calls Tryz.prog 70 #[.int .u8 (k : Int), .int .i64 (n : Int)] w (SignsSt B w0 r 131 (signs k n)) := by
  have hmf : ∀ (fn : Fn) (first cap : Array Value) (w : World), (Instr.makeFunc fn first cap).run Tryz.prog w = .ok (.func fn first cap) w := fun _ _ _ _ => rfl
  obtain ⟨i0, hi0, hz0, hz1, hz2⟩ := info_parts infoSign
  have s1 := (st.newBox #[.int .i64 (n : Int)] 3).newBox #[.slice none 0 0] 83
  have s2 := s1.addNil (e := 131) (size := 2)
  have s3 : St B w0 _ (boxT w.heap.size #[.int .i64 (n : Int)] 3 :: boxT _ #[.slice none 0 0] 83 :: signT 131 (.slice none 0 0) [] :: r) := s2.swap.third
  clear s1 s2
  go_enter Tryz.func70, Tryz.ntmps70
  rw [World.size_alloc] at s3
  by_cases h0 : k = 0
  case' pos =>
    have hkz : ((k : Int) == 0) = true := by rw [h0]; rfl
    have H0 := Lib.hid h0
    clear h0
    go_wp2_with fail
    obtain ⟨nb, hnb⟩ : ∃ nb, w.heap.size = nb := ⟨_, rfl⟩
    rw [hnb] at s3 ⊢
    generalize (w.alloc (Obj.cells #[.int .i64 (n : Int)] 3)).alloc (.cells #[.slice none 0 0] 83) = w3 at *
    clear hnb st
    refine (repeat_st nb (nb + 1) 18 n _ [] (by omega) hn (by simp) (by intro p hp; cases hp) zeros (fun m _ h => zeros_step m h) s3).mono ?_
    rintro e w4 ⟨rfl, m, v4, L4, hm, hmn, hR4, hsm4, hlen4, s4⟩
    clear s3
    have hm : m < 11 := hm
    rw [List.nil_append] at hR4
    simp only [List.length_nil, Nat.zero_add] at hlen4
    have HR4 := Lib.hid hR4
    clear hR4
    go_wp2_with fail
    refine (repeat_st nb (nb + 1) 17 m v4 L4 (by omega) (by omega) (by omega) hsm4 zeros (fun q hq h => zeros_few q h (by omega)) s4).mono ?_
    rintro e w5 ⟨rfl, m5, v5, L5, hm5, hmn5, hR5, hsm5, hlen5, s5⟩
    clear s4
    have hm5 : m5 < 3 := hm5
    rw [HR4.out, zeros_end m5 hm5] at hR5
    have hR5 : L5 ++ List.replicate m5 (k, 0) = signs k n := by
      have h0 := H0.out
      subst h0
      exact hR5
    have hlen5 : L5.length + m5 ≤ n := by omega
    have HR := Lib.hid hR5
    have HS := Lib.hid hsm5
    clear hR5 hsm5 HR4 hsm4 hlen4 hm hmn hmn5
    go_wp2_with fail
  case' neg =>
    obtain ⟨n1, hn1⟩ : ∃ n1, n = n1 + 1 := ⟨n - 1, by omega⟩
    have hn1' : (n : Int) - 1 = (n1 : Int) := by omega
    have hsg : signs k n = (k, 0) :: others k n1 := by unfold signs; rw [if_neg h0, hn1]; rfl
    have HSG := Lib.hid hsg
    have hn1b : n1 ≤ 1000000 := by omega
    have HN1 := Lib.hid hn1
    clear hsg hn1 st
    have h0' : ¬ (k : Int) = 0 := by omega
    go_upto_region 6 with (fail)
    obtain ⟨nb, hnb⟩ : ∃ nb, w.heap.size = nb := ⟨_, rfl⟩
    rw [hnb] at s3 ⊢
    generalize (w.alloc (Obj.cells #[.int .i64 (n : Int)] 3)).alloc (.cells #[.slice none 0 0] 83) = w3 at *
    clear hnb
    have f3 : w3.cell? ⟨nb + 1, 0, none⟩ = some (.slice none 0 0) := (s3.swap.boxAt 0).1
    have s3 : St B w0 w3 (rowT 131 2 (.slice none 0 0) 0 [] :: boxT nb #[.int .i64 (n : Int)] 3 :: boxT (nb + 1) #[.slice none 0 0] 83 :: r) := s3.third
    go_wp2_with (at_builtin; refine wpList_append_one rfl _ _ 83 rfl 131 i0 (.agg #[.int .u8 0, .int .u8 0]) 2 2 Tryz.underlying83 hi0 hz0 hz1 hz2 rfl (by decide) s3 rfl [.int .u8 (k : Int), .int .u8 0] rfl rfl (by simp [Value.oneCell']) (by decide) (by decide) ?_)
    intro v4 w4 s4
    obtain ⟨xa, xc, rfl⟩ := ownsRow_slice s4.row
    have s5 := s4.third
    have f4 : w4.cell? ⟨nb + 1, 0, none⟩ = some (.slice none 0 0) := (s5.boxAt 0).1
    have g4 := (s5.boxAt 0).2
    have s6 := (s5.setBox (.slice xa 1 xc)).third
    clear s3 s4 f3 s5
    have e6 : [Value.int .u8 (k : Int), Value.int .u8 0] = sgn [(k, 0)] := rfl
    rw [e6] at s6
    clear e6
    go_upto_region 7 with (fail)
    clear f4 g4
    generalize w4.setCell ⟨nb + 1, 0, none⟩ (.slice xa 1 xc) = w6 at *
    have f6 : w6.cell? ⟨nb, 0, none⟩ = some (.int .i64 (n : Int)) := (s6.boxAt 0).1
    have g6 := (s6.boxAt 0).2
    have s7 : St B w0 _ (boxT nb #[.int .i64 (n1 : Int)] 3 :: boxT (nb + 1) #[.slice xa 1 xc] 83 :: signT 131 (.slice xa 1 xc) [(k, 0)] :: r) := s6.setBox (.int .i64 (n1 : Int))
    clear s6
    go_wp2_with fail
    clear f6 g6
    generalize w6.setCell ⟨nb, 0, none⟩ (.int .i64 (n1 : Int)) = w7 at *
    refine (repeat_st nb (nb + 1) 16 n1 _ [(k, 0)] (by omega) hn1b (by simp) (small_one k hk) (others k) (fun q _ h => others_step k q h) s7).mono ?_
    rintro e w5 ⟨rfl, m5, v5, L5, hm5, hmn5, hR5, hsm5, hlen5, s5⟩
    clear s7
    have hm5 : m5 < 3 := hm5
    rw [others_end k m5 hm5] at hR5
    have hR5 : L5 ++ List.replicate m5 (k, 0) = signs k n := by rw [HSG.out]; exact hR5
    have hlen5 : L5.length + m5 ≤ n := by rw [HN1.out]; simp at hlen5; omega
    have HR := Lib.hid hR5
    have HS := Lib.hid hsm5
    clear hR5 hsm5 hmn5
    go_wp2_with fail
  all_goals
    have s6 := s5.drew
    clear s5
    refine region_seg (by kernel_rfl) [1] 7 rfl (by kernel_rfl) (by kernel_rfl) (fun _ _ d _ _ h => by cases d <;> exact h) ?_
    generalize w5.drew = wd at *
    intro K hK
    simp only [pickL, List.getElem?_cons_zero, List.getElem?_cons_succ]
    go_wp2_with fail
    try clear hK K
    refine wpAny_of_held (S := fun W => W.cell? ⟨nb, 0, none⟩ = some (.int .i64 (m5 : Int)) ∧ W.cell? ⟨nb + 1, 0, none⟩ = some v5) _ _ _ _ ?_
    refine wpAnyH_take (i := 0) (v := v5) rfl (by kernel_rfl) (by kernel_rfl) (by kernel_rfl) (fun _ _ _ h => h) (.inl ⟨rfl, fun W hW => by obtain ⟨k0, k1⟩ := hW; go_simp⟩) ⟨(s6.boxAt 0).1, (s6.swap.boxAt 0).1⟩ ?_
    refine wpAnyH_take (i := 4) (v := .int .i64 (m5 : Int)) rfl (by kernel_rfl) (by kernel_rfl) (by kernel_rfl) (fun _ _ _ h => h) (.inl ⟨rfl, fun W hW => by obtain ⟨k0, k1⟩ := hW; go_simp⟩) ⟨(s6.boxAt 0).1, (s6.swap.boxAt 0).1⟩ ?_
    refine held_step (j := 2) _ (by kernel_rfl) rfl ?_
    intro N2 hN2
    go_wp2_with fail
    refine hN2 _ _ ⟨(s6.boxAt 0).1, (s6.swap.boxAt 0).1⟩ ?_
    try clear hN2 N2
    refine held_step (j := 3) _ (by kernel_rfl) rfl ?_
    intro N3 hN3
    go_wp2_with fail
    have s8 := s6.newBox #[.int .u8 (k : Int), .int .u8 0] 131
    obtain ⟨yb, hyb⟩ : ∃ yb, wd.heap.size = yb := ⟨_, rfl⟩
    rw [hyb] at s8 ⊢
    generalize wd.alloc (.cells #[.int .u8 (k : Int), .int .u8 0] 131) = w8 at *
    clear hyb s6
    refine hN3 _ _ ⟨(s8.swap.boxAt 0).1, (s8.third.boxAt 0).1⟩ ?_
    try clear hN3 N3
    refine held_step (j := 5) _ (by kernel_rfl) rfl ?_
    intro N5 hN5
    have hsrc : ∀ j v, [Value.int .u8 (k : Int), Value.int .u8 0][j]? = some v → w8.cell? ((⟨yb, 0, none⟩ : Addr).add j) = some v := fun j v hj => by
      rw [add_none, Nat.zero_add, (s8.boxAt j).1]
      simpa using hj
    go_wp2_with (go_at_call 116; refine (repeatS_st s8 yb 0 1 [.int .u8 (k : Int), .int .u8 0] rfl (by simp [Value.oneCell']) hsrc m5 (by omega)).mono ?_; rintro e w9 ⟨v9, rfl, s9⟩)
    clear hsrc s8
    have s9 := s9.swap.drop
    refine hN5 _ _ ⟨(s9.swap.boxAt 0).1, (s9.third.boxAt 0).1⟩ ?_
    try clear hN5 N5
    refine held_step (j := 6) _ (by kernel_rfl) rfl ?_
    intro N6 hN6
    obtain ⟨ya, yc, rfl⟩ := ownsRow_slice s9.row
    have s10 := s9.fourth
    refine wpList_append_rowN rfl _ _ 83 rfl 131 i0 (.agg #[.int .u8 0, .int .u8 0]) 2 2 Tryz.underlying83 hi0 hz0 hz1 hz2 rfl (by decide) s10 rfl rfl (rep_one m5 _ (by simp [Value.oneCell'])) (by unfold maxLen; omega) (by omega) ?_
    intro v11 w11 s11
    clear s9 s10
    have s12 := s11.swap.drop
    refine hN6 _ _ ⟨(s12.swap.boxAt 0).1, (s12.third.boxAt 0).1⟩ ?_
    try clear hN6 N6
    refine held_step (j := 7) _ (by kernel_rfl) rfl ?_
    intro N7 hN7
    go_wp2_with fail
    refine hN7 _ _ ⟨(s12.swap.boxAt 0).1, (s12.third.boxAt 0).1⟩ ?_
    try clear hN7 N7
    refine wpAnyH_done (by kernel_rfl) ?_ 0
    go_wp2
    go_ret
    refine ⟨v11, rfl, ?_⟩
    have s13 := s12.swap.drop.swap.drop
    have e2 : rep m5 [Value.int .u8 (k : Int), Value.int .u8 0] = sgn (List.replicate m5 (k, 0)) := (rep_sgn m5 (k, 0)).symm
    rw [e2, ← sgn_append, HR.out] at s13
    have e : L5.length + m5 = (signs k n).length := by rw [← HR.out]; simp
    rw [e] at s13
    exact s13

end Go.Proofs.YtpcbhmkalofkmaaGreat.Rep

/-
  Contracts of package repeat: Pack. No conditions but those of the call. (Its tree of orders is written by wip/gen_repk.py.)
-/
namespace Go.Proofs.YtpcbhmkalofkmaaGreat.Rep
open Go.RowKit Go.Shelf

attribute [local go_sem] Oper.semAt_some

set_option maxHeartbeats 1000000 in
/-- runs: the slice is boxed; the function that comes back holds the box. -/
theorem runs_any (a : Option Addr) (len cap : Nat) (w : World) :
    Calls Tryz.prog 69 #[.slice a len cap] w fun e w' => e = .returned (.func (.func 112) #[] #[.pointer (some ⟨w.heap.size, 0, none⟩)]) ∧ w' = w.alloc (.cells #[.slice a len cap] 22) := by
  have hmf : ∀ (fn : Fn) (first cap : Array Value) (w : World), (Instr.makeFunc fn first cap).run Tryz.prog w = .ok (.func fn first cap) w := fun _ _ _ _ => rfl
  go_enter Tryz.func69, Tryz.ntmps69
  go_wp2
  go_ret
  exact ⟨rfl, rfl⟩

/-- What the loop's own memory holds. -/
def HeldP (w : World) (a : Option Addr) (len cap : Nat) (l : List (Nat × Nat)) (X : World) : Prop :=
  ∃ v1, Boxed X w.heap.size 83 v1 ∧ X.ownsRow w.heap.size 131 2 v1 l.length (sgn l) ∧ v1.ownBlock ≠ some w.heap.size ∧ Below w.heap.size w X ∧ Boxed X (w.heap.size + 1) 22 (.slice a len cap)

theorem heldP_from (w : World) (a : Option Addr) (len cap : Nat) (f : Nat → List (Nat × Nat)) (b : Nat) (hb : w.heap.size + 2 ≤ b) : OwnFrom b (fun k X => HeldP w a len cap (f k) X) := by
  rintro k A B row ⟨v1, h1, h2, h3, h4, h5⟩ hg hr
  have hne : ∀ j, j < b → some j ≠ row := fun j hj e => by have := (hr j e.symm).1; omega
  refine ⟨v1, h1.kept hg (hne _ (by omega)), h2.kept hg ?_, h3, h4.grown hg h4.size (fun r e => by have := (hr r e).1; omega), h5.kept hg (hne _ (by omega))⟩
  rcases h2.2 with ⟨rfl, _⟩ | ⟨g, cp, cur, rfl, _, hgg, _⟩
  · exact .inl rfl
  · refine .inr fun e => ?_
    obtain ⟨o, ho, hc⟩ := (hr g e.symm).2
    rw [hgg] at ho
    obtain rfl := Option.some.inj ho
    cases hc

/-- A round. -/
theorem HeldP.next {w X X2 X3 : World} {a : Option Addr} {len cap : Nat} {l s : List (Nat × Nat)} {v1 v3 : Value} (h1 : Boxed X w.heap.size 83 v1) (h2 : X.ownsRow w.heap.size 131 2 v1 l.length (sgn l)) (h3 : v1.ownBlock ≠ some w.heap.size) (h4 : Below w.heap.size w X) (h5 : Boxed X (w.heap.size + 1) 22 (.slice a len cap))
    (hb : Below X.heap.size X X2) (hg : X2.grownBy X3 v1.ownBlock) (hf : Fresh X2 v1 v3) (h6 : X3.ownsRow 0 131 2 v3 (l.length + s.length) (sgn l ++ sgn s)) :
    KeepsOthers X (X3.setCell ⟨w.heap.size, 0, none⟩ v3) ∧ KeepR w.heap.size (w.heap.size + 1) X (X3.setCell ⟨w.heap.size, 0, none⟩ v3) ∧ HeldP w a len cap (l ++ s) (X3.setCell ⟨w.heap.size, 0, none⟩ v3) ∧ X3.cell? ⟨w.heap.size, 0, none⟩ = some v1 ∧ X3.frozen? ⟨w.heap.size, 0, none⟩ = false := by
  have hne : some w.heap.size ≠ v1.ownBlock := fun e => h3 e.symm
  have b1 : Boxed X2 w.heap.size 83 v1 := (hb.block _ h1.lt).trans h1
  have b3 := b1.kept hg hne
  have hbg : ∀ k, v1.ownBlock = some k → w.heap.size ≤ k ∧ k < X.heap.size := fun k hk => h2.lt k hk
  have c1 : Boxed X2 (w.heap.size + 1) 22 (.slice a len cap) := (hb.block _ h5.lt).trans h5
  have hlen5 : ∀ k, v1.ownBlock = some k → k ≠ w.heap.size + 1 := fun k hk e => by
    rcases h2.2 with ⟨rfl, _⟩ | ⟨g, cp, cur, rfl, _, hgg, _⟩
    · cases hk
    · have e1 : g = k := Option.some.inj hk
      have h6 : X.heap[w.heap.size + 1]? = some (.cells #[.slice a len cap] 22 (0, 0)) := h5
      rw [e1, e, h6] at hgg
      have e2 := (Obj.cells.inj (Option.some.inj hgg)).2.1
      exact absurd e2 (by decide)
  have c3 := c1.kept hg (fun e => hlen5 _ e.symm rfl)
  have c4 : Boxed (X3.setCell ⟨w.heap.size, 0, none⟩ v3) (w.heap.size + 1) 22 (.slice a len cap) := c3.kept (grownBy_setCell' X3 w.heap.size v3) (by intro e; have := Option.some.inj e; omega)
  have bw : Below w.heap.size X (X3.setCell ⟨w.heap.size, 0, none⟩ v3) :=
    (((hb.mono h4.size).grown hg (Nat.le_trans h4.size hb.size) (fun k hk => (hbg k hk).1))).setCell (p := ⟨w.heap.size, 0, none⟩) (Nat.le_refl _) v3
  have ho : v3.ownBlock ≠ some w.heap.size := by
    rcases hf with e | e
    · rw [e]; exact h3
    · intro e2
      have h7 := e _ e2
      have h8 := hb.size
      have h9 := h1.lt
      omega
  refine ⟨?_, ⟨bw, fun v hv => ?_⟩, ⟨v3, b3.set v3, ?_, ho, h4.trans bw, c4⟩, b3.cell, b3.frozen⟩
  · refine KeepsOthers.trans (B := X2) ⟨hb.size, fun k o hk _ => (hb.block k (lt_of_block hk)).trans hk⟩ (KeepsOthers.trans (B := X3) (KeepsOthers.of_grownBy hg fun j o hj hjo => ?_) (KeepsOthers.setCell _ _ _))
    rcases h2.2 with ⟨rfl, _⟩ | ⟨g, cp, cur, rfl, _, hgg, _⟩
    · cases hj
    · have e1 : g = j := Option.some.inj hj
      have h10 := (hb.block g (lt_of_block hgg)).trans hgg
      rw [e1, hjo] at h10
      obtain rfl := Option.some.inj h10
      rfl
  · have e1 := h5.cell
    rw [e1] at hv
    obtain rfl := Option.some.inj hv
    exact c4.cell
  · have h7 : X3.ownsRow w.heap.size 131 2 v3 (l.length + s.length) (sgn l ++ sgn s) := by
      refine ⟨h6.1, ?_⟩
      rcases h6.2 with e | ⟨g, cp, cur, hv, _, hgg, rest⟩
      · exact .inl e
      · refine .inr ⟨g, cp, cur, hv, ?_, hgg, rest⟩
        have hgb : v3.ownBlock = some g := by rw [hv]; rfl
        rcases hf with e | e
        · rw [e] at hgb; exact (hbg g hgb).1
        · have := e g hgb
          have := hb.size
          have := h4.size
          omega
    rw [← sgn_append, ← List.length_append] at h7
    exact h7.kept (grownBy_setCell' X3 w.heap.size v3) (.inr (fun e => ho e))

/-- 'append(s, x)' in a fenced walk, s a slice of the call's own. -/
theorem wpListIn_append_mine {F : Fence} {nn : Nat} {P : Program} (w : World) {ops : Array Oper} {rest : List Oper} {o : Oper} {a : Act} {Q : Exit → Act → World → Prop} (hgd : o.guard = none) (s x : Operand) (t : TypeId)
    (ho : o.op = .call { callee := .builtin .append, args := #[s, x], argTypes := #[t, t] })
    (e : TypeId) (i : TypeInfo) (z : Value) (size bytes : Nat) (ht : P.underlying t = some (.slice e)) (hi : P.info? e = some i) (hz : i.zero = some z)
    (hsize : i.size = size) (hby : i.bytes = bytes) (hzs : z.cells.size = size) (hsz : 0 < size)
    (v : Value) (n : Nat) (xs : List Value) (hs : a.eval s = v) (hown : w.ownsRow 0 e size v n xs)
    (ad : Option Addr) (m c : Nat) (news : List Value) (hx : a.eval x = .slice ad m c) (hnone : ad = none → m = 0 ∧ c = 0) (hl : news.length = m * size) (hnews : ∀ b, ad = some b → ∀ j u, news[j]? = some u → w.cell? (b.add j) = some u) (h1 : ∀ u ∈ news, u.oneCell' = true)
    (h63 : n + m ≤ maxLen) (hbytes : (n + m) * bytes ≤ 140737488355328)
    (h : ∀ v' w', w'.ownsRow 0 e size v' (n + m) (xs ++ news) → w.grownBy w' v.ownBlock → Fresh w v v' → wpListIn F nn P ops Q rest (a.put o.dst v') w') : wpListIn F nn P ops Q (o :: rest) a w := by
  refine wpListIn_plain hgd fun K hK => ?_
  obtain ⟨v', w', hr, h2, h3, h4⟩ := run_append_mine (P := P) w t o.type e i z size bytes ht hi hz hsize hby hzs hsz v n xs hown ad m c news hnone hl hnews h1 h63 hbytes
  unfold Oper.wpIn
  refine ⟨?_, ?_⟩
  · simp [Oper.about, ho, resolve, Target.leads, Sem.run_pure]
  · rw [Oper.semAt_plain F _ _ (by rw [ho]; intro c hc; cases hc)]
    simp only [execOp, ho, resolve, invoke, builtin, Sem.run_bind, Sem.run_pure, Result.andThen_ok, List.map_toArray, List.map_cons, List.map_nil, hs, hx, hr]
    exact hK _ _ (h v' w' h2 h3 h4)

/-- What Pack answers. -/
def packErr (L : List Nat) : Nat := if (L.any fun x => decide (15 < x)) then 5 else 0
def packOf (L : List Nat) : List (Nat × Nat) := if (L.any fun x => decide (15 < x)) then [] else pack L

theorem take_runs (L : List Nat) (k : Nat) (hk : k < (runsOf L).length) : ((runsOf L).take (k + 1)).flatMap (fun s => signs s.1 s.2) = ((runsOf L).take k).flatMap (fun s => signs s.1 s.2) ++ signs (runLen L k) (runNum L k) := by
  unfold runLen runNum
  rw [List.take_succ_eq_append_getElem hk, List.flatMap_append, List.getD_eq_getElem?_getD, List.getElem?_eq_getElem hk]
  simp

theorem flat_le : ∀ (m : Nat) (L : List Nat) (k : Nat), L.length ≤ m → (((runsOf L).take k).flatMap fun s => signs s.1 s.2).length ≤ L.length
  | _, [], k, _ => by rw [runsOf]; simp
  | 0, a :: t, _, h => by simp at h
  | m + 1, a :: t, 0, _ => by simp
  | m + 1, a :: t, k + 1, h => by
    simp at h
    have h1 := lead_le a t
    have h2 := flat_le m (t.drop (lead a t)) k (by simp; omega)
    have h3 := (signs_length a (lead a t + 1) (by omega)).1
    rw [runsOf, List.take_succ_cons, List.flatMap_cons, List.length_append]
    simp at h2 ⊢
    omega

theorem ownsRow_news {w : World} {base e size m c : Nat} {ad : Option Addr} {ys : List Value} (h : w.ownsRow base e size (.slice ad m c) m ys) : (ad = none → m = 0 ∧ c = 0) ∧ ∀ b, ad = some b → ∀ j u, ys[j]? = some u → w.cell? (b.add j) = some u := by
  refine ⟨fun e1 => ?_, fun b hb j u hu => ?_⟩
  · subst e1
    rcases h.2 with ⟨e2, e3⟩ | ⟨g, cap, cur, e2, _⟩
    · have := Value.slice.inj e2; exact ⟨e3, this.2.2⟩
    · cases e2
  · subst hb
    rcases h.2 with ⟨e2, e3⟩ | ⟨g, cap, cur, e2, _⟩
    · cases e2
    · have e4 : b = ⟨g, 0, none⟩ := Option.some.inj (Value.slice.inj e2).1
      rw [e4]
      exact h.cells (g := g) (by rw [e4]; rfl) j u hu

set_option maxRecDepth 100000 in
set_option maxHeartbeats 8000000 in
/-- Pack. -/
theorem pack_any (w : World) (v : Value) (L : List Nat) (h : ByteRow w v L) (hl : L.length ≤ 1000000) :
    Calls Tryz.prog 40 #[v] w fun e w' => ∃ v', e = .returned (.tuple #[v', .int .i64 (packErr L : Int)]) ∧ w'.ownsRow w.heap.size 131 2 v' (packOf L).length (sgn (packOf L)) ∧ Below w.heap.size w w' := by
  have hC := callsIn_wide (n := 2).2 (containsB_any w v L h (by omega))
  refine (callsIn_wide (n := 3)).1 ?_
  refine callsIn_of_wp_marks Tryz.func40 rfl trivial ?_ rfl
  simp only [Tryz.ntmps40, List.size_toArray, List.length_cons, List.length_nil, Nat.reduceAdd, Nat.reduceSub, Array.replicate_succ, Array.replicate_zero, List.push_toArray, List.append_toArray, List.nil_append, List.cons_append]
  cases hm : (L.any fun x => decide (15 < x)) with
  | true =>
    have hE : packErr L = 5 := by unfold packErr; rw [hm]; rfl
    have hO : packOf L = [] := by unfold packOf; rw [hm]; rfl
    rw [hm] at hC
    rw [hE, hO]
    gi_wp2_with (refine ⟨trivial, ?_⟩; gi_at_call 67; refine hC.mono ?_; rintro e w1 ⟨rfl, rfl⟩)
    refine ⟨_, results_tmp2 rfl _ _ _, _, rfl, World.ownsRow_nil _ _ _ _, Below.refl _ _⟩
  | false =>
    have hE : packErr L = 0 := by unfold packErr; rw [hm]; rfl
    have hO : packOf L = pack L := by unfold packOf; rw [hm]; rfl
    rw [hm] at hC
    rw [hE, hO]
    clear hE hO
    have HM := Lib.hid hm
    clear hm
    have HR := fun W hB => h.below (B := w.heap.size) (w' := W) hB (Nat.le_refl _)
    obtain ⟨a, cap, rfl, -, -, -⟩ := id h
    gi_wp2_with (refine ⟨trivial, ?_⟩; gi_at_call 67; refine hC.mono ?_; rintro e w1 ⟨rfl, rfl⟩)
    refine ⟨trivial, ?_⟩
    refine (callsIn_wide.2 (runs_any a L.length cap _)).mono ?_
    rintro e w9 ⟨rfl, rfl⟩
    gi_wp2_with fail
    have k1 := Boxed.new w 83 (.slice none 0 0)
    have k2 := Boxed.new (w.alloc (.cells #[.slice none 0 0] 83)) 22 (.slice a L.length cap)
    have k1 := k1.alloc (.cells #[.slice a L.length cap] 22)
    have hb2 : Below w.heap.size w ((w.alloc (.cells #[.slice none 0 0] 83)).alloc (.cells #[.slice a L.length cap] 22)) := ((Below.refl _ w).alloc (Nat.le_refl _) _).alloc (by simp) _
    have z2 : ((w.alloc (.cells #[.slice none 0 0] 83)).alloc (.cells #[.slice a L.length cap] 22)).heap.size = w.heap.size + 2 := by simp
    rw [World.size_alloc] at k2
    generalize (w.alloc (.cells #[.slice none 0 0] 83)).alloc (.cells #[.slice a L.length cap] 22) = w2 at *
    have hH : HeldP w a L.length cap (((runsOf L).take 0).flatMap fun s => signs s.1 s.2) w2 := ⟨_, k1, World.ownsRow_nil _ _ _ _, by simp [Value.ownBlock], hb2, k2⟩
    refine range_count rfl (by omega) (gf := 112) (lb := #[.pointer (some ⟨w.heap.size + 1, 0, none⟩)]) rfl trivial (enters_of Tryz.func112 (by kernel_rfl) rfl)
      (runs_seq Fence.wide _ trivial rfl (by omega) (w.heap.size + 1) w.heap.size (.slice a L.length cap) L w2 (by omega) (by omega) hl k2.cell (fun W hW => HR W (hb2.trans hW))) (fun h k => KeepR.trans h k) ?keep (Below.refl _ _) (fun _ _ => rfl)
      (fun i W' => HeldP w a L.length cap (((runsOf L).take i).flatMap fun s => signs s.1 s.2) W')
      (heldP_from w a L.length cap (fun i => ((runsOf L).take i).flatMap fun s => signs s.1 s.2) _ (by omega))
      hH ?a1 ?assign ?body ?done
    case keep =>
      intro W l o o' hlW hW h3 h4
      refine ⟨?_, fun v hv => cell_kept hv (grownBy_putObj' W l o') (fun r e => by cases e; exact ⟨o, hW, h3⟩)⟩
      exact belowK_b (w := w2) (by omega) W l o o' hlW hW h3 h4
    case assign =>
      intro l j X K hj hK
      unfold runArgs
      gi_wp2
      exact hK
    case body =>
      rintro l j X hj ⟨v1, h1, h2, h3, h4, h5⟩
      have hnext := take_runs L j hj
      have hbd : runLen L j ∈ L ∧ 1 ≤ runNum L j ∧ runNum L j ≤ L.length := runs_bound L.length L (Nat.le_refl _) ((runsOf L).getD j (0, 0)) (by rw [List.getD_eq_getElem?_getD, List.getElem?_eq_getElem hj]; exact List.getElem_mem hj)
      have hfl := flat_le L.length L j (Nat.le_refl _)
      have hfl2 := flat_le L.length L (j + 1) (Nat.le_refl _)
      rw [hnext, List.length_append] at hfl2
      rw [hnext]
      have hy : runLen L j < 16 := by
        have h6 := HM.out
        rw [List.any_eq_false] at h6
        have h7 := h6 _ hbd.1
        exact Nat.lt_of_not_le fun hc => h7 (by simp only [decide_eq_true_eq]; omega)
      obtain ⟨hbd1, hd1, hd2⟩ := hbd
      clear hbd1
      generalize runLen L j = y at *
      generalize runNum L j = d at *
      generalize ((runsOf L).take j).flatMap (fun s => signs s.1 s.2) = l0 at *
      have hd2 : d ≤ 1000000 := by omega
      have hlt : w.heap.size < X.heap.size := h1.lt
      have cX : X.drew.cell? ⟨w.heap.size, 0, none⟩ = some v1 := h1.cell
      obtain ⟨i0, hi, hz0, hz1, hz2⟩ := info_parts infoSign
      clear hH k1 k2 hb2 hnext
      gi_wp2
      refine wpIn_region_any (by kernel_rfl) ?_
      refine wpAnyIn_all (rs := [0, 1, 2]) (by kernel_rfl) (by simp) (fun q hq => ?_)
      rcases (by simpa using hq : q = 0 ∨ q = 1 ∨ q = 2) with rfl | rfl | rfl
      · refine wpOpIn_step rfl (fun K hK => ?_)
        gi_wp2
        refine wpAnyIn_all (rs := [1, 2]) (by kernel_rfl) (by simp) (fun q hq => ?_)
        rcases (by simpa using hq : q = 1 ∨ q = 2) with rfl | rfl
        · refine wpOpIn_step rfl (fun K hK => ?_)
          gi_wp2
          refine wpAnyIn_all (rs := [2]) (by kernel_rfl) (by simp) (fun q hq => ?_)
          obtain rfl : q = 2 := by simpa using hq
          refine wpOpIn_step rfl (fun K hK => ?_)
          gi_wp2
          refine wpAnyIn_all (rs := [3]) (by kernel_rfl) (by simp) (fun q hq => ?_)
          obtain rfl : q = 3 := by simpa using hq
          refine wpOpIn_step rfl (fun K hK => ?_)
          gi_wp2_with fail
          refine ⟨trivial, ?_⟩
          refine (callsIn_wide.2 (signsOf_st (St.start X.drew) y d hy hd1 hd2)).mono ?_
          rintro e X2 ⟨v2, rfl, s2⟩
          have c2 : X2.cell? ⟨w.heap.size, 0, none⟩ = some v1 := (s2.below (Nat.le_refl _)).cell (p := ⟨w.heap.size, 0, none⟩) hlt |>.trans cX
          gi_wp2_with fail
          have hb : Below X.heap.size X X2 := (Below.refl X.heap.size X).drew.trans (s2.below (Nat.le_refl _))
          obtain ⟨ya, yc, rfl⟩ := ownsRow_slice s2.row
          obtain ⟨hnone, hnews⟩ := ownsRow_news s2.row
          have hl2 := s2.row.1
          have hown1 : X2.ownsRow 0 131 2 v1 l0.length (sgn l0) := ownsRow_base (ownsRow_only h2 (Only.of_below (S := fun k => X.heap.size ≤ k) hb (fun k _ hk => hk)) (fun g hg hge => absurd hge (Nat.not_le_of_lt (h2.lt g hg).2)))
          refine wpAnyIn_one [4, 5] 0 (by kernel_rfl) (by kernel_rfl) ?_
          intro K2 hK2
          simp only [pickL, List.getElem?_cons_zero, List.getElem?_cons_succ]
          gi_wp2_with (gi_at_builtin; refine wpListIn_append_mine _ rfl _ _ 83 rfl 131 i0 (.agg #[.int .u8 0, .int .u8 0]) 2 2 Tryz.underlying83 hi hz0 hz1 hz2 rfl (by decide) v1 l0.length (sgn l0) rfl hown1 ya _ yc (sgn (signs y d)) rfl hnone hl2 hnews (sgn_one _) (by unfold maxLen; omega) (by omega) ?_)
          intro v3 X3 h6 hg hf
          obtain ⟨xa, xc, rfl⟩ := ownsRow_slice h6
          obtain ⟨q1, q2, q3, q4, q5⟩ := HeldP.next h1 h2 h3 h4 h5 hb hg hf h6
          clear hnone hnews hl2 hown1 s2 h6 hg hf c2
          gi_wp2_with fail
          refine wpAnyIn_done (by kernel_rfl) ?_ 0
          exact ⟨q1, q2, q3⟩
        · refine wpOpIn_step rfl (fun K hK => ?_)
          gi_wp2
          refine wpAnyIn_all (rs := [1]) (by kernel_rfl) (by simp) (fun q hq => ?_)
          obtain rfl : q = 1 := by simpa using hq
          refine wpOpIn_step rfl (fun K hK => ?_)
          gi_wp2
          refine wpAnyIn_all (rs := [3]) (by kernel_rfl) (by simp) (fun q hq => ?_)
          obtain rfl : q = 3 := by simpa using hq
          refine wpOpIn_step rfl (fun K hK => ?_)
          gi_wp2_with fail
          refine ⟨trivial, ?_⟩
          refine (callsIn_wide.2 (signsOf_st (St.start X.drew) y d hy hd1 hd2)).mono ?_
          rintro e X2 ⟨v2, rfl, s2⟩
          have c2 : X2.cell? ⟨w.heap.size, 0, none⟩ = some v1 := (s2.below (Nat.le_refl _)).cell (p := ⟨w.heap.size, 0, none⟩) hlt |>.trans cX
          gi_wp2_with fail
          have hb : Below X.heap.size X X2 := (Below.refl X.heap.size X).drew.trans (s2.below (Nat.le_refl _))
          obtain ⟨ya, yc, rfl⟩ := ownsRow_slice s2.row
          obtain ⟨hnone, hnews⟩ := ownsRow_news s2.row
          have hl2 := s2.row.1
          have hown1 : X2.ownsRow 0 131 2 v1 l0.length (sgn l0) := ownsRow_base (ownsRow_only h2 (Only.of_below (S := fun k => X.heap.size ≤ k) hb (fun k _ hk => hk)) (fun g hg hge => absurd hge (Nat.not_le_of_lt (h2.lt g hg).2)))
          refine wpAnyIn_one [4, 5] 0 (by kernel_rfl) (by kernel_rfl) ?_
          intro K2 hK2
          simp only [pickL, List.getElem?_cons_zero, List.getElem?_cons_succ]
          gi_wp2_with (gi_at_builtin; refine wpListIn_append_mine _ rfl _ _ 83 rfl 131 i0 (.agg #[.int .u8 0, .int .u8 0]) 2 2 Tryz.underlying83 hi hz0 hz1 hz2 rfl (by decide) v1 l0.length (sgn l0) rfl hown1 ya _ yc (sgn (signs y d)) rfl hnone hl2 hnews (sgn_one _) (by unfold maxLen; omega) (by omega) ?_)
          intro v3 X3 h6 hg hf
          obtain ⟨xa, xc, rfl⟩ := ownsRow_slice h6
          obtain ⟨q1, q2, q3, q4, q5⟩ := HeldP.next h1 h2 h3 h4 h5 hb hg hf h6
          clear hnone hnews hl2 hown1 s2 h6 hg hf c2
          gi_wp2_with fail
          refine wpAnyIn_done (by kernel_rfl) ?_ 0
          exact ⟨q1, q2, q3⟩
      · refine wpOpIn_step rfl (fun K hK => ?_)
        gi_wp2
        refine wpAnyIn_all (rs := [0, 2]) (by kernel_rfl) (by simp) (fun q hq => ?_)
        rcases (by simpa using hq : q = 0 ∨ q = 2) with rfl | rfl
        · refine wpOpIn_step rfl (fun K hK => ?_)
          gi_wp2
          refine wpAnyIn_all (rs := [2]) (by kernel_rfl) (by simp) (fun q hq => ?_)
          obtain rfl : q = 2 := by simpa using hq
          refine wpOpIn_step rfl (fun K hK => ?_)
          gi_wp2
          refine wpAnyIn_all (rs := [3]) (by kernel_rfl) (by simp) (fun q hq => ?_)
          obtain rfl : q = 3 := by simpa using hq
          refine wpOpIn_step rfl (fun K hK => ?_)
          gi_wp2_with fail
          refine ⟨trivial, ?_⟩
          refine (callsIn_wide.2 (signsOf_st (St.start X.drew) y d hy hd1 hd2)).mono ?_
          rintro e X2 ⟨v2, rfl, s2⟩
          have c2 : X2.cell? ⟨w.heap.size, 0, none⟩ = some v1 := (s2.below (Nat.le_refl _)).cell (p := ⟨w.heap.size, 0, none⟩) hlt |>.trans cX
          gi_wp2_with fail
          have hb : Below X.heap.size X X2 := (Below.refl X.heap.size X).drew.trans (s2.below (Nat.le_refl _))
          obtain ⟨ya, yc, rfl⟩ := ownsRow_slice s2.row
          obtain ⟨hnone, hnews⟩ := ownsRow_news s2.row
          have hl2 := s2.row.1
          have hown1 : X2.ownsRow 0 131 2 v1 l0.length (sgn l0) := ownsRow_base (ownsRow_only h2 (Only.of_below (S := fun k => X.heap.size ≤ k) hb (fun k _ hk => hk)) (fun g hg hge => absurd hge (Nat.not_le_of_lt (h2.lt g hg).2)))
          refine wpAnyIn_one [4, 5] 0 (by kernel_rfl) (by kernel_rfl) ?_
          intro K2 hK2
          simp only [pickL, List.getElem?_cons_zero, List.getElem?_cons_succ]
          gi_wp2_with (gi_at_builtin; refine wpListIn_append_mine _ rfl _ _ 83 rfl 131 i0 (.agg #[.int .u8 0, .int .u8 0]) 2 2 Tryz.underlying83 hi hz0 hz1 hz2 rfl (by decide) v1 l0.length (sgn l0) rfl hown1 ya _ yc (sgn (signs y d)) rfl hnone hl2 hnews (sgn_one _) (by unfold maxLen; omega) (by omega) ?_)
          intro v3 X3 h6 hg hf
          obtain ⟨xa, xc, rfl⟩ := ownsRow_slice h6
          obtain ⟨q1, q2, q3, q4, q5⟩ := HeldP.next h1 h2 h3 h4 h5 hb hg hf h6
          clear hnone hnews hl2 hown1 s2 h6 hg hf c2
          gi_wp2_with fail
          refine wpAnyIn_done (by kernel_rfl) ?_ 0
          exact ⟨q1, q2, q3⟩
        · refine wpOpIn_step rfl (fun K hK => ?_)
          gi_wp2
          refine wpAnyIn_all (rs := [0, 3]) (by kernel_rfl) (by simp) (fun q hq => ?_)
          rcases (by simpa using hq : q = 0 ∨ q = 3) with rfl | rfl
          · refine wpOpIn_step rfl (fun K hK => ?_)
            gi_wp2
            refine wpAnyIn_all (rs := [3]) (by kernel_rfl) (by simp) (fun q hq => ?_)
            obtain rfl : q = 3 := by simpa using hq
            refine wpOpIn_step rfl (fun K hK => ?_)
            gi_wp2_with fail
            refine ⟨trivial, ?_⟩
            refine (callsIn_wide.2 (signsOf_st (St.start X.drew) y d hy hd1 hd2)).mono ?_
            rintro e X2 ⟨v2, rfl, s2⟩
            have c2 : X2.cell? ⟨w.heap.size, 0, none⟩ = some v1 := (s2.below (Nat.le_refl _)).cell (p := ⟨w.heap.size, 0, none⟩) hlt |>.trans cX
            gi_wp2_with fail
            have hb : Below X.heap.size X X2 := (Below.refl X.heap.size X).drew.trans (s2.below (Nat.le_refl _))
            obtain ⟨ya, yc, rfl⟩ := ownsRow_slice s2.row
            obtain ⟨hnone, hnews⟩ := ownsRow_news s2.row
            have hl2 := s2.row.1
            have hown1 : X2.ownsRow 0 131 2 v1 l0.length (sgn l0) := ownsRow_base (ownsRow_only h2 (Only.of_below (S := fun k => X.heap.size ≤ k) hb (fun k _ hk => hk)) (fun g hg hge => absurd hge (Nat.not_le_of_lt (h2.lt g hg).2)))
            refine wpAnyIn_one [4, 5] 0 (by kernel_rfl) (by kernel_rfl) ?_
            intro K2 hK2
            simp only [pickL, List.getElem?_cons_zero, List.getElem?_cons_succ]
            gi_wp2_with (gi_at_builtin; refine wpListIn_append_mine _ rfl _ _ 83 rfl 131 i0 (.agg #[.int .u8 0, .int .u8 0]) 2 2 Tryz.underlying83 hi hz0 hz1 hz2 rfl (by decide) v1 l0.length (sgn l0) rfl hown1 ya _ yc (sgn (signs y d)) rfl hnone hl2 hnews (sgn_one _) (by unfold maxLen; omega) (by omega) ?_)
            intro v3 X3 h6 hg hf
            obtain ⟨xa, xc, rfl⟩ := ownsRow_slice h6
            obtain ⟨q1, q2, q3, q4, q5⟩ := HeldP.next h1 h2 h3 h4 h5 hb hg hf h6
            clear hnone hnews hl2 hown1 s2 h6 hg hf c2
            gi_wp2_with fail
            refine wpAnyIn_done (by kernel_rfl) ?_ 0
            exact ⟨q1, q2, q3⟩
          · refine wpOpIn_step rfl (fun K hK => ?_)
            gi_wp2_with fail
            refine ⟨trivial, ?_⟩
            refine (callsIn_wide.2 (signsOf_st (St.start X.drew) y d hy hd1 hd2)).mono ?_
            rintro e X2 ⟨v2, rfl, s2⟩
            have c2 : X2.cell? ⟨w.heap.size, 0, none⟩ = some v1 := (s2.below (Nat.le_refl _)).cell (p := ⟨w.heap.size, 0, none⟩) hlt |>.trans cX
            gi_wp2_with fail
            refine wpAnyIn_all (rs := [0]) (by kernel_rfl) (by simp) (fun q hq => ?_)
            obtain rfl : q = 0 := by simpa using hq
            refine wpOpIn_step rfl (fun K hK => ?_)
            gi_wp2
            have hb : Below X.heap.size X X2 := (Below.refl X.heap.size X).drew.trans (s2.below (Nat.le_refl _))
            obtain ⟨ya, yc, rfl⟩ := ownsRow_slice s2.row
            obtain ⟨hnone, hnews⟩ := ownsRow_news s2.row
            have hl2 := s2.row.1
            have hown1 : X2.ownsRow 0 131 2 v1 l0.length (sgn l0) := ownsRow_base (ownsRow_only h2 (Only.of_below (S := fun k => X.heap.size ≤ k) hb (fun k _ hk => hk)) (fun g hg hge => absurd hge (Nat.not_le_of_lt (h2.lt g hg).2)))
            refine wpAnyIn_one [4, 5] 0 (by kernel_rfl) (by kernel_rfl) ?_
            intro K2 hK2
            simp only [pickL, List.getElem?_cons_zero, List.getElem?_cons_succ]
            gi_wp2_with (gi_at_builtin; refine wpListIn_append_mine _ rfl _ _ 83 rfl 131 i0 (.agg #[.int .u8 0, .int .u8 0]) 2 2 Tryz.underlying83 hi hz0 hz1 hz2 rfl (by decide) v1 l0.length (sgn l0) rfl hown1 ya _ yc (sgn (signs y d)) rfl hnone hl2 hnews (sgn_one _) (by unfold maxLen; omega) (by omega) ?_)
            intro v3 X3 h6 hg hf
            obtain ⟨xa, xc, rfl⟩ := ownsRow_slice h6
            obtain ⟨q1, q2, q3, q4, q5⟩ := HeldP.next h1 h2 h3 h4 h5 hb hg hf h6
            clear hnone hnews hl2 hown1 s2 h6 hg hf c2
            gi_wp2_with fail
            refine wpAnyIn_done (by kernel_rfl) ?_ 0
            exact ⟨q1, q2, q3⟩
      · refine wpOpIn_step rfl (fun K hK => ?_)
        gi_wp2
        refine wpAnyIn_all (rs := [0, 1]) (by kernel_rfl) (by simp) (fun q hq => ?_)
        rcases (by simpa using hq : q = 0 ∨ q = 1) with rfl | rfl
        · refine wpOpIn_step rfl (fun K hK => ?_)
          gi_wp2
          refine wpAnyIn_all (rs := [1]) (by kernel_rfl) (by simp) (fun q hq => ?_)
          obtain rfl : q = 1 := by simpa using hq
          refine wpOpIn_step rfl (fun K hK => ?_)
          gi_wp2
          refine wpAnyIn_all (rs := [3]) (by kernel_rfl) (by simp) (fun q hq => ?_)
          obtain rfl : q = 3 := by simpa using hq
          refine wpOpIn_step rfl (fun K hK => ?_)
          gi_wp2_with fail
          refine ⟨trivial, ?_⟩
          refine (callsIn_wide.2 (signsOf_st (St.start X.drew) y d hy hd1 hd2)).mono ?_
          rintro e X2 ⟨v2, rfl, s2⟩
          have c2 : X2.cell? ⟨w.heap.size, 0, none⟩ = some v1 := (s2.below (Nat.le_refl _)).cell (p := ⟨w.heap.size, 0, none⟩) hlt |>.trans cX
          gi_wp2_with fail
          have hb : Below X.heap.size X X2 := (Below.refl X.heap.size X).drew.trans (s2.below (Nat.le_refl _))
          obtain ⟨ya, yc, rfl⟩ := ownsRow_slice s2.row
          obtain ⟨hnone, hnews⟩ := ownsRow_news s2.row
          have hl2 := s2.row.1
          have hown1 : X2.ownsRow 0 131 2 v1 l0.length (sgn l0) := ownsRow_base (ownsRow_only h2 (Only.of_below (S := fun k => X.heap.size ≤ k) hb (fun k _ hk => hk)) (fun g hg hge => absurd hge (Nat.not_le_of_lt (h2.lt g hg).2)))
          refine wpAnyIn_one [4, 5] 0 (by kernel_rfl) (by kernel_rfl) ?_
          intro K2 hK2
          simp only [pickL, List.getElem?_cons_zero, List.getElem?_cons_succ]
          gi_wp2_with (gi_at_builtin; refine wpListIn_append_mine _ rfl _ _ 83 rfl 131 i0 (.agg #[.int .u8 0, .int .u8 0]) 2 2 Tryz.underlying83 hi hz0 hz1 hz2 rfl (by decide) v1 l0.length (sgn l0) rfl hown1 ya _ yc (sgn (signs y d)) rfl hnone hl2 hnews (sgn_one _) (by unfold maxLen; omega) (by omega) ?_)
          intro v3 X3 h6 hg hf
          obtain ⟨xa, xc, rfl⟩ := ownsRow_slice h6
          obtain ⟨q1, q2, q3, q4, q5⟩ := HeldP.next h1 h2 h3 h4 h5 hb hg hf h6
          clear hnone hnews hl2 hown1 s2 h6 hg hf c2
          gi_wp2_with fail
          refine wpAnyIn_done (by kernel_rfl) ?_ 0
          exact ⟨q1, q2, q3⟩
        · refine wpOpIn_step rfl (fun K hK => ?_)
          gi_wp2
          refine wpAnyIn_all (rs := [0, 3]) (by kernel_rfl) (by simp) (fun q hq => ?_)
          rcases (by simpa using hq : q = 0 ∨ q = 3) with rfl | rfl
          · refine wpOpIn_step rfl (fun K hK => ?_)
            gi_wp2
            refine wpAnyIn_all (rs := [3]) (by kernel_rfl) (by simp) (fun q hq => ?_)
            obtain rfl : q = 3 := by simpa using hq
            refine wpOpIn_step rfl (fun K hK => ?_)
            gi_wp2_with fail
            refine ⟨trivial, ?_⟩
            refine (callsIn_wide.2 (signsOf_st (St.start X.drew) y d hy hd1 hd2)).mono ?_
            rintro e X2 ⟨v2, rfl, s2⟩
            have c2 : X2.cell? ⟨w.heap.size, 0, none⟩ = some v1 := (s2.below (Nat.le_refl _)).cell (p := ⟨w.heap.size, 0, none⟩) hlt |>.trans cX
            gi_wp2_with fail
            have hb : Below X.heap.size X X2 := (Below.refl X.heap.size X).drew.trans (s2.below (Nat.le_refl _))
            obtain ⟨ya, yc, rfl⟩ := ownsRow_slice s2.row
            obtain ⟨hnone, hnews⟩ := ownsRow_news s2.row
            have hl2 := s2.row.1
            have hown1 : X2.ownsRow 0 131 2 v1 l0.length (sgn l0) := ownsRow_base (ownsRow_only h2 (Only.of_below (S := fun k => X.heap.size ≤ k) hb (fun k _ hk => hk)) (fun g hg hge => absurd hge (Nat.not_le_of_lt (h2.lt g hg).2)))
            refine wpAnyIn_one [4, 5] 0 (by kernel_rfl) (by kernel_rfl) ?_
            intro K2 hK2
            simp only [pickL, List.getElem?_cons_zero, List.getElem?_cons_succ]
            gi_wp2_with (gi_at_builtin; refine wpListIn_append_mine _ rfl _ _ 83 rfl 131 i0 (.agg #[.int .u8 0, .int .u8 0]) 2 2 Tryz.underlying83 hi hz0 hz1 hz2 rfl (by decide) v1 l0.length (sgn l0) rfl hown1 ya _ yc (sgn (signs y d)) rfl hnone hl2 hnews (sgn_one _) (by unfold maxLen; omega) (by omega) ?_)
            intro v3 X3 h6 hg hf
            obtain ⟨xa, xc, rfl⟩ := ownsRow_slice h6
            obtain ⟨q1, q2, q3, q4, q5⟩ := HeldP.next h1 h2 h3 h4 h5 hb hg hf h6
            clear hnone hnews hl2 hown1 s2 h6 hg hf c2
            gi_wp2_with fail
            refine wpAnyIn_done (by kernel_rfl) ?_ 0
            exact ⟨q1, q2, q3⟩
          · refine wpOpIn_step rfl (fun K hK => ?_)
            gi_wp2_with fail
            refine ⟨trivial, ?_⟩
            refine (callsIn_wide.2 (signsOf_st (St.start X.drew) y d hy hd1 hd2)).mono ?_
            rintro e X2 ⟨v2, rfl, s2⟩
            have c2 : X2.cell? ⟨w.heap.size, 0, none⟩ = some v1 := (s2.below (Nat.le_refl _)).cell (p := ⟨w.heap.size, 0, none⟩) hlt |>.trans cX
            gi_wp2_with fail
            refine wpAnyIn_all (rs := [0]) (by kernel_rfl) (by simp) (fun q hq => ?_)
            obtain rfl : q = 0 := by simpa using hq
            refine wpOpIn_step rfl (fun K hK => ?_)
            gi_wp2
            have hb : Below X.heap.size X X2 := (Below.refl X.heap.size X).drew.trans (s2.below (Nat.le_refl _))
            obtain ⟨ya, yc, rfl⟩ := ownsRow_slice s2.row
            obtain ⟨hnone, hnews⟩ := ownsRow_news s2.row
            have hl2 := s2.row.1
            have hown1 : X2.ownsRow 0 131 2 v1 l0.length (sgn l0) := ownsRow_base (ownsRow_only h2 (Only.of_below (S := fun k => X.heap.size ≤ k) hb (fun k _ hk => hk)) (fun g hg hge => absurd hge (Nat.not_le_of_lt (h2.lt g hg).2)))
            refine wpAnyIn_one [4, 5] 0 (by kernel_rfl) (by kernel_rfl) ?_
            intro K2 hK2
            simp only [pickL, List.getElem?_cons_zero, List.getElem?_cons_succ]
            gi_wp2_with (gi_at_builtin; refine wpListIn_append_mine _ rfl _ _ 83 rfl 131 i0 (.agg #[.int .u8 0, .int .u8 0]) 2 2 Tryz.underlying83 hi hz0 hz1 hz2 rfl (by decide) v1 l0.length (sgn l0) rfl hown1 ya _ yc (sgn (signs y d)) rfl hnone hl2 hnews (sgn_one _) (by unfold maxLen; omega) (by omega) ?_)
            intro v3 X3 h6 hg hf
            obtain ⟨xa, xc, rfl⟩ := ownsRow_slice h6
            obtain ⟨q1, q2, q3, q4, q5⟩ := HeldP.next h1 h2 h3 h4 h5 hb hg hf h6
            clear hnone hnews hl2 hown1 s2 h6 hg hf c2
            gi_wp2_with fail
            refine wpAnyIn_done (by kernel_rfl) ?_ 0
            exact ⟨q1, q2, q3⟩
    case done =>
      rintro D X hD ⟨v1, h1, h2, h3, h4, h5⟩ hK
      have hpk : ((runsOf L).take (runsOf L).length).flatMap (fun s => signs s.1 s.2) = pack L := by rw [List.take_length]; exact (pack_runs L.length L (Nat.le_refl _)).symm
      rw [hpk] at h2
      have c1 := h1.cell
      have HK := Lib.hid h2
      clear h1 h2 h3 h5 hH k1 k2 hpk
      gi_wp2
      refine ⟨by simp, .inl ⟨_, _, rfl, run_takeDeferred hK, ?_⟩⟩
      refine ⟨_, results_tmp2 rfl _ _ _, _, rfl, ?_, ?_⟩
      · exact ownsRow_putObj HK.out (.deferred none) hK rfl
      · exact h4.trans (belowK_b (w := w2) (by omega) X D _ _ (by omega) hK rfl rfl)

/-- Pack, over a state. -/
theorem pack_st {B : Nat} {w0 w : World} {r : List Thing} (st : St B w0 w r) (v : Value) (L : List Nat) (h : ByteRow w v L) (hl : L.length ≤ 1000000) :
    Calls Tryz.prog 40 #[v] w fun e w' => ∃ v', e = .returned (.tuple #[v', .int .i64 (packErr L : Int)]) ∧ St B w0 w' (signT 131 v' (packOf L) :: r) :=
  (pack_any w v L h hl).mono fun _ _ ⟨v', he, ho, hb⟩ => ⟨v', he, st.addRow hb ho⟩

theorem packOf_small (L : List Nat) : Small (packOf L) := by
  unfold packOf
  split
  · intro p hp; cases hp
  · next h =>
    intro p hp
    have hL : ∀ x ∈ L, x < 16 := fun x hx => by
      have h1 : (L.any fun x => decide (15 < x)) = false := by simpa using h
      rw [List.any_eq_false] at h1
      have := h1 x hx
      simp at this
      omega
    have := times_le' p (List.all_eq_true.1 (fits_pack L.length L (Nat.le_refl _) hL) p hp)
    omega

theorem packOf_length (L : List Nat) : (packOf L).length ≤ L.length := by
  unfold packOf
  split
  · exact Nat.zero_le _
  · exact pack_length L.length L (Nat.le_refl _)

end Go.Proofs.YtpcbhmkalofkmaaGreat.Rep
