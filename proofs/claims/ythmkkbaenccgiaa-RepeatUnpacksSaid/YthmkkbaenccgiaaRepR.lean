/-
  Contracts of package repeat: the runs of lengths. No conditions but those of the calls.
-/
import Derived.Test.YthmkkbaenccgiaaRepA
import Derived.Test.YthmkkbaenccgiaaCount
import Derived.Test.YthmkkbaenccgiaaRegIn
import Derived.Sort.QuietTacIn
import Derived.Sort.BigQuietIn
namespace Go.Proofs.Ythmkkbaenccgiaa.Rep
open Go.RowKit Go.Shelf

attribute [local go_sem] Oper.semAt_some

/-- The runs of lengths: which length, and how many. -/
def runsOf : List Nat → List (Nat × Nat)
  | [] => []
  | k :: t => (k, lead k t + 1) :: runsOf (t.drop (lead k t))
termination_by L => L.length

theorem pack_runs : ∀ (m : Nat) (L : List Nat), L.length ≤ m → pack L = (runsOf L).flatMap fun s => signs s.1 s.2
  | _, [], _ => by rw [pack, runsOf]; rfl
  | 0, k :: t, h => by simp at h
  | m + 1, k :: t, h => by
    simp at h
    have h1 := lead_le k t
    rw [pack, runsOf, List.flatMap_cons, pack_runs m (t.drop (lead k t)) (by simp; omega)]

theorem runs_from (L : List Nat) (i j k : Nat) (hij : i < j) (hj : j ≤ L.length) (h : ∀ m (h : m < L.length), i ≤ m → m < j → L[m] = k) (he : ∀ h : j < L.length, L[j] ≠ k) :
    runsOf (L.drop i) = (k, j - i) :: runsOf (L.drop j) := by
  have e := drop_run L k (j - i) i (by omega) (fun m hm a b => h m hm a (by omega))
  rw [show i + (j - i) = j from by omega] at e
  rw [e]
  obtain ⟨n, hn⟩ : ∃ n, j - i = n + 1 := ⟨j - i - 1, by omega⟩
  have hh : (L.drop j).head? ≠ some k := by
    rw [List.head?_drop]
    intro c
    obtain ⟨h1, h2⟩ := List.getElem?_eq_some_iff.1 c
    exact he h1 h2
  rw [hn, List.replicate_succ, List.cons_append, runsOf, lead_run k _ hh n]
  congr 2
  rw [List.drop_append]
  simp

theorem runs_nil (L : List Nat) (h : runsOf L = []) : L = [] := by
  cases L with
  | nil => rfl
  | cons k t => rw [runsOf] at h; cases h

theorem runs_bound : ∀ (m : Nat) (L : List Nat), L.length ≤ m → ∀ s ∈ runsOf L, s.1 ∈ L ∧ 1 ≤ s.2 ∧ s.2 ≤ L.length
  | _, [], _, s, hs => by rw [runsOf] at hs; cases hs
  | 0, k :: t, h, _, _ => by simp at h
  | m + 1, k :: t, h, s, hs => by
    simp at h
    have h1 := lead_le k t
    rw [runsOf] at hs
    rcases List.mem_cons.1 hs with rfl | hs
    · simp; exact h1
    · obtain ⟨a, b, c⟩ := runs_bound m (t.drop (lead k t)) (by simp; omega) s hs
      refine ⟨List.mem_cons_of_mem _ (List.mem_of_mem_drop a), b, ?_⟩
      simp at c ⊢
      omega

/-- What a round keeps: what lies below n0, and a box. -/
def KeepR (n0 Bs : Nat) (A B : World) : Prop := Below n0 A B ∧ ∀ v, A.cell? ⟨Bs, 0, none⟩ = some v → B.cell? ⟨Bs, 0, none⟩ = some v

theorem KeepR.trans {n0 Bs : Nat} {A B C : World} (h : KeepR n0 Bs A B) (k : KeepR n0 Bs B C) : KeepR n0 Bs A C := ⟨h.1.trans k.1, fun v hv => k.2 v (h.2 v hv)⟩

/-- Which length, and how many, in round k. -/
def runLen (L : List Nat) (k : Nat) : Nat := ((runsOf L).getD k (0, 0)).1
def runNum (L : List Nat) (k : Nat) : Nat := ((runsOf L).getD k (0, 0)).2
/-- The arguments of round k. -/
def runArgs (L : List Nat) (k : Nat) : Array Value := #[.int .u8 (runLen L k : Int), .int .i64 (runNum L k : Int)]

theorem args_at (L : List Nat) (j y d : Nat) (rest : List (Nat × Nat)) (h : (runsOf L).drop j = (y, d) :: rest) : j < (runsOf L).length ∧ runArgs L j = #[.int .u8 (y : Int), .int .i64 (d : Int)] ∧ (runsOf L).drop (j + 1) = rest := by
  have h1 : j < (runsOf L).length := by
    rcases Nat.lt_or_ge j (runsOf L).length with c | c
    · exact c
    · rw [List.drop_of_length_le c] at h; cases h
  rw [List.drop_eq_getElem_cons h1] at h
  obtain ⟨h2, h3⟩ := List.cons.inj h
  refine ⟨h1, ?_, h3⟩
  unfold runArgs runLen runNum
  rw [List.getD_eq_getElem?_getD, List.getElem?_eq_getElem h1, h2]
  rfl

set_option maxRecDepth 100000 in
set_option maxHeartbeats 2000000 in
/-- The function over the runs. -/
theorem runs_seq (F : Fence) (n : Nat) (h26 : F.fn 26) (hro : F.round = none) (hn : 1 ≤ n) (Bs n0 : Nat) (v : Value) (L : List Nat) (w : World) (hB0 : Bs < w.heap.size) (hn0 : n0 ≤ w.heap.size) (hl : L.length ≤ 1000000)
    (hb : w.cell? ⟨Bs, 0, none⟩ = some v) (hrow : ∀ W, Below n0 w W → ByteRow W v L) :
    SeqN F n Try.prog 26 #[.pointer (some ⟨Bs, 0, none⟩)] (runArgs L) (KeepR n0 Bs) (runsOf L).length w := by
  intro l J W hW hA hY h0
  refine callsIn_of_wp Try.func26 rfl h26 ?_ hro
  simp only [Try.ntmps26, List.size_toArray, List.length_cons, List.length_nil, Nat.reduceAdd, Nat.reduceSub, Array.replicate_succ, Array.replicate_zero, List.push_toArray, List.append_toArray, List.nil_append, List.cons_append]
  have hb1 := (hW.cell (p := ⟨Bs, 0, none⟩) hB0).trans hb
  have hW0 : Below n0 w W := hW.mono hn0
  obtain ⟨a, cap, rfl, -, -, -⟩ := hrow w (Below.refl _ _)
  gi_wp2
  gi_loopw [3, 4] (fun iv _ wr => ∃ j p : Nat, p ≤ L.length ∧ iv = .int .i64 (p : Int) ∧ Hid (runsOf (L.drop p) = (runsOf L).drop j) ∧ Hid (j ≤ (runsOf L).length) ∧ J j wr ∧ wr.cell? ⟨Bs, 0, none⟩ = some (.slice a L.length cap) ∧ Below n0 w wr)
    (fun iv _ _ => L.length - (intOf iv).toNat)
  case atStart => exact ⟨0, 0, Nat.zero_le _, rfl, Lib.hid rfl, Lib.hid (Nat.zero_le _), h0, hb1, hW0⟩
  case round =>
    obtain ⟨j, p, hp, rfl, hr, hj, hJ, hB, hBl⟩ := hrel
    clear hb1 hW0
    by_cases hlt : p < L.length
    · obtain ⟨y, hy⟩ : ∃ y, L[p] = y := ⟨_, rfl⟩
      have HY := Lib.hid hy
      have hp1 : p + 1 ≤ L.length := by omega
      have gD : ∀ (X : World) (i : Nat), X.grownBy (X.drewN i) none := fun X i => ⟨rfl, rfl, rfl, Nat.le_refl _, fun _ _ _ => rfl⟩
      gi_wp2
      gi_loopw [4] (fun tv wi => ∃ q i : Nat, p < q ∧ q ≤ L.length ∧ tv = .int .i64 (q : Int) ∧ Hid (∀ m (hm : m < L.length), p ≤ m → m < q → L[m] = y) ∧ wi = wr.drewN i)
        (fun tv _ => L.length - (intOf tv).toNat)
      case atStart => exact ⟨p + 1, 0, by omega, hp1, by go_num, Lib.hid (fun m hm a b => by (obtain rfl : m = p := (by omega)); exact hy), rfl⟩
      case round =>
        obtain ⟨q, i, hpq, hq, rfl, hall, rfl⟩ := hrel
        clear hy
        have hBi : Below n0 w (wr.drewN i) := hBl.drewN i
        obtain ⟨a', cap', e1, _, _, hat⟩ := hrow _ hBi
        obtain ⟨rfl, -, rfl⟩ := Value.slice.inj e1
        obtain ⟨hyl, b, off, rfl, hcp⟩ := hat p hlt
        rw [HY.out] at hcp
        have hcp : wr.cell? ⟨b, off + p, none⟩ = some (.int .u8 (y : Int)) := hcp
        by_cases hql : q < L.length
        · obtain ⟨z, hz⟩ : ∃ z, L[q] = z := ⟨_, rfl⟩
          obtain ⟨hzl, b', off', e2, hcq⟩ := hat q hql
          obtain ⟨rfl, rfl⟩ : b = b' ∧ off = off' := by simpa using e2
          rw [hz] at hcq
          have hcq : wr.cell? ⟨b, off + q, none⟩ = some (.int .u8 (z : Int)) := hcq
          have HZ := Lib.hid hz
          clear hz hat e1 e2
          have d0 : decide ((q : Int) < (L.length : Int)) = true := by simp; omega
          by_cases hzy : z = y
          · have d1 : ((z : Int) == (y : Int)) = true := by rw [hzy]; simp
            have HZY := Lib.hid hzy
            clear hzy
            gi_wp2
            refine wpIn_region_quiet_lit hro (by kernel_rfl) (by kernel_rfl) ?_
            repeat (gi_big_quiet_step (fail))
            refine wpQuietIn_nil ?_
            intro _ hw'
            obtain ⟨nq, hw''⟩ := hw'
            subst hw''
            gi_wp2
            go_roundw
            case rel =>
              refine ⟨q + 1, i + nq, by omega, by omega, by go_num, Lib.hid fun m hm a1 b1 => ?_, by simp⟩
              by_cases e : m = q
              · subst e
                rw [HZ.out]; exact HZY.out
              · exact hall.out m hm a1 (by omega)
            case measure => simp [intOf]; omega
          · have d1 : ((z : Int) == (y : Int)) = false := beq_eq_false_iff_ne.2 (by omega)
            have hend := runs_from L p q y hpq hq hall.out (fun h => by rw [HZ.out]; exact hzy)
            have HEND := Lib.hid hend
            clear hend hzy
            gi_wp2
            refine wpIn_region_quiet_lit hro (by kernel_rfl) (by kernel_rfl) ?_
            repeat (gi_big_quiet_step (fail))
            refine wpQuietIn_nil ?_
            intro _ hw'
            obtain ⟨nq, hw''⟩ := hw'
            subst hw''
            clear d0
            have hJ4 : J j ((wr.drewN i).drewN nq) := hA j _ _ none hJ (⟨rfl, rfl, rfl, Nat.le_refl _, fun _ _ _ => rfl⟩) (fun r e => by cases e)
            have hB4 : ((wr.drewN i).drewN nq).cell? ⟨Bs, 0, none⟩ = some (.slice (some ⟨b, off, none⟩) L.length cap) := hB
            have hc4 : ((wr.drewN i).drewN nq).cell? ⟨b, off + p, none⟩ = some (.int .u8 (y : Int)) := hcp
            have hl4 : Below n0 w ((wr.drewN i).drewN nq) := hBi.drewN nq
            have hlist : (runsOf L).drop j = (y, q - p) :: runsOf (L.drop q) := hr.out.symm.trans HEND.out
            obtain ⟨hjl, hargs, hnext⟩ := args_at L j y (q - p) _ hlist
            have HN := Lib.hid hnext
            obtain ⟨d, hd⟩ : ∃ d : Nat, q - p = d := ⟨_, rfl⟩
            have hd' : (q : Int) - (p : Int) = (d : Int) := by omega
            rw [hd] at hargs
            clear hJ hB hBl hcp hlist hnext
            generalize (wr.drewN i).drewN nq = wd at *
            obtain ⟨fn, tmps, assign, body, hy, hR⟩ := hY j wd hjl hJ4
            rw [hargs] at hy
            clear hargs hd
            gi_wp2
            refine hR.mono ?_
            rintro e W3 ⟨rfl, hJ3, hk3⟩
            clear hR hy
            have hB5 := hk3.2 _ hB4
            have hl5 := hl4.trans hk3.1
            clear hk3 hB4 hl4 hc4
            gi_wp2
            exact ⟨⟨j + 1, q, hq, rfl, Lib.hid HN.out.symm, Lib.hid hjl, hJ3, hB5, hl5⟩, by simp only [intOf, Int.toNat_natCast]; omega⟩
        · obtain rfl : q = L.length := by omega
          have hend := runs_from L p L.length y hpq hq hall.out (fun h => absurd h (Nat.lt_irrefl _))
          have HEND := Lib.hid hend
          clear hend hat e1
          have d0 : decide ((L.length : Int) < (L.length : Int)) = false := by simp
          gi_wp2
          refine wpIn_region_quiet_lit hro (by kernel_rfl) (by kernel_rfl) ?_
          repeat (gi_big_quiet_step (fail))
          refine wpQuietIn_nil ?_
          intro _ hw'
          obtain ⟨nq, hw''⟩ := hw'
          subst hw''
          clear d0
          have hJ4 : J j ((wr.drewN i).drewN nq) := hA j _ _ none hJ (⟨rfl, rfl, rfl, Nat.le_refl _, fun _ _ _ => rfl⟩) (fun r e => by cases e)
          have hB4 : ((wr.drewN i).drewN nq).cell? ⟨Bs, 0, none⟩ = some (.slice (some ⟨b, off, none⟩) L.length cap) := hB
          have hc4 : ((wr.drewN i).drewN nq).cell? ⟨b, off + p, none⟩ = some (.int .u8 (y : Int)) := hcp
          have hl4 : Below n0 w ((wr.drewN i).drewN nq) := hBi.drewN nq
          have hlist : (runsOf L).drop j = (y, L.length - p) :: runsOf (L.drop L.length) := hr.out.symm.trans HEND.out
          obtain ⟨hjl, hargs, hnext⟩ := args_at L j y (L.length - p) _ hlist
          have HN := Lib.hid hnext
          obtain ⟨d, hd⟩ : ∃ d : Nat, L.length - p = d := ⟨_, rfl⟩
          have hd' : (L.length : Int) - (p : Int) = (d : Int) := by omega
          rw [hd] at hargs
          clear hJ hB hBl hcp hlist hnext
          generalize (wr.drewN i).drewN nq = wd at *
          obtain ⟨fn, tmps, assign, body, hy, hR⟩ := hY j wd hjl hJ4
          rw [hargs] at hy
          clear hargs hd
          gi_wp2
          refine hR.mono ?_
          rintro e W3 ⟨rfl, hJ3, hk3⟩
          clear hR hy
          have hB5 := hk3.2 _ hB4
          have hl5 := hl4.trans hk3.1
          clear hk3 hB4 hl4 hc4
          gi_wp2
          exact ⟨⟨j + 1, L.length, Nat.le_refl _, rfl, Lib.hid HN.out.symm, Lib.hid hjl, hJ3, hB5, hl5⟩, by simp only [intOf, Int.toNat_natCast]; omega⟩
    · obtain rfl : p = L.length := by omega
      have e : j = (runsOf L).length := by
        have h1 := hr.out
        rw [List.drop_length, runsOf] at h1
        have h2 := congrArg List.length h1
        have h3 := hj.out
        simp at h2
        omega
      subst e
      gi_wp2
      go_end0
      exact ⟨⟨_, rfl⟩, hJ⟩

end Go.Proofs.Ythmkkbaenccgiaa.Rep
