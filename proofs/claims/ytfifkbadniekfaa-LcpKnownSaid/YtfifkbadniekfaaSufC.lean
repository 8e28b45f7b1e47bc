/-
  Contracts of package sufsort: ranks of places by their pairs. No conditions but that rows are small.
-/
import Derived.Test.YtfifkbadniekfaaSufB
import Derived.Laws.Tables
namespace Go.Proofs.Ytfifkbadniekfaa.Suf
open Go.RowKit

/-- The pairs of places in a row, and the ranks that the first k of them have. -/
def pairs (O : List Nat) (a c : Nat → Nat) (i : Nat) : Nat × Nat := (a (nth O i), c (nth O i))
def Ranks (O : List Nat) (x : Nat → Nat × Nat) (k : Nat) (R : List Nat) : Prop := R.length = O.length + 1 ∧ (∀ i, i < k → nth R (nth O i) = kd x (i + 1)) ∧ nth R O.length = 0

theorem nth_set (R : List Nat) (i j y : Nat) (h : i < R.length) : nth (R.set i y) j = if j = i then y else nth R j := by
  unfold nth
  rw [List.getD_eq_getElem?_getD, List.getD_eq_getElem?_getD, List.getElem?_set]
  by_cases e : i = j
  · subst e; simp [h]
  · rw [if_neg e, if_neg (fun h => e h.symm)]

theorem ranks_step {O : List Nat} {x : Nat → Nat × Nat} {k : Nat} {R : List Nat} (h : Ranks O x k R) (hk : k < O.length) (hm : ∀ p ∈ O, p < O.length) (hd : O.Nodup) : Ranks O x (k + 1) (R.set (nth O k) (kd x (k + 1))) := by
  obtain ⟨h1, h2, h3⟩ := h
  have hp : nth O k < O.length := by rw [nth_lt hk]; exact hm _ (List.getElem_mem _)
  refine ⟨by simpa using h1, fun i hi => ?_, ?_⟩
  · rw [nth_set _ _ _ _ (by omega)]
    by_cases e : i = k
    · subst e; rw [if_pos rfl]
    · rw [if_neg, h2 i (by omega)]
      intro e2
      rw [nth_lt hk, nth_lt (show i < O.length by omega)] at e2
      exact List.pairwise_iff_getElem.1 hd i k (by omega) hk (by omega) e2
  · rw [nth_set _ _ _ _ (by omega), if_neg (by omega), h3]

theorem kd_next (x : Nat → Nat × Nat) (k : Nat) : kd x (k + 1) = if x k = front x k then kd x k else kd x k + 1 := rfl
theorem front_next (x : Nat → Nat × Nat) (k : Nat) : front x (k + 1) = x k := by simp [front]

theorem pairEq (a b c d : Int) (w : World) : (Op.equalIn 10000 55 (.agg #[.int .i64 a, .int .i64 b]) (.agg #[.int .i64 c, .int .i64 d])).run Try.prog w = .ok (a == c && b == d) w := by
  have u3 := Try.underlying3
  have a3 := Try.isAgg3
  have z3 := Try.sizeOf3
  rw [show (10000 : Nat) = 9999 + 1 from rfl, Op.equalIn]
  simp only [Sem.run_bind, run_underlying Try.underlying55, Result.andThen_ok]
  simp only [Std.Legacy.Range.forIn_eq_forIn_range', Std.Legacy.Range.size, Nat.sub_zero, Nat.add_sub_cancel, Nat.div_one, List.range'_succ, List.range'_zero, List.forIn_cons, List.forIn_nil]
  go_simp
  by_cases h1 : a = c <;> by_cases h2 : b = d <;> simp [h1, h2]

/-- What ranked leaves. -/
def RankSt (B : Nat) (w0 : World) (r : List Thing) (O : List Nat) (x : Nat → Nat × Nat) (en : Ending) (w' : World) : Prop :=
  ∃ (g : Nat) (R : List Nat), en = .returned (.tuple #[.slice (some ⟨g, 0, none⟩) R.length R.length, .int .i64 (kd x O.length : Int)]) ∧ Ranks O x O.length R ∧ St B w0 w' (numsT 3 g R.length R :: r)

section
variable {B : Nat} {w0 w : World} {r : List Thing}

set_option maxRecDepth 100000 in
set_option maxHeartbeats 4000000 in
/-- ranked: the ranks of places that stand in the order of their pairs. -/
theorem ranked_st (st : St B w0 w r) (v : Value) (O : List Nat) (hv : ∀ W, St B w0 W r → NumRow W v O) (hO : O.length ≤ 1000000) (hm : ∀ p ∈ O, p < O.length) (hd : O.Nodup) (G : Nat) (caps : Array Value) (a c : Nat → Nat)
    (hent : ∀ (args : Array Value) (w : World), (callFunc G args).run Try.prog w = .ok (.enter G args) w)
    (hpair : ∀ W, St B w0 W r → ∀ p, p < O.length → Calls Try.prog G (#[.int .i64 (p : Int)] ++ caps) W fun e w' => e = .returned (.agg #[.int .i64 (a p : Int), .int .i64 (c p : Int)]) ∧ Below W.heap.size W w') :
    Calls Try.prog 30 #[v, .func (.func G) #[] caps] w (RankSt B w0 r O (pairs O a c)) := by
  obtain ⟨i0, hi, hz0, hz1, hz2⟩ := info_parts infoI
  obtain ⟨n, hn⟩ : ∃ n, O.length = n := ⟨_, rfl⟩
  obtain ⟨x, hx⟩ : ∃ x, pairs O a c = x := ⟨_, rfl⟩
  have hxat : ∀ k, x k = (a (nth O k), c (nth O k)) := fun k => by rw [← hx]; rfl
  obtain ⟨N, hN⟩ : ∃ N, n + 1 = N := ⟨_, rfl⟩
  have hnN : (n : Int) + 1 = (N : Int) := by omega
  have hmk : i0.bytes * N ≤ 281474976710656 := by rw [hz2]; omega
  have hmx : N ≤ maxLen := by unfold maxLen; omega
  obtain ⟨va, vc, rfl⟩ : ∃ a c, v = .slice a O.length c := by obtain ⟨a, c, e, _⟩ := hv w st; exact ⟨a, c, e⟩
  have hread : ∀ W, St B w0 W r → ∀ k, k < n → nth O k < n ∧ ∃ b off, va = some ⟨b, off, none⟩ ∧ W.cell? ⟨b, off + k, none⟩ = some (.int .i64 (nth O k : Int)) := by
    intro W t k h
    rw [← hn] at h
    obtain ⟨a, c, e, _, _, hat⟩ := hv W t
    obtain ⟨rfl, -, -⟩ := Value.slice.inj e
    obtain ⟨b, off, e1, e2⟩ := hat k h
    rw [nth_lt h, ← hn]
    exact ⟨hm _ (List.getElem_mem _), b, off, e1, e2⟩
  have HR := Lib.hid hread
  have hstep : ∀ k R, k < n → Ranks O x k R → Ranks O x (k + 1) (R.set (nth O k) (kd x (k + 1))) := fun k R h h' => ranks_step h' (by rw [hn]; exact h) hm hd
  have HS := Lib.hid hstep
  rw [hn] at hpair
  have HP := Lib.hid hpair
  have hkd : ∀ k, kd x k ≤ k := kd_le x
  have HKD := Lib.hid hkd
  have h0 : Ranks O x 0 (List.replicate N 0) := ⟨by rw [List.length_replicate, ← hN, hn], fun i hi => absurd hi (by omega), by unfold nth; rw [List.getD_eq_getElem?_getD, List.getElem?_replicate]; split <;> rfl⟩
  have H0 := Lib.hid h0
  have HX := Lib.hid hxat
  rw [hx]
  clear hread hv hstep hm hd hpair h0 hkd hx hxat
  rw [hn]
  have hn6 : n ≤ 1000000 := hn ▸ hO
  have HN := Lib.hid hn
  clear hn hO
  go_enter Try.func30, Try.ntmps30
  go_wp2_with (at_make; refine wpList_make_full _ rfl _ _ 23 rfl w.heap.size 3 i0 (.int .i64 0) 1 Try.underlying23 hi hz0 hz1 _ _ _ _ N rfl rfl ?_ ?_ hmk hmx (Nat.le_refl _) ?_)
  · rfl
  · rfl
  intro w1 hown hg
  have s1 := st.madeNums hown hg
  clear hown hg hmk hmx st hi hz0 hz1 hz2
  generalize w.heap.size = g at s1
  obtain ⟨ga, hga⟩ : ∃ b, w1.heap.size = b := ⟨_, rfl⟩
  have s2 := s1.newBox #[.int .i64 0, .int .i64 0] 55
  rw [hga] at s2
  go_wp2
  generalize w1.alloc (.cells #[.int .i64 0, .int .i64 0] 55) = w2 at *
  clear s1 hga
  go_loopw [5, 8, 9, 16] (fun kk _ _ i wr => ∃ (k : Nat) (R : List Nat), k ≤ n ∧ i = .int .i64 (k : Int) ∧ kk = .int .i64 (kd x k : Int) ∧ Hid (Ranks O x k R) ∧ St B w0 wr (boxT ga #[.int .i64 ((front x k).1 : Int), .int .i64 ((front x k).2 : Int)] 55 :: numsT 3 g N R :: r)) (fun _ _ _ i _ => n - (intOf i).toNat)
  case atStart => exact ⟨0, _, by omega, rfl, rfl, H0, s2⟩
  case round =>
    obtain ⟨k, R, hk, rfl, rfl, hR, s3⟩ := hrel
    clear s2 H0
    have hRl : R.length = N := by rw [hR.out.1, HN.out, hN]
    by_cases hlt : k < n
    · obtain ⟨hp, b, off, rfl, c0⟩ := HR.out wr s3.drop.drop k hlt
      have hxk := HX.out k
      have hstep := HS.out k R hlt hR.out
      have hcall := fun W t => HP.out W t (nth O k) hp
      generalize nth O k = p at *
      go_wp2_with fail
      refine (hcall _ s3.drop.drop).mono ?_
      rintro e w4 ⟨rfl, b4⟩
      have s4 := (s3.quiet b4).newBox #[.int .i64 (a p : Int), .int .i64 (c p : Int)] 55
      clear b4 s3
      obtain ⟨gb, hgb⟩ : ∃ b, w4.heap.size = b := ⟨_, rfl⟩
      rw [hgb] at s4
      obtain ⟨fa, hfa⟩ : ∃ y, front x k = y := ⟨_, rfl⟩
      rw [hfa] at s4
      obtain ⟨f1, f2⟩ := fa
      simp only at s4
      have m0 := (s4.boxAt 0).1
      have m1 := (s4.boxAt 1).1
      have k0 := (s4.swap.boxAt 0).1
      have k1 := (s4.swap.boxAt 1).1
      simp only [List.getElem?_toArray, List.getElem?_cons_zero, List.getElem?_cons_succ] at m0 m1 k0 k1
      generalize hw5 : w4.alloc (.cells #[.int .i64 (a p : Int), .int .i64 (c p : Int)] 55) = w5 at *
      have z0 := (s4.swap.boxAt 0).2
      have z1 := (s4.swap.boxAt 1).2
      have hkd := HKD.out k
      have hnx := kd_next x k
      rw [hfa, hxk] at hnx
      have hfn := front_next x k
      rw [hxk] at hfn
      by_cases hsame : (a p, c p) = (f1, f2)
      · obtain ⟨ha1, hc1⟩ := Prod.mk.inj hsame
        have heq : (Op.equalIn 10000 55 (.agg #[.int .i64 (a p : Int), .int .i64 (c p : Int)]) (.agg #[.int .i64 (f1 : Int), .int .i64 (f2 : Int)])).run Try.prog w5 = .ok true w5 := by
          rw [pairEq, ha1, hc1]; simp
        rw [if_pos hsame] at hnx
        have s5 := s4.third
        obtain ⟨d0, f0⟩ := s5.numCell p hRl (by omega)
        have s6 := s5.putNum p (kd x (k + 1))
        rw [hnx] at s6
        rw [hnx] at hstep
        rw [hsame] at hfn
        clear s4 s5 hsame hfa hxk ha1 hc1
        have HZ := Lib.hid (And.intro s6 (And.intro hstep (And.intro hnx hfn)))
        clear s6 hstep hnx hfn
        generalize R[p]'_ = y at *
        go_wp2_with fail
        go_roundw
        case rel => exact ⟨k + 1, _, by omega, by go_num, by rw [HZ.out.2.2.1], Lib.hid HZ.out.2.1, by rw [HZ.out.2.2.2]; exact HZ.out.1.third.third.drop⟩
        case measure => simp [intOf]; omega
      · have heq : (Op.equalIn 10000 55 (.agg #[.int .i64 (a p : Int), .int .i64 (c p : Int)]) (.agg #[.int .i64 (f1 : Int), .int .i64 (f2 : Int)])).run Try.prog w5 = .ok false w5 := by
          rw [pairEq]
          congr 1
          simp only [Bool.and_eq_false_iff, beq_eq_false_iff_ne, ne_eq]
          by_cases e1 : a p = f1
          · right; intro e2; exact hsame (by rw [e1]; congr 1; omega)
          · left; omega
        rw [if_neg hsame] at hnx
        have t1 := (s4.swap.setBoxAt 0 (.int .i64 (a p : Int))).setBoxAt 1 (.int .i64 (c p : Int))
        have s5 := t1.third
        obtain ⟨d0, f0⟩ := s5.numCell p hRl (by omega)
        have s6 := s5.putNum p (kd x (k + 1))
        rw [hnx] at s6
        rw [hnx] at hstep
        clear s4 s5 t1 hsame hfa hxk
        have HZ := Lib.hid (And.intro s6 (And.intro hstep (And.intro hnx hfn)))
        clear s6 hstep hnx hfn
        generalize R[p]'_ = y at *
        have hq6 : kd x k ≤ 1000000 := by omega
        clear hkd
        generalize kd x k = q at *
        go_wp2_with fail
        go_roundw
        case rel => exact ⟨k + 1, _, by omega, by go_num, by rw [HZ.out.2.2.1]; rfl, Lib.hid HZ.out.2.1, by rw [HZ.out.2.2.2]; exact HZ.out.1.third.drop.swap⟩
        case measure => simp [intOf]; omega
    · obtain rfl : n = k := by omega
      have hl : O.length = n := HN.out
      go_wp2_with fail
      refine bodyPost_ret (results_tmp2 rfl _ _ _) rfl ?_
      refine ⟨g, R, ?_, ?_, ?_⟩
      · rw [hRl, hl]; rfl
      · rw [hl]; exact hR.out
      · rw [hRl]; exact s3.drop

end
end Go.Proofs.Ytfifkbadniekfaa.Suf
