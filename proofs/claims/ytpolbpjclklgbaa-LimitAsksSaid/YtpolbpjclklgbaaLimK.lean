/-
  pressworkref05.Least: the least cost, level by level. No conditions but those of its numbers.
-/
import Derived.Test.YtpolbpjclklgbaaLimE
import Derived.Test.YtpolbpjclklgbaaLimG
import Derived.Test.YtpolbpjclklgbaaLimN
namespace Go.Proofs.Ytpolbpjclklgbaa
open Go.RowKit Limit

theorem wpList_append_line {ops : Array Oper} {rest : List Oper} {o : Oper} {a : Act} {Q : Exit → Act → World → Prop} {B : Nat} {w0 w : World} {r : List Thing} (hgd : o.guard = none) (s x : Operand)
    (ho : o.op = .call { callee := .builtin .append, args := #[s, x], argTypes := #[48, 48] })
    {v u : Value} {R : List (List Nat)} {xs : List Nat} {n : Nat} (hn : xs.length = n) (st : St B w0 w (rowT 3 1 u n (i64s xs) :: tabT v R :: r)) (hs : a.eval s = v)
    (hx : a.eval x = .slice (some ⟨w.heap.size, 0, none⟩) 1 1) (hl : R.length ≤ 1000000)
    (K : ∀ v' w', St B w0 w' (tabT v' (R ++ [xs]) :: r) → wpList Try.prog ops Q rest (a.put o.dst v') w') : wpList Try.prog ops Q (o :: rest) a (w.alloc (.cells #[u] 24)) := by
  subst hn
  exact wpList_append_tab hgd s x ho st hs hx hl K

end Go.Proofs.Ytpolbpjclklgbaa
namespace Go.Proofs.Ytpolbpjclklgbaa.Limit
open Go.RowKit

/-- What is at m and behind it; ahead of it zeros. -/
def backTo (xs : List Nat) (m : Nat) : List Nat := List.replicate m 0 ++ xs.drop m

theorem backTo_length {xs : List Nat} {m : Nat} (h : m ≤ xs.length) : (backTo xs m).length = xs.length := by
  unfold backTo; rw [List.length_append, List.length_replicate, List.length_drop]; omega

theorem backTo_set {xs : List Nat} {m : Nat} (h : m < xs.length) : (backTo xs (m + 1)).set m (nth xs m) = backTo xs m := by
  unfold backTo
  rw [List.drop_eq_getElem_cons h, List.replicate_succ', List.append_assoc, List.set_append, if_neg (by simp), List.length_replicate, Nat.sub_self, nth_lt h]
  rfl

theorem backTo_get {xs : List Nat} {m q : Nat} (h : m ≤ q) (hq : q < xs.length) : nth (backTo xs m) q = nth xs q := by
  rw [nth_lt (by rw [backTo_length (by omega)]; exact hq), nth_lt hq]
  unfold backTo
  rw [List.getElem_append_right (by simpa using h), List.getElem_drop]
  congr 1
  simp
  omega

/-- The sums of what is left. -/
def sumsOf (W : List Nat) : List Nat := (List.range (W.length + 1)).map fun q => (W.drop q).sum

theorem sumsOf_length (W : List Nat) : (sumsOf W).length = W.length + 1 := by simp [sumsOf]
theorem sumsOf_at (W : List Nat) {q : Nat} (h : q ≤ W.length) : nth (sumsOf W) q = (W.drop q).sum := by
  rw [nth_lt (by rw [sumsOf_length]; omega)]; simp [sumsOf]
theorem sumsOf_step (W : List Nat) {q : Nat} (h : q < W.length) : nth (sumsOf W) q = nth (sumsOf W) (q + 1) + nth W q := by
  rw [sumsOf_at W (by omega), sumsOf_at W (by omega), List.drop_eq_getElem_cons h, List.sum_cons, nth_lt h, Nat.add_comm]
theorem sumsOf_le (W : List Nat) {q : Nat} (h : q ≤ W.length) : nth (sumsOf W) q ≤ W.sum := by
  rw [sumsOf_at W h]
  have := sum_parts W q
  omega
theorem sumsOf_start (W : List Nat) : backTo (sumsOf W) W.length = List.replicate (W.length + 1) 0 := by
  unfold backTo
  have e : (sumsOf W).drop W.length = [0] := by
    rw [List.drop_eq_getElem_cons (by rw [sumsOf_length]; omega), ← nth_lt, sumsOf_at W (Nat.le_refl _), List.drop_length, List.drop_of_length_le (by rw [sumsOf_length]; exact Nat.le_refl _)]
    rfl
  rw [e, List.replicate_succ']

def gOf (n : Nat) : Nat → List Nat → Nat → Nat
  | 0 => fun _ _ => none_
  | d + 1 => table n d

theorem table_place (n d : Nat) : table n d = onePlace n (gOf n d) (decide (d = 0)) := by cases d <;> rfl

def lineOf (W : List Nat) (n d k : Nat) : List Nat := (List.range (n + 2)).map fun o => table n d (W.drop k) o
def tabOf (W : List Nat) (n d : Nat) : List (List Nat) := (List.range (n + 1)).map fun k => lineOf W n d k
def tabs (W : List Nat) (n : Nat) : Nat → List (List Nat)
  | 0 => []
  | d + 1 => tabOf W n d

theorem lineOf_length (W : List Nat) (n d k : Nat) : (lineOf W n d k).length = n + 2 := by simp [lineOf]
theorem lineOf_at (W : List Nat) (n d k o : Nat) (h : o ≤ n + 1) : nth (lineOf W n d k) o = table n d (W.drop k) o := by
  rw [nth_lt (by rw [lineOf_length]; omega)]; simp [lineOf]
theorem tabOf_length (W : List Nat) (n d : Nat) : (tabOf W n d).length = n + 1 := by simp [tabOf]
theorem tabOf_at (W : List Nat) (n d k : Nat) (h : k ≤ n) : (tabOf W n d)[k]? = some (lineOf W n d k) := by
  simp [tabOf, show k < n + 1 by omega]
theorem tabOf_take (W : List Nat) (n d k : Nat) (h : k ≤ n) : (tabOf W n d).take (k + 1) = (tabOf W n d).take k ++ [lineOf W n d k] := by
  rw [List.take_add_one, tabOf_at W n d k h]; rfl

theorem below_of {w : World} {v : Value} {W : List Nat} {n d : Nat} (h : TabRow w v (tabs W n d)) (hd : decide (d = 0) = false) : Below1 w v n W (gOf n d) := by
  cases d with
  | zero => simp at hd
  | succ d => exact ⟨_, h, tabOf_length W n d, fun k hk => ⟨_, tabOf_at W n d k hk, lineOf_length _ _ _ _, fun o ho => lineOf_at _ _ _ _ _ ho⟩⟩

theorem fall_st {B : Nat} {w0 w : World} {r : List Thing} (st : St B w0 w r) (v : Value) (F : List Nat) (h : NumRow w v F) (hn : F.length ≤ 2000) :
    Calls Try.prog 19 #[v] w fun e w' => ∃ u, e = .returned u ∧ St B w0 w' (rowT 3 1 u (falling F).length (i64s (falling F)) :: r) := by
  refine (fall_any w v F h hn).mono ?_
  rintro e w' ⟨u, h1, h2⟩
  obtain ⟨S1, g1, g2, _⟩ := h2.sep
  exact ⟨u, h1, st.add (h2.below (Nat.le_refl _)) g1 g2⟩

set_option maxRecDepth 100000 in
set_option maxHeartbeats 2000000 in
theorem least_any (w : World) (v : Value) (F : List Nat) (L : Nat) (h : NumRow w v F) (hF : ∀ f ∈ F, f ≤ 1099511627776) (hn : F.length ≤ 40) (hL : 1 ≤ L ∧ L ≤ 17) (h2 : 2 ≤ (pos F).length) (hfew : (pos F).length ≤ 2 ^ L) :
    Calls Try.prog 10 #[v, .int .i64 (L : Int)] w fun e w' => e = .returned (.int .i64 (cost F (lengths F (rare F) L) : Int)) ∧ Below w.heap.size w w' := by
  have hfall := fall_st (St.start w) v F h (by omega)
  have hr := rare_is F
  have hlen : (falling F).length = (rare F).length := by unfold falling; simp
  have hrl := pos_perm_length hr
  have hcb : cost F (lengths F (rare F) L) ≤ 40 * 562949953421312 := by
    have h1 := cost_le F (lengths F (rare F) L) (fun f hf => by have := hF f hf; omega) (lengths_bytes F (rare F) L hr hL hfew) (lengths_length _ _ _) F.length (Nat.le_refl _)
    exact Nat.le_trans h1 (Nat.mul_le_mul_right _ hn)
  have hcost : table (falling F).length (L - 1) (falling F) 2 = cost F (lengths F (rare F) L) := by
    obtain ⟨d, rfl⟩ : ∃ d, L = d + 1 := ⟨L - 1, by omega⟩
    rw [Nat.add_sub_cancel]
    exact table_cost hr (by omega) (by omega) (by omega) (by unfold none_; omega)
  have hsum : (falling F).sum ≤ 40 * 1099511627776 := by
    have hp : (falling F).Perm (pos F) := (List.reverse_perm _).trans hr.weights
    rw [hp.sum_nat]
    have h1 := sum_le_of (pos F) id 1099511627776 (fun x hx => hF x (List.mem_filter.1 hx).1)
    rw [List.map_id] at h1
    exact Nat.le_trans h1 (Nat.mul_le_mul_right _ (Nat.le_trans (List.length_filter_le _ _) hn))
  have hn2 : 2 ≤ (falling F).length ∧ (falling F).length ≤ 40 := ⟨by omega, by rw [hlen, hrl]; exact Nat.le_trans (List.length_filter_le _ _) hn⟩
  generalize cost F (lengths F (rare F) L) = C at *
  generalize falling F = W at *
  obtain ⟨n, hWn⟩ : ∃ n, W.length = n := ⟨_, rfl⟩
  rw [hWn] at hfall hn2 hcost
  have HW := Lib.hid hWn
  have HC := Lib.hid (And.intro hcost hcb)
  have HSUM := Lib.hid hsum
  clear hr hlen hrl hcb hcost hsum h2 hfew hF hn hWn h
  go_enter Try.func10, Try.ntmps10
  go_wp2_with fail
  refine hfall.mono ?_
  rintro e w1 ⟨u, rfl, s1⟩
  clear hfall
  obtain ⟨gl, cl, rfl, hcl⟩ := s1.rowShape (by omega)
  obtain ⟨i0, hi, hz0, hz1, hz2⟩ := info_parts infoI
  have hmk : i0.bytes * (n + 1) ≤ 281474976710656 := by rw [hz2]; omega
  have hmx : n + 1 ≤ maxLen := by unfold maxLen; omega
  go_wp2_with (at_make; refine wpList_make_full _ rfl _ _ 24 rfl w1.heap.size 3 i0 (.int .i64 0) 1 Try.underlying24 hi hz0 hz1 _ _ _ _ (n + 1) rfl rfl ?_ ?_ hmk hmx (Nat.le_refl _) ?_)
  · rfl
  · rfl
  intro w2 hown hg
  have s2 := s1.madeNums hown hg
  have e2 : List.replicate (n + 1) 0 = backTo (sumsOf W) n := by
    have := sumsOf_start W
    rw [HW.out] at this
    exact this.symm
  rw [e2] at s2
  clear hown hg e2 s1
  generalize w1.heap.size = g at s2
  go_wp2
  go_loopw [8] (fun kv wr => ∃ m : Nat, m ≤ n ∧ kv = .int .i64 ((m : Int) - 1) ∧ St w.heap.size w wr (numsT 3 g (n + 1) (backTo (sumsOf W) m) :: rowT 3 1 (.slice (some ⟨gl, 0, none⟩) n cl) n (i64s W) :: [])) (fun kv _ => (intOf kv + 1).toNat)
  case atStart => exact ⟨n, Nat.le_refl _, rfl, s2⟩
  case round =>
    obtain ⟨m, hm, rfl, t1⟩ := hrel
    clear s2
    by_cases hm0 : 0 < m
    · obtain ⟨q, hq, rfl⟩ : ∃ q : Nat, (m : Int) - 1 = (q : Int) ∧ m = q + 1 := ⟨m - 1, by omega, by omega⟩
      rw [hq]
      have hqn : q < n := by omega
      have hWl := HW.out
      have hsl := sumsOf_length W
      have c1 : wr.cell? ⟨g, q + 1, none⟩ = some (.int .i64 (nth (sumsOf W) (q + 1) : Int)) := by
        have hb := backTo_length (xs := sumsOf W) (m := q + 1) (by omega)
        rw [t1.row.cellAt (q + 1) (by omega), i64s_get _ _ (by omega), ← nth_lt, backTo_get (Nat.le_refl _) (by omega)]
      have c2 : wr.cell? ⟨gl, q, none⟩ = some (.int .i64 (nth W q : Int)) := by
        rw [t1.swap.row.cellAt q (by omega), i64s_get _ _ (by omega), nth_lt (by omega)]
      obtain ⟨d0, f0⟩ := t1.numCell q (by rw [backTo_length (by omega)]; omega) (by omega)
      have hstep := sumsOf_step W (q := q) (by omega)
      have b1 := sumsOf_le W (q := q) (by omega)
      have t2 := t1.putNum q (nth (sumsOf W) q)
      rw [backTo_set (by omega)] at t2
      have hs := HSUM.out
      generalize (backTo (sumsOf W) (q + 1))[q]'_ = z at d0
      generalize nth (sumsOf W) (q + 1) = a1 at *
      generalize nth W q = a2 at *
      rw [hstep] at t2 b1
      obtain ⟨y, hy, hye⟩ : ∃ y : Nat, (a1 : Int) + (a2 : Int) = (y : Int) ∧ a1 + a2 = y := ⟨a1 + a2, by omega, rfl⟩
      rw [hye] at t2 b1
      have hyb : y ≤ 43980465111040 := by omega
      clear hye b1 hs
      have T2 := Lib.hid t2
      have HSL := Lib.hid hsl
      clear t1 t2 hstep hWl hsl hq hm
      go_wp2
      go_region
      all_goals go_wp2
      exact ⟨⟨q, by omega, by go_num, T2.out.drew⟩, by first | (simp [intOf]; done) | (simp [intOf]; omega)⟩
    · obtain rfl : m = 0 := by omega
      have t1 : St w.heap.size w wr (numsT 3 g (n + 1) (sumsOf W) :: rowT 3 1 (.slice (some ⟨gl, 0, none⟩) n cl) n (i64s W) :: []) := by
        have e : backTo (sumsOf W) 0 = sumsOf W := by simp [backTo]
        rwa [e] at t1
      have t2 : St w.heap.size w wr (tabT (.slice none 0 0) (tabs W n 0) :: numsT 3 g (n + 1) (sumsOf W) :: rowT 3 1 (.slice (some ⟨gl, 0, none⟩) n cl) n (i64s W) :: []) := t1.noTab
      clear t1 hm hm0
      rw [show ((0 : Nat) : Int) - 1 = -1 from rfl]
      go_wp2
      go_loopw [9, 10] (fun bv dv wr => ∃ d : Nat, d ≤ L ∧ dv = .int .i64 ((L : Int) - (d : Int)) ∧ St w.heap.size w wr (tabT bv (tabs W n d) :: numsT 3 g (n + 1) (sumsOf W) :: rowT 3 1 (.slice (some ⟨gl, 0, none⟩) n cl) n (i64s W) :: [])) (fun _ dv _ => (intOf dv).toNat)
      case atStart => exact ⟨0, Nat.zero_le _, by simp, t2⟩
      case round =>
        obtain ⟨d, hd, rfl, t3⟩ := hrel
        clear t2
        by_cases hdL : d < L
        · obtain ⟨dd, hdd, hdde⟩ : ∃ dd : Nat, (L : Int) - (d : Int) = (dd : Int) ∧ dd + d = L := ⟨L - d, by omega, by omega⟩
          rw [hdd]
          have hdd1 : 1 ≤ dd := by omega
          have hdt : decide (1 ≤ (dd : Int)) = true := by simp; omega
          go_wp2
          go_loopw [11, 12] (fun tv kv wx => ∃ k : Nat, k ≤ n + 1 ∧ kv = .int .i64 (k : Int) ∧ St w.heap.size w wx (tabT tv ((tabOf W n d).take k) :: tabT (u9) (tabs W n d) :: numsT 3 g (n + 1) (sumsOf W) :: rowT 3 1 (.slice (some ⟨gl, 0, none⟩) n cl) n (i64s W) :: [])) (fun _ kv _ => n + 1 - (intOf kv).toNat)
          case atStart => exact ⟨0, Nat.zero_le _, rfl, t3.noTab⟩
          case round =>
            obtain ⟨k, hk, rfl, t4⟩ := hrel
            by_cases hkn : k ≤ n
            · have hmk2 : i0.bytes * (n + 2) ≤ 281474976710656 := by rw [hz2]; omega
              have hmx2 : n + 2 ≤ maxLen := by unfold maxLen; omega
              go_wp2_with (at_make; refine wpList_make_full _ rfl _ _ 24 rfl wr.heap.size 3 i0 (.int .i64 0) 1 Try.underlying24 hi hz0 hz1 _ _ _ _ (n + 2) rfl rfl ?_ ?_ hmk2 hmx2 (Nat.le_refl _) ?_)
              · rfl
              · rfl
              intro w3 hown hg
              have t5 := t4.madeNums hown hg
              have e2 : List.replicate (n + 2) 0 = laidTo (lineOf W n d k) 0 := by rw [laidTo_zero, lineOf_length]
              rw [e2] at t5
              clear hown hg e2 t4
              generalize wr.heap.size = g2 at t5
              go_wp2
              go_loopw [14] (fun ov wy => ∃ o : Nat, o ≤ n + 2 ∧ ov = .int .i64 (o : Int) ∧ St w.heap.size w wy (numsT 3 g2 (n + 2) (laidTo (lineOf W n d k) o) :: tabT u11 ((tabOf W n d).take k) :: tabT u9 (tabs W n d) :: numsT 3 g (n + 1) (sumsOf W) :: rowT 3 1 (.slice (some ⟨gl, 0, none⟩) n cl) n (i64s W) :: [])) (fun ov _ => n + 2 - (intOf ov).toNat)
              case atStart => exact ⟨0, Nat.zero_le _, rfl, t5⟩
              case round =>
                obtain ⟨o, ho, rfl, t6⟩ := hrel
                clear t5
                by_cases hon : o ≤ n + 1
                · have hone := one_any wr u9 (.slice (some ⟨g, 0, none⟩) (n + 1) (n + 1)) W (sumsOf W) n k o (decide (d = 0)) (gOf n d) HW.out (by omega) hkn hon (numRow_any' t6.fourth.row (by rw [sumsOf_length, HW.out])) (by rw [sumsOf_length, HW.out]) (fun q hq => sumsOf_at W (by rw [HW.out]; exact hq)) (by have := HSUM.out; omega) (fun hd0 => below_of t6.third.tabRow hd0)
                  rw [← table_place] at hone
                  have hset := laidTo_set (lineOf W n d k) o (by rw [lineOf_length]; omega)
                  rw [← nth_lt, lineOf_at W n d k o hon] at hset
                  obtain ⟨d0, f0⟩ := t6.numCell o (by rw [laidTo_length, lineOf_length]) (by omega)
                  have t7 := t6.putNum o (table n d (W.drop k) o)
                  rw [hset] at t7
                  obtain ⟨lb, hlb⟩ : ∃ lb, decide (d = 0) = lb := ⟨_, rfl⟩
                  rw [hlb] at hone
                  have hqb : ((dd : Int) == (L : Int)) = lb := by rw [← hlb, Bool.eq_iff_iff]; simp; omega
                  generalize table n d (W.drop k) o = y at *
                  generalize (laidTo (lineOf W n d k) o)[o]'_ = z at d0
                  have T7 := Lib.hid t7
                  have HO := Lib.hid hone
                  clear t7 t6 hset hlb hone
                  go_wp2_with (go_at_call 20; refine HO.out.mono ?_; rintro e w' ⟨rfl, rfl⟩)
                  exact ⟨⟨o + 1, by omega, by go_num, T7.out⟩, by simp [intOf]; omega⟩
                · obtain rfl : o = n + 2 := by omega
                  have e := laidTo_all (lineOf W n d k)
                  rw [lineOf_length] at e
                  rw [e] at t6
                  go_wp2_with (at_builtin; refine wpList_append_line rfl _ _ rfl (lineOf_length W n d k) t6 rfl rfl (by rw [List.length_take, tabOf_length]; omega) ?_)
                  intro v4 w4 t8
                  rw [← tabOf_take W n d k hkn] at t8
                  go_wp2
                  go_roundw
                  case rel => exact ⟨k + 1, by omega, by go_num, t8⟩
                  case measure => simp [intOf]; omega
            · obtain rfl : k = n + 1 := by omega
              have e : (tabOf W n d).take (n + 1) = tabs W n (d + 1) := List.take_of_length_le (by rw [tabOf_length]; exact Nat.le_refl _)
              rw [e] at t4
              have t5 := t4.swap.drop
              clear t3 t4
              go_wp2
              exact ⟨⟨d + 1, by omega, by congr 1; omega, t5⟩, by simp [intOf]; omega⟩
        · obtain ⟨d', rfl⟩ : ∃ d', d = d' + 1 := ⟨d - 1, by omega⟩
          have hLd : L = d' + 1 := by omega
          obtain ⟨a, cap, rfl, -, hat⟩ := t3.tabRow
          obtain ⟨b, off, u, rfl, cu, hu⟩ := hat 0 (by show 0 < (tabOf W n d').length; rw [tabOf_length]; omega)
          have e0 : (tabs W n (d' + 1))[0]'(by show 0 < (tabOf W n d').length; rw [tabOf_length]; omega) = lineOf W n d' 0 := (List.getElem?_eq_some_iff.1 (tabOf_at W n d' 0 (by omega))).2
          rw [e0] at hu
          obtain ⟨b2, off2, c2, rfl, cq⟩ := numCell hu 2 (by rw [lineOf_length]; omega)
          have ht := HC.out
          rw [lineOf_at W n d' 0 2 (by omega), List.drop_zero, show d' = L - 1 by omega, ht.1] at cq
          rw [Nat.add_zero] at cu
          have hl1 : (tabs W n (d' + 1)).length = n + 1 := tabOf_length W n d'
          have hl2 : (lineOf W n d' 0).length = n + 2 := lineOf_length W n d' 0
          rw [hl2] at cu
          have T3 := Lib.hid (t3.below (Nat.le_refl _))
          clear t3 hat hu e0
          rw [hl1]
          obtain ⟨Y, hY, hYe⟩ : ∃ Y : Int, (C : Int) = Y ∧ Y = (C : Int) := ⟨_, rfl, rfl⟩
          rw [hY] at cq
          have hY1 : Y < 4611686018427387904 := by omega
          have HY := Lib.hid hY
          clear hY hYe ht HC hl1 hl2 hLd
          have hn1 : ¬ n < 2 := by omega
          go_wp2
          go_ret
          exact ⟨by rw [HY.out]; rfl, T3.out⟩

end Go.Proofs.Ytpolbpjclklgbaa.Limit
