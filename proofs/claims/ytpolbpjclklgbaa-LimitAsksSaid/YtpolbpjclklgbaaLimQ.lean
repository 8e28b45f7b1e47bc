/-
  Plain facts for layer 5: lengths out of counts are a choice, of the least cost; symbols in falling rareness. No program. No conditions.
-/
import Derived.Test.YtpolbpjclklgbaaLimP
namespace Go.Proofs.Ytpolbpjclklgbaa.Limit
open Go.Proofs.Ytpolbpjclklgbaa.Kraft

theorem valL_snoc (r : List Nat) (x : Nat) : valL (r ++ [x]) = 2 * valL r + x := by
  induction r with
  | nil => simp [valL]
  | cons c r ih =>
    rw [List.cons_append, valL, valL, ih, List.length_append, List.length_singleton, Nat.pow_succ]
    generalize 2 ^ r.length = z
    rw [Nat.mul_add, ← Nat.mul_assoc, Nat.mul_comm (c * z) 2]
    omega

/-- Counts: of each length from 1 to L, how many are no less. -/
def cols (O : List Nat) (L : Nat) : List Nat := (List.range L).map fun k => lenAt O k

theorem cols_length (O : List Nat) (L : Nat) : (cols O L).length = L := by simp [cols]

theorem cols_succ (O : List Nat) (L : Nat) : cols O (L + 1) = cols O L ++ [lenAt O L] := by simp [cols, List.range_succ]

theorem cols_val (O : List Nat) (L : Nat) : valL (cols O L) + (O.map fun o => 2 ^ (L - o)).sum = O.length * 2 ^ L := by
  induction O with
  | nil =>
    have : ∀ L, valL (cols [] L) = 0 := fun L => by
      induction L with
      | zero => rfl
      | succ L ih => rw [cols_succ, valL_snoc, ih]; rfl
    simp [this]
  | cons x O ih =>
    have : ∀ L, valL (cols (x :: O) L) + 2 ^ (L - x) = valL (cols O L) + 2 ^ L := fun L => by
      induction L with
      | zero => simp [cols, valL]
      | succ L ih =>
        rw [cols_succ, valL_snoc, cols_succ, valL_snoc, lenAt_cons]
        by_cases h : L < x
        · rw [show L - x = 0 from by omega] at ih
          rw [if_pos h, show L + 1 - x = 0 from by omega, Nat.pow_succ]
          omega
        · rw [if_neg h, show L + 1 - x = (L - x) + 1 from by omega, Nat.pow_succ, Nat.pow_succ]
          omega
    have := this L
    rw [List.map_cons, List.sum_cons, List.length_cons, Nat.succ_mul]
    omega

/-- The least numbers weigh no more than any as many. -/
theorem least_sum (X : List Nat) (hX : X.Pairwise (· ≤ ·)) (s r : List Nat) (h : X.Perm (s ++ r)) : (X.take s.length).sum ≤ s.sum := by
  induction X generalizing s r with
  | nil => simp
  | cons x X ih =>
    obtain ⟨h1, h2⟩ := List.pairwise_cons.1 hX
    have hx : x ∈ s ++ r := h.mem_iff.1 (by simp)
    rcases List.mem_append.1 hx with hs | hr
    · have p := List.perm_cons_erase hs
      have h3 : X.Perm (s.erase x ++ r) := (h.trans (p.append_right r)).cons_inv
      have h4 := ih h2 _ _ h3
      have h5 := p.sum_nat
      have h6 := p.length_eq
      rw [List.length_cons] at h6
      rw [List.sum_cons] at h5
      rw [h6, List.take_succ_cons, List.sum_cons]
      omega
    · cases s with
      | nil => simp
      | cons y s =>
        have p := List.perm_cons_erase hr
        have h3 : (x :: X).Perm (x :: (y :: s ++ r.erase x)) := (h.trans (p.append_left _)).trans List.perm_middle
        have h4 : X.Perm (s ++ (y :: r.erase x)) := h3.cons_inv.trans (by rw [List.cons_append]; exact List.perm_middle.symm)
        have h5 := ih h2 _ _ h4
        have hy : x ≤ y := by
          have : y ∈ x :: X := h.mem_iff.2 (by simp)
          rcases List.mem_cons.1 this with rfl | h6
          · exact Nat.le_refl _
          · exact h1 y h6
        rw [List.length_cons, List.take_succ_cons, List.sum_cons, List.sum_cons]
        omega

theorem sumTo_take (X : List Nat) (c : Nat) : sumTo (nth X) c = (X.take c).sum := by
  induction c with
  | zero => rfl
  | succ c ih =>
    rw [sumTo, ih]
    by_cases h : c < X.length
    · rw [List.take_succ_eq_append_getElem h, List.sum_append, nth_lt h]; simp
    · rw [nth_ge (by omega), List.take_of_length_le (by omega), List.take_of_length_le (by omega)]; rfl

theorem up_pairwise {X : List Nat} : Up X ↔ X.Pairwise (· ≤ ·) := by
  rw [List.pairwise_iff_getElem]
  constructor
  · intro h i j hi hj hij
    have := h i j (by omega) hj
    rwa [nth_lt hi, nth_lt hj] at this
  · intro h i j hij hj
    by_cases e : i = j
    · subst e; exact Nat.le_refl _
    · have := h i j (by omega) hj (by omega)
      rwa [← nth_lt (by omega), ← nth_lt hj] at this

/-- What lengths cost, of frequencies. -/
def cost (F O : List Nat) : Nat := sumTo (fun i => nth F i * nth O i) F.length

theorem cost_cons (f o : Nat) (F O : List Nat) : cost (f :: F) (o :: O) = f * o + cost F O := by
  unfold cost
  rw [List.length_cons, Nat.add_comm F.length 1, sumTo_split]
  have : sumTo (fun j => nth (f :: F) (1 + j) * nth (o :: O) (1 + j)) F.length = sumTo (fun i => nth F i * nth O i) F.length := sumTo_congr fun i _ => by
    rw [Nat.add_comm 1 i]; rfl
  rw [this]
  simp [sumTo, nth]

/-- The frequencies of those whose length is above k. -/
def above : List Nat → List Nat → Nat → List Nat
  | f :: F, o :: O, k => if k < o then f :: above F O k else above F O k
  | _, _, _ => []

theorem above_cost (F O : List Nat) (L : Nat) (hl : F.length = O.length) (hO : ∀ o ∈ O, o ≤ L) : sumTo (fun k => (above F O k).sum) L = cost F O := by
  induction F generalizing O with
  | nil => simp only [above, List.sum_nil]; exact sumTo_zero fun _ _ => rfl
  | cons f F ih =>
    cases O with
    | nil => simp at hl
    | cons o O =>
      rw [cost_cons, ← ih O (by simpa using hl) (fun x hx => hO x (by simp [hx]))]
      have e : sumTo (fun k => (above (f :: F) (o :: O) k).sum) L = sumTo (fun k => (if k < o then f else 0) + (above F O k).sum) L := sumTo_congr fun k _ => by
        rw [above]; split <;> simp
      rw [e, sumTo_add]
      obtain ⟨d, hd⟩ : ∃ d, L = o + d := ⟨L - o, by have := hO o (by simp); omega⟩
      rw [hd, sumTo_split (fun k => if k < o then f else 0)]
      have e2 : sumTo (fun k => if k < o then f else 0) o = sumTo (fun _ => f) o := sumTo_congr fun p hp => by rw [if_pos hp]
      have e3 : sumTo (fun j => if o + j < o then f else 0) d = 0 := sumTo_zero fun p hp => by rw [if_neg (by omega)]
      rw [e2, e3, sumTo_const, Nat.mul_comm f o]; omega

theorem above_length (F O : List Nat) (k : Nat) (hl : F.length = O.length) : (above F O k).length = lenAt O k := by
  induction F generalizing O with
  | nil => cases O with
    | nil => rfl
    | cons o O => simp at hl
  | cons f F ih =>
    cases O with
    | nil => simp at hl
    | cons o O =>
      rw [above, lenAt_cons, ← ih O (by simpa using hl)]
      split <;> simp

/-- The frequencies above 0. -/
def pos (F : List Nat) : List Nat := F.filter fun f => decide (0 < f)

theorem above_sub (F O : List Nat) (k : Nat) (h : ∀ i, i < O.length → 0 < nth O i → 0 < nth F i) : (above F O k).Sublist (pos F) := by
  induction F generalizing O with
  | nil => exact List.Sublist.refl _
  | cons f F ih =>
    cases O with
    | nil => exact List.nil_sublist _
    | cons o O =>
      have h1 := ih O (fun i hi ho => h (i + 1) (by simpa using hi) ho)
      rw [above]
      unfold pos
      by_cases hk : k < o
      · have : 0 < f := h 0 (by simp) (by show 0 < o; omega)
        rw [if_pos hk, List.filter_cons_of_pos (by simpa using this)]
        exact h1.cons_cons _
      · rw [if_neg hk]
        by_cases hf : 0 < f
        · rw [List.filter_cons_of_pos (by simpa using hf)]
          exact h1.cons _
        · rw [List.filter_cons_of_neg (by simpa using hf)]
          exact h1

theorem sublist_perm {s X : List Nat} (h : s.Sublist X) : ∃ r, X.Perm (s ++ r) := by
  induction h with
  | slnil => exact ⟨[], .refl _⟩
  | cons a _ ih => obtain ⟨r, hr⟩ := ih; exact ⟨a :: r, (hr.cons a).trans List.perm_middle.symm⟩
  | cons_cons a _ ih => obtain ⟨r, hr⟩ := ih; exact ⟨r, hr.cons a⟩

theorem sum_sumTo (f : Nat → Nat) (L : Nat) : ((List.range L).map f).sum = sumTo f L := by
  induction L with
  | zero => rfl
  | succ L ih => rw [List.range_succ, List.map_append, List.sum_append, ih, sumTo]; simp

/-- Whatever lengths: they cost no less than their counts over the rarest symbols. -/
theorem cost_cols {F O W : List Nat} {L : Nat} (hl : F.length = O.length) (hO : ∀ o ∈ O, o ≤ L) (h : ∀ i, i < O.length → 0 < nth O i → 0 < nth F i) (hU : Up W) (hW : W.Perm (pos F)) :
    ((cols O L).map (sumTo (nth W))).sum ≤ cost F O := by
  rw [cols, List.map_map, sum_sumTo, ← above_cost F O L hl hO]
  refine sumTo_le fun k _ => ?_
  obtain ⟨r, hr⟩ := sublist_perm (above_sub F O k h)
  have := least_sum W (up_pairwise.1 hU) _ _ (hW.trans hr)
  rw [above_length F O k hl, ← sumTo_take] at this
  exact this

/-- What lengths that are not 0 weigh, of 2 to the power of L in all. -/
def kraft (L : Nat) (O : List Nat) : Nat := sumTo (fun i => if nth O i = 0 then 0 else 2 ^ (L - nth O i)) O.length

theorem kraft_cons (L o : Nat) (O : List Nat) : kraft L (o :: O) = (if o = 0 then 0 else 2 ^ (L - o)) + kraft L O := by
  unfold kraft
  rw [List.length_cons, Nat.add_comm O.length 1, sumTo_split]
  have : sumTo (fun j => if nth (o :: O) (1 + j) = 0 then 0 else 2 ^ (L - nth (o :: O) (1 + j))) O.length = sumTo (fun i => if nth O i = 0 then 0 else 2 ^ (L - nth O i)) O.length := sumTo_congr fun i _ => by
    rw [Nat.add_comm 1 i]; rfl
  rw [this]
  simp [sumTo, nth]

theorem kraft_sum (L : Nat) (O : List Nat) : kraft L O + (O.length - (pos O).length) * 2 ^ L = (O.map fun o => 2 ^ (L - o)).sum := by
  induction O with
  | nil => simp [kraft, sumTo, pos]
  | cons o O ih =>
    have hle : (pos O).length ≤ O.length := List.length_filter_le _ _
    rw [kraft_cons, List.map_cons, List.sum_cons, ← ih]
    unfold pos at hle ⊢
    by_cases h : o = 0
    · subst h
      rw [List.filter_cons_of_neg (by simp), List.length_cons, if_pos rfl, Nat.succ_sub hle, Nat.succ_mul, Nat.sub_zero]
      omega
    · rw [List.filter_cons_of_pos (by simp; omega), List.length_cons, List.length_cons, if_neg h, show O.length + 1 - ((O.filter fun f => decide (0 < f)).length + 1) = O.length - (O.filter fun f => decide (0 < f)).length from by omega]
      omega

/-- A choice for frequencies and a limit. -/
structure Choice (F : List Nat) (L : Nat) (O : List Nat) : Prop where
  length : O.length = F.length
  some : ∀ i, i < F.length → (0 < nth O i ↔ 0 < nth F i)
  limit : ∀ i, i < F.length → nth O i ≤ L
  full : 2 ≤ (pos F).length → kraft L O = 2 ^ L
  one : (pos F).length < 2 → ∀ i, i < F.length → nth O i ≤ 1

theorem pos_length_eq {F O : List Nat} (hl : O.length = F.length) (h : ∀ i, i < F.length → (0 < nth O i ↔ 0 < nth F i)) : (pos O).length = (pos F).length := by
  induction F generalizing O with
  | nil => rw [List.eq_nil_of_length_eq_zero hl]
  | cons f F ih =>
    cases O with
    | nil => simp at hl
    | cons o O =>
      have h1 := ih (O := O) (by simpa using hl) (fun i hi => h (i + 1) (by simpa using hi))
      have h0 : 0 < o ↔ 0 < f := h 0 (by simp)
      unfold pos at h1 ⊢
      by_cases c : 0 < o
      · rw [List.filter_cons_of_pos (by simpa using c), List.filter_cons_of_pos (by simpa using h0.1 c), List.length_cons, List.length_cons, h1]
      · rw [List.filter_cons_of_neg (by simpa using c), List.filter_cons_of_neg (by simpa using fun x => c (h0.2 x)), h1]

theorem choice_cols {F O : List Nat} {L : Nat} (h : Choice F L O) (h2 : 2 ≤ (pos F).length) : 2 * valL (cols O L) = (2 * (pos F).length - 2) * 2 ^ L := by
  have h3 := cols_val O L
  have h4 := kraft_sum L O
  have h5 := h.full h2
  have h6 := pos_length_eq h.length h.some
  rw [h5, h6] at h4
  rw [← h4] at h3
  have h7 : (pos F).length ≤ O.length := by rw [← h6]; exact List.length_filter_le _ _
  obtain ⟨d, hd⟩ : ∃ d, O.length = (pos F).length + d := ⟨O.length - (pos F).length, by omega⟩
  obtain ⟨m, hm⟩ : ∃ m, (pos F).length = m + 2 := ⟨(pos F).length - 2, by omega⟩
  rw [hd, hm, show m + 2 + d - (m + 2) = d from by omega] at h3
  rw [hm, show 2 * (m + 2) - 2 = 2 * (m + 1) from by omega]
  generalize 2 ^ L = z at *
  rw [Nat.add_mul, Nat.add_mul] at h3
  rw [Nat.mul_assoc, Nat.add_mul]
  omega

theorem lenAt_pos_le (O : List Nat) (k : Nat) : lenAt O k ≤ (pos O).length := by
  unfold lenAt pos
  rw [← List.countP_eq_length_filter]
  exact List.countP_mono_left fun c _ hc => by simp at hc ⊢; omega

theorem nth_mem {O : List Nat} {o : Nat} (h : o ∈ O) : ∃ i, i < O.length ∧ nth O i = o := by
  obtain ⟨i, hi, rfl⟩ := List.getElem_of_mem h
  exact ⟨i, hi, nth_lt hi⟩

/-- THE LEAST COST: no choice costs less than the lightest 2n - 2 things of the last row. -/
theorem choice_least {F O W : List Nat} {L : Nat} (h : Choice F L O) (hU : Up W) (hW : W.Perm (pos F)) (h2 : 2 ≤ W.length) :
    2 * W.length - 2 ≤ (rows W L).length ∧ sumTo (nth (rows W L)) (2 * W.length - 2) ≤ cost F O := by
  have hn := hW.length_eq
  have h6 := pos_length_eq h.length h.some
  have h3 := choice_cols h (by omega)
  rw [← hn] at h3
  have h4 := taking_least hU (cols O L) (2 * W.length - 2) (fun c hc => by
    unfold cols at hc
    obtain ⟨k, _, rfl⟩ := List.mem_map.1 hc
    have := lenAt_pos_le O k
    omega) (by rw [cols_length]; exact h3)
  rw [cols_length] at h4
  refine ⟨h4.1, Nat.le_trans h4.2 (cost_cols h.length.symm (fun o ho => ?_) (fun i hi ho => (h.some i (by rw [← h.length]; exact hi)).1 ho) hU hW)⟩
  obtain ⟨i, hi, rfl⟩ := nth_mem ho
  exact h.limit i (by rw [← h.length]; exact hi)

/-! Symbols, the rarest first. -/

/-- The symbols whose frequency is above 0, the rarest first. -/
structure Rare (F S : List Nat) : Prop where
  perm : S.Perm ((List.range F.length).filter fun i => decide (0 < nth F i))
  up : (S.map (nth F)).Pairwise (· ≤ ·)

theorem Rare.nodup {F S : List Nat} (h : Rare F S) : S.Nodup := h.perm.nodup_iff.2 (List.Pairwise.filter _ List.nodup_range)

theorem Rare.mem {F S : List Nat} (h : Rare F S) (i : Nat) : i ∈ S ↔ i < F.length ∧ 0 < nth F i := by
  rw [h.perm.mem_iff]; simp

theorem map_nth_range (F : List Nat) : (List.range F.length).map (nth F) = F := by
  refine List.ext_getElem (by simp) fun i h1 h2 => ?_
  simp only [List.getElem_map, List.getElem_range]
  exact nth_lt h2

theorem Rare.weights {F S : List Nat} (h : Rare F S) : (S.map (nth F)).Perm (pos F) := by
  have h1 := h.perm.map (nth F)
  have h2 : ((List.range F.length).filter fun i => decide (0 < nth F i)).map (nth F) = pos F := by
    have e := map_nth_range F
    unfold pos
    conv => rhs; rw [← e]
    rw [List.filter_map]
    rfl
  rwa [h2] at h1

theorem Rare.upW {F S : List Nat} (h : Rare F S) : Up (S.map (nth F)) := up_pairwise.2 h.up

theorem Rare.posW {F S : List Nat} (h : Rare F S) (i : Nat) (hi : i < (S.map (nth F)).length) : 0 < nth (S.map (nth F)) i := by
  rw [nth_lt hi]
  have : (S.map (nth F))[i] ∈ pos F := h.weights.mem_iff.1 (List.getElem_mem hi)
  unfold pos at this
  simpa using (List.mem_filter.1 this).2

/-- What counts make of lengths: each symbol among the first n of each count n has one more. -/
def bump (l : List Nat) (s : Nat) : List Nat := l.set s (nth l s + 1)
def lensOf (S C : List Nat) (m : Nat) : List Nat := C.foldl (fun l n => (S.take n).foldl bump l) (List.replicate m 0)

theorem bump_length (l : List Nat) (s : Nat) : (bump l s).length = l.length := by simp [bump]
theorem bump_nth (l : List Nat) (s i : Nat) (hi : i < l.length) : nth (bump l s) i = nth l i + if i = s then 1 else 0 := by
  rw [nth_lt (by rw [bump_length]; exact hi)]
  unfold bump
  rw [List.getElem_set]
  by_cases e : s = i
  · subst e; simp
  · rw [if_neg e, if_neg (fun h => e h.symm), nth_lt hi]; rfl

theorem bumps_length (T l : List Nat) : (T.foldl bump l).length = l.length := by
  induction T generalizing l with
  | nil => rfl
  | cons s T ih => rw [List.foldl_cons, ih, bump_length]

theorem bumps_nth (T l : List Nat) (i : Nat) (hi : i < l.length) : nth (T.foldl bump l) i = nth l i + T.count i := by
  induction T generalizing l with
  | nil => simp
  | cons s T ih =>
    rw [List.foldl_cons, ih _ (by rw [bump_length]; exact hi), bump_nth _ _ _ hi, List.count_cons]
    by_cases e : i = s
    · subst e; simp; omega
    · have : (s == i) = false := by simpa using fun h => e h.symm
      rw [if_neg e, this]; simp

def addsTo (S l C : List Nat) : List Nat := C.foldl (fun l n => (S.take n).foldl bump l) l

theorem addsTo_length (S C l : List Nat) : (addsTo S l C).length = l.length := by
  induction C generalizing l with
  | nil => rfl
  | cons c C ih => unfold addsTo at ih ⊢; rw [List.foldl_cons, ih, bumps_length]

theorem addsTo_nth (S C l : List Nat) (i : Nat) (hi : i < l.length) : nth (addsTo S l C) i = nth l i + (C.map fun n => (S.take n).count i).sum := by
  induction C generalizing l with
  | nil => simp [addsTo]
  | cons c C ih =>
    have := ih ((S.take c).foldl bump l) (by rw [bumps_length]; exact hi)
    rw [bumps_nth _ _ _ hi] at this
    unfold addsTo at this ⊢
    rw [List.foldl_cons, this, List.map_cons, List.sum_cons]; omega

theorem lensOf_length (S C : List Nat) (m : Nat) : (lensOf S C m).length = m := by
  have := addsTo_length S C (List.replicate m 0)
  rw [List.length_replicate] at this
  exact this

theorem nth_replicate (m i : Nat) : nth (List.replicate m 0) i = 0 := by
  by_cases h : i < m
  · rw [nth_lt (by simpa using h)]; simp
  · exact nth_ge (by simp; omega)

theorem lensOf_nth (S C : List Nat) (m i : Nat) (hi : i < m) : nth (lensOf S C m) i = (C.map fun n => (S.take n).count i).sum := by
  have := addsTo_nth S C (List.replicate m 0) i (by simpa using hi)
  rw [nth_replicate, Nat.zero_add] at this
  exact this

theorem count_take {S : List Nat} (hS : S.Nodup) {p : Nat} (hp : p < S.length) (n : Nat) : (S.take n).count S[p] = if p < n then 1 else 0 := by
  by_cases h : p < n
  · rw [if_pos h]
    have hm : S[p] ∈ S.take n := by
      have : p < (S.take n).length := by simp; omega
      have e : (S.take n)[p] = S[p] := by simp
      rw [← e]; exact List.getElem_mem this
    have h1 := List.count_pos_iff.2 hm
    have h2 := List.nodup_iff_count.1 (hS.sublist (List.take_sublist n S)) S[p]
    omega
  · rw [if_neg h]
    refine List.count_eq_zero.2 fun hm => ?_
    obtain ⟨q, hq, e⟩ := List.getElem_of_mem hm
    rw [List.getElem_take] at e
    have hq' : q < S.length := by simp at hq; omega
    have := (List.getElem?_inj (j := p) hq' hS).1 (by rw [List.getElem?_eq_getElem hq', e, List.getElem?_eq_getElem hp])
    rw [List.length_take] at hq
    omega

theorem lensOf_at {S : List Nat} (hS : S.Nodup) (C : List Nat) (m : Nat) {p : Nat} (hp : p < S.length) (hm : S[p] < m) : nth (lensOf S C m) S[p] = lenAt C p := by
  rw [lensOf_nth _ _ _ _ hm]
  induction C with
  | nil => rfl
  | cons c C ih => rw [List.map_cons, List.sum_cons, ih, count_take hS hp, lenAt_cons]; omega

theorem lensOf_not {S : List Nat} (C : List Nat) (m i : Nat) (hi : i < m) (h : i ∉ S) : nth (lensOf S C m) i = 0 := by
  rw [lensOf_nth _ _ _ _ hi]
  induction C with
  | nil => rfl
  | cons c C ih =>
    rw [List.map_cons, List.sum_cons, ih, List.count_eq_zero.2 (fun hm => h (List.mem_of_mem_take hm))]

/-- A sum over the places of a row whose other places come to nothing. -/
theorem sum_over (g : Nat → Nat) (m : Nat) (q : Nat → Bool) (S : List Nat) (hS : S.Perm ((List.range m).filter q)) (h0 : ∀ i, i < m → q i = false → g i = 0) : sumTo g m = (S.map g).sum := by
  rw [(hS.map g).sum_nat, ← sum_sumTo]
  clear hS
  have : ∀ l : List Nat, (∀ i ∈ l, i < m) → (l.map g).sum = ((l.filter q).map g).sum := by
    intro l
    induction l with
    | nil => intro _; rfl
    | cons a l ih =>
      intro h
      rw [List.map_cons, List.sum_cons, ih (fun i hi => h i (by simp [hi]))]
      cases hq : q a with
      | true => rw [List.filter_cons_of_pos hq, List.map_cons, List.sum_cons]
      | false => rw [List.filter_cons_of_neg (by simp [hq]), h0 a (h a (by simp)) hq, Nat.zero_add]
  exact this _ (fun i hi => List.mem_range.1 hi)

theorem sum_places (S : List Nat) (g h : Nat → Nat) (e : ∀ p (hp : p < S.length), g S[p] = h p) : (S.map g).sum = sumTo h S.length := by
  rw [← sum_sumTo]
  congr 1
  refine List.ext_getElem (by simp) fun i h1 h2 => ?_
  simp only [List.getElem_map, List.getElem_range]
  exact e i (by simpa using h1)

/-- How many symbols each row takes, the last row first. -/
def countsOf (W : List Nat) (L : Nat) : List Nat := if W.length < 2 then [W.length] else taking W L (2 * W.length - 2)

/-- The lengths. -/
def lengths (F S : List Nat) (L : Nat) : List Nat := lensOf S (countsOf (S.map (nth F)) L) F.length

theorem rows_enough (W : List Nat) (L : Nat) (h : W.length ≤ 2 ^ L) (h2 : 2 ≤ W.length) (hL : 1 ≤ L) : 2 * W.length - 2 ≤ (rows W L).length := by
  have h1 : ∀ j, 2 ^ (j + 1) * W.length ≤ 2 ^ j * (rows W (j + 1)).length + W.length + (2 ^ j - 1) := by
    intro j
    induction j with
    | zero => rw [rows_length]; simp [rows]; omega
    | succ j ih =>
      rw [rows_length W (j + 1)]
      have hz : 0 < 2 ^ j := Nat.two_pow_pos _
      generalize (rows W (j + 1)).length = r at *
      generalize W.length = n at *
      rw [Nat.pow_succ 2 (j + 1), Nat.pow_succ]
      rw [Nat.pow_succ] at ih
      generalize 2 ^ j = z at *
      have h3 : r ≤ 2 * (r / 2) + 1 := by omega
      have h4 : z * r ≤ z * (2 * (r / 2) + 1) := Nat.mul_le_mul_left z h3
      generalize r / 2 = d at *
      rw [Nat.mul_add, Nat.mul_one, Nat.mul_left_comm] at h4
      rw [Nat.mul_add, Nat.mul_assoc z 2 d, Nat.mul_left_comm z 2 d]
      rw [Nat.mul_assoc z 2 n, Nat.mul_left_comm z 2 n] at ih
      have e1 : z * 2 * 2 * n = 4 * (z * n) := by rw [Nat.mul_assoc z 2 2, Nat.mul_comm z (2 * 2), Nat.mul_assoc]
      have e2 : z * 2 * n = 2 * (z * n) := by rw [Nat.mul_assoc z 2 n, Nat.mul_left_comm z 2 n]
      omega
  obtain ⟨j, rfl⟩ : ∃ j, L = j + 1 := ⟨L - 1, by omega⟩
  have h3 := h1 j
  have hz : 0 < 2 ^ j := Nat.two_pow_pos _
  rw [Nat.pow_succ] at h h3
  generalize (rows W (j + 1)).length = r at *
  generalize W.length = n at *
  generalize 2 ^ j = z at *
  refine Nat.le_of_not_lt fun hlt => ?_
  have h4 : z * (r + 3) ≤ z * (2 * n) := Nat.mul_le_mul_left z (by omega)
  rw [Nat.mul_add, Nat.mul_left_comm] at h4
  rw [Nat.mul_assoc z 2 n, Nat.mul_left_comm z 2 n] at h3
  omega

end Go.Proofs.Ytpolbpjclklgbaa.Limit
