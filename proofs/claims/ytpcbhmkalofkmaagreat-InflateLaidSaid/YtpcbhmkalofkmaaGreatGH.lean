/-
  LimP LimQ LimR, one behind the other (merged by wip/merge.py). No conditions but those that each states.
-/
import Derived.Test.YtpcbhmkalofkmaaGreatGD

/-
  Plain facts for layer 5: rows of things put together out of symbols and pairs, the lightest first; what the first of them weigh; that no other way costs less. No program. No conditions.
-/
namespace Go.Proofs.YtpcbhmkalofkmaaGreat.Limit
open Go.Proofs.YtpcbhmkalofkmaaGreat.Kraft

/-- The i-th, or 0. -/
def nth (X : List Nat) (i : Nat) : Nat := X.getD i 0

theorem nth_lt {X : List Nat} {i : Nat} (h : i < X.length) : nth X i = X[i] := by unfold nth; rw [List.getD_eq_getElem?_getD, List.getElem?_eq_getElem h]; rfl
theorem nth_ge {X : List Nat} {i : Nat} (h : X.length ≤ i) : nth X i = 0 := by unfold nth; rw [List.getD_eq_getElem?_getD, List.getElem?_eq_none h]; rfl

theorem sumTo_split (f : Nat → Nat) (a b : Nat) : sumTo f (a + b) = sumTo f a + sumTo (fun j => f (a + j)) b := by
  induction b with
  | zero => rfl
  | succ b ih => rw [← Nat.add_assoc, sumTo, ih, sumTo, Nat.add_assoc]

/-- Numbers that do not fall. -/
def Up (X : List Nat) : Prop := ∀ i j, i ≤ j → j < X.length → nth X i ≤ nth X j

theorem up_of {X : List Nat} (h : ∀ i, i + 1 < X.length → nth X i ≤ nth X (i + 1)) : Up X := by
  intro i j hij hj
  induction j with
  | zero => have : i = 0 := by omega
            subst this; exact Nat.le_refl _
  | succ j ih =>
    by_cases e : i = j + 1
    · subst e; exact Nat.le_refl _
    · exact Nat.le_trans (ih (by omega) (by omega)) (h j hj)

/-- Is the i-th thing the next symbol, if n symbols stand ahead? -/
def pick (X Y : List Nat) (i n : Nat) : Bool := decide (i - n = Y.length) || (decide (n < X.length) && decide (nth X n ≤ nth Y (i - n)))

/-- How many of the first i things are symbols. -/
def cnt (X Y : List Nat) : Nat → Nat
  | 0 => 0
  | i + 1 => if pick X Y i (cnt X Y i) then cnt X Y i + 1 else cnt X Y i

/-- The i-th thing. -/
def thing (X Y : List Nat) (i : Nat) : Nat := if pick X Y i (cnt X Y i) then nth X (cnt X Y i) else nth Y (i - cnt X Y i)

/-- All things. -/
def merged (X Y : List Nat) : List Nat := (List.range (X.length + Y.length)).map (thing X Y)

/-- Two and two. -/
def paired (X : List Nat) : List Nat := (List.range (X.length / 2)).map fun i => nth X (2 * i) + nth X (2 * i + 1)

theorem merged_length (X Y : List Nat) : (merged X Y).length = X.length + Y.length := by simp [merged]
theorem paired_length (X : List Nat) : (paired X).length = X.length / 2 := by simp [paired]
theorem merged_nth {X Y : List Nat} {i : Nat} (h : i < X.length + Y.length) : nth (merged X Y) i = thing X Y i := by
  rw [nth_lt (by rw [merged_length]; exact h)]; simp [merged]
theorem paired_nth {X : List Nat} {i : Nat} (h : i < X.length / 2) : nth (paired X) i = nth X (2 * i) + nth X (2 * i + 1) := by
  rw [nth_lt (by rw [paired_length]; exact h)]; simp [paired]

theorem pick_true {X Y : List Nat} {i n : Nat} (h : pick X Y i n = true) : i - n = Y.length ∨ (n < X.length ∧ nth X n ≤ nth Y (i - n)) := by
  unfold pick at h; simpa using h
theorem pick_false {X Y : List Nat} {i n : Nat} (h : pick X Y i n = false) : i - n ≠ Y.length ∧ (n < X.length → nth Y (i - n) < nth X n) := by
  unfold pick at h
  simp at h
  exact ⟨h.1, fun hn => by have := h.2 hn; omega⟩

theorem cnt_true {X Y : List Nat} {i : Nat} (h : pick X Y i (cnt X Y i) = true) : cnt X Y (i + 1) = cnt X Y i + 1 := by rw [cnt, if_pos h]
theorem cnt_false {X Y : List Nat} {i : Nat} (h : pick X Y i (cnt X Y i) = false) : cnt X Y (i + 1) = cnt X Y i := by rw [cnt, if_neg (by simp [h])]
theorem thing_true {X Y : List Nat} {i : Nat} (h : pick X Y i (cnt X Y i) = true) : thing X Y i = nth X (cnt X Y i) := by rw [thing, if_pos h]
theorem thing_false {X Y : List Nat} {i : Nat} (h : pick X Y i (cnt X Y i) = false) : thing X Y i = nth Y (i - cnt X Y i) := by rw [thing, if_neg (by simp [h])]

theorem cnt_bounds (X Y : List Nat) (i : Nat) (h : i ≤ X.length + Y.length) : cnt X Y i ≤ i ∧ cnt X Y i ≤ X.length ∧ i - cnt X Y i ≤ Y.length := by
  induction i with
  | zero => simp [cnt]
  | succ i ih =>
    obtain ⟨h1, h2, h3⟩ := ih (by omega)
    cases hp : pick X Y i (cnt X Y i) with
    | true =>
      rw [cnt_true hp]
      rcases pick_true hp with e | ⟨e, _⟩ <;> omega
    | false =>
      rw [cnt_false hp]
      have := (pick_false hp).1
      omega

theorem thing_sum (X Y : List Nat) (t : Nat) (h : t ≤ X.length + Y.length) : sumTo (thing X Y) t = sumTo (nth X) (cnt X Y t) + sumTo (nth Y) (t - cnt X Y t) := by
  induction t with
  | zero => rfl
  | succ t ih =>
    obtain ⟨h1, h2, h3⟩ := cnt_bounds X Y t (by omega)
    rw [sumTo, ih (by omega)]
    cases hp : pick X Y t (cnt X Y t) with
    | true =>
      rw [thing_true hp, cnt_true hp, sumTo, show t + 1 - (cnt X Y t + 1) = t - cnt X Y t from by omega]; omega
    | false =>
      rw [thing_false hp, cnt_false hp, show t + 1 - cnt X Y t = (t - cnt X Y t) + 1 from by omega, sumTo]; omega

/-- What is taken is no heavier than what is not. -/
theorem cnt_inv {X Y : List Nat} (hX : Up X) (hY : Up Y) (t : Nat) (h : t ≤ X.length + Y.length) :
    (∀ j k, cnt X Y t ≤ j → j < X.length → k < t - cnt X Y t → nth Y k ≤ nth X j) ∧ (∀ j k, j < cnt X Y t → t - cnt X Y t ≤ k → k < Y.length → nth X j ≤ nth Y k) := by
  induction t with
  | zero => exact ⟨fun j k _ _ hk => absurd hk (by omega), fun j k hj => absurd hj (by simp [cnt])⟩
  | succ t ih =>
    obtain ⟨h1, h2, h3⟩ := cnt_bounds X Y t (by omega)
    obtain ⟨i1, i2⟩ := ih (by omega)
    cases hp : pick X Y t (cnt X Y t) with
    | true =>
      rw [cnt_true hp]
      refine ⟨fun j k hj hjx hk => i1 j k (by omega) hjx (by omega), fun j k hj hk hky => ?_⟩
      by_cases e : j = cnt X Y t
      · subst e
        rcases pick_true hp with e | ⟨_, e⟩
        · omega
        · exact Nat.le_trans e (hY _ _ (by omega) hky)
      · exact i2 j k (by omega) (by omega) hky
    | false =>
      rw [cnt_false hp]
      obtain ⟨p1, p2⟩ := pick_false hp
      refine ⟨fun j k hj hjx hk => ?_, fun j k hj hk hky => i2 j k hj (by omega) hky⟩
      by_cases e : k = t - cnt X Y t
      · subst e
        have h5 := p2 (by omega)
        have h6 := hX _ _ hj hjx
        omega
      · exact i1 j k hj hjx (by omega)

theorem merged_up {X Y : List Nat} (hX : Up X) (hY : Up Y) : Up (merged X Y) := by
  refine up_of fun i hi => ?_
  rw [merged_length] at hi
  rw [merged_nth (by omega), merged_nth hi]
  obtain ⟨a1, a2, a3⟩ := cnt_bounds X Y i (by omega)
  obtain ⟨b1, b2, b3⟩ := cnt_bounds X Y (i + 1) (by omega)
  obtain ⟨c1, c2, c3⟩ := cnt_bounds X Y (i + 1 + 1) (by omega)
  obtain ⟨i1, i2⟩ := cnt_inv hX hY (i + 1) (by omega)
  cases hp : pick X Y i (cnt X Y i) with
  | true =>
    rw [thing_true hp]
    have e1 := cnt_true hp
    cases hq : pick X Y (i + 1) (cnt X Y (i + 1)) with
    | true =>
      have e2 := cnt_true hq
      rw [thing_true hq]
      exact hX _ _ (by omega) (by omega)
    | false =>
      have e2 := cnt_false hq
      rw [thing_false hq]
      exact i2 _ _ (by omega) (by omega) (by omega)
  | false =>
    rw [thing_false hp]
    have e1 := cnt_false hp
    cases hq : pick X Y (i + 1) (cnt X Y (i + 1)) with
    | true =>
      have e2 := cnt_true hq
      rw [thing_true hq]
      exact i1 _ _ (by omega) (by omega) (by omega)
    | false =>
      have e2 := cnt_false hq
      rw [thing_false hq]
      exact hY _ _ (by omega) (by omega)

/-- The first things weigh no more than as many of both, however many of each. -/
theorem merged_least {X Y : List Nat} (hX : Up X) (hY : Up Y) (a b : Nat) (ha : a ≤ X.length) (hb : b ≤ Y.length) : sumTo (thing X Y) (a + b) ≤ sumTo (nth X) a + sumTo (nth Y) b := by
  obtain ⟨h1, h2, h3⟩ := cnt_bounds X Y (a + b) (by omega)
  obtain ⟨i1, i2⟩ := cnt_inv hX hY (a + b) (by omega)
  rw [thing_sum X Y (a + b) (by omega)]
  generalize cnt X Y (a + b) = c at h1 h2 h3 i1 i2
  by_cases hc : c ≤ a
  · obtain ⟨m, rfl⟩ : ∃ m, a = c + m := ⟨a - c, by omega⟩
    rw [show c + m + b - c = b + m from by omega, sumTo_split _ c m, sumTo_split _ b m]
    have := sumTo_le (f := fun j => nth Y (b + j)) (g := fun j => nth X (c + j)) (n := m) (fun j hj => i1 _ _ (by omega) (by omega) (by omega))
    omega
  · obtain ⟨m, rfl⟩ : ∃ m, c = a + m := ⟨c - a, by omega⟩
    obtain ⟨d, hd⟩ : ∃ d, b = d + m := ⟨b - m, by omega⟩
    subst hd
    rw [show a + (d + m) - (a + m) = d from by omega, sumTo_split _ a m, sumTo_split _ d m]
    have := sumTo_le (f := fun j => nth X (a + j)) (g := fun j => nth Y (d + j)) (n := m) (fun j hj => i2 _ _ (by omega) (by omega) (by omega))
    omega

theorem paired_up {X : List Nat} (h : Up X) : Up (paired X) := by
  refine up_of fun i hi => ?_
  rw [paired_length] at hi
  rw [paired_nth (by omega), paired_nth hi]
  have h1 := h (2 * i) (2 * (i + 1)) (by omega) (by omega)
  have h2 := h (2 * i + 1) (2 * (i + 1) + 1) (by omega) (by omega)
  omega

theorem paired_sum (X : List Nat) (p : Nat) (h : p ≤ X.length / 2) : sumTo (nth (paired X)) p = sumTo (nth X) (2 * p) := by
  induction p with
  | zero => rfl
  | succ p ih =>
    rw [sumTo, ih (by omega), paired_nth (by omega), show 2 * (p + 1) = 2 * p + 1 + 1 from by omega, sumTo, sumTo]; omega

/-- The things behind so many rows. -/
def rows (W : List Nat) : Nat → List Nat
  | 0 => []
  | j + 1 => merged W (paired (rows W j))

theorem rows_length (W : List Nat) (j : Nat) : (rows W (j + 1)).length = W.length + (rows W j).length / 2 := by
  rw [rows, merged_length, paired_length]

theorem rows_up {W : List Nat} (h : Up W) (j : Nat) : Up (rows W j) := by
  induction j with
  | zero => exact fun i j _ hj => absurd hj (by simp [rows])
  | succ j ih => exact merged_up h (paired_up ih)

/-- How many symbols each row takes, the last row first. -/
def taking (W : List Nat) : Nat → Nat → List Nat
  | 0, _ => []
  | j + 1, t => cnt W (paired (rows W j)) t :: taking W j (2 * (t - cnt W (paired (rows W j)) t))

theorem taking_length (W : List Nat) (j t : Nat) : (taking W j t).length = j := by
  induction j generalizing t with
  | zero => rfl
  | succ j ih => rw [taking, List.length_cons, ih]

/-- What is taken of a row comes of the row ahead. -/
theorem taking_next {W : List Nat} {j t : Nat} (h : t ≤ (rows W (j + 1)).length) :
    cnt W (paired (rows W j)) t ≤ t ∧ cnt W (paired (rows W j)) t ≤ W.length ∧ t - cnt W (paired (rows W j)) t ≤ (rows W j).length / 2 ∧ 2 * (t - cnt W (paired (rows W j)) t) ≤ (rows W j).length := by
  rw [rows_length] at h
  have := cnt_bounds W (paired (rows W j)) t (by rw [paired_length]; exact h)
  rw [paired_length] at this
  omega

theorem rows_sum {W : List Nat} {j t : Nat} (h : t ≤ (rows W (j + 1)).length) : sumTo (nth (rows W (j + 1))) t = sumTo (thing W (paired (rows W j))) t :=
  sumTo_congr fun i hi => by
    rw [rows, merged_nth]
    rw [rows, merged_length] at h
    omega

theorem taking_cost (W : List Nat) (j t : Nat) (h : t ≤ (rows W j).length) : ((taking W j t).map (sumTo (nth W))).sum = sumTo (nth (rows W j)) t := by
  induction j generalizing t with
  | zero => have : t = 0 := by simpa [rows] using h
            subst this; rfl
  | succ j ih =>
    obtain ⟨h1, h2, h3, h4⟩ := taking_next h
    rw [taking, List.map_cons, List.sum_cons, ih _ h4, rows_sum h, thing_sum _ _ _ (by rw [paired_length, ← rows_length]; exact h), paired_sum _ _ h3]

/-- What a row of counts weighs: the last one 1, each one ahead twice as much. -/
def valL : List Nat → Nat
  | [] => 0
  | c :: r => c * 2 ^ r.length + valL r

theorem taking_val (W : List Nat) (j t : Nat) (h : t ≤ (rows W j).length) : 2 * valL (taking W j t) = t * 2 ^ j := by
  induction j generalizing t with
  | zero => have : t = 0 := by simpa [rows] using h
            subst this; rfl
  | succ j ih =>
    obtain ⟨h1, h2, h3, h4⟩ := taking_next h
    rw [taking, valL, taking_length, Nat.mul_add, ih _ h4, Nat.pow_succ]
    generalize cnt W (paired (rows W j)) t = c at *
    obtain ⟨d, rfl⟩ : ∃ d, t = c + d := ⟨t - c, by omega⟩
    rw [show c + d - c = d from by omega]
    generalize 2 ^ j = z
    rw [Nat.add_mul, Nat.mul_comm z 2, Nat.mul_left_comm 2 c z, Nat.mul_assoc 2 d z, Nat.mul_left_comm d 2 z, Nat.mul_left_comm c 2 z]

/-- THE LOWER BOUND: counts that weigh as much cost no less than the lightest things. -/
theorem taking_least {W : List Nat} (hW : Up W) (C : List Nat) (t : Nat) (hC : ∀ c ∈ C, c ≤ W.length) (hv : 2 * valL C = t * 2 ^ C.length) :
    t ≤ (rows W C.length).length ∧ sumTo (nth (rows W C.length)) t ≤ (C.map (sumTo (nth W))).sum := by
  induction C generalizing t with
  | nil =>
    have : t = 0 := by simpa [valL] using hv.symm
    subst this
    exact ⟨Nat.zero_le _, Nat.le_refl _⟩
  | cons c r ih =>
    rw [valL, List.length_cons, Nat.pow_succ, Nat.mul_add] at hv
    have hz : 0 < 2 ^ r.length := Nat.two_pow_pos _
    have hle : c ≤ t := by
      generalize 2 ^ r.length = z at hv hz
      rw [← Nat.mul_assoc, Nat.mul_comm t, Nat.mul_comm z 2, Nat.mul_assoc 2 z t] at hv
      have h1 : z * c ≤ z * t := by
        have : 2 * c * z = 2 * (z * c) := by rw [Nat.mul_assoc, Nat.mul_comm c z]
        omega
      exact Nat.le_of_mul_le_mul_left h1 hz
    obtain ⟨d, rfl⟩ : ∃ d, t = c + d := ⟨t - c, by omega⟩
    have hv2 : 2 * valL r = (2 * d) * 2 ^ r.length := by
      generalize 2 ^ r.length = z at hv
      have e1 : 2 * (c * z) = c * (z * 2) := by rw [Nat.mul_comm z 2, Nat.mul_left_comm c 2 z]
      have e2 : 2 * d * z = d * (z * 2) := by rw [Nat.mul_comm z 2, Nat.mul_left_comm d 2 z, Nat.mul_assoc]
      rw [Nat.add_mul] at hv
      omega
    obtain ⟨h1, h2⟩ := ih (2 * d) (fun c hc => hC c (by simp [hc])) hv2
    have hc := hC c (by simp)
    refine ⟨?_, ?_⟩
    · rw [List.length_cons, rows_length]; omega
    · rw [List.length_cons, List.map_cons, List.sum_cons, rows_sum (by rw [rows_length]; omega)]
      have h3 := merged_least hW (paired_up (rows_up hW r.length)) c d hc (by rw [paired_length]; omega)
      rw [paired_sum _ _ (by omega)] at h3
      omega

theorem cnt_hit {X Y : List Nat} {c t : Nat} (h : c < cnt X Y t) : ∃ i, i < t ∧ cnt X Y i = c ∧ pick X Y i c = true := by
  induction t with
  | zero => simp [cnt] at h
  | succ t ih =>
    cases hp : pick X Y t (cnt X Y t) with
    | true =>
      rw [cnt_true hp] at h
      by_cases e : c = cnt X Y t
      · subst e; exact ⟨t, by omega, rfl, hp⟩
      · obtain ⟨i, h1, h2⟩ := ih (by omega); exact ⟨i, by omega, h2⟩
    | false =>
      rw [cnt_false hp] at h
      obtain ⟨i, h1, h2⟩ := ih h
      exact ⟨i, by omega, h2⟩

theorem thing_pos {X Y : List Nat} (hX : ∀ i, i < X.length → 0 < nth X i) (hY : ∀ i, i < Y.length → 0 < nth Y i) (i : Nat) (h : i < X.length + Y.length) : 0 < thing X Y i := by
  obtain ⟨a1, a2, a3⟩ := cnt_bounds X Y i (by omega)
  obtain ⟨b1, b2, b3⟩ := cnt_bounds X Y (i + 1) (by omega)
  cases hp : pick X Y i (cnt X Y i) with
  | true => rw [thing_true hp]; have := cnt_true hp; exact hX _ (by omega)
  | false => rw [thing_false hp]; have := cnt_false hp; exact hY _ (by omega)

theorem rows_pos {W : List Nat} (hW : ∀ i, i < W.length → 0 < nth W i) (j : Nat) : ∀ i, i < (rows W j).length → 0 < nth (rows W j) i := by
  induction j with
  | zero => intro i hi; simp [rows] at hi
  | succ j ih =>
    intro i hi
    have hi' : i < W.length + (paired (rows W j)).length := by rwa [rows, merged_length] at hi
    rw [rows, merged_nth hi']
    refine thing_pos hW (fun k hk => ?_) i hi'
    rw [paired_length] at hk
    rw [paired_nth hk]
    have := ih (2 * k) (by omega)
    omega

/-- A row takes no more symbols than the row behind it. -/
theorem taking_falls {W : List Nat} (hU : Up W) (hW : ∀ i, i < W.length → 0 < nth W i) {j t : Nat} (h : t ≤ (rows W (j + 2)).length) :
    cnt W (paired (rows W j)) (2 * (t - cnt W (paired (rows W (j + 1))) t)) ≤ cnt W (paired (rows W (j + 1))) t := by
  obtain ⟨h1, h2, h3, h4⟩ := taking_next h
  have hinv := (cnt_inv hU (paired_up (rows_up hU (j + 1))) t (by rw [paired_length, ← rows_length]; exact h)).1
  generalize cnt W (paired (rows W (j + 1))) t = c at *
  rcases Nat.lt_or_ge c (cnt W (paired (rows W j)) (2 * (t - c))) with hlt | hge
  · exfalso
    obtain ⟨i, hi, hc, hp⟩ := cnt_hit hlt
    have hb := cnt_bounds W (paired (rows W j)) (2 * (t - c)) (by rw [paired_length, ← rows_length]; omega)
    have hcw : c < W.length := by omega
    have hk := hinv c (i / 2) (Nat.le_refl _) hcw (by omega)
    have hi2 : i < W.length + (paired (rows W j)).length := by rw [paired_length, ← rows_length]; omega
    have ht : nth (rows W (j + 1)) i = nth W c := by
      rw [rows, merged_nth hi2, thing_true (by rw [hc]; exact hp), hc]
    rw [paired_nth (by omega)] at hk
    have p1 := rows_pos hW (j + 1) (2 * (i / 2)) (by omega)
    have p2 := rows_pos hW (j + 1) (2 * (i / 2) + 1) (by omega)
    rcases Nat.mod_two_eq_zero_or_one i with e | e
    · rw [show i = 2 * (i / 2) from by omega] at ht; omega
    · rw [show i = 2 * (i / 2) + 1 from by omega] at ht
      omega
  · exact hge

/-- Counts that do not rise. -/
def Desc : Nat → List Nat → Prop
  | _, [] => True
  | b, c :: r => c ≤ b ∧ Desc c r

theorem Desc.all {b : Nat} {C : List Nat} (h : Desc b C) : ∀ c ∈ C, c ≤ b := by
  induction C generalizing b with
  | nil => simp
  | cons c r ih =>
    intro x hx
    rcases List.mem_cons.1 hx with rfl | hx
    · exact h.1
    · exact Nat.le_trans (ih h.2 x hx) h.1

theorem taking_desc {W : List Nat} (hU : Up W) (hW : ∀ i, i < W.length → 0 < nth W i) (j t : Nat) (h : t ≤ (rows W j).length) : Desc W.length (taking W j t) := by
  induction j generalizing t with
  | zero => trivial
  | succ j ih =>
    obtain ⟨h1, h2, h3, h4⟩ := taking_next h
    have h5 := ih _ h4
    refine ⟨h2, ?_⟩
    cases j with
    | zero => trivial
    | succ j => exact ⟨taking_falls hU hW h, h5.2⟩

/-- The length that comes of counts, at a place. -/
def lenAt (C : List Nat) (p : Nat) : Nat := C.countP fun c => decide (p < c)

theorem lenAt_cons (c : Nat) (r : List Nat) (p : Nat) : lenAt (c :: r) p = lenAt r p + if p < c then 1 else 0 := by
  unfold lenAt; rw [List.countP_cons]; simp

theorem lenAt_le (C : List Nat) (p : Nat) : lenAt C p ≤ C.length := List.countP_le_length

theorem lenAt_falls (C : List Nat) {p q : Nat} (h : p ≤ q) : lenAt C q ≤ lenAt C p := by
  unfold lenAt
  exact List.countP_mono_left fun c _ hc => by simp at hc ⊢; omega

theorem lenAt_zero {C : List Nat} {p : Nat} (h : ∀ c ∈ C, c ≤ p) : lenAt C p = 0 := by
  unfold lenAt
  rw [List.countP_eq_zero]
  intro c hc
  have := h c hc
  simp; omega

theorem sumTo_const (c n : Nat) : sumTo (fun _ => c) n = n * c := by
  induction n with
  | zero => simp [sumTo]
  | succ n ih => rw [sumTo, ih, Nat.succ_mul]

/-- Of lengths that come of counts: what the words weigh. -/
theorem lens_weigh (C : List Nat) (n : Nat) (h : Desc n C) : sumTo (fun p => 2 ^ (C.length - lenAt C p)) n + valL C = n * 2 ^ C.length := by
  induction C generalizing n with
  | nil => simp [lenAt, valL, sumTo_const]
  | cons c r ih =>
    have h1 := ih c h.2
    have hall := h.2.all
    obtain ⟨d, hd⟩ : ∃ d, n = c + d := ⟨n - c, by have := h.1; omega⟩
    subst hd
    rw [sumTo_split]
    have e1 : sumTo (fun p => 2 ^ ((c :: r).length - lenAt (c :: r) p)) c = sumTo (fun p => 2 ^ (r.length - lenAt r p)) c :=
      sumTo_congr fun p hp => by
        rw [lenAt_cons, if_pos hp, List.length_cons]
        congr 1
        omega
    have e2 : sumTo (fun p => 2 ^ ((c :: r).length - lenAt (c :: r) (c + p))) d = sumTo (fun _ => 2 * 2 ^ r.length) d :=
      sumTo_congr fun p hp => by
        rw [lenAt_cons, if_neg (by omega), lenAt_zero (fun x hx => by have := hall x hx; omega), List.length_cons, Nat.sub_zero, Nat.pow_succ, Nat.mul_comm]
    rw [e1, e2, sumTo_const, valL, List.length_cons, Nat.pow_succ]
    generalize 2 ^ r.length = z at *
    rw [Nat.add_mul, Nat.mul_comm z 2]
    have e3 : c * (2 * z) = 2 * (c * z) := Nat.mul_left_comm _ _ _
    omega

/-- .. and what they cost. -/
theorem lens_cost (W C : List Nat) (h : ∀ c ∈ C, c ≤ W.length) : sumTo (fun p => nth W p * lenAt C p) W.length = (C.map (sumTo (nth W))).sum := by
  induction C with
  | nil => simp only [lenAt, List.countP_nil, Nat.mul_zero, List.map_nil, List.sum_nil]; exact sumTo_zero fun _ _ => rfl
  | cons c r ih =>
    rw [List.map_cons, List.sum_cons, ← ih (fun x hx => h x (by simp [hx]))]
    have hc := h c (by simp)
    obtain ⟨d, hd⟩ : ∃ d, W.length = c + d := ⟨W.length - c, by omega⟩
    have e1 : sumTo (fun p => nth W p * lenAt (c :: r) p) W.length = sumTo (fun p => (if p < c then nth W p else 0) + nth W p * lenAt r p) W.length :=
      sumTo_congr fun p _ => by
        rw [lenAt_cons, Nat.mul_add]
        split <;> simp <;> omega
    rw [e1, sumTo_add, hd, sumTo_split (fun p => if p < c then nth W p else 0)]
    have e2 : sumTo (fun p => if p < c then nth W p else 0) c = sumTo (nth W) c := sumTo_congr fun p hp => by rw [if_pos hp]
    have e3 : sumTo (fun j => if c + j < c then nth W (c + j) else 0) d = 0 := sumTo_zero fun p hp => by rw [if_neg (by omega)]
    rw [e2, e3, Nat.add_zero]

end Go.Proofs.YtpcbhmkalofkmaaGreat.Limit

/-
  Plain facts for layer 5: lengths out of counts are a choice, of the least cost; symbols in falling rareness. No program. No conditions.
-/
namespace Go.Proofs.YtpcbhmkalofkmaaGreat.Limit
open Go.Proofs.YtpcbhmkalofkmaaGreat.Kraft

theorem valL_snoc (r : List Nat) (x : Nat) : valL (r ++ [x]) = 2 * valL r + x := by
  induction r with
  | nil => simp [valL]
  | cons c r ih =>
    rw [List.cons_append, valL, valL, ih, List.length_append, List.length_singleton, Nat.pow_succ]
    generalize 2 ^ r.length = z
    rw [Nat.mul_add, ← Nat.mul_assoc, Nat.mul_comm (c * z) 2]
    omega

/-- Counts: of each length from 1 to L, how many are no less. -/
def cols (O : List Nat) (L : Nat) : List Nat := (List.range L).map fun k => lenAt O k

theorem cols_length (O : List Nat) (L : Nat) : (cols O L).length = L := by simp [cols]

theorem cols_succ (O : List Nat) (L : Nat) : cols O (L + 1) = cols O L ++ [lenAt O L] := by simp [cols, List.range_succ]

theorem cols_val (O : List Nat) (L : Nat) : valL (cols O L) + (O.map fun o => 2 ^ (L - o)).sum = O.length * 2 ^ L := by
  induction O with
  | nil =>
    have : ∀ L, valL (cols [] L) = 0 := fun L => by
      induction L with
      | zero => rfl
      | succ L ih => rw [cols_succ, valL_snoc, ih]; rfl
    simp [this]
  | cons x O ih =>
    have : ∀ L, valL (cols (x :: O) L) + 2 ^ (L - x) = valL (cols O L) + 2 ^ L := fun L => by
      induction L with
      | zero => simp [cols, valL]
      | succ L ih =>
        rw [cols_succ, valL_snoc, cols_succ, valL_snoc, lenAt_cons]
        by_cases h : L < x
        · rw [show L - x = 0 from by omega] at ih
          rw [if_pos h, show L + 1 - x = 0 from by omega, Nat.pow_succ]
          omega
        · rw [if_neg h, show L + 1 - x = (L - x) + 1 from by omega, Nat.pow_succ, Nat.pow_succ]
          omega
    have := this L
    rw [List.map_cons, List.sum_cons, List.length_cons, Nat.succ_mul]
    omega

/-- The least numbers weigh no more than any as many. -/
theorem least_sum (X : List Nat) (hX : X.Pairwise (· ≤ ·)) (s r : List Nat) (h : X.Perm (s ++ r)) : (X.take s.length).sum ≤ s.sum := by
  induction X generalizing s r with
  | nil => simp
  | cons x X ih =>
    obtain ⟨h1, h2⟩ := List.pairwise_cons.1 hX
    have hx : x ∈ s ++ r := h.mem_iff.1 (by simp)
    rcases List.mem_append.1 hx with hs | hr
    · have p := List.perm_cons_erase hs
      have h3 : X.Perm (s.erase x ++ r) := (h.trans (p.append_right r)).cons_inv
      have h4 := ih h2 _ _ h3
      have h5 := p.sum_nat
      have h6 := p.length_eq
      rw [List.length_cons] at h6
      rw [List.sum_cons] at h5
      rw [h6, List.take_succ_cons, List.sum_cons]
      omega
    · cases s with
      | nil => simp
      | cons y s =>
        have p := List.perm_cons_erase hr
        have h3 : (x :: X).Perm (x :: (y :: s ++ r.erase x)) := (h.trans (p.append_left _)).trans List.perm_middle
        have h4 : X.Perm (s ++ (y :: r.erase x)) := h3.cons_inv.trans (by rw [List.cons_append]; exact List.perm_middle.symm)
        have h5 := ih h2 _ _ h4
        have hy : x ≤ y := by
          have : y ∈ x :: X := h.mem_iff.2 (by simp)
          rcases List.mem_cons.1 this with rfl | h6
          · exact Nat.le_refl _
          · exact h1 y h6
        rw [List.length_cons, List.take_succ_cons, List.sum_cons, List.sum_cons]
        omega

theorem sumTo_take (X : List Nat) (c : Nat) : sumTo (nth X) c = (X.take c).sum := by
  induction c with
  | zero => rfl
  | succ c ih =>
    rw [sumTo, ih]
    by_cases h : c < X.length
    · rw [List.take_succ_eq_append_getElem h, List.sum_append, nth_lt h]; simp
    · rw [nth_ge (by omega), List.take_of_length_le (by omega), List.take_of_length_le (by omega)]; rfl

theorem up_pairwise {X : List Nat} : Up X ↔ X.Pairwise (· ≤ ·) := by
  rw [List.pairwise_iff_getElem]
  constructor
  · intro h i j hi hj hij
    have := h i j (by omega) hj
    rwa [nth_lt hi, nth_lt hj] at this
  · intro h i j hij hj
    by_cases e : i = j
    · subst e; exact Nat.le_refl _
    · have := h i j (by omega) hj (by omega)
      rwa [← nth_lt (by omega), ← nth_lt hj] at this

/-- What lengths cost, of frequencies. -/
def cost (F O : List Nat) : Nat := sumTo (fun i => nth F i * nth O i) F.length

theorem cost_cons (f o : Nat) (F O : List Nat) : cost (f :: F) (o :: O) = f * o + cost F O := by
  unfold cost
  rw [List.length_cons, Nat.add_comm F.length 1, sumTo_split]
  have : sumTo (fun j => nth (f :: F) (1 + j) * nth (o :: O) (1 + j)) F.length = sumTo (fun i => nth F i * nth O i) F.length := sumTo_congr fun i _ => by
    rw [Nat.add_comm 1 i]; rfl
  rw [this]
  simp [sumTo, nth]

/-- The frequencies of those whose length is above k. -/
def above : List Nat → List Nat → Nat → List Nat
  | f :: F, o :: O, k => if k < o then f :: above F O k else above F O k
  | _, _, _ => []

theorem above_cost (F O : List Nat) (L : Nat) (hl : F.length = O.length) (hO : ∀ o ∈ O, o ≤ L) : sumTo (fun k => (above F O k).sum) L = cost F O := by
  induction F generalizing O with
  | nil => simp only [above, List.sum_nil]; exact sumTo_zero fun _ _ => rfl
  | cons f F ih =>
    cases O with
    | nil => simp at hl
    | cons o O =>
      rw [cost_cons, ← ih O (by simpa using hl) (fun x hx => hO x (by simp [hx]))]
      have e : sumTo (fun k => (above (f :: F) (o :: O) k).sum) L = sumTo (fun k => (if k < o then f else 0) + (above F O k).sum) L := sumTo_congr fun k _ => by
        rw [above]; split <;> simp
      rw [e, sumTo_add]
      obtain ⟨d, hd⟩ : ∃ d, L = o + d := ⟨L - o, by have := hO o (by simp); omega⟩
      rw [hd, sumTo_split (fun k => if k < o then f else 0)]
      have e2 : sumTo (fun k => if k < o then f else 0) o = sumTo (fun _ => f) o := sumTo_congr fun p hp => by rw [if_pos hp]
      have e3 : sumTo (fun j => if o + j < o then f else 0) d = 0 := sumTo_zero fun p hp => by rw [if_neg (by omega)]
      rw [e2, e3, sumTo_const, Nat.mul_comm f o]; omega

theorem above_length (F O : List Nat) (k : Nat) (hl : F.length = O.length) : (above F O k).length = lenAt O k := by
  induction F generalizing O with
  | nil => cases O with
    | nil => rfl
    | cons o O => simp at hl
  | cons f F ih =>
    cases O with
    | nil => simp at hl
    | cons o O =>
      rw [above, lenAt_cons, ← ih O (by simpa using hl)]
      split <;> simp

/-- The frequencies above 0. -/
def pos (F : List Nat) : List Nat := F.filter fun f => decide (0 < f)

theorem above_sub (F O : List Nat) (k : Nat) (h : ∀ i, i < O.length → 0 < nth O i → 0 < nth F i) : (above F O k).Sublist (pos F) := by
  induction F generalizing O with
  | nil => exact List.Sublist.refl _
  | cons f F ih =>
    cases O with
    | nil => exact List.nil_sublist _
    | cons o O =>
      have h1 := ih O (fun i hi ho => h (i + 1) (by simpa using hi) ho)
      rw [above]
      unfold pos
      by_cases hk : k < o
      · have : 0 < f := h 0 (by simp) (by show 0 < o; omega)
        rw [if_pos hk, List.filter_cons_of_pos (by simpa using this)]
        exact h1.cons_cons _
      · rw [if_neg hk]
        by_cases hf : 0 < f
        · rw [List.filter_cons_of_pos (by simpa using hf)]
          exact h1.cons _
        · rw [List.filter_cons_of_neg (by simpa using hf)]
          exact h1

theorem sublist_perm {s X : List Nat} (h : s.Sublist X) : ∃ r, X.Perm (s ++ r) := by
  induction h with
  | slnil => exact ⟨[], .refl _⟩
  | cons a _ ih => obtain ⟨r, hr⟩ := ih; exact ⟨a :: r, (hr.cons a).trans List.perm_middle.symm⟩
  | cons_cons a _ ih => obtain ⟨r, hr⟩ := ih; exact ⟨r, hr.cons a⟩

theorem sum_sumTo (f : Nat → Nat) (L : Nat) : ((List.range L).map f).sum = sumTo f L := by
  induction L with
  | zero => rfl
  | succ L ih => rw [List.range_succ, List.map_append, List.sum_append, ih, sumTo]; simp

/-- Whatever lengths: they cost no less than their counts over the rarest symbols. -/
theorem cost_cols {F O W : List Nat} {L : Nat} (hl : F.length = O.length) (hO : ∀ o ∈ O, o ≤ L) (h : ∀ i, i < O.length → 0 < nth O i → 0 < nth F i) (hU : Up W) (hW : W.Perm (pos F)) :
    ((cols O L).map (sumTo (nth W))).sum ≤ cost F O := by
  rw [cols, List.map_map, sum_sumTo, ← above_cost F O L hl hO]
  refine sumTo_le fun k _ => ?_
  obtain ⟨r, hr⟩ := sublist_perm (above_sub F O k h)
  have := least_sum W (up_pairwise.1 hU) _ _ (hW.trans hr)
  rw [above_length F O k hl, ← sumTo_take] at this
  exact this

/-- What lengths that are not 0 weigh, of 2 to the power of L in all. -/
def kraft (L : Nat) (O : List Nat) : Nat := sumTo (fun i => if nth O i = 0 then 0 else 2 ^ (L - nth O i)) O.length

theorem kraft_cons (L o : Nat) (O : List Nat) : kraft L (o :: O) = (if o = 0 then 0 else 2 ^ (L - o)) + kraft L O := by
  unfold kraft
  rw [List.length_cons, Nat.add_comm O.length 1, sumTo_split]
  have : sumTo (fun j => if nth (o :: O) (1 + j) = 0 then 0 else 2 ^ (L - nth (o :: O) (1 + j))) O.length = sumTo (fun i => if nth O i = 0 then 0 else 2 ^ (L - nth O i)) O.length := sumTo_congr fun i _ => by
    rw [Nat.add_comm 1 i]; rfl
  rw [this]
  simp [sumTo, nth]

theorem kraft_sum (L : Nat) (O : List Nat) : kraft L O + (O.length - (pos O).length) * 2 ^ L = (O.map fun o => 2 ^ (L - o)).sum := by
  induction O with
  | nil => simp [kraft, sumTo, pos]
  | cons o O ih =>
    have hle : (pos O).length ≤ O.length := List.length_filter_le _ _
    rw [kraft_cons, List.map_cons, List.sum_cons, ← ih]
    unfold pos at hle ⊢
    by_cases h : o = 0
    · subst h
      rw [List.filter_cons_of_neg (by simp), List.length_cons, if_pos rfl, Nat.succ_sub hle, Nat.succ_mul, Nat.sub_zero]
      omega
    · rw [List.filter_cons_of_pos (by simp; omega), List.length_cons, List.length_cons, if_neg h, show O.length + 1 - ((O.filter fun f => decide (0 < f)).length + 1) = O.length - (O.filter fun f => decide (0 < f)).length from by omega]
      omega

/-- A choice for frequencies and a limit. -/
structure Choice (F : List Nat) (L : Nat) (O : List Nat) : Prop where
  length : O.length = F.length
  some : ∀ i, i < F.length → (0 < nth O i ↔ 0 < nth F i)
  limit : ∀ i, i < F.length → nth O i ≤ L
  full : 2 ≤ (pos F).length → kraft L O = 2 ^ L
  one : (pos F).length < 2 → ∀ i, i < F.length → nth O i ≤ 1

theorem pos_length_eq {F O : List Nat} (hl : O.length = F.length) (h : ∀ i, i < F.length → (0 < nth O i ↔ 0 < nth F i)) : (pos O).length = (pos F).length := by
  induction F generalizing O with
  | nil => rw [List.eq_nil_of_length_eq_zero hl]
  | cons f F ih =>
    cases O with
    | nil => simp at hl
    | cons o O =>
      have h1 := ih (O := O) (by simpa using hl) (fun i hi => h (i + 1) (by simpa using hi))
      have h0 : 0 < o ↔ 0 < f := h 0 (by simp)
      unfold pos at h1 ⊢
      by_cases c : 0 < o
      · rw [List.filter_cons_of_pos (by simpa using c), List.filter_cons_of_pos (by simpa using h0.1 c), List.length_cons, List.length_cons, h1]
      · rw [List.filter_cons_of_neg (by simpa using c), List.filter_cons_of_neg (by simpa using fun x => c (h0.2 x)), h1]

theorem choice_cols {F O : List Nat} {L : Nat} (h : Choice F L O) (h2 : 2 ≤ (pos F).length) : 2 * valL (cols O L) = (2 * (pos F).length - 2) * 2 ^ L := by
  have h3 := cols_val O L
  have h4 := kraft_sum L O
  have h5 := h.full h2
  have h6 := pos_length_eq h.length h.some
  rw [h5, h6] at h4
  rw [← h4] at h3
  have h7 : (pos F).length ≤ O.length := by rw [← h6]; exact List.length_filter_le _ _
  obtain ⟨d, hd⟩ : ∃ d, O.length = (pos F).length + d := ⟨O.length - (pos F).length, by omega⟩
  obtain ⟨m, hm⟩ : ∃ m, (pos F).length = m + 2 := ⟨(pos F).length - 2, by omega⟩
  rw [hd, hm, show m + 2 + d - (m + 2) = d from by omega] at h3
  rw [hm, show 2 * (m + 2) - 2 = 2 * (m + 1) from by omega]
  generalize 2 ^ L = z at *
  rw [Nat.add_mul, Nat.add_mul] at h3
  rw [Nat.mul_assoc, Nat.add_mul]
  omega

theorem lenAt_pos_le (O : List Nat) (k : Nat) : lenAt O k ≤ (pos O).length := by
  unfold lenAt pos
  rw [← List.countP_eq_length_filter]
  exact List.countP_mono_left fun c _ hc => by simp at hc ⊢; omega

theorem nth_mem {O : List Nat} {o : Nat} (h : o ∈ O) : ∃ i, i < O.length ∧ nth O i = o := by
  obtain ⟨i, hi, rfl⟩ := List.getElem_of_mem h
  exact ⟨i, hi, nth_lt hi⟩

/-- THE LEAST COST: no choice costs less than the lightest 2n - 2 things of the last row. -/
theorem choice_least {F O W : List Nat} {L : Nat} (h : Choice F L O) (hU : Up W) (hW : W.Perm (pos F)) (h2 : 2 ≤ W.length) :
    2 * W.length - 2 ≤ (rows W L).length ∧ sumTo (nth (rows W L)) (2 * W.length - 2) ≤ cost F O := by
  have hn := hW.length_eq
  have h6 := pos_length_eq h.length h.some
  have h3 := choice_cols h (by omega)
  rw [← hn] at h3
  have h4 := taking_least hU (cols O L) (2 * W.length - 2) (fun c hc => by
    unfold cols at hc
    obtain ⟨k, _, rfl⟩ := List.mem_map.1 hc
    have := lenAt_pos_le O k
    omega) (by rw [cols_length]; exact h3)
  rw [cols_length] at h4
  refine ⟨h4.1, Nat.le_trans h4.2 (cost_cols h.length.symm (fun o ho => ?_) (fun i hi ho => (h.some i (by rw [← h.length]; exact hi)).1 ho) hU hW)⟩
  obtain ⟨i, hi, rfl⟩ := nth_mem ho
  exact h.limit i (by rw [← h.length]; exact hi)

/-! Symbols, the rarest first. -/

/-- The symbols whose frequency is above 0, the rarest first. -/
structure Rare (F S : List Nat) : Prop where
  perm : S.Perm ((List.range F.length).filter fun i => decide (0 < nth F i))
  up : (S.map (nth F)).Pairwise (· ≤ ·)

theorem Rare.nodup {F S : List Nat} (h : Rare F S) : S.Nodup := h.perm.nodup_iff.2 (List.Pairwise.filter _ List.nodup_range)

theorem Rare.mem {F S : List Nat} (h : Rare F S) (i : Nat) : i ∈ S ↔ i < F.length ∧ 0 < nth F i := by
  rw [h.perm.mem_iff]; simp

theorem map_nth_range (F : List Nat) : (List.range F.length).map (nth F) = F := by
  refine List.ext_getElem (by simp) fun i h1 h2 => ?_
  simp only [List.getElem_map, List.getElem_range]
  exact nth_lt h2

theorem Rare.weights {F S : List Nat} (h : Rare F S) : (S.map (nth F)).Perm (pos F) := by
  have h1 := h.perm.map (nth F)
  have h2 : ((List.range F.length).filter fun i => decide (0 < nth F i)).map (nth F) = pos F := by
    have e := map_nth_range F
    unfold pos
    conv => rhs; rw [← e]
    rw [List.filter_map]
    rfl
  rwa [h2] at h1

theorem Rare.upW {F S : List Nat} (h : Rare F S) : Up (S.map (nth F)) := up_pairwise.2 h.up

theorem Rare.posW {F S : List Nat} (h : Rare F S) (i : Nat) (hi : i < (S.map (nth F)).length) : 0 < nth (S.map (nth F)) i := by
  rw [nth_lt hi]
  have : (S.map (nth F))[i] ∈ pos F := h.weights.mem_iff.1 (List.getElem_mem hi)
  unfold pos at this
  simpa using (List.mem_filter.1 this).2

/-- What counts make of lengths: each symbol among the first n of each count n has one more. -/
def bump (l : List Nat) (s : Nat) : List Nat := l.set s (nth l s + 1)
def lensOf (S C : List Nat) (m : Nat) : List Nat := C.foldl (fun l n => (S.take n).foldl bump l) (List.replicate m 0)

theorem bump_length (l : List Nat) (s : Nat) : (bump l s).length = l.length := by simp [bump]
theorem bump_nth (l : List Nat) (s i : Nat) (hi : i < l.length) : nth (bump l s) i = nth l i + if i = s then 1 else 0 := by
  rw [nth_lt (by rw [bump_length]; exact hi)]
  unfold bump
  rw [List.getElem_set]
  by_cases e : s = i
  · subst e; simp
  · rw [if_neg e, if_neg (fun h => e h.symm), nth_lt hi]; rfl

theorem bumps_length (T l : List Nat) : (T.foldl bump l).length = l.length := by
  induction T generalizing l with
  | nil => rfl
  | cons s T ih => rw [List.foldl_cons, ih, bump_length]

theorem bumps_nth (T l : List Nat) (i : Nat) (hi : i < l.length) : nth (T.foldl bump l) i = nth l i + T.count i := by
  induction T generalizing l with
  | nil => simp
  | cons s T ih =>
    rw [List.foldl_cons, ih _ (by rw [bump_length]; exact hi), bump_nth _ _ _ hi, List.count_cons]
    by_cases e : i = s
    · subst e; simp; omega
    · have : (s == i) = false := by simpa using fun h => e h.symm
      rw [if_neg e, this]; simp

def addsTo (S l C : List Nat) : List Nat := C.foldl (fun l n => (S.take n).foldl bump l) l

theorem addsTo_length (S C l : List Nat) : (addsTo S l C).length = l.length := by
  induction C generalizing l with
  | nil => rfl
  | cons c C ih => unfold addsTo at ih ⊢; rw [List.foldl_cons, ih, bumps_length]

theorem addsTo_nth (S C l : List Nat) (i : Nat) (hi : i < l.length) : nth (addsTo S l C) i = nth l i + (C.map fun n => (S.take n).count i).sum := by
  induction C generalizing l with
  | nil => simp [addsTo]
  | cons c C ih =>
    have := ih ((S.take c).foldl bump l) (by rw [bumps_length]; exact hi)
    rw [bumps_nth _ _ _ hi] at this
    unfold addsTo at this ⊢
    rw [List.foldl_cons, this, List.map_cons, List.sum_cons]; omega

theorem lensOf_length (S C : List Nat) (m : Nat) : (lensOf S C m).length = m := by
  have := addsTo_length S C (List.replicate m 0)
  rw [List.length_replicate] at this
  exact this

theorem nth_replicate (m i : Nat) : nth (List.replicate m 0) i = 0 := by
  by_cases h : i < m
  · rw [nth_lt (by simpa using h)]; simp
  · exact nth_ge (by simp; omega)

theorem lensOf_nth (S C : List Nat) (m i : Nat) (hi : i < m) : nth (lensOf S C m) i = (C.map fun n => (S.take n).count i).sum := by
  have := addsTo_nth S C (List.replicate m 0) i (by simpa using hi)
  rw [nth_replicate, Nat.zero_add] at this
  exact this

theorem count_take {S : List Nat} (hS : S.Nodup) {p : Nat} (hp : p < S.length) (n : Nat) : (S.take n).count S[p] = if p < n then 1 else 0 := by
  by_cases h : p < n
  · rw [if_pos h]
    have hm : S[p] ∈ S.take n := by
      have : p < (S.take n).length := by simp; omega
      have e : (S.take n)[p] = S[p] := by simp
      rw [← e]; exact List.getElem_mem this
    have h1 := List.count_pos_iff.2 hm
    have h2 := List.nodup_iff_count.1 (hS.sublist (List.take_sublist n S)) S[p]
    omega
  · rw [if_neg h]
    refine List.count_eq_zero.2 fun hm => ?_
    obtain ⟨q, hq, e⟩ := List.getElem_of_mem hm
    rw [List.getElem_take] at e
    have hq' : q < S.length := by simp at hq; omega
    have := (List.getElem?_inj (j := p) hq' hS).1 (by rw [List.getElem?_eq_getElem hq', e, List.getElem?_eq_getElem hp])
    rw [List.length_take] at hq
    omega

theorem lensOf_at {S : List Nat} (hS : S.Nodup) (C : List Nat) (m : Nat) {p : Nat} (hp : p < S.length) (hm : S[p] < m) : nth (lensOf S C m) S[p] = lenAt C p := by
  rw [lensOf_nth _ _ _ _ hm]
  induction C with
  | nil => rfl
  | cons c C ih => rw [List.map_cons, List.sum_cons, ih, count_take hS hp, lenAt_cons]; omega

theorem lensOf_not {S : List Nat} (C : List Nat) (m i : Nat) (hi : i < m) (h : i ∉ S) : nth (lensOf S C m) i = 0 := by
  rw [lensOf_nth _ _ _ _ hi]
  induction C with
  | nil => rfl
  | cons c C ih =>
    rw [List.map_cons, List.sum_cons, ih, List.count_eq_zero.2 (fun hm => h (List.mem_of_mem_take hm))]

/-- A sum over the places of a row whose other places come to nothing. -/
theorem sum_over (g : Nat → Nat) (m : Nat) (q : Nat → Bool) (S : List Nat) (hS : S.Perm ((List.range m).filter q)) (h0 : ∀ i, i < m → q i = false → g i = 0) : sumTo g m = (S.map g).sum := by
  rw [(hS.map g).sum_nat, ← sum_sumTo]
  clear hS
  have : ∀ l : List Nat, (∀ i ∈ l, i < m) → (l.map g).sum = ((l.filter q).map g).sum := by
    intro l
    induction l with
    | nil => intro _; rfl
    | cons a l ih =>
      intro h
      rw [List.map_cons, List.sum_cons, ih (fun i hi => h i (by simp [hi]))]
      cases hq : q a with
      | true => rw [List.filter_cons_of_pos hq, List.map_cons, List.sum_cons]
      | false => rw [List.filter_cons_of_neg (by simp [hq]), h0 a (h a (by simp)) hq, Nat.zero_add]
  exact this _ (fun i hi => List.mem_range.1 hi)

theorem sum_places (S : List Nat) (g h : Nat → Nat) (e : ∀ p (hp : p < S.length), g S[p] = h p) : (S.map g).sum = sumTo h S.length := by
  rw [← sum_sumTo]
  congr 1
  refine List.ext_getElem (by simp) fun i h1 h2 => ?_
  simp only [List.getElem_map, List.getElem_range]
  exact e i (by simpa using h1)

/-- How many symbols each row takes, the last row first. -/
def countsOf (W : List Nat) (L : Nat) : List Nat := if W.length < 2 then [W.length] else taking W L (2 * W.length - 2)

/-- The lengths. -/
def lengths (F S : List Nat) (L : Nat) : List Nat := lensOf S (countsOf (S.map (nth F)) L) F.length

theorem rows_enough (W : List Nat) (L : Nat) (h : W.length ≤ 2 ^ L) (h2 : 2 ≤ W.length) (hL : 1 ≤ L) : 2 * W.length - 2 ≤ (rows W L).length := by
  have h1 : ∀ j, 2 ^ (j + 1) * W.length ≤ 2 ^ j * (rows W (j + 1)).length + W.length + (2 ^ j - 1) := by
    intro j
    induction j with
    | zero => rw [rows_length]; simp [rows]; omega
    | succ j ih =>
      rw [rows_length W (j + 1)]
      have hz : 0 < 2 ^ j := Nat.two_pow_pos _
      generalize (rows W (j + 1)).length = r at *
      generalize W.length = n at *
      rw [Nat.pow_succ 2 (j + 1), Nat.pow_succ]
      rw [Nat.pow_succ] at ih
      generalize 2 ^ j = z at *
      have h3 : r ≤ 2 * (r / 2) + 1 := by omega
      have h4 : z * r ≤ z * (2 * (r / 2) + 1) := Nat.mul_le_mul_left z h3
      generalize r / 2 = d at *
      rw [Nat.mul_add, Nat.mul_one, Nat.mul_left_comm] at h4
      rw [Nat.mul_add, Nat.mul_assoc z 2 d, Nat.mul_left_comm z 2 d]
      rw [Nat.mul_assoc z 2 n, Nat.mul_left_comm z 2 n] at ih
      have e1 : z * 2 * 2 * n = 4 * (z * n) := by rw [Nat.mul_assoc z 2 2, Nat.mul_comm z (2 * 2), Nat.mul_assoc]
      have e2 : z * 2 * n = 2 * (z * n) := by rw [Nat.mul_assoc z 2 n, Nat.mul_left_comm z 2 n]
      omega
  obtain ⟨j, rfl⟩ : ∃ j, L = j + 1 := ⟨L - 1, by omega⟩
  have h3 := h1 j
  have hz : 0 < 2 ^ j := Nat.two_pow_pos _
  rw [Nat.pow_succ] at h h3
  generalize (rows W (j + 1)).length = r at *
  generalize W.length = n at *
  generalize 2 ^ j = z at *
  refine Nat.le_of_not_lt fun hlt => ?_
  have h4 : z * (r + 3) ≤ z * (2 * n) := Nat.mul_le_mul_left z (by omega)
  rw [Nat.mul_add, Nat.mul_left_comm] at h4
  rw [Nat.mul_assoc z 2 n, Nat.mul_left_comm z 2 n] at h3
  omega

end Go.Proofs.YtpcbhmkalofkmaaGreat.Limit

/-
  Plain facts for layer 5: what the lengths come to: a choice, of the least cost, the rarer no shorter. No program. No conditions.
-/
namespace Go.Proofs.YtpcbhmkalofkmaaGreat.Limit
open Go.Proofs.YtpcbhmkalofkmaaGreat.Kraft

theorem pos_perm_length {F S : List Nat} (h : Rare F S) : S.length = (pos F).length := by
  have := h.weights.length_eq
  simpa using this

/-- The counts, of two symbols or more. -/
theorem counts_two {F S : List Nat} (_ : Rare F S) {L : Nat} (h2 : 2 ≤ S.length) (hL : 1 ≤ L) (hf : S.length ≤ 2 ^ L) :
    countsOf (S.map (nth F)) L = taking (S.map (nth F)) L (2 * S.length - 2) ∧ 2 * S.length - 2 ≤ (rows (S.map (nth F)) L).length := by
  refine ⟨by unfold countsOf; rw [List.length_map, if_neg (by omega)], ?_⟩
  have := rows_enough (S.map (nth F)) L (by simpa using hf) (by simpa using h2) hL
  simpa using this

theorem nth_map {S : List Nat} (f : Nat → Nat) {p : Nat} (hp : p < S.length) : nth (S.map f) p = f S[p] := by
  rw [nth_lt (by simpa using hp)]; simp

/-- A sum over all symbols is one over the places of those whose frequency is above 0. -/
theorem sum_rare {F S : List Nat} (h : Rare F S) (g f : Nat → Nat) (h0 : ∀ i, i < F.length → nth F i = 0 → g i = 0) (e : ∀ p (hp : p < S.length), g S[p] = f p) : sumTo g F.length = sumTo f S.length := by
  rw [sum_over g F.length _ S h.perm (fun i hi hq => h0 i hi (by simpa using hq)), sum_places S g f e]

theorem lengths_at {F S : List Nat} (h : Rare F S) (L : Nat) {p : Nat} (hp : p < S.length) : nth (lengths F S L) S[p] = lenAt (countsOf (S.map (nth F)) L) p :=
  lensOf_at h.nodup _ _ hp ((h.mem _).1 (List.getElem_mem hp)).1

theorem lengths_zero {F S : List Nat} (h : Rare F S) (L i : Nat) (hi : i < F.length) (h0 : nth F i = 0) : nth (lengths F S L) i = 0 :=
  lensOf_not _ _ _ hi (fun hm => by have := ((h.mem i).1 hm).2; omega)

theorem lengths_length (F S : List Nat) (L : Nat) : (lengths F S L).length = F.length := lensOf_length _ _ _

/-- Each length comes of a place. -/
theorem rare_at {F S : List Nat} (h : Rare F S) {i : Nat} (hi : i < F.length) (h0 : 0 < nth F i) : ∃ p, ∃ hp : p < S.length, S[p] = i := by
  have := (h.mem i).2 ⟨hi, h0⟩
  obtain ⟨p, hp, e⟩ := List.getElem_of_mem this
  exact ⟨p, hp, e⟩

theorem cost_lengths {F S : List Nat} (h : Rare F S) (L : Nat) : cost F (lengths F S L) = sumTo (fun p => nth (S.map (nth F)) p * lenAt (countsOf (S.map (nth F)) L) p) S.length :=
  sum_rare h _ _ (fun i hi h0 => by rw [h0, Nat.zero_mul]) (fun p hp => by rw [lengths_at h L hp, nth_map _ hp])

/-- THE COST: the lightest 2n - 2 things of the last row. -/
theorem cost_two {F S : List Nat} (h : Rare F S) {L : Nat} (h2 : 2 ≤ S.length) (hL : 1 ≤ L) (hf : S.length ≤ 2 ^ L) :
    cost F (lengths F S L) = sumTo (nth (rows (S.map (nth F)) L)) (2 * S.length - 2) := by
  obtain ⟨e, hle⟩ := counts_two h h2 hL hf
  have hd := taking_desc h.upW h.posW L _ hle
  rw [cost_lengths h, e, ← taking_cost _ _ _ hle]
  have := lens_cost (S.map (nth F)) (taking (S.map (nth F)) L (2 * S.length - 2)) hd.all
  rw [List.length_map] at this
  exact this

/-- Such lengths fill up. -/
theorem lengths_full {F S : List Nat} (h : Rare F S) {L : Nat} (h2 : 2 ≤ S.length) (hL : 1 ≤ L) (hf : S.length ≤ 2 ^ L) :
    (∀ p, p < S.length → 0 < lenAt (countsOf (S.map (nth F)) L) p) ∧ kraft L (lengths F S L) = 2 ^ L := by
  obtain ⟨e, hle⟩ := counts_two h h2 hL hf
  have hd := taking_desc h.upW h.posW L _ hle
  have hv := taking_val _ _ _ hle
  have hw := lens_weigh _ _ hd
  rw [taking_length] at hw
  have hl : (countsOf (S.map (nth F)) L).length = L := by rw [e, taking_length]
  rw [← e] at hv hw
  rw [List.length_map] at hw
  have hsum : sumTo (fun p => 2 ^ (L - lenAt (countsOf (S.map (nth F)) L) p)) S.length = 2 ^ L := by
    obtain ⟨m, hm⟩ : ∃ m, S.length = m + 2 := ⟨S.length - 2, by omega⟩
    rw [hm] at hv hw ⊢
    generalize 2 ^ L = z at *
    rw [show 2 * (m + 2) - 2 = 2 * (m + 1) from by omega, Nat.mul_assoc] at hv
    rw [Nat.add_mul] at hv hw
    omega
  have hpos : ∀ p, p < S.length → 0 < lenAt (countsOf (S.map (nth F)) L) p := by
    intro p hp
    refine Nat.pos_of_ne_zero fun h0 => ?_
    obtain ⟨q, hq, hqp⟩ : ∃ q, q < S.length ∧ q ≠ p := by
      by_cases c : p = 0
      · exact ⟨1, by omega, by omega⟩
      · exact ⟨0, by omega, by omega⟩
    have h1 : ∀ a b : Nat, a < b → b < S.length → (fun p => 2 ^ (L - lenAt (countsOf (S.map (nth F)) L) p)) a + (fun p => 2 ^ (L - lenAt (countsOf (S.map (nth F)) L) p)) b ≤ sumTo (fun p => 2 ^ (L - lenAt (countsOf (S.map (nth F)) L) p)) S.length := by
      intro a b hab hb
      generalize (fun p => 2 ^ (L - lenAt (countsOf (S.map (nth F)) L) p)) = f
      obtain ⟨d, hd⟩ : ∃ d, S.length = b + d := ⟨S.length - b, by omega⟩
      have i1 := sumTo_member (f := f) (n := b) (i := a) hab
      have i2 := sumTo_member (f := fun j => f (b + j)) (n := d) (i := 0) (by omega)
      rw [hd, sumTo_split]
      simp only [Nat.add_zero] at i2
      omega
    have h2 : 0 < 2 ^ (L - lenAt (countsOf (S.map (nth F)) L) q) := Nat.two_pow_pos _
    have h3 : 2 ^ (L - lenAt (countsOf (S.map (nth F)) L) p) = 2 ^ L := by rw [h0, Nat.sub_zero]
    rcases Nat.lt_or_ge p q with c | c
    · have := h1 p q c hq
      simp only at this
      omega
    · have := h1 q p (by omega) hp
      simp only at this
      omega
  refine ⟨hpos, ?_⟩
  rw [← hsum]
  unfold kraft
  rw [lengths_length]
  refine sum_rare h _ _ (fun i hi h0 => by rw [lengths_zero h L i hi h0, if_pos rfl]) (fun p hp => ?_)
  have := hpos p hp
  rw [lengths_at h L hp, if_neg (by omega)]

/-- THE LENGTHS ARE A CHOICE. -/
theorem lengths_choice {F S : List Nat} (h : Rare F S) {L : Nat} (hL : 1 ≤ L) (hf : S.length ≤ 2 ^ L) : Choice F L (lengths F S L) := by
  have hn := pos_perm_length h
  by_cases h2 : 2 ≤ S.length
  · obtain ⟨hpos, hfull⟩ := lengths_full h h2 hL hf
    obtain ⟨e, hle⟩ := counts_two h h2 hL hf
    refine ⟨lengths_length _ _ _, fun i hi => ?_, fun i hi => ?_, fun _ => hfull, fun h1 => by omega⟩
    · by_cases h0 : 0 < nth F i
      · obtain ⟨p, hp, rfl⟩ := rare_at h hi h0
        rw [lengths_at h L hp]
        exact ⟨fun _ => h0, fun _ => hpos p hp⟩
      · rw [lengths_zero h L i hi (by omega)]
        exact ⟨fun h => by omega, fun h => absurd h h0⟩
    · by_cases h0 : 0 < nth F i
      · obtain ⟨p, hp, rfl⟩ := rare_at h hi h0
        rw [lengths_at h L hp]
        have := lenAt_le (countsOf (S.map (nth F)) L) p
        rw [e, taking_length] at this
        rw [e]
        exact this
      · rw [lengths_zero h L i hi (by omega)]; exact Nat.zero_le _
  · have e : countsOf (S.map (nth F)) L = [S.length] := by unfold countsOf; rw [List.length_map, if_pos (by omega)]
    have hone : ∀ i, i < F.length → nth (lengths F S L) i = if 0 < nth F i then 1 else 0 := by
      intro i hi
      by_cases h0 : 0 < nth F i
      · obtain ⟨p, hp, rfl⟩ := rare_at h hi h0
        rw [lengths_at h L hp, e, if_pos h0]
        simp [lenAt, hp]
      · rw [lengths_zero h L i hi (by omega), if_neg h0]
    refine ⟨lengths_length _ _ _, fun i hi => ?_, fun i hi => ?_, fun h1 => by omega, fun _ i hi => ?_⟩
    · rw [hone i hi]; split <;> simp_all
    · rw [hone i hi]; split <;> omega
    · rw [hone i hi]; split <;> omega

/-- THE LEAST COST. -/
theorem lengths_best {F S O : List Nat} (h : Rare F S) {L : Nat} (hL : 1 ≤ L) (hf : S.length ≤ 2 ^ L) (hO : Choice F L O) : cost F (lengths F S L) ≤ cost F O := by
  have hn := pos_perm_length h
  by_cases h2 : 2 ≤ S.length
  · have := choice_least hO h.upW h.weights (by simpa using h2)
    rw [List.length_map] at this
    rw [cost_two h h2 hL hf]
    exact this.2
  · have hC := lengths_choice h hL hf
    have e : ∀ O, Choice F L O → cost F O = sumTo (nth F) F.length := fun O hO => sumTo_congr fun i hi => by
      have h1 := hO.one (by omega) i hi
      have h2 := hO.some i hi
      by_cases c : 0 < nth F i
      · have := h2.2 c
        rw [show nth O i = 1 from by omega, Nat.mul_one]
      · rw [show nth F i = 0 from by omega, Nat.zero_mul]
    rw [e _ hC, e _ hO]
    exact Nat.le_refl _

/-- WHO IS MORE FREQUENT HAS NO LONGER WORD. -/
theorem lengths_fall {F S : List Nat} (h : Rare F S) (L : Nat) {i k : Nat} (hi : i < F.length) (hk : k < F.length) (h0 : 0 < nth F k) (hlt : nth F k < nth F i) : nth (lengths F S L) i ≤ nth (lengths F S L) k := by
  obtain ⟨p, hp, rfl⟩ := rare_at h hi (by omega)
  obtain ⟨q, hq, rfl⟩ := rare_at h hk h0
  rw [lengths_at h L hp, lengths_at h L hq]
  refine lenAt_falls _ (Nat.le_of_not_lt fun c => ?_)
  have := h.upW p q (by omega) (by simpa using hq)
  rw [nth_map _ hp, nth_map _ hq] at this
  omega

/-- The same weights, whatever the order of symbols. -/
theorem weights_one {F S F' S' : List Nat} (h : Rare F S) (h' : Rare F' S') (e : (pos F).Perm (pos F')) : S.map (nth F) = S'.map (nth F') :=
  List.Perm.eq_of_pairwise (le := (· ≤ ·)) (fun _ _ _ _ h1 h2 => Nat.le_antisymm h1 h2) h.up h'.up (h.weights.trans (e.trans h'.weights.symm))

/-- The same cost. -/
theorem cost_one {F S F' S' : List Nat} (h : Rare F S) (h' : Rare F' S') (e : (pos F).Perm (pos F')) (L : Nat) : cost F (lengths F S L) = cost F' (lengths F' S' L) := by
  have hw := weights_one h h' e
  have hl : S.length = S'.length := by
    have := congrArg List.length hw
    simpa using this
  rw [cost_lengths h, cost_lengths h', hw, hl]

/-- As many symbols as words of the limit's length. -/
theorem lengths_tight {F S : List Nat} (h : Rare F S) {L : Nat} (hL : 1 ≤ L) (hf : S.length = 2 ^ L) {i : Nat} (hi : i < F.length) (h0 : 0 < nth F i) : nth (lengths F S L) i = L := by
  have h2 : 2 ≤ S.length := by
    rw [hf]
    have := Nat.pow_le_pow_right (n := 2) (by omega) hL
    omega
  obtain ⟨hpos, hfull⟩ := lengths_full h h2 hL (by omega)
  have hC := lengths_choice h hL (by omega)
  have e : kraft L (lengths F S L) = sumTo (fun p => 2 ^ (L - lenAt (countsOf (S.map (nth F)) L) p)) S.length := by
    unfold kraft
    rw [lengths_length]
    refine sum_rare h _ _ (fun i hi h0 => by rw [lengths_zero h L i hi h0, if_pos rfl]) (fun p hp => ?_)
    have := hpos p hp
    rw [lengths_at h L hp, if_neg (by omega)]
  rw [hfull] at e
  have hle := hC.limit i hi
  refine Nat.le_antisymm hle (Nat.le_of_not_lt fun hlt => ?_)
  obtain ⟨p, hp, rfl⟩ := rare_at h hi h0
  rw [lengths_at h L hp] at hlt hle
  have : ∀ n, p < n → n < sumTo (fun p => 2 ^ (L - lenAt (countsOf (S.map (nth F)) L) p)) n := by
    intro n hn
    induction n with
    | zero => omega
    | succ n ih =>
      rw [sumTo]
      have h1 : 0 < 2 ^ (L - lenAt (countsOf (S.map (nth F)) L) n) := Nat.two_pow_pos _
      by_cases e : p = n
      · subst e
        have h3 : 2 ^ 1 ≤ 2 ^ (L - lenAt (countsOf (S.map (nth F)) L) p) := Nat.pow_le_pow_right (by omega) (by omega)
        have h4 : ∀ m, m ≤ sumTo (fun p => 2 ^ (L - lenAt (countsOf (S.map (nth F)) L) p)) m := by
          intro m
          have := sumTo_le (f := fun _ => 1) (g := fun p => 2 ^ (L - lenAt (countsOf (S.map (nth F)) L) p)) (n := m) (fun j _ => Nat.two_pow_pos _)
          rw [sumTo_const] at this
          omega
        have := h4 p
        omega
      · have := ih (by omega)
        omega
  have := this S.length hp
  omega

end Go.Proofs.YtpcbhmkalofkmaaGreat.Limit
