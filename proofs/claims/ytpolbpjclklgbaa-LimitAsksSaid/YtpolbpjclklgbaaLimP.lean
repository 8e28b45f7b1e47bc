/-
  Plain facts for layer 5: rows of things put together out of symbols and pairs, the lightest first; what the first of them weigh; that no other way costs less. No program. No conditions.
-/
import Derived.Test.YtpolbpjclklgbaaKrP
namespace Go.Proofs.Ytpolbpjclklgbaa.Limit
open Go.Proofs.Ytpolbpjclklgbaa.Kraft

/-- The i-th, or 0. -/
def nth (X : List Nat) (i : Nat) : Nat := X.getD i 0

theorem nth_lt {X : List Nat} {i : Nat} (h : i < X.length) : nth X i = X[i] := by unfold nth; rw [List.getD_eq_getElem?_getD, List.getElem?_eq_getElem h]; rfl
theorem nth_ge {X : List Nat} {i : Nat} (h : X.length ≤ i) : nth X i = 0 := by unfold nth; rw [List.getD_eq_getElem?_getD, List.getElem?_eq_none h]; rfl

theorem sumTo_split (f : Nat → Nat) (a b : Nat) : sumTo f (a + b) = sumTo f a + sumTo (fun j => f (a + j)) b := by
  induction b with
  | zero => rfl
  | succ b ih => rw [← Nat.add_assoc, sumTo, ih, sumTo, Nat.add_assoc]

/-- Numbers that do not fall. -/
def Up (X : List Nat) : Prop := ∀ i j, i ≤ j → j < X.length → nth X i ≤ nth X j

theorem up_of {X : List Nat} (h : ∀ i, i + 1 < X.length → nth X i ≤ nth X (i + 1)) : Up X := by
  intro i j hij hj
  induction j with
  | zero => have : i = 0 := by omega
            subst this; exact Nat.le_refl _
  | succ j ih =>
    by_cases e : i = j + 1
    · subst e; exact Nat.le_refl _
    · exact Nat.le_trans (ih (by omega) (by omega)) (h j hj)

/-- Is the i-th thing the next symbol, if n symbols stand ahead? -/
def pick (X Y : List Nat) (i n : Nat) : Bool := decide (i - n = Y.length) || (decide (n < X.length) && decide (nth X n ≤ nth Y (i - n)))

/-- How many of the first i things are symbols. -/
def cnt (X Y : List Nat) : Nat → Nat
  | 0 => 0
  | i + 1 => if pick X Y i (cnt X Y i) then cnt X Y i + 1 else cnt X Y i

/-- The i-th thing. -/
def thing (X Y : List Nat) (i : Nat) : Nat := if pick X Y i (cnt X Y i) then nth X (cnt X Y i) else nth Y (i - cnt X Y i)

/-- All things. -/
def merged (X Y : List Nat) : List Nat := (List.range (X.length + Y.length)).map (thing X Y)

/-- Two and two. -/
def paired (X : List Nat) : List Nat := (List.range (X.length / 2)).map fun i => nth X (2 * i) + nth X (2 * i + 1)

theorem merged_length (X Y : List Nat) : (merged X Y).length = X.length + Y.length := by simp [merged]
theorem paired_length (X : List Nat) : (paired X).length = X.length / 2 := by simp [paired]
theorem merged_nth {X Y : List Nat} {i : Nat} (h : i < X.length + Y.length) : nth (merged X Y) i = thing X Y i := by
  rw [nth_lt (by rw [merged_length]; exact h)]; simp [merged]
theorem paired_nth {X : List Nat} {i : Nat} (h : i < X.length / 2) : nth (paired X) i = nth X (2 * i) + nth X (2 * i + 1) := by
  rw [nth_lt (by rw [paired_length]; exact h)]; simp [paired]

theorem pick_true {X Y : List Nat} {i n : Nat} (h : pick X Y i n = true) : i - n = Y.length ∨ (n < X.length ∧ nth X n ≤ nth Y (i - n)) := by
  unfold pick at h; simpa using h
theorem pick_false {X Y : List Nat} {i n : Nat} (h : pick X Y i n = false) : i - n ≠ Y.length ∧ (n < X.length → nth Y (i - n) < nth X n) := by
  unfold pick at h
  simp at h
  exact ⟨h.1, fun hn => by have := h.2 hn; omega⟩

theorem cnt_true {X Y : List Nat} {i : Nat} (h : pick X Y i (cnt X Y i) = true) : cnt X Y (i + 1) = cnt X Y i + 1 := by rw [cnt, if_pos h]
theorem cnt_false {X Y : List Nat} {i : Nat} (h : pick X Y i (cnt X Y i) = false) : cnt X Y (i + 1) = cnt X Y i := by rw [cnt, if_neg (by simp [h])]
theorem thing_true {X Y : List Nat} {i : Nat} (h : pick X Y i (cnt X Y i) = true) : thing X Y i = nth X (cnt X Y i) := by rw [thing, if_pos h]
theorem thing_false {X Y : List Nat} {i : Nat} (h : pick X Y i (cnt X Y i) = false) : thing X Y i = nth Y (i - cnt X Y i) := by rw [thing, if_neg (by simp [h])]

theorem cnt_bounds (X Y : List Nat) (i : Nat) (h : i ≤ X.length + Y.length) : cnt X Y i ≤ i ∧ cnt X Y i ≤ X.length ∧ i - cnt X Y i ≤ Y.length := by
  induction i with
  | zero => simp [cnt]
  | succ i ih =>
    obtain ⟨h1, h2, h3⟩ := ih (by omega)
    cases hp : pick X Y i (cnt X Y i) with
    | true =>
      rw [cnt_true hp]
      rcases pick_true hp with e | ⟨e, _⟩ <;> omega
    | false =>
      rw [cnt_false hp]
      have := (pick_false hp).1
      omega

theorem thing_sum (X Y : List Nat) (t : Nat) (h : t ≤ X.length + Y.length) : sumTo (thing X Y) t = sumTo (nth X) (cnt X Y t) + sumTo (nth Y) (t - cnt X Y t) := by
  induction t with
  | zero => rfl
  | succ t ih =>
    obtain ⟨h1, h2, h3⟩ := cnt_bounds X Y t (by omega)
    rw [sumTo, ih (by omega)]
    cases hp : pick X Y t (cnt X Y t) with
    | true =>
      rw [thing_true hp, cnt_true hp, sumTo, show t + 1 - (cnt X Y t + 1) = t - cnt X Y t from by omega]; omega
    | false =>
      rw [thing_false hp, cnt_false hp, show t + 1 - cnt X Y t = (t - cnt X Y t) + 1 from by omega, sumTo]; omega

/-- What is taken is no heavier than what is not. -/
theorem cnt_inv {X Y : List Nat} (hX : Up X) (hY : Up Y) (t : Nat) (h : t ≤ X.length + Y.length) :
    (∀ j k, cnt X Y t ≤ j → j < X.length → k < t - cnt X Y t → nth Y k ≤ nth X j) ∧ (∀ j k, j < cnt X Y t → t - cnt X Y t ≤ k → k < Y.length → nth X j ≤ nth Y k) := by
  induction t with
  | zero => exact ⟨fun j k _ _ hk => absurd hk (by omega), fun j k hj => absurd hj (by simp [cnt])⟩
  | succ t ih =>
    obtain ⟨h1, h2, h3⟩ := cnt_bounds X Y t (by omega)
    obtain ⟨i1, i2⟩ := ih (by omega)
    cases hp : pick X Y t (cnt X Y t) with
    | true =>
      rw [cnt_true hp]
      refine ⟨fun j k hj hjx hk => i1 j k (by omega) hjx (by omega), fun j k hj hk hky => ?_⟩
      by_cases e : j = cnt X Y t
      · subst e
        rcases pick_true hp with e | ⟨_, e⟩
        · omega
        · exact Nat.le_trans e (hY _ _ (by omega) hky)
      · exact i2 j k (by omega) (by omega) hky
    | false =>
      rw [cnt_false hp]
      obtain ⟨p1, p2⟩ := pick_false hp
      refine ⟨fun j k hj hjx hk => ?_, fun j k hj hk hky => i2 j k hj (by omega) hky⟩
      by_cases e : k = t - cnt X Y t
      · subst e
        have h5 := p2 (by omega)
        have h6 := hX _ _ hj hjx
        omega
      · exact i1 j k hj hjx (by omega)

theorem merged_up {X Y : List Nat} (hX : Up X) (hY : Up Y) : Up (merged X Y) := by
  refine up_of fun i hi => ?_
  rw [merged_length] at hi
  rw [merged_nth (by omega), merged_nth hi]
  obtain ⟨a1, a2, a3⟩ := cnt_bounds X Y i (by omega)
  obtain ⟨b1, b2, b3⟩ := cnt_bounds X Y (i + 1) (by omega)
  obtain ⟨c1, c2, c3⟩ := cnt_bounds X Y (i + 1 + 1) (by omega)
  obtain ⟨i1, i2⟩ := cnt_inv hX hY (i + 1) (by omega)
  cases hp : pick X Y i (cnt X Y i) with
  | true =>
    rw [thing_true hp]
    have e1 := cnt_true hp
    cases hq : pick X Y (i + 1) (cnt X Y (i + 1)) with
    | true =>
      have e2 := cnt_true hq
      rw [thing_true hq]
      exact hX _ _ (by omega) (by omega)
    | false =>
      have e2 := cnt_false hq
      rw [thing_false hq]
      exact i2 _ _ (by omega) (by omega) (by omega)
  | false =>
    rw [thing_false hp]
    have e1 := cnt_false hp
    cases hq : pick X Y (i + 1) (cnt X Y (i + 1)) with
    | true =>
      have e2 := cnt_true hq
      rw [thing_true hq]
      exact i1 _ _ (by omega) (by omega) (by omega)
    | false =>
      have e2 := cnt_false hq
      rw [thing_false hq]
      exact hY _ _ (by omega) (by omega)

/-- The first things weigh no more than as many of both, however many of each. -/
theorem merged_least {X Y : List Nat} (hX : Up X) (hY : Up Y) (a b : Nat) (ha : a ≤ X.length) (hb : b ≤ Y.length) : sumTo (thing X Y) (a + b) ≤ sumTo (nth X) a + sumTo (nth Y) b := by
  obtain ⟨h1, h2, h3⟩ := cnt_bounds X Y (a + b) (by omega)
  obtain ⟨i1, i2⟩ := cnt_inv hX hY (a + b) (by omega)
  rw [thing_sum X Y (a + b) (by omega)]
  generalize cnt X Y (a + b) = c at h1 h2 h3 i1 i2
  by_cases hc : c ≤ a
  · obtain ⟨m, rfl⟩ : ∃ m, a = c + m := ⟨a - c, by omega⟩
    rw [show c + m + b - c = b + m from by omega, sumTo_split _ c m, sumTo_split _ b m]
    have := sumTo_le (f := fun j => nth Y (b + j)) (g := fun j => nth X (c + j)) (n := m) (fun j hj => i1 _ _ (by omega) (by omega) (by omega))
    omega
  · obtain ⟨m, rfl⟩ : ∃ m, c = a + m := ⟨c - a, by omega⟩
    obtain ⟨d, hd⟩ : ∃ d, b = d + m := ⟨b - m, by omega⟩
    subst hd
    rw [show a + (d + m) - (a + m) = d from by omega, sumTo_split _ a m, sumTo_split _ d m]
    have := sumTo_le (f := fun j => nth X (a + j)) (g := fun j => nth Y (d + j)) (n := m) (fun j hj => i2 _ _ (by omega) (by omega) (by omega))
    omega

theorem paired_up {X : List Nat} (h : Up X) : Up (paired X) := by
  refine up_of fun i hi => ?_
  rw [paired_length] at hi
  rw [paired_nth (by omega), paired_nth hi]
  have h1 := h (2 * i) (2 * (i + 1)) (by omega) (by omega)
  have h2 := h (2 * i + 1) (2 * (i + 1) + 1) (by omega) (by omega)
  omega

theorem paired_sum (X : List Nat) (p : Nat) (h : p ≤ X.length / 2) : sumTo (nth (paired X)) p = sumTo (nth X) (2 * p) := by
  induction p with
  | zero => rfl
  | succ p ih =>
    rw [sumTo, ih (by omega), paired_nth (by omega), show 2 * (p + 1) = 2 * p + 1 + 1 from by omega, sumTo, sumTo]; omega

/-- The things behind so many rows. -/
def rows (W : List Nat) : Nat → List Nat
  | 0 => []
  | j + 1 => merged W (paired (rows W j))

theorem rows_length (W : List Nat) (j : Nat) : (rows W (j + 1)).length = W.length + (rows W j).length / 2 := by
  rw [rows, merged_length, paired_length]

theorem rows_up {W : List Nat} (h : Up W) (j : Nat) : Up (rows W j) := by
  induction j with
  | zero => exact fun i j _ hj => absurd hj (by simp [rows])
  | succ j ih => exact merged_up h (paired_up ih)

/-- How many symbols each row takes, the last row first. -/
def taking (W : List Nat) : Nat → Nat → List Nat
  | 0, _ => []
  | j + 1, t => cnt W (paired (rows W j)) t :: taking W j (2 * (t - cnt W (paired (rows W j)) t))

theorem taking_length (W : List Nat) (j t : Nat) : (taking W j t).length = j := by
  induction j generalizing t with
  | zero => rfl
  | succ j ih => rw [taking, List.length_cons, ih]

/-- What is taken of a row comes of the row ahead. -/
theorem taking_next {W : List Nat} {j t : Nat} (h : t ≤ (rows W (j + 1)).length) :
    cnt W (paired (rows W j)) t ≤ t ∧ cnt W (paired (rows W j)) t ≤ W.length ∧ t - cnt W (paired (rows W j)) t ≤ (rows W j).length / 2 ∧ 2 * (t - cnt W (paired (rows W j)) t) ≤ (rows W j).length := by
  rw [rows_length] at h
  have := cnt_bounds W (paired (rows W j)) t (by rw [paired_length]; exact h)
  rw [paired_length] at this
  omega

theorem rows_sum {W : List Nat} {j t : Nat} (h : t ≤ (rows W (j + 1)).length) : sumTo (nth (rows W (j + 1))) t = sumTo (thing W (paired (rows W j))) t :=
  sumTo_congr fun i hi => by
    rw [rows, merged_nth]
    rw [rows, merged_length] at h
    omega

theorem taking_cost (W : List Nat) (j t : Nat) (h : t ≤ (rows W j).length) : ((taking W j t).map (sumTo (nth W))).sum = sumTo (nth (rows W j)) t := by
  induction j generalizing t with
  | zero => have : t = 0 := by simpa [rows] using h
            subst this; rfl
  | succ j ih =>
    obtain ⟨h1, h2, h3, h4⟩ := taking_next h
    rw [taking, List.map_cons, List.sum_cons, ih _ h4, rows_sum h, thing_sum _ _ _ (by rw [paired_length, ← rows_length]; exact h), paired_sum _ _ h3]

/-- What a row of counts weighs: the last one 1, each one ahead twice as much. -/
def valL : List Nat → Nat
  | [] => 0
  | c :: r => c * 2 ^ r.length + valL r

theorem taking_val (W : List Nat) (j t : Nat) (h : t ≤ (rows W j).length) : 2 * valL (taking W j t) = t * 2 ^ j := by
  induction j generalizing t with
  | zero => have : t = 0 := by simpa [rows] using h
            subst this; rfl
  | succ j ih =>
    obtain ⟨h1, h2, h3, h4⟩ := taking_next h
    rw [taking, valL, taking_length, Nat.mul_add, ih _ h4, Nat.pow_succ]
    generalize cnt W (paired (rows W j)) t = c at *
    obtain ⟨d, rfl⟩ : ∃ d, t = c + d := ⟨t - c, by omega⟩
    rw [show c + d - c = d from by omega]
    generalize 2 ^ j = z
    rw [Nat.add_mul, Nat.mul_comm z 2, Nat.mul_left_comm 2 c z, Nat.mul_assoc 2 d z, Nat.mul_left_comm d 2 z, Nat.mul_left_comm c 2 z]

/-- THE LOWER BOUND: counts that weigh as much cost no less than the lightest things. -/
theorem taking_least {W : List Nat} (hW : Up W) (C : List Nat) (t : Nat) (hC : ∀ c ∈ C, c ≤ W.length) (hv : 2 * valL C = t * 2 ^ C.length) :
    t ≤ (rows W C.length).length ∧ sumTo (nth (rows W C.length)) t ≤ (C.map (sumTo (nth W))).sum := by
  induction C generalizing t with
  | nil =>
    have : t = 0 := by simpa [valL] using hv.symm
    subst this
    exact ⟨Nat.zero_le _, Nat.le_refl _⟩
  | cons c r ih =>
    rw [valL, List.length_cons, Nat.pow_succ, Nat.mul_add] at hv
    have hz : 0 < 2 ^ r.length := Nat.two_pow_pos _
    have hle : c ≤ t := by
      generalize 2 ^ r.length = z at hv hz
      rw [← Nat.mul_assoc, Nat.mul_comm t, Nat.mul_comm z 2, Nat.mul_assoc 2 z t] at hv
      have h1 : z * c ≤ z * t := by
        have : 2 * c * z = 2 * (z * c) := by rw [Nat.mul_assoc, Nat.mul_comm c z]
        omega
      exact Nat.le_of_mul_le_mul_left h1 hz
    obtain ⟨d, rfl⟩ : ∃ d, t = c + d := ⟨t - c, by omega⟩
    have hv2 : 2 * valL r = (2 * d) * 2 ^ r.length := by
      generalize 2 ^ r.length = z at hv
      have e1 : 2 * (c * z) = c * (z * 2) := by rw [Nat.mul_comm z 2, Nat.mul_left_comm c 2 z]
      have e2 : 2 * d * z = d * (z * 2) := by rw [Nat.mul_comm z 2, Nat.mul_left_comm d 2 z, Nat.mul_assoc]
      rw [Nat.add_mul] at hv
      omega
    obtain ⟨h1, h2⟩ := ih (2 * d) (fun c hc => hC c (by simp [hc])) hv2
    have hc := hC c (by simp)
    refine ⟨?_, ?_⟩
    · rw [List.length_cons, rows_length]; omega
    · rw [List.length_cons, List.map_cons, List.sum_cons, rows_sum (by rw [rows_length]; omega)]
      have h3 := merged_least hW (paired_up (rows_up hW r.length)) c d hc (by rw [paired_length]; omega)
      rw [paired_sum _ _ (by omega)] at h3
      omega

theorem cnt_hit {X Y : List Nat} {c t : Nat} (h : c < cnt X Y t) : ∃ i, i < t ∧ cnt X Y i = c ∧ pick X Y i c = true := by
  induction t with
  | zero => simp [cnt] at h
  | succ t ih =>
    cases hp : pick X Y t (cnt X Y t) with
    | true =>
      rw [cnt_true hp] at h
      by_cases e : c = cnt X Y t
      · subst e; exact ⟨t, by omega, rfl, hp⟩
      · obtain ⟨i, h1, h2⟩ := ih (by omega); exact ⟨i, by omega, h2⟩
    | false =>
      rw [cnt_false hp] at h
      obtain ⟨i, h1, h2⟩ := ih h
      exact ⟨i, by omega, h2⟩

theorem thing_pos {X Y : List Nat} (hX : ∀ i, i < X.length → 0 < nth X i) (hY : ∀ i, i < Y.length → 0 < nth Y i) (i : Nat) (h : i < X.length + Y.length) : 0 < thing X Y i := by
  obtain ⟨a1, a2, a3⟩ := cnt_bounds X Y i (by omega)
  obtain ⟨b1, b2, b3⟩ := cnt_bounds X Y (i + 1) (by omega)
  cases hp : pick X Y i (cnt X Y i) with
  | true => rw [thing_true hp]; have := cnt_true hp; exact hX _ (by omega)
  | false => rw [thing_false hp]; have := cnt_false hp; exact hY _ (by omega)

theorem rows_pos {W : List Nat} (hW : ∀ i, i < W.length → 0 < nth W i) (j : Nat) : ∀ i, i < (rows W j).length → 0 < nth (rows W j) i := by
  induction j with
  | zero => intro i hi; simp [rows] at hi
  | succ j ih =>
    intro i hi
    have hi' : i < W.length + (paired (rows W j)).length := by rwa [rows, merged_length] at hi
    rw [rows, merged_nth hi']
    refine thing_pos hW (fun k hk => ?_) i hi'
    rw [paired_length] at hk
    rw [paired_nth hk]
    have := ih (2 * k) (by omega)
    omega

/-- A row takes no more symbols than the row behind it. -/
theorem taking_falls {W : List Nat} (hU : Up W) (hW : ∀ i, i < W.length → 0 < nth W i) {j t : Nat} (h : t ≤ (rows W (j + 2)).length) :
    cnt W (paired (rows W j)) (2 * (t - cnt W (paired (rows W (j + 1))) t)) ≤ cnt W (paired (rows W (j + 1))) t := by
  obtain ⟨h1, h2, h3, h4⟩ := taking_next h
  have hinv := (cnt_inv hU (paired_up (rows_up hU (j + 1))) t (by rw [paired_length, ← rows_length]; exact h)).1
  generalize cnt W (paired (rows W (j + 1))) t = c at *
  rcases Nat.lt_or_ge c (cnt W (paired (rows W j)) (2 * (t - c))) with hlt | hge
  · exfalso
    obtain ⟨i, hi, hc, hp⟩ := cnt_hit hlt
    have hb := cnt_bounds W (paired (rows W j)) (2 * (t - c)) (by rw [paired_length, ← rows_length]; omega)
    have hcw : c < W.length := by omega
    have hk := hinv c (i / 2) (Nat.le_refl _) hcw (by omega)
    have hi2 : i < W.length + (paired (rows W j)).length := by rw [paired_length, ← rows_length]; omega
    have ht : nth (rows W (j + 1)) i = nth W c := by
      rw [rows, merged_nth hi2, thing_true (by rw [hc]; exact hp), hc]
    rw [paired_nth (by omega)] at hk
    have p1 := rows_pos hW (j + 1) (2 * (i / 2)) (by omega)
    have p2 := rows_pos hW (j + 1) (2 * (i / 2) + 1) (by omega)
    rcases Nat.mod_two_eq_zero_or_one i with e | e
    · rw [show i = 2 * (i / 2) from by omega] at ht; omega
    · rw [show i = 2 * (i / 2) + 1 from by omega] at ht
      omega
  · exact hge

/-- Counts that do not rise. -/
def Desc : Nat → List Nat → Prop
  | _, [] => True
  | b, c :: r => c ≤ b ∧ Desc c r

theorem Desc.all {b : Nat} {C : List Nat} (h : Desc b C) : ∀ c ∈ C, c ≤ b := by
  induction C generalizing b with
  | nil => simp
  | cons c r ih =>
    intro x hx
    rcases List.mem_cons.1 hx with rfl | hx
    · exact h.1
    · exact Nat.le_trans (ih h.2 x hx) h.1

theorem taking_desc {W : List Nat} (hU : Up W) (hW : ∀ i, i < W.length → 0 < nth W i) (j t : Nat) (h : t ≤ (rows W j).length) : Desc W.length (taking W j t) := by
  induction j generalizing t with
  | zero => trivial
  | succ j ih =>
    obtain ⟨h1, h2, h3, h4⟩ := taking_next h
    have h5 := ih _ h4
    refine ⟨h2, ?_⟩
    cases j with
    | zero => trivial
    | succ j => exact ⟨taking_falls hU hW h, h5.2⟩

/-- The length that comes of counts, at a place. -/
def lenAt (C : List Nat) (p : Nat) : Nat := C.countP fun c => decide (p < c)

theorem lenAt_cons (c : Nat) (r : List Nat) (p : Nat) : lenAt (c :: r) p = lenAt r p + if p < c then 1 else 0 := by
  unfold lenAt; rw [List.countP_cons]; simp

theorem lenAt_le (C : List Nat) (p : Nat) : lenAt C p ≤ C.length := List.countP_le_length

theorem lenAt_falls (C : List Nat) {p q : Nat} (h : p ≤ q) : lenAt C q ≤ lenAt C p := by
  unfold lenAt
  exact List.countP_mono_left fun c _ hc => by simp at hc ⊢; omega

theorem lenAt_zero {C : List Nat} {p : Nat} (h : ∀ c ∈ C, c ≤ p) : lenAt C p = 0 := by
  unfold lenAt
  rw [List.countP_eq_zero]
  intro c hc
  have := h c hc
  simp; omega

theorem sumTo_const (c n : Nat) : sumTo (fun _ => c) n = n * c := by
  induction n with
  | zero => simp [sumTo]
  | succ n ih => rw [sumTo, ih, Nat.succ_mul]

/-- Of lengths that come of counts: what the words weigh. -/
theorem lens_weigh (C : List Nat) (n : Nat) (h : Desc n C) : sumTo (fun p => 2 ^ (C.length - lenAt C p)) n + valL C = n * 2 ^ C.length := by
  induction C generalizing n with
  | nil => simp [lenAt, valL, sumTo_const]
  | cons c r ih =>
    have h1 := ih c h.2
    have hall := h.2.all
    obtain ⟨d, hd⟩ : ∃ d, n = c + d := ⟨n - c, by have := h.1; omega⟩
    subst hd
    rw [sumTo_split]
    have e1 : sumTo (fun p => 2 ^ ((c :: r).length - lenAt (c :: r) p)) c = sumTo (fun p => 2 ^ (r.length - lenAt r p)) c :=
      sumTo_congr fun p hp => by
        rw [lenAt_cons, if_pos hp, List.length_cons]
        congr 1
        omega
    have e2 : sumTo (fun p => 2 ^ ((c :: r).length - lenAt (c :: r) (c + p))) d = sumTo (fun _ => 2 * 2 ^ r.length) d :=
      sumTo_congr fun p hp => by
        rw [lenAt_cons, if_neg (by omega), lenAt_zero (fun x hx => by have := hall x hx; omega), List.length_cons, Nat.sub_zero, Nat.pow_succ, Nat.mul_comm]
    rw [e1, e2, sumTo_const, valL, List.length_cons, Nat.pow_succ]
    generalize 2 ^ r.length = z at *
    rw [Nat.add_mul, Nat.mul_comm z 2]
    have e3 : c * (2 * z) = 2 * (c * z) := Nat.mul_left_comm _ _ _
    omega

/-- .. and what they cost. -/
theorem lens_cost (W C : List Nat) (h : ∀ c ∈ C, c ≤ W.length) : sumTo (fun p => nth W p * lenAt C p) W.length = (C.map (sumTo (nth W))).sum := by
  induction C with
  | nil => simp only [lenAt, List.countP_nil, Nat.mul_zero, List.map_nil, List.sum_nil]; exact sumTo_zero fun _ _ => rfl
  | cons c r ih =>
    rw [List.map_cons, List.sum_cons, ← ih (fun x hx => h x (by simp [hx]))]
    have hc := h c (by simp)
    obtain ⟨d, hd⟩ : ∃ d, W.length = c + d := ⟨W.length - c, by omega⟩
    have e1 : sumTo (fun p => nth W p * lenAt (c :: r) p) W.length = sumTo (fun p => (if p < c then nth W p else 0) + nth W p * lenAt r p) W.length :=
      sumTo_congr fun p _ => by
        rw [lenAt_cons, Nat.mul_add]
        split <;> simp <;> omega
    rw [e1, sumTo_add, hd, sumTo_split (fun p => if p < c then nth W p else 0)]
    have e2 : sumTo (fun p => if p < c then nth W p else 0) c = sumTo (nth W) c := sumTo_congr fun p hp => by rw [if_pos hp]
    have e3 : sumTo (fun j => if c + j < c then nth W (c + j) else 0) d = 0 := sumTo_zero fun p hp => by rw [if_neg (by omega)]
    rw [e2, e3, Nat.add_zero]

end Go.Proofs.Ytpolbpjclklgbaa.Limit
