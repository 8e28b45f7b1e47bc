/-
  Plain facts for LimitFree: the two least of a row are brought to its end by swaps, and put together. No program. No conditions.
-/
import Derived.Test.YtpolbpjclklgbaaLimH
namespace Go.Proofs.Ytpolbpjclklgbaa.Limit
open Go.Proofs.Ytpolbpjclklgbaa.Kraft

def swap (P : List Nat) (i n : Nat) : List Nat := (P.set i (nth P n)).set n (nth P i)

theorem swap_length (P : List Nat) (i n : Nat) : (swap P i n).length = P.length := by simp [swap]

theorem swap_perm {P : List Nat} {i n : Nat} (hi : i < P.length) (hn : n < P.length) : (swap P i n).Perm P := by
  unfold swap
  rw [nth_lt hi, nth_lt hn]
  exact List.set_set_perm hi hn

theorem nth_swap {P : List Nat} {i n : Nat} (hi : i < P.length) (hn : n < P.length) (j : Nat) : nth (swap P i n) j = if j = n then nth P i else if j = i then nth P n else nth P j := by
  unfold swap
  by_cases e : j = n
  · subst e
    rw [if_pos rfl]
    unfold nth
    rw [List.getD_eq_getElem?_getD, List.getElem?_set, if_pos rfl, if_pos (by simpa using hn)]
    rfl
  · rw [if_neg e]
    by_cases e2 : j = i
    · subst e2
      rw [if_pos rfl]
      unfold nth
      rw [List.getD_eq_getElem?_getD, List.getElem?_set, if_neg (fun x => e x.symm), List.getElem?_set, if_pos rfl, if_pos hi]
      rfl
    · rw [if_neg e2]
      unfold nth
      rw [List.getD_eq_getElem?_getD, List.getElem?_set, if_neg (fun x => e x.symm), List.getElem?_set, if_neg (fun x => e2 x.symm), List.getD_eq_getElem?_getD]

theorem swap_least {P : List Nat} {i n : Nat} (hin : i < n) (hn : n < P.length) (h : ∀ j, j < i → nth P n ≤ nth P j) (hlt : nth P i < nth P n) : ∀ j, j < i + 1 → nth (swap P i n) n ≤ nth (swap P i n) j := by
  intro j hj
  rw [nth_swap (by omega) hn, if_pos rfl, nth_swap (by omega) hn, if_neg (by omega)]
  by_cases e : j = i
  · rw [if_pos e]; omega
  · rw [if_neg e]; have := h j (by omega); omega

theorem swap_last {P : List Nat} {i n : Nat} (hin : i < n) (hn : n + 1 < P.length) (h : ∀ j, j < P.length - 1 → nth P (P.length - 1) ≤ nth P j) : ∀ j, j < P.length - 1 → nth (swap P i n) (P.length - 1) ≤ nth (swap P i n) j := by
  intro j hj
  rw [nth_swap (by omega) (by omega), if_neg (by omega), if_neg (by omega), nth_swap (by omega) (by omega)]
  by_cases e : j = n
  · rw [if_pos e]; exact h i (by omega)
  · rw [if_neg e]
    by_cases e2 : j = i
    · rw [if_pos e2]; exact h n (by omega)
    · rw [if_neg e2]; exact h j hj

/-- The two last ones, together. -/
def both (P : List Nat) : Nat := nth P (P.length - 1) + nth P (P.length - 2)
def joined (P : List Nat) : List Nat := P.take (P.length - 2) ++ [both P]
noncomputable def rem (P : List Nat) : Nat := if 2 ≤ P.length then best P 17 else 0

theorem parts (P : List Nat) (h2 : 2 ≤ P.length) : P.Perm (nth P (P.length - 1) :: nth P (P.length - 2) :: P.take (P.length - 2)) := by
  have e : P = P.take (P.length - 2) ++ [nth P (P.length - 2), nth P (P.length - 1)] := by
    refine List.ext_getElem? (fun j => ?_)
    by_cases h : j < P.length - 2
    · rw [List.getElem?_append_left (by rw [List.length_take]; omega), List.getElem?_take, if_pos h]
    · rw [List.getElem?_append_right (by rw [List.length_take]; omega), List.length_take, Nat.min_eq_left (by omega)]
      by_cases h3 : j = P.length - 2
      · subst h3
        rw [Nat.sub_self, List.getElem?_eq_getElem (by omega), nth_lt (by omega)]
        rfl
      · by_cases h4 : j = P.length - 1
        · subst h4
          rw [show P.length - 1 - (P.length - 2) = 1 from by omega, List.getElem?_eq_getElem (by omega), nth_lt (i := P.length - 1) (by omega)]
          rfl
        · rw [List.getElem?_eq_none (by omega), List.getElem?_eq_none (by simp; omega)]
  have h1 : (P.take (P.length - 2) ++ [nth P (P.length - 2), nth P (P.length - 1)]).Perm (nth P (P.length - 1) :: nth P (P.length - 2) :: P.take (P.length - 2)) :=
    List.perm_append_comm.trans (List.Perm.swap _ _ _)
  rw [← e] at h1
  exact h1

theorem joined_length (P : List Nat) (h2 : 2 ≤ P.length) : (joined P).length = P.length - 1 := by
  unfold joined
  rw [List.length_append, List.length_take, List.length_singleton]
  omega

theorem joined_sum (P : List Nat) (h2 : 2 ≤ P.length) : (joined P).sum = P.sum := by
  rw [(parts P h2).sum_nat]
  unfold joined both
  simp
  omega

theorem joined_pos {P : List Nat} (h2 : 2 ≤ P.length) (h : ∀ x ∈ P, 0 < x) : ∀ x ∈ joined P, 0 < x := by
  intro x hx
  unfold joined at hx
  rcases List.mem_append.1 hx with hx | hx
  · exact h x (List.mem_of_mem_take hx)
  · obtain rfl := List.mem_singleton.1 hx
    have := h (nth P (P.length - 1)) (by rw [nth_lt (by omega)]; exact List.getElem_mem _)
    unfold both
    omega

theorem joined_best {P : List Nat} (h2 : 2 ≤ P.length) (h17 : P.length ≤ 17) (h0 : ∀ x ∈ P, 0 < x) (hA : ∀ j, j < P.length - 1 → nth P (P.length - 1) ≤ nth P j) (hB : ∀ j, j < P.length - 2 → nth P (P.length - 2) ≤ nth P j) :
    best P 17 = both P + rem (joined P) := by
  have hp := parts P h2
  have hpa : 0 < nth P (P.length - 1) := h0 _ (by rw [nth_lt (by omega)]; exact List.getElem_mem _)
  have hpb : 0 < nth P (P.length - 2) := h0 _ (by rw [nth_lt (by omega)]; exact List.getElem_mem _)
  unfold rem
  rw [joined_length P h2]
  by_cases h3 : 2 ≤ P.length - 1
  · rw [if_pos h3]
    have hs := best_step (L := 17) hp h0 (fun x hx => by
      obtain ⟨j, hj, rfl⟩ := List.getElem_of_mem hx
      rw [List.length_take] at hj
      rw [List.getElem_take, ← nth_lt (show j < P.length by omega)]
      exact ⟨hA j (by omega), hB j (by omega)⟩) (by rw [List.length_take]; omega) (by rw [List.length_take]; omega)
    rw [hs]
    unfold joined both
    congr 1
    exact best_perm (List.perm_append_comm (l₁ := [nth P (P.length - 1) + nth P (P.length - 2)]) (l₂ := P.take (P.length - 2))) 17
  · rw [if_neg h3, Nat.add_zero]
    have e : P.take (P.length - 2) = [] := List.eq_nil_of_length_eq_zero (by rw [List.length_take]; omega)
    rw [e] at hp
    exact best_two hp hpa hpb (by omega)

theorem mem_le_sum : ∀ {P : List Nat} {x : Nat}, x ∈ P → x ≤ P.sum
  | y :: P, x, h => by
    rw [List.sum_cons]
    rcases List.mem_cons.1 h with rfl | h
    · omega
    · have := mem_le_sum h
      omega

theorem sum_bounded (c : Nat) : ∀ (P : List Nat), (∀ x ∈ P, x ≤ c) → P.sum ≤ P.length * c
  | [], _ => Nat.zero_le _
  | y :: P, h => by
    have h1 := h y List.mem_cons_self
    have h2 := sum_bounded c P (fun x hx => h x (List.mem_cons_of_mem _ hx))
    rw [List.sum_cons, List.length_cons, Nat.succ_mul]
    omega

end Go.Proofs.Ytpolbpjclklgbaa.Limit
