/-
  Plain facts: the best lengths for frequencies may be put. No program. No conditions.
-/
import Derived.Test.YtpcbhmkalofkmaaGreatGV
import Derived.Test.YtpcbhmkalofkmaaGreatGD
import Derived.Test.YtpcbhmkalofkmaaGreatGH
namespace Go.Proofs.YtpcbhmkalofkmaaGreat.Hd
open Kraft Limit

theorem weight_kraft (O : List Nat) (h : ∀ i, i < O.length → nth O i ≤ 15) : weight O = 32 * kraft 15 O := by
  unfold weight kraft
  rw [← sumTo_mul]
  refine sumTo_congr fun j hj => ?_
  have hj15 := h j hj
  show Kraft.part (nth O j) = _
  unfold Kraft.part
  by_cases h0 : nth O j = 0
  · rw [if_pos h0, if_pos h0]
  · rw [if_neg h0, if_neg h0, show 20 - nth O j = 5 + (15 - nth O j) from by omega, Nat.pow_add]

theorem somes_pos : ∀ O : List Nat, somes O O.length = (pos O).length
  | [] => rfl
  | o :: O => by
    have ih := somes_pos O
    unfold somes at ih ⊢
    rw [List.length_cons, Nat.add_comm O.length 1, sumTo_split]
    have e : sumTo (fun j => if len (o :: O) (1 + j) = 0 then 0 else 1) O.length = sumTo (fun j => if len O j = 0 then 0 else 1) O.length :=
      sumTo_congr fun j _ => by rw [show len (o :: O) (1 + j) = len O j from by unfold len; rw [Nat.add_comm]; simp]
    rw [e, ih]
    show 0 + (if o = 0 then 0 else 1) + (pos O).length = (pos (o :: O)).length
    unfold pos
    by_cases h : o = 0
    · subst h; simp
    · rw [List.filter_cons_of_pos (by simp; omega), if_neg h, List.length_cons]; omega

theorem ones_somes (O : List Nat) (h : ∀ i, i < O.length → nth O i ≤ 1) : ones O O.length = somes O O.length := by
  unfold ones somes
  refine sumTo_congr fun j hj => ?_
  have := h j hj
  show (if nth O j = 1 then 1 else 0) = if nth O j = 0 then 0 else 1
  split <;> split <;> omega

/-- The best lengths: full, or one word of one bit, or none. -/
theorem choice_kind {F O : List Nat} (h : Choice F 15 O) : low15 O = true ∧ (full O = true ∨ single O = true ∨ ((pos F).length = 0 ∧ weight O = 0)) := by
  have hl := h.length
  have h15 : ∀ i, i < O.length → nth O i ≤ 15 := fun i hi => h.limit i (by omega)
  have hw := weight_kraft O h15
  refine ⟨?_, ?_⟩
  · unfold low15
    rw [List.all_eq_true]
    intro x hx
    obtain ⟨i, hi, rfl⟩ := List.getElem_of_mem hx
    have := h15 i hi
    rw [nth_lt hi] at this
    exact decide_eq_true this
  · by_cases h2 : 2 ≤ (pos F).length
    · left
      unfold full
      rw [hw, h.full h2]
      decide
    · have h1 := h.one (by omega)
      have hp := pos_length_eq h.length h.some
      have hs := somes_pos O
      have ho := ones_somes O (fun i hi => h1 i (by omega))
      by_cases h3 : (pos F).length = 1
      · right; left
        unfold single
        rw [ho, hs, hp, h3]
        decide
      · right; right
        refine ⟨by omega, ?_⟩
        rw [hw]
        have : kraft 15 O = 0 := by
          unfold kraft
          refine sumTo_zero fun j hj => ?_
          have hz : pos O = [] := List.eq_nil_of_length_eq_zero (by omega)
          have : nth O j = 0 := by
            by_cases h0 : 0 < nth O j
            · have hm : nth O j ∈ pos O := by
                unfold pos
                rw [List.mem_filter]
                exact ⟨by rw [nth_lt hj]; exact List.getElem_mem hj, decide_eq_true h0⟩
              rw [hz] at hm
              cases hm
            · omega
          rw [if_pos this]
        rw [this]

theorem choice_may {F P G Q : List Nat} (hP : Choice F 15 P) (hQ : Choice G 15 Q) (h1 : 257 ≤ F.length) (h2 : F.length ≤ 286) (h256 : 0 < nth F 256) (h3 : 1 ≤ G.length) (h4 : G.length ≤ 30) : mayH P Q = true := by
  obtain ⟨p1, p2⟩ := choice_kind hP
  obtain ⟨q1, q2⟩ := choice_kind hQ
  have hlp := hP.length
  have hlq := hQ.length
  have h5 : len P 256 ≠ 0 := by
    have := (hP.some 256 (by omega)).2 h256
    show nth P 256 ≠ 0
    omega
  have hf : (pos F).length ≠ 0 := by
    intro e
    have hz : pos F = [] := List.eq_nil_of_length_eq_zero e
    have hm : nth F 256 ∈ pos F := by
      unfold pos
      rw [List.mem_filter]
      exact ⟨by rw [nth_lt (by omega)]; exact List.getElem_mem _, decide_eq_true h256⟩
    rw [hz] at hm
    cases hm
  unfold mayH
  rw [decide_eq_true ⟨by omega, by omega, by omega, by omega, h5⟩, p1, q1]
  have e1 : (full P || single P) = true := by
    rcases p2 with h | h | ⟨h, _⟩
    · rw [h]; rfl
    · rw [h]; simp
    · exact absurd h hf
  have e2 : (full Q || decide (weight Q = 0) || single Q) = true := by
    rcases q2 with h | h | ⟨_, h⟩
    · rw [h]; rfl
    · rw [h]; simp
    · rw [decide_eq_true h]; simp
  rw [e1, e2]
  rfl

end Go.Proofs.YtpcbhmkalofkmaaGreat.Hd
