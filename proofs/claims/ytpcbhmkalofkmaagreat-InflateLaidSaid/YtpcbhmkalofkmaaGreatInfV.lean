/-
  Plain facts for stage 10: how often symbols come up; the best lengths have words for all of them. No program. No conditions.
-/
import Derived.Test.YtpcbhmkalofkmaaGreatGO
import Derived.Test.YtpcbhmkalofkmaaGreatHdB
namespace Go.Proofs.YtpcbhmkalofkmaaGreat.Inf
open Kraft Hd Limit

/-- One more. -/
def tick (F : List Nat) (i : Nat) : List Nat := F.set i (nth F i + 1)

theorem tick_length (F : List Nat) (i : Nat) : (tick F i).length = F.length := by unfold tick; rw [List.length_set]
theorem tick_at (F : List Nat) (i j : Nat) (hj : j < F.length) : nth (tick F i) j = nth F j + if i = j then 1 else 0 := by
  unfold tick
  rw [nth_lt (by rw [List.length_set]; exact hj), List.getElem_set]
  split
  · rename_i h; rw [h]
  · rw [nth_lt hj]; rfl

def tickAll (F : List Nat) (is : List Nat) : List Nat := is.foldl tick F

theorem tickAll_length : ∀ (is F : List Nat), (tickAll F is).length = F.length
  | [], _ => rfl
  | i :: is, F => by
    show (tickAll (tick F i) is).length = _
    rw [tickAll_length is, tick_length]
theorem tickAll_le : ∀ (is F : List Nat) (j : Nat), j < F.length → nth F j ≤ nth (tickAll F is) j
  | [], _, _, _ => Nat.le_refl _
  | i :: is, F, j, hj => by
    show _ ≤ nth (tickAll (tick F i) is) j
    have h1 := tickAll_le is (tick F i) j (by rw [tick_length]; exact hj)
    have h2 := tick_at F i j hj
    omega
theorem tickAll_pos : ∀ (is F : List Nat) (j : Nat), j < F.length → j ∈ is → 0 < nth (tickAll F is) j
  | [], _, _, _, h => by cases h
  | i :: is, F, j, hj, h => by
    show 0 < nth (tickAll (tick F i) is) j
    have hl : j < (tick F i).length := by rw [tick_length]; exact hj
    rcases List.mem_cons.1 h with rfl | h
    · have h1 := tickAll_le is (tick F j) j hl
      have h2 := tick_at F j j hj
      rw [if_pos rfl] at h2
      omega
    · exact tickAll_pos is (tick F i) j hl h

/-- What symbols tokens take, and how often they come up. -/
def symA (t : Tok.Tk) : Nat := if Tok.isB t then t.2.2 else (Tok.lenAns t.1).1
def litTo (l : List Tok.Tk) : List Nat := tickAll ((List.replicate 286 0).set 256 1) (l.map symA)
def disTo (l : List Tok.Tk) : List Nat := tickAll (List.replicate 30 0) ((l.filter fun t => !Tok.isB t).map fun t => (Tok.disAns t.2.1).1)

theorem litTo_length (l : List Tok.Tk) : (litTo l).length = 286 := by unfold litTo; rw [tickAll_length, List.length_set, List.length_replicate]
theorem disTo_length (l : List Tok.Tk) : (disTo l).length = 30 := by unfold disTo; rw [tickAll_length, List.length_replicate]

theorem litTo_end (l : List Tok.Tk) : 0 < nth (litTo l) 256 := by
  have h := tickAll_le (l.map symA) ((List.replicate 286 0).set 256 1) 256 (by rw [List.length_set, List.length_replicate]; omega)
  have e : nth ((List.replicate 286 0).set 256 1) 256 = 1 := by decide +kernel
  unfold litTo
  omega

theorem nth_len (L : List Nat) (i : Nat) : nth L i = len L i := rfl

/-- The best lengths for tokens have words for them all, and for the end. -/
theorem best_has {l : List Tok.Tk} {P Q : List Nat} (hP : Choice (litTo l) 15 P) (hQ : Choice (disTo l) 15 Q) : (256 < P.length ∧ 0 < len P 256) ∧ ∀ t ∈ l, Tok.may t = true → t.2.2 < 256 → Has P Q t := by
  have hPl := hP.length
  have hQl := hQ.length
  rw [litTo_length] at hPl
  rw [disTo_length] at hQl
  refine ⟨⟨by omega, ?_⟩, fun t ht hm hb => ?_⟩
  · rw [← nth_len]
    exact (hP.some 256 (by rw [litTo_length]; omega)).2 (litTo_end l)
  have hA : ∀ s, symA t = s → s < 286 → s < P.length ∧ 0 < len P s := fun s hs h => by
    refine ⟨by omega, ?_⟩
    rw [← nth_len]
    refine (hP.some s (by rw [litTo_length]; exact h)).2 ?_
    exact tickAll_pos _ _ s (by rw [List.length_set, List.length_replicate]; exact h) (List.mem_map.2 ⟨t, ht, hs⟩)
  unfold Has
  cases h : Tok.isB t with
  | true =>
    rw [if_pos rfl]
    exact ⟨hb, hA _ (by unfold symA; rw [if_pos h]) (by omega)⟩
  | false =>
    simp only [Bool.false_eq_true, if_false]
    obtain ⟨_, l1, l2, d1, d2⟩ := Tok.may_rep hm h
    obtain ⟨n, hn⟩ : ∃ n : Nat, t.1 = (n : Int) := ⟨t.1.toNat, by omega⟩
    obtain ⟨f, hf⟩ : ∃ f : Nat, t.2.1 = (f : Int) := ⟨t.2.1.toNat, by omega⟩
    obtain ⟨i, hi, e1, _⟩ := len_says n (by omega) (by omega)
    obtain ⟨j, hj, g1, _⟩ := dis_says f (by omega) (by omega)
    refine ⟨hA _ (by unfold symA; rw [h]; rfl) (by rw [hn, e1]; simp only; omega), ?_⟩
    have hd : (Tok.disAns t.2.1).1 < 30 := by rw [hf, g1]; simp only; omega
    refine ⟨by omega, ?_⟩
    rw [← nth_len]
    refine (hQ.some _ (by rw [disTo_length]; exact hd)).2 ?_
    exact tickAll_pos _ _ _ (by rw [List.length_replicate]; exact hd) (List.mem_map.2 ⟨t, List.mem_filter.2 ⟨ht, by rw [h]; rfl⟩, rfl⟩)

end Go.Proofs.YtpcbhmkalofkmaaGreat.Inf
