/-
  Contracts of package pressworklaw05: picks, sum, choice. No conditions but those of the calls.
-/
import Derived.Test.YtakkfdibiboofaaLimL
import Derived.Test.YtakkfdibiboofaaKrA
import Derived.Test.YtakkfdibiboofaaStr
namespace Go.Proofs.Ytakkfdibiboofaa.Limit
open Go.RowKit
open Go.Proofs.Ytakkfdibiboofaa.Kraft

/-- Lengths of frequencies that are known: by their weights, the lightest first. -/
theorem lengths_known (F W E C : List Nat) (L : Nat) (hW : W.Perm (pos F)) (hU : W.Pairwise (· ≤ ·)) (hC : countsOf W L = C) (hE : E.length = F.length)
    (h : ∀ i, i < F.length → if 0 < nth F i then ∀ p, p < W.length → nth W p = nth F i → lenAt C p = nth E i else nth E i = 0) : lengths F (rare F) L = E := by
  have hr := rare_is F
  have hw : (rare F).map (nth F) = W := List.Perm.eq_of_pairwise (le := (· ≤ ·)) (fun _ _ _ _ h1 h2 => Nat.le_antisymm h1 h2) hr.up hU (hr.weights.trans hW.symm)
  refine List.ext_getElem (by rw [lengths_length, hE]) fun i h1 h2 => ?_
  rw [← nth_lt h1, ← nth_lt h2]
  have hi : i < F.length := by rwa [lengths_length] at h1
  have hh := h i hi
  by_cases h0 : 0 < nth F i
  · rw [if_pos h0] at hh
    obtain ⟨p, hp, hpi⟩ := rare_at hr hi h0
    have hm : nth W p = nth F i := by rw [← hw, nth_map _ hp, hpi]
    have := hh p (by rw [← hw]; simpa using hp) hm
    rw [← this, ← hC, ← hw, ← hpi]
    exact lengths_at hr L hp
  · rw [if_neg h0] at hh
    rw [hh, lengths_zero hr L i hi (by omega)]

theorem known_3321 : lengths [1, 1, 2, 4] (rare [1, 1, 2, 4]) 3 = [3, 3, 2, 1] :=
  lengths_known _ [1, 1, 2, 4] _ [4, 3, 2] 3 (List.Perm.refl _) (by decide) (by kernel_rfl) rfl (by decide)

theorem rare_len (F : List Nat) : (rare F).length = (pos F).length := pos_perm_length (rare_is F)

/-- Where the error is none. -/
theorem errOf_ok {xs : List Int} {L : Int} (h : fitsB xs L = true) (hf : (pos (xs.map Int.toNat)).length ≤ 2 ^ L.toNat) : errOf xs L = 0 := by
  have hn : ¬ 2 ^ L.toNat < (pos (xs.map Int.toNat)).length := Nat.not_lt.2 hf
  unfold errOf
  rw [h, rare_len, if_neg hn]
  rfl

theorem lensAns_ok {xs : List Int} {L : Int} (h : errOf xs L = 0) : lensAns xs L = lengths (xs.map Int.toNat) (rare (xs.map Int.toNat)) L.toNat := by
  unfold lensAns; rw [if_pos h]

/-- What lengths cost. -/
theorem cost_le (F O : List Nat) (hF : ∀ f ∈ F, f ≤ 2199023255552) (hO : ∀ o ∈ O, o < 256) (hl : O.length = F.length) (k : Nat) (hk : k ≤ F.length) : sumTo (fun i => nth F i * nth O i) k ≤ k * 562949953421312 := by
  refine sumTo_bound fun i hi => ?_
  have h1 := hF _ (List.getElem_mem (show i < F.length by omega))
  have h2 := hO _ (List.getElem_mem (show i < O.length by omega))
  rw [nth_lt (by omega), nth_lt (by omega)]
  have := Nat.mul_le_mul h1 (Nat.le_of_lt h2)
  omega

/-! choice. -/

theorem weight_kraft (O : List Nat) (L : Nat) (hL : L ≤ 20) (h : ∀ i, i < O.length → nth O i ≤ L) : weight O = kraft L O * 2 ^ (20 - L) := by
  have e : weight O = sumTo (fun j => Kraft.part (nth O j)) O.length := rfl
  rw [e]
  unfold kraft
  rw [Nat.mul_comm, ← sumTo_mul]
  refine sumTo_congr fun j hj => ?_
  have := h j hj
  by_cases h0 : nth O j = 0
  · rw [if_pos h0, h0]; rfl
  · rw [part_eq _ (by omega), if_neg h0, ← Nat.pow_add]
    congr 1
    omega

theorem full_iff (O : List Nat) (L : Nat) (hL : L ≤ 17) (hl : O.length ≤ 512) (h : ∀ i, i < O.length → nth O i ≤ L) : classAns O = .tuple #[.int .u8 2, .int .i64 0] ↔ kraft L O = 2 ^ L := by
  have hm : may O = true := (may_iff O).2 ⟨hl, fun x hx => by
    obtain ⟨i, hi, rfl⟩ := nth_mem hx
    have := h i hi
    omega⟩
  have hw := weight_kraft O L (by omega) h
  have hp : 2 ^ L * 2 ^ (20 - L) = 1048576 := by rw [← Nat.pow_add, show L + (20 - L) = 20 from by omega]
  have hz : 0 < 2 ^ (20 - L) := Nat.two_pow_pos _
  unfold classAns
  rw [if_pos hm]
  constructor
  · intro e
    have e1 : class_ (weight O) = 2 := by
      simp at e
      omega
    have e2 : weight O = 1048576 := by
      unfold class_ at e1
      split at e1
      · omega
      · split at e1
        · omega
        · split at e1 <;> omega
    rw [e2, ← hp] at hw
    exact (Nat.eq_of_mul_eq_mul_right hz hw).symm
  · intro e
    rw [e, hp] at hw
    rw [hw]
    rfl

end Go.Proofs.Ytakkfdibiboofaa.Limit
