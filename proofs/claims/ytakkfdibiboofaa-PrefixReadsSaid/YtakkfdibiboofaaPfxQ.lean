/-
  Plain facts for stage 6: what is laid is got, whatever stands ahead of it and behind. No conditions but that lengths are 20 at most and not over.
-/
import Derived.Test.YtakkfdibiboofaaPfxE
namespace Go.Proofs.Ytakkfdibiboofaa
open Kraft

theorem rest_split (f : Nat → Bool) (m p : Nat) : ∀ M : List Bool, p + M.length ≤ m → (∀ j, j < M.length → f (p + j) = M.getD j false) → rest f m p = M ++ rest f m (p + M.length)
  | [], _, _ => rfl
  | b :: M, h, hf => by
    rw [List.length_cons] at h
    have h0 := hf 0 (by simp)
    have ih := rest_split f m (p + 1) M (by omega) (fun j hj => by
      have := hf (j + 1) (by rw [List.length_cons]; omega)
      rw [show p + 1 + j = p + (j + 1) from by omega, this]
      rfl)
    rw [rest_on _ _ _ (by omega), ih, List.length_cons, show p + 1 + M.length = p + (M.length + 1) from by omega]
    rw [show f p = b from h0]
    rfl

/-- A row of symbols as bits. -/
def enc (L : List Nat) (D : List Nat) : List Bool := D.flatMap fun (s : Nat) => wordBits L (s : Int)

theorem enc_snoc (L D : List Nat) (s : Nat) : enc L (D ++ [s]) = enc L D ++ wordBits L (s : Int) := by simp [enc]
theorem bitsAtSym_nat (L : List Nat) (s : Nat) : bitsAtSym L (s : Int) = len L s := by
  unfold bitsAtSym
  rw [if_neg (by omega), Int.toNat_natCast]
theorem wordBits_nat (L : List Nat) (s : Nat) : wordBits L (s : Int) = top (word L s) (len L s) (len L s) := by
  unfold wordBits
  rw [bitsAtSym_nat, Int.toNat_natCast]
theorem wordBits_none (L : List Nat) (s : Nat) (h : len L s = 0) : wordBits L (s : Int) = [] := by
  rw [wordBits_nat, h]
  rfl
theorem enc_at (L D : List Nat) (k : Nat) (hk : k < D.length) : enc L D = enc L (D.take k) ++ wordBits L ((D[k] : Nat) : Int) ++ enc L (D.drop (k + 1)) := by
  have e : D = D.take k ++ D[k] :: D.drop (k + 1) := by rw [List.getElem_cons_drop, List.take_append_drop]
  exact (congrArg (enc L) e).trans (by unfold enc; rw [List.flatMap_append, List.flatMap_cons, List.append_assoc])
theorem enc_take (L D : List Nat) (k : Nat) (hk : k < D.length) : (enc L (D.take (k + 1))).length = (enc L (D.take k)).length + len L D[k] := by
  rw [List.take_succ_eq_append_getElem hk, enc_snoc, List.length_append, wordBits_length, bitsAtSym_nat]

namespace Low

theorem bitAt_more (l : List Bool) (bh : List Nat) (p : Nat) (h : p < l.length) : bitAt (pk l ++ bh) p = l.getD p false := by
  rw [← bitAt_pk]
  unfold bitAt
  congr 3
  have : p / 8 < (pk l).length := by rw [pk_length]; omega
  rw [getD_in _ _ (by rw [List.length_append]; omega), getD_in _ _ this, List.getElem_append_left this]

theorem got_row {L : List Nat} (h20 : ∀ j, len L j ≤ 20) (hw : weight L ≤ 1048576) (A C : List Bool) (bh : List Nat) (k : Nat) (hk : k < L.length) (h0 : 0 < len L k) :
    got L (pk (A ++ wordBits L (k : Int) ++ C) ++ bh) A.length = (len L k, (k : Int), 0) := by
  unfold got
  have hl : (wordBits L (k : Int)).length = len L k := by rw [wordBits_length, bitsAtSym_nat]
  rw [rest_split _ _ _ (wordBits L (k : Int)) (by rw [List.length_append, pk_length, List.length_append, List.length_append]; omega) (fun j hj => by
    rw [bitAt_more _ _ _ (by rw [List.length_append, List.length_append]; omega), getD_in _ _ hj, getD_in _ _ (by rw [List.length_append, List.length_append]; omega),
      List.getElem_append_left (by rw [List.length_append]; omega), List.getElem_append_right (by omega)]
    congr 1
    omega)]
  rw [wordBits_nat]
  exact seek_put h20 hw k hk h0 _

/-- What is put is got. -/
theorem got_enc {L : List Nat} (h20 : ∀ j, len L j ≤ 20) (hw : weight L ≤ 1048576) (D : List Nat) (hD : ∀ s ∈ D, s < L.length ∧ 0 < len L s) (bh : List Nat) (k : Nat) (hk : k < D.length) :
    got L (pk (enc L D) ++ bh) (enc L (D.take k)).length = (len L D[k], (D[k] : Int), 0) := by
  obtain ⟨h1, h2⟩ := hD _ (List.getElem_mem hk)
  rw [enc_at L D k hk]
  exact got_row h20 hw _ _ bh _ h1 h2

end Low

namespace High

theorem bitAt_more (l : List Bool) (bh : List Nat) (p : Nat) (h : p < l.length) : Msb.bitAt (Msb.pk l ++ bh) p = l.getD p false := by
  rw [← Msb.bitAt_pk]
  unfold Msb.bitAt
  congr 3
  have : p / 8 < (Msb.pk l).length := by rw [Msb.pk_length]; omega
  rw [getD_in _ _ (by rw [List.length_append]; omega), getD_in _ _ this, List.getElem_append_left this]

theorem got_row {L : List Nat} (h20 : ∀ j, len L j ≤ 20) (hw : weight L ≤ 1048576) (A C : List Bool) (bh : List Nat) (k : Nat) (hk : k < L.length) (h0 : 0 < len L k) :
    got L (Msb.pk (A ++ wordBits L (k : Int) ++ C) ++ bh) A.length = (len L k, (k : Int), 0) := by
  unfold got
  have hl : (wordBits L (k : Int)).length = len L k := by rw [wordBits_length, bitsAtSym_nat]
  rw [rest_split _ _ _ (wordBits L (k : Int)) (by rw [List.length_append, Msb.pk_length, List.length_append, List.length_append]; omega) (fun j hj => by
    rw [bitAt_more _ _ _ (by rw [List.length_append, List.length_append]; omega), getD_in _ _ hj, getD_in _ _ (by rw [List.length_append, List.length_append]; omega),
      List.getElem_append_left (by rw [List.length_append]; omega), List.getElem_append_right (by omega)]
    congr 1
    omega)]
  rw [wordBits_nat]
  exact seek_put h20 hw k hk h0 _

/-- What is put is got. -/
theorem got_enc {L : List Nat} (h20 : ∀ j, len L j ≤ 20) (hw : weight L ≤ 1048576) (D : List Nat) (hD : ∀ s ∈ D, s < L.length ∧ 0 < len L s) (bh : List Nat) (k : Nat) (hk : k < D.length) :
    got L (Msb.pk (enc L D) ++ bh) (enc L (D.take k)).length = (len L D[k], (D[k] : Int), 0) := by
  obtain ⟨h1, h2⟩ := hD _ (List.getElem_mem hk)
  rw [enc_at L D k hk]
  exact got_row h20 hw _ _ bh _ h1 h2

end High
end Go.Proofs.Ytakkfdibiboofaa
