/-
  HdV, one behind the other (merged by wip/merge.py). No conditions but those that each states.
-/
import Derived.Test.YtmcjbkfiipmgeaaGreatGV
import Derived.Test.YtmcjbkfiipmgeaaGreatGC
import Derived.Test.YtmcjbkfiipmgeaaGreatGB

/-
  Bytes as a row of bits, the lowest first; two rows of bytes as one thing; what header's Get, Put and Size answer, over things. No conditions.
-/
namespace Go.Proofs.YtmcjbkfiipmgeaaGreat.Hd
open Go.RowKit Kraft

/-- The bits of bytes. -/
def row (xs : List Nat) : List Bool := rest (bitAt xs) (8 * xs.length) 0

theorem row_length (xs : List Nat) : (row xs).length = 8 * xs.length := by simp [row, rest]

theorem row_get (xs : List Nat) (i : Nat) (h : i < (row xs).length) : (row xs)[i] = bitAt xs i := by simp [row, rest]

theorem drop_rest (f : Nat → Bool) (m p : Nat) : rest f m p = (rest f m 0).drop p := by
  refine List.ext_getElem (by simp [rest]) (fun i h1 h2 => ?_)
  simp [rest]

theorem bitsAt_get (xs : List Nat) (p : Nat) : ∀ (n i : Nat) (h : i < (bitsAt xs p n).length), (bitsAt xs p n)[i] = bitAt xs (p + i)
  | 0, _, h => by simp [bitsAt] at h
  | n + 1, i, h => by
    have hl := bitsAt_length xs p n
    rw [bitsAt_length] at h
    have e : bitsAt xs p (n + 1) = bitsAt xs p n ++ [bitAt xs (p + n)] := rfl
    by_cases hi : i < n
    · rw [List.getElem_of_eq e, List.getElem_append_left (by omega), bitsAt_get xs p n i (by omega)]
    · obtain rfl : i = n := by omega
      rw [List.getElem_of_eq e, List.getElem_append_right (by omega)]
      simp

theorem nm_row (xs : List Nat) (p n : Nat) (h : p + n ≤ 8 * xs.length) : nm (row xs) p n = num (bitsAt xs p n) := by
  unfold nm
  congr 1
  refine List.ext_getElem (by rw [List.length_take, List.length_drop, row_length, bitsAt_length]; omega) (fun i h1 h2 => ?_)
  rw [List.getElem_take, List.getElem_drop, row_get, bitsAt_get]

theorem bitAt_in (xs ys : List Nat) (i : Nat) (h : i < 8 * xs.length) : bitAt (xs ++ ys) i = bitAt xs i := by
  unfold bitAt
  rw [getD_in _ _ (by rw [List.length_append]; omega), getD_in _ _ (by omega : i / 8 < xs.length), List.getElem_append_left (by omega)]

theorem row_append (xs ys : List Nat) : row (xs ++ ys) = row xs ++ (row (xs ++ ys)).drop (8 * xs.length) := by
  conv => lhs; rw [← List.take_append_drop (8 * xs.length) (row (xs ++ ys))]
  congr 1
  refine List.ext_getElem (by rw [List.length_take, row_length, row_length, List.length_append]; omega) (fun i h1 h2 => ?_)
  rw [List.getElem_take, row_get, row_get]
  exact bitAt_in xs ys i (by rw [row_length] at h2; exact h2)

/-- A packed row, and what stands behind it. -/
theorem row_pk (l : List Bool) : ∃ C, row (pk l) = l ++ C := by
  refine ⟨(row (pk l)).drop l.length, ?_⟩
  conv => lhs; rw [← List.take_append_drop l.length (row (pk l))]
  congr 1
  refine List.ext_getElem (by rw [List.length_take, row_length, pk_length]; omega) (fun i h1 h2 => ?_)
  rw [List.getElem_take, row_get, bitAt_pk, getD_in _ _ h2]

theorem row_pk_more (l : List Bool) (ys : List Nat) : ∃ C, row (pk l ++ ys) = l ++ C := by
  obtain ⟨C, hC⟩ := row_pk l
  refine ⟨C ++ (row (pk l ++ ys)).drop (8 * (pk l).length), ?_⟩
  have h := row_append (pk l) ys
  generalize (row (pk l ++ ys)).drop (8 * (pk l).length) = D at h
  rw [h, hC, List.append_assoc]

theorem row_take (xs : List Nat) (k : Nat) (hk : k ≤ xs.length) : row (xs.take k) = (row xs).take (8 * k) := by
  have h := row_append (xs.take k) (xs.drop k)
  have hl : (row (xs.take k)).length = 8 * k := by rw [row_length, List.length_take]; omega
  rw [List.take_append_drop] at h
  generalize (row xs).drop (8 * (xs.take k).length) = D at h
  rw [h, ← hl, List.take_left]

/-- Bytes that came in, or are the call's own, behind a change elsewhere. -/
theorem byteRow_kept {w w' : World} {v : Value} {xs : List Nat} {T : Nat → Prop} (h : ByteRow w v xs) (ho : Only T w w') (hT : ∀ b off c m, v = .slice (some ⟨b, off, none⟩) m c → ¬ T b) : ByteRow w' v xs := by
  obtain ⟨a, cap, rfl, h2, h3, h4⟩ := h
  refine ⟨a, cap, rfl, h2, h3, fun i hi => ?_⟩
  obtain ⟨hx, b, off, rfl, hc⟩ := h4 i hi
  refine ⟨hx, b, off, rfl, ?_⟩
  have lt := World.block_lt_of_cell? w _ hc
  exact (World.cell?_of_block (w := w) (ho.block b lt (hT b off _ _ rfl))).trans hc

/-- The block of a slice. -/
def blockOf (v : Value) (k : Nat) : Prop := ∃ off m c, v = .slice (some ⟨k, off, none⟩) m c

/-- Two rows of bytes that are read only, as one thing. -/
def pairT (v1 : Value) (p : List Nat) (v2 : Value) (q : List Nat) : Thing where
  holds w S := ByteRow w v1 p ∧ ByteRow w v2 q ∧ (∀ k, blockOf v1 k ∨ blockOf v2 k → S k) ∧ ∀ k, S k → k < w.heap.size
  keep := by
    rintro w w' S T ⟨h1, h2, h3, h4⟩ ho hd
    exact ⟨byteRow_kept h1 ho (fun b off c m e => hd b (h3 b (.inl ⟨off, m, c, e⟩))), byteRow_kept h2 ho (fun b off c m e => hd b (h3 b (.inr ⟨off, m, c, e⟩))), h3, fun k hk => Nat.lt_of_lt_of_le (h4 k hk) ho.size⟩
  lt := by
    rintro w S k ⟨_, _, _, h4⟩ hk
    exact h4 k hk

section
variable {B : Nat} {w0 w : World} {r : List Thing} {v1 v2 : Value} {p q : List Nat}

theorem _root_.Go.Proofs.YtmcjbkfiipmgeaaGreat.St.pair (h : St B w0 w (pairT v1 p v2 q :: r)) : ByteRow w v1 p ∧ ByteRow w v2 q := by
  obtain ⟨S, h1, _⟩ := h.sep
  exact ⟨h1.1, h1.2.1⟩

/-- Two rows of the call's own. -/
theorem _root_.Go.Proofs.YtmcjbkfiipmgeaaGreat.St.toPair (h : St B w0 w (rowT 5 1 v1 p.length (u8s p) :: rowT 5 1 v2 q.length (u8s q) :: r)) (hp : ∀ x ∈ p, x < 256) (hq : ∀ x ∈ q, x < 256) : St B w0 w (pairT v1 p v2 q :: r) := by
  have r1 := byteRow_owns h.row hp
  have r2 := byteRow_owns h.swap.row hq
  obtain ⟨S1, h1, h2, S2, h3, h4, h5⟩ := h.sep
  refine ⟨h.only, h.size, fun k => S1 k ∨ S2 k, ⟨r1, r2, ?_, ?_⟩, ?_, ?_⟩
  · rintro k (⟨off, m, c, e⟩ | ⟨off, m, c, e⟩)
    · refine .inl ((h1.2 k).2 ?_)
      subst e
      rcases h1.1.2 with ⟨e, _⟩ | ⟨g, cap, cur, e, _⟩
      · cases e
      · have := Option.some.inj (Value.slice.inj e).1
        simp [Value.ownBlock]
    · refine .inr ((h3.2 k).2 ?_)
      subst e
      rcases h3.1.2 with ⟨e, _⟩ | ⟨g, cap, cur, e, _⟩
      · cases e
      · have := Option.some.inj (Value.slice.inj e).1
        simp [Value.ownBlock]
  · rintro k (hk | hk)
    · exact (h1.1.lt _ ((h1.2 _).1 hk)).2
    · exact (h3.1.lt _ ((h3.2 _).1 hk)).2
  · rintro k (hk | hk)
    · exact h2 k hk
    · exact (h4 k hk).1
  · exact Sep.mono h5 (fun k _ hk => ⟨hk.1.1, fun h => h.elim hk.1.2 hk.2⟩)

/-- Two parts of one row of the call's own. -/
theorem _root_.Go.Proofs.YtmcjbkfiipmgeaaGreat.St.partPair {g cap a b : Nat} {o : List Nat} (h : St B w0 w (rowT 5 1 (.slice (some ⟨g, 0, none⟩) o.length cap) o.length (u8s o) :: r)) (ho : ∀ x ∈ o, x < 256)
    (h1 : ∀ W, ByteRow W (.slice (some ⟨g, 0, none⟩) o.length cap) o → ByteRow W (.slice (some ⟨g, a, none⟩) p.length (cap - a)) p) (h2 : ∀ W, ByteRow W (.slice (some ⟨g, 0, none⟩) o.length cap) o → ByteRow W (.slice (some ⟨g, b, none⟩) q.length (cap - b)) q) :
    St B w0 w (pairT (.slice (some ⟨g, a, none⟩) p.length (cap - a)) p (.slice (some ⟨g, b, none⟩) q.length (cap - b)) q :: r) := by
  have r1 := byteRow_owns h.row ho
  refine h.step fun S hS => ⟨S, ⟨h1 _ r1, h2 _ r1, ?_, fun k hk => (hS.1.lt _ ((hS.2 _).1 hk)).2⟩, Only.refl _ _, fun k hk => .inl hk⟩
  rintro k (⟨off, m, c, e⟩ | ⟨off, m, c, e⟩)
  all_goals
    refine (hS.2 k).2 ?_
    have := Option.some.inj (Value.slice.inj e).1
    simp at this
    simp [Value.ownBlock, this.1]

end

/-- What Get answers, and where the reader stands. -/
def GotSt (B : Nat) (w0 : World) (r : List Thing) (qb : Nat) (xs : List Nat) (p : Nat) (e : Ending) (w' : World) : Prop :=
  match headAt (row xs) p with
  | none => e = .returned (.tuple #[.slice none 0 0, .slice none 0 0, .int .i64 2]) ∧ ∃ p', St B w0 w' (rdT qb xs p' :: r)
  | some y => ∃ v1 v2, e = .returned (.tuple #[v1, v2, .int .i64 0]) ∧ St B w0 w' (pairT v1 y.1 v2 y.2.1 :: rdT qb xs y.2.2 :: r)

end Go.Proofs.YtmcjbkfiipmgeaaGreat.Hd
