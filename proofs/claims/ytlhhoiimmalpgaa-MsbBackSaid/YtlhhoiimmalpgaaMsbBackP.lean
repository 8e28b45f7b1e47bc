/-
  Plain facts: what acts lay, and what is read of it. No program. No conditions.
-/
import Derived.Test.YtlhhoiimmalpgaaMActs
import Derived.Test.YtlhhoiimmalpgaaMsbLays
namespace Go.Proofs.Ytlhhoiimmalpgaa.Msb
open Go.RowKit

/-- The bits that an act lays behind a row of so many. -/
def actBits (n : Nat) (x : ActV) : List Bool := if x.al then bitsOf 0 (padOf n) else bitsOf x.v x.n.toNat

/-- The row behind acts. -/
def layAll : List ActV → List Bool → List Bool
  | [], L => L
  | x :: r, L => layAll r (L ++ actBits L.length x)

/-- An act that lays. -/
def okAct (x : ActV) : Prop := x.al = true ∨ (0 ≤ x.n ∧ x.n ≤ 32 ∧ x.v < 2 ^ x.n.toNat)

/-- A number that may not be. -/
def badAct (x : ActV) : Prop := x.n < 0 ∨ 32 < x.n ∨ ¬ (x.v : Int) < 2 ^ x.n.toNat

theorem bad_of (x : ActV) (h : ¬ (0 ≤ x.n ∧ x.n ≤ 32 ∧ x.v < 2 ^ x.n.toNat)) : badAct x := by
  by_cases a1 : x.n < 0
  · exact .inl a1
  · by_cases a2 : 32 < x.n
    · exact .inr (.inl a2)
    · refine .inr (.inr fun h' => h ⟨by omega, by omega, by exact_mod_cast h'⟩)

theorem layAll_snoc (d : List ActV) (x : ActV) (L : List Bool) : layAll (d ++ [x]) L = layAll d L ++ actBits (layAll d L).length x := by
  induction d generalizing L with
  | nil => rfl
  | cons y d ih => simp only [List.cons_append, layAll, ih]

theorem layAll_append (d e : List ActV) (L : List Bool) : layAll (d ++ e) L = layAll e (layAll d L) := by
  induction d generalizing L with
  | nil => rfl
  | cons y d ih => simp only [List.cons_append, layAll, ih]

theorem layAll_more (d : List ActV) (L : List Bool) : ∃ M, layAll d L = L ++ M := by
  induction d generalizing L with
  | nil => exact ⟨[], by simp [layAll]⟩
  | cons y d ih =>
    obtain ⟨M, hM⟩ := ih (L ++ actBits L.length y)
    exact ⟨actBits L.length y ++ M, by rw [layAll, hM, List.append_assoc]⟩

theorem actBits_length (n : Nat) (x : ActV) (h : okAct x) : (actBits n x).length ≤ 32 := by
  unfold actBits
  split
  · rw [bitsOf_length]; have := padOf_lt n; omega
  · rename_i hn
    rcases h with h | h
    · exact absurd h hn
    · rw [bitsOf_length]; omega

theorem layAll_length (d : List ActV) (L : List Bool) (h : ∀ x ∈ d, okAct x) : (layAll d L).length ≤ L.length + 32 * d.length := by
  induction d generalizing L with
  | nil => simp [layAll]
  | cons y d ih =>
    have h1 := ih (L ++ actBits L.length y) (fun x hx => h x (by simp [hx]))
    have h2 := actBits_length L.length y (h y (by simp))
    simp only [layAll, List.length_append, List.length_cons] at *
    omega

/-- What the act at a place reads. -/
theorem read_act (d : List ActV) (j : Nat) (hj : j < d.length) :
    ∃ M, layAll d [] = layAll (d.take j) [] ++ actBits (layAll (d.take j) []).length d[j] ++ M := by
  have e : d = (d.take j ++ [d[j]]) ++ d.drop (j + 1) := by
    rw [← List.take_succ_eq_append_getElem hj, List.take_append_drop]
  obtain ⟨M, hM⟩ := layAll_more (d.drop (j + 1)) (layAll (d.take j ++ [d[j]]) [])
  refine ⟨M, ?_⟩
  rw [← layAll_snoc, ← hM, ← layAll_append, ← e]

theorem read_part2 (A C D : List Bool) : bitsAt (pk (A ++ C ++ D)) A.length C.length = C := by
  rw [bitsAt_pk _ _ _ (by simp)]
  simp

theorem bitsAt_zero (L : List Bool) (n : Nat) : num (bitsAt (pk L) L.length n) = 0 := by
  induction n with
  | zero => rfl
  | succ n ih =>
    rw [num_bitsAt_succ, ih, bitAt_pk, getD_out _ _ (by omega)]
    simp

/-- The row up to the next act. -/
theorem read_next (d : List ActV) (j : Nat) (hj : j < d.length) : (layAll (d.take (j + 1)) []).length = (layAll (d.take j) []).length + (actBits (layAll (d.take j) []).length d[j]).length := by
  rw [List.take_succ_eq_append_getElem hj, layAll_snoc, List.length_append]

theorem read_num (d : List ActV) (j : Nat) (hj : j < d.length) (m : Nat) (hal : d[j].al = false) (hm : d[j].n = (m : Int)) (hv : d[j].v < 2 ^ m) :
    num (bitsAt (pk (layAll d [])) (layAll (d.take j) []).length m) = d[j].v := by
  obtain ⟨M, hM⟩ := read_act d j hj
  have e : actBits (layAll (d.take j) []).length d[j] = bitsOf d[j].v m := by rw [actBits, if_neg (by rw [hal]; simp), hm]; rfl
  rw [e] at hM
  have h := read_part2 (layAll (d.take j) []) (bitsOf d[j].v m) M
  rw [bitsOf_length] at h
  rw [hM, h, num_bitsOf_lt hv]

theorem read_le (d : List ActV) (j : Nat) (hj : j < d.length) : (layAll (d.take j) []).length + (actBits (layAll (d.take j) []).length d[j]).length ≤ 8 * (pk (layAll d [])).length := by
  obtain ⟨M, hM⟩ := read_act d j hj
  have h : (layAll d []).length = ((layAll (d.take j) []) ++ actBits (layAll (d.take j) []).length d[j] ++ M).length := congrArg List.length hM
  rw [pk_length]
  simp only [List.length_append] at h
  omega

/-- An act's four cells. -/
def ActV.cells (x : ActV) : List Value := [.int .u32 (x.v : Int), .int .i64 x.n, .bool x.al, .bool x.ad]

def actCells (d : List ActV) : List Value := d.flatMap ActV.cells

theorem actCells_snoc (d : List ActV) (x : ActV) : actCells (d ++ [x]) = actCells d ++ x.cells := by simp [actCells]

theorem actCells_at (d : List ActV) (j : Nat) (hj : j < d.length) (i : Nat) (hi : i < 4) : (actCells d)[j * 4 + i]? = (d[j].cells)[i]? := by
  induction d generalizing j with
  | nil => simp at hj
  | cons y d ih =>
    cases j with
    | zero =>
      have : i < y.cells.length := by simp [ActV.cells]; omega
      simp [actCells, List.getElem?_append_left this]
    | succ j =>
      have h1 := ih j (by simpa using hj)
      have h2 : y.cells.length = 4 := rfl
      simp only [actCells, List.flatMap_cons, List.getElem_cons_succ] at h1 ⊢
      rw [List.getElem?_append_right (by omega), ← h1]
      congr 1
      omega

theorem info30 : (Try.prog.info? 30).map (fun i => (i.zero, i.size, i.bytes)) = some (some (.agg #[.int .u32 0, .int .i64 0, .bool false, .bool false]), 4, 24) := by kernel_rfl

end Go.Proofs.Ytlhhoiimmalpgaa.Msb
