/-
  What the laws of layer 3 share, besides: rows that are filled, rows that lie apart. No conditions.
-/
import Derived.Test.YtgnccnpmegekmaaCrcM
namespace Go.Proofs.Ytgnccnpmegekmaa.Crc
open Go.RowKit

/-- A row of n numbers, of which the first k are said. -/
def fill (f : Nat → Nat) (n k : Nat) : List Nat := (List.range n).map fun i => if i < k then f i else 0

theorem fill_length (f : Nat → Nat) (n k : Nat) : (fill f n k).length = n := by simp [fill]

theorem fill_zero (f : Nat → Nat) (n : Nat) : fill f n 0 = List.replicate n 0 := by
  unfold fill
  apply List.ext_getElem (by rw [List.length_map, List.length_range, List.length_replicate])
  intro i h1 h2
  rw [List.getElem_map, List.getElem_replicate, if_neg (Nat.not_lt_zero _)]

theorem fill_succ (f : Nat → Nat) (n k : Nat) : (fill f n k).set k (f k) = fill f n (k + 1) := by
  unfold fill
  apply List.ext_getElem (by rw [List.length_set, List.length_map, List.length_map])
  intro i h1 h2
  rw [List.getElem_set]
  simp only [List.getElem_map, List.getElem_range]
  by_cases e : k = i
  · subst e
    simp
  · rw [if_neg e]
    by_cases c : i < k
    · rw [if_pos c, if_pos (by omega)]
    · rw [if_neg c, if_neg (by omega)]

theorem fill_none (f : Nat → Nat) (n k : Nat) (h : f k = 0) : fill f n k = fill f n (k + 1) := by
  unfold fill
  apply List.map_congr_left
  intro i _
  by_cases c : i < k
  · rw [if_pos c, if_pos (by omega)]
  · rw [if_neg c]
    by_cases e : i = k
    · subst e; rw [h]; simp
    · rw [if_neg (by omega)]

theorem fill_at (f : Nat → Nat) (n k : Nat) (h : k < n) : (fill f n k)[k]'(by rw [fill_length]; exact h) = 0 := by simp [fill]

theorem fill_full (f : Nat → Nat) (n : Nat) : fill f n n = (List.range n).map f := by
  unfold fill
  apply List.map_congr_left
  intro i hi
  rw [if_pos (List.mem_range.1 hi)]

/-- A row of the call's own at block g, of n bytes. -/
abbrev bytesT (g n : Nat) (xs : List Nat) : Thing := rowT 5 1 (.slice (some ⟨g, 0, none⟩) n n) n (u8s xs)

theorem _root_.Go.Proofs.Ytgnccnpmegekmaa.St.rowCell {B : Nat} {w0 w : World} {g n : Nat} {xs : List Nat} {r : List Thing} (h : St B w0 w (bytesT g n xs :: r)) (i : Nat) (hl : xs.length = n) (hi : i < n) :
    w.cell? ⟨g, i, none⟩ = some (.int .u8 (xs[i]'(by omega) : Int)) ∧ w.frozen? ⟨g, i, none⟩ = false := by
  refine ⟨?_, h.row.frozenAt i⟩
  rw [h.row.cellAt i (by omega), u8s_get _ _ (by omega)]

/-- A store of a byte. -/
theorem _root_.Go.Proofs.Ytgnccnpmegekmaa.St.put {B : Nat} {w0 w : World} {g n : Nat} {xs : List Nat} {r : List Thing} (h : St B w0 w (bytesT g n xs :: r)) (i x : Nat) : St B w0 (w.setCell ⟨g, i, none⟩ (.int .u8 (x : Int))) (bytesT g n (xs.set i x) :: r) := by
  have := h.stored i (.int .u8 (x : Int))
  rwa [← u8s_set] at this

theorem _root_.Go.Proofs.Ytgnccnpmegekmaa.St.inB {B : Nat} {w0 w : World} {g n : Nat} {xs : List Nat} {r : List Thing} (h : St B w0 w (bytesT g n xs :: r)) : B ≤ g := by
  obtain ⟨S1, h1, h2, _⟩ := h.sep
  exact h2 g ((h1.2 g).2 rfl)

/-- Rows lie apart. -/
theorem _root_.Go.Proofs.Ytgnccnpmegekmaa.St.apart {B : Nat} {w0 w : World} {g1 n1 g2 n2 : Nat} {xs ys : List Nat} {r : List Thing} (h : St B w0 w (bytesT g1 n1 xs :: bytesT g2 n2 ys :: r)) : g1 ≠ g2 := by
  obtain ⟨S1, h1, _, S2, h3, h4, _⟩ := h.sep
  intro e
  subst e
  exact (h4 g1 ((h3.2 g1).2 rfl)).2 ((h1.2 g1).2 rfl)

/-- 'make([]byte, n)'. -/
theorem _root_.Go.Proofs.Ytgnccnpmegekmaa.St.made {B : Nat} {w0 w w' : World} {r : List Thing} {n : Nat} (h : St B w0 w r) (hown : w'.ownsRow w.heap.size 5 1 (.slice (some ⟨w.heap.size, 0, none⟩) n n) n (madeCells #[Value.int .u8 0] n).toList) (hg : w.grownBy w' none) :
    St B w0 w' (bytesT w.heap.size n (List.replicate n 0) :: r) := by
  rw [toList_madeCells_one, show List.replicate n (Value.int .u8 0) = u8s (List.replicate n 0) from by simp [u8s]] at hown
  exact h.addRow ((Below.refl w.heap.size w).grown hg (Nat.le_refl _) (by simp)) hown

end Go.Proofs.Ytgnccnpmegekmaa.Crc
