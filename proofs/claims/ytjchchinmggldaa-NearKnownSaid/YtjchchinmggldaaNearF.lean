/-
  The chapter's example of layer 15. No conditions but that rows are small.
-/
import Derived.Test.YtjchchinmggldaaNearE
namespace Go.Proofs.Ytjchchinmggldaa.Near
open Go.RowKit Go.Proofs.Ytjchchinmggldaa.Suf

section
variable {B : Nat} {w0 w : World} {r : List Thing}

theorem ahRow {v : Value} {l : List Int} (st : St B w0 w (rowT 3 1 v l.length (iVals (aheads l)) :: r)) (hl : l.length ≤ 1000000) : IntRow w v (aheads l) :=
  intRow_of st.row (aheads_length l) (fun x hx => by have := ah_small hx; omega)
theorem beRow {v : Value} {l : List Int} (st : St B w0 w (rowT 3 1 v l.length (iVals (behs l)) :: r)) (hl : l.length ≤ 1000000) : IntRow w v (behs l) :=
  intRow_of st.row (behs_length l) (fun x hx => by have := be_small hx; omega)

theorem litInts (st : St B w0 w r) (xs : List Int) (hl : xs.length ≤ 1000) : St B w0 (w.alloc (.cells (iVals xs).toArray 3)) (intsT w.heap.size xs.length xs :: r) := by
  have h := World.ownsRow_lit (base := w.heap.size) (e := 3) (size := 1) w (iVals xs).toArray xs.length (Nat.le_refl _) (by unfold maxLen; omega) (by simp [iVals])
  exact st.addRow (below_alloc w _) (by simpa using h)

theorem intsRow {g : Nat} {xs : List Int} (st : St B w0 w (intsT g xs.length xs :: r)) (hx : ∀ x ∈ xs, -9223372036854775808 ≤ x ∧ x ≤ 9223372036854775807) : IntRow w (.slice (some ⟨g, 0, none⟩) xs.length xs.length) xs := intRow_of st.row rfl hx

/-- The cells of a slice that reads as numbers. -/
theorem cellsOf {a : Option Addr} {n c : Nat} {l : List Int} (h : IntRow w (.slice a n c) l) : l.length = n ∧ n ≤ c ∧ ∀ i, i < n → ∃ b off, a = some ⟨b, off, none⟩ ∧ w.cell? ⟨b, off + i, none⟩ = some (.int .i64 (nthI l i)) := by
  obtain ⟨a', c', e, hc, hat⟩ := intNth h
  obtain ⟨rfl, rfl, rfl⟩ := Value.slice.inj e
  exact ⟨rfl, hc, fun i hi => (hat i hi).2⟩

theorem ah_nth {l : List Int} {i : Nat} (h : i < l.length) : nthI (aheads l) i = ahOf l i := by
  have h1 : i < (aheads l).length := by rw [aheads_length]; exact h
  rw [nthI_lt h1]
  have := aheads_at l i h
  rw [List.getElem?_eq_getElem h1] at this
  exact Option.some.inj this
theorem be_nth {l : List Int} {i : Nat} (h : i < l.length) : nthI (behs l) i = (beOf l i : Int) := by
  have h1 : i < (behs l).length := by rw [behs_length]; exact h
  rw [nthI_lt h1]
  have := behs_at l i h
  rw [List.getElem?_eq_getElem h1] at this
  exact Option.some.inj this

/-- Same of two rows of numbers, over a state. -/
theorem sameI_st (st : St B w0 w r) (u v : Value) (xs ys : List Int) (hu : IntRow w u xs) (hv : IntRow w v ys) (hx : xs.length ≤ 1000000) :
    Calls Try.prog 9 #[u, v] w fun e w' => e = .returned (.bool (decide (xs = ys))) ∧ St B w0 w' r := by
  refine (same_any w u v xs ys hu hv hx).mono ?_
  rintro e w' ⟨rfl, k, rfl⟩
  exact ⟨rfl, st.drewN k⟩
end

theorem ex_ah : aheads [3, 1, 2, 1, 5] = [-1, -1, 1, -1, 3] := by decide +kernel
theorem ex_be : behs [3, 1, 2, 1, 5] = [1, 5, 3, 5, 5] := by decide +kernel

set_option maxRecDepth 100000 in
set_option maxHeartbeats 4000000 in
/-- finds: the chapter's example. -/
theorem finds_any (w : World) : Calls Try.prog 14 #[] w fun e w' => e = .returned (.bool true) ∧ Below w.heap.size w w' := by
  have hB := Nat.le_refl w.heap.size
  have s1 := litInts (St.start w) [3, 1, 2, 1, 5] (by decide)
  have h1 := ahead_st s1 (.slice (some ⟨w.heap.size, 0, none⟩) 5 5) [3, 1, 2, 1, 5] (fun W t => intsRow t (by decide)) (by decide)
  go_enter Try.func14, Try.ntmps14
  go_wp2_with fail
  refine h1.mono ?_
  rintro e w2 ⟨va, rfl, s2⟩
  have s3 := litInts s2 [-1, -1, 1, -1, 3] (by decide)
  have h2 := sameI_st s3 va (.slice (some ⟨w2.heap.size, 0, none⟩) 5 5) _ _ (ahRow s3.drop (by decide)) (intsRow s3 (by decide)) (by decide)
  rw [show decide (aheads [3, 1, 2, 1, 5] = [-1, -1, 1, -1, 3]) = true from decide_eq_true ex_ah] at h2
  clear h1 s1 s2
  go_wp2_with fail
  refine h2.mono ?_
  rintro e w3 ⟨rfl, s4⟩
  have s5 := litInts (s4.drop.drop.drop) [3, 1, 2, 1, 5] (by decide)
  have h3 := behind_st s5 (.slice (some ⟨w3.heap.size, 0, none⟩) 5 5) [3, 1, 2, 1, 5] (fun W t => intsRow t (by decide)) (by decide)
  clear h2 s3 s4
  go_wp2_with fail
  refine h3.mono ?_
  rintro e w4 ⟨vb, rfl, s6⟩
  have s7 := litInts s6 [1, 5, 3, 5, 5] (by decide)
  have h4 := sameI_st s7 vb (.slice (some ⟨w4.heap.size, 0, none⟩) 5 5) _ _ (beRow s7.drop (by decide)) (intsRow s7 (by decide)) (by decide)
  rw [show decide (behs [3, 1, 2, 1, 5] = [1, 5, 3, 5, 5]) = true from decide_eq_true ex_be] at h4
  clear h3 s5 s6
  go_wp2_with fail
  refine h4.mono ?_
  rintro e w5 ⟨rfl, s8⟩
  have hb := s8.below hB
  clear h4 s7 s8
  go_wp2_with fail
  go_ret
  exact ⟨rfl, hb⟩

end Go.Proofs.Ytjchchinmggldaa.Near
