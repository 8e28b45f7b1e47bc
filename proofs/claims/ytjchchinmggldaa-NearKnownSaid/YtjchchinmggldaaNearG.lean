/-
  Cells of the answers' rows; more of a row that came in is appended. No conditions but that rows are small.
-/
import Derived.Test.YtjchchinmggldaaNearF
namespace Go.Proofs.Ytjchchinmggldaa.Near
open Go.RowKit Go.Proofs.Ytjchchinmggldaa.Suf

section
variable {B : Nat} {w0 w : World} {r : List Thing}

theorem ahCells {a : Option Addr} {n c : Nat} {l : List Int} (hn : l.length = n) (h6 : n ≤ 1000000) (st : St B w0 w (rowT 3 1 (.slice a n c) n (iVals (aheads l)) :: r)) :
    n ≤ c ∧ ∀ i, i < n → ∃ b off, a = some ⟨b, off, none⟩ ∧ w.cell? ⟨b, off + i, none⟩ = some (.int .i64 (ahOf l i)) := by
  subst hn
  have h := cellsOf (ahRow st h6)
  refine ⟨h.2.1, fun i hi => ?_⟩
  obtain ⟨b, off, e, c⟩ := h.2.2 i hi
  exact ⟨b, off, e, by rw [c, ah_nth hi]⟩

theorem beCells {a : Option Addr} {n c : Nat} {l : List Int} (hn : l.length = n) (h6 : n ≤ 1000000) (st : St B w0 w (rowT 3 1 (.slice a n c) n (iVals (behs l)) :: r)) :
    n ≤ c ∧ ∀ i, i < n → ∃ b off, a = some ⟨b, off, none⟩ ∧ w.cell? ⟨b, off + i, none⟩ = some (.int .i64 (beOf l i : Int)) := by
  subst hn
  have h := cellsOf (beRow st h6)
  refine ⟨h.2.1, fun i hi => ?_⟩
  obtain ⟨b, off, e, c⟩ := h.2.2 i hi
  exact ⟨b, off, e, by rw [c, be_nth hi]⟩

/-- The cells of a row of the call's own. -/
theorem ownCells {a : Option Addr} {n c : Nat} {l : List Int} (hn : l.length = n) (hx : ∀ x ∈ l, -9223372036854775808 ≤ x ∧ x ≤ 9223372036854775807) (st : St B w0 w (rowT 3 1 (.slice a n c) n (iVals l) :: r)) :
    n ≤ c ∧ ∀ i, i < n → ∃ b off, a = some ⟨b, off, none⟩ ∧ w.cell? ⟨b, off + i, none⟩ = some (.int .i64 (nthI l i)) := by
  subst hn
  have h := cellsOf (intRow_of st.row rfl hx)
  exact ⟨h.2.1, h.2.2⟩

/-- 'append(s, x...)', s of the call's own, x a row that came in. -/
theorem wpList_append_ints {ops : Array Oper} {rest : List Oper} {o : Oper} {a : Act} {Q : Exit → Act → World → Prop} (hg : o.guard = none) (s x : Operand)
    (ho : o.op = .call { callee := .builtin .append, args := #[s, x], argTypes := #[22, 22] })
    {n : Nat} {xs ys : List Int} {v u : Value} (st : St B w0 w (rowT 3 1 v n (iVals xs) :: r)) (hu : IntRow w u ys) (hs : a.eval s = v) (hx : a.eval x = u) (hn : n + ys.length ≤ 1000000)
    (K : ∀ v' w', St B w0 w' (rowT 3 1 v' (n + ys.length) (iVals (xs ++ ys)) :: r) → wpList Try.prog ops Q rest (a.put o.dst v') w') : wpList Try.prog ops Q (o :: rest) a w := by
  obtain ⟨i0, hi, hz0, hz1, hz2⟩ := info_parts infoI
  have hr := readsInts hu
  obtain ⟨ad, cap, rfl, hc, hno, hat⟩ := hu
  refine wpList_append_mine _ hg s x 22 ho 3 i0 (.int .i64 0) 1 8 Try.underlying22 hi hz0 hz1 hz2 rfl (by decide) _ n _ hs st.row ad ys.length cap (iVals ys) hx ?_ (by rw [iVals_length]; omega) ?_ (iVals_one ys) (by unfold maxLen; omega) (by omega) ?_
  · intro e1
    have := hno e1
    exact ⟨by omega, this⟩
  · intro b hb j u hu
    rcases hr with ⟨e1, e2⟩ | ⟨a', cap', e1, e2⟩
    · rw [e2] at hu; simp at hu
    · have e3 : ad = some a' := (Value.slice.inj e1).1
      rw [hb] at e3
      obtain rfl := Option.some.inj e3
      exact e2 j u hu
  · intro v' w' g1 g2 g3
    refine K v' w' ?_
    rw [show iVals (xs ++ ys) = iVals xs ++ iVals ys by simp [iVals]]
    exact st.grown g1 g2 g3

theorem rev_take (l : List Int) (m : Nat) (h : m < l.length) : l.reverse.take (l.length - m) = l.reverse.take (l.length - (m + 1)) ++ [nthI l m] := by
  rw [show l.length - m = l.length - (m + 1) + 1 by omega, List.take_succ_eq_append_getElem (by simp; omega), List.getElem_reverse, nthI_lt h]
  congr 3
  omega

end
end Go.Proofs.Ytjchchinmggldaa.Near
