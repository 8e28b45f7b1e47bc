/-
  What layers share, besides: appends to slices of int of the call's own. No conditions.
-/
import Derived.Test.YtjchchinmggldaaInts
namespace Go.Proofs.Ytjchchinmggldaa
open Go.RowKit

theorem infoI : (Try.prog.info? 3).map (fun i => (i.zero, i.size, i.bytes)) = some (some (.int .i64 0), 1, 8) := by kernel_rfl

theorem NumRow.reads {w : World} {v : Value} {xs : List Nat} (h : NumRow w v xs) : Reads w v (i64s xs) := by
  obtain ⟨a, cap, rfl, hc, hn, hat⟩ := h
  cases a with
  | none =>
    have := hn rfl
    have h0 : xs = [] := List.eq_nil_of_length_eq_zero (by omega)
    subst h0 this
    exact .inl ⟨rfl, rfl⟩
  | some a =>
    refine .inr ⟨a, cap, by rw [i64s_length], fun j u hu => ?_⟩
    have hj : j < xs.length := by
      have := (List.getElem?_eq_some_iff.1 hu).1
      rwa [i64s_length] at this
    obtain ⟨b, off, e, hcell⟩ := hat j hj
    obtain rfl := Option.some.inj e
    rw [add_none, hcell, ← hu, i64s_get _ _ hj]

/-- 'append(s, t...)', s a slice of the call's own, t one that reads as these numbers. -/
theorem wpList_append_nums {ops : Array Oper} {rest : List Oper} {o : Oper} {a : Act} {Q : Exit → Act → World → Prop} (hw : Region.wanted o (yielded ops a.tmps) = true) (s x : Operand)
    (ho : o.op = .call { callee := .builtin .append, args := #[s, x], argTypes := #[22, 22] })
    {B : Nat} {w0 w2 : World} {v u : Value} {n : Nat} {xs : List Value} {ys : List Nat} {r : List Thing} (st : St B w0 w2 (rowT 3 1 v n xs :: r)) (h : NumRow w2 u ys) (hs : a.eval s = v) (hx : a.eval x = u) (hl : n + ys.length ≤ 1000000)
    (K : ∀ v' w', St B w0 w' (rowT 3 1 v' (n + ys.length) (xs ++ i64s ys) :: r) → w2.grownBy w' v.ownBlock → Fresh w2 v v' → wpList Try.prog ops Q rest (a.put o.dst v') w') : wpList Try.prog ops Q (o :: rest) a w2 := by
  obtain ⟨i0, hi, hz0, hz1, hz2⟩ := info_parts infoI
  have hr := h.reads
  obtain ⟨ad, cap, rfl, hc, hn, hat⟩ := h
  refine wpList_append_mineW _ hw s x 22 ho 3 i0 (.int .i64 0) 1 8 Try.underlying22 hi hz0 hz1 hz2 rfl (by decide) v n xs hs st.row ad ys.length cap (i64s ys) hx ?_ (by rw [i64s_length]; omega) ?_ (i64s_one ys) (by unfold maxLen; omega) (by omega) ?_
  · intro e1
    have := hn e1
    exact ⟨by omega, this⟩
  · intro b hb j u hu
    rcases hr with ⟨e1, e2⟩ | ⟨a', cap', e1, e2⟩
    · rw [e2] at hu; simp at hu
    · have e3 : ad = some a' := (Value.slice.inj e1).1
      rw [hb] at e3
      obtain rfl := Option.some.inj e3
      exact e2 j u hu
  · intro v' w' g1 g2 g3
    exact K v' w' (st.grown g1 g2 g3) g2 g3

/-- 'append([]int{}, b...)': new memory, the same numbers. -/
theorem wpList_copyNums {ops : Array Oper} {rest : List Oper} {o : Oper} {a : Act} {Q : Exit → Act → World → Prop} (hw : Region.wanted o (yielded ops a.tmps) = true) (s x : Operand)
    (ho : o.op = .call { callee := .builtin .append, args := #[s, x], argTypes := #[22, 22] })
    {B : Nat} {w0 w2 : World} {r : List Thing} (st : St B w0 w2 r) {v : Value} {xs : List Nat} (h : NumRow w2 v xs) (hs : a.eval s = .slice (some ⟨w2.heap.size, 0, none⟩) 0 0) (hx : a.eval x = v) (hl : xs.length ≤ 1000000)
    (K : ∀ v' w', St B w0 w' (rowT 3 1 v' xs.length (i64s xs) :: r) → wpList Try.prog ops Q rest (a.put o.dst v') w') : wpList Try.prog ops Q (o :: rest) a (w2.alloc (.cells #[] 3)) := by
  have s1 : St B w0 (w2.alloc (.cells #[] 3)) (rowT 3 1 (.slice (some ⟨w2.heap.size, 0, none⟩) 0 0) 0 [] :: r) :=
    st.addRow (below_alloc w2 _) (World.ownsRow_made w2 #[] 0 (Nat.le_refl _) (by unfold maxLen; omega) rfl)
  refine wpList_append_nums hw s x ho s1 (h.below (below_alloc w2 (.cells #[] 3)) (Nat.le_refl _)) hs hx (by omega) ?_
  intro v' w' s2 _ _
  rw [Nat.zero_add, List.nil_append] at s2
  exact K v' w' s2

end Go.Proofs.Ytjchchinmggldaa
