/-
  What the laws of layer 3 share, besides: elements written out in the text, behind a row; rows that lie apart; stores into rows. No conditions.
-/
import Derived.Test.YtgnccnpmegekmaaCrcL
namespace Go.Proofs.Ytgnccnpmegekmaa.Crc
open Go.RowKit

/-- An append to a slice of the call's own, where it is wanted. -/
theorem wpList_append_mineW {P : Program} (w : World) {ops : Array Oper} {rest : List Oper} {o : Oper} {a : Act} {Q : Exit → Act → World → Prop} (hw : Region.wanted o (yielded ops a.tmps) = true) (s x : Operand) (t : TypeId)
    (ho : o.op = .call { callee := .builtin .append, args := #[s, x], argTypes := #[t, t] })
    (e : TypeId) (i : TypeInfo) (z : Value) (size bytes : Nat) (ht : P.underlying t = some (.slice e)) (hi : P.info? e = some i) (hz : i.zero = some z)
    (hsize : i.size = size) (hby : i.bytes = bytes) (hzs : z.cells.size = size) (hsz : 0 < size)
    (v : Value) (n : Nat) (xs : List Value) (hs : a.eval s = v) (hown : w.ownsRow 0 e size v n xs)
    (ad : Option Addr) (m c : Nat) (news : List Value) (hx : a.eval x = .slice ad m c) (hnone : ad = none → m = 0 ∧ c = 0) (hl : news.length = m * size) (hnews : ∀ b, ad = some b → ∀ j u, news[j]? = some u → w.cell? (b.add j) = some u) (h1 : ∀ u ∈ news, u.oneCell' = true)
    (h63 : n + m ≤ maxLen) (hbytes : (n + m) * bytes ≤ 140737488355328)
    (h : ∀ v' w', w'.ownsRow 0 e size v' (n + m) (xs ++ news) → w.grownBy w' v.ownBlock → Fresh w v v' → wpList P ops Q rest (a.put o.dst v') w') : wpList P ops Q (o :: rest) a w := by
  refine BigFrame.wpList_want hw fun K hK => ?_
  obtain ⟨v', w', hr, h2, h3, h4⟩ := run_append_mine (P := P) w t o.type e i z size bytes ht hi hz hsize hby hzs hsz v n xs hown ad m c news hnone hl hnews h1 h63 hbytes
  unfold Oper.wp execOp
  simp only [ho, resolve, invoke, builtin, Sem.run_bind, Sem.run_pure, Result.andThen_ok, List.map_toArray, List.map_cons, List.map_nil, hs, hx, hr]
  exact hK _ _ (h v' w' h2 h3 h4)

/-- 'append([]byte{}, b...)': new memory, the same bytes.  (Whether or not its place in the statement is guarded.) -/
theorem wpList_copyW {ops : Array Oper} {rest : List Oper} {o : Oper} {a : Act} {Q : Exit → Act → World → Prop} (hw : Region.wanted o (yielded ops a.tmps) = true) (s x : Operand)
    (ho : o.op = .call { callee := .builtin .append, args := #[s, x], argTypes := #[22, 22] })
    {B : Nat} {w0 w2 : World} {r : List Thing} (st : St B w0 w2 r) {v : Value} {xs : List Nat} (h : ByteRow w2 v xs) (hs : a.eval s = .slice (some ⟨w2.heap.size, 0, none⟩) 0 0) (hx : a.eval x = v) (hl : xs.length ≤ 140737488355328)
    (K : ∀ v' w', St B w0 w' (rowT 5 1 v' xs.length (u8s xs) :: r) → wpList Try.prog ops Q rest (a.put o.dst v') w') : wpList Try.prog ops Q (o :: rest) a (w2.alloc (.cells #[] 5)) := by
  obtain ⟨i0, hi, hz0, hz1, hz2⟩ := info_parts info8
  have s1 : St B w0 (w2.alloc (.cells #[] 5)) (rowT 5 1 (.slice (some ⟨w2.heap.size, 0, none⟩) 0 0) 0 [] :: r) :=
    st.addRow (below_alloc w2 _) (World.ownsRow_made w2 #[] 0 (Nat.le_refl _) (by unfold maxLen; omega) rfl)
  have h2 := h.below (below_alloc w2 (.cells #[] 5)) (Nat.le_refl _)
  have hr := h2.reads
  obtain ⟨ad, cap, rfl, hc, hn, hat⟩ := h2
  refine wpList_append_mineW _ hw s x 22 ho 5 i0 (.int .u8 0) 1 1 Try.underlying22 hi hz0 hz1 hz2 rfl (by decide) _ 0 [] hs s1.row ad xs.length cap (u8s xs) hx ?_ (by rw [u8s_length]; omega) ?_ (u8s_one xs) (by unfold maxLen; omega) (by omega) ?_
  · intro e1
    have := hn e1
    exact ⟨by omega, this⟩
  · intro b hb j u hu
    rcases hr with ⟨e1, e2⟩ | ⟨a', cap', e1, e2⟩
    · rw [e2] at hu; simp at hu
    · have e3 : ad = some a' := (Value.slice.inj e1).1
      rw [hb] at e3
      obtain rfl := Option.some.inj e3
      exact e2 j u hu
  · intro v' w' g1 g2 g3
    rw [Nat.zero_add, List.nil_append] at g1
    exact K v' w' (s1.grown g1 g2 g3)

/-- 'append(s, x, y, ..)', s a slice of the call's own. -/
theorem wpList_append_lit {ops : Array Oper} {rest : List Oper} {o : Oper} {a : Act} {Q : Exit → Act → World → Prop} (hw : Region.wanted o (yielded ops a.tmps) = true) (s x : Operand)
    (ho : o.op = .call { callee := .builtin .append, args := #[s, x], argTypes := #[22, 22] })
    {B : Nat} {w0 w2 : World} {v : Value} {n m : Nat} {xs : List Value} {r : List Thing} (st : St B w0 w2 (rowT 5 1 v n xs :: r)) (hs : a.eval s = v)
    (cs : List Value) (hx : a.eval x = .slice (some ⟨w2.heap.size, 0, none⟩) m m) (hcs : cs.length = m) (h1 : ∀ u ∈ cs, u.oneCell' = true) (hl : n + m ≤ 140737488355328)
    (h : ∀ v' w', St B w0 w' (rowT 5 1 v' (n + m) (xs ++ cs) :: r) → wpList Try.prog ops Q rest (a.put o.dst v') w') : wpList Try.prog ops Q (o :: rest) a (w2.alloc (.cells cs.toArray 5)) := by
  obtain ⟨i0, hi, hz0, hz1, hz2⟩ := info_parts info8
  have st1 := st.alloc (.cells cs.toArray 5)
  refine wpList_append_mineW _ hw s x 22 ho 5 i0 (.int .u8 0) 1 1 Try.underlying22 hi hz0 hz1 hz2 rfl (by decide) v n xs hs st1.row (some ⟨w2.heap.size, 0, none⟩) m m cs hx (fun e => by cases e) (by omega) ?_ h1 (by unfold maxLen; omega) (by omega) ?_
  · intro b hb j u hu
    obtain rfl := Option.some.inj hb
    rw [add_none, Nat.zero_add, cell_of_row _ w2.heap.size j cs.toArray 5 (0, 0) (heap_alloc_new w2 _)]
    simpa using hu
  · intro v' w' g1 g2 g3
    exact h v' w' (st1.grown g1 g2 g3)

end Go.Proofs.Ytgnccnpmegekmaa.Crc
