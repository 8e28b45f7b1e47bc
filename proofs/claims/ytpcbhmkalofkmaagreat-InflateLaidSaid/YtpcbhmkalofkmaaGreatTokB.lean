/-
  Rows of tokens copied, appended to; and two rows that begin with the same tokens (what 'append' makes of a row that is still used). No conditions but those of the calls.
-/
import Derived.Test.YtpcbhmkalofkmaaGreatGS
import Derived.Test.YtpcbhmkalofkmaaGreatGC
namespace Go.Proofs.YtpcbhmkalofkmaaGreat.Tok
open Go.RowKit Go.ChangeShapes Go.WideShapes

/-- 'append([]api.Token{}, l...)': new memory, the same tokens. -/
theorem wpList_copyToks {ops : Array Oper} {rest : List Oper} {o : Oper} {a : Act} {Q : Exit → Act → World → Prop} (hw : Region.wanted o (yielded ops a.tmps) = true) (s x : Operand)
    (ho : o.op = .call { callee := .builtin .append, args := #[s, x], argTypes := #[31, 31] })
    {B : Nat} {w0 w2 : World} {r : List Thing} (st : St B w0 w2 r) {v : Value} {l : List Tk} (h : TokRow w2 v l) (hs : a.eval s = .slice (some ⟨w2.heap.size, 0, none⟩) 0 0) (hx : a.eval x = v) (hl : l.length ≤ 100000000)
    (K : ∀ v' w', St B w0 w' (tokT v' l :: r) → wpList Tryz.prog ops Q rest (a.put o.dst v') w') : wpList Tryz.prog ops Q (o :: rest) a (w2.alloc (.cells #[] 33)) := by
  obtain ⟨i0, hi, hz0, hz1, hz2⟩ := info_parts infoTok
  have s1 : St B w0 (w2.alloc (.cells #[] 33)) (rowT 33 3 (.slice (some ⟨w2.heap.size, 0, none⟩) 0 0) 0 [] :: r) :=
    st.addRow (below_alloc w2 _) (World.ownsRow_made w2 #[] 0 (Nat.le_refl _) (by unfold maxLen; omega) rfl)
  have h2 := h.below (below_alloc w2 (.cells #[] 33)) (Nat.le_refl _)
  have hr := h2.reads
  obtain ⟨ad, cap, rfl, hc, hmx, hn, hat⟩ := h2
  obtain ⟨hr1, hr2⟩ := hr ad l.length cap rfl
  refine wpList_append_mineW _ hw s x 31 ho 33 i0 (.agg #[.int .i64 0, .int .i64 0, .int .u8 0]) 3 24 Tryz.underlying31 hi hz0 hz1 hz2 rfl (by decide) _ 0 [] hs s1.row ad l.length cap (tks l) hx hr1 (tks_length l) hr2 (tks_one l) (by omega) (by omega) ?_
  intro v' w' g1 g2 g3
  rw [Nat.zero_add, List.nil_append] at g1
  exact K v' w' (s1.grown g1 g2 g3)

/-- 'append(l, t)', l of the call's own. -/
theorem wpList_append_tok {ops : Array Oper} {rest : List Oper} {o : Oper} {a : Act} {Q : Exit → Act → World → Prop} (hgd : o.guard = none) (s x : Operand)
    (ho : o.op = .call { callee := .builtin .append, args := #[s, x], argTypes := #[31, 31] })
    {B : Nat} {w0 w2 : World} {v : Value} {l : List Tk} {r : List Thing} (st : St B w0 w2 (tokT v l :: r)) (hs : a.eval s = v)
    (t : Tk) (hx : a.eval x = .slice (some ⟨w2.heap.size, 0, none⟩) 1 1) (hl : l.length ≤ 100000000)
    (K : ∀ v' w', St B w0 w' (tokT v' (l ++ [t]) :: r) → wpList Tryz.prog ops Q rest (a.put o.dst v') w') : wpList Tryz.prog ops Q (o :: rest) a (w2.alloc (.cells (tk3 t).toArray 33)) := by
  obtain ⟨i0, hi, hz0, hz1, hz2⟩ := info_parts infoTok
  refine wpList_append_one hgd s x 31 ho 33 i0 (.agg #[.int .i64 0, .int .i64 0, .int .u8 0]) 3 24 Tryz.underlying31 hi hz0 hz1 hz2 rfl (by decide) st hs (tk3 t) hx rfl (by simp [Value.oneCell']) (by unfold maxLen; omega) (by omega) ?_
  intro v' w' h
  refine K v' w' ?_
  unfold tokT
  rw [tks_append, List.length_append]
  simpa [tks] using h

/-- Two rows that begin with the same tokens: in one block or in two. -/
def forkT (v v' : Value) (l : List Tk) (t : Tk) : Thing where
  holds w S := w.ownsRow 0 33 3 v l.length (tks l) ∧ w.ownsRow 0 33 3 v' (l ++ [t]).length (tks (l ++ [t])) ∧ ∀ k, S k ↔ (v.ownBlock = some k ∨ v'.ownBlock = some k)
  keep h ho hd := ⟨ownsRow_only h.1 ho (fun g hg => hd g ((h.2.2 g).2 (.inl hg))), ownsRow_only h.2.1 ho (fun g hg => hd g ((h.2.2 g).2 (.inr hg))), h.2.2⟩
  lt h hk := by
    rcases (h.2.2 _).1 hk with h1 | h1
    · exact (h.1.lt _ h1).2
    · exact (h.2.1.lt _ h1).2

section
variable {B : Nat} {w0 w : World} {r : List Thing} {v v' : Value} {l : List Tk} {t : Tk}

theorem _root_.Go.Proofs.YtpcbhmkalofkmaaGreat.St.forked (h : St B w0 w (forkT v v' l t :: r)) (hf : Fits (l ++ [t])) : TokRow w v' (l ++ [t]) := by
  obtain ⟨S1, h1, _⟩ := h.sep
  exact tokRow_owns h1.2.1 hf

theorem _root_.Go.Proofs.YtpcbhmkalofkmaaGreat.St.unfork (h : St B w0 w (forkT v v' l t :: r)) : St B w0 w (tokT v l :: r) :=
  h.step fun _ hS => ⟨fun k => v.ownBlock = some k, ⟨hS.1, fun _ => Iff.rfl⟩, Only.refl _ _, fun k hk => .inl ((hS.2.2 k).2 (.inl hk))⟩

/-- A row's beginning. -/
theorem ownsRow_front {w : World} {base : Nat} {e : TypeId} {size g n m cap : Nat} {xs ys : List Value} (h : w.ownsRow base e size (.slice (some ⟨g, 0, none⟩) (n + m) cap) (n + m) (xs ++ ys)) (hl : xs.length = n * size) : w.ownsRow base e size (.slice (some ⟨g, 0, none⟩) n cap) n xs := by
  refine ⟨hl, .inr ?_⟩
  rcases h.2 with ⟨e1, _⟩ | ⟨g', cap', cur, e1, h1, h2, h3, h4, h5, h6⟩
  · cases e1
  · obtain ⟨e2, -, rfl⟩ := Value.slice.inj e1
    obtain rfl : g = g' := by injection e2 with e2; injection e2
    refine ⟨g, cap, cur, rfl, h1, h2, by omega, h4, h5, ?_⟩
    have e3 : n * size ≤ (n + m) * size := Nat.mul_le_mul_right _ (by omega)
    have e4 : (cur.toList.take ((n + m) * size)).take (n * size) = cur.toList.take (n * size) := by rw [List.take_take, Nat.min_eq_left e3]
    rw [← e4, h6, ← hl, List.take_left]

theorem _root_.Go.Proofs.YtpcbhmkalofkmaaGreat.St.forks {w2 : World} {n : Nat} (st : St B w0 w2 (tokT v l :: r)) {w' : World} (hn : (l ++ [t]).length = n) (ho : w'.ownsRow 0 33 3 v' n (tks (l ++ [t])))
    (hc : (w'.ownsRow 0 33 3 v l.length (tks l) ∧ v'.ownBlock = v.ownBlock ∧ w2.grownBy w' v.ownBlock) ∨ ((∀ g, v'.ownBlock = some g → w2.heap.size ≤ g) ∧ w2.grownBy w' none)) : St B w0 w' (forkT v v' l t :: r) := by
  subst hn
  refine st.step fun S hS => ⟨fun k => v.ownBlock = some k ∨ v'.ownBlock = some k, ?_⟩
  rcases hc with ⟨h1, h2, h3⟩ | ⟨h1, h2⟩
  · refine ⟨⟨h1, ho, fun _ => Iff.rfl⟩, ⟨h3.os, h3.tape, h3.output, h3.size, fun k hk hn => h3.block k hk (fun e => hn ((hS.2 k).2 e.symm))⟩, fun k hk => .inl ((hS.2 k).2 ?_)⟩
    rcases hk with hk | hk
    · exact hk
    · rw [← h2]; exact hk
  · have hO : Only (fun _ => False) w2 w' := ⟨h2.os, h2.tape, h2.output, h2.size, fun k hk _ => h2.block k hk (by simp)⟩
    refine ⟨⟨ownsRow_only hS.1 hO (fun _ _ f => f), ho, fun _ => Iff.rfl⟩, ⟨h2.os, h2.tape, h2.output, h2.size, fun k hk _ => h2.block k hk (by simp)⟩, fun k hk => ?_⟩
    rcases hk with hk | hk
    · exact .inl ((hS.2 k).2 hk)
    · exact .inr (h1 k hk)
end

/-- 'append(l, t)', where l itself is used again. -/
theorem wpList_append_fork {ops : Array Oper} {rest : List Oper} {o : Oper} {a : Act} {Q : Exit → Act → World → Prop} (hgd : o.guard = none) (s x : Operand)
    (ho : o.op = .call { callee := .builtin .append, args := #[s, x], argTypes := #[31, 31] })
    {B : Nat} {w0 w2 : World} {v : Value} {l : List Tk} {r : List Thing} (st : St B w0 w2 (tokT v l :: r)) (hs : a.eval s = v) (h0 : 0 < l.length)
    (t : Tk) (hx : a.eval x = .slice (some ⟨w2.heap.size, 0, none⟩) 1 1) (hl : l.length ≤ 100000000)
    (K : ∀ v' w', St B w0 w' (forkT v v' l t :: r) → wpList Tryz.prog ops Q rest (a.put o.dst v') w') : wpList Tryz.prog ops Q (o :: rest) a (w2.alloc (.cells (tk3 t).toArray 33)) := by
  obtain ⟨i0, hi, hz0, hz1, hz2⟩ := info_parts infoTok
  have st1 := st.alloc (.cells (tk3 t).toArray 33)
  have hown := st1.row
  have hnews : ∀ j u, (tk3 t)[j]? = some u → (w2.alloc (.cells (tk3 t).toArray 33)).cell? ((⟨w2.heap.size, 0, none⟩ : Addr).add j) = some u := by
    intro j u hu
    rw [add_none, Nat.zero_add, cell_of_row _ w2.heap.size j (tk3 t).toArray 33 (0, 0) (heap_alloc_new w2 _)]
    simpa using hu
  have e1 : tks l ++ tk3 t = tks (l ++ [t]) := by rw [tks_append]; simp [tks]
  have e2 : (l ++ [t]).length = l.length + 1 := by simp
  refine wpList_plain hgd fun K0 hK => ?_
  rcases hown.2 with ⟨_, h1⟩ | ⟨g, cap, cur, rfl, hbg, hg, hnc, hcm, hcs, htake⟩
  · omega
  · by_cases hroom : l.length + 1 ≤ cap
    · obtain ⟨w', hr, h2, h3⟩ := run_append_fits (P := Tryz.prog) _ 0 31 o.type 33 i0 3 Tryz.underlying31 hi hz1 g l.length cap (tks l) hown ⟨w2.heap.size, 0, none⟩ 1 1 (tk3 t) rfl hnews (by simp [Value.oneCell']) hroom
      unfold Oper.wp execOp
      simp only [ho, resolve, invoke, builtin, Sem.run_bind, Sem.run_pure, Result.andThen_ok, List.map_toArray, List.map_cons, List.map_nil, hs, hx, hr]
      have hfr := ownsRow_front h2 (tks_length l)
      rw [e1] at h2
      exact hK _ _ (K _ _ (st1.forks e2 h2 (.inl ⟨hfr, rfl, h3⟩)))
    · obtain ⟨v', w', hr, h2, h3⟩ := run_append_arg_grows (P := Tryz.prog) _ 31 o.type 33 i0 (.agg #[.int .i64 0, .int .i64 0, .int .u8 0]) 3 24 Tryz.underlying31 hi hz0 hz1 hz2 rfl (by decide) ⟨g, 0, none⟩ l.length cap (tks l) hown.1 (hown.cells (g := g) rfl) ⟨w2.heap.size, 0, none⟩ 1 1 (tk3 t) rfl hnews (by omega) (by unfold maxLen; omega) (by omega)
      unfold Oper.wp execOp
      simp only [ho, resolve, invoke, builtin, Sem.run_bind, Sem.run_pure, Result.andThen_ok, List.map_toArray, List.map_cons, List.map_nil, hs, hx, hr]
      rw [e1] at h2
      exact hK _ _ (K _ _ (st1.forks e2 (ownsRow_base h2) (.inr ⟨fun g' hg' => (h2.lt g' hg').1, h3⟩)))

end Go.Proofs.YtpcbhmkalofkmaaGreat.Tok
