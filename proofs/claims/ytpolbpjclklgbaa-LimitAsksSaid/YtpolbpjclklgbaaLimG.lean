/-
  Slices of slices of int that a call has made (a table). No conditions.
-/
import Derived.Test.YtpolbpjclklgbaaLimO
import Derived.Test.YtpolbpjclklgbaaIntsA
namespace Go.Proofs.Ytpolbpjclklgbaa
open Go.RowKit Limit

/-- The slice v holds slices that read as these rows; its own block is none of theirs. -/
structure TabAt (w : World) (v : Value) (R : List (List Nat)) (vs : List Value) : Prop where
  row : w.ownsRow 0 24 1 v R.length vs
  one : ∀ u ∈ vs, u.oneCell' = true
  each : ∀ (i : Nat) (h : i < R.length), ∃ u, vs[i]? = some u ∧ w.ownsRow 0 3 1 u R[i].length (i64s R[i]) ∧ ∀ g, v.ownBlock = some g → u.ownBlock ≠ some g

def tabT (v : Value) (R : List (List Nat)) : Thing where
  holds w S := ∃ vs, TabAt w v R vs ∧ (∀ k, S k → k < w.heap.size) ∧ (∀ k, v.ownBlock = some k → S k) ∧ ∀ (i : Nat) (u : Value), i < R.length → vs[i]? = some u → ∀ k, u.ownBlock = some k → S k
  keep := by
    rintro w w' S T ⟨vs, h1, h2, h3, h4⟩ ho hd
    refine ⟨vs, ⟨ownsRow_only h1.row ho (fun g hg => hd g (h3 g hg)), h1.one, fun i hi => ?_⟩, fun k hk => Nat.lt_of_lt_of_le (h2 k hk) ho.size, h3, h4⟩
    obtain ⟨u, e1, e2, e3⟩ := h1.each i hi
    exact ⟨u, e1, ownsRow_only e2 ho (fun g hg => hd g (h4 i u hi e1 g hg)), e3⟩
  lt := by
    rintro w S k ⟨vs, h1, h2, h3, h4⟩ hk
    exact h2 k hk

section
variable {B : Nat} {w0 w : World} {r : List Thing}

theorem St.tab {v : Value} {R : List (List Nat)} (h : St B w0 w (tabT v R :: r)) : ∃ vs, TabAt w v R vs := by
  obtain ⟨S1, ⟨vs, h1, _⟩, _⟩ := h.sep
  exact ⟨vs, h1⟩

theorem St.noTab (h : St B w0 w r) : St B w0 w (tabT (.slice none 0 0) [] :: r) :=
  h.add (S := fun _ => False) (Below.refl _ _) ⟨[], ⟨World.ownsRow_nil _ _ _ _, fun u hu => absurd hu (by simp), fun i hi => absurd hi (by simp)⟩, fun _ f => f.elim, fun k hk => by simp [Value.ownBlock] at hk, fun i u hi => absurd hi (by simp)⟩ (fun _ f => f.elim)

/-- Two things as one. -/
def twoT (A C : Thing) : Thing where
  holds w S := ∃ S1 S2, A.holds w S1 ∧ C.holds w S2 ∧ (∀ k, S1 k → ¬ S2 k) ∧ ∀ k, S k ↔ S1 k ∨ S2 k
  keep := by
    rintro w w' S T ⟨S1, S2, h1, h2, h3, h4⟩ ho hd
    exact ⟨S1, S2, A.keep h1 ho (fun k hk => hd k ((h4 k).2 (.inl hk))), C.keep h2 ho (fun k hk => hd k ((h4 k).2 (.inr hk))), h3, h4⟩
  lt := by
    rintro w S k ⟨S1, S2, h1, h2, h3, h4⟩ hk
    rcases (h4 k).1 hk with hk | hk
    · exact A.lt h1 hk
    · exact C.lt h2 hk

theorem St.two {A C : Thing} (h : St B w0 w (A :: C :: r)) : St B w0 w (twoT A C :: r) := by
  obtain ⟨S1, h1, h2, S2, h3, h4, h5⟩ := h.sep
  refine ⟨h.only, h.size, fun k => S1 k ∨ S2 k, ⟨S1, S2, h1, h3, fun k a b => (h4 k b).2 a, fun _ => Iff.rfl⟩, fun k hk => hk.elim (h2 k) (fun hk => (h4 k hk).1), ?_⟩
  exact Sep.mono h5 (fun k _ hk => ⟨hk.1.1, fun h' => h'.elim hk.1.2 hk.2⟩)

theorem ownsRow_same {b b' : Nat} {e : TypeId} {size n : Nat} {v : Value} {xs ys : List Value} (h : w.ownsRow b e size v n xs) (h' : w.ownsRow b' e size v n ys) : xs = ys := by
  rcases h.2 with ⟨_, h0⟩ | ⟨g, cap, cur, hv, _, hg, _, _, _, ht⟩
  · subst h0
    have l1 := h.1
    have l2 := h'.1
    rw [Nat.zero_mul] at l1 l2
    rw [List.eq_nil_of_length_eq_zero l1, List.eq_nil_of_length_eq_zero l2]
  · rcases h'.2 with ⟨hv', _⟩ | ⟨g', cap', cur', hv', _, hg', _, _, _, ht'⟩
    · rw [hv] at hv'
      cases hv'
    · rw [hv] at hv'
      have e1 := congrArg Addr.block (Option.some.inj (Value.slice.inj hv').1)
      have e2 : g = g' := e1
      subst e2
      rw [hg] at hg'
      have e3 := (Obj.cells.inj (Option.some.inj hg')).1
      subst e3
      rw [← ht, ← ht']

theorem infoTab : (Try.prog.info? 24).map (fun i => (i.zero, i.size, i.bytes)) = some (some (.slice none 0 0), 1, 24) := by kernel_rfl

/-- 'append(out, x)', x a slice of bytes of the call's own. -/
theorem wpList_append_tab {ops : Array Oper} {rest : List Oper} {o : Oper} {a : Act} {Q : Exit → Act → World → Prop} (hgd : o.guard = none) (s x : Operand)
    (ho : o.op = .call { callee := .builtin .append, args := #[s, x], argTypes := #[48, 48] })
    {v u : Value} {R : List (List Nat)} {xs : List Nat} (st : St B w0 w (rowT 3 1 u xs.length (i64s xs) :: tabT v R :: r)) (hs : a.eval s = v)
    (hx : a.eval x = .slice (some ⟨w.heap.size, 0, none⟩) 1 1) (hl : R.length ≤ 1000000)
    (K : ∀ v' w', St B w0 w' (tabT v' (R ++ [xs]) :: r) → wpList Try.prog ops Q rest (a.put o.dst v') w') : wpList Try.prog ops Q (o :: rest) a (w.alloc (.cells #[u] 24)) := by
  obtain ⟨i0, hi, hz0, hz1, hz2⟩ := info_parts infoTab
  obtain ⟨vs, hR⟩ := st.swap.tab
  have hu1 : u.oneCell' = true := by
    obtain ⟨au, cu, rfl⟩ := ownsRow_slice st.row
    rfl
  have hlen : vs.length = R.length := by simpa using hR.row.1
  refine wpList_append_mine _ hgd s x 48 ho 24 i0 (.slice none 0 0) 1 24 Try.underlying48 hi hz0 hz1 hz2 rfl (by decide) v R.length vs hs (ownsRow_only hR.row ((Only.refl (fun _ => False) w).alloc _) (fun _ _ f => f)) (some ⟨w.heap.size, 0, none⟩) 1 1 [u] hx (fun e => by cases e) rfl ?_ (fun z hz => by simp at hz; subst hz; exact hu1) (by unfold maxLen; omega) (by omega) ?_
  · intro b hb j z hz
    obtain rfl := Option.some.inj hb
    cases j with
    | zero =>
      simp at hz
      subst hz
      rw [add_none, cell_of_row _ w.heap.size _ #[u] 24 (0, 0) (heap_alloc_new w _)]
      rfl
    | succ j => simp at hz
  · intro v' w' g1 g2 g3
    refine K v' w' (st.two.step fun S hS => ?_)
    obtain ⟨S1, S2, h1, ⟨vs', h2, h2a, h2b, h2c⟩, h3, h4⟩ := hS
    obtain rfl : vs' = vs := ownsRow_same h2.row hR.row
    have hoS : Only S w w' := ((Only.refl S w).alloc _).grown g2 (fun k hk _ => (h4 k).2 (.inr (h2b k hk)))
    have hoV : Only (fun k => v.ownBlock = some k) w w' := ((Only.refl (fun k => v.ownBlock = some k) w).alloc _).grown g2 (fun k hk _ => hk)
    have hfresh : ∀ z : Value, (∀ k, z.ownBlock = some k → k < w.heap.size) → (∀ g, v.ownBlock = some g → z.ownBlock ≠ some g) → ∀ g, v'.ownBlock = some g → z.ownBlock ≠ some g := by
      intro z hz1 hz2 g hg e
      rcases g3 with f | f
      · exact hz2 g (by rw [← f]; exact hg) e
      · have a1 := f g hg
        have a2 := hz1 g e
        rw [show (w.alloc (.cells #[u] 24)).heap.size = w.heap.size + 1 from by simp] at a1
        omega
    have hu2 : ∀ g, v.ownBlock = some g → u.ownBlock ≠ some g := fun g hg e => h3 g ((h1.2 g).2 e) (h2b g hg)
    refine ⟨fun k => v'.ownBlock = some k ∨ u.ownBlock = some k ∨ ∃ i z, i < R.length ∧ vs'[i]? = some z ∧ z.ownBlock = some k, ⟨vs' ++ [u], ⟨?_, ?_, ?_⟩, ?_, fun k hk => .inl hk, ?_⟩, hoS, ?_⟩
    · rw [List.length_append]
      exact g1
    · intro z hz
      rcases List.mem_append.1 hz with hz | hz
      · exact h2.one z hz
      · rw [List.mem_singleton] at hz
        subst hz
        exact hu1
    · intro i hi
      by_cases hlt : i < R.length
      · obtain ⟨z, e1, e2, e3⟩ := h2.each i hlt
        refine ⟨z, by rw [List.getElem?_append_left (by omega)]; exact e1, ?_, hfresh z (fun k hk => (e2.lt k hk).2) e3⟩
        rw [List.getElem_append_left hlt]
        exact ownsRow_only e2 hoV (fun g hg hg' => e3 g hg' hg)
      · have e0 : i = R.length := by simp at hi; omega
        subst e0
        refine ⟨u, by rw [List.getElem?_append_right (by omega), hlen, Nat.sub_self]; rfl, ?_, hfresh u (fun k hk => (h1.1.lt k hk).2) hu2⟩
        rw [List.getElem_append_right (Nat.le_refl _)]
        simp only [Nat.sub_self, List.getElem_cons_zero]
        exact ownsRow_only h1.1 hoV (fun g hg hg' => hu2 g hg' hg)
    · intro k hk
      rcases hk with hk | hk | ⟨i, z, hi', hz, hk⟩
      · exact (g1.lt k hk).2
      · exact Nat.lt_of_lt_of_le (h1.1.lt k hk).2 hoS.size
      · obtain ⟨z', e1, e2, _⟩ := h2.each i hi'
        rw [hz] at e1
        obtain rfl := Option.some.inj e1
        exact Nat.lt_of_lt_of_le (e2.lt k hk).2 hoS.size
    · intro i z hi' hz k hk
      by_cases hlt : i < R.length
      · rw [List.getElem?_append_left (by omega)] at hz
        exact .inr (.inr ⟨i, z, hlt, hz, hk⟩)
      · have e0 : i = R.length := by simp at hi'; omega
        subst e0
        rw [List.getElem?_append_right (by omega), hlen, Nat.sub_self] at hz
        obtain rfl := Option.some.inj hz
        exact .inr (.inl hk)
    · intro k hk
      rcases hk with hk | hk | ⟨i, z, hi', hz, hk⟩
      · rcases g3 with f | f
        · exact .inl ((h4 k).2 (.inr (h2b k (by rw [← f]; exact hk))))
        · have a1 := f k hk
          rw [show (w.alloc (.cells #[u] 24)).heap.size = w.heap.size + 1 from by simp] at a1
          exact .inr (by omega)
      · exact .inl ((h4 k).2 (.inl ((h1.2 k).2 hk)))
      · exact .inl ((h4 k).2 (.inr (h2c i z hi' hz k hk)))

end

theorem St.tabRow {B : Nat} {w0 w : World} {r : List Thing} {v : Value} {R : List (List Nat)} (st : St B w0 w (tabT v R :: r)) : TabRow w v R := by
  obtain ⟨vs, hR⟩ := st.tab
  rcases hR.row.2 with ⟨rfl, h0⟩ | ⟨g, cap, cur, rfl, _, _, hnc, _⟩
  · exact ⟨none, 0, by rw [h0], by omega, fun i hi => by omega⟩
  · refine ⟨_, cap, rfl, hnc, fun i hi => ?_⟩
    obtain ⟨u, e1, e2, _⟩ := hR.each i hi
    refine ⟨g, 0, u, rfl, ?_, numRow_owns e2⟩
    rw [Nat.zero_add, hR.row.cellAt i (by omega), e1]

end Go.Proofs.Ytpolbpjclklgbaa
