/-
  Plain facts about memory: things that lie apart in the memory that a call has made. No program. No conditions.
-/
import Derived.Test.YtjchchinmggldaaMem
namespace Go.Proofs.Ytjchchinmggldaa
open Go.RowKit

/-- What lies from B on. -/
def From (B : Nat) (k : Nat) : Prop := B ≤ k

/-- A thing in memory: what holds of it, over the blocks that are its own. -/
structure Thing where
  holds : World → (Nat → Prop) → Prop
  keep : ∀ {w w' : World} {S T : Nat → Prop}, holds w S → Only T w w' → (∀ k, S k → ¬ T k) → holds w' S
  lt : ∀ {w : World} {S : Nat → Prop} {k : Nat}, holds w S → S k → k < w.heap.size

/-- These things, each over blocks of its own, all of them out of S. -/
def Sep (w : World) : List Thing → (Nat → Prop) → Prop
  | [], _ => True
  | A :: r, S => ∃ S1, A.holds w S1 ∧ (∀ k, S1 k → S k) ∧ Sep w r (fun k => S k ∧ ¬ S1 k)

theorem Sep.mono {w : World} : ∀ {l : List Thing} {S S' : Nat → Prop}, Sep w l S → (∀ k, k < w.heap.size → S k → S' k) → Sep w l S'
  | [], _, _, _, _ => trivial
  | A :: r, _, _, ⟨S1, h1, h2, h3⟩, hm =>
    ⟨S1, h1, fun k hk => hm k (A.lt h1 hk) (h2 k hk), Sep.mono (l := r) h3 (fun k hk hs => ⟨hm k hk hs.1, hs.2⟩)⟩

theorem Sep.keep {w w' : World} {T : Nat → Prop} (ho : Only T w w') : ∀ {l : List Thing} {S : Nat → Prop}, Sep w l S → (∀ k, S k → ¬ T k) → Sep w' l S
  | [], _, _, _ => trivial
  | A :: r, _, ⟨S1, h1, h2, h3⟩, hT =>
    ⟨S1, A.keep h1 ho (fun k hk => hT k (h2 k hk)), h2, Sep.keep ho (l := r) h3 (fun k hk => hT k hk.1)⟩

theorem Sep.swap {w : World} {A C : Thing} {r : List Thing} {S : Nat → Prop} (h : Sep w (A :: C :: r) S) : Sep w (C :: A :: r) S := by
  obtain ⟨S1, h1, h2, S2, h3, h4, h5⟩ := h
  refine ⟨S2, h3, fun k hk => (h4 k hk).1, S1, h1, fun k hk => ⟨h2 k hk, fun h => (h4 k h).2 hk⟩, ?_⟩
  exact Sep.mono h5 (fun k _ hk => ⟨⟨hk.1.1, hk.2⟩, hk.1.2⟩)

/-- What a call has made since w0: these things, from block B on; nothing below B has turned. -/
structure St (B : Nat) (w0 w : World) (l : List Thing) : Prop where
  only : Only (From B) w0 w
  size : B ≤ w.heap.size
  sep : Sep w l (From B)

theorem St.start (w : World) : St w.heap.size w w [] := ⟨Only.refl _ _, Nat.le_refl _, trivial⟩

theorem St.below {B : Nat} {w0 w : World} {l : List Thing} (h : St B w0 w l) (hB : B ≤ w0.heap.size) : Below B w0 w :=
  h.only.below hB (fun k hk f => by unfold From at f; omega)

theorem St.swap {B : Nat} {w0 w : World} {A C : Thing} {r : List Thing} (h : St B w0 w (A :: C :: r)) : St B w0 w (C :: A :: r) := ⟨h.only, h.size, h.sep.swap⟩

theorem Sep.under {w : World} {A : Thing} {l m : List Thing} (f : ∀ S, Sep w l S → Sep w m S) {S : Nat → Prop} (h : Sep w (A :: l) S) : Sep w (A :: m) S := by
  obtain ⟨S1, h1, h2, h3⟩ := h
  exact ⟨S1, h1, h2, f _ h3⟩

/-- The third to the front. -/
theorem St.third {B : Nat} {w0 w : World} {A C D : Thing} {r : List Thing} (h : St B w0 w (A :: C :: D :: r)) : St B w0 w (D :: A :: C :: r) :=
  ⟨h.only, h.size, (Sep.under (fun _ => Sep.swap) h.sep).swap⟩

/-- The fourth to the front. -/
theorem St.fourth {B : Nat} {w0 w : World} {A C D E : Thing} {r : List Thing} (h : St B w0 w (A :: C :: D :: E :: r)) : St B w0 w (E :: A :: C :: D :: r) :=
  ⟨h.only, h.size, (Sep.under (fun _ h => (Sep.under (fun _ => Sep.swap) h).swap) h.sep).swap⟩

theorem St.drop {B : Nat} {w0 w : World} {A : Thing} {r : List Thing} (h : St B w0 w (A :: r)) : St B w0 w r := by
  obtain ⟨S1, _, _, h3⟩ := h.sep
  exact ⟨h.only, h.size, Sep.mono h3 (fun k _ hk => hk.1)⟩

/-- The first thing of a state, and what a call does to it alone. -/
theorem St.step {B : Nat} {w0 w w' : World} {A A' : Thing} {r : List Thing} (h : St B w0 w (A :: r))
    (f : ∀ S, A.holds w S → ∃ S', A'.holds w' S' ∧ Only S w w' ∧ ∀ k, S' k → S k ∨ w.heap.size ≤ k) : St B w0 w' (A' :: r) := by
  obtain ⟨S1, h1, h2, h3⟩ := h.sep
  obtain ⟨S1', g1, g2, g3⟩ := f S1 h1
  refine ⟨h.only.trans g2 (fun i _ hi => h2 i hi), Nat.le_trans h.size g2.size, S1', g1, ?_, ?_⟩
  · intro k hk
    rcases g3 k hk with a | a
    · exact h2 k a
    · exact Nat.le_trans h.size a
  · have e1 : Sep w r (fun k => (From B k ∧ ¬ S1 k) ∧ ¬ S1' k) := Sep.mono h3 (fun k hk hs => ⟨hs, fun h' => by
      rcases g3 k h' with a | a
      · exact hs.2 a
      · omega⟩)
    exact Sep.mono (Sep.keep g2 e1 (fun k hk => hk.1.2)) (fun k _ hk => ⟨hk.1.1, hk.2⟩)

/-- A call that only makes memory, and a thing in it. -/
theorem St.add {B : Nat} {w0 w w' : World} {A : Thing} {r : List Thing} (h : St B w0 w r) (hb : Below w.heap.size w w') {S : Nat → Prop} (hA : A.holds w' S) (hS : ∀ k, S k → w.heap.size ≤ k) : St B w0 w' (A :: r) := by
  have ho : Only (fun _ => False) w w' := Only.of_below hb (fun k hk hk' => absurd hk (by omega))
  refine ⟨h.only.trans ho (fun _ _ f => f.elim), Nat.le_trans h.size hb.size, S, hA, fun k hk => Nat.le_trans h.size (hS k hk), ?_⟩
  have e1 : Sep w r (fun k => From B k ∧ ¬ S k) := Sep.mono h.sep (fun k hk hs => ⟨hs, fun h' => by have := hS k h'; omega⟩)
  exact Sep.keep ho e1 (fun _ _ f => f)

/-- A call that turns nothing that was there. -/
theorem St.quiet {B : Nat} {w0 w w' : World} {r : List Thing} (h : St B w0 w r) (hb : Below w.heap.size w w') : St B w0 w' r := by
  have ho : Only (fun _ => False) w w' := Only.of_below hb (fun k hk hk' => absurd hk (by omega))
  exact ⟨h.only.trans ho (fun _ _ f => f.elim), Nat.le_trans h.size hb.size, Sep.keep ho h.sep (fun _ _ f => f)⟩

theorem below_drewN {w : World} (n : Nat) : Below w.heap.size w (w.drewN n) := ⟨rfl, rfl, rfl, Nat.le_refl _, fun _ _ => rfl⟩
theorem below_alloc (w : World) (o : Obj) : Below w.heap.size w (w.alloc o) := (Below.refl _ _).alloc (Nat.le_refl _) _

theorem St.drewN {B : Nat} {w0 w : World} {r : List Thing} (h : St B w0 w r) (n : Nat) : St B w0 (w.drewN n) r := h.quiet (below_drewN n)
theorem St.drew {B : Nat} {w0 w : World} {r : List Thing} (h : St B w0 w r) : St B w0 w.drew r := h.quiet (Below.refl _ _).drew
theorem St.alloc {B : Nat} {w0 w : World} {r : List Thing} (h : St B w0 w r) (o : Obj) : St B w0 (w.alloc o) r := h.quiet (below_alloc w o)

/-- A slice of the call's own, and what it holds. -/
def rowT (e : TypeId) (size : Nat) (v : Value) (n : Nat) (xs : List Value) : Thing where
  holds w S := w.ownsRow 0 e size v n xs ∧ ∀ k, S k ↔ v.ownBlock = some k
  keep h ho hd := ⟨ownsRow_only h.1 ho (fun g hg => hd g ((h.2 g).2 hg)), h.2⟩
  lt h hk := (h.1.lt _ ((h.2 _).1 hk)).2

theorem St.row {B : Nat} {w0 w : World} {e : TypeId} {size : Nat} {v : Value} {n : Nat} {xs : List Value} {r : List Thing} (h : St B w0 w (rowT e size v n xs :: r)) : w.ownsRow 0 e size v n xs := by
  obtain ⟨S1, h1, _⟩ := h.sep
  exact h1.1

theorem St.rowFrom {B : Nat} {w0 w : World} {e : TypeId} {size : Nat} {v : Value} {n : Nat} {xs : List Value} {r : List Thing} (h : St B w0 w (rowT e size v n xs :: r)) : w.ownsRow B e size v n xs := by
  obtain ⟨S1, h1, h2, _⟩ := h.sep
  refine ⟨h1.1.1, ?_⟩
  rcases h1.1.2 with a | ⟨g, cap, cur, hv, _, rest⟩
  · exact .inl a
  · exact .inr ⟨g, cap, cur, hv, h2 g ((h1.2 g).2 (by rw [hv]; rfl)), rest⟩

theorem St.addRow {B : Nat} {w0 w w' : World} {e : TypeId} {size : Nat} {v : Value} {n : Nat} {xs : List Value} {r : List Thing} (h : St B w0 w r) (hb : Below w.heap.size w w') (ho : w'.ownsRow w.heap.size e size v n xs) : St B w0 w' (rowT e size v n xs :: r) :=
  h.add (S := fun k => v.ownBlock = some k) hb ⟨ownsRow_base ho, fun _ => Iff.rfl⟩ (fun k hk => (ho.lt k hk).1)

/-- A nil slice owns nothing. -/
theorem St.addNil {B : Nat} {w0 w : World} {e : TypeId} {size : Nat} {r : List Thing} (h : St B w0 w r) : St B w0 w (rowT e size (.slice none 0 0) 0 [] :: r) :=
  h.add (S := fun k => Value.ownBlock (.slice none 0 0) = some k) (Below.refl _ _) ⟨World.ownsRow_nil _ _ _ _, fun _ => Iff.rfl⟩ (fun k hk => by simp [Value.ownBlock] at hk)

/-- Behind an append to such a slice. -/
theorem St.grown {B : Nat} {w0 w w' : World} {e : TypeId} {size : Nat} {v v' : Value} {n n' : Nat} {xs xs' : List Value} {r : List Thing} (h : St B w0 w (rowT e size v n xs :: r))
    (ho : w'.ownsRow 0 e size v' n' xs') (hg : w.grownBy w' v.ownBlock) (hf : Fresh w v v') : St B w0 w' (rowT e size v' n' xs' :: r) :=
  h.step fun S hS => ⟨fun k => v'.ownBlock = some k, ⟨ho, fun _ => Iff.rfl⟩, ⟨hg.os, hg.tape, hg.output, hg.size, fun k hk hn => hg.block k hk (fun e => hn ((hS.2 k).2 e.symm))⟩, fun k hk => by
    rcases hf with a | a
    · exact .inl ((hS.2 k).2 (by rw [← a]; exact hk))
    · exact .inr (a k hk)⟩

/-- A slice that is not empty: its shape, and its cells. -/
theorem St.rowShape {B : Nat} {w0 w : World} {e : TypeId} {size : Nat} {v : Value} {n : Nat} {xs : List Value} {r : List Thing} (h : St B w0 w (rowT e size v n xs :: r)) (hn : 0 < n) :
    ∃ g cap, v = .slice (some ⟨g, 0, none⟩) n cap ∧ n ≤ cap := by
  rcases h.row.2 with ⟨_, h0⟩ | ⟨g, cap, cur, hv, _, _, hnc, _⟩
  · omega
  · exact ⟨g, cap, hv, hnc⟩

/-- A store into a slice of the call's own. -/
theorem St.stored {B : Nat} {w0 w : World} {e : TypeId} {size g n cap : Nat} {xs : List Value} {r : List Thing} (h : St B w0 w (rowT e size (.slice (some ⟨g, 0, none⟩) n cap) n xs :: r)) (j : Nat) (u : Value) :
    St B w0 (w.setCell ⟨g, j, none⟩ u) (rowT e size (.slice (some ⟨g, 0, none⟩) n cap) n (xs.set j u) :: r) :=
  h.grown (h.row.stored j u).1 (h.row.stored j u).2 (Fresh.refl _ _)

/-- 'append(s, x)', s a slice of the call's own, x one element (it lies in a new block): the slice behind it. -/
theorem wpList_append_one {P : Program} {ops : Array Oper} {rest : List Oper} {o : Oper} {a : Act} {Q : Exit → Act → World → Prop} (hgd : o.guard = none) (s x : Operand) (t : TypeId)
    (ho : o.op = .call { callee := .builtin .append, args := #[s, x], argTypes := #[t, t] })
    (e : TypeId) (i : TypeInfo) (z : Value) (size bytes : Nat) (ht : P.underlying t = some (.slice e)) (hi : P.info? e = some i) (hz : i.zero = some z)
    (hsize : i.size = size) (hby : i.bytes = bytes) (hzs : z.cells.size = size) (hsz : 0 < size)
    {B : Nat} {w0 w2 : World} {v : Value} {n : Nat} {xs : List Value} {r : List Thing} (st : St B w0 w2 (rowT e size v n xs :: r)) (hs : a.eval s = v)
    (cs : List Value) (hx : a.eval x = .slice (some ⟨w2.heap.size, 0, none⟩) 1 1) (hcs : cs.length = size) (h1 : ∀ u ∈ cs, u.oneCell' = true)
    (h63 : n + 1 ≤ maxLen) (hbytes : (n + 1) * bytes ≤ 140737488355328)
    (h : ∀ v' w', St B w0 w' (rowT e size v' (n + 1) (xs ++ cs) :: r) → wpList P ops Q rest (a.put o.dst v') w') : wpList P ops Q (o :: rest) a (w2.alloc (.cells cs.toArray e)) := by
  have st1 := st.alloc (.cells cs.toArray e)
  refine wpList_append_mine _ hgd s x t ho e i z size bytes ht hi hz hsize hby hzs hsz v n xs hs st1.row (some ⟨w2.heap.size, 0, none⟩) 1 1 cs hx (fun e => by cases e) (by omega) ?_ h1 h63 hbytes ?_
  · intro b hb j u hu
    obtain rfl := Option.some.inj hb
    have hadd : (⟨w2.heap.size, 0, none⟩ : Addr).add j = ⟨w2.heap.size, j, none⟩ := by unfold Addr.add; split <;> simp_all
    rw [hadd, cell_of_row _ w2.heap.size j cs.toArray e (0, 0) (heap_alloc_new w2 _)]
    simpa using hu
  · intro v' w' g1 g2 g3
    exact h v' w' (st1.grown g1 g2 g3)

/-- 'append(s, t...)', both of the call's own. -/
theorem wpList_append_row {P : Program} {ops : Array Oper} {rest : List Oper} {o : Oper} {a : Act} {Q : Exit → Act → World → Prop} (hgd : o.guard = none) (s x : Operand) (t : TypeId)
    (ho : o.op = .call { callee := .builtin .append, args := #[s, x], argTypes := #[t, t] })
    (e : TypeId) (i : TypeInfo) (z : Value) (bytes : Nat) (ht : P.underlying t = some (.slice e)) (hi : P.info? e = some i) (hz : i.zero = some z)
    (hsize : i.size = 1) (hby : i.bytes = bytes) (hzs : z.cells.size = 1)
    {B : Nat} {w0 w : World} {v : Value} {n : Nat} {xs : List Value} {ad : Option Addr} {m c : Nat} {ys : List Value} {r : List Thing}
    (st : St B w0 w (rowT e 1 v n xs :: rowT e 1 (.slice ad m c) m ys :: r)) (hs : a.eval s = v) (hx : a.eval x = .slice ad m c) (h1 : ∀ u ∈ ys, u.oneCell' = true)
    (h63 : n + m ≤ maxLen) (hbytes : (n + m) * bytes ≤ 140737488355328)
    (h : ∀ v' w', St B w0 w' (rowT e 1 v' (n + m) (xs ++ ys) :: rowT e 1 (.slice ad m c) m ys :: r) → wpList P ops Q rest (a.put o.dst v') w') : wpList P ops Q (o :: rest) a w := by
  have hy := st.swap.row
  refine wpList_append_mine _ hgd s x t ho e i z 1 bytes ht hi hz hsize hby hzs (by decide) v n xs hs st.row ad m c ys hx ?_ hy.1 ?_ h1 h63 hbytes ?_
  · intro e1
    subst e1
    rcases hy.2 with ⟨e2, e3⟩ | ⟨g, cap, cur, e2, _⟩
    · have := Value.slice.inj e2; exact ⟨e3, this.2.2⟩
    · cases e2
  · intro b hb j u hu
    subst hb
    rcases hy.2 with ⟨e2, e3⟩ | ⟨g, cap, cur, e2, _⟩
    · cases e2
    · have e4 : b = ⟨g, 0, none⟩ := Option.some.inj (Value.slice.inj e2).1
      rw [e4]
      exact hy.cells (g := g) (by rw [e4]; rfl) j u hu
  · intro v' w' g1 g2 g3
    exact h v' w' (st.grown g1 g2 g3)

end Go.Proofs.Ytjchchinmggldaa
