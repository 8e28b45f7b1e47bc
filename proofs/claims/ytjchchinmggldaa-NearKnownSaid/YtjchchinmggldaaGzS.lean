/-
  Plain facts about a range over a function whose values lie in memory that the function has made: each round is told what holds of its values. No program. No conditions.
-/
import Derived.Test.YtjchchinmggldaaCount
import Derived.Test.YtjchchinmggldaaBox
import Derived.Test.YtjchchinmggldaaBytes
namespace Go.Proofs.Ytjchchinmggldaa
open Go.RowKit

/-- A function that hands its yield values of which A holds, one after another, N times. -/
def SeqA (F : Fence) (n : Nat) (P : Program) (g : Nat) (lb : Array Value) (A : Nat → Array Value → World → Prop) (Kp : World → World → Prop) (N : Nat) (w : World) : Prop :=
  ∀ (l : Nat) (J : Nat → World → Prop) (W : World), Below w.heap.size w W → (∀ k A B, J k A → Below A.heap.size A B → J k B) →
    (∀ k x W1, k < N → J k W1 → A k x W1 → YieldAt F (n - 1) P l x W1 fun e W' => e = .returned (.bool true) ∧ J (k + 1) W' ∧ Kp W1 W') →
    J 0 W → CallsIn F n P g (#[.func (.yield l) #[] #[]] ++ lb) W fun e W' => (∃ v, e = .returned v) ∧ J N W'

theorem range_some {F : Fence} {n : Nat} {P : Program} {g : Operand} {ps : Array Tmp} {assign body : Code} {Q : Exit → Act → World → Prop} {a : Act} {w : World}
    (hro : F.round = none) (h1 : 1 ≤ n) {gf : Nat} {lb : Array Value} (hg : a.eval g = .func (.func gf) #[] lb) (hFg : F.fn gf) (eg : ∀ args w, (callFunc gf args).run P w = .ok (.enter gf args) w)
    {A : Nat → Array Value → World → Prop} {Kp : World → World → Prop} {N : Nat} {w0 : World} (hseq : SeqA F (n - 1) P gf lb A Kp N w0)
    (hKt : ∀ {A B C : World}, Kp A B → Kp B C → Kp A C) (hKb : ∀ (W : World) (l : Nat) (o o' : Obj), w.heap.size ≤ l → W.heap[l]? = some o → o.isCells = false → o.isWalk = false → Kp W (W.putObj l o'))
    (hb0 : Below w0.heap.size w0 w) (hps : ∀ k x W, k < N → A k x W → x.size = ps.size)
    (I : Nat → World → Prop) (hIB : ∀ k A B, I k A → Below A.heap.size A B → I k B) (hIp : ∀ k (W : World) (l : Nat) (o o' : Obj), I k W → w.heap.size ≤ l → W.heap[l]? = some o → o.isCells = false → I k (W.putObj l o')) (h0 : I 0 w)
    (I2 : Nat → Act → World → Prop) (hI2 : ∀ k aa (W : World) (l : Nat) (o o' : Obj), I2 k aa W → w.heap.size ≤ l → W.heap[l]? = some o → o.isCells = false → I2 k aa (W.putObj l o'))
    (hassign : ∀ (l k : Nat) (x : Array Value) (W : World) (K : Act → World → Prop), k < N → I k W → A k x W → (∀ aa W', I2 k aa W' → KeepsOthers W W' → Kp W W' → K aa W') →
      assign.wpIn (F.inRound l) (n - 1 - 1) P (Exit.then K (fun _ _ _ => False)) { tmps := (ps.zip x).foldl (fun t (p, v) => t.setIfInBounds p v) a.tmps, defers := [] } W)
    (hbody : ∀ (l k : Nat) (aa : Act) (W : World), k < N → I2 k aa W → body.wpIn (F.inRound l) (n - 1 - 1) P (goesOn Kp (I (k + 1)) W) aa W)
    (hdone : ∀ (D : Nat) (W : World), w.heap.size ≤ D → I N W → W.heap[D]? = some (.deferred (some [])) → Q .normal { a with defers := { target := .collected D, args := #[] } :: a.defers } W) :
    (Code.rangeFunc g ps assign body).wpIn F n P Q a w := by
  refine wpIn_rangeFunc fun fn hfn => ?_
  rw [hro]
  let D := w.heap.size
  let L : LoopState → Obj := fun s => .loop { state := s, pending := none, fn, tmps := a.tmps, params := ps, assign, body, defers := D }
  obtain ⟨W1, hW1⟩ : ∃ W1, (w.alloc (.deferred (some []))).alloc (L .ready) = W1 := ⟨_, rfl⟩
  have hs1 : W1.heap.size = D + 1 + 1 := by rw [← hW1]; simp [D]
  have hL1 : W1.heap[D + 1]? = some (L .ready) := by
    rw [← hW1]
    have := World.alloc_heap_new (w.alloc (.deferred (some []))) (L .ready)
    rwa [World.size_alloc] at this
  have hK1 : W1.heap[D]? = some (.deferred (some [])) := by
    rw [← hW1]
    exact (Below.heap_alloc _ _ _ (by simp [D])).trans (World.alloc_heap_new w _)
  have hb2 : Below w.heap.size w W1 := by rw [← hW1]; exact ((Below.refl _ w).alloc (Nat.le_refl _) _).alloc (by simp) _
  have hI1 : I 0 W1 := hIB _ _ _ h0 hb2
  have hb1 : Below w0.heap.size w0 W1 := hb0.trans (hb2.mono hb0.size)
  have put : ∀ {k : Nat} {W : World} {o : Obj} (o' : Obj), I k W → W.heap[D + 1]? = some o → o.isCells = false → I k (W.putObj (D + 1) o') := fun o' hi hl ho => hIp _ _ _ _ o' hi (by simp [D]) hl ho
  refine ⟨D + 1, [{ target := .collected D, args := #[] }], W1, { target := .fn (.func gf) lb, args := #[.func (.yield (D + 1)) #[] #[]] }, W1, gf, #[.func (.yield (D + 1)) #[] #[]] ++ lb, W1, ?_, ?_, ?_, ?_, fun _ => h1, ?_⟩
  · rw [← hW1]; exact run_enterLoop_outer _ _ _ _ _
  · simp only [resolve, hg]
    simp [go_sem]
  · intro f' hf'
    simp [Target.leads] at hf'
    subst hf'
    exact hFg
  · simp [invoke, go_sem, eg]
  · refine (hseq (D + 1) (fun k W => I k W ∧ W.heap[D + 1]? = some (L .ready) ∧ W.heap[D]? = some (.deferred (some []))) W1 hb1 ?_ ?_ ⟨hI1, hL1, hK1⟩).mono ?_
    · intro k A B ⟨h2, h3, h4⟩ hbl
      exact ⟨hIB _ _ _ h2 hbl, (hbl.block _ (lt_of_block h3)).trans h3, (hbl.block _ (lt_of_block h4)).trans h4⟩
    · rintro k x W hk ⟨hi, hl, hd⟩ hA
      refine ⟨fn, _, assign, body, run_yield (P := P) (args := x) hl (hps k x W hk hA), roundIn_of_wpIn hfn (hassign _ k x W _ hk hi hA fun aa W' g1 g2 g3 => ?_)⟩
      have hl' := g2.same _ _ hl rfl
      have hd' := g2.same _ _ hd rfl
      refine ⟨_, run_beginRound hl' rfl, ?_⟩
      have hlt : D + 1 < W'.heap.size := (Array.getElem?_eq_some_iff.1 hl').1
      have hl2 : (W'.putObj (D + 1) (L .busy)).heap[D + 1]? = some (L .busy) := World.putObj_heap_same hlt
      have hd2 : (W'.putObj (D + 1) (L .busy)).heap[D]? = some (.deferred (some [])) := (World.putObj_heap_other (by omega)).trans hd'
      refine wpIn_mono (hbody _ k _ _ hk (hI2 _ _ _ _ _ _ g1 (by simp [D]) hl' rfl)) ?_
      rintro e a3 W3 hp
      cases e with
      | normal =>
        obtain ⟨q1, q2, q3⟩ := hp
        have hl3 := q1.same _ _ hl2 rfl
        have hd3 := q1.same _ _ hd2 rfl
        exact ⟨_, _, run_endRound (P := P) none hl3, rfl, ⟨put _ q3 hl3 rfl, World.putObj_heap_same (Array.getElem?_eq_some_iff.1 hl3).1, (World.putObj_heap_other (by omega)).trans hd3⟩,
          hKt (hKt g3 (hKt (hKb _ _ _ _ (by simp [D]) hl' rfl rfl) q2)) (hKb _ _ _ _ (by simp [D]) hl3 rfl rfl)⟩
      | ret => exact hp.elim
      | exit id => exact hp.elim
      | goto t => exact hp.elim
      | panic ch => exact hp.elim
      | outgrown => exact hp.elim
    · rintro e W2 ⟨⟨v, rfl⟩, hi, hl, hd⟩
      exact ⟨none, _, run_endLoop (P := P) hl (by simp), hdone D _ (Nat.le_refl _) (put _ hi hl rfl) ((World.putObj_heap_other (by omega)).trans hd)⟩

/-! What a call turns beside its things. -/

/-- A thing that keeps off these blocks. -/
def Off (w : World) (T : Nat → Prop) (A : Thing) : Prop := ∀ S, A.holds w S → ∀ k, S k → ¬ T k

theorem Sep.off {w : World} {T : Nat → Prop} : ∀ {l : List Thing} {S : Nat → Prop}, Sep w l S → (∀ A ∈ l, Off w T A) → Sep w l (fun k => S k ∧ ¬ T k)
  | [], _, _, _ => trivial
  | A :: r, _, ⟨S1, h1, h2, h3⟩, hs =>
    ⟨S1, h1, fun k hk => ⟨h2 k hk, hs A List.mem_cons_self S1 h1 k hk⟩, Sep.mono (Sep.off (l := r) h3 (fun A' h' => hs A' (List.mem_cons_of_mem _ h'))) (fun _ _ hk => ⟨⟨hk.1.1, hk.2⟩, hk.1.2⟩)⟩

theorem off_box {w : World} {T : Nat → Prop} {b : Nat} {cs : Array Value} {t : TypeId} (h : w.heap[b]? = some (.cells cs t (0, 0)) → ¬ T b) : Off w T (boxT b cs t) := by
  rintro _ ⟨h1, h2⟩ k hk
  obtain rfl := (h2 k).1 hk
  exact h h1

theorem off_row {w : World} {T : Nat → Prop} {e : TypeId} {size : Nat} {v : Value} {n : Nat} {xs : List Value} (h : ∀ k cs fr, w.heap[k]? = some (.cells cs e fr) → ¬ T k) : Off w T (rowT e size v n xs) := by
  rintro _ ⟨h1, h2⟩ k hk
  have hk := (h2 k).1 hk
  rcases h1.2 with ⟨rfl, _⟩ | ⟨g, cap, cur, rfl, _, hgg, _⟩
  · cases hk
  · obtain rfl : g = k := Option.some.inj hk
    exact h _ _ _ hgg

/-- What is turned beside. -/
theorem St.other {B : Nat} {w0 w w' : World} {l : List Thing} (st : St B w0 w l) {T : Nat → Prop} (hs : ∀ A ∈ l, Off w T A) (hT : ∀ k, T k → B ≤ k) (ho : Only T w w') : St B w0 w' l :=
  ⟨st.only.trans ho (fun k _ hk => hT k hk), Nat.le_trans st.size ho.size, Sep.mono (Sep.keep ho (Sep.off st.sep hs) (fun _ hk => hk.2)) (fun _ _ hk => hk.1)⟩

theorem only_putObj (W : World) (l : Nat) (o' : Obj) : Only (fun k => k = l) W (W.putObj l o') := by
  have hg := grownBy_putObj' W l o'
  exact ⟨hg.os, hg.tape, hg.output, hg.size, fun k hk hn => hg.block k hk (fun e => hn (Option.some.inj e))⟩

/-- These blocks lie as they lay. -/
def frozT (X : World) (T : Nat → Prop) : Thing where
  holds w S := (X.heap.size ≤ w.heap.size ∧ ∀ k, T k → k < X.heap.size → w.heap[k]? = X.heap[k]?) ∧ ∀ k, S k ↔ (T k ∧ k < X.heap.size)
  keep := by
    rintro w w' S T' ⟨⟨h0, h1⟩, h2⟩ ho hd
    refine ⟨⟨Nat.le_trans h0 ho.size, fun k hT hk => ?_⟩, h2⟩
    rw [← h1 k hT hk]
    have hlt : k < w.heap.size := by omega
    exact ho.block k hlt (hd k ((h2 k).2 ⟨hT, hk⟩))
  lt := by
    rintro w S k ⟨⟨h0, h1⟩, h2⟩ hk
    have := ((h2 k).1 hk).2
    omega

theorem St.freeze {B : Nat} {w0 X : World} {l : List Thing} (st : St B w0 X l) {T : Nat → Prop} (hs : ∀ A ∈ l, Off X T A) (hT : ∀ k, T k → B ≤ k) : St B w0 X (frozT X T :: l) :=
  ⟨st.only, st.size, fun k => T k ∧ k < X.heap.size, ⟨⟨Nat.le_refl _, fun _ _ _ => rfl⟩, fun _ => Iff.rfl⟩, fun k hk => hT k hk.1, Sep.mono (Sep.off st.sep hs) (fun _ _ hk => ⟨hk.1, fun h => hk.2 h.1⟩)⟩

theorem St.frozen {B : Nat} {w0 w X : World} {T : Nat → Prop} {r : List Thing} (st : St B w0 w (frozT X T :: r)) : X.heap.size ≤ w.heap.size ∧ ∀ k, T k → k < X.heap.size → w.heap[k]? = X.heap[k]? := by
  obtain ⟨S1, h1, _⟩ := st.sep
  exact h1.1

/-- Between two moments of a call. -/
theorem St.between {B : Nat} {w0 w w' : World} {l l' : List Thing} (h : St B w0 w l) (h' : St B w0 w' l') (hB : B ≤ w0.heap.size) (hs : w.heap.size ≤ w'.heap.size) : Below B w w' := by
  have a := h.below hB
  have b := h'.below hB
  exact ⟨b.os.trans a.os.symm, b.tape.trans a.tape.symm, b.output.trans a.output.symm, hs, fun k hk => (b.block k hk).trans (a.block k hk).symm⟩

end Go.Proofs.Ytjchchinmggldaa
