/-
  Plain facts about a region whose order Go leaves open: where at each moment just one operation may come up (or a mere copy), the text's order (or any order that is named) says all; and a reading that may come late yields what it yields early, if what comes before it leaves that alone. No program. No conditions.
-/
import Derived.WalkKit
import Derived.Orders
import Derived.RegionTactic
namespace Go.Proofs.Ytjchchinmggldaa
open Go

section
variable {P : Program} {md : Region.Mode} {ops : Array Oper} {Q : Exit → Act → World → Prop}

theorem upon_then {o : Oper} {a : Act} {N N' : Act → World → Prop} {K : Act → World → Prop} {r : Result Next} (h : o.upon P a N (Exit.then K Q) r) (hN : ∀ a w, N a w → N' a w) : o.upon P a N' Q r := by
  cases r with
  | ok n w' =>
    cases n <;> simp only [Oper.upon] at h ⊢
    case value u => exact hN _ _ h
    case skip => exact hN _ _ h
    case defer d => exact hN _ _ h
    case enter f args =>
      refine Calls.mono h fun e w'' he => ?_
      cases e with
      | returned u => exact hN _ _ he
      | panicked c => exact he
      | outgrown => exact he
    case row row args => exact Rows.mono h fun u w'' he => hN _ _ he
  | halt x w' =>
    cases x <;> simp only [Oper.upon] at h ⊢
    case panic u => exact h

/-- One operation, as a list of one. -/
theorem wpOp_of_list {i : Nat} {o : Oper} (ho : ops[i]? = some o) {N : Act → World → Prop} {rest : List Oper} {K : Act → World → Prop} {a : Act} {w : World}
    (h : wpList P ops (Exit.then K Q) (o :: rest) a w) (hN : ∀ a w, wpList P ops (Exit.then K Q) rest a w → N a w) : wpOp P ops Q i N a w := by
  unfold wpOp
  simp only [ho]
  unfold wpList at h
  split
  · rename_i hw
    simp only [hw, if_true] at h
    rcases h with h | h
    · exact .inl (upon_then h hN)
    · exact .inr h
  · rename_i hw
    simp only [hw] at h
    exact hN _ _ h

/-- A mere copy. -/
def isMove (o : Oper) : Bool := match o.op with
  | .move _ => true
  | .assign _ => true
  | _ => false

/-- All of these have come up. -/
def lists (listed : Array Bool) : List Nat → Array Bool
  | [] => listed
  | i :: r => lists (listed.setIfInBounds i true) r

/-- At each moment the next of these is the only one that may come up, or it is a mere copy that may. -/
def segB (md : Region.Mode) (ops : Array Oper) (listed : Array Bool) : List Nat → Bool
  | [] => true
  | i :: r => (Region.ready md ops listed == [i] ||
      ((ops[i]?).map isMove).getD false && (Region.ready md ops listed).contains i && Region.free md ops listed i && Region.noSelect ops) && segB md ops (listed.setIfInBounds i true) r

theorem move_run {o : Oper} (h : isMove o = true) (ρ : Operand → Value) : ∃ x, execOp ρ o = pure (.value (ρ x)) := by
  obtain ⟨dst, op, type, pos, after, guard⟩ := o
  cases op <;> simp [isMove] at h
  · rename_i x; exact ⟨x, rfl⟩
  · rename_i x; exact ⟨x, rfl⟩

theorem yields_move {o : Oper} (h : isMove o = true) (a : Act) : ∃ v, Yields P ops o v a ∧ ∀ (w : World) (N : Act → World → Prop) (Q' : Exit → Act → World → Prop), o.wp P a w N Q' → Region.wanted o (yielded ops a.tmps) = true → N (a.put o.dst v) w := by
  obtain ⟨x, hx⟩ := move_run h a.eval
  by_cases hw : Region.wanted o (yielded ops a.tmps) = true
  · refine ⟨a.eval x, .inl ⟨hw, fun w => by rw [hx]; simp [Sem.run_pure]⟩, fun w N Q' h1 _ => ?_⟩
    unfold Oper.wp at h1
    rw [hx] at h1
    simpa [Sem.run_pure, Oper.upon] using h1
  · exact ⟨undef, .inr ⟨by simpa using hw, rfl⟩, fun w N Q' _ h2 => absurd h2 hw⟩

theorem move_asks {o : Oper} (h : isMove o = true) {a : Act} {w : World} : ¬ o.asks P a w := by
  obtain ⟨x, hx⟩ := move_run h a.eval
  intro h
  have h0 := h.1
  rw [hx] at h0
  have h1 : noRoomEvent ∈ (#[] : Array Event) := h0
  simp at h1

/-- A stretch in a named order. -/
theorem wpAny_seg0 (hQ : ∀ c a (d : Option Tmp) (v : Value) w, Q (.panic c) (a.put d v) w → Q (.panic c) a w) (K : Act → World → Prop) :
    ∀ (seg : List Nat) (l : List Oper) (g : Nat) (listed : Array Bool) (a : Act) (w : World), segB md ops listed seg = true → seg.map (fun i => ops[i]?) = l.map some →
    (∀ a w, K a w → wpAny P md ops Q g (lists listed seg) a w) → wpList P ops (Exit.then K Q) l a w → wpAny P md ops Q (seg.length + g) listed a w
  | [], l, g, listed, a, w, _, hl, hK, h => by
    have : l = [] := by simpa using hl.symm
    subst this
    rw [List.length_nil, Nat.zero_add]
    exact hK _ _ h
  | i :: seg, l, g, listed, a, w, hs, hl, hK, h => by
    cases l with
    | nil => simp at hl
    | cons o l =>
      simp only [List.map_cons, List.cons.injEq] at hl
      obtain ⟨ho, hl⟩ := hl
      simp only [segB, Bool.and_eq_true, Bool.or_eq_true, beq_iff_eq] at hs
      obtain ⟨hs, hrest⟩ := hs
      have hgo : ∀ a' w', wpList P ops (Exit.then K Q) l a' w' → wpAny P md ops Q (seg.length + g) (listed.setIfInBounds i true) a' w' :=
        fun a' w' h' => wpAny_seg0 hQ K seg l g (listed.setIfInBounds i true) a' w' hrest hl hK h'
      rw [List.length_cons, show seg.length + 1 + g = seg.length + g + 1 from by omega]
      rcases hs with hs | ⟨⟨⟨hm, hc⟩, hf⟩, hn⟩
      · refine wpAny_all hs (by simp) (fun j hj => ?_)
        have : j = i := by simpa using hj
        subst this
        exact wpOp_of_list ho h hgo
      · have hm' : isMove o = true := by simpa [ho] using hm
        obtain ⟨v, hy, hv⟩ := yields_move (P := P) (ops := ops) hm' a
        refine wpAny_take ho hn hf hc (fun c a w => hQ c a _ _ w) hy (hgo _ _ ?_)
        unfold wpList at h
        split at h
        · rename_i hw
          rcases h with h | h
          · exact hv w _ _ h hw
          · exact absurd h.1 (move_asks hm')
        · rename_i hw
          rcases hy with hy | hy
          · exact absurd hy.1 hw
          · rw [hy.2]; exact h

theorem wpAny_seg (seg : List Nat) (l : List Oper) (g : Nat) {listed : Array Bool} {a : Act} {w : World} (hs : segB md ops listed seg = true) (hl : seg.map (fun i => ops[i]?) = l.map some)
    (hQ : ∀ c a (d : Option Tmp) (v : Value) w, Q (.panic c) (a.put d v) w → Q (.panic c) a w)
    (h : ∀ K : Act → World → Prop, (∀ a w, wpAny P md ops Q g (lists listed seg) a w → K a w) → wpList P ops (Exit.then K Q) l a w) : wpAny P md ops Q (seg.length + g) listed a w :=
  wpAny_seg0 hQ _ seg l g listed a w hs hl (fun _ _ h => h) (h _ (fun _ _ h => h))

/-- The reading number c yields v now. -/
def Now (P : Program) (ops : Array Oper) (oc : Oper) (v : Value) (a : Act) (w : World) : Prop := Region.wanted oc (yielded ops a.tmps) = true ∧ (execOp a.eval oc).run P w = .ok (.value v) w

/-- While the reading c may come late: these come up one behind the other; behind each c still yields v. -/
def Late (P : Program) (ops : Array Oper) (Q : Exit → Act → World → Prop) (oc : Oper) (v : Value) (K : Act → World → Prop) : List Nat → Act → World → Prop
  | [], a, w => K (a.put oc.dst v) w
  | j :: js, a, w => wpOp P ops Q j (fun a' w' => Now P ops oc v a' w' ∧ Late P ops Q oc v K js a' w') a w

/-- At each moment c and the next of these may come up, and they are apart; behind all of them c alone; and where c came first, the next of these alone. -/
def lateB (md : Region.Mode) (ops : Array Oper) (c : Nat) (oc : Oper) (listed : Array Bool) : List Nat → Bool
  | [] => Region.ready md ops listed == [c]
  | j :: js => (Region.ready md ops listed == [c, j] || Region.ready md ops listed == [j, c]) && ((ops[j]?).map (fun oj => oc.apart ops oj)).getD false && Region.ready md ops (listed.setIfInBounds c true) == [j] &&
      j != c && lateB md ops c oc (listed.setIfInBounds j true) js

/-- What an operation does where a value that it does not look at is laid ahead of it. -/
theorem wpOp_push {j : Nat} {oi oj : Oper} {v : Value} (hj : ops[j]? = some oj) (hap : oi.apart ops oj = true) (hsj : ∀ cs b, oj.op ≠ .select cs b)
    (hQ : ∀ c a w, Q (.panic c) a w → Q (.panic c) (a.put oi.dst v) w) {N N' : Act → World → Prop} {a : Act} {w : World} (hN : ∀ a w, N' a w → N (a.put oi.dst v) w)
    (h : wpOp P ops Q j N' a w) : wpOp P ops Q j N (a.put oi.dst v) w := by
  obtain ⟨h1, h2, h3⟩ := Oper.apart_spec hap
  unfold wpOp at *
  simp only [hj] at *
  rw [wanted_put oj a oi.dst v h1]
  split
  · rename_i hw
    simp only [hw, if_true] at h
    rcases h with h | ⟨hasks, hlets⟩
    case inr => exact .inr ⟨by unfold Oper.asks at *; rw [execOp_put oj hsj a oi.dst v h1]; exact hasks, hlets⟩
    refine .inl ?_
    unfold Oper.wp at *
    rw [execOp_put oj hsj a oi.dst v h1]
    generalize (execOp a.eval oj).run P w = r at *
    cases r with
    | ok n w' =>
      cases n <;> simp only [Oper.upon] at h ⊢
      case value u => rw [Act.put_comm a v u h2]; exact hN _ _ h
      case skip => rw [Act.put_comm a v undef h2]; exact hN _ _ h
      case defer d =>
        rw [Act.put_defers, Act.put_comm _ v undef h2]
        exact hN _ _ h
      case enter f args =>
        refine Calls.mono h fun e w'' he => ?_
        cases e with
        | returned u => simp only; rw [Act.put_comm a v u h2]; exact hN _ _ he
        | panicked c => exact hQ _ _ _ he
        | outgrown => exact he
      case row row args => exact Rows.mono h fun u w'' he => by rw [Act.put_comm a v u h2]; exact hN _ _ he
    | halt x w' =>
      cases x <;> simp only [Oper.upon] at h ⊢
      case panic u => exact hQ _ _ _ h
  · rename_i hw
    simp only [hw] at h
    rw [Act.put_comm a v undef h2]
    exact hN _ _ h

theorem late_after {c : Nat} {oc : Oper} {v : Value} (hs : Region.noSelect ops = true)
    (hQ' : ∀ x a (d : Option Tmp) (v : Value) w, Q (.panic x) a w → Q (.panic x) (a.put d v) w) (g : Nat) :
    ∀ (js : List Nat) (listed : Array Bool) (a : Act) (w : World), lateB md ops c oc listed js = true → Late P ops Q oc v (wpAny P md ops Q g (lists (listed.setIfInBounds c true) js)) js a w →
      wpAny P md ops Q (js.length + g) (listed.setIfInBounds c true) (a.put oc.dst v) w
  | [], listed, a, w, _, h => by
    rw [List.length_nil, Nat.zero_add]
    exact h
  | j :: js, listed, a, w, hb, h => by
    simp only [lateB, Bool.and_eq_true, beq_iff_eq, bne_iff_ne] at hb
    obtain ⟨⟨⟨⟨_, hap⟩, hr⟩, hne⟩, hb'⟩ := hb
    obtain ⟨oj, hj⟩ : ∃ oj, ops[j]? = some oj := by
      cases hoj : ops[j]? with
      | none => simp [hoj] at hap
      | some o => exact ⟨o, rfl⟩
    have hap' : oc.apart ops oj = true := by simpa [hj] using hap
    rw [List.length_cons, show js.length + 1 + g = js.length + g + 1 from by omega]
    refine wpAny_all hr (by simp) (fun i hi => ?_)
    have : i = j := by simpa using hi
    subst this
    refine wpOp_push hj hap' (fun cs b => Region.noSelect_spec hs i oj cs b hj) (fun x a w => hQ' x a _ _ w) (fun a' w' h' => ?_) h
    rw [Array.setIfInBounds_comm _ _ (Ne.symm hne)]
    refine late_after hs hQ' g js (listed.setIfInBounds i true) a' w' hb' ?_
    rw [Array.setIfInBounds_comm _ _ hne]
    exact h'.2

/-- A reading that may come late. -/
theorem wpAny_late {c : Nat} {oc : Oper} {v : Value} (hc : ops[c]? = some oc) (hs : Region.noSelect ops = true)
    (hQ' : ∀ x a (d : Option Tmp) (v : Value) w, Q (.panic x) a w → Q (.panic x) (a.put d v) w) (g : Nat) :
    ∀ (js : List Nat) (listed : Array Bool) (a : Act) (w : World), lateB md ops c oc listed js = true → Now P ops oc v a w → Late P ops Q oc v (wpAny P md ops Q g (lists (listed.setIfInBounds c true) js)) js a w →
      wpAny P md ops Q (js.length + 1 + g) listed a w
  | [], listed, a, w, hb, hn, h => by
    have hr : Region.ready md ops listed = [c] := by simpa [lateB] using hb
    rw [List.length_nil, show 0 + 1 + g = g + 1 from by omega]
    refine wpAny_all hr (by simp) (fun i hi => ?_)
    have : i = c := by simpa using hi
    subst this
    unfold wpOp
    simp only [hc, hn.1, if_true, Oper.wp, hn.2, Oper.upon]
    exact .inl h
  | j :: js, listed, a, w, hb, hn, h => by
    have hb0 := hb
    simp only [lateB, Bool.and_eq_true, Bool.or_eq_true, beq_iff_eq, bne_iff_ne] at hb
    obtain ⟨⟨⟨⟨hr, _⟩, _⟩, hne⟩, hb'⟩ := hb
    rw [List.length_cons, show js.length + 1 + 1 + g = js.length + 1 + g + 1 from by omega]
    have hcj : ∀ i, i = c ∨ i = j → wpOp P ops Q i (wpAny P md ops Q (js.length + 1 + g) (listed.setIfInBounds i true)) a w := by
      intro i hi
      rcases hi with rfl | rfl
      · have h1 := late_after (md := md) hs hQ' g (j :: js) listed a w hb0 h
        unfold wpOp
        simp only [hc, hn.1, if_true, Oper.wp, hn.2, Oper.upon]
        exact .inl h1
      · refine wpOp_mono (fun a' w' h' => ?_) h
        refine wpAny_late hc hs hQ' g js (listed.setIfInBounds i true) a' w' hb' h'.1 ?_
        rw [Array.setIfInBounds_comm _ _ hne]
        exact h'.2
    rcases hr with hr | hr
    · exact wpAny_all hr (by simp) (fun i hi => hcj i (by simpa using hi))
    · exact wpAny_all hr (by simp) (fun i hi => hcj i (by simp at hi; exact hi.symm))

/-- One step of those, as a list of one. -/
theorem late_step {oc : Oper} {v : Value} {K : Act → World → Prop} {j : Nat} {js : List Nat} {a : Act} {w : World} (oj : Oper) (hj : ops[j]? = some oj)
    (h : ∀ N : Act → World → Prop, (∀ a w, Now P ops oc v a w → Late P ops Q oc v K js a w → N a w) → wpList P ops (Exit.then N Q) [oj] a w) : Late P ops Q oc v K (j :: js) a w :=
  wpOp_of_list hj (h (fun a' w' => Now P ops oc v a' w' ∧ Late P ops Q oc v K js a' w') (fun _ _ h1 h2 => ⟨h1, h2⟩)) (fun _ _ h => h)

theorem late_end {oc : Oper} {v : Value} {K : Act → World → Prop} {a : Act} {w : World} (h : K (a.put oc.dst v) w) : Late P ops Q oc v K [] a w := h

/-- The operations of these numbers. -/
def pickL (l0 : List Oper) : List Nat → List Oper
  | [] => []
  | i :: r => match l0[i]? with
    | some o => o :: pickL l0 r
    | none => pickL l0 r

theorem pickL_some {l0 : List Oper} : ∀ (seg : List Nat), seg.all (fun i => decide (i < l0.length)) = true → seg.map (fun i => l0.toArray[i]?) = (pickL l0 seg).map some
  | [], _ => rfl
  | i :: r, h => by
    simp only [List.all_cons, Bool.and_eq_true, decide_eq_true_eq] at h
    have e : l0[i]? = some l0[i] := List.getElem?_eq_getElem h.1
    simp only [List.map_cons, pickL, e]
    rw [pickL_some r h.2]
    simp [h.1]

/-- The region from its beginning. -/
theorem region_seg {id : Nat} {l0 : List Oper} {a : Act} {w : World} (hm : P.follows .mixedOrders = true) (seg : List Nat) (g : Nat) (hg : l0.length = seg.length + g)
    (hs : segB .any l0.toArray (Array.replicate l0.length false) seg = true) (hin : seg.all (fun i => decide (i < l0.length)) = true)
    (hQ : ∀ c a (d : Option Tmp) (v : Value) w, Q (.panic c) (a.put d v) w → Q (.panic c) a w)
    (h : ∀ K : Act → World → Prop, (∀ a w, wpAny P .any l0.toArray Q g (lists (Array.replicate l0.length false) seg) a w → K a w) → wpList P l0.toArray (Exit.then K Q) (pickL l0 seg) a w.drew) :
    (Code.region id l0.toArray true).wp P Q a w := by
  refine wp_region_any hm ?_
  rw [show l0.toArray.size = seg.length + g from by simpa using hg]
  have e : Array.replicate (seg.length + g) false = Array.replicate l0.length false := by rw [hg]
  rw [e]
  exact wpAny_seg seg _ g hs (pickL_some seg hin) hQ h

/-- A stretch in the midst of it. -/
theorem mid_seg {l0 : List Oper} {listed : Array Bool} {a : Act} {w : World} (seg : List Nat) (g : Nat)
    (hs : segB md l0.toArray listed seg = true) (hin : seg.all (fun i => decide (i < l0.length)) = true)
    (hQ : ∀ c a (d : Option Tmp) (v : Value) w, Q (.panic c) (a.put d v) w → Q (.panic c) a w)
    (h : ∀ K : Act → World → Prop, (∀ a w, wpAny P md l0.toArray Q g (lists listed seg) a w → K a w) → wpList P l0.toArray (Exit.then K Q) (pickL l0 seg) a w) :
    wpAny P md l0.toArray Q (seg.length + g) listed a w :=
  wpAny_seg seg _ g hs (pickL_some seg hin) hQ h

/-- Where two operations may come up: either one first, each time a stretch in a named order behind it. -/
theorem mid_two {l0 : List Oper} {listed : Array Bool} {a : Act} {w : World} (i j : Nat) (s1 s2 : List Nat) (g : Nat) (oi oj : Oper)
    (hr : Region.ready md l0.toArray listed = [i, j]) (hi : l0[i]? = some oi) (hj : l0[j]? = some oj) (hl : s2.length = s1.length)
    (hs1 : segB md l0.toArray (listed.setIfInBounds i true) s1 = true) (hin1 : s1.all (fun i => decide (i < l0.length)) = true)
    (hs2 : segB md l0.toArray (listed.setIfInBounds j true) s2 = true) (hin2 : s2.all (fun i => decide (i < l0.length)) = true)
    (hQ : ∀ c a (d : Option Tmp) (v : Value) w, Q (.panic c) (a.put d v) w → Q (.panic c) a w)
    (h1 : ∀ K : Act → World → Prop, (∀ a w, wpAny P md l0.toArray Q g (lists (listed.setIfInBounds i true) s1) a w → K a w) → wpList P l0.toArray (Exit.then K Q) (pickL l0 (i :: s1)) a w)
    (h2 : ∀ K : Act → World → Prop, (∀ a w, wpAny P md l0.toArray Q g (lists (listed.setIfInBounds j true) s2) a w → K a w) → wpList P l0.toArray (Exit.then K Q) (pickL l0 (j :: s2)) a w) :
    wpAny P md l0.toArray Q (s1.length + g + 1) listed a w := by
  have e1 : pickL l0 (i :: s1) = oi :: pickL l0 s1 := by rw [pickL, hi]
  have e2 : pickL l0 (j :: s2) = oj :: pickL l0 s2 := by rw [pickL, hj]
  rw [e1] at h1
  rw [e2] at h2
  have hi' : l0.toArray[i]? = some oi := by simpa using hi
  have hj' : l0.toArray[j]? = some oj := by simpa using hj
  refine wpAny_all hr (by simp) (fun k hk => ?_)
  have hk' : k = i ∨ k = j := by simpa using hk
  rcases hk' with rfl | rfl
  · exact wpOp_of_list hi' (h1 _ (fun _ _ h => h)) (fun a w h => wpAny_seg0 hQ _ s1 _ g _ a w hs1 (pickL_some s1 hin1) (fun _ _ h => h) h)
  · rw [← hl]
    exact wpOp_of_list hj' (h2 _ (fun _ _ h => h)) (fun a w h => wpAny_seg0 hQ _ s2 _ g _ a w hs2 (pickL_some s2 hin2) (fun _ _ h => h) h)

end
end Go.Proofs.Ytjchchinmggldaa
