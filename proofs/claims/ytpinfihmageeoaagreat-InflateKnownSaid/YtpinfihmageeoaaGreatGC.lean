/-
  Region RowB RowW Held Count RegIn, one behind the other (merged by wip/merge.py). No conditions but those that each states.
-/
import Derived.WalkKit
import Derived.Orders
import Derived.RegionTactic
import Derived.Test.YtpinfihmageeoaaGreatGA
import Derived.OrdersHeld
import Derived.RangeFuncNested
import Derived.RangeFuncBound
import Derived.RangeFuncCalls
import Derived.RangeFuncLeaves
import Derived.RangeFuncBox
import Derived.OwnWalkIn
import Derived.OwnWalk
import Derived.Shelf.Abstract
import Derived.Shelf.RegionOpen
import Derived.TacticsInMore
import Derived.LoopNIn
import Derived.LoopIn
import Derived.OrdersIn

namespace Go.Proofs.YtpinfihmageeoaaGreat
open Go

section
variable {P : Program} {md : Region.Mode} {ops : Array Oper} {Q : Exit → Act → World → Prop}

theorem upon_then {o : Oper} {a : Act} {N N' : Act → World → Prop} {K : Act → World → Prop} {r : Result Next} (h : o.upon P a N (Exit.then K Q) r) (hN : ∀ a w, N a w → N' a w) : o.upon P a N' Q r := by
  cases r with
  | ok n w' =>
    cases n <;> simp only [Oper.upon] at h ⊢
    case value u => exact hN _ _ h
    case skip => exact hN _ _ h
    case defer d => exact hN _ _ h
    case enter f args =>
      refine Calls.mono h fun e w'' he => ?_
      cases e with
      | returned u => exact hN _ _ he
      | panicked c => exact he
      | outgrown => exact he
    case row row args => exact Rows.mono h fun u w'' he => hN _ _ he
  | halt x w' =>
    cases x <;> simp only [Oper.upon] at h ⊢
    case panic u => exact h

theorem wpOp_of_list {i : Nat} {o : Oper} (ho : ops[i]? = some o) {N : Act → World → Prop} {rest : List Oper} {K : Act → World → Prop} {a : Act} {w : World}
    (h : wpList P ops (Exit.then K Q) (o :: rest) a w) (hN : ∀ a w, wpList P ops (Exit.then K Q) rest a w → N a w) : wpOp P ops Q i N a w := by
  unfold wpOp
  simp only [ho]
  unfold wpList at h
  split
  · rename_i hw
    simp only [hw, if_true] at h
    rcases h with h | h
    · exact .inl (upon_then h hN)
    · exact .inr h
  · rename_i hw
    simp only [hw] at h
    exact hN _ _ h

def isMove (o : Oper) : Bool := match o.op with
  | .move _ => true
  | .assign _ => true
  | _ => false

def lists (listed : Array Bool) : List Nat → Array Bool
  | [] => listed
  | i :: r => lists (listed.setIfInBounds i true) r

def segB (md : Region.Mode) (ops : Array Oper) (listed : Array Bool) : List Nat → Bool
  | [] => true
  | i :: r => (Region.ready md ops listed == [i] ||
      ((ops[i]?).map isMove).getD false && (Region.ready md ops listed).contains i && Region.free md ops listed i && Region.noSelect ops) && segB md ops (listed.setIfInBounds i true) r

theorem move_run {o : Oper} (h : isMove o = true) (ρ : Operand → Value) : ∃ x, execOp ρ o = pure (.value (ρ x)) := by
  obtain ⟨dst, op, type, pos, after, guard⟩ := o
  cases op <;> simp [isMove] at h
  · rename_i x; exact ⟨x, rfl⟩
  · rename_i x; exact ⟨x, rfl⟩

theorem yields_move {o : Oper} (h : isMove o = true) (a : Act) : ∃ v, Yields P ops o v a ∧ ∀ (w : World) (N : Act → World → Prop) (Q' : Exit → Act → World → Prop), o.wp P a w N Q' → Region.wanted o (yielded ops a.tmps) = true → N (a.put o.dst v) w := by
  obtain ⟨x, hx⟩ := move_run h a.eval
  by_cases hw : Region.wanted o (yielded ops a.tmps) = true
  · refine ⟨a.eval x, .inl ⟨hw, fun w => by rw [hx]; simp [Sem.run_pure]⟩, fun w N Q' h1 _ => ?_⟩
    unfold Oper.wp at h1
    rw [hx] at h1
    simpa [Sem.run_pure, Oper.upon] using h1
  · exact ⟨undef, .inr ⟨by simpa using hw, rfl⟩, fun w N Q' _ h2 => absurd h2 hw⟩

theorem move_asks {o : Oper} (h : isMove o = true) {a : Act} {w : World} : ¬ o.asks P a w := by
  obtain ⟨x, hx⟩ := move_run h a.eval
  intro h
  have h0 := h.1
  rw [hx] at h0
  have h1 : noRoomEvent ∈ (#[] : Array Event) := h0
  simp at h1

theorem wpAny_seg0 (hQ : ∀ c a (d : Option Tmp) (v : Value) w, Q (.panic c) (a.put d v) w → Q (.panic c) a w) (K : Act → World → Prop) :
    ∀ (seg : List Nat) (l : List Oper) (g : Nat) (listed : Array Bool) (a : Act) (w : World), segB md ops listed seg = true → seg.map (fun i => ops[i]?) = l.map some →
    (∀ a w, K a w → wpAny P md ops Q g (lists listed seg) a w) → wpList P ops (Exit.then K Q) l a w → wpAny P md ops Q (seg.length + g) listed a w
  | [], l, g, listed, a, w, _, hl, hK, h => by
    have : l = [] := by simpa using hl.symm
    subst this
    rw [List.length_nil, Nat.zero_add]
    exact hK _ _ h
  | i :: seg, l, g, listed, a, w, hs, hl, hK, h => by
    cases l with
    | nil => simp at hl
    | cons o l =>
      simp only [List.map_cons, List.cons.injEq] at hl
      obtain ⟨ho, hl⟩ := hl
      simp only [segB, Bool.and_eq_true, Bool.or_eq_true, beq_iff_eq] at hs
      obtain ⟨hs, hrest⟩ := hs
      have hgo : ∀ a' w', wpList P ops (Exit.then K Q) l a' w' → wpAny P md ops Q (seg.length + g) (listed.setIfInBounds i true) a' w' :=
        fun a' w' h' => wpAny_seg0 hQ K seg l g (listed.setIfInBounds i true) a' w' hrest hl hK h'
      rw [List.length_cons, show seg.length + 1 + g = seg.length + g + 1 from by omega]
      rcases hs with hs | ⟨⟨⟨hm, hc⟩, hf⟩, hn⟩
      · refine wpAny_all hs (by simp) (fun j hj => ?_)
        have : j = i := by simpa using hj
        subst this
        exact wpOp_of_list ho h hgo
      · have hm' : isMove o = true := by simpa [ho] using hm
        obtain ⟨v, hy, hv⟩ := yields_move (P := P) (ops := ops) hm' a
        refine wpAny_take ho hn hf hc (fun c a w => hQ c a _ _ w) hy (hgo _ _ ?_)
        unfold wpList at h
        split at h
        · rename_i hw
          rcases h with h | h
          · exact hv w _ _ h hw
          · exact absurd h.1 (move_asks hm')
        · rename_i hw
          rcases hy with hy | hy
          · exact absurd hy.1 hw
          · rw [hy.2]; exact h

theorem wpAny_seg (seg : List Nat) (l : List Oper) (g : Nat) {listed : Array Bool} {a : Act} {w : World} (hs : segB md ops listed seg = true) (hl : seg.map (fun i => ops[i]?) = l.map some)
    (hQ : ∀ c a (d : Option Tmp) (v : Value) w, Q (.panic c) (a.put d v) w → Q (.panic c) a w)
    (h : ∀ K : Act → World → Prop, (∀ a w, wpAny P md ops Q g (lists listed seg) a w → K a w) → wpList P ops (Exit.then K Q) l a w) : wpAny P md ops Q (seg.length + g) listed a w :=
  wpAny_seg0 hQ _ seg l g listed a w hs hl (fun _ _ h => h) (h _ (fun _ _ h => h))

def Now (P : Program) (ops : Array Oper) (oc : Oper) (v : Value) (a : Act) (w : World) : Prop := Region.wanted oc (yielded ops a.tmps) = true ∧ (execOp a.eval oc).run P w = .ok (.value v) w

def Late (P : Program) (ops : Array Oper) (Q : Exit → Act → World → Prop) (oc : Oper) (v : Value) (K : Act → World → Prop) : List Nat → Act → World → Prop
  | [], a, w => K (a.put oc.dst v) w
  | j :: js, a, w => wpOp P ops Q j (fun a' w' => Now P ops oc v a' w' ∧ Late P ops Q oc v K js a' w') a w

def lateB (md : Region.Mode) (ops : Array Oper) (c : Nat) (oc : Oper) (listed : Array Bool) : List Nat → Bool
  | [] => Region.ready md ops listed == [c]
  | j :: js => (Region.ready md ops listed == [c, j] || Region.ready md ops listed == [j, c]) && ((ops[j]?).map (fun oj => oc.apart ops oj)).getD false && Region.ready md ops (listed.setIfInBounds c true) == [j] &&
      j != c && lateB md ops c oc (listed.setIfInBounds j true) js

theorem wpOp_push {j : Nat} {oi oj : Oper} {v : Value} (hj : ops[j]? = some oj) (hap : oi.apart ops oj = true) (hsj : ∀ cs b, oj.op ≠ .select cs b)
    (hQ : ∀ c a w, Q (.panic c) a w → Q (.panic c) (a.put oi.dst v) w) {N N' : Act → World → Prop} {a : Act} {w : World} (hN : ∀ a w, N' a w → N (a.put oi.dst v) w)
    (h : wpOp P ops Q j N' a w) : wpOp P ops Q j N (a.put oi.dst v) w := by
  obtain ⟨h1, h2, h3⟩ := Oper.apart_spec hap
  unfold wpOp at *
  simp only [hj] at *
  rw [wanted_put oj a oi.dst v h1]
  split
  · rename_i hw
    simp only [hw, if_true] at h
    rcases h with h | ⟨hasks, hlets⟩
    case inr => exact .inr ⟨by unfold Oper.asks at *; rw [execOp_put oj hsj a oi.dst v h1]; exact hasks, hlets⟩
    refine .inl ?_
    unfold Oper.wp at *
    rw [execOp_put oj hsj a oi.dst v h1]
    generalize (execOp a.eval oj).run P w = r at *
    cases r with
    | ok n w' =>
      cases n <;> simp only [Oper.upon] at h ⊢
      case value u => rw [Act.put_comm a v u h2]; exact hN _ _ h
      case skip => rw [Act.put_comm a v undef h2]; exact hN _ _ h
      case defer d =>
        rw [Act.put_defers, Act.put_comm _ v undef h2]
        exact hN _ _ h
      case enter f args =>
        refine Calls.mono h fun e w'' he => ?_
        cases e with
        | returned u => simp only; rw [Act.put_comm a v u h2]; exact hN _ _ he
        | panicked c => exact hQ _ _ _ he
        | outgrown => exact he
      case row row args => exact Rows.mono h fun u w'' he => by rw [Act.put_comm a v u h2]; exact hN _ _ he
    | halt x w' =>
      cases x <;> simp only [Oper.upon] at h ⊢
      case panic u => exact hQ _ _ _ h
  · rename_i hw
    simp only [hw] at h
    rw [Act.put_comm a v undef h2]
    exact hN _ _ h

theorem late_after {c : Nat} {oc : Oper} {v : Value} (hs : Region.noSelect ops = true)
    (hQ' : ∀ x a (d : Option Tmp) (v : Value) w, Q (.panic x) a w → Q (.panic x) (a.put d v) w) (g : Nat) :
    ∀ (js : List Nat) (listed : Array Bool) (a : Act) (w : World), lateB md ops c oc listed js = true → Late P ops Q oc v (wpAny P md ops Q g (lists (listed.setIfInBounds c true) js)) js a w →
      wpAny P md ops Q (js.length + g) (listed.setIfInBounds c true) (a.put oc.dst v) w
  | [], listed, a, w, _, h => by
    rw [List.length_nil, Nat.zero_add]
    exact h
  | j :: js, listed, a, w, hb, h => by
    simp only [lateB, Bool.and_eq_true, beq_iff_eq, bne_iff_ne] at hb
    obtain ⟨⟨⟨⟨_, hap⟩, hr⟩, hne⟩, hb'⟩ := hb
    obtain ⟨oj, hj⟩ : ∃ oj, ops[j]? = some oj := by
      cases hoj : ops[j]? with
      | none => simp [hoj] at hap
      | some o => exact ⟨o, rfl⟩
    have hap' : oc.apart ops oj = true := by simpa [hj] using hap
    rw [List.length_cons, show js.length + 1 + g = js.length + g + 1 from by omega]
    refine wpAny_all hr (by simp) (fun i hi => ?_)
    have : i = j := by simpa using hi
    subst this
    refine wpOp_push hj hap' (fun cs b => Region.noSelect_spec hs i oj cs b hj) (fun x a w => hQ' x a _ _ w) (fun a' w' h' => ?_) h
    rw [Array.setIfInBounds_comm _ _ (Ne.symm hne)]
    refine late_after hs hQ' g js (listed.setIfInBounds i true) a' w' hb' ?_
    rw [Array.setIfInBounds_comm _ _ hne]
    exact h'.2

theorem wpAny_late {c : Nat} {oc : Oper} {v : Value} (hc : ops[c]? = some oc) (hs : Region.noSelect ops = true)
    (hQ' : ∀ x a (d : Option Tmp) (v : Value) w, Q (.panic x) a w → Q (.panic x) (a.put d v) w) (g : Nat) :
    ∀ (js : List Nat) (listed : Array Bool) (a : Act) (w : World), lateB md ops c oc listed js = true → Now P ops oc v a w → Late P ops Q oc v (wpAny P md ops Q g (lists (listed.setIfInBounds c true) js)) js a w →
      wpAny P md ops Q (js.length + 1 + g) listed a w
  | [], listed, a, w, hb, hn, h => by
    have hr : Region.ready md ops listed = [c] := by simpa [lateB] using hb
    rw [List.length_nil, show 0 + 1 + g = g + 1 from by omega]
    refine wpAny_all hr (by simp) (fun i hi => ?_)
    have : i = c := by simpa using hi
    subst this
    unfold wpOp
    simp only [hc, hn.1, if_true, Oper.wp, hn.2, Oper.upon]
    exact .inl h
  | j :: js, listed, a, w, hb, hn, h => by
    have hb0 := hb
    simp only [lateB, Bool.and_eq_true, Bool.or_eq_true, beq_iff_eq, bne_iff_ne] at hb
    obtain ⟨⟨⟨⟨hr, _⟩, _⟩, hne⟩, hb'⟩ := hb
    rw [List.length_cons, show js.length + 1 + 1 + g = js.length + 1 + g + 1 from by omega]
    have hcj : ∀ i, i = c ∨ i = j → wpOp P ops Q i (wpAny P md ops Q (js.length + 1 + g) (listed.setIfInBounds i true)) a w := by
      intro i hi
      rcases hi with rfl | rfl
      · have h1 := late_after (md := md) hs hQ' g (j :: js) listed a w hb0 h
        unfold wpOp
        simp only [hc, hn.1, if_true, Oper.wp, hn.2, Oper.upon]
        exact .inl h1
      · refine wpOp_mono (fun a' w' h' => ?_) h
        refine wpAny_late hc hs hQ' g js (listed.setIfInBounds i true) a' w' hb' h'.1 ?_
        rw [Array.setIfInBounds_comm _ _ hne]
        exact h'.2
    rcases hr with hr | hr
    · exact wpAny_all hr (by simp) (fun i hi => hcj i (by simpa using hi))
    · exact wpAny_all hr (by simp) (fun i hi => hcj i (by simp at hi; exact hi.symm))

theorem late_step {oc : Oper} {v : Value} {K : Act → World → Prop} {j : Nat} {js : List Nat} {a : Act} {w : World} (oj : Oper) (hj : ops[j]? = some oj)
    (h : ∀ N : Act → World → Prop, (∀ a w, Now P ops oc v a w → Late P ops Q oc v K js a w → N a w) → wpList P ops (Exit.then N Q) [oj] a w) : Late P ops Q oc v K (j :: js) a w :=
  wpOp_of_list hj (h (fun a' w' => Now P ops oc v a' w' ∧ Late P ops Q oc v K js a' w') (fun _ _ h1 h2 => ⟨h1, h2⟩)) (fun _ _ h => h)

theorem late_end {oc : Oper} {v : Value} {K : Act → World → Prop} {a : Act} {w : World} (h : K (a.put oc.dst v) w) : Late P ops Q oc v K [] a w := h

def pickL (l0 : List Oper) : List Nat → List Oper
  | [] => []
  | i :: r => match l0[i]? with
    | some o => o :: pickL l0 r
    | none => pickL l0 r

theorem pickL_some {l0 : List Oper} : ∀ (seg : List Nat), seg.all (fun i => decide (i < l0.length)) = true → seg.map (fun i => l0.toArray[i]?) = (pickL l0 seg).map some
  | [], _ => rfl
  | i :: r, h => by
    simp only [List.all_cons, Bool.and_eq_true, decide_eq_true_eq] at h
    have e : l0[i]? = some l0[i] := List.getElem?_eq_getElem h.1
    simp only [List.map_cons, pickL, e]
    rw [pickL_some r h.2]
    simp [h.1]

theorem region_seg {id : Nat} {l0 : List Oper} {a : Act} {w : World} (hm : P.follows .mixedOrders = true) (seg : List Nat) (g : Nat) (hg : l0.length = seg.length + g)
    (hs : segB .any l0.toArray (Array.replicate l0.length false) seg = true) (hin : seg.all (fun i => decide (i < l0.length)) = true)
    (hQ : ∀ c a (d : Option Tmp) (v : Value) w, Q (.panic c) (a.put d v) w → Q (.panic c) a w)
    (h : ∀ K : Act → World → Prop, (∀ a w, wpAny P .any l0.toArray Q g (lists (Array.replicate l0.length false) seg) a w → K a w) → wpList P l0.toArray (Exit.then K Q) (pickL l0 seg) a w.drew) :
    (Code.region id l0.toArray true).wp P Q a w := by
  refine wp_region_any hm ?_
  rw [show l0.toArray.size = seg.length + g from by simpa using hg]
  have e : Array.replicate (seg.length + g) false = Array.replicate l0.length false := by rw [hg]
  rw [e]
  exact wpAny_seg seg _ g hs (pickL_some seg hin) hQ h

theorem mid_seg {l0 : List Oper} {listed : Array Bool} {a : Act} {w : World} (seg : List Nat) (g : Nat)
    (hs : segB md l0.toArray listed seg = true) (hin : seg.all (fun i => decide (i < l0.length)) = true)
    (hQ : ∀ c a (d : Option Tmp) (v : Value) w, Q (.panic c) (a.put d v) w → Q (.panic c) a w)
    (h : ∀ K : Act → World → Prop, (∀ a w, wpAny P md l0.toArray Q g (lists listed seg) a w → K a w) → wpList P l0.toArray (Exit.then K Q) (pickL l0 seg) a w) :
    wpAny P md l0.toArray Q (seg.length + g) listed a w :=
  wpAny_seg seg _ g hs (pickL_some seg hin) hQ h

theorem mid_two {l0 : List Oper} {listed : Array Bool} {a : Act} {w : World} (i j : Nat) (s1 s2 : List Nat) (g : Nat) (oi oj : Oper)
    (hr : Region.ready md l0.toArray listed = [i, j]) (hi : l0[i]? = some oi) (hj : l0[j]? = some oj) (hl : s2.length = s1.length)
    (hs1 : segB md l0.toArray (listed.setIfInBounds i true) s1 = true) (hin1 : s1.all (fun i => decide (i < l0.length)) = true)
    (hs2 : segB md l0.toArray (listed.setIfInBounds j true) s2 = true) (hin2 : s2.all (fun i => decide (i < l0.length)) = true)
    (hQ : ∀ c a (d : Option Tmp) (v : Value) w, Q (.panic c) (a.put d v) w → Q (.panic c) a w)
    (h1 : ∀ K : Act → World → Prop, (∀ a w, wpAny P md l0.toArray Q g (lists (listed.setIfInBounds i true) s1) a w → K a w) → wpList P l0.toArray (Exit.then K Q) (pickL l0 (i :: s1)) a w)
    (h2 : ∀ K : Act → World → Prop, (∀ a w, wpAny P md l0.toArray Q g (lists (listed.setIfInBounds j true) s2) a w → K a w) → wpList P l0.toArray (Exit.then K Q) (pickL l0 (j :: s2)) a w) :
    wpAny P md l0.toArray Q (s1.length + g + 1) listed a w := by
  have e1 : pickL l0 (i :: s1) = oi :: pickL l0 s1 := by rw [pickL, hi]
  have e2 : pickL l0 (j :: s2) = oj :: pickL l0 s2 := by rw [pickL, hj]
  rw [e1] at h1
  rw [e2] at h2
  have hi' : l0.toArray[i]? = some oi := by simpa using hi
  have hj' : l0.toArray[j]? = some oj := by simpa using hj
  refine wpAny_all hr (by simp) (fun k hk => ?_)
  have hk' : k = i ∨ k = j := by simpa using hk
  rcases hk' with rfl | rfl
  · exact wpOp_of_list hi' (h1 _ (fun _ _ h => h)) (fun a w h => wpAny_seg0 hQ _ s1 _ g _ a w hs1 (pickL_some s1 hin1) (fun _ _ h => h) h)
  · rw [← hl]
    exact wpOp_of_list hj' (h2 _ (fun _ _ h => h)) (fun a w h => wpAny_seg0 hQ _ s2 _ g _ a w hs2 (pickL_some s2 hin2) (fun _ _ h => h) h)

end
end Go.Proofs.YtpinfihmageeoaaGreat

namespace Go.Proofs.YtpinfihmageeoaaGreat
open Go.RowKit

theorem byteRow_owns {w : World} {base : Nat} {v : Value} {xs : List Nat} (h : w.ownsRow base 5 1 v xs.length (u8s xs)) (hb : ∀ x ∈ xs, x < 256) : ByteRow w v xs := by
  rcases h.2 with ⟨rfl, h0⟩ | ⟨g, cap, cur, rfl, _, hg, hnc, _⟩
  · obtain rfl : xs = [] := List.eq_nil_of_length_eq_zero h0
    exact ⟨none, 0, rfl, Nat.le_refl _, fun _ => rfl, fun i hi => absurd hi (by simp)⟩
  · refine ⟨_, cap, rfl, hnc, (fun e => by cases e), fun i hi => ⟨hb _ (List.getElem_mem hi), g, 0, rfl, ?_⟩⟩
    rw [Nat.zero_add, h.cellAt i (by omega), u8s_get _ _ hi]

theorem byteRow_lit (w : World) (xs : List Nat) (fr : Nat × Nat) (hb : ∀ x ∈ xs, x < 256) : ByteRow (w.alloc (.cells (u8s xs).toArray 5 fr)) (.slice (some ⟨w.heap.size, 0, none⟩) xs.length xs.length) xs := by
  refine ⟨_, xs.length, rfl, Nat.le_refl _, (fun e => by cases e), fun i hi => ⟨hb _ (List.getElem_mem hi), w.heap.size, 0, rfl, ?_⟩⟩
  rw [Nat.zero_add, cell_of_row _ w.heap.size i (u8s xs).toArray 5 fr (heap_alloc_new w _)]
  simp [u8s, hi]

theorem byteRow_none (w : World) : ByteRow w (.slice none 0 0) [] := ⟨none, 0, rfl, Nat.le_refl _, fun _ => rfl, fun i hi => absurd hi (by simp)⟩

theorem St.bytesRow {B : Nat} {w0 w : World} {r : List Thing} {v : Value} {xs : List Nat} (h : St B w0 w (rowT 5 1 v xs.length (u8s xs) :: r)) (hb : ∀ x ∈ xs, x < 256) : ByteRow w v xs := byteRow_owns h.row hb

theorem wpList_append_mineW {P : Program} (w : World) {ops : Array Oper} {rest : List Oper} {o : Oper} {a : Act} {Q : Exit → Act → World → Prop} (hw : Region.wanted o (yielded ops a.tmps) = true) (s x : Operand) (t : TypeId)
    (ho : o.op = .call { callee := .builtin .append, args := #[s, x], argTypes := #[t, t] })
    (e : TypeId) (i : TypeInfo) (z : Value) (size bytes : Nat) (ht : P.underlying t = some (.slice e)) (hi : P.info? e = some i) (hz : i.zero = some z)
    (hsize : i.size = size) (hby : i.bytes = bytes) (hzs : z.cells.size = size) (hsz : 0 < size)
    (v : Value) (n : Nat) (xs : List Value) (hs : a.eval s = v) (hown : w.ownsRow 0 e size v n xs)
    (ad : Option Addr) (m c : Nat) (news : List Value) (hx : a.eval x = .slice ad m c) (hnone : ad = none → m = 0 ∧ c = 0) (hl : news.length = m * size) (hnews : ∀ b, ad = some b → ∀ j u, news[j]? = some u → w.cell? (b.add j) = some u) (h1 : ∀ u ∈ news, u.oneCell' = true)
    (h63 : n + m ≤ maxLen) (hbytes : (n + m) * bytes ≤ 140737488355328)
    (h : ∀ v' w', w'.ownsRow 0 e size v' (n + m) (xs ++ news) → w.grownBy w' v.ownBlock → Fresh w v v' → wpList P ops Q rest (a.put o.dst v') w') : wpList P ops Q (o :: rest) a w := by
  refine BigFrame.wpList_want hw fun K hK => ?_
  obtain ⟨v', w', hr, h2, h3, h4⟩ := run_append_mine (P := P) w t o.type e i z size bytes ht hi hz hsize hby hzs hsz v n xs hown ad m c news hnone hl hnews h1 h63 hbytes
  unfold Oper.wp execOp
  simp only [ho, resolve, invoke, builtin, Sem.run_bind, Sem.run_pure, Result.andThen_ok, List.map_toArray, List.map_cons, List.map_nil, hs, hx, hr]
  exact hK _ _ (h v' w' h2 h3 h4)

theorem wpList_copyW {ops : Array Oper} {rest : List Oper} {o : Oper} {a : Act} {Q : Exit → Act → World → Prop} (hw : Region.wanted o (yielded ops a.tmps) = true) (s x : Operand)
    (ho : o.op = .call { callee := .builtin .append, args := #[s, x], argTypes := #[26, 26] })
    {B : Nat} {w0 w2 : World} {r : List Thing} (st : St B w0 w2 r) {v : Value} {xs : List Nat} (h : ByteRow w2 v xs) (hs : a.eval s = .slice (some ⟨w2.heap.size, 0, none⟩) 0 0) (hx : a.eval x = v) (hl : xs.length ≤ 140737488355328)
    (K : ∀ v' w', St B w0 w' (rowT 5 1 v' xs.length (u8s xs) :: r) → wpList Tryz.prog ops Q rest (a.put o.dst v') w') : wpList Tryz.prog ops Q (o :: rest) a (w2.alloc (.cells #[] 5)) := by
  obtain ⟨i0, hi, hz0, hz1, hz2⟩ := info_parts info8
  have s1 : St B w0 (w2.alloc (.cells #[] 5)) (rowT 5 1 (.slice (some ⟨w2.heap.size, 0, none⟩) 0 0) 0 [] :: r) :=
    st.addRow (below_alloc w2 _) (World.ownsRow_made w2 #[] 0 (Nat.le_refl _) (by unfold maxLen; omega) rfl)
  have h2 := h.below (below_alloc w2 (.cells #[] 5)) (Nat.le_refl _)
  have hr := h2.reads
  obtain ⟨ad, cap, rfl, hc, hn, hat⟩ := h2
  refine wpList_append_mineW _ hw s x 26 ho 5 i0 (.int .u8 0) 1 1 Tryz.underlying26 hi hz0 hz1 hz2 rfl (by decide) _ 0 [] hs s1.row ad xs.length cap (u8s xs) hx ?_ (by rw [u8s_length]; omega) ?_ (u8s_one xs) (by unfold maxLen; omega) (by omega) ?_
  · intro e1
    have := hn e1
    exact ⟨by omega, this⟩
  · intro b hb j u hu
    rcases hr with ⟨e1, e2⟩ | ⟨a', cap', e1, e2⟩
    · rw [e2] at hu; simp at hu
    · have e3 : ad = some a' := (Value.slice.inj e1).1
      rw [hb] at e3
      obtain rfl := Option.some.inj e3
      exact e2 j u hu
  · intro v' w' g1 g2 g3
    rw [Nat.zero_add, List.nil_append] at g1
    exact K v' w' (s1.grown g1 g2 g3)

theorem wpList_append_lit {ops : Array Oper} {rest : List Oper} {o : Oper} {a : Act} {Q : Exit → Act → World → Prop} (hw : Region.wanted o (yielded ops a.tmps) = true) (s x : Operand)
    (ho : o.op = .call { callee := .builtin .append, args := #[s, x], argTypes := #[26, 26] })
    {B : Nat} {w0 w2 : World} {v : Value} {n m : Nat} {xs : List Value} {r : List Thing} (st : St B w0 w2 (rowT 5 1 v n xs :: r)) (hs : a.eval s = v)
    (cs : List Value) (hx : a.eval x = .slice (some ⟨w2.heap.size, 0, none⟩) m m) (hcs : cs.length = m) (h1 : ∀ u ∈ cs, u.oneCell' = true) (hl : n + m ≤ 140737488355328)
    (h : ∀ v' w', St B w0 w' (rowT 5 1 v' (n + m) (xs ++ cs) :: r) → wpList Tryz.prog ops Q rest (a.put o.dst v') w') : wpList Tryz.prog ops Q (o :: rest) a (w2.alloc (.cells cs.toArray 5)) := by
  obtain ⟨i0, hi, hz0, hz1, hz2⟩ := info_parts info8
  have st1 := st.alloc (.cells cs.toArray 5)
  refine wpList_append_mineW _ hw s x 26 ho 5 i0 (.int .u8 0) 1 1 Tryz.underlying26 hi hz0 hz1 hz2 rfl (by decide) v n xs hs st1.row (some ⟨w2.heap.size, 0, none⟩) m m cs hx (fun e => by cases e) (by omega) ?_ h1 (by unfold maxLen; omega) (by omega) ?_
  · intro b hb j u hu
    obtain rfl := Option.some.inj hb
    rw [add_none, Nat.zero_add, cell_of_row _ w2.heap.size j cs.toArray 5 (0, 0) (heap_alloc_new w2 _)]
    simpa using hu
  · intro v' w' g1 g2 g3
    exact h v' w' (st1.grown g1 g2 g3)

theorem wpList_append_bytes {ops : Array Oper} {rest : List Oper} {o : Oper} {a : Act} {Q : Exit → Act → World → Prop} (hw : Region.wanted o (yielded ops a.tmps) = true) (s x : Operand)
    (ho : o.op = .call { callee := .builtin .append, args := #[s, x], argTypes := #[26, 26] })
    {B : Nat} {w0 w2 : World} {v u : Value} {n : Nat} {xs : List Value} {ys : List Nat} {r : List Thing} (st : St B w0 w2 (rowT 5 1 v n xs :: r)) (h : ByteRow w2 u ys) (hs : a.eval s = v) (hx : a.eval x = u) (hl : n + ys.length ≤ 140737488355328)
    (K : ∀ v' w', St B w0 w' (rowT 5 1 v' (n + ys.length) (xs ++ u8s ys) :: r) → w2.grownBy w' v.ownBlock → Fresh w2 v v' → wpList Tryz.prog ops Q rest (a.put o.dst v') w') : wpList Tryz.prog ops Q (o :: rest) a w2 := by
  obtain ⟨i0, hi, hz0, hz1, hz2⟩ := info_parts info8
  have hr := h.reads
  obtain ⟨ad, cap, rfl, hc, hn, hat⟩ := h
  refine wpList_append_mineW _ hw s x 26 ho 5 i0 (.int .u8 0) 1 1 Tryz.underlying26 hi hz0 hz1 hz2 rfl (by decide) v n xs hs st.row ad ys.length cap (u8s ys) hx ?_ (by rw [u8s_length]; omega) ?_ (u8s_one ys) (by unfold maxLen; omega) (by omega) ?_
  · intro e1
    have := hn e1
    exact ⟨by omega, this⟩
  · intro b hb j u hu
    rcases hr with ⟨e1, e2⟩ | ⟨a', cap', e1, e2⟩
    · rw [e2] at hu; simp at hu
    · have e3 : ad = some a' := (Value.slice.inj e1).1
      rw [hb] at e3
      obtain rfl := Option.some.inj e3
      exact e2 j u hu
  · intro v' w' g1 g2 g3
    exact K v' w' (st.grown g1 g2 g3) g2 g3

abbrev bytesT (g n : Nat) (xs : List Nat) : Thing := rowT 5 1 (.slice (some ⟨g, 0, none⟩) n n) n (u8s xs)

theorem St.rowCell {B : Nat} {w0 w : World} {g n : Nat} {xs : List Nat} {r : List Thing} (h : St B w0 w (bytesT g n xs :: r)) (i : Nat) (hl : xs.length = n) (hi : i < n) :
    w.cell? ⟨g, i, none⟩ = some (.int .u8 (xs[i]'(by omega) : Int)) ∧ w.frozen? ⟨g, i, none⟩ = false := by
  refine ⟨?_, h.row.frozenAt i⟩
  rw [h.row.cellAt i (by omega), u8s_get _ _ (by omega)]

theorem St.put {B : Nat} {w0 w : World} {g n : Nat} {xs : List Nat} {r : List Thing} (h : St B w0 w (bytesT g n xs :: r)) (i x : Nat) : St B w0 (w.setCell ⟨g, i, none⟩ (.int .u8 (x : Int))) (bytesT g n (xs.set i x) :: r) := by
  have := h.stored i (.int .u8 (x : Int))
  rwa [← u8s_set] at this

theorem St.inB {B : Nat} {w0 w : World} {g n : Nat} {xs : List Nat} {r : List Thing} (h : St B w0 w (bytesT g n xs :: r)) : B ≤ g := by
  obtain ⟨S1, h1, h2, _⟩ := h.sep
  exact h2 g ((h1.2 g).2 rfl)

theorem St.apart {B : Nat} {w0 w : World} {g1 n1 g2 n2 : Nat} {xs ys : List Nat} {r : List Thing} (h : St B w0 w (bytesT g1 n1 xs :: bytesT g2 n2 ys :: r)) : g1 ≠ g2 := by
  obtain ⟨S1, h1, _, S2, h3, h4, _⟩ := h.sep
  intro e
  subst e
  exact (h4 g1 ((h3.2 g1).2 rfl)).2 ((h1.2 g1).2 rfl)

theorem St.made {B : Nat} {w0 w w' : World} {r : List Thing} {n : Nat} (h : St B w0 w r) (hown : w'.ownsRow w.heap.size 5 1 (.slice (some ⟨w.heap.size, 0, none⟩) n n) n (madeCells #[Value.int .u8 0] n).toList) (hg : w.grownBy w' none) :
    St B w0 w' (bytesT w.heap.size n (List.replicate n 0) :: r) := by
  rw [toList_madeCells_one, show List.replicate n (Value.int .u8 0) = u8s (List.replicate n 0) from by simp [u8s]] at hown
  exact h.addRow ((Below.refl w.heap.size w).grown hg (Nat.le_refl _) (by simp)) hown

def u32s (xs : List Nat) : List Value := xs.map fun (x : Nat) => Value.int .u32 (x : Int)
theorem u32s_length (xs : List Nat) : (u32s xs).length = xs.length := by simp [u32s]
theorem u32s_get (xs : List Nat) (i : Nat) (h : i < xs.length) : (u32s xs)[i]? = some (.int .u32 (xs[i] : Int)) := by simp [u32s, h]
theorem u32s_set (xs : List Nat) (i x : Nat) : u32s (xs.set i x) = (u32s xs).set i (.int .u32 (x : Int)) := by simp [u32s, List.map_set]
theorem u32s_append (xs ys : List Nat) : u32s (xs ++ ys) = u32s xs ++ u32s ys := by simp [u32s]
theorem u32s_one (xs : List Nat) : ∀ u ∈ u32s xs, u.oneCell' = true := by
  intro u hu
  simp only [u32s, List.mem_map] at hu
  obtain ⟨x, _, rfl⟩ := hu
  rfl

end Go.Proofs.YtpinfihmageeoaaGreat

namespace Go.Proofs.YtpinfihmageeoaaGreat
open Go.RowKit

theorem info32 : (Tryz.prog.info? 36).map (fun i => (i.zero, i.size, i.bytes)) = some (some (.int .u32 0), 1, 4) := by kernel_rfl

abbrev wordsT (g n : Nat) (xs : List Nat) : Thing := rowT 36 1 (.slice (some ⟨g, 0, none⟩) n n) n (u32s xs)

theorem St.wordCell {B : Nat} {w0 w : World} {g n : Nat} {xs : List Nat} {r : List Thing} (h : St B w0 w (wordsT g n xs :: r)) (i : Nat) (hl : xs.length = n) (hi : i < n) :
    w.cell? ⟨g, i, none⟩ = some (.int .u32 (xs[i]'(by omega) : Int)) ∧ w.frozen? ⟨g, i, none⟩ = false := by
  refine ⟨?_, h.row.frozenAt i⟩
  rw [h.row.cellAt i (by omega), u32s_get _ _ (by omega)]

theorem St.putWord {B : Nat} {w0 w : World} {g n : Nat} {xs : List Nat} {r : List Thing} (h : St B w0 w (wordsT g n xs :: r)) (i x : Nat) : St B w0 (w.setCell ⟨g, i, none⟩ (.int .u32 (x : Int))) (wordsT g n (xs.set i x) :: r) := by
  have := h.stored i (.int .u32 (x : Int))
  rwa [← u32s_set] at this

theorem St.madeWords {B : Nat} {w0 w w' : World} {r : List Thing} {n : Nat} (h : St B w0 w r) (hown : w'.ownsRow w.heap.size 36 1 (.slice (some ⟨w.heap.size, 0, none⟩) n n) n (madeCells #[Value.int .u32 0] n).toList) (hg : w.grownBy w' none) :
    St B w0 w' (wordsT w.heap.size n (List.replicate n 0) :: r) := by
  rw [toList_madeCells_one, show List.replicate n (Value.int .u32 0) = u32s (List.replicate n 0) from by simp [u32s]] at hown
  exact h.addRow ((Below.refl w.heap.size w).grown hg (Nat.le_refl _) (by simp)) hown

theorem St.apartV {B : Nat} {w0 w : World} {e e' : TypeId} {s s' n n' : Nat} {v v' : Value} {xs ys : List Value} {r : List Thing} (h : St B w0 w (rowT e s v n xs :: rowT e' s' v' n' ys :: r)) (k : Nat) (hk : v.ownBlock = some k) : v'.ownBlock ≠ some k := by
  obtain ⟨S1, h1, _, S2, h3, h4, _⟩ := h.sep
  intro e
  exact (h4 k ((h3.2 k).2 e)).2 ((h1.2 k).2 hk)

end Go.Proofs.YtpinfihmageeoaaGreat

namespace Go.Proofs.YtpinfihmageeoaaGreat
open Go.RowKit

section
variable {P : Program} {ops : Array Oper} {Q : Exit → Act → World → Prop} {md : Region.Mode} {S : World → Prop}

theorem held_step {j : Nat} (oj : Oper) {fuel : Nat} {listed : Array Bool} {a : Act} {w : World} (hr : Region.ready md ops listed = [j]) (hj : ops[j]? = some oj)
    (h : ∀ N : Act → World → Prop, (∀ a w, S w → wpAnyH P md ops Q S fuel (listed.setIfInBounds j true) a w → N a w) → wpList P ops (Exit.then N Q) [oj] a w) : wpAnyH P md ops Q S (fuel + 1) listed a w :=
  wpAnyH_all hr (by simp) (fun i hi => by
    have e : i = j := by simpa using hi
    subst e
    exact wpOp_of_list hj (h (fun a' w' => S w' ∧ wpAnyH P md ops Q S fuel (listed.setIfInBounds i true) a' w') (fun _ _ h1 h2 => ⟨h1, h2⟩)) (fun _ _ h => h))

theorem held_two {i j : Nat} (oi oj : Oper) {fuel : Nat} {listed : Array Bool} {a : Act} {w : World} (hr : Region.ready md ops listed = [i, j]) (hi : ops[i]? = some oi) (hj : ops[j]? = some oj)
    (h1 : ∀ N : Act → World → Prop, (∀ a w, S w → wpAnyH P md ops Q S fuel (listed.setIfInBounds i true) a w → N a w) → wpList P ops (Exit.then N Q) [oi] a w)
    (h2 : ∀ N : Act → World → Prop, (∀ a w, S w → wpAnyH P md ops Q S fuel (listed.setIfInBounds j true) a w → N a w) → wpList P ops (Exit.then N Q) [oj] a w) : wpAnyH P md ops Q S (fuel + 1) listed a w :=
  wpAnyH_all hr (by simp) (fun k hk => by
    have e : k = i ∨ k = j := by simpa using hk
    rcases e with e | e
    · subst e
      exact wpOp_of_list hi (h1 (fun a' w' => S w' ∧ wpAnyH P md ops Q S fuel (listed.setIfInBounds k true) a' w') (fun _ _ h1 h2 => ⟨h1, h2⟩)) (fun _ _ h => h)
    · subst e
      exact wpOp_of_list hj (h2 (fun a' w' => S w' ∧ wpAnyH P md ops Q S fuel (listed.setIfInBounds k true) a' w') (fun _ _ h1 h2 => ⟨h1, h2⟩)) (fun _ _ h => h))

end
end Go.Proofs.YtpinfihmageeoaaGreat

namespace Go.Proofs.YtpinfihmageeoaaGreat
open Go.RowKit

def SeqN (F : Fence) (n : Nat) (P : Program) (g : Nat) (lb : Array Value) (args : Nat → Array Value) (Kp : World → World → Prop) (N : Nat) (w : World) : Prop :=
  ∀ (l : Nat) (J : Nat → World → Prop) (W : World), Below w.heap.size w W → AbidesFrom W.heap.size J →
    (∀ k W1, k < N → J k W1 → YieldAt F (n - 1) P l (args k) W1 fun e W' => e = .returned (.bool true) ∧ J (k + 1) W' ∧ Kp W1 W') →
    J 0 W → CallsIn F n P g (#[.func (.yield l) #[] #[]] ++ lb) W fun e W' => (∃ v, e = .returned v) ∧ J N W'

def goesOn (Kp : World → World → Prop) (I : World → Prop) (W : World) : Exit → Act → World → Prop
  | .normal, _, W' => KeepsOthers W W' ∧ Kp W W' ∧ I W'
  | _, _, _ => False

theorem range_count {F : Fence} {n : Nat} {P : Program} {g : Operand} {ps : Array Tmp} {assign body : Code} {Q : Exit → Act → World → Prop} {a : Act} {w : World}
    (hro : F.round = none) (h1 : 1 ≤ n) {gf : Nat} {lb : Array Value} (hg : a.eval g = .func (.func gf) #[] lb) (hFg : F.fn gf) (eg : ∀ args w, (callFunc gf args).run P w = .ok (.enter gf args) w)
    {args : Nat → Array Value} {Kp : World → World → Prop} {N : Nat} {w0 : World} (hseq : SeqN F (n - 1) P gf lb args Kp N w0)
    (hKt : ∀ {A B C : World}, Kp A B → Kp B C → Kp A C) (hKb : ∀ (W : World) (l : Nat) (o o' : Obj), w.heap.size ≤ l → W.heap[l]? = some o → o.isCells = false → o.isWalk = false → Kp W (W.putObj l o'))
    (hb0 : Below w0.heap.size w0 w) (hps : ∀ k, k < N → (args k).size = ps.size)
    (I : Nat → World → Prop) (hI : OwnFrom w.heap.size I) (h0 : I 0 w) (a₁ : Nat → Act)
    (hassign : ∀ (l k : Nat) (W : World) (K : Act → World → Prop), k < N → K (a₁ k) W →
      assign.wpIn (F.inRound l) (n - 1 - 1) P (Exit.then K (fun _ _ _ => False)) { tmps := (ps.zip (args k)).foldl (fun t (p, v) => t.setIfInBounds p v) a.tmps, defers := [] } W)
    (hbody : ∀ (l k : Nat) (W : World), k < N → I k W → body.wpIn (F.inRound l) (n - 1 - 1) P (goesOn Kp (I (k + 1)) W) (a₁ k) W)
    (hdone : ∀ (D : Nat) (W : World), w.heap.size ≤ D → I N W → W.heap[D]? = some (.deferred (some [])) → Q .normal { a with defers := { target := .collected D, args := #[] } :: a.defers } W) :
    (Code.rangeFunc g ps assign body).wpIn F n P Q a w := by
  refine wpIn_rangeFunc fun fn hfn => ?_
  rw [hro]
  let D := w.heap.size
  let L : LoopState → Obj := fun s => .loop { state := s, pending := none, fn, tmps := a.tmps, params := ps, assign, body, defers := D }
  obtain ⟨W1, hW1⟩ : ∃ W1, (w.alloc (.deferred (some []))).alloc (L .ready) = W1 := ⟨_, rfl⟩
  have hs1 : W1.heap.size = D + 1 + 1 := by rw [← hW1]; simp [D]
  have hL1 : W1.heap[D + 1]? = some (L .ready) := by
    rw [← hW1]
    have := World.alloc_heap_new (w.alloc (.deferred (some []))) (L .ready)
    rwa [World.size_alloc] at this
  have hK1 : W1.heap[D]? = some (.deferred (some [])) := by
    rw [← hW1]
    exact (Below.heap_alloc _ _ _ (by simp [D])).trans (World.alloc_heap_new w _)
  have hI1 : I 0 W1 := by rw [← hW1]; exact hI.alloc _ (hI.alloc _ h0)
  have hb1 : Below w0.heap.size w0 W1 := by
    rw [← hW1]
    exact hb0.trans ((((Below.refl _ w).alloc (Nat.le_refl _) _).alloc (by simp) _).mono hb0.size)
  have put : ∀ {k : Nat} {W : World} {o : Obj} (o' : Obj), I k W → W.heap[D + 1]? = some o → o.isCells = false → I k (W.putObj (D + 1) o') := fun o' hi hl ho => hI.putObj o' hi (by simp [D]) hl ho
  refine ⟨D + 1, [{ target := .collected D, args := #[] }], W1, { target := .fn (.func gf) lb, args := #[.func (.yield (D + 1)) #[] #[]] }, W1, gf, #[.func (.yield (D + 1)) #[] #[]] ++ lb, W1, ?_, ?_, ?_, ?_, fun _ => h1, ?_⟩
  · rw [← hW1]; exact run_enterLoop_outer _ _ _ _ _
  · simp only [resolve, hg]
    simp [go_sem]
  · intro f' hf'
    simp [Target.leads] at hf'
    subst hf'
    exact hFg
  · simp [invoke, go_sem, eg]
  · refine (hseq (D + 1) (fun k W => I k W ∧ W.heap[D + 1]? = some (L .ready) ∧ W.heap[D]? = some (.deferred (some []))) W1 hb1 ?_ ?_ ⟨hI1, hL1, hK1⟩).mono ?_
    · intro s A B row ⟨h2, h3, h4⟩ hgr hr
      refine ⟨hI s A B row h2 hgr (fun r e => ?_), (grownBy_keeps hgr (fun r e => (hr r e).2) h3 rfl).trans h3, (grownBy_keeps hgr (fun r e => (hr r e).2) h4 rfl).trans h4⟩
      obtain ⟨h5, o, ho, hw⟩ := hr r e
      exact ⟨by rw [hs1] at h5; simp only [D] at h5; omega, o, ho, Obj.not_cells_of_walk hw⟩
    · rintro k W hk ⟨hi, hl, hd⟩
      have hlt : D + 1 < W.heap.size := (Array.getElem?_eq_some_iff.1 hl).1
      refine ⟨fn, _, assign, body, run_yield (P := P) (args := args k) hl (hps k hk), roundIn_of_wpIn hfn (hassign _ k W _ hk ⟨_, run_beginRound hl rfl, ?_⟩)⟩
      have hl2 : (W.putObj (D + 1) (L .busy)).heap[D + 1]? = some (L .busy) := World.putObj_heap_same hlt
      have hd2 : (W.putObj (D + 1) (L .busy)).heap[D]? = some (.deferred (some [])) := (World.putObj_heap_other (by omega)).trans hd
      refine wpIn_mono (hbody _ k _ hk (put _ hi hl rfl)) ?_
      rintro e a3 W3 hp
      cases e with
      | normal =>
        obtain ⟨q1, q2, q3⟩ := hp
        have hl3 := q1.same _ _ hl2 rfl
        have hd3 := q1.same _ _ hd2 rfl
        exact ⟨_, _, run_endRound (P := P) none hl3, rfl, ⟨put _ q3 hl3 rfl, World.putObj_heap_same (Array.getElem?_eq_some_iff.1 hl3).1, (World.putObj_heap_other (by omega)).trans hd3⟩,
          hKt (hKt (hKb _ _ _ _ (by simp [D]) hl rfl rfl) q2) (hKb _ _ _ _ (by simp [D]) hl3 rfl rfl)⟩
      | ret => exact hp.elim
      | exit id => exact hp.elim
      | goto t => exact hp.elim
      | panic ch => exact hp.elim
      | outgrown => exact hp.elim
    · rintro e W2 ⟨⟨v, rfl⟩, hi, hl, hd⟩
      exact ⟨none, _, run_endLoop (P := P) hl (by simp), hdone D _ (Nat.le_refl _) (put _ hi hl rfl) ((World.putObj_heap_other (by omega)).trans hd)⟩

theorem wpListIn_make_all {F : Fence} {nn : Nat} {P : Program} (w : World) {ops : Array Oper} {rest : List Oper} {o : Oper} {a : Act} {Q : Exit → Act → World → Prop}
    (hg : o.guard = none) (l c : Operand) (t : TypeId) (hop : o.op = Op.makeSlice t l c)
    (base : Nat) (e : TypeId) (i : TypeInfo) (z : Value) (size : Nat) (h1 : P.underlying t = some (.slice e)) (h2 : P.info? e = some i) (h3 : i.zero = some z) (h4 : i.size = size)
    (kl kc : IntKind) (L C : Int) (n : Nat) (hl : a.eval l = .int kl L) (hc : a.eval c = .int kc C) (hL : L = (n : Int)) (hC : C = (n : Int)) (b2 : i.bytes * n ≤ 281474976710656) (b3 : n ≤ maxLen) (b4 : base ≤ w.heap.size)
    (hK : ∀ w', w'.ownsRow base e size (.slice (some ⟨w.heap.size, 0, none⟩) n n) n (madeCells z.cells (n * size)).toList → w.grownBy w' none → wpListIn F nn P ops Q rest (a.put o.dst (.slice (some ⟨w.heap.size, 0, none⟩) n n)) w') :
    wpListIn F nn P ops Q (o :: rest) a w := by
  refine wpListIn_plain hg fun K hK' => ?_
  obtain ⟨w', hrun, r1, r2⟩ := run_make_full (P := P) w base t e i z size h1 h2 h3 h4 kl kc n b2 b3 b4
  subst hL
  subst hC
  unfold Oper.wpIn
  refine ⟨?_, ?_⟩
  · simp [Oper.about, hop]
  · rw [Oper.semAt_plain F _ _ (by rw [hop]; intro c hc'; cases hc')]
    simp [execOp, hop, hl, hc, hrun, Result.andThen]
    exact hK' _ _ (hK w' r1 r2)

end Go.Proofs.YtpinfihmageeoaaGreat

namespace Go.Proofs.YtpinfihmageeoaaGreat
open Go

section
variable {F : Fence} {n : Nat} {P : Program} {md : Region.Mode} {ops : Array Oper} {Q : Exit → Act → World → Prop}

theorem uponIn_then {o : Oper} {a : Act} {N N' : Act → World → Prop} {K : Act → World → Prop} {r : Result Next} (h : o.uponIn F n P a N (Exit.then K Q) r) (hN : ∀ a w, N a w → N' a w) : o.uponIn F n P a N' Q r := by
  cases r with
  | ok x w' =>
    cases x <;> simp only [Oper.uponIn] at h ⊢ <;>
      first
        | exact hN _ _ h
        | exact ⟨h.1, CallsIn.mono h.2 (fun e w'' he => by cases e <;> first | exact hN _ _ he | exact he)⟩
        | exact ⟨h.1, RowsIn.mono h.2 (fun _ _ he => hN _ _ he)⟩
        | exact ⟨h.1, RoundIn.mono h.2 (fun e w'' he => by cases e <;> first | exact hN _ _ he | exact he)⟩
  | halt x w' => cases x <;> simp only [Oper.uponIn] at h ⊢ <;> exact h

theorem wpOpIn_of_list {i : Nat} {o : Oper} (ho : ops[i]? = some o) {N : Act → World → Prop} {rest : List Oper} {K : Act → World → Prop} {a : Act} {w : World}
    (h : wpListIn F n P ops (Exit.then K Q) (o :: rest) a w) (hN : ∀ a w, wpListIn F n P ops (Exit.then K Q) rest a w → N a w) : wpOpIn F n P ops Q i N a w := by
  unfold wpOpIn
  simp only [ho]
  unfold wpListIn at h
  split
  · rename_i hw
    simp only [hw, if_true] at h
    exact ⟨h.1, uponIn_then h.2 hN⟩
  · rename_i hw
    simp only [hw] at h
    exact ⟨h.1, hN _ _ h.2⟩

theorem wpOpIn_step {i : Nat} {o : Oper} {N : Act → World → Prop} {a : Act} {w : World} (ho : ops[i]? = some o)
    (h : ∀ K : Act → World → Prop, (∀ a w, N a w → K a w) → wpListIn F n P ops (Exit.then K Q) [o] a w) : wpOpIn F n P ops Q i N a w :=
  wpOpIn_of_list (rest := []) ho (h N (fun _ _ h => h)) (fun _ _ h => h)

def wpUpto (F : Fence) (n : Nat) (P : Program) (md : Region.Mode) (ops : Array Oper) (Q : Exit → Act → World → Prop) (stop : Array Bool) (A : Act) (W : World) : Nat → Array Bool → Act → World → Prop
  | 0, listed, a, w => listed = stop ∧ a = A ∧ w = W
  | f + 1, listed, a, w => Region.ready md ops listed ≠ [] ∧ ∀ i ∈ Region.ready md ops listed, wpOpIn F n P ops Q i (wpUpto F n P md ops Q stop A W f (listed.setIfInBounds i true)) a w

theorem wpUpto_all {stop : Array Bool} {A : Act} {W : World} {rs : List Nat} {f : Nat} {listed : Array Bool} {a : Act} {w : World} (hr : Region.ready md ops listed = rs) (hne : rs ≠ [])
    (h : ∀ i ∈ rs, wpOpIn F n P ops Q i (wpUpto F n P md ops Q stop A W f (listed.setIfInBounds i true)) a w) : wpUpto F n P md ops Q stop A W (f + 1) listed a w :=
  ⟨fun h0 => absurd (hr ▸ h0) hne, hr ▸ h⟩

theorem wpAnyIn_upto {stop : Array Bool} {A : Act} {W : World} (g : Nat) (hm : wpAnyIn F n P md ops Q g stop A W) :
    ∀ (f : Nat) (listed : Array Bool) (a : Act) (w : World), wpUpto F n P md ops Q stop A W f listed a w → wpAnyIn F n P md ops Q (f + g) listed a w
  | 0, _, _, _, ⟨rfl, rfl, rfl⟩ => by rw [Nat.zero_add]; exact hm
  | f + 1, listed, a, w, ⟨h1, h2⟩ => by
    rw [show f + 1 + g = f + g + 1 from by omega]
    exact ⟨fun h0 => absurd h0 h1, fun i hi => wpOpIn_mono (fun a w h => wpAnyIn_upto g hm f _ a w h) (h2 i hi)⟩

theorem region_upto {id : Nat} {l0 : List Oper} {a : Act} {w : World} (hm : P.follows .mixedOrders = true) (f g : Nat) (stop : Array Bool) (W : World) (puts : List (Tmp × Value)) (hg : l0.length = f + g)
    (h : wpUpto F n P .any l0.toArray Q stop (puts.foldl (fun a p => a.put (some p.1) p.2) a) W f (Array.replicate l0.length false) a w.drew) (hx : wpAnyIn F n P .any l0.toArray Q g stop (puts.foldl (fun a p => a.put (some p.1) p.2) a) W) : (Code.region id l0.toArray true).wpIn F n P Q a w := by
  refine wpIn_region_any hm ?_
  rw [show l0.toArray.size = f + g from by simpa using hg]
  have e : Array.replicate (f + g) false = Array.replicate l0.length false := by rw [hg]
  rw [e]
  exact wpAnyIn_upto g hx f _ a _ h

def oneB (md : Region.Mode) (ops : Array Oper) (listed : Array Bool) : List Nat → Bool
  | [] => true
  | i :: r => (Region.ready md ops listed == [i]) && oneB md ops (listed.setIfInBounds i true) r

theorem wpAnyIn_one0 (K : Act → World → Prop) :
    ∀ (seg : List Nat) (l : List Oper) (g : Nat) (listed : Array Bool) (a : Act) (w : World), oneB md ops listed seg = true → seg.map (fun i => ops[i]?) = l.map some →
    (∀ a w, K a w → wpAnyIn F n P md ops Q g (lists listed seg) a w) → wpListIn F n P ops (Exit.then K Q) l a w → wpAnyIn F n P md ops Q (seg.length + g) listed a w
  | [], l, g, listed, a, w, _, hl, hK, h => by
    have : l = [] := by simpa using hl.symm
    subst this
    rw [List.length_nil, Nat.zero_add]
    exact hK _ _ h
  | i :: seg, l, g, listed, a, w, hs, hl, hK, h => by
    cases l with
    | nil => simp at hl
    | cons o l =>
      simp only [List.map_cons, List.cons.injEq] at hl
      obtain ⟨ho, hl⟩ := hl
      simp only [oneB, Bool.and_eq_true, beq_iff_eq] at hs
      obtain ⟨hs, hrest⟩ := hs
      rw [List.length_cons, show seg.length + 1 + g = seg.length + g + 1 from by omega]
      refine wpAnyIn_all hs (by simp) (fun j hj => ?_)
      have : j = i := by simpa using hj
      subst this
      exact wpOpIn_of_list ho h (fun a' w' h' => wpAnyIn_one0 K seg l g (listed.setIfInBounds j true) a' w' hrest hl hK h')

theorem wpAnyIn_one {l0 : List Oper} {listed : Array Bool} {a : Act} {w : World} (seg : List Nat) (g : Nat)
    (hs : oneB md l0.toArray listed seg = true) (hin : seg.all (fun i => decide (i < l0.length)) = true)
    (h : ∀ K : Act → World → Prop, (∀ a w, wpAnyIn F n P md l0.toArray Q g (lists listed seg) a w → K a w) → wpListIn F n P l0.toArray (Exit.then K Q) (pickL l0 seg) a w) :
    wpAnyIn F n P md l0.toArray Q (seg.length + g) listed a w :=
  wpAnyIn_one0 _ seg _ g listed a w hs (pickL_some seg hin) (fun _ _ h => h) (h _ (fun _ _ h => h))

end
end Go.Proofs.YtpinfihmageeoaaGreat
