/-
  Plain facts about a region whose order Go leaves open, of operations that make memory (slices written out, made, appended to): whichever comes first, each operation's slot holds what it must, over blocks of its own. No program. No conditions.
-/
import Derived.Test.YtpolbpjclklgbaaSep
import Derived.Test.YtpolbpjclklgbaaRegion
namespace Go.Proofs.Ytpolbpjclklgbaa
open Go Go.RowKit

/-! By an invariant. -/
section
variable {P : Program} {md : Region.Mode} {ops : Array Oper} {Q : Exit → Act → World → Prop}

theorem ready_mem {l : Array Bool} {i : Nat} : i ∈ Region.ready md ops l ↔ ∃ o, ops[i]? = some o ∧ l.getD i true = false ∧ ∀ e ∈ o.after, Region.binds md e = true → l.getD e.on false = true := by
  unfold Region.ready
  rw [List.mem_filter, List.mem_range]
  constructor
  · rintro ⟨hi, h⟩
    rw [Bool.and_eq_true] at h
    obtain ⟨h1, h2⟩ := h
    rw [Array.getElem?_eq_getElem hi] at h2
    refine ⟨ops[i], Array.getElem?_eq_getElem hi, by simpa using h1, fun e he hb => ?_⟩
    simp only [Option.map_some, Option.getD_some, Array.all_eq_true'] at h2
    have := h2 e he
    simpa [hb] using this
  · rintro ⟨o, ho, h1, h2⟩
    obtain ⟨hi, _⟩ := Array.getElem?_eq_some_iff.1 ho
    refine ⟨hi, ?_⟩
    rw [Bool.and_eq_true]
    refine ⟨by simp [h1], ?_⟩
    rw [ho]
    simp only [Option.map_some, Option.getD_some, Array.all_eq_true']
    intro e he
    cases hb : Region.binds md e with
    | false => rfl
    | true => simpa using h2 e he hb

theorem wpAny_inv {Inv : Array Bool → Act → World → Prop}
    (hsize : ∀ l a w, Inv l a w → l.size = ops.size)
    (hlow : ∀ (i : Nat) (o : Oper), ops[i]? = some o → ∀ e ∈ o.after, e.on < i)
    (hstep : ∀ (l : Array Bool) (a : Act) (w : World) (i : Nat) (o : Oper), Inv l a w → ops[i]? = some o → l.getD i true = false → (∀ e ∈ o.after, Region.binds md e = true → l.getD e.on false = true) → wpOp P ops Q i (Inv (l.setIfInBounds i true)) a w)
    (hend : ∀ l a w, Inv l a w → (∀ i, i < ops.size → l.getD i false = true) → Q .normal a w) :
    ∀ (g : Nat) (rem : List Nat) l a w, Inv l a w → rem.length ≤ g → (∀ i, i < ops.size → l.getD i true = false → i ∈ rem) → wpAny P md ops Q g l a w := by
  have all : ∀ l a w, Inv l a w → Region.ready md ops l = [] → ∀ i, i < ops.size → l.getD i false = true := by
    intro l a w hI hr i
    induction i using Nat.strongRecOn with
    | ind i ih =>
      intro hi
      cases hb : l.getD i false with
      | true => rfl
      | false =>
        exfalso
        have hs := hsize l a w hI
        have h1 : l.getD i true = false := by
          rw [Array.getD_eq_getD_getElem?] at hb ⊢
          rw [Array.getElem?_eq_getElem (by omega)] at hb ⊢
          exact hb
        have : i ∈ Region.ready md ops l := ready_mem.2 ⟨ops[i], Array.getElem?_eq_getElem hi, h1, fun e he _ => by
          have h2 := hlow i _ (Array.getElem?_eq_getElem hi) e he
          exact ih e.on h2 (by omega)⟩
        rw [hr] at this
        cases this
  intro g
  induction g with
  | zero =>
    intro rem l a w hI hg hrem
    have hr : Region.ready md ops l = [] := by
      cases e : Region.ready md ops l with
      | nil => rfl
      | cons i r =>
        have hi : i ∈ Region.ready md ops l := by rw [e]; exact List.mem_cons_self
        obtain ⟨o, ho, h1, _⟩ := ready_mem.1 hi
        have := hrem i (Array.getElem?_eq_some_iff.1 ho).1 h1
        rw [List.eq_nil_of_length_eq_zero (Nat.le_zero.1 hg)] at this
        cases this
    exact ⟨hr, hend l a w hI (all l a w hI hr)⟩
  | succ g ih =>
    intro rem l a w hI hg hrem
    refine ⟨fun hr => hend l a w hI (all l a w hI hr), fun i hi => ?_⟩
    obtain ⟨o, ho, h1, h2⟩ := ready_mem.1 hi
    have hi' := (Array.getElem?_eq_some_iff.1 ho).1
    refine wpOp_mono (fun a' w' hI' => ih (rem.erase i) _ a' w' hI' ?_ ?_) (hstep l a w i o hI ho h1 h2)
    · rw [List.length_erase_of_mem (hrem i hi' h1)]
      omega
    · intro j hj hl
      have hne : j ≠ i := by
        intro e
        subst e
        have hs := hsize l a w hI
        rw [Array.getD_eq_getD_getElem?, Array.getElem?_setIfInBounds_self_of_lt (by omega)] at hl
        cases hl
      refine (List.mem_erase_of_ne hne).2 (hrem j hj ?_)
      rw [Array.getD_eq_getD_getElem?] at hl ⊢
      rwa [Array.getElem?_setIfInBounds_ne (Ne.symm hne)] at hl

end

/-! Things in any order. -/
theorem Sep.perm {w : World} {l m : List Thing} (h : l.Perm m) : ∀ {S : Nat → Prop}, Sep w l S → Sep w m S := by
  induction h with
  | nil => exact fun h => h
  | cons x _ ih => exact fun h => Sep.under (fun _ => ih) h
  | swap x y l => exact fun h => Sep.swap h
  | trans _ _ ih1 ih2 => exact fun h => ih2 (ih1 h)

theorem St.perm {B : Nat} {w0 w : World} {l m : List Thing} (p : l.Perm m) (h : St B w0 w l) : St B w0 w m := ⟨h.only, h.size, Sep.perm p h.sep⟩

/-! A plan of such a region: what each operation's slot and memory are, what it takes over. -/

/-- A fact, over no memory. -/
def factT (p : Prop) : Thing where
  holds _ S := p ∧ ∀ k, ¬ S k
  keep h _ _ := h
  lt h hk := absurd hk (h.2 _)

abbrev Slots := Nat → Value

/-- Slot d holds v now. -/
def Slots.put (g : Slots) (d : Nat) (v : Value) : Slots := fun t => if t = d then v else g t

def slotsOf (a : Act) : Slots := fun t => a.tmps.getD t undef

theorem slotsOf_put (a : Act) (d : Nat) (v : Value) (h : d < a.tmps.size) : slotsOf (a.put (some d) v) = (slotsOf a).put d v := by
  funext t
  unfold slotsOf Slots.put
  show (a.tmps.setIfInBounds d v).getD t undef = _
  rw [Array.getD_eq_getD_getElem?]
  by_cases e : t = d
  · subst e
    rw [if_pos rfl, Array.getElem?_setIfInBounds_self_of_lt h]
    rfl
  · rw [if_neg e, Array.getElem?_setIfInBounds_ne (Ne.symm e)]
    show _ = a.tmps.getD t undef
    rw [Array.getD_eq_getD_getElem?]

structure Plan where
  /-- what holds of operation i's slot -/
  fact : Nat → Slots → Prop
  /-- what memory it has -/
  thing : Nat → Slots → Thing
  /-- which slots these speak of -/
  reads : Nat → List Nat
  /-- whose memory it takes over -/
  eats : Nat → List Nat

def dstOf (ops : List Oper) (i : Nat) : Option Nat := (ops[i]?).bind (·.dst)

/-- Does operation i wait for j? -/
def waits (ops : List Oper) (i j : Nat) : Bool := ((ops[i]?).map fun o => o.after.any fun e => Region.binds .any e && e.on == j).getD false

/-- What a program can look up: each operation has a slot of its own, within the frame; each waits for lower ones alone; what it speaks of is its own slot or that of one it waits for; it eats what it waits for, and each is eaten once. -/
def Plan.check (p : Plan) (ops : List Oper) (N : Nat) : Bool :=
  (List.range ops.length).all fun i =>
    ((dstOf ops i).map fun d => decide (d < N)).getD false &&
    (List.range ops.length).all (fun j => j == i || dstOf ops j != dstOf ops i) &&
    ((ops[i]?).map fun o => o.after.all fun e => decide (e.on < i)).getD false &&
    (p.reads i).all (fun t => dstOf ops i == some t || (List.range ops.length).any (fun j => waits ops i j && dstOf ops j == some t)) &&
    decide (p.eats i).Nodup && (p.eats i).all (fun j => waits ops i j && decide (j < ops.length) && (List.range ops.length).all (fun k => k == i || !(p.eats k).contains j))

/-- Is j's memory there? -/
def Plan.live (p : Plan) (n : Nat) (l : Array Bool) (j : Nat) : Bool := l.getD j false && (List.range n).all fun k => !(l.getD k false && (p.eats k).contains j)

def Plan.things (p : Plan) (n : Nat) (l : Array Bool) (g : Slots) : List Thing := ((List.range n).filter (p.live n l)).map (p.thing · g)

theorem getD_set_self {l : Array Bool} {i : Nat} (h : i < l.size) (b : Bool) : (l.setIfInBounds i true).getD i b = true := by
  rw [Array.getD_eq_getD_getElem?, Array.getElem?_setIfInBounds_self_of_lt h]
  rfl

theorem getD_set_ne {l : Array Bool} {i j : Nat} (h : j ≠ i) (b : Bool) : (l.setIfInBounds i true).getD j b = l.getD j b := by
  rw [Array.getD_eq_getD_getElem?, Array.getElem?_setIfInBounds_ne (Ne.symm h), Array.getD_eq_getD_getElem?]

/-- What the check says of an operation. -/
structure Plan.Sound (p : Plan) (ops : List Oper) (N i d : Nat) (o : Oper) : Prop where
  dst : o.dst = some d
  lt : d < N
  own : ∀ j, j < ops.length → j ≠ i → dstOf ops j ≠ some d
  low : ∀ e ∈ o.after, e.on < i
  reads : ∀ t ∈ p.reads i, t = d ∨ ∃ j, j < ops.length ∧ waits ops i j = true ∧ dstOf ops j = some t
  nodup : (p.eats i).Nodup
  eats : ∀ j ∈ p.eats i, waits ops i j = true ∧ j < ops.length ∧ ∀ k, k < ops.length → k ≠ i → j ∉ p.eats k

theorem Plan.sound {p : Plan} {ops : List Oper} {N : Nat} (h : p.check ops N = true) (i : Nat) (o : Oper) (ho : ops[i]? = some o) : ∃ d, p.Sound ops N i d o := by
  obtain ⟨hi, _⟩ := List.getElem?_eq_some_iff.1 ho
  unfold Plan.check at h
  rw [List.all_eq_true] at h
  have h := h i (List.mem_range.2 hi)
  simp only [Bool.and_eq_true] at h
  obtain ⟨⟨⟨⟨⟨h1, h2⟩, h3⟩, h4⟩, h5⟩, h6⟩ := h
  have hd : dstOf ops i = o.dst := by unfold dstOf; rw [ho]; rfl
  rw [hd] at h1 h2 h4
  cases hdd : o.dst with
  | none => rw [hdd] at h1; cases h1
  | some d =>
    rw [hdd] at h1 h2 h4
    refine ⟨d, hdd, by simpa using h1, ?_, ?_, ?_, by simpa using h5, ?_⟩
    · intro j hj hne e
      have := List.all_eq_true.1 h2 j (List.mem_range.2 hj)
      simp [e, hne] at this
    · rw [ho] at h3
      simp only [Option.map_some, Option.getD_some, Array.all_eq_true'] at h3
      intro e he
      simpa using h3 e he
    · intro t ht
      have := List.all_eq_true.1 h4 t ht
      simp only [Bool.or_eq_true, List.any_eq_true, Bool.and_eq_true, beq_iff_eq, List.mem_range] at this
      rcases this with e | ⟨j, hj, hw, he⟩
      · exact .inl (Option.some.inj e).symm
      · exact .inr ⟨j, hj, hw, he⟩
    · intro j hj
      have := List.all_eq_true.1 h6 j hj
      simp only [Bool.and_eq_true, decide_eq_true_eq] at this
      obtain ⟨⟨a1, a2⟩, a3⟩ := this
      refine ⟨a1, a2, fun k hk hne hm => ?_⟩
      have := List.all_eq_true.1 a3 k (List.mem_range.2 hk)
      simp [hne] at this
      exact this hm

theorem waits_iff {ops : List Oper} {i j : Nat} {o : Oper} (ho : ops[i]? = some o) : waits ops i j = true ↔ ∃ e ∈ o.after, Region.binds .any e = true ∧ e.on = j := by
  unfold waits
  rw [ho]
  simp only [Option.map_some, Option.getD_some, Array.any_eq_true, Bool.and_eq_true, beq_iff_eq]
  constructor
  · rintro ⟨k, hk, a, b⟩
    exact ⟨_, Array.getElem_mem hk, a, b⟩
  · rintro ⟨e, he, a, b⟩
    obtain ⟨k, hk, rfl⟩ := Array.mem_iff_getElem.1 he
    exact ⟨k, hk, a, b⟩

theorem filter_split {α : Type} [DecidableEq α] {l e : List α} {p q : α → Bool} (hl : l.Nodup) (he : e.Nodup) (h1 : ∀ x ∈ e, x ∈ l ∧ p x = true) (h2 : ∀ x ∈ l, q x = (p x && !decide (x ∈ e))) : (l.filter p).Perm (e ++ l.filter q) := by
  refine (List.perm_ext_iff_of_nodup (hl.filter p) ?_).2 ?_
  · refine List.nodup_append.2 ⟨he, hl.filter q, ?_⟩
    intro x hx y hy exy
    subst exy
    have := (List.mem_filter.1 hy)
    rw [h2 x this.1] at this
    simp [hx] at this
  · intro x
    rw [List.mem_append, List.mem_filter, List.mem_filter]
    constructor
    · rintro ⟨hx, hp⟩
      by_cases c : x ∈ e
      · exact .inl c
      · exact .inr ⟨hx, by rw [h2 x hx, hp]; simp [c]⟩
    · rintro (hx | ⟨hx, hq⟩)
      · exact h1 x hx
      · rw [h2 x hx] at hq
        exact ⟨hx, by simp at hq; exact hq.1⟩

theorem filter_more {α : Type} [DecidableEq α] {l : List α} {p q : α → Bool} {i : α} (hl : l.Nodup) (hi : i ∈ l) (h2 : ∀ x ∈ l, p x = (decide (x = i) || q x)) (hq : q i = false) : (l.filter p).Perm (i :: l.filter q) := by
  refine (List.perm_ext_iff_of_nodup (hl.filter p) ?_).2 ?_
  · refine List.nodup_cons.2 ⟨fun h => ?_, hl.filter q⟩
    rw [(List.mem_filter.1 h).2] at hq
    cases hq
  · intro x
    rw [List.mem_cons, List.mem_filter, List.mem_filter]
    constructor
    · rintro ⟨hx, hp⟩
      rw [h2 x hx] at hp
      simp at hp
      rcases hp with e | e
      · exact .inl e
      · exact .inr ⟨hx, e⟩
    · rintro (rfl | ⟨hx, hq⟩)
      · exact ⟨hi, by rw [h2 _ hi]; simp⟩
      · exact ⟨hx, by rw [h2 x hx, hq]; simp⟩

/-- A region by a plan. -/
theorem region_plan {P : Program} {id : Nat} {l0 : List Oper} {a0 : Act} {w : World} {Q : Exit → Act → World → Prop} (hm : P.follows .mixedOrders = true)
    (p : Plan) (hck : p.check l0 a0.tmps.size = true)
    (hcf : ∀ i g g', (∀ t ∈ p.reads i, g t = g' t) → p.fact i g → p.fact i g')
    (hct : ∀ i g g', (∀ t ∈ p.reads i, g t = g' t) → p.thing i g = p.thing i g')
    {B : Nat} {w0 : World} {r : List Thing} (st : St B w0 w r)
    (hstep : ∀ i o d, l0[i]? = some o → o.dst = some d → ∀ (a : Act) (w : World) (rest : List Thing), a.defers = a0.defers → a.tmps.size = a0.tmps.size →
      (∀ t, (∀ j, j < l0.length → dstOf l0 j ≠ some t) → slotsOf a t = slotsOf a0 t) → (∀ j, j < l0.length → waits l0 i j = true → p.fact j (slotsOf a)) →
      St B w0 w ((p.eats i).map (p.thing · (slotsOf a)) ++ (r ++ rest)) →
      wpOp P l0.toArray Q i (fun a' w' => ∃ v, a' = a.put (some d) v ∧ p.fact i ((slotsOf a).put d v) ∧ St B w0 w' (p.thing i ((slotsOf a).put d v) :: (r ++ rest))) a w)
    (hend : ∀ a w', a.defers = a0.defers → a.tmps.size = a0.tmps.size → (∀ t, (∀ j, j < l0.length → dstOf l0 j ≠ some t) → slotsOf a t = slotsOf a0 t) →
      (∀ j, j < l0.length → p.fact j (slotsOf a)) → St B w0 w' (((List.range l0.length).filter (fun j => (List.range l0.length).all fun k => !(p.eats k).contains j)).map (p.thing · (slotsOf a)) ++ r) → Q .normal a w') :
    (Code.region id l0.toArray true).wp P Q a0 w := by
  refine wp_region_any hm ?_
  have hn : (List.range l0.length).Nodup := List.nodup_range
  refine wpAny_inv (Inv := fun l a w' => l.size = l0.length ∧ a.defers = a0.defers ∧ a.tmps.size = a0.tmps.size ∧
      (∀ i, i < l0.length → l.getD i false = true → ∀ j, waits l0 i j = true → l.getD j false = true) ∧
      (∀ t, (∀ j, j < l0.length → dstOf l0 j ≠ some t) → slotsOf a t = slotsOf a0 t) ∧
      (∀ j, j < l0.length → l.getD j false = true → p.fact j (slotsOf a)) ∧ St B w0 w' (p.things l0.length l (slotsOf a) ++ r)) ?_ ?_ ?_ ?_ _ (List.range l0.length) _ _ _ ?_ ?_ ?_
  · rintro l a w' ⟨h, _⟩
    simpa using h
  · intro i o ho e he
    obtain ⟨d, hs⟩ := p.sound hck i o (by simpa using ho)
    exact hs.low e he
  · rintro l a w' i o ⟨h1, h2, h3, h4, h5, h6, h7⟩ ho hl haft
    have ho : l0[i]? = some o := by simpa using ho
    obtain ⟨hi, hoe⟩ := List.getElem?_eq_some_iff.1 ho
    obtain ⟨d, hs⟩ := p.sound hck i o ho
    have hl' : l.getD i false = false := by
      rw [Array.getD_eq_getD_getElem?] at hl ⊢
      rw [Array.getElem?_eq_getElem (by omega)] at hl ⊢
      exact hl
    have hw : ∀ j, waits l0 i j = true → l.getD j false = true := by
      intro j hj
      obtain ⟨e, he, hb, rfl⟩ := (waits_iff ho).1 hj
      exact haft e he hb
    have hlive : ∀ j, j ∈ p.eats i → j ∈ List.range l0.length ∧ p.live l0.length l j = true := by
      intro j hj
      obtain ⟨e1, e2, e3⟩ := hs.eats j hj
      refine ⟨List.mem_range.2 e2, ?_⟩
      unfold Plan.live
      rw [hw j e1, Bool.true_and, List.all_eq_true]
      intro k hk
      by_cases e : k = i
      · subst e; rw [hl']; rfl
      · have := e3 k (List.mem_range.1 hk) e
        simp [this]
    have perm := filter_split (p := p.live l0.length l) (q := fun j => p.live l0.length l j && !decide (j ∈ p.eats i)) hn hs.nodup hlive (fun _ _ => rfl)
    have st1 : St B w0 w' ((p.eats i).map (p.thing · (slotsOf a)) ++ (r ++ ((List.range l0.length).filter (fun j => p.live l0.length l j && !decide (j ∈ p.eats i))).map (p.thing · (slotsOf a)))) := by
      refine h7.perm ?_
      unfold Plan.things
      refine ((perm.map _).append_right r).trans ?_
      rw [List.map_append, List.append_assoc]
      exact List.Perm.append_left _ List.perm_append_comm
    refine wpOp_mono ?_ (hstep i o d ho hs.dst a w' _ h2 h3 h5 (fun j hj hwj => h6 j hj (hw j hwj)) st1)
    rintro a' w'' ⟨v, rfl, hf, st2⟩
    have hd : d < a.tmps.size := by rw [h3]; exact hs.lt
    have hsp := slotsOf_put a d v hd
    have hne : ∀ j, j < l0.length → j ≠ i → l.getD j false = true → ∀ t ∈ p.reads j, slotsOf a t = slotsOf (a.put (some d) v) t := by
      intro j hj hji hlj t ht
      obtain ⟨oj, hoj⟩ : ∃ oj, l0[j]? = some oj := ⟨_, List.getElem?_eq_getElem hj⟩
      obtain ⟨dj, hsj⟩ := p.sound hck j oj hoj
      have hdj : dstOf l0 j = some dj := by unfold dstOf; rw [hoj]; exact hsj.dst
      have htd : t ≠ d := by
        intro e
        rcases hsj.reads t ht with e2 | ⟨k, hk, hwk, e2⟩
        · exact hs.own j hj hji (by rw [hdj, ← e2, e])
        · have hki : k ≠ i := by
            intro e3
            have := h4 j hj hlj k hwk
            rw [e3, hl'] at this
            cases this
          exact hs.own k hk hki (by rw [e2, e])
      rw [hsp]
      unfold Slots.put
      rw [if_neg htd]
    refine ⟨by simpa using h1, h2, by rw [← h3]; exact Array.size_setIfInBounds .., ?_, ?_, ?_, ?_⟩
    · intro k hk hlk j hj
      by_cases e : k = i
      · subst e
        by_cases e2 : j = k
        · subst e2; exact hlk
        · rw [getD_set_ne e2]; exact hw j hj
      · rw [getD_set_ne e] at hlk
        have := h4 k hk hlk j hj
        by_cases e2 : j = i
        · subst e2; exact getD_set_self (by omega) _
        · rw [getD_set_ne e2]; exact this
    · intro t ht
      rw [hsp]
      unfold Slots.put
      rw [if_neg (fun e => ht i hi (by unfold dstOf; rw [ho]; exact e ▸ hs.dst))]
      exact h5 t ht
    · intro j hj hlj
      by_cases e : j = i
      · subst e; rw [hsp]; exact hf
      · rw [getD_set_ne e] at hlj
        exact hcf j _ _ (hne j hj e hlj) (h6 j hj hlj)
    · refine St.perm ?_ st2
      unfold Plan.things
      have perm2 := filter_more (l := List.range l0.length) (p := p.live l0.length (l.setIfInBounds i true)) (q := fun j => p.live l0.length l j && !decide (j ∈ p.eats i)) (i := i) hn (List.mem_range.2 hi) ?_ ?_
      · refine List.Perm.trans ?_ ((perm2.map _).symm.append_right r)
        rw [List.map_cons, List.cons_append, hsp]
        refine List.Perm.cons _ (List.perm_append_comm.trans (List.Perm.append_right r (List.Perm.of_eq ?_)))
        refine List.map_congr_left fun j hj => ?_
        obtain ⟨hj1, hj2⟩ := List.mem_filter.1 hj
        have hlj : l.getD j false = true := by
          simp only [Plan.live, Bool.and_eq_true] at hj2
          exact hj2.1.1
        have hji : j ≠ i := by
          intro e
          rw [e, hl'] at hlj
          cases hlj
        rw [← hsp]
        exact hct j _ _ (hne j (List.mem_range.1 hj1) hji hlj)
      · intro j hj
        have hj := List.mem_range.1 hj
        by_cases e : j = i
        · subst e
          simp only [decide_true, Bool.true_or]
          unfold Plan.live
          rw [getD_set_self (by omega), Bool.true_and, List.all_eq_true]
          intro k hk
          have hk := List.mem_range.1 hk
          cases hc : (p.eats k).contains j with
          | false => simp
          | true =>
            have hm' : j ∈ p.eats k := by simpa using hc
            obtain ⟨ok, hok⟩ : ∃ ok, l0[k]? = some ok := ⟨_, List.getElem?_eq_getElem hk⟩
            obtain ⟨dk, hsk⟩ := p.sound hck k ok hok
            have hkj : k ≠ j := by
              intro e
              subst e
              obtain ⟨e1, _⟩ := hs.eats k hm'
              have := hw k e1
              rw [hl'] at this
              cases this
            rw [getD_set_ne hkj]
            cases hlk : l.getD k false with
            | false => rfl
            | true =>
              have := h4 k hk hlk j (hsk.eats j hm').1
              rw [hl'] at this
              cases this
        · simp only [e, decide_false, Bool.false_or]
          unfold Plan.live
          rw [getD_set_ne e]
          cases hlj : l.getD j false with
          | false => simp
          | true =>
            simp only [Bool.true_and]
            rw [Bool.eq_iff_iff, Bool.and_eq_true, List.all_eq_true, List.all_eq_true]
            constructor
            · intro h
              refine ⟨fun k hk => ?_, ?_⟩
              · have := h k hk
                by_cases e2 : k = i
                · subst e2; rw [hl']; rfl
                · rwa [getD_set_ne e2] at this
              · have := h i (List.mem_range.2 hi)
                rw [getD_set_self (by omega)] at this
                simpa using this
            · rintro ⟨ha, hb⟩ k hk
              by_cases e2 : k = i
              · subst e2
                rw [getD_set_self (by omega)]
                simpa using hb
              · rw [getD_set_ne e2]
                exact ha k hk
      · simp only [Plan.live, hl', Bool.false_and]
  · rintro l a w' ⟨h1, h2, h3, h4, h5, h6, h7⟩ hall
    have hall : ∀ i, i < l0.length → l.getD i false = true := by simpa using hall
    refine hend a w' h2 h3 h5 (fun j hj => h6 j hj (hall j hj)) ?_
    refine h7.perm (List.Perm.of_eq ?_)
    unfold Plan.things
    congr 2
    refine List.filter_congr fun j hj => ?_
    unfold Plan.live
    rw [hall j (List.mem_range.1 hj), Bool.true_and]
    rw [Bool.eq_iff_iff, List.all_eq_true, List.all_eq_true]
    constructor
    · intro h k hk
      have := h k hk
      rwa [hall k (List.mem_range.1 hk), Bool.true_and] at this
    · intro h k hk
      rw [hall k (List.mem_range.1 hk), Bool.true_and]
      exact h k hk
  · have h0 : ∀ i, (Array.replicate l0.toArray.size false).getD i false = false := by
      intro i
      rw [Array.getD_eq_getD_getElem?, Array.getElem?_replicate]
      split <;> rfl
    refine ⟨by simp, rfl, rfl, fun i _ h => ?_, fun _ _ => rfl, fun i _ h => ?_, ?_⟩
    · rw [h0] at h; cases h
    · rw [h0] at h; cases h
    · have e : p.things l0.length (Array.replicate l0.toArray.size false) (slotsOf a0) = [] := by
        unfold Plan.things
        rw [List.map_eq_nil_iff, List.filter_eq_nil_iff]
        intro j _
        unfold Plan.live
        rw [h0]
        simp
      rw [e, List.nil_append]
      exact st.drew
  · simp
  · intro i hi _
    exact List.mem_range.2 (by simpa using hi)

/-! Its steps. -/
theorem wpOp_value {P : Program} {ops : Array Oper} {Q : Exit → Act → World → Prop} {i : Nat} {o : Oper} {K : Act → World → Prop} {a : Act} {w w' : World} {v : Value} (ho : ops[i]? = some o) (hg : o.guard = none) (hr : (execOp a.eval o).run P w = .ok (.value v) w') (hK : K (a.put o.dst v) w') : wpOp P ops Q i K a w := by
  unfold wpOp
  rw [ho]
  simp only
  rw [if_pos (by unfold Region.wanted; rw [hg])]
  left
  unfold Oper.wp
  rw [hr]
  exact hK

theorem St.addFact {B : Nat} {w0 w : World} {r : List Thing} {p : Prop} (h : St B w0 w r) (hp : p) : St B w0 w (factT p :: r) :=
  h.add (S := fun _ => False) (Below.refl _ _) ⟨hp, fun _ f => f⟩ (fun _ f => f.elim)

/-- A block of the call's own, known whole, and the slice that stands at its head. -/
def blockT (v : Value) (n : Nat) (cs : Array Value) (t : TypeId) : Thing where
  holds w S := ∃ b, v = .slice (some ⟨b, 0, none⟩) n n ∧ w.heap[b]? = some (.cells cs t (0, 0)) ∧ ∀ k, S k ↔ k = b
  keep h ho hd := by
    obtain ⟨b, h1, h2, h3⟩ := h
    exact ⟨b, h1, ho.at h2 (hd b ((h3 b).2 rfl)), h3⟩
  lt h hk := by
    obtain ⟨b, h1, h2, h3⟩ := h
    rw [(h3 _).1 hk]
    exact lt_of_block h2

theorem St.block {B : Nat} {w0 w : World} {r : List Thing} {v : Value} {n : Nat} {cs : Array Value} {t : TypeId} (h : St B w0 w (blockT v n cs t :: r)) : ∃ b, v = .slice (some ⟨b, 0, none⟩) n n ∧ w.heap[b]? = some (.cells cs t (0, 0)) := by
  obtain ⟨S1, ⟨b, h1, h2, _⟩, _⟩ := h.sep
  exact ⟨b, h1, h2⟩

theorem St.addBlock {B : Nat} {w0 w : World} {r : List Thing} (h : St B w0 w r) (n : Nat) (cs : Array Value) (t : TypeId) : St B w0 (w.alloc (.cells cs t)) (blockT (.slice (some ⟨w.heap.size, 0, none⟩) n n) n cs t :: r) :=
  h.add (S := fun k => k = w.heap.size) (below_alloc w _) ⟨_, rfl, heap_alloc_new w _, fun _ => Iff.rfl⟩ (fun k hk => by omega)

theorem exec_append {P : Program} {o : Oper} {a : Act} {w w' : World} {s x : Operand} {t : TypeId} {v ad v' : Value} (ho : o.op = .call { callee := .builtin .append, args := #[s, x], argTypes := #[t, t] }) (hs : a.eval s = v) (hx : a.eval x = ad)
    (hr : (Builtin.append_ #[t, t] o.type #[v, ad]).run P w = .ok v' w') : (execOp a.eval o).run P w = .ok (.value v') w' := by
  unfold execOp
  simp only [ho, resolve, invoke, builtin, Sem.run_bind, Sem.run_pure, Result.andThen_ok, List.map_toArray, List.map_cons, List.map_nil, hs, hx, hr]

end Go.Proofs.Ytpolbpjclklgbaa
