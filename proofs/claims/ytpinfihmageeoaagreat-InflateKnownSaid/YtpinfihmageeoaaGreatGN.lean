/-
  InfP InfQ InfR, one behind the other (merged by wip/merge.py). No conditions but those that each states.
-/
import Derived.Test.YtpinfihmageeoaaGreatGV
import Derived.Test.YtpinfihmageeoaaGreatGS

namespace Go.Proofs.YtpinfihmageeoaaGreat.Inf
open Kraft Hd


structure Sees (R S : List Bool) (d q : Nat) : Prop where
  here : q ≤ R.length
  there : q + d ≤ S.length
  same : (S.drop d).take q = R.take q

theorem Sees.mono {R S : List Bool} {d q q' : Nat} (h : Sees R S d q) (hq : q' ≤ q) : Sees R S d q' :=
  ⟨Nat.le_trans hq h.here, Nat.le_trans (Nat.add_le_add_right hq d) h.there, by
    have := congrArg (List.take q') h.same
    rwa [List.take_take, List.take_take, Nat.min_eq_left hq] at this⟩

theorem Sees.more (R S : List Bool) : Sees R (R ++ S) 0 R.length := ⟨Nat.le_refl _, by simp, by rw [List.drop_zero, List.take_left, List.take_length]⟩
theorem Sees.less (R : List Bool) (k : Nat) : Sees (R.take k) R 0 (R.take k).length := by
  have h := Sees.more (R.take k) (R.drop k)
  rwa [List.take_append_drop] at h
theorem Sees.ahead (A R : List Bool) : Sees R (A ++ R) A.length R.length := ⟨Nat.le_refl _, by rw [List.length_append]; omega, by rw [List.drop_left, List.take_length]⟩
theorem Sees.of_take {R S : List Bool} {q : Nat} (hr : q ≤ R.length) (hs : q ≤ S.length) (h : S.take q = R.take q) : Sees R S 0 q := ⟨hr, hs, by rw [List.drop_zero]; exact h⟩

theorem Sees.at {R S : List Bool} {d q p n : Nat} (h : Sees R S d q) (hp : p + n ≤ q) : (S.drop (p + d)).take n = (R.drop p).take n := by
  have e := congrArg (fun l => (l.drop p).take n) h.same
  simp only [List.drop_take, List.drop_drop, List.take_take] at e
  rw [Nat.add_comm d p, show min n (q - p) = n from by omega] at e
  exact e

theorem nm_sees {R S : List Bool} {d q p n : Nat} (h : Sees R S d q) (hp : p + n ≤ q) : nm S (p + d) n = nm R p n := by
  unfold nm
  rw [h.at hp]

theorem seek_take : ∀ (f : Leads) (l l' : List Bool) (a n : Nat), (seek f a n l).2.2 = 0 → (seek f a n l).1 ≤ l'.length → l'.take (seek f a n l).1 = l.take (seek f a n l).1 → seek f a n l' = seek f a n l
  | f, [], l', a, n, h, _, _ => by
    cases e : f a n with
    | none => rw [seek_none e] at h; cases h
    | some s =>
      by_cases hs : s = -1
      · subst hs; rw [seek_end e] at h; cases h
      · rw [seek_sym e hs, seek_sym e hs]
  | f, b :: r, l', a, n, h, hl, ht => by
    cases e : f a n with
    | none => rw [seek_none e] at h; cases h
    | some s =>
      by_cases hs : s = -1
      · subst hs
        rw [seek_on e] at h hl ht ⊢
        cases l' with
        | nil => simp at hl
        | cons b' r' =>
          simp only [List.take_succ_cons, List.cons.injEq] at ht
          obtain ⟨rfl, ht⟩ := ht
          rw [seek_on e, seek_take f r r' _ _ h (by simpa using hl) ht]
      · rw [seek_sym e hs, seek_sym e hs]

def symAt (L : List Nat) (R : List Bool) (p : Nat) : Option (Nat × Nat) :=
  if (seek (tab L L.length) 0 0 (R.drop p)).2.2 ≠ 0 then none else some ((seek (tab L L.length) 0 0 (R.drop p)).2.1.toNat, p + (seek (tab L L.length) 0 0 (R.drop p)).1)

theorem symAt_le {L : List Nat} {R : List Bool} {p c p' : Nat} (h : symAt L R p = some (c, p')) : p < p' ∧ p' ≤ R.length := by
  unfold symAt at h
  split at h
  · cases h
  · rename_i h0
    have h1 := (Prod.mk.inj (Option.some.inj h)).2
    have hle := seek_le (tab L L.length) (R.drop p) 0 0
    rw [List.length_drop] at hle
    have hpos : 0 < (seek (tab L L.length) 0 0 (R.drop p)).1 := by
      cases e : tab L L.length 0 0 with
      | none => rw [seek_none e] at h0; exact absurd (by decide) h0
      | some v =>
        rcases tab_some _ _ _ _ e with ⟨k, _, h2, _, h3, _⟩ | ⟨rfl, _⟩
        · omega
        · cases hd : R.drop p with
          | nil => rw [hd, seek_end e] at h0; exact absurd (by decide) h0
          | cons b r => rw [seek_on e]; exact Nat.succ_pos _
    omega

theorem symAt_in {L : List Nat} {R : List Bool} {p c p' : Nat} (h : symAt L R p = some (c, p')) : c < L.length ∧ 0 < len L c := by
  unfold symAt at h
  split at h
  · cases h
  · rename_i h0
    have h1 := (Prod.mk.inj (Option.some.inj h)).1
    obtain ⟨k, h3, h4, h5⟩ := seek_in _ (tab_in L) (R.drop p) 0 0 (by omega)
    rw [h5, Int.toNat_natCast] at h1
    subst h1
    exact ⟨h3, h4⟩

theorem symAt_sees {L : List Nat} {R S : List Bool} {p c p' d q : Nat} (h : symAt L R p = some (c, p')) (hs : Sees R S d q) (hq : p' ≤ q) : symAt L S (p + d) = some (c, p' + d) := by
  unfold symAt at h ⊢
  split at h
  · cases h
  · rename_i h0
    obtain ⟨h1, h2⟩ := Prod.mk.inj (Option.some.inj h)
    have hle := seek_le (tab L L.length) (R.drop p) 0 0
    have e := seek_take (tab L L.length) (R.drop p) (S.drop (p + d)) 0 0 (by omega) (by rw [List.length_drop]; have := hs.there; omega) (hs.at (by omega))
    rw [e, if_neg h0, h1]
    congr 2
    omega

def numAt (R : List Bool) (p n : Nat) : Option (Nat × Nat) := if R.length < p + n then none else some (nm R p n, p + n)

theorem numAt_le {R : List Bool} {p n x p' : Nat} (h : numAt R p n = some (x, p')) : p' = p + n ∧ p' ≤ R.length ∧ x = nm R p n := by
  unfold numAt at h
  split at h
  · cases h
  · obtain ⟨h1, h2⟩ := Prod.mk.inj (Option.some.inj h)
    omega

theorem numAt_sees {R S : List Bool} {p n x p' d q : Nat} (h : numAt R p n = some (x, p')) (hs : Sees R S d q) (hq : p' ≤ q) : numAt S (p + d) n = some (x, p' + d) := by
  obtain ⟨rfl, h2, rfl⟩ := numAt_le h
  unfold numAt
  have := hs.there
  rw [if_neg (by omega), nm_sees hs hq]
  congr 2
  omega


def lenL (c : Nat) : Nat := (Tok.lenS.getD (c - 257) (0, 0)).1
def lenB (c : Nat) : Nat := (Tok.lenS.getD (c - 257) (0, 0)).2
def disL (d : Nat) : Nat := (Tok.disS.getD d (0, 0)).1
def disB (d : Nat) : Nat := (Tok.disS.getD d (0, 0)).2

def farAt (Q : List Nat) (R : List Bool) (p : Nat) : Option (Nat × Nat) :=
  (symAt Q R p).bind fun d => if 29 < d.1 then none else (numAt R d.2 (disB d.1)).bind fun y => some (disL d.1 + y.1, y.2)

def step (P Q : List Nat) (R : List Bool) (p : Nat) (out : List Nat) : Option (Bool × Nat × List Nat) :=
  (symAt P R p).bind fun c =>
    if c.1 = 256 then some (true, c.2, out) else if c.1 < 256 then some (false, c.2, out ++ [c.1]) else if 285 < c.1 then none else
      (numAt R c.2 (lenB c.1)).bind fun x => (farAt Q R x.2).bind fun y => if out.length < y.1 then none else some (false, y.2, Tok.rep y.1 (lenL c.1 + x.1) out)

theorem disL_pos (d : Nat) (hd : d ≤ 29) : 1 ≤ disL d := by
  have : ∀ d, d ≤ 29 → 1 ≤ (Tok.disS.getD d (0, 0)).1 := by rw [Tok.disS_eq]; decide
  exact this d hd

theorem lenL_pos (c : Nat) (h1 : 256 < c) (h2 : c ≤ 285) : 3 ≤ lenL c := by
  have : ∀ i, i ≤ 28 → 3 ≤ (Tok.lenS.getD i (0, 0)).1 := by rw [Tok.lenS_eq]; decide
  exact this (c - 257) (by omega)

theorem farAt_some {Q : List Nat} {R : List Bool} {p f p' : Nat} (h : farAt Q R p = some (f, p')) : p < p' ∧ p' ≤ R.length ∧ 1 ≤ f := by
  unfold farAt at h
  obtain ⟨⟨d, p1⟩, h1, h2⟩ := Option.bind_eq_some_iff.1 h
  simp only at h2
  split at h2
  · cases h2
  · rename_i hd
    obtain ⟨⟨y, p2⟩, h3, h4⟩ := Option.bind_eq_some_iff.1 h2
    obtain ⟨e1, e2⟩ := Prod.mk.inj (Option.some.inj h4)
    simp only at e1 e2
    have g1 := symAt_le h1
    have g2 := numAt_le h3
    have g3 := disL_pos d (by omega)
    omega

theorem farAt_sees {Q : List Nat} {R S : List Bool} {p f p' d q : Nat} (h : farAt Q R p = some (f, p')) (hs : Sees R S d q) (hq : p' ≤ q) : farAt Q S (p + d) = some (f, p' + d) := by
  unfold farAt at h ⊢
  obtain ⟨⟨c, p1⟩, h1, h2⟩ := Option.bind_eq_some_iff.1 h
  simp only at h2
  split at h2
  · cases h2
  · rename_i hd
    obtain ⟨⟨y, p2⟩, h3, h4⟩ := Option.bind_eq_some_iff.1 h2
    obtain ⟨e1, e2⟩ := Prod.mk.inj (Option.some.inj h4)
    simp only at e1 e2
    have g2 := numAt_le h3
    rw [symAt_sees h1 hs (by omega)]
    simp only [Option.bind_some]
    rw [if_neg hd, numAt_sees h3 hs (by omega)]
    simp only [Option.bind_some]
    rw [e1, e2]

theorem rep_ahead (d : Nat) (hd : 1 ≤ d) (pre : List Nat) : ∀ (n : Nat) (out : List Nat), d ≤ out.length → Tok.rep d n (pre ++ out) = pre ++ Tok.rep d n out
  | 0, _, _ => rfl
  | n + 1, out, h => by
    rw [Tok.rep, Tok.rep, ← rep_ahead d hd pre n _ (by rw [List.length_append]; omega), List.append_assoc]
    congr 3
    rw [List.length_append]
    simp only [List.getD_eq_getElem?_getD]
    rw [List.getElem?_append_right (by omega)]
    congr 3
    omega

theorem step_some {P Q : List Nat} {R : List Bool} {p p' : Nat} {out out' : List Nat} {b : Bool} (h : step P Q R p out = some (b, p', out')) :
    p < p' ∧ p' ≤ R.length ∧ (b = true → out' = out) ∧ (b = false → out.length < out'.length ∧ out'.take out.length = out) := by
  unfold step at h
  obtain ⟨⟨c, p1⟩, h1, h2⟩ := Option.bind_eq_some_iff.1 h
  have g1 := symAt_le h1
  simp only at h2
  split at h2
  · obtain ⟨e1, e2⟩ := Prod.mk.inj (Option.some.inj h2)
    obtain ⟨e2, e3⟩ := Prod.mk.inj e2
    subst e1 e2 e3
    exact ⟨g1.1, g1.2, fun _ => rfl, fun h => by cases h⟩
  · split at h2
    · obtain ⟨e1, e2⟩ := Prod.mk.inj (Option.some.inj h2)
      obtain ⟨e2, e3⟩ := Prod.mk.inj e2
      subst e1 e2 e3
      exact ⟨g1.1, g1.2, fun h => (by cases h), fun _ => ⟨by simp, by simp⟩⟩
    · split at h2
      · cases h2
      · rename_i c1 c2 c3
        obtain ⟨⟨x, p2⟩, h3, h4⟩ := Option.bind_eq_some_iff.1 h2
        obtain ⟨⟨f, p3⟩, h5, h6⟩ := Option.bind_eq_some_iff.1 h4
        simp only at h6
        split at h6
        · cases h6
        · rename_i hf
          obtain ⟨e1, e2⟩ := Prod.mk.inj (Option.some.inj h6)
          obtain ⟨e2, e3⟩ := Prod.mk.inj e2
          subst e1 e2 e3
          have g2 := numAt_le h3
          have g3 := farAt_some h5
          have g4 := lenL_pos c (by omega) (by omega)
          refine ⟨by omega, by omega, fun h => (by cases h), fun _ => ⟨by rw [Tok.rep_length]; omega, ?_⟩⟩
          have := rep_begins f (lenL c + x) out
          exact this
where
  rep_begins (f : Nat) : ∀ (n : Nat) (out : List Nat), (Tok.rep f n out).take out.length = out
    | 0, out => by rw [Tok.rep, List.take_length]
    | n + 1, out => by
      rw [Tok.rep]
      have h := rep_begins f n (out ++ [out.getD (out.length - f) 0])
      have h2 := congrArg (List.take out.length) h
      rw [List.take_take, List.length_append, Nat.min_eq_left (by omega), List.take_left] at h2
      exact h2

theorem step_sees {P Q : List Nat} {R S : List Bool} {p p' d q : Nat} {pre out out' : List Nat} {b : Bool} (h : step P Q R p out = some (b, p', out')) (hs : Sees R S d q) (hq : p' ≤ q) :
    step P Q S (p + d) (pre ++ out) = some (b, p' + d, pre ++ out') := by
  unfold step at h ⊢
  obtain ⟨⟨c, p1⟩, h1, h2⟩ := Option.bind_eq_some_iff.1 h
  simp only at h2
  split at h2
  · rename_i c1
    obtain ⟨e1, e2⟩ := Prod.mk.inj (Option.some.inj h2)
    obtain ⟨e2, e3⟩ := Prod.mk.inj e2
    subst e1 e2 e3
    rw [symAt_sees h1 hs hq]
    simp only [Option.bind_some]
    rw [if_pos c1]
  · rename_i c1
    split at h2
    · rename_i c2
      obtain ⟨e1, e2⟩ := Prod.mk.inj (Option.some.inj h2)
      obtain ⟨e2, e3⟩ := Prod.mk.inj e2
      subst e1 e2 e3
      rw [symAt_sees h1 hs hq]
      simp only [Option.bind_some]
      rw [if_neg c1, if_pos c2, List.append_assoc]
    · rename_i c2
      split at h2
      · cases h2
      · rename_i c3
        obtain ⟨⟨x, p2⟩, h3, h4⟩ := Option.bind_eq_some_iff.1 h2
        obtain ⟨⟨f, p3⟩, h5, h6⟩ := Option.bind_eq_some_iff.1 h4
        simp only at h6
        split at h6
        · cases h6
        · rename_i hf
          obtain ⟨e1, e2⟩ := Prod.mk.inj (Option.some.inj h6)
          obtain ⟨e2, e3⟩ := Prod.mk.inj e2
          subst e1 e2 e3
          have g2 := numAt_le h3
          have g3 := farAt_some h5
          rw [symAt_sees h1 hs (by omega)]
          simp only [Option.bind_some]
          rw [if_neg c1, if_neg c2, if_neg c3, numAt_sees h3 hs (by omega)]
          simp only [Option.bind_some]
          rw [farAt_sees h5 hs hq]
          simp only [Option.bind_some]
          rw [if_neg (by rw [List.length_append]; omega), rep_ahead f g3.2.2 pre _ out (by omega)]

set_option linter.unusedVariables false in
def syms (P Q : List Nat) (R : List Bool) (p : Nat) (out : List Nat) : Option (Nat × List Nat) :=
  if hp : R.length ≤ p then none else
  match h : step P Q R p out with
  | none => none
  | some (true, p', out') => some (p', out')
  | some (false, p', out') => syms P Q R p' out'
termination_by R.length - p
decreasing_by
  have := (step_some h).1
  omega

theorem syms_none {P Q : List Nat} {R : List Bool} {p : Nat} {out : List Nat} (h : step P Q R p out = none) : syms P Q R p out = none := by
  rw [syms]
  split
  · rfl
  · split
    · rfl
    · rename_i h'; rw [h] at h'; cases h'
    · rename_i h'; rw [h] at h'; cases h'

theorem syms_over {P Q : List Nat} {R : List Bool} {p : Nat} {out : List Nat} (h : R.length ≤ p) : syms P Q R p out = none := by
  rw [syms, dif_pos h]

theorem syms_end {P Q : List Nat} {R : List Bool} {p p' : Nat} {out out' : List Nat} (hp : p < R.length) (h : step P Q R p out = some (true, p', out')) : syms P Q R p out = some (p', out') := by
  rw [syms, dif_neg (by omega)]
  split
  · rename_i h'; rw [h] at h'; cases h'
  · rename_i h'; rw [h] at h'
    obtain ⟨_, e2⟩ := Prod.mk.inj (Option.some.inj h')
    obtain ⟨rfl, rfl⟩ := Prod.mk.inj e2
    rfl
  · rename_i h'; rw [h] at h'
    have := (Prod.mk.inj (Option.some.inj h')).1
    cases this

theorem syms_on {P Q : List Nat} {R : List Bool} {p p' : Nat} {out out' : List Nat} (hp : p < R.length) (h : step P Q R p out = some (false, p', out')) : syms P Q R p out = syms P Q R p' out' := by
  conv => lhs; rw [syms, dif_neg (by omega)]
  split
  · rename_i h'; rw [h] at h'; cases h'
  · rename_i h'; rw [h] at h'
    have := (Prod.mk.inj (Option.some.inj h')).1
    cases this
  · rename_i h'; rw [h] at h'
    obtain ⟨_, e2⟩ := Prod.mk.inj (Option.some.inj h')
    obtain ⟨rfl, rfl⟩ := Prod.mk.inj e2
    rfl

theorem syms_ind {P Q : List Nat} {R : List Bool} {C : Nat → List Nat → Nat → List Nat → Prop} (hend : ∀ p p' out out', p < R.length → step P Q R p out = some (true, p', out') → C p out p' out')
    (hon : ∀ p p' out out' q o, p < R.length → step P Q R p out = some (false, p', out') → syms P Q R p' out' = some (q, o) → C p' out' q o → C p out q o) :
    ∀ (m p : Nat) (out : List Nat) (q : Nat) (o : List Nat), R.length - p ≤ m → syms P Q R p out = some (q, o) → C p out q o
  | m, p, out, q, o, hm, h => by
    by_cases hp : R.length ≤ p
    · rw [syms_over hp] at h; cases h
    · cases e : step P Q R p out with
      | none => rw [syms_none e] at h; cases h
      | some x =>
        obtain ⟨b, p', out'⟩ := x
        cases b with
        | true =>
          rw [syms_end (by omega) e] at h
          obtain ⟨rfl, rfl⟩ := Prod.mk.inj (Option.some.inj h)
          exact hend _ _ _ _ (by omega) e
        | false =>
          rw [syms_on (by omega) e] at h
          have hlt := (step_some e).1
          cases m with
          | zero => omega
          | succ m => exact hon _ _ _ _ _ _ (by omega) e h (syms_ind hend hon m p' out' q o (by omega) h)

theorem syms_some {P Q : List Nat} {R : List Bool} {p q : Nat} {out o : List Nat} (h : syms P Q R p out = some (q, o)) : p < q ∧ q ≤ R.length ∧ o.take out.length = out := by
  refine syms_ind (C := fun p out q o => p < q ∧ q ≤ R.length ∧ o.take out.length = out) ?_ ?_ _ p out q o (Nat.le_refl _) h
  · intro p p' out out' hp h
    obtain ⟨h1, h2, h3, _⟩ := step_some h
    rw [h3 rfl]
    exact ⟨h1, by omega, List.take_length⟩
  · intro p p' out out' q o hp h _ ⟨g1, g2, g3⟩
    obtain ⟨h1, h2, _, h4⟩ := step_some h
    obtain ⟨h5, h6⟩ := h4 rfl
    refine ⟨by omega, g2, ?_⟩
    have e := congrArg (List.take out.length) g3
    rw [List.take_take, Nat.min_eq_left (by omega), h6] at e
    exact e

theorem syms_sees {P Q : List Nat} {R S : List Bool} {p q d k : Nat} {pre out o : List Nat} (h : syms P Q R p out = some (q, o)) (hs : Sees R S d k) (hq : q ≤ k) :
    syms P Q S (p + d) (pre ++ out) = some (q + d, pre ++ o) := by
  refine syms_ind (C := fun p out q o => q ≤ k → syms P Q S (p + d) (pre ++ out) = some (q + d, pre ++ o)) ?_ ?_ _ p out q o (Nat.le_refl _) h hq
  · intro p p' out out' hp h hq
    have h1 := step_some h
    have := hs.there
    exact syms_end (by omega) (step_sees h hs hq)
  · intro p p' out out' q o hp h hy ih hq
    have h1 := step_some h
    have h2 := syms_some hy
    have := hs.there
    rw [syms_on (by omega) (step_sees (pre := pre) h hs (by omega)), ih hq]


def up8 (p : Nat) : Nat := p + (8 - p % 8) % 8

theorem up8_le (p : Nat) : p ≤ up8 p ∧ up8 p < p + 8 ∧ up8 p % 8 = 0 := by unfold up8; omega
theorem up8_add (p d : Nat) (h : d % 8 = 0) : up8 (p + d) = up8 p + d := by unfold up8; omega

def bytesAt (R : List Bool) (p n : Nat) : List Nat := (List.range n).map fun i => nm R (p + 8 * i) 8

theorem bytesAt_length (R : List Bool) (p n : Nat) : (bytesAt R p n).length = n := by simp [bytesAt]
theorem bytesAt_sees {R S : List Bool} {d q p n : Nat} (h : Sees R S d q) (hp : p + 8 * n ≤ q) : bytesAt S (p + d) n = bytesAt R p n := by
  unfold bytesAt
  refine List.map_congr_left fun i hi => ?_
  have := List.mem_range.1 hi
  rw [show p + d + 8 * i = (p + 8 * i) + d from by omega, nm_sees h (by omega)]

def storedAt (R : List Bool) (p : Nat) (out : List Nat) : Option (Nat × List Nat) :=
  if R.length < up8 p + 32 then none else if nm R (up8 p + 16) 16 ≠ 65535 - nm R (up8 p) 16 then none else
  if R.length < up8 p + 32 + 8 * nm R (up8 p) 16 then none else some (up8 p + 32 + 8 * nm R (up8 p) 16, out ++ bytesAt R (up8 p + 32) (nm R (up8 p) 16))

theorem stored_some {R : List Bool} {p q : Nat} {out o : List Nat} (h : storedAt R p out = some (q, o)) :
    q = up8 p + 32 + 8 * nm R (up8 p) 16 ∧ q ≤ R.length ∧ o = out ++ bytesAt R (up8 p + 32) (nm R (up8 p) 16) ∧ nm R (up8 p + 16) 16 = 65535 - nm R (up8 p) 16 := by
  unfold storedAt at h
  split at h
  · cases h
  · split at h
    · cases h
    · split at h
      · cases h
      · obtain ⟨rfl, rfl⟩ := Prod.mk.inj (Option.some.inj h)
        rename_i h1 h2 h3
        exact ⟨rfl, by omega, rfl, by omega⟩

theorem stored_sees {R S : List Bool} {p q d k : Nat} {pre out o : List Nat} (h : storedAt R p out = some (q, o)) (hs : Sees R S d k) (hq : q ≤ k) (hd : d % 8 = 0) : storedAt S (p + d) (pre ++ out) = some (q + d, pre ++ o) := by
  obtain ⟨h1, h2, h3, h4⟩ := stored_some h
  have ht := hs.there
  unfold storedAt
  rw [up8_add p d hd]
  have e1 : nm S (up8 p + d) 16 = nm R (up8 p) 16 := nm_sees hs (by omega)
  have e2 : nm S (up8 p + d + 16) 16 = nm R (up8 p + 16) 16 := by rw [show up8 p + d + 16 = up8 p + 16 + d from by omega]; exact nm_sees hs (by omega)
  have e3 : bytesAt S (up8 p + d + 32) (nm R (up8 p) 16) = bytesAt R (up8 p + 32) (nm R (up8 p) 16) := by rw [show up8 p + d + 32 = up8 p + 32 + d from by omega]; exact bytesAt_sees hs (by omega)
  rw [e1, e2, e3, if_neg (by omega), if_neg (by omega), if_neg (by omega), h3, List.append_assoc, h1]
  congr 2
  omega

def fixP : List Nat := List.replicate 144 8 ++ List.replicate 112 9 ++ List.replicate 24 7 ++ List.replicate 8 8
def fixQ : List Nat := List.replicate 32 5

def blockAt (R : List Bool) (p : Nat) (out : List Nat) : Option (Bool × Nat × List Nat) :=
  if R.length < p + 3 then none else
  (if nm R (p + 1) 2 = 0 then storedAt R (p + 3) out else if nm R (p + 1) 2 = 1 then syms fixP fixQ R (p + 3) out else
    if nm R (p + 1) 2 = 2 then (headAt R (p + 3)).bind fun y => syms y.1 y.2.1 R y.2.2 out else none).map fun x => (decide (nm R p 1 = 1), x)

theorem lensTo_sees {R S : List Bool} {d q p : Nat} (h : Sees R S d q) : ∀ i, p + 3 * i ≤ q → lensTo S (p + d) i = lensTo R p i
  | 0, _ => rfl
  | i + 1, hi => by rw [lensTo, lensTo, lensTo_sees h i (by omega), show p + d + 3 * i = p + 3 * i + d from by omega, nm_sees h (by omega)]

theorem one_sees {L : List Nat} {R S : List Bool} {p p' d q : Nat} {s : Nat × Nat} (h : oneSign L R p = some (s, p')) (hs : Sees R S d q) (hq : p' ≤ q) : oneSign L S (p + d) = some (s, p' + d) := by
  unfold oneSign at h ⊢
  split at h
  · cases h
  · rename_i h0
    split at h
    · cases h
    · rename_i h1
      obtain ⟨e1, e2⟩ := Prod.mk.inj (Option.some.inj h)
      have hle := seek_le (tab L L.length) (R.drop p) 0 0
      have ht := hs.there
      have e := seek_take (tab L L.length) (R.drop p) (S.drop (p + d)) 0 0 (by omega) (by rw [List.length_drop]; omega) (hs.at (by omega))
      rw [e, if_neg h0, if_neg (by omega), ← e1, show p + d + (seek (tab L L.length) 0 0 (R.drop p)).1 = p + (seek (tab L L.length) 0 0 (R.drop p)).1 + d from by omega, nm_sees hs (by omega)]
      congr 2
      omega

theorem signs_sees {L : List Nat} {R S : List Bool} {d q : Nat} (hs : Sees R S d q) : ∀ (m n p : Nat), n ≤ m → p ≤ R.length → ∀ x, signsFrom L R n p = some x → x.2 ≤ q → signsFrom L S n (p + d) = some (x.1, x.2 + d)
  | m, n, p, hn, hp, x, h, hq => by
    by_cases h0 : n = 0
    · subst h0
      rw [signs_end] at h ⊢
      rw [← Option.some.inj h]
    · cases e : oneSign L R p with
      | none => rw [signs_none (by omega) e] at h; cases h
      | some s =>
        obtain ⟨s, p'⟩ := s
        rw [signs_on (by omega) e, Option.map_eq_some_iff] at h
        obtain ⟨y, hy, hx⟩ := h
        have hp' := one_le e
        have ht := Rep.times_pos s
        have hle := signs_le L R _ _ _ (Nat.le_refl _) hp'.1 y hy
        cases m with
        | zero => omega
        | succ m =>
          rw [← hx] at hq
          rw [signs_on (by omega) (one_sees e hs (by simp only at hq; omega)), signs_sees hs m (n - Rep.times s) p' (by omega) hp'.1 y hy hq, ← hx]
          rfl

theorem head_sees {R S : List Bool} {p d q : Nat} {y : List Nat × List Nat × Nat} (h : headAt R p = some y) (hs : Sees R S d q) (hq : y.2.2 ≤ q) : headAt S (p + d) = some (y.1, y.2.1, y.2.2 + d) := by
  have ht := hs.there
  unfold headAt at h ⊢
  split at h
  · cases h
  · rename_i h0
    split at h
    · cases h
    · rename_i h1
      split at h
      · cases h
      · rename_i h2
        obtain ⟨x, hx, hy⟩ := Option.bind_eq_some_iff.1 h
        have h3 := signs_le _ R _ _ _ (Nat.le_refl _) (by omega) _ hx
        have h4 := headOf_at hy
        rw [h4.1] at hq
        have e1 : na S (p + d) = na R p := by unfold na; rw [nm_sees hs (by omega)]
        have e2 : nb S (p + d) = nb R p := by unfold nb; rw [show p + d + 5 = p + 5 + d from by omega, nm_sees hs (by omega)]
        have e3 : nz S (p + d) = nz R p := by unfold nz; rw [show p + d + 10 = p + 10 + d from by omega, nm_sees hs (by omega)]
        have e4 : lensTo S (p + d + 14) (nz R p) = lensTo R (p + 14) (nz R p) := by rw [show p + d + 14 = p + 14 + d from by omega]; exact lensTo_sees hs _ (by omega)
        rw [e1, e2, e3, e4, if_neg (by omega), if_neg (by omega), if_neg h2, show p + d + 14 + 3 * nz R p = p + 14 + 3 * nz R p + d from by omega,
          signs_sees hs _ _ _ (Nat.le_refl _) (by omega) x hx hq, Option.bind_some]
        unfold headOf at hy ⊢
        simp only
        split at hy
        · cases hy
        · rename_i out ho
          split at hy
          · rename_i hm
            rw [if_pos hm]
            rw [← Option.some.inj hy]
          · cases hy

theorem block_some {R : List Bool} {p q : Nat} {b : Bool} {out o : List Nat} (h : blockAt R p out = some (b, q, o)) : p < q ∧ q ≤ R.length ∧ o.take out.length = out := by
  unfold blockAt at h
  split at h
  · cases h
  · obtain ⟨x, hx, e⟩ := Option.map_eq_some_iff.1 h
    obtain ⟨_, e⟩ := Prod.mk.inj e
    subst e
    split at hx
    · obtain ⟨h1, h2, h3, _⟩ := stored_some hx
      have := up8_le (p + 3)
      refine ⟨by omega, h2, by rw [h3, List.take_left]⟩
    · split at hx
      · have := syms_some hx
        exact ⟨by omega, this.2⟩
      · split at hx
        · obtain ⟨y, hy, hz⟩ := Option.bind_eq_some_iff.1 hx
          have h1 := syms_some hz
          have h2 := head_more hy []
          exact ⟨by omega, h1.2⟩
        · cases hx

theorem block_sees {R S : List Bool} {p q d k : Nat} {b : Bool} {pre out o : List Nat} (h : blockAt R p out = some (b, q, o)) (hs : Sees R S d k) (hq : q ≤ k) (hd : d % 8 = 0) : blockAt S (p + d) (pre ++ out) = some (b, q + d, pre ++ o) := by
  have hb := block_some h
  have ht := hs.there
  unfold blockAt at h ⊢
  split at h
  · cases h
  · rename_i h0
    obtain ⟨x, hx, e⟩ := Option.map_eq_some_iff.1 h
    obtain ⟨e0, e⟩ := Prod.mk.inj e
    subst e
    have hlow : p + 3 ≤ q := by
      split at hx
      · have := stored_some hx; have := up8_le (p + 3); omega
      · split at hx
        · have := syms_some hx; omega
        · split at hx
          · obtain ⟨y, hy, hz⟩ := Option.bind_eq_some_iff.1 hx
            have h1 := syms_some hz
            have h2 := head_more hy []
            omega
          · cases hx
    have e1 : nm S (p + d) 1 = nm R p 1 := nm_sees hs (by omega)
    have e2 : nm S (p + d + 1) 2 = nm R (p + 1) 2 := by rw [show p + d + 1 = p + 1 + d from by omega]; exact nm_sees hs (by omega)
    rw [e1, e2, if_neg (by omega), show p + d + 3 = p + 3 + d from by omega, e0]
    split at hx
    · rename_i c0
      rw [if_pos c0, stored_sees hx hs hq hd]
      rfl
    · rename_i c0
      rw [if_neg c0]
      split at hx
      · rename_i c1
        rw [if_pos c1, syms_sees hx hs hq]
        rfl
      · rename_i c1
        rw [if_neg c1]
        split at hx
        · rename_i c2
          obtain ⟨y, hy, hz⟩ := Option.bind_eq_some_iff.1 hx
          have h1 := syms_some hz
          rw [if_pos c2, head_sees hy hs (by omega), Option.bind_some, syms_sees hz hs hq]
          rfl
        · cases hx


set_option linter.unusedVariables false in
def strm (R : List Bool) (p : Nat) (out : List Nat) : Option (Nat × List Nat) :=
  match h : blockAt R p out with
  | none => none
  | some (true, q, o) => some (q, o)
  | some (false, q, o) => strm R q o
termination_by R.length - p
decreasing_by
  have := block_some h
  omega

theorem strm_none {R : List Bool} {p : Nat} {out : List Nat} (h : blockAt R p out = none) : strm R p out = none := by
  rw [strm]
  split
  · rfl
  · rename_i h'; rw [h] at h'; cases h'
  · rename_i h'; rw [h] at h'; cases h'

theorem strm_end {R : List Bool} {p q : Nat} {out o : List Nat} (h : blockAt R p out = some (true, q, o)) : strm R p out = some (q, o) := by
  rw [strm]
  split
  · rename_i h'; rw [h] at h'; cases h'
  · rename_i h'; rw [h] at h'
    obtain ⟨_, e2⟩ := Prod.mk.inj (Option.some.inj h')
    obtain ⟨rfl, rfl⟩ := Prod.mk.inj e2
    rfl
  · rename_i h'; rw [h] at h'
    have := (Prod.mk.inj (Option.some.inj h')).1
    cases this

theorem strm_on {R : List Bool} {p q : Nat} {out o : List Nat} (h : blockAt R p out = some (false, q, o)) : strm R p out = strm R q o := by
  conv => lhs; rw [strm]
  split
  · rename_i h'; rw [h] at h'; cases h'
  · rename_i h'; rw [h] at h'
    have := (Prod.mk.inj (Option.some.inj h')).1
    cases this
  · rename_i h'; rw [h] at h'
    obtain ⟨_, e2⟩ := Prod.mk.inj (Option.some.inj h')
    obtain ⟨rfl, rfl⟩ := Prod.mk.inj e2
    rfl

theorem strm_ind {R : List Bool} {C : Nat → List Nat → Nat → List Nat → Prop} (hend : ∀ p q out o, blockAt R p out = some (true, q, o) → C p out q o)
    (hon : ∀ p p' out out' q o, blockAt R p out = some (false, p', out') → strm R p' out' = some (q, o) → C p' out' q o → C p out q o) :
    ∀ (m p : Nat) (out : List Nat) (q : Nat) (o : List Nat), R.length - p ≤ m → strm R p out = some (q, o) → C p out q o
  | m, p, out, q, o, hm, h => by
    cases e : blockAt R p out with
    | none => rw [strm_none e] at h; cases h
    | some x =>
      obtain ⟨b, p', out'⟩ := x
      cases b with
      | true =>
        rw [strm_end e] at h
        obtain ⟨rfl, rfl⟩ := Prod.mk.inj (Option.some.inj h)
        exact hend _ _ _ _ e
      | false =>
        rw [strm_on e] at h
        have hlt := block_some e
        cases m with
        | zero => omega
        | succ m => exact hon _ _ _ _ _ _ e h (strm_ind hend hon m p' out' q o (by omega) h)

theorem strm_some {R : List Bool} {p q : Nat} {out o : List Nat} (h : strm R p out = some (q, o)) : p < q ∧ q ≤ R.length ∧ o.take out.length = out := by
  refine strm_ind (C := fun p out q o => p < q ∧ q ≤ R.length ∧ o.take out.length = out) ?_ ?_ _ p out q o (Nat.le_refl _) h
  · intro p q out o h
    exact block_some h
  · intro p p' out out' q o h _ ⟨g1, g2, g3⟩
    obtain ⟨h1, h2, h3⟩ := block_some h
    refine ⟨by omega, g2, ?_⟩
    have hl : out.length ≤ out'.length := by have := congrArg List.length h3; rw [List.length_take] at this; omega
    have e := congrArg (List.take out.length) g3
    rw [List.take_take, Nat.min_eq_left hl, h3] at e
    exact e

theorem strm_sees {R S : List Bool} {p q d k : Nat} {pre out o : List Nat} (h : strm R p out = some (q, o)) (hs : Sees R S d k) (hq : q ≤ k) (hd : d % 8 = 0) : strm S (p + d) (pre ++ out) = some (q + d, pre ++ o) := by
  refine strm_ind (C := fun p out q o => q ≤ k → strm S (p + d) (pre ++ out) = some (q + d, pre ++ o)) ?_ ?_ _ p out q o (Nat.le_refl _) h hq
  · intro p q out o h hq
    exact strm_end (block_sees h hs hq hd)
  · intro p p' out out' q o h hy ih hq
    have h2 := strm_some hy
    rw [strm_on (block_sees (pre := pre) h hs (by omega) hd), ih hq]

theorem strm_same {R S : List Bool} {q k : Nat} {o : List Nat} (h : strm R 0 [] = some (q, o)) (hs : Sees R S 0 k) (hq : q ≤ k) : strm S 0 [] = some (q, o) := by
  have := strm_sees (pre := []) h hs hq rfl
  simpa using this

theorem strm_cut {R : List Bool} {q : Nat} {o : List Nat} (h : strm R 0 [] = some (q, o)) (k : Nat) (hk : k < q) : strm (R.take k) 0 [] = none := by
  cases e : strm (R.take k) 0 [] with
  | none => rfl
  | some x =>
    obtain ⟨q', o'⟩ := x
    have h1 := strm_some e
    have h2 := strm_same e (Sees.less R k) h1.2.1
    rw [h] at h2
    have := (Prod.mk.inj (Option.some.inj h2)).1
    have h3 := h1.2.1
    rw [List.length_take] at h3
    omega

end Go.Proofs.YtpinfihmageeoaaGreat.Inf

namespace Go.Proofs.YtpinfihmageeoaaGreat.Inf
open Kraft Hd

theorem sym_put {L : List Nat} (h20 : ∀ j, len L j ≤ 20) (hw : weight L ≤ 1048576) (A C : List Bool) (c : Nat) (hc : c < L.length) (h0 : 0 < len L c) (R : List Bool) (hR : R = A ++ wordBits L (c : Int) ++ C) (p : Nat) (hp : p = A.length) :
    symAt L R p = some (c, p + (wordBits L (c : Int)).length) := by
  subst hR hp
  have hl : (wordBits L (c : Int)).length = len L c := by rw [wordBits_length, bitsAtSym_nat]
  unfold symAt
  rw [List.append_assoc, List.drop_left, hl, wordBits_nat, seek_put h20 hw c hc h0, if_neg (by simp)]
  simp

theorem num_put (A C : List Bool) (x n : Nat) (hx : x < 2 ^ n) (R : List Bool) (hR : R = A ++ bitsOf x n ++ C) (p : Nat) (hp : p = A.length) : numAt R p n = some (x, p + (bitsOf x n).length) := by
  unfold numAt
  rw [if_neg (by rw [hR, hp]; simp only [List.length_append, bitsOf_length]; omega), nm_put A C x n hx R p hR hp, bitsOf_length]

theorem len_says (n : Nat) (h1 : 3 ≤ n) (h2 : n ≤ 258) : ∃ i, i ≤ 28 ∧ Tok.lenAns (n : Int) = (257 + i, lenB (257 + i), n - lenL (257 + i), 0) ∧ lenL (257 + i) ≤ n ∧ n - lenL (257 + i) < 2 ^ lenB (257 + i) := by
  have hlt := Tok.at_lt Tok.lenS n (by decide)
  have hs := Tok.at_says Tok.lenS n 258 Tok.rises_lenS Tok.close_lenS (by decide) h1 h2 (fun _ => by decide +revert)
  refine ⟨Tok.at_ Tok.lenS n, by have : Tok.lenS.length = 29 := Tok.lenS_length; omega, ?_⟩
  have e1 : lenL (257 + Tok.at_ Tok.lenS n) = (Tok.lenS[Tok.at_ Tok.lenS n]).1 := by
    unfold lenL
    rw [Nat.add_sub_cancel_left, List.getD_eq_getElem?_getD, List.getElem?_eq_getElem hlt]
    rfl
  have e2 : lenB (257 + Tok.at_ Tok.lenS n) = (Tok.lenS[Tok.at_ Tok.lenS n]).2 := by
    unfold lenB
    rw [Nat.add_sub_cancel_left, List.getD_eq_getElem?_getD, List.getElem?_eq_getElem hlt]
    rfl
  rw [e1, e2]
  exact ⟨Tok.ans_in Tok.lenS 3 258 257 n h1 h2 (by decide), hs.1, by omega⟩

theorem dis_says (n : Nat) (h1 : 1 ≤ n) (h2 : n ≤ 32768) : ∃ i, i ≤ 29 ∧ Tok.disAns (n : Int) = (i, disB i, n - disL i, 0) ∧ disL i ≤ n ∧ n - disL i < 2 ^ disB i := by
  have hlt := Tok.at_lt Tok.disS n (by decide)
  have hs := Tok.at_says Tok.disS n 32768 Tok.rises_disS Tok.close_disS (by decide) h1 h2 (fun _ => by decide +revert)
  refine ⟨Tok.at_ Tok.disS n, by have : Tok.disS.length = 30 := Tok.disS_length; omega, ?_⟩
  have e1 : disL (Tok.at_ Tok.disS n) = (Tok.disS[Tok.at_ Tok.disS n]).1 := by
    unfold disL
    rw [List.getD_eq_getElem?_getD, List.getElem?_eq_getElem hlt]
    rfl
  have e2 : disB (Tok.at_ Tok.disS n) = (Tok.disS[Tok.at_ Tok.disS n]).2 := by
    unfold disB
    rw [List.getD_eq_getElem?_getD, List.getElem?_eq_getElem hlt]
    rfl
  rw [e1, e2]
  have h := Tok.ans_in Tok.disS 1 32768 0 n h1 h2 (by decide)
  rw [Nat.zero_add] at h
  exact ⟨h, hs.1, by omega⟩

def tokBits (P Q : List Nat) (t : Tok.Tk) : List Bool :=
  if Tok.isB t then wordBits P (t.2.2 : Int) else
    wordBits P ((Tok.lenAns t.1).1 : Int) ++ bitsOf (Tok.lenAns t.1).2.2.1 (Tok.lenAns t.1).2.1 ++ (wordBits Q ((Tok.disAns t.2.1).1 : Int) ++ bitsOf (Tok.disAns t.2.1).2.2.1 (Tok.disAns t.2.1).2.1)

def Has (P Q : List Nat) (t : Tok.Tk) : Prop :=
  if Tok.isB t then t.2.2 < 256 ∧ t.2.2 < P.length ∧ 0 < len P t.2.2 else
    ((Tok.lenAns t.1).1 < P.length ∧ 0 < len P (Tok.lenAns t.1).1) ∧ (Tok.disAns t.2.1).1 < Q.length ∧ 0 < len Q (Tok.disAns t.2.1).1

structure Reads (L : List Nat) : Prop where
  low : ∀ j, len L j ≤ 20
  weigh : weight L ≤ 1048576

def tokOut (out : List Nat) (t : Tok.Tk) : List Nat := if Tok.isB t then out ++ [t.2.2] else Tok.rep t.2.1.toNat t.1.toNat out

theorem step_put {P Q : List Nat} (hP : Reads P) (hQ : Reads Q) (A C : List Bool) (t : Tok.Tk) (hm : Tok.may t = true) (hh : Has P Q t) (out : List Nat) (ho : Tok.isB t = true ∨ t.2.1.toNat ≤ out.length) :
    step P Q (A ++ tokBits P Q t ++ C) A.length out = some (false, A.length + (tokBits P Q t).length, tokOut out t) := by
  unfold step
  cases hb : Tok.isB t with
  | true =>
    unfold Has at hh
    rw [if_pos hb] at hh
    unfold tokBits tokOut
    rw [if_pos hb, if_pos hb, sym_put hP.low hP.weigh A C t.2.2 hh.2.1 hh.2.2 _ rfl _ rfl]
    simp only [Option.bind_some]
    rw [if_neg (by omega), if_pos hh.1]
  | false =>
    obtain ⟨_, l1, l2, d1, d2⟩ := Tok.may_rep hm hb
    obtain ⟨n, hn⟩ : ∃ n : Nat, t.1 = (n : Int) := ⟨t.1.toNat, by omega⟩
    obtain ⟨f, hf⟩ : ∃ f : Nat, t.2.1 = (f : Int) := ⟨t.2.1.toNat, by omega⟩
    unfold Has at hh
    rw [hb] at hh
    simp only [Bool.false_eq_true, if_false] at hh
    unfold tokBits tokOut
    rw [hb]
    simp only [Bool.false_eq_true, if_false]
    rw [hn, hf] at hh ⊢
    rw [hf, hb] at ho
    simp only [Bool.false_eq_true, Int.toNat_natCast, false_or] at ho
    obtain ⟨i, hi, e1, e2, e3⟩ := len_says n (by omega) (by omega)
    obtain ⟨j, hj, g1, g2, g3⟩ := dis_says f (by omega) (by omega)
    rw [e1, g1] at hh ⊢
    simp only [Int.toNat_natCast] at hh ⊢
    obtain ⟨⟨h1, h2⟩, h3, h4⟩ := hh
    obtain ⟨W, hW⟩ : ∃ W, W = wordBits P ((257 + i : Nat) : Int) := ⟨_, rfl⟩
    obtain ⟨X, hX⟩ : ∃ X, X = bitsOf (n - lenL (257 + i)) (lenB (257 + i)) := ⟨_, rfl⟩
    obtain ⟨V, hV⟩ : ∃ V, V = wordBits Q (j : Int) := ⟨_, rfl⟩
    obtain ⟨Y, hY⟩ : ∃ Y, Y = bitsOf (f - disL j) (disB j) := ⟨_, rfl⟩
    have s1 := sym_put hP.low hP.weigh A (X ++ (V ++ Y) ++ C) (257 + i) h1 h2 (A ++ (W ++ X ++ (V ++ Y)) ++ C) (by rw [hW]; simp only [List.append_assoc]) A.length rfl
    have s2 := num_put (A ++ W) ((V ++ Y) ++ C) (n - lenL (257 + i)) (lenB (257 + i)) e3 (A ++ (W ++ X ++ (V ++ Y)) ++ C) (by rw [hX]; simp only [List.append_assoc]) (A.length + W.length) (by rw [List.length_append])
    have s3 := sym_put hQ.low hQ.weigh (A ++ W ++ X) (Y ++ C) j h3 h4 (A ++ (W ++ X ++ (V ++ Y)) ++ C) (by rw [hV]; simp only [List.append_assoc]) (A.length + W.length + X.length) (by simp only [List.length_append])
    have s4 := num_put (A ++ W ++ X ++ V) C (f - disL j) (disB j) g3 (A ++ (W ++ X ++ (V ++ Y)) ++ C) (by rw [hY]; simp only [List.append_assoc]) (A.length + W.length + X.length + V.length) (by simp only [List.length_append])
    rw [← hW, ← hX, ← hV, ← hY]
    rw [← hW] at s1
    rw [← hX] at s2
    rw [← hV] at s3
    rw [← hY] at s4
    rw [s1]
    simp only [Option.bind_some]
    rw [if_neg (by omega), if_neg (by omega), if_neg (by omega), s2]
    simp only [Option.bind_some]
    unfold farAt
    rw [s3]
    simp only [Option.bind_some]
    rw [if_neg (by omega), s4]
    simp only [Option.bind_some]
    rw [show disL j + (f - disL j) = f from by omega, show lenL (257 + i) + (n - lenL (257 + i)) = n from by omega, if_neg (by omega)]
    simp only [List.length_append, Nat.add_assoc]

def laidBits (P Q : List Nat) (l : List Tok.Tk) : List Bool := l.flatMap (tokBits P Q) ++ wordBits P 256

theorem syms_put {P Q : List Nat} (hP : Reads P) (hQ : Reads Q) (he : 256 < P.length ∧ 0 < len P 256) : ∀ (l : List Tok.Tk) (A C : List Bool) (out o : List Nat), (∀ t ∈ l, Tok.may t = true ∧ Has P Q t) → Tok.say out l = some o →
    syms P Q (A ++ laidBits P Q l ++ C) A.length out = some (A.length + (laidBits P Q l).length, o)
  | [], A, C, out, o, _, hs => by
    obtain rfl := Option.some.inj hs
    have hl : 0 < (wordBits P ((256 : Nat) : Int)).length := by rw [wordBits_length, bitsAtSym_nat]; exact he.2
    refine syms_end (by unfold laidBits; simp only [List.flatMap_nil, List.nil_append, List.length_append]; have : (wordBits P 256).length = (wordBits P ((256 : Nat) : Int)).length := rfl; omega) ?_
    unfold step laidBits
    rw [List.flatMap_nil, List.nil_append, show wordBits P 256 = wordBits P ((256 : Nat) : Int) from rfl, sym_put hP.low hP.weigh A C 256 he.1 he.2 _ rfl _ rfl]
    simp
  | t :: l, A, C, out, o, ht, hs => by
    obtain ⟨hm, hh⟩ := ht t List.mem_cons_self
    have hsay : Tok.say (tokOut out t) l = some o ∧ (Tok.isB t = true ∨ t.2.1.toNat ≤ out.length) := by
      rw [Tok.say] at hs
      unfold tokOut
      cases hb : Tok.isB t with
      | true =>
        rw [if_pos hb] at hs
        exact ⟨by simpa using hs, .inl rfl⟩
      | false =>
        rw [hb] at hs
        simp only [Bool.false_eq_true, if_false] at hs ⊢
        split at hs
        · cases hs
        · exact ⟨hs, .inr (by omega)⟩
    have h1 := step_put hP hQ A (laidBits P Q l ++ C) t hm hh out hsay.2
    have e : A ++ laidBits P Q (t :: l) ++ C = A ++ tokBits P Q t ++ (laidBits P Q l ++ C) := by
      unfold laidBits
      simp only [List.flatMap_cons, List.append_assoc]
    have hlt := (step_some h1)
    have hlen : A.length < (A ++ tokBits P Q t ++ (laidBits P Q l ++ C)).length := by
      have : 0 < (wordBits P ((256 : Nat) : Int)).length := by rw [wordBits_length, bitsAtSym_nat]; exact he.2
      have h2 : (wordBits P 256).length = (wordBits P ((256 : Nat) : Int)).length := rfl
      unfold laidBits
      simp only [List.length_append]
      omega
    rw [e, syms_on hlen h1]
    have ih := syms_put hP hQ he l (A ++ tokBits P Q t) C (tokOut out t) o (fun s hs => ht s (List.mem_cons_of_mem _ hs)) hsay.1
    rw [List.length_append, List.append_assoc (A ++ tokBits P Q t)] at ih
    rw [ih]
    unfold laidBits
    simp only [List.flatMap_cons, List.length_append, Nat.add_assoc]

end Go.Proofs.YtpinfihmageeoaaGreat.Inf

namespace Go.Proofs.YtpinfihmageeoaaGreat.Inf
open Kraft Hd


def valM : Nat → List Bool → Nat
  | a, [] => a
  | a, b :: r => valM (2 * a + b.toNat) r

theorem valM_inj : ∀ (l l' : List Bool) (a a' : Nat), l.length = l'.length → valM a l = valM a' l' → a = a' ∧ l = l'
  | [], [], a, a', _, h => ⟨h, rfl⟩
  | b :: r, b' :: r', a, a', hl, h => by
    obtain ⟨h1, h2⟩ := valM_inj r r' _ _ (by simpa using hl) h
    cases b <;> cases b' <;> simp at h1 <;> first | (exfalso; omega) | exact ⟨by omega, by rw [h2]⟩
  | [], _ :: _, _, _, hl, _ => by simp at hl
  | _ :: _, [], _, _, hl, _ => by simp at hl

theorem seek_path : ∀ (f : Leads) (l : List Bool) (a n : Nat), (seek f a n l).2.2 = 0 → f (valM a (l.take (seek f a n l).1)) (n + (seek f a n l).1) = some (seek f a n l).2.1 ∧ (seek f a n l).2.1 ≠ -1
  | f, [], a, n, h => by
    cases e : f a n with
    | none => rw [seek_none e] at h; cases h
    | some s =>
      by_cases hs : s = -1
      · subst hs; rw [seek_end e] at h; cases h
      · rw [seek_sym e hs]; exact ⟨e, hs⟩
  | f, b :: r, a, n, h => by
    cases e : f a n with
    | none => rw [seek_none e] at h; cases h
    | some s =>
      by_cases hs : s = -1
      · subst hs
        rw [seek_on e] at h ⊢
        obtain ⟨h1, h2⟩ := seek_path f r _ _ h
        refine ⟨?_, h2⟩
        simp only [List.take_succ_cons, valM]
        rw [show n + ((seek f (2 * a + b.toNat) (n + 1) r).1 + 1) = n + 1 + (seek f (2 * a + b.toNat) (n + 1) r).1 from by omega]
        exact h1
      · rw [seek_sym e hs]; exact ⟨e, hs⟩

theorem sym_word {L : List Nat} {R : List Bool} {p c p' : Nat} (h : symAt L R p = some (c, p')) : p' = p + len L c ∧ valM 0 ((R.drop p).take (len L c)) = word L c := by
  unfold symAt at h
  split at h
  · cases h
  · rename_i h0
    obtain ⟨e1, e2⟩ := Prod.mk.inj (Option.some.inj h)
    obtain ⟨h1, h2⟩ := seek_path (tab L L.length) (R.drop p) 0 0 (by omega)
    rcases tab_some _ _ _ _ h1 with ⟨k, _, _, h3, h4, h5⟩ | ⟨h3, _⟩
    · rw [h3, Int.toNat_natCast] at e1
      subst e1
      rw [Nat.zero_add] at h4
      rw [h4] at h5 e2
      exact ⟨e2.symm, h5⟩
    · exact absurd h3 h2

theorem sym_flip {L : List Nat} {R S : List Bool} {p c q q' : Nat} (h : symAt L R p = some (c, q)) (hq : q ≤ R.length) (hne : S[q - 1]? ≠ R[q - 1]?) : symAt L S p ≠ some (c, q') := by
  intro h'
  obtain ⟨e1, e2⟩ := sym_word h
  obtain ⟨e3, e4⟩ := sym_word h'
  have hlt := (symAt_le h).1
  have hS : q ≤ S.length := by
    have := (symAt_le h').2
    omega
  rw [← e4] at e2
  have := (valM_inj _ _ _ _ (by rw [List.length_take, List.length_take, List.length_drop, List.length_drop]; omega) e2).2
  have h2 := congrArg (fun l => l[len L c - 1]?) this
  rw [List.getElem?_take_of_lt (by omega), List.getElem?_take_of_lt (by omega), List.getElem?_drop, List.getElem?_drop, show p + (len L c - 1) = q - 1 from by omega] at h2
  exact hne h2.symm

theorem syms_flip {P Q : List Nat} {R S : List Bool} {p q : Nat} {out o : List Nat} (h : syms P Q R p out = some (q, o)) (hs : Sees R S 0 (q - 1)) (hne : S[q - 1]? ≠ R[q - 1]?) :
    ∀ q' o', syms P Q S p out = some (q', o') → o.length < o'.length := by
  refine syms_ind (C := fun p out q o => Sees R S 0 (q - 1) → S[q - 1]? ≠ R[q - 1]? → ∀ q' o', syms P Q S p out = some (q', o') → o.length < o'.length) ?_ ?_ _ p out q o (Nat.le_refl _) h hs hne
  · intro p p' out out' hp h hs hne q' o' h'
    obtain ⟨g1, g2, g3, _⟩ := step_some h
    rw [g3 rfl]
    have hsym : symAt P R p = some (256, p') := by
      unfold step at h
      obtain ⟨⟨c, p1⟩, h1, h2⟩ := Option.bind_eq_some_iff.1 h
      simp only at h2
      split at h2
      · rename_i hc
        obtain ⟨_, e2⟩ := Prod.mk.inj (Option.some.inj h2)
        obtain ⟨e2, _⟩ := Prod.mk.inj e2
        rw [h1, hc, e2]
      · split at h2
        · have := (Prod.mk.inj (Option.some.inj h2)).1; cases this
        · split at h2
          · cases h2
          · obtain ⟨x, _, h4⟩ := Option.bind_eq_some_iff.1 h2
            obtain ⟨y, _, h6⟩ := Option.bind_eq_some_iff.1 h4
            split at h6
            · cases h6
            · have := (Prod.mk.inj (Option.some.inj h6)).1; cases this
    have hno := fun q' => sym_flip (q' := q') hsym (by omega) hne
    by_cases hpS : S.length ≤ p
    · rw [syms_over hpS] at h'; cases h'
    · cases e : step P Q S p out with
      | none => rw [syms_none e] at h'; cases h'
      | some x =>
        obtain ⟨b, p2, out2⟩ := x
        cases b with
        | true =>
          exfalso
          unfold step at e
          obtain ⟨⟨c, p1⟩, h1, h2⟩ := Option.bind_eq_some_iff.1 e
          simp only at h2
          split at h2
          · rename_i hc
            rw [hc] at h1
            exact hno _ h1
          · split at h2
            · have := (Prod.mk.inj (Option.some.inj h2)).1; cases this
            · split at h2
              · cases h2
              · obtain ⟨x, _, h4⟩ := Option.bind_eq_some_iff.1 h2
                obtain ⟨y, _, h6⟩ := Option.bind_eq_some_iff.1 h4
                split at h6
                · cases h6
                · have := (Prod.mk.inj (Option.some.inj h6)).1; cases this
        | false =>
          rw [syms_on (by omega) e] at h'
          have k1 := (step_some e).2.2.2 rfl
          have k2 := congrArg List.length (syms_some h').2.2
          rw [List.length_take] at k2
          omega
  · intro p p' out out' q o hp h hy ih hs hne q' o' h'
    have h2 := syms_some hy
    have hlt := step_some h
    have h3 := step_sees (pre := []) h hs (by omega)
    simp only [List.nil_append, Nat.add_zero] at h3
    have := hs.there
    rw [syms_on (by omega) h3] at h'
    exact ih hs hne q' o' h'

theorem strm_last {R : List Bool} {p q : Nat} {out o : List Nat} (h : strm R p out = some (q, o)) :
    ∃ p' out', p ≤ p' ∧ blockAt R p' out' = some (true, q, o) ∧ ∀ S, Sees R S 0 p' → strm S p out = strm S p' out' := by
  refine strm_ind (C := fun p out q o => ∃ p' out', p ≤ p' ∧ blockAt R p' out' = some (true, q, o) ∧ ∀ S, Sees R S 0 p' → strm S p out = strm S p' out') ?_ ?_ _ p out q o (Nat.le_refl _) h
  · intro p q out o h
    exact ⟨p, out, Nat.le_refl _, h, fun _ _ => rfl⟩
  · intro p p1 out out1 q o h hy ⟨p', out', g1, g2, g3⟩
    have hlt := block_some h
    refine ⟨p', out', by omega, g2, fun S hs => ?_⟩
    have h3 := block_sees (pre := []) h hs g1 rfl
    simp only [List.nil_append, Nat.add_zero] at h3
    rw [strm_on h3, g3 S hs]

end Go.Proofs.YtpinfihmageeoaaGreat.Inf
