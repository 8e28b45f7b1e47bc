/-
  HdI HdK HdN, one behind the other (merged by wip/merge.py). No conditions but those that each states.
-/
import Derived.Test.YtpinfihmageeoaaGreatGV
import Derived.Test.YtpinfihmageeoaaGreatGD
import Derived.Test.YtpinfihmageeoaaGreatGF
import Derived.Test.YtpinfihmageeoaaGreatGC
import Derived.Test.YtpinfihmageeoaaGreatGI
import Derived.Defers
import Derived.Recover
import Derived.Tactics
import Derived.Tactics2

namespace Go.Proofs.YtpinfihmageeoaaGreat.Hd
open Go.RowKit Kraft

theorem over15_any (w : World) (c : Nat) : Calls Tryz.prog 173 #[.int .u8 (c : Int)] w fun e w' => e = .returned (.bool (decide (15 < c))) ∧ w = w' := by
  go_enter Tryz.func173, Tryz.ntmps173
  go_wp2
  go_ret
  exact ⟨by simp; omega, rfl⟩

theorem index15_any (w : World) (v : Value) (L : List Nat) (h : ByteRow w v L) (hl : L.length ≤ 140737488355328) :
    Calls Tryz.prog 177 #[v, .func (.func 173) #[] #[]] w fun e w' => (∃ i : Int, e = .returned (.int .i64 i) ∧ decide (0 ≤ i) = L.any fun x => decide (15 < x)) ∧ w = w' := by
  obtain ⟨a, cap, rfl, hc, hn, hat⟩ := h
  obtain ⟨t, ht⟩ : ∃ t, (L.any fun x => decide (15 < x)) = t := ⟨_, rfl⟩
  rw [ht]
  have HT := Lib.hid ht
  clear ht
  go_enter Tryz.func177, Tryz.ntmps177
  go_wp2
  go_loopw [5, 8] (fun _ i wr => ∃ k : Nat, k ≤ L.length ∧ i = .int .i64 (k : Int) ∧ (∀ j (hj : j < L.length), j < k → L[j] ≤ 15) ∧ wr = w) (fun _ i _ => L.length - (intOf i).toNat)
  case atStart => exact ⟨0, Nat.zero_le _, rfl, fun j _ hj => absurd hj (Nat.not_lt_zero _), rfl⟩
  case round =>
    obtain ⟨k, hk, rfl, hb, rfl⟩ := hrel
    by_cases hlt : k < L.length
    · obtain ⟨hy, b, off, rfl, hcell⟩ := hat k hlt
      obtain ⟨y, hy'⟩ : ∃ y, L[k] = y := ⟨_, rfl⟩
      rw [hy'] at hcell
      have HB := Lib.hid hb
      have HY := Lib.hid hy'
      clear hb hy' hat
      by_cases c : 15 < y
      · have hd : decide (15 < y) = true := by simp [c]
        go_wp2_with (go_at_call 173; refine (over15_any _ y).mono ?_; rintro e w1 ⟨rfl, rfl⟩; rw [hd])
        go_ret
        refine ⟨⟨k, rfl, ?_⟩, rfl⟩
        rw [← HT.out]
        have e1 : (L.any fun x => decide (15 < x)) = true := by
          rw [List.any_eq_true]
          exact ⟨L[k], List.getElem_mem hlt, by rw [HY.out]; exact hd⟩
        rw [e1]
        simp
      · have hd : decide (15 < y) = false := by simp; omega
        go_wp2_with (go_at_call 173; refine (over15_any _ y).mono ?_; rintro e w1 ⟨rfl, rfl⟩; rw [hd])
        go_roundw
        case rel =>
          refine ⟨k + 1, by omega, by go_num, fun j hj hjk => ?_, trivial⟩
          by_cases e : j = k
          · subst e
            rw [HY.out]
            omega
          · exact HB.out j hj (by omega)
        case measure => simp [intOf]; omega
    · obtain rfl : k = L.length := by omega
      have e1 : t = false := by
        rw [← HT.out, List.any_eq_false]
        intro x hx
        obtain ⟨i, hi, rfl⟩ := List.getElem_of_mem hx
        have := hb i hi hi
        simp
        omega
      subst e1
      go_wp2
      go_ret
      exact ⟨⟨-1, rfl, rfl⟩, rfl⟩

theorem contains15_any (w : World) (v : Value) (L : List Nat) (h : ByteRow w v L) (hl : L.length ≤ 140737488355328) :
    Calls Tryz.prog 172 #[v, .func (.func 173) #[] #[]] w fun e w' => e = .returned (.bool (L.any fun x => decide (15 < x))) ∧ w = w' := by
  have hi := index15_any w v L h hl
  obtain ⟨t, ht⟩ : ∃ t, (L.any fun x => decide (15 < x)) = t := ⟨_, rfl⟩
  rw [ht] at hi ⊢
  clear ht
  go_enter Tryz.func172, Tryz.ntmps172
  go_wp2_with (go_at_call 177; refine hi.mono ?_; rintro e w1 ⟨⟨i, rfl, hd⟩, rfl⟩)
  go_ret
  exact ⟨rfl, rfl⟩

theorem any_low15 (L : List Nat) : (L.any fun x => decide (15 < x)) = !low15 L := by
  unfold low15
  induction L with
  | nil => rfl
  | cons x r ih =>
    rw [List.any_cons, List.all_cons, ih]
    by_cases h : x ≤ 15
    · rw [decide_eq_true h, decide_eq_false (by omega)]; simp
    · rw [decide_eq_false h, decide_eq_true (by omega)]; simp

theorem may_low {L : List Nat} (hl : L.length ≤ 512) (h : low15 L = true) : may L = true := by
  unfold low15 at h
  rw [List.all_eq_true] at h
  rw [may_iff]
  refine ⟨hl, fun x hx => ?_⟩
  have := of_decide_eq_true (h x hx)
  omega

theorem class_is2 (n : Nat) : class_ n = 2 ↔ n = 1048576 := by
  unfold class_
  split
  · omega
  · split
    · omega
    · split <;> omega

theorem class_zero (n : Nat) : class_ n = 0 ↔ n = 0 := by
  unfold class_
  split
  · omega
  · split
    · omega
    · split <;> omega

theorem none_low {L : List Nat} (h : may L = true) (h0 : weight L = 0) : low15 L = true := by
  unfold low15
  rw [List.all_eq_true]
  intro x hx
  obtain ⟨i, hi, rfl⟩ := List.getElem_of_mem hx
  have h20 := ((may_iff L).1 h).2 _ (List.getElem_mem hi)
  by_cases hz : L[i] = 0
  · rw [hz]; decide
  · exfalso
    have hp : 0 < Kraft.part (len L i) := part_pos (by rw [len_at L i hi]; omega)
    have := sumTo_member (f := fun j => Kraft.part (len L j)) (n := L.length) (i := i) hi
    unfold weight at h0
    omega

def isCodeB (L : List Nat) : Bool := low15 L && (full L || single L)
def isNoneB (L : List Nat) : Bool := may L && decide (weight L = 0)

theorem mayH_eq (p q : List Nat) : mayH p q = (decide (257 ≤ p.length ∧ p.length ≤ 286 ∧ 1 ≤ q.length ∧ q.length ≤ 30) && (decide (len p 256 ≠ 0) && (isCodeB p && (isCodeB q || isNoneB q)))) := by
  unfold mayH isCodeB isNoneB
  obtain ⟨A, hA⟩ : ∃ A, decide (257 ≤ p.length ∧ p.length ≤ 286 ∧ 1 ≤ q.length ∧ q.length ≤ 30) = A := ⟨_, rfl⟩
  obtain ⟨C, hC⟩ : ∃ C, decide (len p 256 ≠ 0) = C := ⟨_, rfl⟩
  have e : decide (257 ≤ p.length ∧ p.length ≤ 286 ∧ 1 ≤ q.length ∧ q.length ≤ 30 ∧ len p 256 ≠ 0) = (A && C) := by
    rw [← hA, ← hC, ← Bool.decide_and]
    exact decide_eq_decide.2 (by simp only [and_assoc])
  rw [e, hA, hC]
  clear e hC
  cases A with
  | false => rfl
  | true =>
    obtain ⟨h1, h2, h3, h4⟩ := of_decide_eq_true hA
    cases hq : low15 q with
    | true =>
      rw [may_low (by omega) hq]
      cases C <;> cases low15 p <;> cases full p <;> cases single p <;> cases full q <;> cases single q <;> cases decide (weight q = 0) <;> rfl
    | false =>
      have : (may q && decide (weight q = 0)) = false := by
        cases hm : may q with
        | false => rfl
        | true =>
          by_cases hz : weight q = 0
          · rw [none_low hm hz] at hq; cases hq
          · rw [decide_eq_false hz]; rfl
      rw [this]
      cases C <;> cases low15 p <;> cases full p <;> cases single p <;> rfl

set_option maxRecDepth 100000 in
theorem isNone_any (w : World) (v : Value) (L : List Nat) (h : ByteRow w v L) (hl : L.length ≤ 512) :
    Calls Tryz.prog 162 #[v] w fun e w' => e = .returned (.bool (isNoneB L)) ∧ w = w' := by
  have hc := classify_any w v L h (by omega)
  unfold isNoneB
  unfold classAns at hc
  cases hm : may L with
  | false =>
    rw [hm] at hc
    simp only [Bool.false_eq_true, if_false] at hc
    go_enter Tryz.func162, Tryz.ntmps162
    go_wp2_with (go_at_call 42; refine hc.mono ?_; rintro e w1 ⟨rfl, rfl⟩)
    go_ret
    exact ⟨rfl, rfl⟩
  | true =>
    rw [hm] at hc
    simp only [if_true] at hc
    have hz := class_zero (weight L)
    generalize weight L = x at *
    by_cases h0 : x = 0
    · rw [hz.2 h0] at hc
      rw [decide_eq_true h0]
      go_enter Tryz.func162, Tryz.ntmps162
      go_wp2_with (go_at_call 42; refine hc.mono ?_; rintro e w1 ⟨rfl, rfl⟩)
      go_ret
      exact ⟨rfl, rfl⟩
    · rw [decide_eq_false h0]
      have h1 : class_ x ≠ 0 := fun e => h0 (hz.1 e)
      generalize class_ x = c at *
      have hb : ((c : Int) == 0) = false := by rw [beq_eq_false_iff_ne]; omega
      go_enter Tryz.func162, Tryz.ntmps162
      go_wp2_with (go_at_call 42; refine hc.mono ?_; rintro e w1 ⟨rfl, rfl⟩)
      go_ret
      exact ⟨rfl, rfl⟩

set_option maxRecDepth 100000 in
theorem isCode_any (w : World) (v : Value) (L : List Nat) (h : ByteRow w v L) (hl : L.length ≤ 512) :
    Calls Tryz.prog 161 #[v] w fun e w' => e = .returned (.bool (isCodeB L)) ∧ w = w' := by
  have hc := classify_any w v L h (by omega)
  have hs := single_any w v L h (by omega)
  have ho := contains15_any w v L h (by omega)
  rw [any_low15] at ho
  unfold isCodeB
  unfold classAns at hc
  cases hm : low15 L with
  | false =>
    rw [hm] at ho
    simp only [Bool.not_false] at ho
    go_enter Tryz.func161, Tryz.ntmps161
    go_wp2_with (go_at_call 172; refine ho.mono ?_; rintro e w1 ⟨rfl, rfl⟩)
    go_ret
    exact ⟨rfl, rfl⟩
  | true =>
    rw [hm] at ho
    rw [may_low hl hm] at hc
    simp only [if_true] at hc
    simp only [Bool.not_true] at ho
    have hz := class_is2 (weight L)
    unfold full
    generalize weight L = x at *
    generalize single L = sg at *
    by_cases h0 : x = 1048576
    · rw [hz.2 h0] at hc
      rw [decide_eq_true h0]
      go_enter Tryz.func161, Tryz.ntmps161
      go_wp2_with (first | (go_at_call 172; refine ho.mono ?_; rintro e w1 ⟨rfl, rfl⟩) | (go_at_call 42; refine hc.mono ?_; rintro e w1 ⟨rfl, rfl⟩))
      go_ret
      exact ⟨rfl, rfl⟩
    · rw [decide_eq_false h0]
      have h1 : class_ x ≠ 2 := fun e => h0 (hz.1 e)
      generalize class_ x = c at *
      have hb : ((c : Int) == 2) = false := by rw [beq_eq_false_iff_ne]; omega
      go_enter Tryz.func161, Tryz.ntmps161
      go_wp2_with (first | (go_at_call 172; refine ho.mono ?_; rintro e w1 ⟨rfl, rfl⟩) | (go_at_call 42; refine hc.mono ?_; rintro e w1 ⟨rfl, rfl⟩) | (go_at_call 174; refine hs.mono ?_; rintro e w1 ⟨rfl, rfl⟩))
      go_ret
      exact ⟨by cases sg <;> rfl, rfl⟩

set_option maxRecDepth 100000 in
set_option maxHeartbeats 1000000 in
theorem mayBe_any (w : World) (v1 v2 : Value) (p q : List Nat) (h1 : ByteRow w v1 p) (h2 : ByteRow w v2 q) (hp : p.length ≤ 1000000) (hq : q.length ≤ 1000000) :
    Calls Tryz.prog 142 #[v1, v2] w fun e w' => e = .returned (.bool (mayH p q)) ∧ w = w' := by
  have c1 := isCode_any w v1 p h1
  have c2 := isCode_any w v2 q h2
  have c3 := isNone_any w v2 q h2
  have H := Lib.hid (mayH_eq p q)
  obtain ⟨m, hm⟩ : ∃ m, mayH p q = m := ⟨_, rfl⟩
  rw [hm] at H ⊢
  clear hm
  obtain ⟨a1, cap1, rfl, hc1, hn1, hat1⟩ := h1
  obtain ⟨a2, cap2, rfl, hc2, hn2, hat2⟩ := h2
  clear hat2
  by_cases k1 : p.length < 257
  · obtain rfl : m = false := by rw [H.out, decide_eq_false (by omega)]; rfl
    go_enter Tryz.func142, Tryz.ntmps142
    go_wp2
    go_ret
    exact ⟨rfl, rfl⟩
  by_cases k2 : 286 < p.length
  · obtain rfl : m = false := by rw [H.out, decide_eq_false (by omega)]; rfl
    go_enter Tryz.func142, Tryz.ntmps142
    go_wp2
    go_ret
    exact ⟨rfl, rfl⟩
  by_cases k3 : q.length < 1
  · obtain rfl : m = false := by rw [H.out, decide_eq_false (by omega)]; rfl
    go_enter Tryz.func142, Tryz.ntmps142
    go_wp2
    go_ret
    exact ⟨rfl, rfl⟩
  by_cases k4 : 30 < q.length
  · obtain rfl : m = false := by rw [H.out, decide_eq_false (by omega)]; rfl
    go_enter Tryz.func142, Tryz.ntmps142
    go_wp2
    go_ret
    exact ⟨rfl, rfl⟩
  have H2 : m = (decide (len p 256 ≠ 0) && (isCodeB p && (isCodeB q || isNoneB q))) := by rw [H.out, decide_eq_true ⟨by omega, by omega, by omega, by omega⟩]; rfl
  have c1 := c1 (by omega)
  have c2 := c2 (by omega)
  have c3 := c3 (by omega)
  obtain ⟨hx, b, off, rfl, hcell⟩ := hat1 256 (by omega)
  clear H hat1
  rw [len_at p 256 (by omega)] at H2
  generalize isCodeB p = y1 at *
  generalize isCodeB q = y2 at *
  generalize isNoneB q = y3 at *
  generalize p[256] = x at *
  by_cases k5 : x = 0
  · subst k5
    obtain rfl : m = false := by rw [H2]; rfl
    clear H2
    go_enter Tryz.func142, Tryz.ntmps142
    go_wp2
    go_ret
    exact ⟨rfl, rfl⟩
  · rw [decide_eq_true k5, Bool.true_and] at H2
    have hne : ((x : Int) != 0) = true := by rw [bne_iff_ne]; omega
    go_enter Tryz.func142, Tryz.ntmps142
    cases y1 with
    | false =>
      obtain rfl : m = false := H2
      go_wp2_with (go_at_call 161; refine c1.mono ?_; rintro e w1 ⟨rfl, rfl⟩)
      go_ret
      exact ⟨rfl, rfl⟩
    | true =>
      go_wp2_with fail
      refine c1.mono ?_
      rintro e w1 ⟨rfl, rfl⟩
      cases y2 with
      | true =>
        obtain rfl : m = true := H2
        go_wp2_with (go_at_call 161; refine c2.mono ?_; rintro e w1 ⟨rfl, rfl⟩)
        go_ret
        exact ⟨rfl, rfl⟩
      | false =>
        obtain rfl : m = y3 := H2
        go_wp2_with fail
        refine c2.mono ?_
        rintro e w1 ⟨rfl, rfl⟩
        go_wp2_with (go_at_call 162; refine c3.mono ?_; rintro e w1 ⟨rfl, rfl⟩)
        go_ret
        exact ⟨rfl, rfl⟩

end Go.Proofs.YtpinfihmageeoaaGreat.Hd

namespace Go.Proofs.YtpinfihmageeoaaGreat.Hd
open Go.RowKit Kraft

theorem byteRow_part {w : World} {g cap : Nat} {o : List Nat} (h : ByteRow w (.slice (some ⟨g, 0, none⟩) o.length cap) o) (a m c : Nat) (ha : a + m ≤ o.length) (hc : m ≤ c) :
    ByteRow w (.slice (some ⟨g, a, none⟩) m c) ((o.drop a).take m) := by
  obtain ⟨a', c', e, h1, h2, h3⟩ := h
  obtain ⟨rfl, e2, rfl⟩ := Value.slice.inj e
  have hl : ((o.drop a).take m).length = m := by rw [List.length_take, List.length_drop]; omega
  refine ⟨_, c, by rw [hl], by omega, (fun e => by cases e), fun i hi => ?_⟩
  obtain ⟨hx, b, off, eb, hcell⟩ := h3 (a + i) (by omega)
  have e3 : ((o.drop a).take m)[i] = o[a + i]'(by omega) := by rw [List.getElem_take, List.getElem_drop]
  rw [e3]
  have eb2 := Option.some.inj eb
  simp at eb2
  obtain ⟨rfl, rfl⟩ := eb2
  refine ⟨hx, g, a, rfl, ?_⟩
  rw [Nat.zero_add] at hcell
  exact hcell

section
variable {B : Nat} {w0 w : World} {r : List Thing} {qb : Nat} {v : Value} {xs : List Nat} {p : Nat}

theorem _root_.Go.Proofs.YtpinfihmageeoaaGreat.St.twoParts {g n cap c1 a m c2 : Nat} {o : List Nat} (h : St B w0 w (rowT 5 1 (.slice (some ⟨g, 0, none⟩) o.length cap) o.length (u8s o) :: r)) (ho : ∀ x ∈ o, x < 256)
    (hn : n ≤ o.length) (h1 : n ≤ c1) (ha : a + m ≤ o.length) (h2 : m ≤ c2) :
    St B w0 w (pairT (.slice (some ⟨g, 0, none⟩) n c1) (o.take n) (.slice (some ⟨g, a, none⟩) m c2) ((o.drop a).take m) :: r) := by
  have r0 := byteRow_owns h.row ho
  have r1 := byteRow_part r0 0 n c1 (by omega) h1
  have r2 := byteRow_part r0 a m c2 ha h2
  rw [List.drop_zero] at r1
  refine h.step fun S hS => ⟨S, ⟨r1, r2, ?_, fun k hk => (hS.1.lt _ ((hS.2 _).1 hk)).2⟩, Only.refl _ _, fun k hk => .inl hk⟩
  rintro k (⟨off, m, c, e⟩ | ⟨off, m, c, e⟩)
  all_goals
    refine (hS.2 k).2 ?_
    have := Option.some.inj (Value.slice.inj e).1
    simp at this
    simp [Value.ownBlock, this.1]

def ReadSt (B : Nat) (w0 : World) (r : List Thing) (qb : Nat) (v : Value) (xs : List Nat) (p : Nat) (e : Ending) (w' : World) : Prop :=
  match headAt (row xs) p with
  | none => e = .panicked oops ∧ ∃ p', St B w0 w' (rdvT qb v xs p' :: r)
  | some y => ∃ v1 v2, e = .returned (.tuple #[v1, v2]) ∧ St B w0 w' (pairT v1 y.1 v2 y.2.1 :: rdvT qb v xs y.2.2 :: r)

def lengthsAt (L : List Nat) (R : List Bool) (N p : Nat) : Option (List Nat × Nat) := (signsFrom L R N p).bind fun x => (Rep.say [] x.1).bind fun out => if out.length = N then some (out, x.2) else none

theorem lengthsAt_len {L : List Nat} {R : List Bool} {N p : Nat} {out : List Nat} {q : Nat} (h : lengthsAt L R N p = some (out, q)) : out.length = N := by
  unfold lengthsAt at h
  obtain ⟨x, _, h⟩ := Option.bind_eq_some_iff.1 h
  obtain ⟨o, _, h⟩ := Option.bind_eq_some_iff.1 h
  split at h
  · rename_i hl
    have := (Prod.mk.inj (Option.some.inj h)).1
    rw [← this]; exact hl
  · cases h

theorem lengthsAt_head (L : List Nat) (R : List Bool) (a b p : Nat) :
    (signsFrom L R (a + b) p).bind (headOf a b) = (lengthsAt L R (a + b) p).bind fun y => if mayH (y.1.take a) (y.1.drop a) = true then some (y.1.take a, y.1.drop a, y.2) else none := by
  unfold lengthsAt
  cases signsFrom L R (a + b) p with
  | none => rfl
  | some x =>
    simp only [Option.bind_some]
    unfold headOf
    cases Rep.say [] x.1 with
    | none => rfl
    | some out =>
      simp only [Option.bind_some]
      by_cases h : out.length = a + b
      · rw [if_pos h]
        simp only [Option.bind_some, h, true_and]
      · rw [if_neg h, if_neg (fun h' => h h'.1)]
        rfl

theorem headAt_words {R : List Bool} {p a b n : Nat} (ha : nm R p 5 = a) (hb : nm R (p + 5) 5 = b) (hn : nm R (p + 10) 4 + 4 = n) (h : p + 14 ≤ R.length ∧ p + 14 + 3 * n ≤ R.length ∧ weight (lensTo R (p + 14) n) = 1048576) :
    headAt R p = (lengthsAt (lensTo R (p + 14) n) R (a + 257 + (b + 1)) (p + 14 + 3 * n)).bind fun y => if mayH (y.1.take (a + 257)) (y.1.drop (a + 257)) = true then some (y.1.take (a + 257), y.1.drop (a + 257), y.2) else none := by
  rw [← lengthsAt_head]
  unfold headAt na nb nz
  rw [hn, ha, hb, if_neg (by omega), if_neg (by omega), if_neg (by rw [h.2.2]; decide)]

theorem headAt_none {R : List Bool} {p n : Nat} (hn : nm R (p + 10) 4 + 4 = n) (h : ¬(p + 14 ≤ R.length ∧ p + 14 + 3 * n ≤ R.length ∧ weight (lensTo R (p + 14) n) = 1048576)) : headAt R p = none := by
  unfold headAt nz
  rw [hn]
  by_cases h1 : R.length < p + 14
  · rw [if_pos h1]
  · rw [if_neg h1]
    by_cases h2 : R.length < p + 14 + 3 * n
    · rw [if_pos h2]
    · rw [if_neg h2, if_pos (fun h3 => h ⟨by omega, by omega, h3⟩)]

theorem len_small {L : List Nat} {m : Nat} (h : ∀ x ∈ L, x < m) (hm : 0 < m) (j : Nat) : len L j < m := by
  unfold len
  by_cases hj : j < L.length
  · rw [getD_in _ _ hj]; exact h _ (List.getElem_mem hj)
  · rw [List.getD_eq_getElem?_getD, List.getElem?_eq_none (by omega)]; exact hm

set_option maxRecDepth 100000 in
set_option maxHeartbeats 2000000 in
theorem read_st (st : St B w0 w (rdvT qb v xs p :: r)) :
    Calls Tryz.prog 121 #[.pointer (some ⟨qb, 0, none⟩)] w (ReadSt B w0 r qb v xs p) := by
  have hnone : ∀ p' w', headAt (row xs) p = none → St B w0 w' (rdvT qb v xs p' :: r) → ReadSt B w0 r qb v xs p (.panicked oops) w' := by
    intro p' w' h s
    unfold ReadSt
    rw [h]
    exact ⟨rfl, p', s⟩
  have hsome : ∀ v1 v2 y w', headAt (row xs) p = some y → St B w0 w' (pairT v1 y.1 v2 y.2.1 :: rdvT qb v xs y.2.2 :: r) → ReadSt B w0 r qb v xs p (.returned (.tuple #[v1, v2])) w' := by
    intro v1 v2 y w' h s
    unfold ReadSt
    rw [h]
    exact ⟨v1, v2, rfl, s⟩
  have hlen := row_length xs
  have hnr := fun (p n : Nat) (h : p + n ≤ 8 * xs.length) => nm_row xs p n h
  have HNO := Lib.hid hnone
  have HSO := Lib.hid hsome
  clear hnone hsome
  by_cases hp5 : p + 5 ≤ 8 * xs.length
  · have hnum := number_ok st 5 (by omega) hp5
    rw [← hnr p 5 hp5] at hnum
    obtain ⟨a, ha⟩ : ∃ a, nm (row xs) p 5 = a := ⟨_, rfl⟩
    have ha32 := nm_lt (row xs) p 5
    rw [ha] at hnum ha32
    have HA := Lib.hid ha
    clear ha
    go_enter Tryz.func121, Tryz.ntmps121
    go_wp2_with fail
    refine hnum.mono ?_
    rintro e w1 ⟨rfl, s1⟩
    clear st hnum
    by_cases hp10 : p + 5 + 5 ≤ 8 * xs.length
    · have hnum := number_ok s1 5 (by omega) hp10
      rw [← hnr (p + 5) 5 hp10] at hnum
      obtain ⟨b, hb⟩ : ∃ b, nm (row xs) (p + 5) 5 = b := ⟨_, rfl⟩
      have hb32 := nm_lt (row xs) (p + 5) 5
      rw [hb] at hnum hb32
      have HB := Lib.hid hb
      clear hb hnr
      go_wp2_with fail
      refine hnum.mono ?_
      rintro e w2 ⟨rfl, s2⟩
      clear s1 hnum
      have hgw := getWords_st s2
      obtain ⟨R, hR⟩ : ∃ R, R = row xs := ⟨_, rfl⟩
      have hgl := fun (W : World) (tb : Nat) (L : List Nat) (N q : Nat) (s : St B w0 W (rdvT qb v xs q :: tblL tb L :: r)) => getLengths_st s (N := N)
      unfold WordsSt at hgw
      unfold LengthsSt' at hgl
      rw [← hR] at hgw hgl HA HB HNO HSO hlen
      have HR := Lib.hid hR
      clear hR s2
      rw [show p + 5 + 5 = p + 10 from rfl, show p + 10 + 4 = p + 14 from rfl] at hgw
      obtain ⟨n, hn⟩ : ∃ n, nm R (p + 10) 4 + 4 = n := ⟨_, rfl⟩
      rw [hn, ← hlen] at hgw
      have HH := Lib.hid (headAt_words HA.out HB.out hn)
      have HNN := Lib.hid (headAt_none hn)
      obtain ⟨L, hL⟩ : ∃ L, lensTo R (p + 14) n = L := ⟨_, rfl⟩
      have h19 : L.length = 19 := by rw [← hL]; exact lensTo_length R (p + 14) n
      have h20 : ∀ j, len L j ≤ 20 := fun j => by
        have := len_small (L := L) (m := 8) (by rw [← hL]; exact lensTo_small R (p + 14) n) (by decide) j
        omega
      rw [hL] at hgw HH HNN
      have H19 := Lib.hid h19
      have H20 := Lib.hid h20
      clear hL hn h19 h20 HA HB
      go_wp2_with fail
      refine hgw.mono ?_
      rintro e w3 (⟨hok, tb, rfl, s3⟩ | ⟨hbad, rfl, p', s3⟩)
      · have hgl := hgl _ tb L (257 + a + (1 + b)) _ s3 H19.out H20.out (by omega) (by omega)
        have hhead := HH.out hok
        rw [show a + 257 + (b + 1) = 257 + a + (1 + b) from by omega, show a + 257 = 257 + a from by omega] at hhead
        have HD := Lib.hid hhead
        have hlens := fun out q => lengthsAt_len (L := L) (R := R) (N := 257 + a + (1 + b)) (p := p + 14 + 3 * n) (out := out) (q := q)
        have HLE := Lib.hid hlens
        clear hhead hlens HH HNN hgw hok s3
        change Calls _ _ _ _ fun e w' => match lengthsAt L R (257 + a + (1 + b)) (p + 14 + 3 * n) with | none => e = .panicked oops ∧ ∃ p', St B w0 w' (rdvT qb v xs p' :: r) | some (out, q) => ∃ u, e = .returned u ∧ (∀ x ∈ out, x < 256) ∧ St B w0 w' (rowT 5 1 u out.length (u8s out) :: rdvT qb v xs q :: r) at hgl
        rw [show ((257 + a + (1 + b) : Nat) : Int) = 257 + (a : Int) + (1 + (b : Int)) from by omega] at hgl
        cases hla : lengthsAt L R (257 + a + (1 + b)) (p + 14 + 3 * n) with
        | none =>
          rw [hla] at hgl HD
          have hhn := HD.out
          have HHN := Lib.hid (show headAt R p = none from hhn)
          clear hla HD hhn
          go_wp2_with (go_at_call 139; refine hgl.mono ?_; rintro e w4 ⟨rfl, p', s4⟩)
          exact ⟨rfl, HNO.out p' _ HHN.out s4⟩
        | some y =>
          obtain ⟨out, q⟩ := y
          rw [hla] at hgl HD
          have hol := HLE.out out q hla
          clear hla HLE
          have HD2 := HD.out
          change headAt R p = (if mayH (out.take (257 + a)) (out.drop (257 + a)) = true then some (out.take (257 + a), out.drop (257 + a), q) else none) at HD2
          have HD3 := Lib.hid HD2
          clear HD HD2
          go_wp2_with fail
          refine hgl.mono ?_
          rintro e w4 ⟨u, rfl, hb, s4⟩
          clear hgl
          obtain ⟨g, cap, rfl, hcap⟩ := s4.rowShape (by omega)
          have s5 := s4.twoParts hb (n := 257 + a) (c1 := 257 + a) (a := 257 + a) (m := 1 + b) (c2 := cap - (257 + a)) (by omega) (Nat.le_refl _) (by omega) (by omega)
          rw [show (out.drop (257 + a)).take (1 + b) = out.drop (257 + a) from List.take_of_length_le (by rw [List.length_drop]; omega)] at s5
          rw [hol] at hcap ⊢
          go_wp2
          have h1l : (out.take (257 + a)).length = 257 + a := by rw [List.length_take]; omega
          have h2l : (out.drop (257 + a)).length = 1 + b := by rw [List.length_drop]; omega
          clear s4 hb hol
          generalize out.take (257 + a) = p1 at *
          generalize out.drop (257 + a) = p2 at *
          go_region
          have s6 := s5.drew
          clear s5
          generalize w4.drew = w5 at *
          have hmb := mayBe_any w5 _ _ _ _ s6.pair.1 s6.pair.2 (by omega) (by omega)
          clear h1l h2l
          cases hm : mayH p1 p2 with
          | false =>
            rw [hm] at hmb
            have hhn : headAt R p = none := by rw [HD3.out, hm]; rfl
            have HHN := Lib.hid hhn
            clear hhn hm HD3
            go_wp2_with (first | (go_at_call 142; refine hmb.mono ?_; rintro e w6 ⟨rfl, rfl⟩) | (go_at_call 141; refine (need_no _).mono ?_; rintro e w7 ⟨rfl, rfl⟩))
            exact ⟨rfl, HNO.out _ _ HHN.out s6.drop⟩
          | true =>
            rw [hm] at hmb
            have hhn : headAt R p = some (p1, p2, q) := by rw [HD3.out, hm]; rfl
            have HHN := Lib.hid hhn
            clear hhn hm HD3
            go_wp2_with (first | (go_at_call 142; refine hmb.mono ?_; rintro e w6 ⟨rfl, rfl⟩) | (go_at_call 141; refine (need_yes _).mono ?_; rintro e w7 ⟨rfl, rfl⟩))
            go_ret2
            exact HSO.out _ _ _ _ HHN.out s6
      · go_wp2
        exact ⟨rfl, HNO.out p' _ (HNN.out hbad) s3⟩
    · have hnum := number_no s1 5 (by omega) (by omega)
      have hhn : headAt (row xs) p = none := by
        unfold headAt
        rw [if_pos (by omega)]
      have HHN := Lib.hid hhn
      clear hhn hnr
      go_wp2_with (go_at_call 138; refine hnum.mono ?_; rintro e w4 ⟨rfl, s4⟩)
      exact ⟨rfl, HNO.out _ _ HHN.out s4⟩
  · have hnum := number_no st 5 (by omega) (by omega)
    have hhn : headAt (row xs) p = none := by
      unfold headAt
      rw [if_pos (by omega)]
    have HHN := Lib.hid hhn
    clear hhn hnr
    go_enter Tryz.func121, Tryz.ntmps121
    go_wp2_with (go_at_call 138; refine hnum.mono ?_; rintro e w4 ⟨rfl, s4⟩)
    exact ⟨rfl, HNO.out _ _ HHN.out s4⟩

end
end Go.Proofs.YtpinfihmageeoaaGreat.Hd

namespace Go.Proofs.YtpinfihmageeoaaGreat.Hd
open Go.RowKit Kraft

set_option maxRecDepth 100000 in
theorem catch_oops (b1 b2 b3 : Nat) (x1 x2 x3 : Value) (w : World) (h12 : b1 ≠ b2) (h13 : b1 ≠ b3) (h23 : b2 ≠ b3)
    (c1 : w.cell? ⟨b1, 0, none⟩ = some x1) (c2 : w.cell? ⟨b2, 0, none⟩ = some x2) (c3 : w.cell? ⟨b3, 0, none⟩ = some x3)
    (z1 : w.frozen? ⟨b1, 0, none⟩ = false) (z2 : w.frozen? ⟨b2, 0, none⟩ = false) (z3 : w.frozen? ⟨b3, 0, none⟩ = false) :
    CallsD Tryz.prog 120 #[.pointer (some ⟨b1, 0, none⟩), .pointer (some ⟨b2, 0, none⟩), .pointer (some ⟨b3, 0, none⟩)] (.panicking oops) w fun e u' w' =>
      e = .returned (.tuple #[]) ∧ u' = .panicking [{ v := .iface 22 (.int .i64 2), recovered := true }] ∧ w' = ((w.setCell ⟨b1, 0, none⟩ (.slice none 0 0)).setCell ⟨b2, 0, none⟩ (.slice none 0 0)).setCell ⟨b3, 0, none⟩ (.int .i64 2) := by
  refine callsD_of_wpS Tryz.func120 rfl fun c₀ cs hu => ?_
  unfold oops at hu
  apply wpS_seq
  apply wpS_region
  simp [wpOpsS, go_sem, recoverD, hu, Tryz.ntmps120, Exit.thenS]
  refine wpS_cond (t := true) (by simp [Act.eval, Array.replicate]) ?_
  simp only [if_true]
  apply wpS_region
  simp [wpOpsS, go_sem, c1, c2, c3, z1, z2, z3, bodyPostS, results, Tryz.results120]

theorem catch_idle (b1 b2 b3 : Nat) (w : World) :
    CallsD Tryz.prog 120 #[.pointer (some ⟨b1, 0, none⟩), .pointer (some ⟨b2, 0, none⟩), .pointer (some ⟨b3, 0, none⟩)] .returning w fun e u' w' => e = .returned (.tuple #[]) ∧ u' = .returning ∧ w' = w := by
  refine callsD_of_wpS Tryz.func120 rfl fun c₀ cs hu => ?_
  apply wpS_seq
  apply wpS_region
  simp [wpOpsS, go_sem, recoverD, hu, Tryz.ntmps120, Exit.thenS]
  refine wpS_cond (t := false) (by simp [Act.eval, Array.replicate]) ?_
  simp only [Bool.false_eq_true, if_false]
  refine wpS_of_wp (wp_skip ?_)
  cases c₀
  simp_all [bodyPostS, results, Tryz.results120]

theorem hget_nil (w : World) : Calls Tryz.prog 84 #[.pointer none] w fun e w' => e = .returned (.tuple #[.slice none 0 0, .slice none 0 0, .int .i64 8]) ∧ Below w.heap.size w w' := by
  have hmf : ∀ (fn : Fn) (first cap : Array Value) (w : World), (Instr.makeFunc fn first cap).run Tryz.prog w = .ok (.func fn first cap) w := fun _ _ _ _ => rfl
  have hbel : Below w.heap.size w ((((w.alloc (.cells #[.slice none 0 0] 26)).alloc (.cells #[.slice none 0 0] 26)).alloc (.cells #[.int .i64 8] 22))) := by
    have h1 := below_alloc w (.cells #[.slice none 0 0] 26)
    have h2 := below_alloc (w.alloc (.cells #[.slice none 0 0] 26)) (.cells #[.slice none 0 0] 26)
    have h3 := below_alloc ((w.alloc (.cells #[.slice none 0 0] 26)).alloc (.cells #[.slice none 0 0] 26)) (.cells #[.int .i64 8] 22)
    exact (h1.trans (h2.mono (by simp))).trans (h3.mono (by simp; omega))
  go_enter_defers Tryz.func84, Tryz.ntmps84
  go_wp2
  simp [bodyPostD, Leaves, results, Tryz.results84, go_sem]
  exact hbel

section
variable {B : Nat} {w0 w : World} {r : List Thing}

set_option maxRecDepth 100000 in
set_option maxHeartbeats 2000000 in
theorem hget_st {qb p : Nat} {xs : List Nat} (st : St B w0 w (rdT qb xs p :: r)) (_hl : xs.length ≤ 100000) (_hp : p ≤ 8 * xs.length) :
    Calls Tryz.prog 84 #[.pointer (some ⟨qb, 0, none⟩)] w (GotSt B w0 r qb xs p) := by
  have hmf : ∀ (fn : Fn) (first cap : Array Value) (w : World), (Instr.makeFunc fn first cap).run Tryz.prog w = .ok (.func fn first cap) w := fun _ _ _ _ => rfl
  obtain ⟨v, s0⟩ := st.toV
  have hp := s0.rdv.place
  obtain ⟨va, vn, vc, rfl⟩ : ∃ a n c, v = .slice a n c := by
    rcases s0.rdv.row.2 with ⟨e, _⟩ | ⟨g, cap, cur, e, _⟩
    · exact ⟨_, _, _, e⟩
    · exact ⟨_, _, _, e⟩
  obtain ⟨hc0, hc1, hf0, hf1⟩ := cell_two s0.rdv.head
  clear st
  have s1 := ((s0.newBox #[.slice none 0 0] 26).newBox #[.slice none 0 0] 26).newBox #[.int .i64 0] 22
  obtain ⟨gc0, gc1, gf0, gf1⟩ := cell_two (St.rdv (s1.front 3)).head
  have s2 := (s1.front 3).newBox #[.slice va vn vc, .int .i64 (p : Int)] 84
  have s3 := s2.swap.swapHead hp
  clear s1 s2 s0
  have z1 : (w.alloc (.cells #[.slice none 0 0] 26)).heap.size = w.heap.size + 1 := by simp
  have z2 : ((w.alloc (.cells #[.slice none 0 0] 26)).alloc (.cells #[.slice none 0 0] 26)).heap.size = w.heap.size + 1 + 1 := by simp
  have z3 : (((w.alloc (.cells #[.slice none 0 0] 26)).alloc (.cells #[.slice none 0 0] 26)).alloc (.cells #[.int .i64 0] 22)).heap.size = w.heap.size + 1 + 1 + 1 := by simp
  rw [z3, z2, z1] at s3
  clear z1 z2 z3
  have hrd := read_st s3
  go_enter_defers Tryz.func84, Tryz.ntmps84
  go_wp2_with fail
  refine hrd.mono ?_
  intro e w4 hg
  unfold ReadSt at hg
  have hb1 : w.heap.size ≠ w.heap.size + 1 := by omega
  have hb2 : w.heap.size ≠ w.heap.size + 1 + 1 := by omega
  have hb3 : w.heap.size + 1 ≠ w.heap.size + 1 + 1 := by omega
  generalize w.heap.size = n1 at *
  generalize n1 + 1 = n2 at *
  generalize n2 + 1 = n3 at *
  generalize n3 + 1 = ab at *
  clear hrd s3 hc0 hc1 hf0 hf1 gc0 gc1 gf0 gf1
  cases hh : headAt (row xs) p with
  | none =>
    rw [hh] at hg
    obtain ⟨rfl, p', s4⟩ := hg
    have s5 := (((((s4.front 4).setBox (.slice none 0 0)).front 4).setBox (.slice none 0 0)).front 4).setBox (.int .i64 2)
    change St B w0 _ (boxT n3 #[.int .i64 2] 22 :: boxT n2 #[.slice none 0 0] 26 :: boxT n1 #[.slice none 0 0] 26 :: rdvT ab (.slice va vn vc) xs p' :: boxT qb #[.slice va vn vc, .int .i64 (p : Int)] 84 :: r) at s5
    have hcatch := catch_oops n1 n2 n3 (.slice none 0 0) (.slice none 0 0) (.int .i64 0) w4 hb1 hb2 hb3 (St.boxAt (s4.front 4) 0).1 (St.boxAt (s4.front 3) 0).1 (St.boxAt (s4.front 2) 0).1 (St.boxAt (s4.front 4) 0).2 (St.boxAt (s4.front 3) 0).2 (St.boxAt (s4.front 2) 0).2
    go_wp2
    refine leaves_cons (f := 120) (args := #[.pointer (some ⟨n1, 0, none⟩), .pointer (some ⟨n2, 0, none⟩), .pointer (some ⟨n3, 0, none⟩)]) (by simp) (by simp [go_sem]) ?_
    refine hcatch.mono ?_
    rintro e u' w'' ⟨rfl, rfl, rfl⟩
    generalize ((w4.setCell ⟨n1, 0, none⟩ (.slice none 0 0)).setCell ⟨n2, 0, none⟩ (.slice none 0 0)).setCell ⟨n3, 0, none⟩ (.int .i64 2) = w5 at *
    have c3 : w5.cell? ⟨n3, 0, none⟩ = some (.int .i64 2) := (s5.boxAt 0).1
    have c2 : w5.cell? ⟨n2, 0, none⟩ = some (.slice none 0 0) := (St.boxAt (s5.front 1) 0).1
    have c1 : w5.cell? ⟨n1, 0, none⟩ = some (.slice none 0 0) := (St.boxAt (s5.front 2) 0).1
    have hfin : GotSt B w0 r qb xs p (.returned (.tuple #[.slice none 0 0, .slice none 0 0, .int .i64 2])) w5 := by
      unfold GotSt
      rw [hh]
      refine ⟨rfl, p, ?_⟩
      exact ((((s5.drop.drop.drop).swapHead hp).front 1).drop).ofV
    simp [Leaves, settle, results, Tryz.results84, go_sem, c1, c2, c3]
    exact hfin
  | some y =>
    rw [hh] at hg
    obtain ⟨v1, v2, rfl, s4⟩ := hg
    obtain ⟨y1, y2, q⟩ := y
    simp only at s4
    obtain ⟨d1, d2⟩ := s4.pair
    obtain ⟨a1, e1, rfl, -⟩ := d1
    obtain ⟨a2, e2, rfl, -⟩ := d2
    have x1 : w4.cell? ⟨n1, 0, none⟩ = some (.slice none 0 0) := (St.boxAt (s4.front 5) 0).1
    have x2 : w4.cell? ⟨n2, 0, none⟩ = some (.slice none 0 0) := (St.boxAt (s4.front 4) 0).1
    have u1 := (St.boxAt (s4.front 5) 0).2
    have u2 := (St.boxAt (s4.front 4) 0).2
    have s5 := (((s4.front 5).setBox (.slice a1 y1.length e1)).front 5).setBox (.slice a2 y2.length e2)
    obtain ⟨k0, k1, _, _⟩ := cell_two (St.rdv (s5.front 3)).head
    obtain ⟨k2, k4⟩ := St.boxAt (s5.front 4) 0
    obtain ⟨k3, k5⟩ := St.boxAt (s5.front 4) 1
    replace k2 : ((w4.setCell ⟨n1, 0, none⟩ (.slice a1 y1.length e1)).setCell ⟨n2, 0, none⟩ (.slice a2 y2.length e2)).cell? ⟨qb, 0, none⟩ = some (.slice va vn vc) := k2
    replace k3 : ((w4.setCell ⟨n1, 0, none⟩ (.slice a1 y1.length e1)).setCell ⟨n2, 0, none⟩ (.slice a2 y2.length e2)).cell? ⟨qb, 1, none⟩ = some (.int .i64 (p : Int)) := k3
    have s6 := (s5.front 4).setBox2 (.slice va vn vc) (.int .i64 (q : Int))
    go_wp2
    clear k0 k1 k2 k3 k4 k5 s5 s4 x1 x2
    generalize (((w4.setCell ⟨n1, 0, none⟩ (.slice a1 y1.length e1)).setCell ⟨n2, 0, none⟩ (.slice a2 y2.length e2)).setCell ⟨qb, 0, none⟩ (.slice va vn vc)).setCell ⟨qb, 1, none⟩ (.int .i64 (q : Int)) = w6 at s6 ⊢
    change St B w0 w6 (boxT qb #[.slice va vn vc, .int .i64 (q : Int)] 84 :: boxT n2 #[.slice a2 y2.length e2] 26 :: boxT n1 #[.slice a1 y1.length e1] 26 :: pairT (.slice a1 y1.length e1) y1 (.slice a2 y2.length e2) y2 :: rdvT ab (.slice va vn vc) xs q :: boxT n3 #[.int .i64 0] 22 :: r) at s6
    have c1 : w6.cell? ⟨n1, 0, none⟩ = some (.slice a1 y1.length e1) := (St.boxAt (s6.front 2) 0).1
    have c2 : w6.cell? ⟨n2, 0, none⟩ = some (.slice a2 y2.length e2) := (St.boxAt (s6.front 1) 0).1
    have c3 : w6.cell? ⟨n3, 0, none⟩ = some (.int .i64 0) := (St.boxAt (s6.front 5) 0).1
    have f1 := (St.boxAt (s6.front 2) 0).2
    have f2 := (St.boxAt (s6.front 1) 0).2
    have f3 := (St.boxAt (s6.front 5) 0).2
    go_region
    have s7 := ((((((s6.front 2).setBox (.slice a1 y1.length e1)).front 2).setBox (.slice a2 y2.length e2)).front 5).setBox (.int .i64 0)).drew
    change St B w0 _ (boxT n3 #[.int .i64 0] 22 :: boxT n2 #[.slice a2 y2.length e2] 26 :: boxT n1 #[.slice a1 y1.length e1] 26 :: boxT qb #[.slice va vn vc, .int .i64 (q : Int)] 84 :: pairT (.slice a1 y1.length e1) y1 (.slice a2 y2.length e2) y2 :: rdvT ab (.slice va vn vc) xs q :: r) at s7
    clear s6 c1 c2 c3 f1 f2 f3
    generalize (((w6.setCell ⟨n1, 0, none⟩ (.slice a1 y1.length e1)).setCell ⟨n2, 0, none⟩ (.slice a2 y2.length e2)).setCell ⟨n3, 0, none⟩ (.int .i64 0)).drew = w7 at *
    go_wp2
    refine leaves_cons (f := 120) (args := #[.pointer (some ⟨n1, 0, none⟩), .pointer (some ⟨n2, 0, none⟩), .pointer (some ⟨n3, 0, none⟩)]) (by simp) (by simp [go_sem]) ?_
    refine (catch_idle n1 n2 n3 w7).mono ?_
    rintro e u' w'' ⟨rfl, rfl, rfl⟩
    have c3 : w''.cell? ⟨n3, 0, none⟩ = some (.int .i64 0) := (s7.boxAt 0).1
    have c2 : w''.cell? ⟨n2, 0, none⟩ = some (.slice a2 y2.length e2) := (St.boxAt (s7.front 1) 0).1
    have c1 : w''.cell? ⟨n1, 0, none⟩ = some (.slice a1 y1.length e1) := (St.boxAt (s7.front 2) 0).1
    have hfin : GotSt B w0 r qb xs p (.returned (.tuple #[.slice a1 y1.length e1, .slice a2 y2.length e2, .int .i64 0])) w'' := by
      unfold GotSt
      rw [hh]
      refine ⟨_, _, rfl, ?_⟩
      have s8 := (s7.drop.drop.drop).front 2
      exact (((s8.swapHead (St.rdv s8).place).front 1).drop).ofV.swap
    simp [Leaves, settle, results, Tryz.results84, go_sem, c1, c2, c3]
    exact hfin

end
end Go.Proofs.YtpinfihmageeoaaGreat.Hd
