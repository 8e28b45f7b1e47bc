/-
  Contracts of package token: what is a byte, what is a repetition; what is neither is sought. No conditions but those of the calls.
-/
import Derived.Test.YtmooiheomecieaaTokS
import Derived.Test.YtmooiheomecieaaBox
import Derived.Deep.QuietTactic
import Derived.BigQuiet
import Derived.IntWalk
namespace Go.Proofs.Ytmooiheomecieaa.Tok
open Go.RowKit

theorem _root_.Go.RowKit.Below.drewN {B : Nat} {a w : World} (h : Below B a w) (n : Nat) : Below B a (w.drewN n) := ⟨h.os, h.tape, h.output, h.size, h.block⟩

theorem isByte_any (w : World) (t : Tk) : Calls Try.prog 29 #[tkV t] w fun e w' => e = .returned (.bool (isB t)) ∧ Below w.heap.size w w' := by
  obtain ⟨L, D, y⟩ := t
  have hf : isB (L, D, y) = (decide (L = 0) && decide (D = 0)) := rfl
  rw [hf]
  go_enter Try.func29, Try.ntmps29
  by_cases h1 : L = 0
  · have d1 : (L == 0) = true := beq_iff_eq.2 h1
    have e1 : decide (L = 0) = true := decide_eq_true h1
    rw [e1]
    clear e1 h1
    by_cases h2 : D = 0
    · have d2 : (D == 0) = true := beq_iff_eq.2 h2
      have e2 : decide (D = 0) = true := decide_eq_true h2
      rw [e2]
      clear e2 h2
      go_wp2
      go_ret
      exact ⟨rfl, below_alloc w _⟩
    · have d2 : (D == 0) = false := beq_eq_false_iff_ne.2 h2
      have e2 : decide (D = 0) = false := decide_eq_false h2
      rw [e2]
      clear e2 h2
      go_wp2
      go_ret
      exact ⟨rfl, below_alloc w _⟩
  · have d1 : (L == 0) = false := beq_eq_false_iff_ne.2 h1
    have e1 : decide (L = 0) = false := decide_eq_false h1
    rw [e1]
    clear e1 h1
    go_wp2
    go_ret
    exact ⟨rfl, below_alloc w _⟩

/-- Five tests, one behind the other. -/
def five (a b c d e : Bool) : Bool := a && b && c && d && e

set_option maxRecDepth 100000 in
set_option maxHeartbeats 2000000 in
theorem isRepetition_any (w : World) (t : Tk) : Calls Try.prog 30 #[tkV t] w fun e w' => e = .returned (.bool (isR t)) ∧ Below w.heap.size w w' := by
  obtain ⟨L, D, y⟩ := t
  have hf : isR (L, D, y) = five (decide (y = 0)) (decide (3 ≤ L)) (decide (L ≤ 258)) (decide (1 ≤ D)) (decide (D ≤ 32768)) := rfl
  rw [hf]
  have hfin : ∀ b b' : Bool, b = b' → ∀ W, Below w.heap.size w W → (Ending.returned (.bool b) = .returned (.bool b') ∧ Below w.heap.size w W) := fun b b' h W hb => ⟨by rw [h], hb⟩
  go_enter Try.func30, Try.ntmps30
  by_cases h1 : y = 0
  · have d1 : ((y : Int) == 0) = true := beq_iff_eq.2 (by omega)
    rw [decide_eq_true h1]
    clear h1
    by_cases h2 : 3 ≤ L
    · rw [decide_eq_true h2]
      by_cases h3 : L ≤ 258
      · rw [decide_eq_true h3]
        by_cases h4 : 1 ≤ D
        · rw [decide_eq_true h4]
          by_cases h5 : D ≤ 32768
          · rw [decide_eq_true h5]
            go_wp2
            go_ret
            exact hfin _ _ rfl _ (below_alloc w _)
          · rw [decide_eq_false h5]
            go_wp2
            go_ret
            exact hfin _ _ rfl _ (below_alloc w _)
        · rw [decide_eq_false h4]
          go_wp2
          go_ret
          exact hfin _ _ rfl _ (below_alloc w _)
      · rw [decide_eq_false h3]
        go_wp2
        go_ret
        exact hfin _ _ rfl _ (below_alloc w _)
    · rw [decide_eq_false h2]
      go_wp2
      go_ret
      exact hfin _ _ rfl _ (below_alloc w _)
  · have d1 : ((y : Int) == 0) = false := beq_eq_false_iff_ne.2 (by omega)
    rw [decide_eq_false h1]
    clear h1
    go_wp2
    go_ret
    exact hfin _ _ rfl _ (below_alloc w _)

/-- The closure that tells what is neither. -/
theorem neither_any (w : World) (t : Tk) : Calls Try.prog 28 #[tkV t] w fun e w' => e = .returned (.bool (!may t)) ∧ Below w.heap.size w w' := by
  have h1 := fun W => isByte_any W t
  have h2 := fun W => isRepetition_any W t
  obtain ⟨L, D, y⟩ := t
  have hm : may (L, D, y) = (isB (L, D, y) || isR (L, D, y)) := rfl
  rw [hm]
  generalize isB (L, D, y) = b at *
  generalize isR (L, D, y) = q at *
  have ha := below_alloc w (.cells #[.int .i64 L, .int .i64 D, .int .u8 (y : Int)] 37)
  have s0 := (St.start w).newBox #[.int .i64 L, .int .i64 D, .int .u8 (y : Int)] 37
  go_enter Try.func28, Try.ntmps28
  cases b with
  | true =>
    go_wp2_with (go_at_call 29; refine (h1 _).mono ?_; rintro e w1 ⟨rfl, hb1⟩)
    go_ret
    exact ⟨by simp, ha.trans (hb1.mono ha.size)⟩
  | false =>
    cases q with
    | true =>
      go_wp2_with (first | (go_at_call 29; refine (h1 _).mono ?_; rintro e w1 ⟨rfl, hb1⟩; have f0 := ((s0.quiet hb1).boxAt 0).1; have f1 := ((s0.quiet hb1).boxAt 1).1; have f2 := ((s0.quiet hb1).boxAt 2).1) | (go_at_call 30; refine (h2 _).mono ?_; rintro e w2 ⟨rfl, hb2⟩))
      go_ret
      have hb3 := ha.trans (hb1.mono ha.size)
      exact ⟨by simp, hb3.trans (hb2.mono hb3.size)⟩
    | false =>
      go_wp2_with (first | (go_at_call 29; refine (h1 _).mono ?_; rintro e w1 ⟨rfl, hb1⟩; have f0 := ((s0.quiet hb1).boxAt 0).1; have f1 := ((s0.quiet hb1).boxAt 1).1; have f2 := ((s0.quiet hb1).boxAt 2).1) | (go_at_call 30; refine (h2 _).mono ?_; rintro e w2 ⟨rfl, hb2⟩))
      go_ret
      have hb3 := ha.trans (hb1.mono ha.size)
      exact ⟨by simp, hb3.trans (hb2.mono hb3.size)⟩

set_option maxRecDepth 100000 in
set_option maxHeartbeats 2000000 in
/-- The document's word on what may be. -/
theorem refMay_any (w : World) (t : Tk) : Calls Try.prog 32 #[tkV t] w fun e w' => e = .returned (.bool (may t)) ∧ Below w.heap.size w w' := by
  obtain ⟨L, D, y⟩ := t
  have hf : may (L, D, y) = ((decide (L = 0) && decide (D = 0)) || five (decide (y = 0)) (decide (3 ≤ L)) (decide (L ≤ 258)) (decide (1 ≤ D)) (decide (D ≤ 32768))) := rfl
  rw [hf]
  have hfin : ∀ b b' : Bool, b = b' → ∀ W, Below w.heap.size w W → (Ending.returned (.bool b) = .returned (.bool b') ∧ Below w.heap.size w W) := fun b b' h W hb => ⟨by rw [h], hb⟩
  go_enter Try.func32, Try.ntmps32
  by_cases hb : L = 0 ∧ D = 0
  · obtain ⟨rfl, rfl⟩ := hb
    go_wp2
    go_ret
    exact hfin _ _ rfl _ (below_alloc w _)
  · have hq : (decide (L = 0) && decide (D = 0)) = false := by
      rw [Bool.and_eq_false_iff]
      by_cases h : L = 0
      · exact .inr (decide_eq_false fun h2 => hb ⟨h, h2⟩)
      · exact .inl (decide_eq_false h)
    rw [hq, Bool.false_or]
    have hz : (L == 0) = false ∨ ((L == 0) = true ∧ (D == 0) = false) := by
      by_cases h : L = 0
      · exact .inr ⟨beq_iff_eq.2 h, beq_eq_false_iff_ne.2 fun h2 => hb ⟨h, h2⟩⟩
      · exact .inl (beq_eq_false_iff_ne.2 h)
    clear hb hq hf
    rcases hz with z1 | ⟨z1, z2⟩
    all_goals
      by_cases h1 : y = 0
      · have d1 : ((y : Int) == 0) = true := beq_iff_eq.2 (by omega)
        rw [decide_eq_true h1]
        clear h1
        by_cases h2 : 3 ≤ L
        · rw [decide_eq_true h2]
          by_cases h3 : L ≤ 258
          · rw [decide_eq_true h3]
            by_cases h4 : 1 ≤ D
            · rw [decide_eq_true h4]
              by_cases h5 : D ≤ 32768
              · rw [decide_eq_true h5]
                go_wp2
                go_ret
                exact hfin _ _ rfl _ (below_alloc w _)
              · rw [decide_eq_false h5]
                go_wp2
                go_ret
                exact hfin _ _ rfl _ (below_alloc w _)
            · rw [decide_eq_false h4]
              go_wp2
              go_ret
              exact hfin _ _ rfl _ (below_alloc w _)
          · rw [decide_eq_false h3]
            go_wp2
            go_ret
            exact hfin _ _ rfl _ (below_alloc w _)
        · rw [decide_eq_false h2]
          go_wp2
          go_ret
          exact hfin _ _ rfl _ (below_alloc w _)
      · have d1 : ((y : Int) == 0) = false := beq_eq_false_iff_ne.2 (by omega)
        rw [decide_eq_false h1]
        clear h1
        go_wp2
        go_ret
        exact hfin _ _ rfl _ (below_alloc w _)

/-- slices.IndexFunc over tokens. -/
theorem indexT_any (w : World) (v : Value) (L : List Tk) (h : TokRow w v L) (hl : L.length ≤ 140737488355328) :
    Calls Try.prog 37 #[v, .func (.func 28) #[] #[]] w fun e w' => (∃ i : Int, e = .returned (.int .i64 i) ∧ decide (0 ≤ i) = !L.all may) ∧ Below w.heap.size w w' := by
  have hrow := fun W hB => h.below (B := w.heap.size) (w' := W) hB (Nat.le_refl _)
  obtain ⟨a, cap, rfl, hc, hmx, hn, hat⟩ := h
  obtain ⟨t, ht⟩ : ∃ t, (!L.all may) = t := ⟨_, rfl⟩
  rw [ht]
  have HT := Lib.hid ht
  clear ht hat
  go_enter Try.func37, Try.ntmps37
  go_wp2
  go_loopw [5, 8] (fun _ i wr => ∃ k : Nat, k ≤ L.length ∧ i = .int .i64 (k : Int) ∧ (∀ j (hj : j < L.length), j < k → may L[j] = true) ∧ Below w.heap.size w wr) (fun _ i _ => L.length - (intOf i).toNat)
  case atStart => exact ⟨0, Nat.zero_le _, rfl, fun j _ hj => absurd hj (Nat.not_lt_zero _), Below.refl _ _⟩
  case round =>
    obtain ⟨k, hk, rfl, hb, hB⟩ := hrel
    by_cases hlt : k < L.length
    · obtain ⟨a', cap', e1, _, _, _, hat⟩ := hrow _ hB
      obtain ⟨rfl, -, rfl⟩ := Value.slice.inj e1
      obtain ⟨hin, b, off, rfl, c0, c1, c2⟩ := hat k hlt
      obtain ⟨tl, td, ty, hy'⟩ : ∃ tl td ty, L[k] = (tl, td, ty) := ⟨_, _, _, rfl⟩
      rw [hy'] at c0 c1 c2
      have HB := Lib.hid hb
      have HY := Lib.hid hy'
      clear hb hy' hat hrow e1 hin
      have hba := fun W => neither_any W (tl, td, ty)
      have HF : ∃ f, may (tl, td, ty) = f := ⟨_, rfl⟩
      obtain ⟨f, hf⟩ := HF
      rw [hf] at hba
      have HF := Lib.hid hf
      clear hf
      cases f with
      | false =>
        go_wp2_with (go_at_call 28; refine (hba _).mono ?_; rintro e w1 ⟨rfl, hb1⟩)
        go_ret
        refine ⟨⟨k, rfl, ?_⟩, hB.trans (hb1.mono hB.size)⟩
        rw [← HT.out]
        have e1 : L.all may = false := by
          rw [List.all_eq_false]
          exact ⟨L[k], List.getElem_mem hlt, by rw [HY.out, HF.out]; simp⟩
        rw [e1]
        simp
      | true =>
        go_wp2_with (go_at_call 28; refine (hba _).mono ?_; rintro e w1 ⟨rfl, hb1⟩)
        go_roundw
        case rel =>
          refine ⟨k + 1, by omega, by go_num, fun j hj hjk => ?_, hB.trans (hb1.mono hB.size)⟩
          by_cases e : j = k
          · subst e
            rw [HY.out]
            exact HF.out
          · exact HB.out j hj (by omega)
        case measure => simp [intOf]; omega
    · obtain rfl : k = L.length := by omega
      have e1 : t = false := by
        rw [← HT.out]
        have : L.all may = true := by
          rw [List.all_eq_true]
          intro x hx
          obtain ⟨i, hi, rfl⟩ := List.getElem_of_mem hx
          exact hb i hi hi
        rw [this]; rfl
      subst e1
      go_wp2
      go_ret
      exact ⟨⟨-1, rfl, rfl⟩, hB⟩

/-- slices.ContainsFunc over tokens. -/
theorem containsT_any (w : World) (v : Value) (L : List Tk) (h : TokRow w v L) (hl : L.length ≤ 140737488355328) :
    Calls Try.prog 27 #[v, .func (.func 28) #[] #[]] w fun e w' => e = .returned (.bool (!L.all may)) ∧ Below w.heap.size w w' := by
  have hi := indexT_any w v L h hl
  obtain ⟨t, ht⟩ : ∃ t, (!L.all may) = t := ⟨_, rfl⟩
  rw [ht] at hi ⊢
  clear ht
  go_enter Try.func27, Try.ntmps27
  go_wp2_with (go_at_call 37; refine hi.mono ?_; rintro e w1 ⟨⟨i, rfl, hd⟩, hb⟩)
  go_ret
  exact ⟨rfl, hb⟩

end Go.Proofs.Ytmooiheomecieaa.Tok
