/-
  Contract of pressworkref09: May. No conditions but that slices are of at most 2^47 elements.
-/
import Derived.Test.YtpkmojfjpnejdaaGreatHdQ
namespace Go.Proofs.YtpkmojfjpnejdaaGreat.Hd
open Go.RowKit Kraft

attribute [local go_sem] Oper.semAt_some

theorem class_full (L : List Nat) (h : low15 L = true) : decide (classH L = 2) = full L ∧ decide (classH L = 0) = decide (weight L = 0) := by
  unfold classH full class_
  rw [if_pos h]
  constructor
  · refine decide_eq_decide.2 ?_
    split
    · omega
    · split
      · omega
      · split <;> omega
  · refine decide_eq_decide.2 ?_
    split
    · omega
    · split
      · omega
      · split <;> omega

theorem mayH_class {P Q : List Nat} (h : 257 ≤ P.length ∧ P.length ≤ 286 ∧ 1 ≤ Q.length ∧ Q.length ≤ 30 ∧ len P 256 ≠ 0) :
    mayH P Q = ((decide (classH P = 2) || single P) && (decide (classH Q = 2) || decide (classH Q = 0) || single Q)) := by
  unfold mayH
  rw [decide_eq_true h, Bool.true_and]
  cases hp : low15 P with
  | false =>
    have h1 : single P = false := by rw [Bool.eq_false_iff]; intro e; rw [single_15 e] at hp; cases hp
    have h2 : decide (classH P = 2) = false := decide_eq_false (by unfold classH; rw [hp]; simp)
    rw [h1, h2]
    rfl
  | true =>
    rw [(class_full P hp).1, Bool.true_and]
    cases hq : low15 Q with
    | false =>
      have h1 : single Q = false := by rw [Bool.eq_false_iff]; intro e; rw [single_15 e] at hq; cases hq
      have h2 : decide (classH Q = 2) = false := decide_eq_false (by unfold classH; rw [hq]; simp)
      have h3 : decide (classH Q = 0) = false := decide_eq_false (by unfold classH; rw [hq]; simp)
      rw [h1, h2, h3]
      simp
    | true => rw [(class_full Q hq).1, (class_full Q hq).2, Bool.true_and]

theorem mayH_not {P Q : List Nat} (h : ¬ (257 ≤ P.length ∧ P.length ≤ 286 ∧ 1 ≤ Q.length ∧ Q.length ≤ 30 ∧ len P 256 ≠ 0)) : mayH P Q = false := by
  unfold mayH
  rw [decide_eq_false h]
  rfl

set_option maxRecDepth 100000 in
set_option maxHeartbeats 4000000 in
/-- May. -/
theorem refMayH_any (w : World) (va vb : Value) (P Q : List Nat) (hp : ByteRow w va P) (hq : ByteRow w vb Q) (hlp : P.length ≤ 140737488355328) (hlq : Q.length ≤ 140737488355328) :
    Calls Tryz.prog 19 #[va, vb] w fun e w' => e = .returned (.bool (mayH P Q)) ∧ w = w' := by
  have hp0 := hp
  have hq0 := hq
  obtain ⟨a, ca, rfl, hca, _, hat⟩ := hp
  obtain ⟨b, cb, rfl, hcb, _, _⟩ := hq
  obtain ⟨z, hz⟩ : ∃ z, mayH P Q = z := ⟨_, rfl⟩
  rw [hz]
  by_cases h1 : P.length < 257
  · rw [mayH_not (by omega)] at hz
    subst hz
    go_enter Tryz.func19, Tryz.ntmps19
    go_wp2
    go_ret
    exact ⟨rfl, rfl⟩
  · by_cases h2 : 286 < P.length
    · rw [mayH_not (by omega)] at hz
      subst hz
      go_enter Tryz.func19, Tryz.ntmps19
      go_wp2
      go_ret
      exact ⟨rfl, rfl⟩
    · by_cases h3 : Q.length < 1
      · rw [mayH_not (by omega)] at hz
        subst hz
        go_enter Tryz.func19, Tryz.ntmps19
        go_wp2
        go_ret
        exact ⟨rfl, rfl⟩
      · by_cases h4 : 30 < Q.length
        · rw [mayH_not (by omega)] at hz
          subst hz
          go_enter Tryz.func19, Tryz.ntmps19
          go_wp2
          go_ret
          exact ⟨rfl, rfl⟩
        · obtain ⟨hx, g, off, rfl, c0⟩ := hat 256 (by omega)
          have hlen : len P 256 = P[256] := len_at P 256 (by omega)
          have hmc := fun h => mayH_class (P := P) (Q := Q) h
          rw [hlen, hz] at hmc
          have hno := fun h => mayH_not (P := P) (Q := Q) h
          rw [hlen, hz] at hno
          generalize P[256] = x at hx c0 hmc hno
          clear hlen hz hat
          by_cases h5 : x = 0
          · subst h5
            obtain rfl := hno (by omega)
            go_enter Tryz.func19, Tryz.ntmps19
            go_wp2
            go_ret
            exact ⟨rfl, rfl⟩
          · have hmc := hmc ⟨by omega, by omega, by omega, by omega, h5⟩
            have d5 : ((x : Int) == 0) = false := by rw [beq_eq_false_iff_ne]; omega
            have k1 := refClass_any w _ P hp0 (by omega)
            have k2 := refClass_any w _ Q hq0 (by omega)
            have s1 := refSingle_any w _ P hp0 (by omega)
            have s2 := refSingle_any w _ Q hq0 (by omega)
            clear hno hp0 hq0
            generalize classH P = z1 at hmc k1
            generalize classH Q = z2 at hmc k2
            generalize single P = p1 at hmc s1
            generalize single Q = p2 at hmc s2
            have HM := Lib.hid hmc
            clear hmc
            have hfin : ∀ y : Bool, y = z → ∀ W, w = W → (Ending.returned (.bool y) = .returned (.bool z) ∧ w = W) := fun y h W e => ⟨by rw [h], e⟩
            have hc1 : z1 = 2 ∨ (z1 ≠ 2 ∧ p1 = true) ∨ (z1 ≠ 2 ∧ p1 = false) := by
              by_cases h : z1 = 2
              · exact .inl h
              · cases p1
                · exact .inr (.inr ⟨h, rfl⟩)
                · exact .inr (.inl ⟨h, rfl⟩)
            have hc2 : z2 = 2 ∨ z2 = 0 ∨ (z2 ≠ 2 ∧ z2 ≠ 0) := by omega
            go_enter Tryz.func19, Tryz.ntmps19
            go_wp2_with fail
            refine k1.mono ?_
            rintro e w1 ⟨rfl, rfl⟩
            go_wp2_with fail
            refine k2.mono ?_
            rintro e w1 ⟨rfl, rfl⟩
            clear k1 k2 c0 d5 hx h1 h2 h3 h4 h5
            rcases hc1 with rfl | ⟨n1, rfl⟩ | ⟨n1, rfl⟩
            · rcases hc2 with rfl | rfl | ⟨n2, n3⟩
              · go_wp2
                go_ret
                exact hfin _ (by rw [HM.out]; rfl) _ rfl
              · go_wp2
                go_ret
                exact hfin _ (by rw [HM.out]; rfl) _ rfl
              · have d2 : ((z2 : Int) == 2) = false := by rw [beq_eq_false_iff_ne]; omega
                have d3 : ((z2 : Int) == 0) = false := by rw [beq_eq_false_iff_ne]; omega
                go_wp2_with (go_at_call 49; refine s2.mono ?_; rintro e w2 ⟨rfl, rfl⟩)
                go_ret
                exact hfin _ (by rw [HM.out, decide_eq_false n2, decide_eq_false n3]; simp) _ rfl
            · have d1 : ((z1 : Int) == 2) = false := by rw [beq_eq_false_iff_ne]; omega
              rcases hc2 with rfl | rfl | ⟨n2, n3⟩
              · go_wp2_with (go_at_call 49; refine s1.mono ?_; rintro e w2 ⟨rfl, rfl⟩)
                go_ret
                exact hfin _ (by rw [HM.out]; simp) _ rfl
              · go_wp2_with (go_at_call 49; refine s1.mono ?_; rintro e w2 ⟨rfl, rfl⟩)
                go_ret
                exact hfin _ (by rw [HM.out]; simp) _ rfl
              · have d2 : ((z2 : Int) == 2) = false := by rw [beq_eq_false_iff_ne]; omega
                have d3 : ((z2 : Int) == 0) = false := by rw [beq_eq_false_iff_ne]; omega
                go_wp2_with (first | (go_at_call 49; refine s1.mono ?_; rintro e w2 ⟨rfl, rfl⟩; clear s1) | (go_at_call 49; refine s2.mono ?_; rintro e w2 ⟨rfl, rfl⟩))
                go_ret
                exact hfin _ (by rw [HM.out, decide_eq_false n2, decide_eq_false n3]; simp) _ rfl
            · have d1 : ((z1 : Int) == 2) = false := by rw [beq_eq_false_iff_ne]; omega
              go_wp2_with (go_at_call 49; refine s1.mono ?_; rintro e w2 ⟨rfl, rfl⟩)
              go_ret
              exact hfin _ (by rw [HM.out, decide_eq_false n1]; rfl) _ rfl

end Go.Proofs.YtpkmojfjpnejdaaGreat.Hd
