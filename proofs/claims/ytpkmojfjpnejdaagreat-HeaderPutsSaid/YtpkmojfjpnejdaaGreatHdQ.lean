/-
  Contracts of pressworkref09: class, single, Order, extra, Bits. No conditions but that slices are of at most 2^47 elements.
-/
import Derived.Test.YtpkmojfjpnejdaaGreatHdP
import Derived.Test.YtpkmojfjpnejdaaGreatGD
import Derived.Test.YtpkmojfjpnejdaaGreatGM
import Derived.Test.YtpkmojfjpnejdaaGreatBools
import Derived.Test.YtpkmojfjpnejdaaGreatInts
import Derived.Deep.QuietTactic
import Derived.BigQuiet
import Derived.IntWalk
namespace Go.Proofs.YtpkmojfjpnejdaaGreat.Hd
open Go.RowKit Kraft

attribute [local go_sem] Oper.semAt_some

/-- What class answers: 9, if a length is above 15. -/
def classH (L : List Nat) : Nat := if low15 L then class_ (weight L) else 9

theorem low15_big {L : List Nat} (i : Nat) (hi : i < L.length) (h : 15 < L[i]) : low15 L = false := by
  rw [Bool.eq_false_iff]
  intro e
  unfold low15 at e
  have := List.all_eq_true.1 e _ (List.getElem_mem hi)
  simp at this
  omega

theorem low15_of {L : List Nat} (h : ∀ (i : Nat) (hi : i < L.length), L[i] ≤ 15) : low15 L = true := by
  unfold low15
  rw [List.all_eq_true]
  intro x hx
  obtain ⟨i, hi, rfl⟩ := List.getElem_of_mem hx
  exact decide_eq_true (h i hi)

theorem may_of15 {L : List Nat} (h : low15 L = true) (hl : L.length ≤ 512) : may L = true :=
  (may_iff L).2 ⟨hl, fun x hx => by
    unfold low15 at h
    have := List.all_eq_true.1 h _ hx
    simp at this
    omega⟩

set_option maxRecDepth 100000 in
/-- class. -/
theorem refClass_any (w : World) (v : Value) (L : List Nat) (h : ByteRow w v L) (hl : L.length ≤ 512) :
    Calls Tryz.prog 33 #[v] w fun e w' => e = .returned (.int .u8 (classH L : Int)) ∧ w = w' := by
  have hrow := h
  obtain ⟨a, cap, rfl, hc, hn, hat⟩ := h
  go_enter Tryz.func33, Tryz.ntmps33
  go_wp2
  go_loopw [3] (fun i wr => ∃ k : Nat, k ≤ L.length ∧ i = .int .i64 (k : Int) ∧ (∀ j (hj : j < L.length), j < k → L[j] ≤ 15) ∧ wr = w) (fun i _ => L.length - (intOf i).toNat)
  case atStart => exact ⟨0, by omega, rfl, fun j _ hj => absurd hj (by omega), rfl⟩
  case round =>
    obtain ⟨k, hk, rfl, hall, rfl⟩ := hrel
    have HA := Lib.hid hall
    clear hall
    by_cases hlt : k < L.length
    · obtain ⟨hx, b0, off, rfl, c0⟩ := hat k hlt
      have H1 : 15 < L[k] → classH L = 9 := fun h => by unfold classH; rw [low15_big k hlt h]; rfl
      have H2 : L[k] ≤ 15 → ∀ j (hj : j < L.length), j < k + 1 → L[j] ≤ 15 := fun h j hj hjk => by
        by_cases e : j = k
        · subst e; exact h
        · exact HA.out j hj (by omega)
      have H2 := Lib.hid H2
      generalize L[k] = x at hx c0 H1 H2
      by_cases hx15 : 15 < x
      · go_wp2
        go_ret
        exact ⟨by rw [H1 hx15]; rfl, rfl⟩
      · go_wp2
        go_roundw
        case rel => exact ⟨k + 1, by omega, by go_num, H2.out (by omega), trivial⟩
        case measure => simp [intOf]; omega
    · obtain rfl : k = L.length := by omega
      have h15 := low15_of (fun i hi => HA.out i hi hi)
      have hm := may_of15 h15 hl
      have hcl := refClassify_any wr _ L hrow (by omega)
      unfold classAns at hcl
      rw [if_pos hm] at hcl
      have hq : classH L = class_ (weight L) := by unfold classH; rw [if_pos h15]
      generalize class_ (weight L) = z at hcl hq
      have HQ := Lib.hid hq
      clear hq hm h15
      go_wp2_with fail
      refine hcl.mono ?_
      rintro e w1 ⟨rfl, rfl⟩
      go_wp2
      go_ret
      exact ⟨by rw [HQ.out]; rfl, rfl⟩

set_option maxRecDepth 100000 in
set_option maxHeartbeats 1000000 in
/-- single. -/
theorem refSingle_any (w : World) (v : Value) (L : List Nat) (h : ByteRow w v L) (hl : L.length ≤ 140737488355328) :
    Calls Tryz.prog 49 #[v] w fun e w' => e = .returned (.bool (single L)) ∧ w = w' := by
  obtain ⟨a, cap, rfl, hc, hn, hat⟩ := h
  go_enter Tryz.func49, Tryz.ntmps49
  go_wp2
  go_loopw [3, 4, 5] (fun s o i wr => ∃ k : Nat, k ≤ L.length ∧ i = .int .i64 (k : Int) ∧ s = .int .i64 (somes L k : Int) ∧ o = .int .i64 (ones L k : Int) ∧ wr = w) (fun _ _ i _ => L.length - (intOf i).toNat)
  case atStart => exact ⟨0, by omega, rfl, rfl, rfl, rfl⟩
  case round =>
    obtain ⟨k, hk, rfl, rfl, rfl, rfl⟩ := hrel
    by_cases hlt : k < L.length
    · obtain ⟨hx, b0, off, rfl, c0⟩ := hat k hlt
      have hs := somes_le L k
      have ho := ones_le L k
      have HS := somes_succ L k hlt
      have HO := ones_succ L k hlt
      have HS := Lib.hid HS
      have HO := Lib.hid HO
      generalize somes L k = s at hs HS
      generalize ones L k = o at ho HO
      generalize L[k] = x at hx c0 HS HO
      by_cases h0 : x = 0
      · subst h0
        go_wp2
        go_roundw
        case rel => exact ⟨k + 1, by omega, by go_num, by rw [HS.out]; rfl, by rw [HO.out]; rfl, trivial⟩
        case measure => simp [intOf]; omega
      · by_cases h1 : x = 1
        · subst h1
          go_wp2
          go_roundw
          case rel => exact ⟨k + 1, by omega, by go_num, by rw [HS.out]; go_num, by rw [HO.out]; go_num, trivial⟩
          case measure => simp [intOf]; omega
        · have h2 : 0 < x := by omega
          go_wp2
          go_roundw
          case rel => exact ⟨k + 1, by omega, by go_num, by rw [HS.out, if_neg h0]; go_num, by rw [HO.out, if_neg h1]; go_num, trivial⟩
          case measure => simp [intOf]; omega
    · obtain rfl : k = L.length := by omega
      have HE := Lib.hid (show single L = (decide (somes L L.length = 1) && decide (ones L L.length = 1)) from rfl)
      generalize somes L L.length = s at HE
      generalize ones L L.length = o at HE
      obtain ⟨z, hz⟩ : ∃ z, single L = z := ⟨_, rfl⟩
      rw [hz] at HE
      have HZ := Lib.hid hz
      clear hz
      by_cases h1 : s = 1
      · subst h1
        by_cases h2 : o = 1
        · subst h2
          go_wp2
          go_ret
          exact ⟨by rw [HZ.out, HE.out]; rfl, rfl⟩
        · have d2 : ((o : Int) == 1) = false := by simp; omega
          go_wp2
          go_ret
          exact ⟨by rw [HZ.out, HE.out]; simp [h2], rfl⟩
      · go_wp2
        go_ret
        exact ⟨by rw [HZ.out, HE.out]; simp [h1], rfl⟩

theorem single_15 {L : List Nat} (h : single L = true) : low15 L = true := by
  unfold single at h
  simp only [Bool.and_eq_true, decide_eq_true_eq] at h
  obtain ⟨h1, h2⟩ := h
  refine low15_of fun i hi => ?_
  -- the one length that is not 0 is 1
  have hle : ∀ k, ones L k ≤ somes L k := by
    intro k
    unfold ones somes
    exact sumTo_le fun j _ => by split <;> split <;> omega
  by_cases h0 : L[i] ≤ 15
  · exact h0
  · exfalso
    have key : ∀ k, k ≤ L.length → i < k → ones L k + 1 ≤ somes L k := by
      intro k
      induction k with
      | zero => intro _ h; omega
      | succ k ih =>
        intro hk hik
        have e1 := somes_succ L k (by omega)
        have e2 := ones_succ L k (by omega)
        by_cases e : i = k
        · subst e
          rw [if_neg (by omega)] at e1
          rw [if_neg (by omega)] at e2
          have := hle i
          omega
        · have := ih (by omega) (by omega)
          have h3 : (if L[k] = 1 then 1 else 0) ≤ (if L[k] = 0 then 0 else 1) := by split <;> split <;> omega
          omega
    have := key L.length (Nat.le_refl _) hi
    omega

set_option maxRecDepth 100000 in
/-- extra. -/
theorem refExtra_any (w : World) (c : Nat) : Calls Tryz.prog 37 #[.int .i64 (c : Int)] w fun e w' => e = .returned (.int .i64 (Rep.bitsOf' c : Int)) ∧ w = w' := by
  unfold Rep.bitsOf'
  by_cases h1 : c = 16
  · subst h1
    go_enter Tryz.func37, Tryz.ntmps37
    go_wp2
    go_ret
    exact ⟨rfl, rfl⟩
  · rw [if_neg h1]
    by_cases h2 : c = 17
    · subst h2
      go_enter Tryz.func37, Tryz.ntmps37
      go_wp2
      go_ret
      exact ⟨rfl, rfl⟩
    · rw [if_neg h2]
      by_cases h3 : c = 18
      · subst h3
        go_enter Tryz.func37, Tryz.ntmps37
        go_wp2
        go_ret
        exact ⟨rfl, rfl⟩
      · rw [if_neg h3]
        have b1 : ((c : Int) == 16) = false := by rw [beq_eq_false_iff_ne]; omega
        have b2 : ((c : Int) == 17) = false := by rw [beq_eq_false_iff_ne]; omega
        have b3 : ((c : Int) == 18) = false := by rw [beq_eq_false_iff_ne]; omega
        go_enter Tryz.func37, Tryz.ntmps37
        go_wp2
        go_ret
        exact ⟨rfl, rfl⟩

set_option maxRecDepth 100000 in
/-- Order. -/
theorem refOrder_any (w : World) : Calls Tryz.prog 32 #[] w fun e w' => ∃ v, e = .returned v ∧ NumRow w' v order ∧ Below w.heap.size w w' := by
  go_enter Tryz.func32, Tryz.ntmps32
  go_wp2
  go_ret
  exact ⟨_, rfl, numRow_lit _ [16, 17, 18, 0, 8, 7, 9, 6, 10, 5, 11, 4, 12, 3, 13, 2, 14, 1, 15] _ _, below_alloc w _⟩

set_option maxRecDepth 100000 in
/-- Bits: a row's bits as numbers. -/
theorem refBits9_st {B : Nat} {w0 w : World} {r : List Thing} (st : St B w0 w r) (v : Value) (R : List Bool) (h : ∀ W, St B w0 W r → RowAt W v R) (hl : R.length ≤ 1000000) :
    Calls Tryz.prog 35 #[v] w (BytesSt B w0 r (nats R)) := by
  obtain ⟨a, cap, rfl, -⟩ := h w st
  have HR := Lib.hid h
  clear h
  obtain ⟨i0, hi, hz0, hz1, hz2⟩ := info_parts info8
  go_enter Tryz.func35, Tryz.ntmps35
  go_wp2
  go_loopw [3, 4, 5] (fun ov iv _ wr => ∃ k : Nat, k ≤ R.length ∧ iv = .int .i64 (k : Int) ∧ St B w0 wr (rowT 5 1 ov k (u8s (nats (R.take k))) :: r)) (fun _ iv _ _ => R.length - (intOf iv).toNat)
  case atStart => exact ⟨0, Nat.zero_le _, rfl, by rw [List.take_zero]; exact st.addNil⟩
  case round =>
    obtain ⟨k, hk, rfl, t1⟩ := hrel
    by_cases hlt : k < R.length
    · obtain ⟨a', cap', e1, _, _, hat⟩ := HR.out _ t1.drop
      obtain ⟨rfl, -, rfl⟩ := Value.slice.inj e1
      obtain ⟨b, off, rfl, c0⟩ := hat k hlt
      have HB := Lib.hid (show R.take (k + 1) = R.take k ++ [R[k]] from List.take_succ_eq_append_getElem hlt)
      clear hat e1
      generalize R[k] = x at c0 HB
      cases x
      · go_wp2_with (at_builtin; refine wpList_append_one rfl _ _ 22 rfl 5 i0 (.int .u8 0) 1 1 Tryz.underlying22 hi hz0 hz1 hz2 rfl (by decide) t1 rfl [.int .u8 0] rfl rfl ?oneCell (by unfold maxLen; omega) (by omega) ?_)
        case oneCell => first | rfl | (intro u hu; simp at hu; subst hu; rfl)
        intro v' w5 t5
        go_wp2
        go_roundw
        case rel => exact ⟨k + 1, by omega, by go_num, by rw [HB.out, nats_append, u8s_append]; exact t5⟩
        case measure => simp [intOf]; omega
      · go_wp2_with (at_builtin; refine wpList_append_one rfl _ _ 22 rfl 5 i0 (.int .u8 0) 1 1 Tryz.underlying22 hi hz0 hz1 hz2 rfl (by decide) t1 rfl [.int .u8 1] rfl rfl ?oneCell (by unfold maxLen; omega) (by omega) ?_)
        case oneCell => first | rfl | (intro u hu; simp at hu; subst hu; rfl)
        intro v' w5 t5
        go_wp2
        go_roundw
        case rel => exact ⟨k + 1, by omega, by go_num, by rw [HB.out, nats_append, u8s_append]; exact t5⟩
        case measure => simp [intOf]; omega
    · obtain rfl : k = R.length := by omega
      go_wp2
      go_ret
      rw [List.take_of_length_le (Nat.le_refl _)] at t1
      exact ⟨_, rfl, by rw [nats_length]; exact t1⟩

end Go.Proofs.YtpkmojfjpnejdaaGreat.Hd
