/-
  pressworkref05.one: one place of the table. No conditions but those of its numbers.
-/
import Derived.Test.YtpolbpjclklgbaaLimD
import Derived.Test.YtpolbpjclklgbaaLimC
import Derived.Test.YtpolbpjclklgbaaInts
namespace Go.Proofs.Ytpolbpjclklgbaa.Limit
open Go.RowKit

/-- A slice of slices that reads as these rows of numbers. -/
def TabRow (w : World) (v : Value) (R : List (List Nat)) : Prop := ∃ a cap, v = .slice a R.length cap ∧ R.length ≤ cap ∧ ∀ (i : Nat) (_ : i < R.length), ∃ b off u, a = some ⟨b, off, none⟩ ∧ w.cell? ⟨b, off + i, none⟩ = some u ∧ NumRow w u R[i]

theorem least_le_none (t : Nat → Option Nat) (m : Nat) : least t m ≤ none_ := by
  induction m with
  | zero => unfold least; simp
  | succ m ih =>
    rw [least_succ]
    cases t m with
    | none => exact ih
    | some c => exact Nat.le_trans (Nat.min_le_left _ _) ih

theorem onePlace_le (n : Nat) (g : List Nat → Nat → Nat) (last : Bool) (W : List Nat) (o : Nat) : onePlace n g last W o ≤ none_ := by
  unfold onePlace
  split
  · split
    · unfold none_; omega
    · exact Nat.le_refl _
  · split
    · exact Nat.le_refl _
    · exact least_le_none _ _

/-- The numbers of the table below, as a place of it reads them. -/
def Below1 (w : World) (v : Value) (n : Nat) (W : List Nat) (g : List Nat → Nat → Nat) : Prop :=
  ∃ R : List (List Nat), TabRow w v R ∧ R.length = n + 1 ∧ ∀ k, k ≤ n → ∃ l, R[k]? = some l ∧ l.length = n + 2 ∧ ∀ o, o ≤ n + 1 → nth l o = g (W.drop k) o

theorem numCell {w : World} {v : Value} {l : List Nat} (h : NumRow w v l) (q : Nat) (hq : q < l.length) : ∃ b off c, v = .slice (some ⟨b, off, none⟩) l.length c ∧ w.cell? ⟨b, off + q, none⟩ = some (.int .i64 (nth l q : Int)) := by
  obtain ⟨a', cap', e', _, _, hat⟩ := h
  obtain ⟨b0, off, rfl, c0⟩ := hat q hq
  rw [nth_lt hq]
  exact ⟨b0, off, cap', e', c0⟩

set_option maxRecDepth 100000 in
set_option maxHeartbeats 1000000 in
theorem one_any (w : World) (bv rv : Value) (W S : List Nat) (n k o : Nat) (last : Bool) (g : List Nat → Nat → Nat) (hW : W.length = n) (hn : n ≤ 2000) (hk : k ≤ n) (ho : o ≤ n + 1)
    (hS : NumRow w rv S) (hSl : S.length = n + 1) (hSn : ∀ q, q ≤ n → nth S q = (W.drop q).sum) (hsum : W.sum < 4611686018427387904)
    (hb : last = false → Below1 w bv n W g) :
    Calls Try.prog 20 #[bv, rv, .int .i64 (n : Int), .int .i64 (k : Int), .int .i64 (o : Int), .bool last] w fun e w' => e = .returned (.int .i64 (onePlace n g last (W.drop k) o : Int)) ∧ w' = w := by
  obtain ⟨b0, off0, c0, rfl, hc⟩ := numCell hS k (by omega)
  rw [hSn k hk, hSl] at *
  have hDs : (W.drop k).sum ≤ W.sum := by
    have := sum_parts W k
    omega
  have hDl : (W.drop k).length = n - k := by rw [List.length_drop, hW]
  have hB2 : last = false → ∀ t, k + t ≤ n → ∀ q, q ≤ n + 1 → ∃ b off c b2 off2 c2, bv = .slice (some ⟨b, off, none⟩) (n + 1) c ∧ w.cell? ⟨b, off + (k + t), none⟩ = some (.slice (some ⟨b2, off2, none⟩) (n + 2) c2) ∧ w.cell? ⟨b2, off2 + q, none⟩ = some (.int .i64 (g ((W.drop k).drop t) q : Int)) := fun hl t ht q hq => by
    obtain ⟨R, ⟨a, cap, e1, _, hat⟩, hRl, hR⟩ := hb hl
    obtain ⟨l, hl1, hl2, hl3⟩ := hR (k + t) ht
    obtain ⟨b, off, u, rfl, cu, hu⟩ := hat (k + t) (by omega)
    obtain ⟨hi, hl4⟩ := List.getElem?_eq_some_iff.1 hl1
    rw [hl4] at hu
    obtain ⟨b2, off2, c2, rfl, cq⟩ := numCell hu q (by omega)
    refine ⟨b, off, cap, b2, off2, c2, by rw [e1, hRl], by rw [cu, hl2], ?_⟩
    rw [cq, hl3 q hq, List.drop_drop]
  have HB := Lib.hid hB2
  clear hB2 hb hS hSn
  generalize hD : W.drop k = D at *
  clear hD
  obtain ⟨s, hs⟩ : ∃ s, D.sum = s := ⟨_, rfl⟩
  have HD := Lib.hid hs
  rw [hs] at hc hDs
  have hsb : s ≤ 4611686018427387904 := by omega
  clear hsum
  have HDS := Lib.hid hDs
  clear hDs
  have HDL := Lib.hid hDl
  clear hs
  go_enter Try.func20, Try.ntmps20
  by_cases hkn : k = n
  · subst hkn
    have e0 : D.length = 0 := by omega
    by_cases ho0 : o = 0
    · subst ho0
      have e : onePlace k g last D 0 = 0 := by unfold onePlace; rw [if_pos e0, if_pos rfl]
      rw [e]
      clear hDl HDL
      go_wp2
      go_ret
      exact ⟨rfl, rfl⟩
    · have e : onePlace k g last D o = none_ := by unfold onePlace; rw [if_pos e0, if_neg ho0]
      rw [e]
      unfold none_
      clear hDl HDL
      go_wp2
      go_ret
      exact ⟨rfl, rfl⟩
  · have e0 : D.length ≠ 0 := by omega
    by_cases hz : o = 0 ∨ n - k < o
    · have e : onePlace n g last D o = none_ := by unfold onePlace; rw [if_neg e0, if_pos (by omega)]
      rw [e]
      unfold none_
      clear hDl HDL
      rcases hz with rfl | hz
      · go_wp2
        go_ret
        exact ⟨rfl, rfl⟩
      · have hoz : ¬ o = 0 := by omega
        go_wp2
        go_ret
        exact ⟨rfl, rfl⟩
    · have e : onePlace n g last D o = least (term n g last D o) (o + 1) := by unfold onePlace; rw [if_neg e0, if_neg (by omega)]
      have HE := Lib.hid e
      clear e
      have hz1 : ¬ o = 0 := by omega
      have hz2 : o ≤ n - k := by omega
      have hz3 : ((n : Int) - (k : Int)) = ((n - k : Nat) : Int) := by omega
      clear hz
      have q1 : ((o : Int) == 0) = false := by simpa using hz1
      have q2 : decide (n - k < o) = false := by simp; omega
      have q3 : ((k : Int) == (n : Int)) = false := by simp; omega
      go_wp2
      go_loopw [13, 14] (fun bestv tv wr => ∃ t : Nat, t ≤ o + 1 ∧ tv = .int .i64 (t : Int) ∧ bestv = .int .i64 (least (term n g last D o) t : Int) ∧ wr = w) (fun _ tv _ => o + 1 - (intOf tv).toNat)
      case atStart => exact ⟨0, by omega, rfl, rfl, rfl⟩
      case round =>
        obtain ⟨t, ht, rfl, rfl, rfl⟩ := hrel
        have hls := Lib.hid (least_succ (term n g last D o) t)
        have hln := least_le_none (term n g last D o) t
        have HLN := Lib.hid hln
        clear hln
        by_cases hto : t ≤ o
        · obtain ⟨m, hm⟩ : ∃ m, least (term n g last D o) t = m := ⟨_, rfl⟩
          have HM := Lib.hid hm
          rw [hm]
          clear hm
          cases last with
          | true =>
            have hot : ((o : Int) - (t : Int)) = ((o - t : Nat) : Int) := by omega
            by_cases hlast : o - t = 0 ∧ t = D.length
            · have e : term n g true D o t = some s := by unfold term; rw [if_pos rfl, if_pos hlast, HD.out]
              have e2 : least (term n g true D o) (t + 1) = min m s := by rw [hls.out, e, HM.out]
              have h1 : o = t := by omega
              have h2 : n = k + t := by omega
              subst h1
              clear hz3 q1 q2 q3 hz1 hz2 e0 hDl hW
              go_wp2
              refine ⟨⟨o + 1, by omega, by go_num, by rw [e2]; congr 1; omega, trivial⟩, by first | (simp [intOf]; done) | (simp [intOf]; omega)⟩
            · have e : term n g true D o t = none := by unfold term; rw [if_pos rfl, if_neg hlast]
              have e2 : least (term n g true D o) (t + 1) = m := by rw [hls.out, e, HM.out]
              by_cases h1 : o = t
              · subst h1
                have h2 : ¬ (k : Int) + (o : Int) = (n : Int) := by omega
                go_wp2
                exact ⟨⟨o + 1, by omega, by go_num, by rw [e2], trivial⟩, by simp [intOf]⟩
              · have h2 : ¬ (o : Int) - (t : Int) = 0 := by omega
                go_wp2
                exact ⟨⟨t + 1, by omega, by go_num, by rw [e2], trivial⟩, by simp [intOf]; omega⟩
          | false =>
            by_cases hbig : n + 1 < 2 * (o - t)
            · have e : term n g false D o t = none := by unfold term; rw [if_neg (by simp), if_pos hbig]
              have e2 : least (term n g false D o) (t + 1) = m := by rw [hls.out, e, HM.out]
              have h2 : (n : Int) + 1 < 2 * ((o : Int) - (t : Int)) := by omega
              go_wp2
              exact ⟨⟨t + 1, by omega, by go_num, by rw [e2], trivial⟩, by simp [intOf]; omega⟩
            · obtain ⟨b, off, c, b2, off2, c2, rfl, x1, x2⟩ := HB.out rfl t (by omega) (2 * (o - t)) (by omega)
              obtain ⟨y, hy⟩ : ∃ y, g (D.drop t) (2 * (o - t)) = y := ⟨_, rfl⟩
              have HY := Lib.hid hy
              rw [hy] at x2
              clear hy
              have e : term n g false D o t = if y < none_ then some (s + y) else none := by unfold term; rw [if_neg (by simp), if_neg hbig, HY.out, HD.out]
              have hkt1 : k + t ≤ n := by omega
              have hqq1 : 2 * (o - t) ≤ n + 1 := by omega
              obtain ⟨q, hot, hqe⟩ : ∃ q : Nat, (o : Int) - (t : Int) = (q : Int) ∧ o - t = q := ⟨o - t, by omega, rfl⟩
              rw [hqe] at x2 hqq1
              obtain ⟨kt, hkt, hkte⟩ : ∃ kt : Nat, (k : Int) + (t : Int) = (kt : Int) ∧ k + t = kt := ⟨k + t, by omega, rfl⟩
              rw [hkte] at x1 hkt1
              obtain ⟨qq, hqq, hqqe⟩ : ∃ qq : Nat, 2 * (q : Int) = (qq : Int) ∧ 2 * q = qq := ⟨2 * q, by omega, rfl⟩
              rw [hqqe] at x2 hqq1
              have HX := Lib.hid (And.intro hqe (And.intro hkte hqqe))
              have hb1 : decide ((n : Int) + 1 < (qq : Int)) = false := by simp; omega
              have hb2 : decide (n + 1 < qq) = false := by simp; omega
              clear hqe hkte hqqe hbig hz3 q1 q2 q3 hz1 hz2 e0 hDl hW
              obtain ⟨Y, hY, hYe⟩ : ∃ Y : Int, (y : Int) = Y ∧ Y = (y : Int) := ⟨_, rfl, rfl⟩
              rw [hY] at x2
              clear hY
              by_cases hyn : y < none_
              · have e2 : least (term n g false D o) (t + 1) = min m (s + y) := by rw [hls.out, e, if_pos hyn, HM.out]
                have HE2 := Lib.hid e2
                clear e e2
                have hyd : Y < 4611686018427387904 := by unfold none_ at hyn; omega
                have hy0 : 0 ≤ Y := by omega
                have HYE := Lib.hid hYe
                clear hyn hYe
                go_wp2
                refine ⟨⟨t + 1, by omega, by go_num, by rw [HE2.out]; have := HYE.out; congr 1; omega, trivial⟩, by simp [intOf]; omega⟩
              · have e2 : least (term n g false D o) (t + 1) = m := by rw [hls.out, e, if_neg hyn, HM.out]
                have HE2 := Lib.hid e2
                clear e e2
                have hyd : ¬ Y < 4611686018427387904 := by unfold none_ at hyn; omega
                clear hyn hYe
                go_wp2
                exact ⟨⟨t + 1, by omega, by go_num, by rw [HE2.out], trivial⟩, by simp [intOf]; omega⟩
        · obtain rfl : t = o + 1 := by omega
          rw [← HE.out]
          go_wp2
          go_ret
          exact ⟨rfl, rfl⟩

end Go.Proofs.Ytpolbpjclklgbaa.Limit
