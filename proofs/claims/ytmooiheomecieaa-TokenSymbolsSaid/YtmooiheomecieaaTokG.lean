/-
  Contracts of pressworkref08: Length, Distance. No conditions but those of the calls.
-/
import Derived.Test.YtmooiheomecieaaTokF
namespace Go.Proofs.Ytmooiheomecieaa.Tok
open Go.RowKit

attribute [local go_sem] Oper.semAt_some

set_option maxRecDepth 100000 in
set_option maxHeartbeats 2000000 in
/-- Length. -/
theorem refLength_any (w : World) (x : Int) (hx0 : -9223372036854775808 ≤ x) (hx1 : x ≤ 9223372036854775807) :
    Calls Try.prog 10 #[.int .i64 x] w fun e w' => e = .returned (four (lenAns x)) ∧ Below w.heap.size w w' := by
  by_cases hout : x < 3 ∨ 258 < x
  · have ha : lenAns x = (0, 0, 0, 5) := ans_out lenS 3 258 257 x hout
    rw [ha]
    clear ha
    by_cases h3 : x < 3
    · clear hout
      go_enter Try.func10, Try.ntmps10
      go_wp2
      refine bodyPost_ret (results_tmp4 rfl _ _ _) rfl ?_
      exact ⟨rfl, Below.refl _ _⟩
    · have h4 : 258 < x := by omega
      clear hout
      go_enter Try.func10, Try.ntmps10
      go_wp2
      refine bodyPost_ret (results_tmp4 rfl _ _ _) rfl ?_
      exact ⟨rfl, Below.refl _ _⟩
  · obtain ⟨n, rfl⟩ : ∃ n : Nat, x = (n : Int) := ⟨x.toNat, by omega⟩
    have h0 : 0 < lenS.length := by rw [lenS_length]; omega
    have ha : lenAns (n : Int) = _ := ans_in lenS 3 258 257 n (by omega) (by omega) h0
    rw [ha]
    clear ha
    have hlo : lenS[0].1 ≤ n := by show 3 ≤ n; omega
    have hr := fun W => refLengths_any W
    have hla := fun W v (h : NumRow W v (lenS.map (·.1))) => last_any W v lenS n h rises_lenS (by rw [lenS_length]; omega) h0 hlo (by omega) (fun p hp => (small_spans.1 p hp).1)
    have hl := at_lt lenS n h0
    have hle := (at_says lenS n 258 rises_lenS close_lenS h0 hlo (by omega) (fun _ => by show 258 < 258 + 2 ^ 0; decide)).1
    have hbits := fun W => lengthBits_any W (257 + at_ lenS n) (by rw [lenS_length] at hl; omega)
    rw [lbits_eq _ hl] at hbits
    have hcell : ∀ W v, NumRow W v (lenS.map (·.1)) → ∃ b off cap, v = .slice (some ⟨b, off, none⟩) 29 cap ∧ 29 ≤ cap ∧ W.cell? ⟨b, off + at_ lenS n, none⟩ = some (.int .i64 (lenS[at_ lenS n].1 : Int)) := fun W v h => by
      obtain ⟨a, cap, rfl, hcap, _, hc⟩ := h
      obtain ⟨b, off, rfl, hc0⟩ := hc (at_ lenS n) (by rw [List.length_map]; exact hl)
      rw [List.getElem_map] at hc0
      exact ⟨b, off, cap, rfl, hcap, hc0⟩
    have hk : at_ lenS n < 29 := by rw [lenS_length] at hl; exact hl
    have h3 : 3 ≤ n := by omega
    have h4 : n ≤ 258 := by omega
    generalize (lenS[at_ lenS n]'(at_lt lenS n h0)).2 = z at *
    generalize (lenS[at_ lenS n]'(at_lt lenS n h0)).1 = y at *
    generalize at_ lenS n = k at *
    clear hlo hl
    generalize lenS = S at *
    clear hout hx0 hx1
    have e1 : (n : Int) - (y : Int) = ((n - y : Nat) : Int) := by omega
    have e2 : (257 : Int) + (k : Int) = ((257 + k : Nat) : Int) := by omega
    generalize n - y = d at *
    generalize 257 + k = k7 at *
    go_enter Try.func10, Try.ntmps10
    go_wp2_with (first | (go_at_call 14; refine (hr _).mono ?_; rintro e w1 ⟨v1, rfl, hn1, hb1⟩; obtain ⟨b1, o1, c1, rfl, hcap1, hc1⟩ := hcell _ _ hn1) | (go_at_call 24; refine (hla _ _ hn1).mono ?_; rintro e w2 ⟨rfl, hb2⟩))
    have hb12 := hb1.trans (hb2.mono hb1.size)
    have hbd := hb12.drew
    clear hb1 hb2 hn1 hc1 hb12 hla
    refine region_seg (by kernel_rfl) [0, 2, 5, 7] 11 rfl (by kernel_rfl) (by kernel_rfl) (fun _ _ d _ _ h => by cases d <;> exact h) ?_
    generalize w2.drew = wd at *
    intro K hK
    simp only [pickL, List.getElem?_cons_zero, List.getElem?_cons_succ]
    go_wp2_with fail
    refine wpAny_take (i := 1) (v := .int .i64 (k7 : Int)) rfl (by kernel_rfl) (by kernel_rfl) (by kernel_rfl) (fun _ _ _ h => h) (.inl ⟨rfl, fun w => by go_simp; exact IntWalk.i64_in _ (by omega)⟩) ?_
    refine mid_seg [3, 4, 6, 11, 12, 8, 9, 10, 13, 14] 0 (by kernel_rfl) (by kernel_rfl) (fun _ _ d _ _ h => by cases d <;> exact h) ?_
    intro K hK
    simp only [pickL, List.getElem?_cons_zero, List.getElem?_cons_succ]
    go_wp2_with (first | (go_at_call 14; refine (hr _).mono ?_; rintro e w4 ⟨v4, rfl, hn4, hb4⟩; obtain ⟨b4, o4, c4, rfl, hcap4, hc4⟩ := hcell _ _ hn4) | (go_at_call 15; refine (hbits _).mono ?_; rintro e w3 ⟨rfl, hb3⟩))
    refine wpAny_done (by kernel_rfl) ?_ 0
    go_wp2
    refine bodyPost_ret (results_tmp4 rfl _ _ _) rfl ?_
    exact ⟨by simp [four], (hbd.trans (hb3.mono hbd.size)).trans (hb4.mono (hbd.trans (hb3.mono hbd.size)).size)⟩

set_option maxRecDepth 100000 in
set_option maxHeartbeats 2000000 in
/-- Distance. -/
theorem refDistance_any (w : World) (x : Int) (hx0 : -9223372036854775808 ≤ x) (hx1 : x ≤ 9223372036854775807) :
    Calls Try.prog 12 #[.int .i64 x] w fun e w' => e = .returned (four (disAns x)) ∧ Below w.heap.size w w' := by
  by_cases hout : x < 1 ∨ 32768 < x
  · have ha : disAns x = (0, 0, 0, 5) := ans_out disS 1 32768 0 x hout
    rw [ha]
    clear ha
    by_cases h3 : x < 1
    · clear hout
      go_enter Try.func12, Try.ntmps12
      go_wp2
      refine bodyPost_ret (results_tmp4 rfl _ _ _) rfl ?_
      exact ⟨rfl, Below.refl _ _⟩
    · have h4 : 32768 < x := by omega
      clear hout
      go_enter Try.func12, Try.ntmps12
      go_wp2
      refine bodyPost_ret (results_tmp4 rfl _ _ _) rfl ?_
      exact ⟨rfl, Below.refl _ _⟩
  · obtain ⟨n, rfl⟩ : ∃ n : Nat, x = (n : Int) := ⟨x.toNat, by omega⟩
    have h0 : 0 < disS.length := by rw [disS_length]; omega
    have ha : disAns (n : Int) = _ := ans_in disS 1 32768 0 n (by omega) (by omega) h0
    rw [ha]
    clear ha
    have hlo : disS[0].1 ≤ n := by show 1 ≤ n; omega
    have hr := fun W => refDistances_any W
    have hla := fun W v (h : NumRow W v (disS.map (·.1))) => last_any W v disS n h rises_disS (by rw [disS_length]; omega) h0 hlo (by omega) (fun p hp => (small_spans.2 p hp).1)
    have hl := at_lt disS n h0
    have hle := (at_says disS n 32768 rises_disS close_disS h0 hlo (by omega) (fun _ => by show 32768 < 24577 + 2 ^ 13; decide)).1
    have hbits := fun W => distanceBits_any W (at_ disS n) (by rw [disS_length] at hl; omega)
    rw [dbits_eq _ hl] at hbits
    have hcell : ∀ W v, NumRow W v (disS.map (·.1)) → ∃ b off cap, v = .slice (some ⟨b, off, none⟩) 30 cap ∧ 30 ≤ cap ∧ W.cell? ⟨b, off + at_ disS n, none⟩ = some (.int .i64 (disS[at_ disS n].1 : Int)) := fun W v h => by
      obtain ⟨a, cap, rfl, hcap, _, hc⟩ := h
      obtain ⟨b, off, rfl, hc0⟩ := hc (at_ disS n) (by rw [List.length_map]; exact hl)
      rw [List.getElem_map] at hc0
      exact ⟨b, off, cap, rfl, hcap, hc0⟩
    have hk : at_ disS n < 30 := by rw [disS_length] at hl; exact hl
    have h3 : 1 ≤ n := by omega
    have h4 : n ≤ 32768 := by omega
    generalize (disS[at_ disS n]'(at_lt disS n h0)).2 = z at *
    generalize (disS[at_ disS n]'(at_lt disS n h0)).1 = y at *
    generalize at_ disS n = k at *
    clear hlo hl
    generalize disS = S at *
    clear hout hx0 hx1
    have e1 : (n : Int) - (y : Int) = ((n - y : Nat) : Int) := by omega
    generalize n - y = d at *
    rw [Nat.zero_add]
    go_enter Try.func12, Try.ntmps12
    go_wp2_with (first | (go_at_call 18; refine (hr _).mono ?_; rintro e w1 ⟨v1, rfl, hn1, hb1⟩; obtain ⟨b1, o1, c1, rfl, hcap1, hc1⟩ := hcell _ _ hn1) | (go_at_call 24; refine (hla _ _ hn1).mono ?_; rintro e w2 ⟨rfl, hb2⟩))
    have hb12 := hb1.trans (hb2.mono hb1.size)
    have hbd := hb12.drew
    clear hb1 hb2 hn1 hc1 hb12 hla
    refine region_seg (by kernel_rfl) [0, 1, 3, 5, 2, 4, 9, 10, 6, 7, 8, 11, 12] 0 rfl (by kernel_rfl) (by kernel_rfl) (fun _ _ d _ _ h => by cases d <;> exact h) ?_
    generalize w2.drew = wd at *
    intro K hK
    simp only [pickL, List.getElem?_cons_zero, List.getElem?_cons_succ]
    go_wp2_with (first | (go_at_call 18; refine (hr _).mono ?_; rintro e w4 ⟨v4, rfl, hn4, hb4⟩; obtain ⟨b4, o4, c4, rfl, hcap4, hc4⟩ := hcell _ _ hn4) | (go_at_call 19; refine (hbits _).mono ?_; rintro e w3 ⟨rfl, hb3⟩))
    refine wpAny_done (by kernel_rfl) ?_ 0
    go_wp2
    refine bodyPost_ret (results_tmp4 rfl _ _ _) rfl ?_
    exact ⟨by simp [four], (hbd.trans (hb3.mono hbd.size)).trans (hb4.mono (hbd.trans (hb3.mono hbd.size)).size)⟩

end Go.Proofs.Ytmooiheomecieaa.Tok
