/-
  What stands behind a place plays no part for Ahead, what stands ahead of it none for Behind: the walk of NearGrows. No conditions.
-/
import Derived.Test.YtjchchinmggldaaNearG
namespace Go.Proofs.Ytjchchinmggldaa.nearGrows
open Go.RowKit Go.Proofs.Ytjchchinmggldaa.Suf Go.Proofs.Ytjchchinmggldaa.Near

/-- A call, as the one operation that may come up. -/
theorem held_call {P : Program} {ops : Array Oper} {Q : Exit → Act → World → Prop} {md : Region.Mode} {S : World → Prop} {j : Nat} (oj : Oper) {fuel : Nat} {listed : Array Bool} {a : Act} {w : World} (hr : Region.ready md ops listed = [j]) (hj : ops[j]? = some oj)
    (hw : Region.wanted oj (yielded ops a.tmps) = true) (f : FuncId) (args : Array Value) (hrun : (execOp a.eval oj).run P w = .ok (.enter f args) w) {Post : Ending → World → Prop} (hc : Calls P f args w Post)
    (h : ∀ e w', Post e w' → ∃ v, e = .returned v ∧ S w' ∧ wpAnyH P md ops Q S fuel (listed.setIfInBounds j true) (a.put oj.dst v) w') : wpAnyH P md ops Q S (fuel + 1) listed a w :=
  held_step oj hr hj fun N hN => by
    unfold wpList
    rw [if_pos hw]
    left
    unfold Oper.wp
    rw [hrun, Oper.upon_enter]
    refine hc.mono fun e w'' hh => ?_
    obtain ⟨v, rfl, h1, h2⟩ := h _ _ hh
    exact hN _ _ h1 h2

theorem bounds {w : World} {v : Value} {l : List Int} (h : IntRow w v l) : ∀ x ∈ l, -9223372036854775808 ≤ x ∧ x ≤ 9223372036854775807 := fun x hx => by
  obtain ⟨a, c, _, _, _, hat⟩ := h
  obtain ⟨i, hi, rfl⟩ := List.mem_iff_getElem.1 hx
  exact (hat i hi).1

theorem ah_more (l m : List Int) : (aheads (l ++ m)).take l.length = aheads l := by
  apply List.ext_getElem?
  intro i
  by_cases hi : i < l.length
  · rw [List.getElem?_take_of_lt hi, aheads_at _ _ (by rw [List.length_append]; omega), aheads_at _ _ hi, ah_grows l m i hi]
  · rw [List.getElem?_eq_none (by rw [List.length_take]; omega), List.getElem?_eq_none (by rw [aheads_length]; omega)]

set_option maxRecDepth 100000 in
set_option maxHeartbeats 8000000 in
theorem walk (w : World) (v : Value) (l : List Int) (h : IntRow w v l) (u : Value) (m : List Int) (h2 : IntRow w u m) :
    Calls Try.prog 6 #[v, u] w fun e w' => e = .returned (.bool true) ∧ Below w.heap.size w w' := by
  have hb1 := bounds h
  have hb2 := bounds h2
  obtain ⟨va, vc, rfl⟩ : ∃ a c, v = .slice a l.length c := by obtain ⟨a, c, e, _⟩ := h; exact ⟨a, c, e⟩
  obtain ⟨ua, uc, rfl⟩ : ∃ a c, u = .slice a m.length c := by obtain ⟨a, c, e, _⟩ := h2; exact ⟨a, c, e⟩
  by_cases c1 : 300 < l.length
  · clear h h2
    go_enter Try.func6, Try.ntmps6
    go_wp2
    go_ret
    exact ⟨rfl, Below.refl _ _⟩
  by_cases c2 : 300 < m.length
  · clear h h2
    go_enter Try.func6, Try.ntmps6
    go_wp2
    go_ret
    exact ⟨rfl, Below.refl _ _⟩
  have HV : Hid (∀ W r, St w.heap.size w W r → IntRow W (.slice va l.length vc) l) := Lib.hid fun W r t => h.below (t.below (Nat.le_refl _)) (Nat.le_refl _)
  have HU : Hid (∀ W r, St w.heap.size w W r → IntRow W (.slice ua m.length uc) m) := Lib.hid fun W r t => h2.below (t.below (Nat.le_refl _)) (Nat.le_refl _)
  have HB : Hid (∀ x ∈ l ++ m, -9223372036854775808 ≤ x ∧ x ≤ 9223372036854775807) := Lib.hid fun x hx => (List.mem_append.1 hx).elim (hb1 x) (hb2 x)
  obtain ⟨n, hn⟩ : ∃ n, l.length = n := ⟨_, rfl⟩
  obtain ⟨k0, hk0⟩ : ∃ k, m.length = k := ⟨_, rfl⟩
  obtain ⟨N, hN⟩ : ∃ N, n + k0 = N := ⟨_, rfl⟩
  have H1 := Lib.hid h
  have HNN : Hid (l.length = n ∧ m.length = k0 ∧ n + k0 = N ∧ (l ++ m).length = N) := Lib.hid ⟨hn, hk0, hN, by rw [List.length_append]; omega⟩
  have hle : n ≤ 300 := by omega
  have hle2 : k0 ≤ 300 := by omega
  rw [hn] at HV c1 H1 ⊢
  rw [hk0] at HU c2 ⊢
  clear h h2 hb1 hb2 hn hk0 hN
  go_enter Try.func6, Try.ntmps6
  go_wp2_with (at_builtin; refine wpList_copyInts (xs := l) rfl _ _ rfl (St.start w) H1.out rfl rfl (by have := HNN.out.1; omega) ?_)
  intro vi w1 s1
  go_wp2_with (at_builtin; refine wpList_append_ints (ys := m) rfl _ _ rfl s1 (HU.out _ _ s1) rfl rfl (by have := HNN.out; omega) ?_)
  intro vj w2 s2
  rw [show l.length + m.length = N by have := HNN.out; omega] at s2
  obtain ⟨ja, jc, rfl⟩ := ownsRow_slice s2.row
  clear s1
  go_wp2_with fail
  refine (ahead_st s2 (.slice ja N jc) (l ++ m) (fun W t => intRow_of t.row HNN.out.2.2.2 HB.out) (by have := HNN.out; omega)).mono ?_
  rintro e w3 ⟨v3, rfl, s3⟩
  rw [HNN.out.2.2.2] at s3
  obtain ⟨aa, ac, rfl⟩ := ownsRow_slice s3.row
  clear s2
  go_wp2_with fail
  refine (behind_st s3 (.slice ja N jc) (l ++ m) (fun W t => intRow_of t.swap.row HNN.out.2.2.2 HB.out) (by have := HNN.out; omega)).mono ?_
  rintro e w4 ⟨v4, rfl, s4⟩
  rw [HNN.out.2.2.2] at s4
  obtain ⟨ba, bc, rfl⟩ := ownsRow_slice s4.row
  clear s3
  have s5 := (s4.front 2).drop
  clear s4
  go_wp2_with fail
  refine (behind_st s5 (.slice ua k0 uc) m (fun W t => HU.out W _ t) (by have := HNN.out; omega)).mono ?_
  rintro e w6 ⟨v6, rfl, s6⟩
  rw [HNN.out.2.1] at s6
  obtain ⟨ca, cc, rfl⟩ := ownsRow_slice s6.row
  clear s5
  go_wp2
  go_loopw [9] (fun iv wi => ∃ k : Nat, k ≤ k0 ∧ iv = .int .i64 (k : Int) ∧ St w.heap.size w wi [rowT 3 1 (.slice ca k0 cc) k0 (iVals (behs m)), rowT 3 1 (.slice ba N bc) N (iVals (behs (l ++ m))), rowT 3 1 (.slice aa N ac) N (iVals (aheads (l ++ m)))]) (fun iv _ => k0 - (intOf iv).toNat)
  case atStart => exact ⟨0, by omega, rfl, s6⟩
  case round =>
    clear s6
    obtain ⟨k, hk, rfl, s5⟩ := hrel
    by_cases hlt : k < k0
    · obtain ⟨j, hj⟩ : ∃ j, n + k = j := ⟨_, rfl⟩
      have hjN : j < N := by have := HNN.out; omega
      obtain ⟨-, hE⟩ := beCells HNN.out.2.2.2 (by have := HNN.out; omega) s5.drop
      obtain ⟨-, hC⟩ := beCells HNN.out.2.1 (by omega) s5
      obtain ⟨b1, o1, rfl, a0⟩ := hE j hjN
      obtain ⟨b2, o2, rfl, b0⟩ := hC k hlt
      have hg := be_grows l m k (by rw [HNN.out.2.1]; exact hlt)
      have hEs := be_small (l := m) (x := (beOf m k : Int)) (by
        simp only [behs, List.mem_map, List.mem_range]
        exact ⟨k, by rw [HNN.out.2.1]; exact hlt, rfl⟩)
      rw [HNN.out.2.1] at hEs
      rw [HNN.out.1, hj] at hg
      rw [hg] at a0
      generalize beOf m k = E at *
      replace a0 : wr.cell? ⟨b1, o1 + j, none⟩ = some (.int .i64 ((n : Int) + (E : Int))) := by rw [a0]; congr 2
      have kI : (k : Int) < (k0 : Int) := by omega
      have jI : (n : Int) + (k : Int) = (j : Int) := by omega
      have jn : (j : Int) < (N : Int) := by omega
      have hE2 : (E : Int) ≤ (k0 : Int) := by omega
      have s6 := s5.drew
      clear hE hC hg hEs hj
      go_wp2
      go_region
      go_wp2
      exact ⟨⟨k + 1, by omega, by go_num, s6⟩, by simp [intOf]; omega⟩
    · obtain rfl : k = k0 := by omega
      have sA := s5.drop.drop
      clear s5
      go_wp2
      refine region_seg (by kernel_rfl) [0] 10 rfl (by kernel_rfl) (by kernel_rfl) (fun _ _ d _ _ h => by cases d <;> exact h) ?_
      intro K hK
      simp only [pickL, List.getElem?_cons_zero]
      go_wp2_with fail
      try clear hK K
      have sB := sA.drew
      clear sA
      generalize wr.drew = wd at *
      have hac := (ahCells HNN.out.2.2.2 (by have := HNN.out; omega) sB).1
      have hsl : n ≤ N := by have := HNN.out; omega
      have hsI : (n : Int) ≤ (ac : Int) := by omega
      have hah := ahead_st sB (.slice va n vc) l (fun W t => HV.out W _ t) (by have := HNN.out; omega)
      refine wpAny_of_held (S := fun _ => True) _ _ _ _ ?_
      refine wpAnyH_take (i := 1) (v := .slice va n vc) rfl (by kernel_rfl) (by kernel_rfl) (by kernel_rfl) (fun _ _ _ h => h) (.inl ⟨by kernel_rfl, fun W hW => by go_simp⟩) trivial ?_
      refine wpAnyH_take (i := 2) (v := .int .i64 (n : Int)) rfl (by kernel_rfl) (by kernel_rfl) (by kernel_rfl) (fun _ _ _ h => h) (.inl ⟨by kernel_rfl, fun W hW => by go_simp⟩) trivial ?_
      refine wpAnyH_take (i := 3) (v := .slice aa n ac) rfl (by kernel_rfl) (by kernel_rfl) (by kernel_rfl) (fun _ _ _ h => h) (.inl ⟨by kernel_rfl, fun W hW => by go_simp⟩) trivial ?_
      refine wpAnyH_take (i := 4) (v := .slice va n vc) rfl (by kernel_rfl) (by kernel_rfl) (by kernel_rfl) (fun _ _ _ h => h) (.inl ⟨by kernel_rfl, fun W hW => by go_simp⟩) trivial ?_
      refine held_call (j := 5) _ (by kernel_rfl) rfl (by kernel_rfl) 10 #[.slice va n vc] (by kernel_rfl) hah ?_
      clear hah
      rintro e w7 ⟨v7, rfl, s7⟩
      have hsame := sameI_st s7 (.slice aa n ac) v7 (aheads l) (aheads l) (by
        have h9 := shorterRow s7.drop n hsl
        refine intRow_of (xs := aheads l) (n := n) (base := 0) (e := 3) ?_ (by rw [aheads_length]; exact HNN.out.1) (fun x hx => by have := ah_small hx; have := HNN.out; omega)
        have h10 := h9.row
        have e9 : (iVals (aheads (l ++ m))).take n = iVals (aheads l) := by
          rw [← ah_more l m, HNN.out.1]
          simp [iVals, List.map_take]
        rw [e9] at h10
        exact h10) (ahRow s7 (by have := HNN.out; omega)) (by rw [aheads_length]; have := HNN.out; omega)
      rw [show decide (aheads l = aheads l) = true from decide_eq_true rfl] at hsame
      refine ⟨_, rfl, trivial, ?_⟩
      refine held_call (j := 6) _ (by kernel_rfl) rfl (by kernel_rfl) 9 #[.slice aa n ac, v7] (by kernel_rfl) hsame ?_
      clear hsame
      rintro e w8 ⟨rfl, s8⟩
      have hb := s8.below (Nat.le_refl _)
      clear s7 s8 sB
      refine ⟨_, rfl, trivial, ?_⟩
      refine wpAnyH_take (i := 7) (v := .bool true) rfl (by kernel_rfl) (by kernel_rfl) (by kernel_rfl) (fun _ _ _ h => h) (.inl ⟨by kernel_rfl, fun W hW => by go_simp⟩) trivial ?_
      refine held_call (j := 8) _ (by kernel_rfl) rfl (by kernel_rfl) 14 #[] (by kernel_rfl) (finds_any w8) ?_
      rintro e w9 ⟨rfl, b2⟩
      refine ⟨_, rfl, trivial, ?_⟩
      refine wpAnyH_take (i := 9) (v := .bool true) rfl (by kernel_rfl) (by kernel_rfl) (by kernel_rfl) (fun _ _ _ h => h) (.inl ⟨by kernel_rfl, fun W hW => by go_simp⟩) trivial ?_
      refine wpAnyH_take (i := 10) (v := .bool true) rfl (by kernel_rfl) (by kernel_rfl) (by kernel_rfl) (fun _ _ _ h => h) (.inl ⟨by kernel_rfl, fun W hW => by go_simp⟩) trivial ?_
      refine wpAnyH_done (by kernel_rfl) ?_ 0
      have hfin := hb.trans (b2.mono hb.size)
      clear hb b2
      go_simp
      go_wp2
      go_ret
      exact ⟨rfl, hfin⟩

end Go.Proofs.Ytjchchinmggldaa.nearGrows
