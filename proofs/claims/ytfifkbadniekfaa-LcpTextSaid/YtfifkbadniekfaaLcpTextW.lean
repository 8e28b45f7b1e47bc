/-
  The least height between two of the order is what is common to the two places of the text; a neighbour has no less in common than one further off: the walk of LcpText. No conditions.
-/
import Derived.Test.YtfifkbadniekfaaLcpH
namespace Go.Proofs.Ytfifkbadniekfaa.lcpText
open Go.RowKit Go.Proofs.Ytfifkbadniekfaa.Suf Go.Proofs.Ytfifkbadniekfaa.Lcp

theorem u16_nat {v : Int} (hv : (Lit.int .u16 v).wf = true) : ∃ x : Nat, v = (x : Int) ∧ x < 65536 := by
  simp only [Lit.wf, Bool.and_eq_true, decide_eq_true_eq] at hv
  have e1 : IntKind.u16.min = 0 := rfl
  have e2 : IntKind.u16.max = 65535 := rfl
  rw [e1, e2] at hv
  exact ⟨v.toNat, by omega, by omega⟩

theorem rem_nat (p n : Nat) : (p : Int).tmod (n : Int) = ((p % n : Nat) : Int) := by
  rw [Int.tmod_eq_emod_of_nonneg (by omega)]; rfl

theorem held_call {P : Program} {ops : Array Oper} {Q : Exit → Act → World → Prop} {md : Region.Mode} {S : World → Prop} {j : Nat} (oj : Oper) {fuel : Nat} {listed : Array Bool} {a : Act} {w : World} (hr : Region.ready md ops listed = [j]) (hj : ops[j]? = some oj)
    (hw : Region.wanted oj (yielded ops a.tmps) = true) (f : FuncId) (args : Array Value) (hrun : (execOp a.eval oj).run P w = .ok (.enter f args) w) {Post : Ending → World → Prop} (hc : Calls P f args w Post)
    (h : ∀ e w', Post e w' → ∃ v, e = .returned v ∧ S w' ∧ wpAnyH P md ops Q S fuel (listed.setIfInBounds j true) (a.put oj.dst v) w') : wpAnyH P md ops Q S (fuel + 1) listed a w :=
  held_step oj hr hj fun N hN => by
    unfold wpList
    rw [if_pos hw]
    left
    unfold Oper.wp
    rw [hrun, Oper.upon_enter]
    refine hc.mono fun e w'' hh => ?_
    obtain ⟨v, rfl, h1, h2⟩ := h _ _ hh
    exact hN _ _ h1 h2

theorem com_lesser {b O : List Nat} (h : Whole b.length (Ahead false b) O) {i j k : Nat} (h1 : i < j) (h2 : j ≤ k) (h3 : k < b.length) : com b (nth O i) (nth O k) ≤ com b (nth O i) (nth O j) := by
  obtain ⟨_, g1⟩ := hts_least h i k (by omega) h3
  obtain ⟨⟨t, a1, a2, a3⟩, _⟩ := hts_least h i j h1 (by omega)
  have := g1 t _ a1 (by omega) a3
  omega

theorem com_ans {b O : List Nat} (h : Whole b.length (Ahead false b) O) {i j : Nat} (h1 : i < j) (h2 : j < b.length) {e : Ending} (ha : ComAns ((hts b O).map fun x : Nat => (x : Int)) (i : Int) (j : Int) e) :
    e = .returned (.tuple #[.int .i64 (com b (nth O i) (nth O j) : Int), .int .i64 0]) := by
  rcases ha with ⟨g, _⟩ | ⟨i', j', m, e1, e2, _, _, h3, h4⟩
  · rw [List.length_map, hts_length, h.len] at g
    omega
  · obtain rfl : i = i' := by omega
    obtain rfl : j = j' := by omega
    rw [h4, h3.one (hts_least h i j h1 h2)]

set_option maxRecDepth 100000 in
set_option maxHeartbeats 8000000 in
theorem walk (w : World) (v : Value) (b : List Nat) (h : ByteRow w v b) (pp : Int) (hpp : (Lit.int .u16 pp).wf = true) (qq : Int) (hqq : (Lit.int .u16 qq).wf = true) (rr : Int) (hrr : (Lit.int .u16 rr).wf = true) :
    Calls Try.prog 5 #[v, .int .u16 pp, .int .u16 qq, .int .u16 rr] w fun e w' => e = .returned (.bool true) ∧ Below w.heap.size w w' := by
  obtain ⟨p, rfl, hp⟩ := u16_nat hpp
  obtain ⟨q, rfl, hq⟩ := u16_nat hqq
  obtain ⟨r, rfl, hr⟩ := u16_nat hrr
  obtain ⟨va, vc, rfl⟩ : ∃ a c, v = .slice a b.length c := by obtain ⟨a, c, e, _⟩ := h; exact ⟨a, c, e⟩
  by_cases c1 : 600 < b.length
  · clear h
    go_enter Try.func5, Try.ntmps5
    go_wp2_with fail
    refine (heights_any w).mono ?_
    rintro e w8 ⟨rfl, b2⟩
    go_wp2_with fail
    go_ret
    exact ⟨rfl, b2⟩
  by_cases c2 : b.length < 2
  · clear h
    go_enter Try.func5, Try.ntmps5
    go_wp2_with fail
    refine (heights_any w).mono ?_
    rintro e w8 ⟨rfl, b2⟩
    go_wp2_with fail
    go_ret
    exact ⟨rfl, b2⟩
  have HV : Hid (∀ W r, St w.heap.size w W r → ByteRow W (.slice va b.length vc) b) := Lib.hid fun W r t => h.below (t.below (Nat.le_refl _)) (Nat.le_refl _)
  have hends := ends_st (St.start w) _ b (fun W t => HV.out W _ t) (by omega)
  obtain ⟨n, hn⟩ : ∃ n, b.length = n := ⟨_, rfl⟩
  have hle : n ≤ 600 := by omega
  have hn2 : 2 ≤ n := by omega
  have HN := Lib.hid hn
  rw [hn] at hends c1 c2 ⊢
  clear h hn hpp hqq hrr
  go_enter Try.func5, Try.ntmps5
  go_wp2_with fail
  refine hends.mono ?_
  rintro e w2 ⟨O, hO, g, rfl, s2⟩
  clear hends
  have hOl : O.length = n := by rw [hO.len, HN.out]
  rw [hOl] at s2 ⊢
  have hOm : ∀ x ∈ O, x ≤ 1000000 := fun x hx => by have := hO.mem x hx; rw [HN.out] at this; omega
  have hh := heights_st s2 (.slice va n vc) (.slice (some ⟨g, 0, none⟩) n n) b (O.map fun x : Nat => (x : Int)) (fun W t => by have := HV.out W _ t; rwa [HN.out] at this) (fun W t => NumRow.intRow (numsRow t hOl) hOm) (by rw [HN.out]; omega) (by rw [List.length_map, hOl]; omega)
  have HO := Lib.hid (And.intro hO hOl)
  clear hO hOl hOm
  go_wp2_with fail
  refine hh.mono ?_
  rintro e w3 (⟨O', g2, h1, h2, rfl, s3⟩ | ⟨hno, _⟩)
  rotate_left
  · exact absurd HO.out.1 (hno _ rfl)
  obtain rfl := ints_one h1
  rw [HN.out] at s3 ⊢
  clear hh h1 h2 s2
  have hHl : (hts b O).length = n := by rw [hts_length, HO.out.2]
  have hHm : ∀ x ∈ hts b O, x ≤ 1000000 := fun x hx => by have := hts_le HO.out.1 x hx; rw [HN.out] at this; omega
  have z0 := (s3.numCell 0 hHl (by omega)).1
  have e0 : (hts b O)[0]'(by rw [hHl]; omega) = 0 := by unfold hts; rw [tab_get]; rfl
  rw [e0] at z0
  replace z0 : w3.cell? ⟨g2, 0, none⟩ = some (.int .i64 0) := z0
  obtain ⟨N, hN⟩ : ∃ N, n = N + 1 := ⟨n - 1, by omega⟩
  have r1 := rem_nat p N
  obtain ⟨i, hi⟩ : ∃ i, p % N = i := ⟨_, rfl⟩
  have hiN : i < N := by rw [← hi]; exact Nat.mod_lt _ (by omega)
  rw [hi] at r1
  obtain ⟨d, hd⟩ : ∃ d, N = i + d := ⟨N - i, by omega⟩
  have r2 := rem_nat q d
  obtain ⟨x, hx⟩ : ∃ x, q % d = x := ⟨_, rfl⟩
  have hxd : x < d := by rw [← hx]; exact Nat.mod_lt _ (by omega)
  rw [hx] at r2
  obtain ⟨j, hj⟩ : ∃ j, i + 1 + x = j := ⟨_, rfl⟩
  obtain ⟨d2, hd2⟩ : ∃ d2, n = j + d2 := ⟨n - j, by omega⟩
  have r3 := rem_nat r d2
  obtain ⟨y, hy⟩ : ∃ y, r % d2 = y := ⟨_, rfl⟩
  have hyd : y < d2 := by rw [← hy]; exact Nat.mod_lt _ (by omega)
  rw [hy] at r3
  obtain ⟨k, hk⟩ : ∃ k, j + y = k := ⟨_, rfl⟩
  have hij : i < j := by omega
  have hjk : j ≤ k := by omega
  have hkn : k < n := by omega
  have hin : i < n := by omega
  have hjn : j < n := by omega
  have f1 : (n : Int) - 1 = (N : Int) := by omega
  have f2 : (N : Int) - (i : Int) = (d : Int) := by omega
  have f3 : (i : Int) + 1 + (x : Int) = (j : Int) := by omega
  have f4 : (n : Int) - (j : Int) = (d2 : Int) := by omega
  have f5 : (j : Int) + (y : Int) = (k : Int) := by omega
  have nz1 : (N : Int) ≠ 0 := by omega
  have nz2 : (d : Int) ≠ 0 := by omega
  have nz3 : (d2 : Int) ≠ 0 := by omega
  have hN6 : N ≤ 600 := by omega
  have hd6 : d ≤ 600 := by omega
  have hd26 : d2 ≤ 600 := by omega
  have hy6 : y ≤ 600 := by omega
  have hx6 : x ≤ 600 := by omega
  have hcom1 := common_any w3 (.slice (some ⟨g2, 0, none⟩) n n) ((hts b O).map fun x : Nat => (x : Int)) (NumRow.intRow (numsRow s3 hHl) hHm) (by rw [List.length_map, hHl]; omega) (i : Int) (j : Int)
  have hcom2 := fun m => common_any (w3.drewN m) (.slice (some ⟨g2, 0, none⟩) n n) ((hts b O).map fun x : Nat => (x : Int)) (NumRow.intRow (numsRow (s3.drewN m) hHl) hHm) (by rw [List.length_map, hHl]; omega) (i : Int) (k : Int)
  clear hN hd hd2 hi hx hj hy hk e0 hHl hHm
  go_wp2_with fail
  refine hcom1.mono ?_
  rintro e w4 ⟨ha, m1, rfl⟩
  obtain rfl := com_ans HO.out.1 hij (by rw [HN.out]; exact hjn) ha
  have hcom2 := hcom2 m1
  clear ha hcom1 r1 r2 r3 f1 f2 f3 f4 f5 nz1 nz2 nz3 hiN hxd hyd z0
  go_wp2_with fail
  refine hcom2.mono ?_
  rintro e w5 ⟨ha, m2, rfl⟩
  obtain rfl := com_ans HO.out.1 (show i < k by omega) (by rw [HN.out]; exact hkn) ha
  have hless := com_lesser HO.out.1 hij hjk (by rw [HN.out]; exact hkn)
  have s5 := (s3.drewN m1).drewN m2
  clear hcom2 ha s3
  generalize (w3.drewN m1).drewN m2 = w5 at *
  have oi := Whole.at HO.out.1 (i := i) (by rw [HN.out]; exact hin)
  have oj := Whole.at HO.out.1 (i := j) (by rw [HN.out]; exact hjn)
  have ok := Whole.at HO.out.1 (i := k) (by rw [HN.out]; exact hkn)
  have hC : ∀ a c, a < b.length → c < b.length → ∀ W, St w.heap.size w W [numsT 3 g2 n (hts b O), numsT 3 g n O] → Calls Try.prog 16 #[.slice va n vc, .int .i64 (a : Int), .int .i64 (c : Int)] W fun e w' => e = .returned (.int .i64 (com b a c : Int)) ∧ St w.heap.size w w' [numsT 3 g2 n (hts b O), numsT 3 g n O] := fun a c ha hc W t => by
    have hrow := HV.out W _ t
    rw [HN.out] at hrow
    refine (refCommon_any W _ b hrow (by rw [HN.out]; omega) a c (Nat.le_of_lt ha) (Nat.le_of_lt hc)).mono ?_
    rintro e w' ⟨h1, m, rfl⟩
    exact ⟨h1, t.drewN m⟩
  have hC1 := hC _ _ oi oj
  have hC2 := hC _ _ oi ok
  have hcell : ∀ W, St w.heap.size w W [numsT 3 g2 n (hts b O), numsT 3 g n O] → ∀ t, t < n → W.cell? ⟨g, t, none⟩ = some (.int .i64 (nth O t : Int)) := fun W s t ht => by
    have c0 := (s.swap.numCell t HO.out.2 ht).1
    rw [c0, nth_lt (by rw [HO.out.2]; exact ht)]
  have HCE := Lib.hid (And.intro (fun W s => hcell W s i hin) (And.intro (fun W s => hcell W s j hjn) (fun W s => hcell W s k hkn)))
  have H1 := Lib.hid hC1
  have H2 := Lib.hid hC2
  have hS : ∀ W, St w.heap.size w W [numsT 3 g2 n (hts b O), numsT 3 g n O] → W.cell? ⟨g, i, none⟩ = some (.int .i64 (nth O i : Int)) ∧ W.cell? ⟨g, j, none⟩ = some (.int .i64 (nth O j : Int)) ∧ W.cell? ⟨g, k, none⟩ = some (.int .i64 (nth O k : Int)) := fun W s => ⟨hcell W s i hin, hcell W s j hjn, hcell W s k hkn⟩
  have HS := Lib.hid hS
  clear hS
  have a0 := HCE.out.1 _ s5
  have a1 := HCE.out.2.1 _ s5
  have a2 := HCE.out.2.2 _ s5
  have S5 := Lib.hid s5.drew
  clear hC hC1 hC2 hcell oi oj ok s5
  generalize com b (nth O i) (nth O j) = x1 at *
  generalize com b (nth O i) (nth O k) = x2 at *
  generalize nth O i = oi at *
  generalize nth O j = oj at *
  generalize nth O k = ok at *
  have i1 : (i : Int) < (n : Int) := by omega
  have i2 : (j : Int) < (n : Int) := by omega
  have i3 : (k : Int) < (n : Int) := by omega
  have i4 : (x2 : Int) ≤ (x1 : Int) := by omega
  have i5 : decide ((x2 : Int) ≤ (x1 : Int)) = true := by simpa using i4
  go_wp2
  refine region_seg (by kernel_rfl) [0] 42 rfl (by kernel_rfl) (by kernel_rfl) (fun _ _ d _ _ h => by cases d <;> exact h) ?_
  intro K hK
  simp only [pickL, List.getElem?_cons_zero]
  go_wp2_with fail
  try clear hK K
  have s6 := S5.out
  clear a0 a1 a2 S5
  generalize w5.drew = wd at *
  have x0 := HS.out _ s6
  refine wpAny_of_held (S := fun W => W.cell? ⟨g, i, none⟩ = some (.int .i64 (oi : Int)) ∧ W.cell? ⟨g, j, none⟩ = some (.int .i64 (oj : Int)) ∧ W.cell? ⟨g, k, none⟩ = some (.int .i64 (ok : Int))) _ _ _ _ ?_
  refine wpAnyH_take (i := 1) (v := .bool true) rfl (by kernel_rfl) (by kernel_rfl) (by kernel_rfl) (fun _ _ _ h => h) (.inl ⟨by kernel_rfl, fun W hW => by go_simp⟩) x0 ?_
  refine wpAnyH_take (i := 2) (v := .bool true) rfl (by kernel_rfl) (by kernel_rfl) (by kernel_rfl) (fun _ _ _ h => h) (.inl ⟨by kernel_rfl, fun W hW => by go_simp⟩) x0 ?_
  refine wpAnyH_take (i := 3) (v := .int .i64 (0 : Int)) rfl (by kernel_rfl) (by kernel_rfl) (by kernel_rfl) (fun _ _ _ h => h) (.inl ⟨by kernel_rfl, fun W hW => by go_simp⟩) x0 ?_
  refine wpAnyH_take (i := 4) (v := .bool true) rfl (by kernel_rfl) (by kernel_rfl) (by kernel_rfl) (fun _ _ _ h => h) (.inl ⟨by kernel_rfl, fun W hW => by go_simp⟩) x0 ?_
  refine wpAnyH_take (i := 5) (v := .bool true) rfl (by kernel_rfl) (by kernel_rfl) (by kernel_rfl) (fun _ _ _ h => h) (.inl ⟨by kernel_rfl, fun W hW => by go_simp⟩) x0 ?_
  refine wpAnyH_take (i := 6) (v := .bool true) rfl (by kernel_rfl) (by kernel_rfl) (by kernel_rfl) (fun _ _ _ h => h) (.inl ⟨by kernel_rfl, fun W hW => by go_simp⟩) x0 ?_
  refine wpAnyH_take (i := 7) (v := .int .i64 (x1 : Int)) rfl (by kernel_rfl) (by kernel_rfl) (by kernel_rfl) (fun _ _ _ h => h) (.inl ⟨by kernel_rfl, fun W hW => by go_simp⟩) x0 ?_
  refine wpAnyH_take (i := 8) (v := .slice va n vc) rfl (by kernel_rfl) (by kernel_rfl) (by kernel_rfl) (fun _ _ _ h => h) (.inl ⟨by kernel_rfl, fun W hW => by go_simp⟩) x0 ?_
  refine wpAnyH_take (i := 9) (v := .slice (some ⟨g, 0, none⟩) n n) rfl (by kernel_rfl) (by kernel_rfl) (by kernel_rfl) (fun _ _ _ h => h) (.inl ⟨by kernel_rfl, fun W hW => by go_simp⟩) x0 ?_
  refine wpAnyH_take (i := 10) (v := .int .i64 (i : Int)) rfl (by kernel_rfl) (by kernel_rfl) (by kernel_rfl) (fun _ _ _ h => h) (.inl ⟨by kernel_rfl, fun W hW => by go_simp⟩) x0 ?_
  refine wpAnyH_take (i := 11) (v := .pointer (some ⟨g, i, none⟩)) rfl (by kernel_rfl) (by kernel_rfl) (by kernel_rfl) (fun _ _ _ h => h) (.inl ⟨by kernel_rfl, fun W hW => by go_simp⟩) x0 ?_
  refine wpAnyH_take (i := 12) (v := .int .i64 (oi : Int)) rfl (by kernel_rfl) (by kernel_rfl) (by kernel_rfl) (fun _ _ _ h => h) (.inl ⟨by kernel_rfl, fun W hW => by obtain ⟨k0, k1, k2⟩ := hW; go_simp⟩) x0 ?_
  refine wpAnyH_take (i := 13) (v := .slice (some ⟨g, 0, none⟩) n n) rfl (by kernel_rfl) (by kernel_rfl) (by kernel_rfl) (fun _ _ _ h => h) (.inl ⟨by kernel_rfl, fun W hW => by go_simp⟩) x0 ?_
  refine wpAnyH_take (i := 14) (v := .int .i64 (j : Int)) rfl (by kernel_rfl) (by kernel_rfl) (by kernel_rfl) (fun _ _ _ h => h) (.inl ⟨by kernel_rfl, fun W hW => by go_simp⟩) x0 ?_
  refine wpAnyH_take (i := 15) (v := .pointer (some ⟨g, j, none⟩)) rfl (by kernel_rfl) (by kernel_rfl) (by kernel_rfl) (fun _ _ _ h => h) (.inl ⟨by kernel_rfl, fun W hW => by go_simp⟩) x0 ?_
  refine wpAnyH_take (i := 16) (v := .int .i64 (oj : Int)) rfl (by kernel_rfl) (by kernel_rfl) (by kernel_rfl) (fun _ _ _ h => h) (.inl ⟨by kernel_rfl, fun W hW => by obtain ⟨k0, k1, k2⟩ := hW; go_simp⟩) x0 ?_
  refine held_call (j := 17) _ (by kernel_rfl) rfl (by kernel_rfl) 16 #[.slice va n vc, .int .i64 (oi : Int), .int .i64 (oj : Int)] (by kernel_rfl) (H1.out _ s6) ?_
  rintro e w7 ⟨rfl, s7⟩
  have x7 := HS.out _ s7
  refine ⟨_, rfl, x7, ?_⟩
  clear s6 x0
  refine wpAnyH_take (i := 18) (v := .bool true) rfl (by kernel_rfl) (by kernel_rfl) (by kernel_rfl) (fun _ _ _ h => h) (.inl ⟨by kernel_rfl, fun W hW => by go_simp⟩) x7 ?_
  refine wpAnyH_take (i := 19) (v := .bool true) rfl (by kernel_rfl) (by kernel_rfl) (by kernel_rfl) (fun _ _ _ h => h) (.inl ⟨by kernel_rfl, fun W hW => by go_simp⟩) x7 ?_
  refine wpAnyH_take (i := 20) (v := .bool true) rfl (by kernel_rfl) (by kernel_rfl) (by kernel_rfl) (fun _ _ _ h => h) (.inl ⟨by kernel_rfl, fun W hW => by go_simp⟩) x7 ?_
  refine wpAnyH_take (i := 21) (v := .int .i64 (x2 : Int)) rfl (by kernel_rfl) (by kernel_rfl) (by kernel_rfl) (fun _ _ _ h => h) (.inl ⟨by kernel_rfl, fun W hW => by go_simp⟩) x7 ?_
  refine wpAnyH_take (i := 22) (v := .slice va n vc) rfl (by kernel_rfl) (by kernel_rfl) (by kernel_rfl) (fun _ _ _ h => h) (.inl ⟨by kernel_rfl, fun W hW => by go_simp⟩) x7 ?_
  refine wpAnyH_take (i := 23) (v := .slice (some ⟨g, 0, none⟩) n n) rfl (by kernel_rfl) (by kernel_rfl) (by kernel_rfl) (fun _ _ _ h => h) (.inl ⟨by kernel_rfl, fun W hW => by go_simp⟩) x7 ?_
  refine wpAnyH_take (i := 24) (v := .int .i64 (i : Int)) rfl (by kernel_rfl) (by kernel_rfl) (by kernel_rfl) (fun _ _ _ h => h) (.inl ⟨by kernel_rfl, fun W hW => by go_simp⟩) x7 ?_
  refine wpAnyH_take (i := 25) (v := .pointer (some ⟨g, i, none⟩)) rfl (by kernel_rfl) (by kernel_rfl) (by kernel_rfl) (fun _ _ _ h => h) (.inl ⟨by kernel_rfl, fun W hW => by go_simp⟩) x7 ?_
  refine wpAnyH_take (i := 26) (v := .int .i64 (oi : Int)) rfl (by kernel_rfl) (by kernel_rfl) (by kernel_rfl) (fun _ _ _ h => h) (.inl ⟨by kernel_rfl, fun W hW => by obtain ⟨k0, k1, k2⟩ := hW; go_simp⟩) x7 ?_
  refine wpAnyH_take (i := 27) (v := .slice (some ⟨g, 0, none⟩) n n) rfl (by kernel_rfl) (by kernel_rfl) (by kernel_rfl) (fun _ _ _ h => h) (.inl ⟨by kernel_rfl, fun W hW => by go_simp⟩) x7 ?_
  refine wpAnyH_take (i := 28) (v := .int .i64 (k : Int)) rfl (by kernel_rfl) (by kernel_rfl) (by kernel_rfl) (fun _ _ _ h => h) (.inl ⟨by kernel_rfl, fun W hW => by go_simp⟩) x7 ?_
  refine wpAnyH_take (i := 29) (v := .pointer (some ⟨g, k, none⟩)) rfl (by kernel_rfl) (by kernel_rfl) (by kernel_rfl) (fun _ _ _ h => h) (.inl ⟨by kernel_rfl, fun W hW => by go_simp⟩) x7 ?_
  refine wpAnyH_take (i := 30) (v := .int .i64 (ok : Int)) rfl (by kernel_rfl) (by kernel_rfl) (by kernel_rfl) (fun _ _ _ h => h) (.inl ⟨by kernel_rfl, fun W hW => by obtain ⟨k0, k1, k2⟩ := hW; go_simp⟩) x7 ?_
  refine held_call (j := 31) _ (by kernel_rfl) rfl (by kernel_rfl) 16 #[.slice va n vc, .int .i64 (oi : Int), .int .i64 (ok : Int)] (by kernel_rfl) (H2.out _ s7) ?_
  rintro e w8 ⟨rfl, s8⟩
  have x8 := HS.out _ s8
  refine ⟨_, rfl, x8, ?_⟩
  clear s7 x7
  refine wpAnyH_take (i := 32) (v := .bool true) rfl (by kernel_rfl) (by kernel_rfl) (by kernel_rfl) (fun _ _ _ h => h) (.inl ⟨by kernel_rfl, fun W hW => by go_simp⟩) x8 ?_
  refine wpAnyH_take (i := 33) (v := .bool true) rfl (by kernel_rfl) (by kernel_rfl) (by kernel_rfl) (fun _ _ _ h => h) (.inl ⟨by kernel_rfl, fun W hW => by go_simp⟩) x8 ?_
  refine wpAnyH_take (i := 34) (v := .bool true) rfl (by kernel_rfl) (by kernel_rfl) (by kernel_rfl) (fun _ _ _ h => h) (.inl ⟨by kernel_rfl, fun W hW => by go_simp⟩) x8 ?_
  refine wpAnyH_take (i := 35) (v := .int .i64 (x2 : Int)) rfl (by kernel_rfl) (by kernel_rfl) (by kernel_rfl) (fun _ _ _ h => h) (.inl ⟨by kernel_rfl, fun W hW => by go_simp⟩) x8 ?_
  refine wpAnyH_take (i := 36) (v := .int .i64 (x1 : Int)) rfl (by kernel_rfl) (by kernel_rfl) (by kernel_rfl) (fun _ _ _ h => h) (.inl ⟨by kernel_rfl, fun W hW => by go_simp⟩) x8 ?_
  refine wpAnyH_take (i := 37) (v := .bool true) rfl (by kernel_rfl) (by kernel_rfl) (by kernel_rfl) (fun _ _ _ h => h) (.inl ⟨by kernel_rfl, fun W hW => by go_simp⟩) x8 ?_
  refine wpAnyH_take (i := 38) (v := .bool true) rfl (by kernel_rfl) (by kernel_rfl) (by kernel_rfl) (fun _ _ _ h => h) (.inl ⟨by kernel_rfl, fun W hW => by go_simp⟩) x8 ?_
  refine wpAnyH_take (i := 39) (v := .bool true) rfl (by kernel_rfl) (by kernel_rfl) (by kernel_rfl) (fun _ _ _ h => h) (.inl ⟨by kernel_rfl, fun W hW => by go_simp⟩) x8 ?_
  refine held_call (j := 40) _ (by kernel_rfl) rfl (by kernel_rfl) 12 #[] (by kernel_rfl) (heights_any _) ?_
  rintro e w9 ⟨rfl, bz⟩
  have s9 := s8.quiet bz
  have x9 := HS.out _ s9
  refine ⟨_, rfl, x9, ?_⟩
  clear s8 x8 bz
  refine wpAnyH_take (i := 41) (v := .bool true) rfl (by kernel_rfl) (by kernel_rfl) (by kernel_rfl) (fun _ _ _ h => h) (.inl ⟨by kernel_rfl, fun W hW => by go_simp⟩) x9 ?_
  refine wpAnyH_take (i := 42) (v := .bool true) rfl (by kernel_rfl) (by kernel_rfl) (by kernel_rfl) (fun _ _ _ h => h) (.inl ⟨by kernel_rfl, fun W hW => by go_simp⟩) x9 ?_
  refine wpAnyH_done (by kernel_rfl) ?_ 0
  have hfin := s9.below (Nat.le_refl _)
  clear s9 x9 HS H1 H2
  go_simp
  go_wp2
  go_ret
  exact ⟨rfl, hfin⟩

end Go.Proofs.Ytfifkbadniekfaa.lcpText
