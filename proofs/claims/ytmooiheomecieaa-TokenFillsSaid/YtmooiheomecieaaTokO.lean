/-
  Contracts of package token: seek, spanOf; Length, Distance, LengthOf, DistanceOf. No conditions but those of the calls.
-/
import Derived.Test.YtmooiheomecieaaTokL
import Derived.Test.YtmooiheomecieaaTokQ
import Derived.Test.YtmooiheomecieaaTokA
namespace Go.Proofs.Ytmooiheomecieaa.Tok
open Go.RowKit

theorem results_tmp4 {fn : Func} {t u v x : Tmp} (h : fn.results = #[.tmp t, .tmp u, .tmp v, .tmp x]) (tmps : Array Value) (P : Program) (w : World) :
    (results fn tmps).run P w = .ok (.tuple #[tmps.getD t undef, tmps.getD u undef, tmps.getD v undef, tmps.getD x undef]) w := by
  simp [results, h]

set_option maxRecDepth 100000 in
set_option maxHeartbeats 2000000 in
/-- seek: which says n, its bits, how far n is above its least. -/
theorem seek_any (w : World) (v : Value) (L : List (Nat × Nat)) (n : Nat) (hrow : SpanRow w v L) (hr : Rises L) (hlen : L.length ≤ 1000) (h0 : 0 < L.length) (hlo : L[0].1 ≤ n) (hn : n ≤ 1000000) :
    Calls Try.prog 22 #[v, .int .i64 (n : Int)] w fun e w' => e = .returned (.tuple #[.int .i64 (at_ L n : Int), .int .i64 ((L[at_ L n]'(at_lt L n h0)).2 : Int), .int .i64 ((n - (L[at_ L n]'(at_lt L n h0)).1 : Nat) : Int)]) ∧ Below w.heap.size w w' := by
  have s1 := (St.start w).newBox #[v] 44
  have s2 := s1.newBox #[.int .i64 (n : Int)] 3
  have hsr := hrow.below (s2.below (Nat.le_refl _)) (Nat.le_refl _)
  have hse := search_any _ w.heap.size (w.alloc (.cells #[v] 44)).heap.size v L n hsr (s2.swap.boxAt 0).1 (s2.boxAt 0).1 hr hlen
  have hz : (w.alloc (.cells #[v] 44)).heap.size = w.heap.size + 1 := by simp
  rw [hz] at hse
  have hp := upTo_pos L n h0 hlo
  have hl := at_lt L n h0
  have e1 : (upTo L n : Int) - 1 = (at_ L n : Int) := by unfold at_; omega
  have hle := (upTo_iff L n hr (at_ L n) hl).2 (by unfold at_; omega)
  have hrow2 := fun W (hb : Below w.heap.size w W) => hrow.below hb (Nat.le_refl _)
  obtain ⟨b, cap, rfl, hcap, -⟩ := hrow
  have hat : ∀ W, Below w.heap.size w W → W.cell? ⟨b, at_ L n * 2, none⟩ = some (.int .i64 (L[at_ L n].1 : Int)) ∧ W.cell? ⟨b, at_ L n * 2 + 1, none⟩ = some (.int .i64 (L[at_ L n].2 : Int)) := fun W hb => by
    obtain ⟨b', cap', e2, _, hat⟩ := hrow2 W hb
    have e3 := Option.some.inj (Value.slice.inj e2).1
    have e4 : b = b' := by injection e3
    rw [e4]
    exact hat _ hl
  clear hrow2 hsr hp
  generalize L[at_ L n].1 = y at *
  generalize L[at_ L n].2 = z at *
  have hu1 : upTo L n ≤ 1000 := Nat.le_trans (upTo_le L n) hlen
  generalize upTo L n = u at *
  generalize at_ L n = k at *
  have hd : (n : Int) - (y : Int) = ((n - y : Nat) : Int) := by omega
  generalize n - y = d at *
  clear hle hr hlo
  go_enter Try.func22, Try.ntmps22
  go_wp2_with (go_at_call 33; refine hse.mono ?_; rintro e w1 ⟨rfl, hb1⟩)
  have s3 := s2.quiet hb1
  obtain ⟨c0, c1⟩ := hat w1 (s3.below (Nat.le_refl _))
  have f0 := (s3.swap.boxAt 0).1
  have f1 := (s3.boxAt 0).1
  rw [hz] at f1
  have hb3 := s3.below (Nat.le_refl _)
  clear hat hse s1 s2 s3 hb1 hz
  go_quiet (fail)
  go_wp2
  go_ret3
  exact ⟨rfl, hb3.drewN _⟩

set_option maxRecDepth 100000 in
set_option maxHeartbeats 2000000 in
/-- spanOf: what a symbol says. -/
theorem spanOf_any (w : World) (v : Value) (L : List (Nat × Nat)) (base : Nat) (x : Int) (hx0 : -9223372036854775808 ≤ x) (hx1 : x ≤ 9223372036854775807) (hbase : base ≤ 1000) (hrow : SpanRow w v L) (hlen : L.length ≤ 1000) :
    Calls Try.prog 26 #[v, .int .i64 x, .int .i64 (base : Int)] w fun e w' => e = .returned (.tuple #[.int .i64 ((ansOf L base x).1 : Int), .int .i64 ((ansOf L base x).2.1 : Int), .int .i64 ((ansOf L base x).2.2 : Int)]) ∧ Below w.heap.size w w' := by
  by_cases h1 : x < (base : Int)
  · rw [ansOf_out L base x (.inl h1)]
    obtain ⟨b, cap, rfl, hcap, -⟩ := hrow
    go_enter Try.func26, Try.ntmps26
    go_wp2
    go_ret3
    exact ⟨rfl, Below.refl _ _⟩
  · obtain ⟨k, rfl⟩ : ∃ k : Nat, x = ((base + k : Nat) : Int) := ⟨(x - base).toNat, by omega⟩
    have e0 : ((base + k : Nat) : Int) - (base : Int) = (k : Int) := by omega
    by_cases h2 : L.length ≤ k
    · rw [ansOf_out L base _ (.inr (by omega))]
      obtain ⟨b, cap, rfl, hcap, -⟩ := hrow
      generalize ((base + k : Nat) : Int) = x at *
      go_enter Try.func26, Try.ntmps26
      go_wp2
      go_ret3
      exact ⟨rfl, Below.refl _ _⟩
    · have hk : k < L.length := by omega
      rw [ansOf_in L base k hk]
      obtain ⟨b, cap, rfl, hcap, hat⟩ := hrow
      obtain ⟨c0, c1⟩ := hat k hk
      clear hat
      generalize L[k].1 = y at *
      generalize L[k].2 = z at *
      have s1 := (St.start w).newBox #[.int .i64 (y : Int), .int .i64 (z : Int)] 53
      have f0 := (s1.boxAt 0).1
      have f1 := (s1.boxAt 1).1
      generalize ((base + k : Nat) : Int) = x at *
      go_enter Try.func26, Try.ntmps26
      go_wp2
      go_quiet (fail)
      go_wp2
      go_ret3
      exact ⟨rfl, (s1.below (Nat.le_refl _)).drewN _⟩

set_option maxRecDepth 100000 in
/-- LengthOf. -/
theorem lengthOf_any (w : World) (x : Int) (hx0 : -9223372036854775808 ≤ x) (hx1 : x ≤ 9223372036854775807) :
    Calls Try.prog 13 #[.int .i64 x] w fun e w' => e = .returned (.tuple #[.int .i64 ((lenOfAns x).1 : Int), .int .i64 ((lenOfAns x).2.1 : Int), .int .i64 ((lenOfAns x).2.2 : Int)]) ∧ Below w.heap.size w w' := by
  have hl := lengths_any w
  have hs := fun W v (h : SpanRow W v lenS) => spanOf_any W v lenS 257 x hx0 hx1 (by omega) h (by rw [lenS_length]; omega)
  have h0 : 0 < lenS.length := by rw [lenS_length]; omega
  unfold lenOfAns
  generalize ansOf lenS 257 x = r at *
  generalize lenS = S at *
  obtain ⟨p, q, z⟩ := r
  go_enter Try.func13, Try.ntmps13
  go_wp2_with (first | (go_at_call 23; refine hl.mono ?_; rintro e w1 ⟨v1, rfl, ho, hb1⟩; obtain ⟨va, vc, rfl⟩ := ownsRow_slice ho) | (go_at_call 26; refine (hs _ _ (spanRow_owns ho h0)).mono ?_; rintro e w2 ⟨rfl, hb2⟩))
  go_ret3
  exact ⟨rfl, hb1.trans (hb2.mono hb1.size)⟩

set_option maxRecDepth 100000 in
/-- DistanceOf. -/
theorem distanceOf_any (w : World) (x : Int) (hx0 : -9223372036854775808 ≤ x) (hx1 : x ≤ 9223372036854775807) :
    Calls Try.prog 16 #[.int .i64 x] w fun e w' => e = .returned (.tuple #[.int .i64 ((disOfAns x).1 : Int), .int .i64 ((disOfAns x).2.1 : Int), .int .i64 ((disOfAns x).2.2 : Int)]) ∧ Below w.heap.size w w' := by
  have hl := distances_any w
  have hs := fun W v (h : SpanRow W v disS) => spanOf_any W v disS 0 x hx0 hx1 (by omega) h (by rw [disS_length]; omega)
  have h0 : 0 < disS.length := by rw [disS_length]; omega
  unfold disOfAns
  generalize ansOf disS 0 x = r at *
  generalize disS = S at *
  obtain ⟨p, q, z⟩ := r
  go_enter Try.func16, Try.ntmps16
  go_wp2_with (first | (go_at_call 25; refine hl.mono ?_; rintro e w1 ⟨v1, rfl, ho, hb1⟩; obtain ⟨va, vc, rfl⟩ := ownsRow_slice ho) | (go_at_call 26; refine (hs _ _ (spanRow_owns ho h0)).mono ?_; rintro e w2 ⟨rfl, hb2⟩))
  go_ret3
  exact ⟨rfl, hb1.trans (hb2.mono hb1.size)⟩

/-- An answer of four numbers. -/
abbrev four (r : Nat × Nat × Nat × Nat) : Value := .tuple #[.int .i64 (r.1 : Int), .int .i64 (r.2.1 : Int), .int .i64 (r.2.2.1 : Int), .int .i64 (r.2.2.2 : Int)]

set_option maxRecDepth 100000 in
set_option maxHeartbeats 2000000 in
/-- Length. -/
theorem length_any (w : World) (x : Int) (hx0 : -9223372036854775808 ≤ x) (hx1 : x ≤ 9223372036854775807) :
    Calls Try.prog 9 #[.int .i64 x] w fun e w' => e = .returned (four (lenAns x)) ∧ Below w.heap.size w w' := by
  by_cases hout : x < 3 ∨ 258 < x
  · have ha : lenAns x = (0, 0, 0, 5) := ans_out lenS 3 258 257 x hout
    rw [ha]
    clear ha
    by_cases h3 : x < 3
    · clear hout
      go_enter Try.func9, Try.ntmps9
      go_wp2
      refine bodyPost_ret (results_tmp4 rfl _ _ _) rfl ?_
      exact ⟨rfl, Below.refl _ _⟩
    · have h4 : 258 < x := by omega
      clear hout
      go_enter Try.func9, Try.ntmps9
      go_wp2
      refine bodyPost_ret (results_tmp4 rfl _ _ _) rfl ?_
      exact ⟨rfl, Below.refl _ _⟩
  · obtain ⟨n, rfl⟩ : ∃ n : Nat, x = (n : Int) := ⟨x.toNat, by omega⟩
    have h0 : 0 < lenS.length := by rw [lenS_length]; omega
    have ha : lenAns (n : Int) = _ := ans_in lenS 3 258 257 n (by omega) (by omega) h0
    rw [ha]
    have hl := lengths_any w
    have hlo : lenS[0].1 ≤ n := by show 3 ≤ n; omega
    have hs := fun W v (h : SpanRow W v lenS) => seek_any W v lenS n h rises_lenS (by rw [lenS_length]; omega) h0 hlo (by omega)
    have hk : at_ lenS n ≤ 29 := by have := at_lt lenS n h0; rw [lenS_length] at this; omega
    clear ha
    have h3 : 3 ≤ n := by omega
    have h4 : n ≤ 258 := by omega
    generalize (lenS[at_ lenS n]'(at_lt lenS n h0)).2 = z at *
    generalize n - (lenS[at_ lenS n]'(at_lt lenS n h0)).1 = d at *
    generalize at_ lenS n = k at *
    clear hlo
    generalize lenS = S at *
    clear hout hx0 hx1
    go_enter Try.func9, Try.ntmps9
    go_wp2_with (first | (go_at_call 23; refine hl.mono ?_; rintro e w1 ⟨v1, rfl, ho, hb1⟩; obtain ⟨va, vc, rfl⟩ := ownsRow_slice ho) | (go_at_call 22; refine (hs _ _ (spanRow_owns ho h0)).mono ?_; rintro e w2 ⟨rfl, hb2⟩))
    refine bodyPost_ret (results_tmp4 rfl _ _ _) rfl ?_
    exact ⟨by simp [four], hb1.trans (hb2.mono hb1.size)⟩

set_option maxRecDepth 100000 in
set_option maxHeartbeats 2000000 in
/-- Distance. -/
theorem distance_any (w : World) (x : Int) (hx0 : -9223372036854775808 ≤ x) (hx1 : x ≤ 9223372036854775807) :
    Calls Try.prog 11 #[.int .i64 x] w fun e w' => e = .returned (four (disAns x)) ∧ Below w.heap.size w w' := by
  by_cases hout : x < 1 ∨ 32768 < x
  · have ha : disAns x = (0, 0, 0, 5) := ans_out disS 1 32768 0 x hout
    rw [ha]
    clear ha
    by_cases h3 : x < 1
    · clear hout
      go_enter Try.func11, Try.ntmps11
      go_wp2
      refine bodyPost_ret (results_tmp4 rfl _ _ _) rfl ?_
      exact ⟨rfl, Below.refl _ _⟩
    · have h4 : 32768 < x := by omega
      clear hout
      go_enter Try.func11, Try.ntmps11
      go_wp2
      refine bodyPost_ret (results_tmp4 rfl _ _ _) rfl ?_
      exact ⟨rfl, Below.refl _ _⟩
  · obtain ⟨n, rfl⟩ : ∃ n : Nat, x = (n : Int) := ⟨x.toNat, by omega⟩
    have h0 : 0 < disS.length := by rw [disS_length]; omega
    have ha : disAns (n : Int) = _ := ans_in disS 1 32768 0 n (by omega) (by omega) h0
    rw [ha]
    have hl := distances_any w
    have hlo : disS[0].1 ≤ n := by show 1 ≤ n; omega
    have hs := fun W v (h : SpanRow W v disS) => seek_any W v disS n h rises_disS (by rw [disS_length]; omega) h0 hlo (by omega)
    have hk : at_ disS n ≤ 30 := by have := at_lt disS n h0; rw [disS_length] at this; omega
    clear ha
    have h3 : 1 ≤ n := by omega
    have h4 : n ≤ 32768 := by omega
    generalize (disS[at_ disS n]'(at_lt disS n h0)).2 = z at *
    generalize n - (disS[at_ disS n]'(at_lt disS n h0)).1 = d at *
    generalize at_ disS n = k at *
    clear hlo
    generalize disS = S at *
    clear hout hx0 hx1
    go_enter Try.func11, Try.ntmps11
    go_wp2_with (first | (go_at_call 25; refine hl.mono ?_; rintro e w1 ⟨v1, rfl, ho, hb1⟩; obtain ⟨va, vc, rfl⟩ := ownsRow_slice ho) | (go_at_call 22; refine (hs _ _ (spanRow_owns ho h0)).mono ?_; rintro e w2 ⟨rfl, hb2⟩))
    refine bodyPost_ret (results_tmp4 rfl _ _ _) rfl ?_
    exact ⟨by simp [four], hb1.trans (hb2.mono hb1.size)⟩

end Go.Proofs.Ytmooiheomecieaa.Tok
