/-
  Contracts of package lcp: what is common, along the places of the text, by a range over a function. No conditions but that rows are small.
-/
import Derived.Test.YtfifkbadniekfaaLcpA
import Derived.Test.YtfifkbadniekfaaLcpC
import Derived.Test.YtfifkbadniekfaaCount
import Derived.Test.YtfifkbadniekfaaRegIn
import Derived.Sort.QuietTacIn
import Derived.Sort.BigQuietIn
namespace Go.Proofs.Ytfifkbadniekfaa.Lcp
open Go.RowKit Go.Shelf Go.Proofs.Ytfifkbadniekfaa.Suf

attribute [local go_sem] Oper.semAt_some

/-- What a round keeps: what lies below n0, and three boxes. -/
def KeepC (n0 b1 b2 b3 : Nat) (A B : World) : Prop := Below n0 A B ∧ ∀ j v, (j = b1 ∨ j = b2 ∨ j = b3) → A.cell? ⟨j, 0, none⟩ = some v → B.cell? ⟨j, 0, none⟩ = some v

theorem KeepC.trans {n0 b1 b2 b3 : Nat} {A B C : World} (h : KeepC n0 b1 b2 b3 A B) (k : KeepC n0 b1 b2 b3 B C) : KeepC n0 b1 b2 b3 A C := ⟨h.1.trans k.1, fun j v hj hv => k.2 j v hj (h.2 j v hj hv)⟩

set_option maxHeartbeats 1000000 in
/-- commons: the slices are boxed; the function that comes back holds the boxes. -/
theorem commons_any (va ua sa : Option Addr) (vn un sn vc uc sc : Nat) (w : World) :
    Calls Try.prog 21 #[.slice va vn vc, .slice ua un uc, .slice sa sn sc] w fun e w' => e = .returned (.func (.func 26) #[] #[.pointer (some ⟨w.heap.size + 2, 0, none⟩), .pointer (some ⟨w.heap.size, 0, none⟩), .pointer (some ⟨w.heap.size + 1, 0, none⟩)]) ∧
      w' = ((w.alloc (.cells #[.slice va vn vc] 22)).alloc (.cells #[.slice ua un uc] 23)).alloc (.cells #[.slice sa sn sc] 23) := by
  have hmf : ∀ (fn : Fn) (first cap : Array Value) (w : World), (Instr.makeFunc fn first cap).run Try.prog w = .ok (.func fn first cap) w := fun _ _ _ _ => rfl
  go_enter Try.func21, Try.ntmps21
  go_wp2
  go_ret
  exact ⟨by simp, rfl⟩

theorem belowDrewN {B : Nat} {a w : World} (h : Below B a w) (n : Nat) : Below B a (w.drewN n) := ⟨h.os, h.tape, h.output, h.size, h.block⟩

/-- The values of round k. -/
def comArgs (b O J : List Nat) (k : Nat) : Array Value := #[.int .i64 (k : Int), .int .i64 (nAt b O J k : Int)]

set_option maxRecDepth 100000 in
set_option maxHeartbeats 4000000 in
/-- The function along the places. -/
theorem commons_seq (n : Nat) (hn : 1 ≤ n) (sb bb ob n0 : Nat) (v u s : Value) (b O J : List Nat) (w : World) (hs1 : sb < w.heap.size) (hs2 : bb < w.heap.size) (hs3 : ob < w.heap.size) (hn0 : n0 ≤ w.heap.size)
    (hbs : w.cell? ⟨sb, 0, none⟩ = some s) (hbb : w.cell? ⟨bb, 0, none⟩ = some v) (hbo : w.cell? ⟨ob, 0, none⟩ = some u)
    (hv : ∀ W, Below n0 w W → ByteRow W v b) (hu : ∀ W, Below n0 w W → NumRow W u O) (hs : ∀ W, Below n0 w W → NumRow W s J) (hb : b.length ≤ 1000000) (hW : Whole b.length (Ahead false b) O) (hJ : Of O J) :
    SeqN Fence.wide n Try.prog 26 #[.pointer (some ⟨sb, 0, none⟩), .pointer (some ⟨bb, 0, none⟩), .pointer (some ⟨ob, 0, none⟩)] (comArgs b O J) (KeepC n0 sb bb ob) b.length w := by
  intro l I W hWb hA hY h0
  refine callsIn_of_wp Try.func26 rfl trivial ?_ rfl
  simp only [Try.ntmps26, List.size_toArray, List.length_cons, List.length_nil, Nat.reduceAdd, Nat.reduceSub, Array.replicate_succ, Array.replicate_zero, List.push_toArray, List.append_toArray, List.nil_append, List.cons_append]
  have k1 := (hWb.cell (p := ⟨sb, 0, none⟩) hs1).trans hbs
  have k2 := (hWb.cell (p := ⟨bb, 0, none⟩) hs2).trans hbb
  have k3 := (hWb.cell (p := ⟨ob, 0, none⟩) hs3).trans hbo
  have hW0 : Below n0 w W := hWb.mono hn0
  obtain ⟨N, hN⟩ : ∃ N, b.length = N := ⟨_, rfl⟩
  have hOl : O.length = N := by rw [hW.len, hN]
  have hJl : J.length = N := by rw [hJ.len, hOl]
  obtain ⟨va, vc, rfl⟩ : ∃ a c, v = .slice a N c := by obtain ⟨a, c, e, _⟩ := hv w (Below.refl _ _); exact ⟨a, c, by rw [← hN]; exact e⟩
  obtain ⟨ua, uc, rfl⟩ : ∃ a c, u = .slice a N c := by obtain ⟨a, c, e, _⟩ := hu w (Below.refl _ _); exact ⟨a, c, by rw [← hOl]; exact e⟩
  obtain ⟨sa, sc, rfl⟩ : ∃ a c, s = .slice a N c := by obtain ⟨a, c, e, _⟩ := hs w (Below.refl _ _); exact ⟨a, c, by rw [← hJl]; exact e⟩
  have hU : ∀ W, Below n0 w W → ∀ i, i < N → nth O i < N ∧ ∃ x off, ua = some ⟨x, off, none⟩ ∧ W.cell? ⟨x, off + i, none⟩ = some (.int .i64 (nth O i : Int)) := fun W t i hi => by
    obtain ⟨a, c, e, h⟩ := numNth (hu W t)
    obtain ⟨rfl, -, -⟩ := Value.slice.inj e
    exact ⟨by rw [← hN]; exact Whole.at hW (by omega), h i (by omega)⟩
  have hS : ∀ W, Below n0 w W → ∀ i, i < N → nth J i < N ∧ ∃ x off, sa = some ⟨x, off, none⟩ ∧ W.cell? ⟨x, off + i, none⟩ = some (.int .i64 (nth J i : Int)) := fun W t i hi => by
    obtain ⟨a, c, e, h⟩ := numNth (hs W t)
    obtain ⟨rfl, -, -⟩ := Value.slice.inj e
    exact ⟨by have := (hJ.at_ i (by omega)).1; omega, h i (by omega)⟩
  have hcapv : N ≤ vc := by
    obtain ⟨a, c, e, h, _⟩ := hv w (Below.refl _ _)
    obtain ⟨-, -, rfl⟩ := Value.slice.inj e
    omega
  have hcall : ∀ W, Below n0 w W → ∀ p q, p ≤ N → q ≤ N → Calls Try.prog 27 #[.slice (if vc = p then va else va.map (·.add p)) (N - p) (vc - p), .slice (if vc = q then va else va.map (·.add q)) (N - q) (vc - q)] W fun e w' => e = .returned (.int .i64 (alike (b.drop p) (b.drop q) : Int)) ∧ ∃ k, w' = W.drewN k := fun W t p q hp hq => by
    have hrow := hv W t
    have h1 := rowDrop hrow p (by omega)
    have h2 := rowDrop hrow q (by omega)
    rw [hN] at h1 h2
    exact alike_any W _ _ _ _ h1 h2 (by rw [List.length_drop]; omega) (by rw [List.length_drop]; omega)
  have hfrom : ∀ k, k < N → nth J k ≠ 0 → nFrom b O J k ≤ com b (nth O (nth J k - 1)) k := fun k hk h => nFrom_le hW hJ (by omega) h
  have hne : ∀ k, k < N → nth J k ≠ 0 → nth O (nth J k - 1) ≠ k := fun k hk h e => by
    have h1 := hJ.at_ k (by omega)
    have h2 := (hJ.back (nth J k - 1) (by omega)).2
    rw [e] at h2
    omega
  have hle : ∀ k, k < N → nAt b O J k ≤ N := fun k hk => by have := nAt_le hW hJ (k := k) (by omega); omega
  have HU := Lib.hid hU
  have HS := Lib.hid hS
  have HC := Lib.hid hcall
  have HF := Lib.hid (And.intro hfrom (And.intro hne hle))
  have HN := Lib.hid hN
  rw [hN] at hb hY ⊢
  have HY := Lib.hid hY
  have HA := Lib.hid hA
  clear hU hS hcall hfrom hne hle hv hu hs hW hJ hOl hJl hN hY hA hbs hbb hbo hWb
  gi_wp2
  gi_loopw [5, 10] (fun nv iv wr => ∃ k : Nat, k ≤ N ∧ iv = .int .i64 (k : Int) ∧ nv = .int .i64 (nFrom b O J k : Int) ∧ I k wr ∧ wr.cell? ⟨sb, 0, none⟩ = some (.slice sa N sc) ∧ wr.cell? ⟨bb, 0, none⟩ = some (.slice va N vc) ∧ wr.cell? ⟨ob, 0, none⟩ = some (.slice ua N uc) ∧ Below n0 w wr)
    (fun _ iv _ => N - (intOf iv).toNat)
  case atStart => exact ⟨0, Nat.zero_le _, rfl, rfl, h0, k1, k2, k3, hW0⟩
  case round =>
    clear k1 k2 k3 hW0 h0
    obtain ⟨k, hk, rfl, rfl, hI, k1, k2, k3, hBl⟩ := hrel
    by_cases hlt : k < N
    · obtain ⟨hat, xb, xo, rfl, c0⟩ := HS.out wr hBl k hlt
      have hF := HF.out.1 k hlt
      have hne := HF.out.2.1 k hlt
      have hle := HF.out.2.2 k hlt
      have hnx : nFrom b O J (k + 1) = nAt b O J k - 1 := rfl
      have hargs : comArgs b O J k = #[.int .i64 (k : Int), .int .i64 (nAt b O J k : Int)] := rfl
      by_cases h0 : nth J k = 0
      · have hna : nAt b O J k = 0 := by unfold nAt; rw [if_pos h0]
        rw [hna] at hargs hnx
        replace hargs : comArgs b O J k = #[.int .i64 (k : Int), .int .i64 0] := hargs
        rw [h0] at c0
        replace c0 : wr.cell? ⟨xb, xo + k, none⟩ = some (.int .i64 0) := c0
        have HX := Lib.hid hnx
        clear hF hne hle hnx hna h0 hat
        obtain ⟨fn, tmps, assign, body, hy, hR⟩ := HY.out k wr hlt hI
        rw [hargs] at hy
        clear hargs
        gi_wp2
        refine hR.mono ?_
        rintro e W3 ⟨rfl, hJ3, hk3⟩
        have g1 := hk3.2 _ _ (.inl rfl) k1
        have g2 := hk3.2 _ _ (.inr (.inl rfl)) k2
        have g3 := hk3.2 _ _ (.inr (.inr rfl)) k3
        have g4 := hBl.trans hk3.1
        clear hR hy hk3 k1 k2 k3 hBl c0
        gi_wp2
        exact ⟨⟨k + 1, hlt, by go_num, by rw [HX.out]; rfl, hJ3, g1, g2, g3, g4⟩, by simp only [intOf]; omega⟩
      · obtain ⟨a, ha⟩ : ∃ a, nth J k = a + 1 := ⟨nth J k - 1, by omega⟩
        have hna : nAt b O J k = com b (nth O a) k := by unfold nAt; rw [if_neg h0, ha, Nat.add_sub_cancel]
        have hF' := hF h0
        have hne' := hne h0
        rw [ha, Nat.add_sub_cancel] at hF' hne'
        rw [ha] at c0 hat
        replace c0 : wr.cell? ⟨xb, xo + k, none⟩ = some (.int .i64 ((a : Int) + 1)) := c0
        obtain ⟨hx, yb, yo, rfl, c1⟩ := HU.out wr hBl a (by omega)
        have hcm := com_le b (nth O a) k (by have := HN.out; omega) (by have := HN.out; omega)
        rw [HN.out] at hcm
        have hcf := com_from b (nth O a) k _ hF'
        have hc := fun m => HC.out (wr.drewN m) (belowDrewN hBl m) (nth O a + nFrom b O J k) (k + nFrom b O J k) (by omega) (by omega)
        rw [hna] at hargs hnx hle
        clear hna hF hne h0 ha
        generalize alike (b.drop (nth O a + nFrom b O J k)) (b.drop (k + nFrom b O J k)) = y at *
        generalize com b (nth O a) k = c at *
        generalize nFrom b O J k = nf at *
        generalize nth O a = x at *
        have HX := Lib.hid hnx
        clear hnx
        have ha1 : a < N := by omega
        have ha2 : (a : Int) < (N : Int) := by omega
        have hxf : x + nf ≤ N := by omega
        have hkf : k + nf ≤ N := by omega
        have hxv : (x : Int) + (nf : Int) ≤ (vc : Int) := by omega
        have hkv : (k : Int) + (nf : Int) ≤ (vc : Int) := by omega
        have hxn : (x : Int) + (nf : Int) ≤ (N : Int) := by omega
        have hkn : (k : Int) + (nf : Int) ≤ (N : Int) := by omega
        subst hcf
        replace hargs : comArgs b O J k = #[.int .i64 (k : Int), .int .i64 ((nf : Int) + (y : Int))] := hargs
        have hsum : (nf : Int) + (y : Int) ≤ (N : Int) := by omega
        by_cases v1 : vc = x + nf
        · have v2 : ¬ x + nf = k + nf := by omega
          subst v1
          simp only [if_true, if_neg v2, Nat.sub_self] at hc
          rw [show N - (x + nf) = 0 by omega] at hc
          · have hc' : ∀ m, CallsIn Fence.wide (n - 1) Try.prog 27 #[.slice va 0 0, .slice (va.map (·.add (k + nf))) (N - (k + nf)) (x + nf - (k + nf))] (wr.drewN m) fun e w' => e = .returned (.int .i64 (y : Int)) ∧ ∃ k, w' = wr.drewN k := fun m => callsIn_wide.2 ((hc m).mono fun _ _ ⟨h1, j, h2⟩ => ⟨h1, m + j, by rw [h2]; simp⟩)
            clear hc
            gi_wp2
            refine wpIn_region_quiet_lit rfl (by kernel_rfl) (by kernel_rfl) ?_
            repeat (gi_big_quiet_step (fail))
            refine BigFrame.wpQuietIn_want (fun _ _ _ _ => trivial) (by kernel_rfl) ?_
            intro K2 hK2
            gi_big_quiet_op
            apply Exists.intro
            refine ⟨fun _ => ?_, ?_⟩
            · gi_at_call 27
              exact hc' _
            go_big_quiet_on
            repeat (gi_big_quiet_step (fail))
            refine wpQuietIn_nil ?_
            intro _ hw'
            obtain ⟨nq, hw''⟩ := hw'
            subst hw''
            have hJ4 : I k (wr.drewN nq) := HA.out k _ _ none hI (⟨rfl, rfl, rfl, Nat.le_refl _, fun _ _ _ => rfl⟩) (fun r e => by cases e)
            replace k1 : (wr.drewN nq).cell? ⟨sb, 0, none⟩ = some (.slice (some ⟨xb, xo, none⟩) N sc) := k1
            replace k2 : (wr.drewN nq).cell? ⟨bb, 0, none⟩ = some (.slice va N (x + nf)) := k2
            replace k3 : (wr.drewN nq).cell? ⟨ob, 0, none⟩ = some (.slice (some ⟨yb, yo, none⟩) N uc) := k3
            have hl4 : Below n0 w (wr.drewN nq) := belowDrewN hBl nq
            clear hBl hI hc' c0 c1
            generalize wr.drewN nq = wd at *
            obtain ⟨fn, tmps, assign, body, hy, hR⟩ := HY.out k wd hlt hJ4
            rw [hargs] at hy
            clear hargs
            gi_wp2
            refine hR.mono ?_
            rintro e W3 ⟨rfl, hJ3, hk3⟩
            have g1 := hk3.2 _ _ (.inl rfl) k1
            have g2 := hk3.2 _ _ (.inr (.inl rfl)) k2
            have g3 := hk3.2 _ _ (.inr (.inr rfl)) k3
            have g4 := hl4.trans hk3.1
            clear hR hy hk3 k1 k2 k3 hl4
            have hmax : (if (nf : Int) + (y : Int) - 1 < 0 then 0 else (nf : Int) + (y : Int) - 1) = ((nf + y - 1 : Nat) : Int) := by split <;> omega
            gi_wp2
            exact ⟨⟨k + 1, hlt, by go_num, by rw [HX.out]; try (congr 1; omega), hJ3, g1, g2, g3, g4⟩, by simp only [intOf]; omega⟩
        · by_cases v2 : vc = k + nf
          · subst v2
            simp only [if_true, if_neg v1, Nat.sub_self] at hc
            rw [show N - (k + nf) = 0 by omega] at hc
            have hc' : ∀ m, CallsIn Fence.wide (n - 1) Try.prog 27 #[.slice (va.map (·.add (x + nf))) (N - (x + nf)) (k + nf - (x + nf)), .slice va 0 0] (wr.drewN m) fun e w' => e = .returned (.int .i64 (y : Int)) ∧ ∃ k, w' = wr.drewN k := fun m => callsIn_wide.2 ((hc m).mono fun _ _ ⟨h1, j, h2⟩ => ⟨h1, m + j, by rw [h2]; simp⟩)
            clear hc
            gi_wp2
            refine wpIn_region_quiet_lit rfl (by kernel_rfl) (by kernel_rfl) ?_
            repeat (gi_big_quiet_step (fail))
            refine BigFrame.wpQuietIn_want (fun _ _ _ _ => trivial) (by kernel_rfl) ?_
            intro K2 hK2
            gi_big_quiet_op
            apply Exists.intro
            refine ⟨fun _ => ?_, ?_⟩
            · gi_at_call 27
              exact hc' _
            go_big_quiet_on
            repeat (gi_big_quiet_step (fail))
            refine wpQuietIn_nil ?_
            intro _ hw'
            obtain ⟨nq, hw''⟩ := hw'
            subst hw''
            have hJ4 : I k (wr.drewN nq) := HA.out k _ _ none hI (⟨rfl, rfl, rfl, Nat.le_refl _, fun _ _ _ => rfl⟩) (fun r e => by cases e)
            replace k1 : (wr.drewN nq).cell? ⟨sb, 0, none⟩ = some (.slice (some ⟨xb, xo, none⟩) N sc) := k1
            replace k2 : (wr.drewN nq).cell? ⟨bb, 0, none⟩ = some (.slice va N (k + nf)) := k2
            replace k3 : (wr.drewN nq).cell? ⟨ob, 0, none⟩ = some (.slice (some ⟨yb, yo, none⟩) N uc) := k3
            have hl4 : Below n0 w (wr.drewN nq) := belowDrewN hBl nq
            clear hBl hI hc' c0 c1
            generalize wr.drewN nq = wd at *
            obtain ⟨fn, tmps, assign, body, hy, hR⟩ := HY.out k wd hlt hJ4
            rw [hargs] at hy
            clear hargs
            gi_wp2
            refine hR.mono ?_
            rintro e W3 ⟨rfl, hJ3, hk3⟩
            have g1 := hk3.2 _ _ (.inl rfl) k1
            have g2 := hk3.2 _ _ (.inr (.inl rfl)) k2
            have g3 := hk3.2 _ _ (.inr (.inr rfl)) k3
            have g4 := hl4.trans hk3.1
            clear hR hy hk3 k1 k2 k3 hl4
            have hmax : (if (nf : Int) + (y : Int) - 1 < 0 then 0 else (nf : Int) + (y : Int) - 1) = ((nf + y - 1 : Nat) : Int) := by split <;> omega
            gi_wp2
            exact ⟨⟨k + 1, hlt, by go_num, by rw [HX.out]; try (congr 1; omega), hJ3, g1, g2, g3, g4⟩, by simp only [intOf]; omega⟩
          · simp only [if_neg v1, if_neg v2] at hc
            have hc' : ∀ m, CallsIn Fence.wide (n - 1) Try.prog 27 #[.slice (va.map (·.add (x + nf))) (N - (x + nf)) (vc - (x + nf)), .slice (va.map (·.add (k + nf))) (N - (k + nf)) (vc - (k + nf))] (wr.drewN m) fun e w' => e = .returned (.int .i64 (y : Int)) ∧ ∃ k, w' = wr.drewN k := fun m => callsIn_wide.2 ((hc m).mono fun _ _ ⟨h1, j, h2⟩ => ⟨h1, m + j, by rw [h2]; simp⟩)
            clear hc
            gi_wp2
            refine wpIn_region_quiet_lit rfl (by kernel_rfl) (by kernel_rfl) ?_
            repeat (gi_big_quiet_step (fail))
            refine BigFrame.wpQuietIn_want (fun _ _ _ _ => trivial) (by kernel_rfl) ?_
            intro K2 hK2
            gi_big_quiet_op
            apply Exists.intro
            refine ⟨fun _ => ?_, ?_⟩
            · gi_at_call 27
              exact hc' _
            go_big_quiet_on
            repeat (gi_big_quiet_step (fail))
            refine wpQuietIn_nil ?_
            intro _ hw'
            obtain ⟨nq, hw''⟩ := hw'
            subst hw''
            have hJ4 : I k (wr.drewN nq) := HA.out k _ _ none hI (⟨rfl, rfl, rfl, Nat.le_refl _, fun _ _ _ => rfl⟩) (fun r e => by cases e)
            replace k1 : (wr.drewN nq).cell? ⟨sb, 0, none⟩ = some (.slice (some ⟨xb, xo, none⟩) N sc) := k1
            replace k2 : (wr.drewN nq).cell? ⟨bb, 0, none⟩ = some (.slice va N vc) := k2
            replace k3 : (wr.drewN nq).cell? ⟨ob, 0, none⟩ = some (.slice (some ⟨yb, yo, none⟩) N uc) := k3
            have hl4 : Below n0 w (wr.drewN nq) := belowDrewN hBl nq
            clear hBl hI hc' c0 c1
            generalize wr.drewN nq = wd at *
            obtain ⟨fn, tmps, assign, body, hy, hR⟩ := HY.out k wd hlt hJ4
            rw [hargs] at hy
            clear hargs
            gi_wp2
            refine hR.mono ?_
            rintro e W3 ⟨rfl, hJ3, hk3⟩
            have g1 := hk3.2 _ _ (.inl rfl) k1
            have g2 := hk3.2 _ _ (.inr (.inl rfl)) k2
            have g3 := hk3.2 _ _ (.inr (.inr rfl)) k3
            have g4 := hl4.trans hk3.1
            clear hR hy hk3 k1 k2 k3 hl4
            have hmax : (if (nf : Int) + (y : Int) - 1 < 0 then 0 else (nf : Int) + (y : Int) - 1) = ((nf + y - 1 : Nat) : Int) := by split <;> omega
            gi_wp2
            exact ⟨⟨k + 1, hlt, by go_num, by rw [HX.out]; try (congr 1; omega), hJ3, g1, g2, g3, g4⟩, by simp only [intOf]; omega⟩
    · obtain rfl : k = N := by omega
      gi_wp2
      go_end0
      exact ⟨⟨_, rfl⟩, hI⟩

end Go.Proofs.Ytfifkbadniekfaa.Lcp
