/-
  Contracts of package limit: the things of a row, the lightest first. No conditions but those of the calls.
-/
import Derived.Test.YtpcbhmkalofkmaaGreatLimA
import Derived.Test.YtpcbhmkalofkmaaGreatGC
namespace Go.Proofs.YtpcbhmkalofkmaaGreat.Limit
open Go.RowKit

/-- For each count of things, how many of so many are symbols. -/
def rowL (X Y : List Nat) : List Nat := (List.range (X.length + Y.length + 1)).map (cnt X Y)

theorem rowL_length (X Y : List Nat) : (rowL X Y).length = X.length + Y.length + 1 := by simp [rowL]
theorem rowL_at (X Y : List Nat) (i : Nat) (h : i < (rowL X Y).length) : (rowL X Y)[i] = cnt X Y i := by simp [rowL]

theorem rowL_zero (X Y : List Nat) : laidTo (rowL X Y) (0 + 1) = List.replicate (X.length + Y.length + 1) 0 := by
  have h0 : 0 < (rowL X Y).length := by rw [rowL_length]; omega
  rw [← laidTo_set _ _ h0, rowL_at, laidTo_zero, rowL_length]
  have : cnt X Y 0 = 0 := rfl
  rw [this, List.replicate_succ, List.set_cons_zero]

theorem merged_set (X Y : List Nat) (k : Nat) (h : k < X.length + Y.length) : (laidTo (merged X Y) k).set k (thing X Y k) = laidTo (merged X Y) (k + 1) := by
  have hk : k < (merged X Y).length := by rw [merged_length]; exact h
  rw [← laidTo_set _ _ hk, ← nth_lt hk, merged_nth h]

theorem row_set (X Y : List Nat) (k : Nat) (h : k < X.length + Y.length) : (laidTo (rowL X Y) (k + 1)).set (k + 1) (cnt X Y (k + 1)) = laidTo (rowL X Y) (k + 1 + 1) := by
  have hk : k + 1 < (rowL X Y).length := by rw [rowL_length]; omega
  rw [← laidTo_set _ _ hk, rowL_at]

/-- What merged has made: the things, and the counts. -/
def mergedT (g1 g2 : Nat) (X Y : List Nat) (k : Nat) (r : List Thing) : List Thing :=
  numsT 2 g1 (X.length + Y.length) (laidTo (merged X Y) k) :: numsT 3 g2 (X.length + Y.length + 1) (laidTo (rowL X Y) (k + 1)) :: r

theorem numsT_apart {B : Nat} {w0 w : World} {e1 e2 : TypeId} {g1 n1 g2 n2 : Nat} {xs ys : List Nat} {r : List Thing} (h : St B w0 w (numsT e1 g1 n1 xs :: numsT e2 g2 n2 ys :: r)) : g1 ≠ g2 := by
  intro e
  subst e
  exact h.apartV g1 rfl rfl

/-- One round. -/
theorem mergedT_step {B : Nat} {w0 w : World} {g1 g2 : Nat} {X Y : List Nat} {k : Nat} {r : List Thing} (h : St B w0 w (mergedT g1 g2 X Y k r)) (hk : k < X.length + Y.length) (y c : Nat) (hy : thing X Y k = y) (hc : cnt X Y (k + 1) = c) :
    St B w0 ((w.setCell ⟨g1, k, none⟩ (.int .i64 (y : Int))).setCell ⟨g2, k + 1, none⟩ (.int .i64 (c : Int))) (mergedT g1 g2 X Y (k + 1) r) := by
  have s1 := h.putNum k y
  rw [← hy, merged_set X Y k hk] at s1
  have s2 := s1.swap.putNum (k + 1) c
  rw [← hc, row_set X Y k hk] at s2
  rw [← hy, ← hc]
  exact s2.swap

theorem merged_made {B : Nat} {w0 w : World} {r : List Thing} (st : St B w0 w r) {e1 e2 : TypeId} {n m : Nat} {w1 w2 : World} (h1 : w1.ownsRow w.heap.size e1 1 (.slice (some ⟨w.heap.size, 0, none⟩) n n) n (madeCells #[Value.int .i64 0] n).toList) (h2 : w.grownBy w1 none)
    (h3 : w2.ownsRow w1.heap.size e2 1 (.slice (some ⟨w1.heap.size, 0, none⟩) m m) m (madeCells #[Value.int .i64 0] m).toList) (h4 : w1.grownBy w2 none) :
    St B w0 w2 (numsT e2 w1.heap.size m (List.replicate m 0) :: numsT e1 w.heap.size n (List.replicate n 0) :: r) ∧ Below w.heap.size w w2 :=
  ⟨(st.madeNums h1 h2).madeNums h3 h4, ((Below.refl w.heap.size w).grown h2 (Nat.le_refl _) (by simp)).grown h4 h2.size (by simp)⟩

set_option maxRecDepth 100000 in
set_option maxHeartbeats 4000000 in
/-- merged: the things of a row. -/
theorem merged_st {B : Nat} {w0 w : World} {r : List Thing} (st : St B w0 w r) (vx vy : Value) (xs ys : List Nat) (hx : NumRow w vx xs) (hy : NumRow w vy ys) (hlx : xs.length ≤ 1000000) (hly : ys.length ≤ 1000000) :
    Calls Tryz.prog 106 #[vx, vy] w fun e w' => ∃ g1 g2, e = .returned (.tuple #[.slice (some ⟨g1, 0, none⟩) (xs.length + ys.length) (xs.length + ys.length), .slice (some ⟨g2, 0, none⟩) (xs.length + ys.length + 1) (xs.length + ys.length + 1)]) ∧ St B w0 w' (mergedT g1 g2 xs ys (xs.length + ys.length) r) := by
  obtain ⟨i0, hi, hz0, hz1, hz2⟩ := info_parts info64
  obtain ⟨i1, hj, hy0, hy1, hy2⟩ := info_parts infoInt
  obtain ⟨n, hn⟩ : ∃ n, xs.length + ys.length = n := ⟨_, rfl⟩
  have hmk : i0.bytes * n ≤ 281474976710656 := by rw [hz2]; omega
  have hmk1 : i1.bytes * (n + 1) ≤ 281474976710656 := by rw [hy2]; omega
  have hmx : n ≤ maxLen := by unfold maxLen; omega
  have hmx1 : n + 1 ≤ maxLen := by unfold maxLen; omega
  obtain ⟨a, cap, rfl, hc, hnn, hat⟩ := id hx
  obtain ⟨a2, cap2, rfl, hc2, hnn2, hat2⟩ := id hy
  have HX := Lib.hid (hx.below (Below.refl _ _).drew (Nat.le_refl _))
  have HY := Lib.hid (hy.below (Below.refl _ _).drew (Nat.le_refl _))
  have HST := Lib.hid st.drew
  clear hx hy hat hat2 st
  have hni : (xs.length : Int) + (ys.length : Int) = (n : Int) := by omega
  go_enter Tryz.func106, Tryz.ntmps106
  go_wp2
  refine region_seg (by kernel_rfl) [0, 2] 5 rfl (by kernel_rfl) (by kernel_rfl) (fun _ _ d _ _ h => by cases d <;> exact h) ?_
  generalize w.drew = w at HX HY HST
  intro K hK
  simp only [pickL, List.getElem?_cons_zero, List.getElem?_cons_succ]
  go_wp2_with fail
  refine wpAny_take (i := 3) (v := .int .i64 ((n : Int) + 1)) rfl (by kernel_rfl) (by kernel_rfl) (by kernel_rfl) (fun _ _ _ h => h) (.inl ⟨rfl, fun w => by go_simp; exact IntWalk.i64_in _ (by omega)⟩) ?_
  refine mid_two 1 4 [5, 4, 6] [1, 5, 6] 0 _ _ (by kernel_rfl) rfl rfl rfl (by kernel_rfl) (by kernel_rfl) (by kernel_rfl) (by kernel_rfl) (fun _ _ d _ _ h => by cases d <;> exact h) ?_ ?_
  · intro K hK
    simp only [pickL, List.getElem?_cons_zero, List.getElem?_cons_succ]
    go_wp2_with (at_make; refine wpList_make_full _ rfl _ _ 119 rfl w.heap.size 2 i0 (.int .i64 0) 1 Tryz.underlying119 hi hz0 hz1 _ _ _ _ n rfl rfl rfl rfl hmk hmx (Nat.le_refl _) ?_)
    intro w1 h1 h2
    go_wp2_with (at_make; refine wpList_make_full _ rfl _ _ 80 rfl w1.heap.size 3 i1 (.int .i64 0) 1 Tryz.underlying80 hj hy0 hy1 _ _ _ _ (n + 1) rfl rfl rfl rfl hmk1 hmx1 (Nat.le_refl _) ?_)
    intro w2 h3 h4
    go_wp2_with fail
    refine wpAny_done (by kernel_rfl) ?_ 0
    obtain ⟨s2, b2⟩ := merged_made HST.out h1 h2 h3 h4
    have hg0 := h2.size
    clear h1 h2 h3 h4
    have s2 := s2.swap
    generalize hg1 : w.heap.size = g1 at s2 b2 hg0
    generalize hg2 : w1.heap.size = g2 at s2 hg0
    obtain ⟨g0, hg00⟩ : ∃ g0, g0 = g1 := ⟨_, rfl⟩
    rw [← hg00] at b2
    have hA : g0 ≤ g1 ∧ g0 ≤ g2 ∧ w.heap.size ≤ g0 := by omega
    clear hg1 hg2 hg0 hg00
    have s2 : St B w0 w2 (mergedT g1 g2 xs ys 0 r) := by
      unfold mergedT
      rw [rowL_zero, laidTo_zero, merged_length, hn]
      exact s2
    clear hi hz0 hz1 hz2 hj hy0 hy1 hy2 hmk hmk1 hmx hmx1
    have ne := numsT_apart s2
    have ne' : g2 ≠ g1 := fun e => ne e.symm
    go_wp2
    go_loopw [7, 8, 9, 21] (fun c _ _ i wr => ∃ k : Nat, k ≤ n ∧ i = .int .i64 (k : Int) ∧ c = .int .i64 (cnt xs ys k : Int) ∧ St B w0 wr (mergedT g1 g2 xs ys k r) ∧ Below g0 w wr) (fun _ _ _ i _ => n - (intOf i).toNat)
    case atStart => exact ⟨0, by omega, rfl, rfl, s2, b2⟩
    case round =>
      obtain ⟨k, hk, rfl, rfl, s3, b3⟩ := hrel
      clear s2 b2
      by_cases hlt : k < n
      · obtain ⟨q1, q2, q3⟩ := cnt_bounds xs ys k (by omega)
        obtain ⟨q4, q5, q6⟩ := cnt_bounds xs ys (k + 1) (by omega)
        have HT := Lib.hid (fun q => mergedT_step (s3.drewN q) (by omega))
        obtain ⟨d1, f1⟩ := St.numCell s3 k (by rw [laidTo_length, merged_length]) (by omega)
        obtain ⟨d2, f2⟩ := St.numCell s3.swap (k + 1) (by rw [laidTo_length, rowL_length]) (by omega)
        generalize (laidTo (merged xs ys) k)[k]'(by rw [laidTo_length, merged_length]; omega) = z1 at d1
        generalize (laidTo (rowL xs ys) (k + 1))[k + 1]'(by rw [laidTo_length, rowL_length]; omega) = z2 at d2
        obtain ⟨a', cap', e', _, _, hatx⟩ := HX.out.below b3 (by omega)
        obtain ⟨rfl, -, rfl⟩ := Value.slice.inj e'
        obtain ⟨a3, cap3, e3, _, _, haty⟩ := HY.out.below b3 (by omega)
        obtain ⟨rfl, -, rfl⟩ := Value.slice.inj e3
        clear e' e3
        have hpt := Lib.hid (pick_true (X := xs) (Y := ys) (i := k) (n := cnt xs ys k))
        have hpf := Lib.hid (pick_false (X := xs) (Y := ys) (i := k) (n := cnt xs ys k))
        have hct := Lib.hid (cnt_true (X := xs) (Y := ys) (i := k))
        have hcf := Lib.hid (cnt_false (X := xs) (Y := ys) (i := k))
        have htt := Lib.hid (thing_true (X := xs) (Y := ys) (i := k))
        have htf := Lib.hid (thing_false (X := xs) (Y := ys) (i := k))
        have HB := Lib.hid (fun q => b3.trans (⟨rfl, rfl, rfl, Nat.le_refl _, fun _ _ => rfl⟩ : Below g0 wr (wr.drewN q)))
        clear s3 b3
        have hpv := Lib.hid (show pick xs ys k (cnt xs ys k) = (decide (k - cnt xs ys k = ys.length) || (decide (cnt xs ys k < xs.length) && decide (nth xs (cnt xs ys k) ≤ nth ys (k - cnt xs ys k)))) from rfl)
        obtain ⟨c, hc0⟩ : ∃ c, cnt xs ys k = c := ⟨_, rfl⟩
        obtain ⟨c1, hc1⟩ : ∃ c, cnt xs ys (k + 1) = c := ⟨_, rfl⟩
        obtain ⟨y, hy0⟩ : ∃ y, thing xs ys k = y := ⟨_, rfl⟩
        obtain ⟨pk, hpk⟩ : ∃ p, pick xs ys k (cnt xs ys k) = p := ⟨_, rfl⟩
        have HR := Lib.hid (fun q => HT.out q y c1 hy0 hc1)
        rw [hy0, hc0] at htt htf
        rw [hc0] at hpk
        rw [hc1, hc0] at hct hcf
        rw [hc1] at q4 q5 q6
        rw [hc0] at hpt hpf hpv q1 q2 q3
        rw [hpk] at hpt hpf hct hcf htt htf hpv
        rw [hc0]
        clear hc0 hy0 hpk HT
        obtain ⟨d, hcd⟩ : ∃ d, c + d = k := ⟨k - c, by omega⟩
        rw [show k - c = d from by omega] at hpt hpf htf hpv q3
        have ed : (k : Int) - (c : Int) = (d : Int) := by omega
        have HB2 : ∀ q u1 u2, Below g0 w (((wr.drewN q).setCell ⟨g1, k, none⟩ u1).setCell ⟨g2, k + 1, none⟩ u2) := fun q u1 u2 => ((HB.out q).setCell (p := ⟨g1, k, none⟩) (by simp; omega) u1).setCell (p := ⟨g2, k + 1, none⟩) (by simp; omega) u2
        have HR2 : ∀ q (ci : Int), ci = (c1 : Int) → St B w0 (((wr.drewN q).setCell ⟨g1, k, none⟩ (.int .i64 (y : Int))).setCell ⟨g2, k + 1, none⟩ (.int .i64 ci)) (mergedT g1 g2 xs ys (k + 1) r) ∧ Below g0 w (((wr.drewN q).setCell ⟨g1, k, none⟩ (.int .i64 (y : Int))).setCell ⟨g2, k + 1, none⟩ (.int .i64 ci)) := by
          rintro q ci rfl
          exact ⟨HR.out q, HB2 q _ _⟩
        have HC := Lib.hid hc1
        have HR := Lib.hid HR2
        clear HB HB2 HR2 hc1
        by_cases hd : d = ys.length
        · have e1 : pk = true := by rw [hpv.out]; simp [hd]
          have hcx : c < xs.length := by have := hct.out e1; omega
          obtain ⟨b5, o5, rfl, c5⟩ := hatx c hcx
          have e2 := htt.out e1
          rw [nth_lt hcx] at e2
          have e3 := hct.out e1
          rw [← e2] at c5
          subst e3
          clear hatx haty hpt hpf hct hcf htt htf hpv e2 HX HY
          subst hd
          have hdk : decide ((k : Int) < (n : Int)) = true := by simp; omega
          go_wp2
          go_quiet (fail)
          go_wp2
          go_roundw
          case rel => exact ⟨k + 1, by omega, by go_num, by first | (rw [HC.out]; done) | (rw [HC.out]; go_num), (HR.out _ _ (by omega)).1, (HR.out _ _ (by omega)).2⟩
          case measure => simp [intOf]; omega
        · have hdn : d < ys.length := by omega
          have hde : ((d : Int) == (ys.length : Int)) = false := by simp; omega
          obtain ⟨b6, o6, rfl, c6⟩ := haty d hdn
          by_cases hcx : c < xs.length
          · have hce : decide ((c : Int) < (xs.length : Int)) = true := by simp; omega
            obtain ⟨b5, o5, rfl, c5⟩ := hatx c hcx
            have hpv : pk = decide (xs[c] ≤ ys[d]) := by rw [hpv.out, nth_lt hcx, nth_lt hdn]; simp [hd, hcx]
            rw [nth_lt hcx] at htt
            rw [nth_lt hdn] at htf
            have HPV := Lib.hid hpv
            clear hpv hatx haty hpt hpf HX HY
            generalize xs[c] = x1 at c5 HPV htt
            generalize ys[d] = y1 at c6 HPV htf
            by_cases hle : x1 ≤ y1
            · have e1 : pk = true := by rw [HPV.out]; simp [hle]
              have e2 := htt.out e1
              have e3 := hct.out e1
              subst e2 e3
              have hdl : decide ((y : Int) ≤ (y1 : Int)) = true := by simp; omega
              clear HPV htt htf hct hcf
              go_wp2
              go_quiet (fail)
              go_wp2
              go_roundw
              case rel => exact ⟨k + 1, by omega, by go_num, by first | (rw [HC.out]; done) | (rw [HC.out]; go_num), (HR.out _ _ (by omega)).1, (HR.out _ _ (by omega)).2⟩
              case measure => simp [intOf]; omega
            · have e1 : pk = false := by rw [HPV.out]; simp; omega
              have e2 := htf.out e1
              have e3 := hcf.out e1
              subst e2 e3
              have hdl : decide ((x1 : Int) ≤ (y : Int)) = false := by simp; omega
              clear HPV htt htf hct hcf
              go_wp2
              go_quiet (fail)
              go_wp2
              go_roundw
              case rel => exact ⟨k + 1, by omega, by go_num, by first | (rw [HC.out]; done) | (rw [HC.out]; go_num), (HR.out _ _ (by omega)).1, (HR.out _ _ (by omega)).2⟩
              case measure => simp [intOf]; omega
          · have hce : decide ((c : Int) < (xs.length : Int)) = false := by simp; omega
            have e1 : pk = false := by rw [hpv.out]; simp [hd, hcx]
            have e2 := htf.out e1
            rw [nth_lt hdn] at e2
            have e3 := hcf.out e1
            rw [← e2] at c6
            subst e3
            clear hatx haty hpt hpf hct hcf htt htf hpv e2 HX HY
            go_wp2
            go_quiet (fail)
            go_wp2
            go_roundw
            case rel => exact ⟨k + 1, by omega, by go_num, by first | (rw [HC.out]; done) | (rw [HC.out]; go_num), (HR.out _ _ (by omega)).1, (HR.out _ _ (by omega)).2⟩
            case measure => simp [intOf]; omega
      · obtain rfl : k = n := by omega
        go_wp2
        go_ret2
        rw [hn]
        exact ⟨g1, g2, rfl, s3⟩
  · intro K hK
    simp only [pickL, List.getElem?_cons_zero, List.getElem?_cons_succ]
    go_wp2_with (at_make; refine wpList_make_full _ rfl _ _ 80 rfl w.heap.size 3 i1 (.int .i64 0) 1 Tryz.underlying80 hj hy0 hy1 _ _ _ _ (n + 1) rfl rfl rfl rfl hmk1 hmx1 (Nat.le_refl _) ?_)
    intro w1 h1 h2
    go_wp2_with (at_make; refine wpList_make_full _ rfl _ _ 119 rfl w1.heap.size 2 i0 (.int .i64 0) 1 Tryz.underlying119 hi hz0 hz1 _ _ _ _ n rfl rfl rfl rfl hmk hmx (Nat.le_refl _) ?_)
    intro w2 h3 h4
    go_wp2_with fail
    refine wpAny_done (by kernel_rfl) ?_ 0
    obtain ⟨s2, b2⟩ := merged_made HST.out h1 h2 h3 h4
    have hg0 := h2.size
    clear h1 h2 h3 h4
    generalize hg1 : w.heap.size = g2 at s2 b2 hg0
    generalize hg2 : w1.heap.size = g1 at s2 hg0
    obtain ⟨g0, hg00⟩ : ∃ g0, g0 = g2 := ⟨_, rfl⟩
    rw [← hg00] at b2
    have hA : g0 ≤ g1 ∧ g0 ≤ g2 ∧ w.heap.size ≤ g0 := by omega
    clear hg1 hg2 hg0 hg00
    have s2 : St B w0 w2 (mergedT g1 g2 xs ys 0 r) := by
      unfold mergedT
      rw [rowL_zero, laidTo_zero, merged_length, hn]
      exact s2
    clear hi hz0 hz1 hz2 hj hy0 hy1 hy2 hmk hmk1 hmx hmx1
    have ne := numsT_apart s2
    have ne' : g2 ≠ g1 := fun e => ne e.symm
    go_wp2
    go_loopw [7, 8, 9, 21] (fun c _ _ i wr => ∃ k : Nat, k ≤ n ∧ i = .int .i64 (k : Int) ∧ c = .int .i64 (cnt xs ys k : Int) ∧ St B w0 wr (mergedT g1 g2 xs ys k r) ∧ Below g0 w wr) (fun _ _ _ i _ => n - (intOf i).toNat)
    case atStart => exact ⟨0, by omega, rfl, rfl, s2, b2⟩
    case round =>
      obtain ⟨k, hk, rfl, rfl, s3, b3⟩ := hrel
      clear s2 b2
      by_cases hlt : k < n
      · obtain ⟨q1, q2, q3⟩ := cnt_bounds xs ys k (by omega)
        obtain ⟨q4, q5, q6⟩ := cnt_bounds xs ys (k + 1) (by omega)
        have HT := Lib.hid (fun q => mergedT_step (s3.drewN q) (by omega))
        obtain ⟨d1, f1⟩ := St.numCell s3 k (by rw [laidTo_length, merged_length]) (by omega)
        obtain ⟨d2, f2⟩ := St.numCell s3.swap (k + 1) (by rw [laidTo_length, rowL_length]) (by omega)
        generalize (laidTo (merged xs ys) k)[k]'(by rw [laidTo_length, merged_length]; omega) = z1 at d1
        generalize (laidTo (rowL xs ys) (k + 1))[k + 1]'(by rw [laidTo_length, rowL_length]; omega) = z2 at d2
        obtain ⟨a', cap', e', _, _, hatx⟩ := HX.out.below b3 (by omega)
        obtain ⟨rfl, -, rfl⟩ := Value.slice.inj e'
        obtain ⟨a3, cap3, e3, _, _, haty⟩ := HY.out.below b3 (by omega)
        obtain ⟨rfl, -, rfl⟩ := Value.slice.inj e3
        clear e' e3
        have hpt := Lib.hid (pick_true (X := xs) (Y := ys) (i := k) (n := cnt xs ys k))
        have hpf := Lib.hid (pick_false (X := xs) (Y := ys) (i := k) (n := cnt xs ys k))
        have hct := Lib.hid (cnt_true (X := xs) (Y := ys) (i := k))
        have hcf := Lib.hid (cnt_false (X := xs) (Y := ys) (i := k))
        have htt := Lib.hid (thing_true (X := xs) (Y := ys) (i := k))
        have htf := Lib.hid (thing_false (X := xs) (Y := ys) (i := k))
        have HB := Lib.hid (fun q => b3.trans (⟨rfl, rfl, rfl, Nat.le_refl _, fun _ _ => rfl⟩ : Below g0 wr (wr.drewN q)))
        clear s3 b3
        have hpv := Lib.hid (show pick xs ys k (cnt xs ys k) = (decide (k - cnt xs ys k = ys.length) || (decide (cnt xs ys k < xs.length) && decide (nth xs (cnt xs ys k) ≤ nth ys (k - cnt xs ys k)))) from rfl)
        obtain ⟨c, hc0⟩ : ∃ c, cnt xs ys k = c := ⟨_, rfl⟩
        obtain ⟨c1, hc1⟩ : ∃ c, cnt xs ys (k + 1) = c := ⟨_, rfl⟩
        obtain ⟨y, hy0⟩ : ∃ y, thing xs ys k = y := ⟨_, rfl⟩
        obtain ⟨pk, hpk⟩ : ∃ p, pick xs ys k (cnt xs ys k) = p := ⟨_, rfl⟩
        have HR := Lib.hid (fun q => HT.out q y c1 hy0 hc1)
        rw [hy0, hc0] at htt htf
        rw [hc0] at hpk
        rw [hc1, hc0] at hct hcf
        rw [hc1] at q4 q5 q6
        rw [hc0] at hpt hpf hpv q1 q2 q3
        rw [hpk] at hpt hpf hct hcf htt htf hpv
        rw [hc0]
        clear hc0 hy0 hpk HT
        obtain ⟨d, hcd⟩ : ∃ d, c + d = k := ⟨k - c, by omega⟩
        rw [show k - c = d from by omega] at hpt hpf htf hpv q3
        have ed : (k : Int) - (c : Int) = (d : Int) := by omega
        have HB2 : ∀ q u1 u2, Below g0 w (((wr.drewN q).setCell ⟨g1, k, none⟩ u1).setCell ⟨g2, k + 1, none⟩ u2) := fun q u1 u2 => ((HB.out q).setCell (p := ⟨g1, k, none⟩) (by simp; omega) u1).setCell (p := ⟨g2, k + 1, none⟩) (by simp; omega) u2
        have HR2 : ∀ q (ci : Int), ci = (c1 : Int) → St B w0 (((wr.drewN q).setCell ⟨g1, k, none⟩ (.int .i64 (y : Int))).setCell ⟨g2, k + 1, none⟩ (.int .i64 ci)) (mergedT g1 g2 xs ys (k + 1) r) ∧ Below g0 w (((wr.drewN q).setCell ⟨g1, k, none⟩ (.int .i64 (y : Int))).setCell ⟨g2, k + 1, none⟩ (.int .i64 ci)) := by
          rintro q ci rfl
          exact ⟨HR.out q, HB2 q _ _⟩
        have HC := Lib.hid hc1
        have HR := Lib.hid HR2
        clear HB HB2 HR2 hc1
        by_cases hd : d = ys.length
        · have e1 : pk = true := by rw [hpv.out]; simp [hd]
          have hcx : c < xs.length := by have := hct.out e1; omega
          obtain ⟨b5, o5, rfl, c5⟩ := hatx c hcx
          have e2 := htt.out e1
          rw [nth_lt hcx] at e2
          have e3 := hct.out e1
          rw [← e2] at c5
          subst e3
          clear hatx haty hpt hpf hct hcf htt htf hpv e2 HX HY
          subst hd
          have hdk : decide ((k : Int) < (n : Int)) = true := by simp; omega
          go_wp2
          go_quiet (fail)
          go_wp2
          go_roundw
          case rel => exact ⟨k + 1, by omega, by go_num, by first | (rw [HC.out]; done) | (rw [HC.out]; go_num), (HR.out _ _ (by omega)).1, (HR.out _ _ (by omega)).2⟩
          case measure => simp [intOf]; omega
        · have hdn : d < ys.length := by omega
          have hde : ((d : Int) == (ys.length : Int)) = false := by simp; omega
          obtain ⟨b6, o6, rfl, c6⟩ := haty d hdn
          by_cases hcx : c < xs.length
          · have hce : decide ((c : Int) < (xs.length : Int)) = true := by simp; omega
            obtain ⟨b5, o5, rfl, c5⟩ := hatx c hcx
            have hpv : pk = decide (xs[c] ≤ ys[d]) := by rw [hpv.out, nth_lt hcx, nth_lt hdn]; simp [hd, hcx]
            rw [nth_lt hcx] at htt
            rw [nth_lt hdn] at htf
            have HPV := Lib.hid hpv
            clear hpv hatx haty hpt hpf HX HY
            generalize xs[c] = x1 at c5 HPV htt
            generalize ys[d] = y1 at c6 HPV htf
            by_cases hle : x1 ≤ y1
            · have e1 : pk = true := by rw [HPV.out]; simp [hle]
              have e2 := htt.out e1
              have e3 := hct.out e1
              subst e2 e3
              have hdl : decide ((y : Int) ≤ (y1 : Int)) = true := by simp; omega
              clear HPV htt htf hct hcf
              go_wp2
              go_quiet (fail)
              go_wp2
              go_roundw
              case rel => exact ⟨k + 1, by omega, by go_num, by first | (rw [HC.out]; done) | (rw [HC.out]; go_num), (HR.out _ _ (by omega)).1, (HR.out _ _ (by omega)).2⟩
              case measure => simp [intOf]; omega
            · have e1 : pk = false := by rw [HPV.out]; simp; omega
              have e2 := htf.out e1
              have e3 := hcf.out e1
              subst e2 e3
              have hdl : decide ((x1 : Int) ≤ (y : Int)) = false := by simp; omega
              clear HPV htt htf hct hcf
              go_wp2
              go_quiet (fail)
              go_wp2
              go_roundw
              case rel => exact ⟨k + 1, by omega, by go_num, by first | (rw [HC.out]; done) | (rw [HC.out]; go_num), (HR.out _ _ (by omega)).1, (HR.out _ _ (by omega)).2⟩
              case measure => simp [intOf]; omega
          · have hce : decide ((c : Int) < (xs.length : Int)) = false := by simp; omega
            have e1 : pk = false := by rw [hpv.out]; simp [hd, hcx]
            have e2 := htf.out e1
            rw [nth_lt hdn] at e2
            have e3 := hcf.out e1
            rw [← e2] at c6
            subst e3
            clear hatx haty hpt hpf hct hcf htt htf hpv e2 HX HY
            go_wp2
            go_quiet (fail)
            go_wp2
            go_roundw
            case rel => exact ⟨k + 1, by omega, by go_num, by first | (rw [HC.out]; done) | (rw [HC.out]; go_num), (HR.out _ _ (by omega)).1, (HR.out _ _ (by omega)).2⟩
            case measure => simp [intOf]; omega
      · obtain rfl : k = n := by omega
        go_wp2
        go_ret2
        rw [hn]
        exact ⟨g1, g2, rfl, s3⟩

end Go.Proofs.YtpcbhmkalofkmaaGreat.Limit
