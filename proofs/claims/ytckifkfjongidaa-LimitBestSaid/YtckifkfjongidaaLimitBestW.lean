/-
  No other choice costs less: the walk of LimitBest. No conditions.
-/
import Derived.Test.YtckifkfjongidaaLimN
namespace Go.Proofs.Ytckifkfjongidaa.limitBest
open Go.RowKit Go.Proofs.Ytckifkfjongidaa.Limit

set_option maxRecDepth 100000 in
set_option maxHeartbeats 8000000 in
theorem walk (w : World) (v : Value) (xs : List Int) (h : IntRow w v xs) (v2 : Value) (O : List Nat) (g : ByteRow w v2 O) (m : Int) (hm : (Lit.int .i64 m).wf = true) :
    Calls Try.prog 4 #[v, v2, .int .i64 m] w fun e w' => e = .returned (.bool true) ∧ Below w.heap.size w w' := by
  have HG := Lib.hid g
  have HH := Lib.hid h
  have hp0 := picks_st (St.start w)
  obtain ⟨a, cap, rfl, hc, hnn, -⟩ := h
  obtain ⟨a2, cap2, rfl, hc2, hnn2, -⟩ := g
  go_enter Try.func4, Try.ntmps4
  by_cases h2 : 200 < xs.length
  · have d0 : decide (200 < (xs.length : Int)) = true := by simp; omega
    go_wp2_with (go_at_call 10; refine hp0.mono ?_; rintro e w1 ⟨rfl, s1⟩)
    go_ret
    exact ⟨rfl, s1.below (Nat.le_refl _)⟩
  · go_wp2
    go_loopw [7] (fun i wr => ∃ k : Nat, k ≤ xs.length ∧ i = .int .i64 (k : Int) ∧ (∀ j (hj : j < xs.length), j < k → 0 ≤ xs[j] ∧ xs[j] ≤ 1099511627776) ∧ wr = w) (fun i _ => xs.length - (intOf i).toNat)
    case atStart => exact ⟨0, by omega, rfl, fun j _ hj => absurd hj (by omega), rfl⟩
    case round =>
      obtain ⟨k, hk, rfl, hall, hw⟩ := hrel
      have hw := hw.symm
      subst hw
      have HA := Lib.hid hall
      clear hall
      by_cases hlt : k < xs.length
      · obtain ⟨a', cap', e', _, _, hat⟩ := HH.out
        obtain ⟨rfl, -, rfl⟩ := Value.slice.inj e'
        obtain ⟨hx, b0, off, rfl, c0⟩ := hat k hlt
        have H2 : 0 ≤ xs[k] ∧ xs[k] ≤ 1099511627776 → ∀ j (hj : j < xs.length), j < k + 1 → 0 ≤ xs[j] ∧ xs[j] ≤ 1099511627776 := fun h j hj hjk => by
          by_cases e : j = k
          · subst e; exact h
          · exact HA.out j hj (by omega)
        have H2 := Lib.hid H2
        clear hat e'
        generalize xs[k] = x at *
        by_cases hx0 : x < 0
        · go_wp2_with (go_at_call 10; refine hp0.mono ?_; rintro e w1 ⟨rfl, s1⟩)
          go_ret
          exact ⟨rfl, s1.below (Nat.le_refl _)⟩
        · by_cases hx1 : 1099511627776 < x
          · go_wp2_with (go_at_call 10; refine hp0.mono ?_; rintro e w1 ⟨rfl, s1⟩)
            go_ret
            exact ⟨rfl, s1.below (Nat.le_refl _)⟩
          · go_wp2
            go_roundw
            case rel => exact ⟨k + 1, by omega, by go_num, H2.out (by omega), trivial⟩
            case measure => simp [intOf]; omega
      · obtain rfl : k = xs.length := by omega
        have hxs : ∀ x ∈ xs, 0 ≤ x ∧ x ≤ 1099511627776 := fun x hx => by
          obtain ⟨i, hi, rfl⟩ := List.getElem_of_mem hx
          exact HA.out i hi hi
        clear HA
        by_cases hm1 : m < 1
        · go_wp2_with (go_at_call 10; refine hp0.mono ?_; rintro e w1 ⟨rfl, s1⟩)
          go_ret
          exact ⟨rfl, s1.below (Nat.le_refl _)⟩
        · by_cases hm2 : 17 < m
          · go_wp2_with (go_at_call 10; refine hp0.mono ?_; rintro e w1 ⟨rfl, s1⟩)
            go_ret
            exact ⟨rfl, s1.below (Nat.le_refl _)⟩
          · obtain ⟨L, rfl⟩ : ∃ L : Nat, m = (L : Int) := ⟨m.toNat, by omega⟩
            have hL : 1 ≤ L ∧ L ≤ 17 := by omega
            have hN := HH.out.nums (fun x hx => (hxs x hx).1)
            have hFl : (xs.map Int.toNat).length = xs.length := List.length_map _
            have hF2 := toNat_cast hxs
            have hch := choice_any w _ _ (xs.map Int.toNat) O L hN HG.out hL (by omega)
            have HN := Lib.hid hN
            have HX := Lib.hid hxs
            have HF2 := Lib.hid hF2
            clear hN hxs hF2 hp0
            go_wp2_with fail
            refine hch.mono ?_
            rintro e w1 ⟨b, rfl, hb, n, rfl⟩
            have s1 : St w.heap.size w (w.drewN n) [] := (St.start w).drewN n
            have hp1 := picks_st s1
            cases b with
            | false =>
              go_wp2_with (go_at_call 10; refine hp1.mono ?_; rintro e w1 ⟨rfl, s2⟩)
              go_ret
              exact ⟨rfl, s2.below (Nat.le_refl _)⟩
            | true =>
              have hC := hb.1 rfl
              have hfew := choice_few hC
              have hr := rare_is (xs.map Int.toNat)
              have hlen := lengths_ok s1 _ xs L (HH.out.below (s1.below (Nat.le_refl _)) (Nat.le_refl _)) HX.out (by omega) hL hfew
              have hbest := lengths_best hr hL.1 (by rw [pos_perm_length hr]; exact hfew) hC
              have hlc := lengths_choice hr hL.1 (by rw [pos_perm_length hr]; exact hfew)
              have hby := lengths_bytes _ _ L hr hL hfew
              have hll := lengths_length (xs.map Int.toNat) (rare (xs.map Int.toNat)) L
              have HB := Lib.hid (And.intro hbest (And.intro hlc hby))
              have HC := Lib.hid hC
              clear hbest hlc hby hr hC hb hp1
              generalize lengths (xs.map Int.toNat) (rare (xs.map Int.toNat)) L = l at *
              go_wp2_with (go_at_call 11; refine hlen.mono ?_; rintro e w2 ⟨u, rfl, s2⟩; obtain ⟨au, cu, rfl⟩ := ownsRow_slice s2.row)
              have hl2 : l.length = xs.length := by omega
              have hbr : ByteRow w2 (.slice au xs.length cu) l := by
                have := s2.row
                rw [← hl2] at this
                have := byteRow_owns this HB.out.2.2
                rwa [hl2] at this
              have hnr := HN.out.below (s2.below (Nat.le_refl _)) (Nat.le_refl _)
              have hor := HG.out.below (s2.below (Nat.le_refl _)) (Nat.le_refl _)
              have hF41 : ∀ f ∈ xs.map Int.toNat, f ≤ 2199023255552 := fun f hf => by have := HF2.out f hf; omega
              have hch2 := choice_any w2 _ _ (xs.map Int.toNat) l L hnr hbr hL (by omega)
              have hOl : O.length = (xs.map Int.toNat).length := HC.out.length
              have dr : ∀ k, Below w2.heap.size w2 (w2.drewN k) := fun k => ⟨rfl, rfl, rfl, Nat.le_refl _, fun _ _ => rfl⟩
              have hs1' := fun k => sum_any (w2.drewN k) _ _ (xs.map Int.toNat) l (hnr.below (dr k) (Nat.le_refl _)) (hbr.below (dr k) (Nat.le_refl _)) hF41 hll (by omega)
              have hs2' := fun k => sum_any (w2.drewN k) _ _ (xs.map Int.toNat) O (hnr.below (dr k) (Nat.le_refl _)) (hor.below (dr k) (Nat.le_refl _)) hF41 hOl (by omega)
              have hle := HB.out.1
              generalize cost (xs.map Int.toNat) l = c1 at *
              generalize cost (xs.map Int.toNat) O = c2 at *
              have hpk := Lib.hid (fun k => picks_st (s2.drewN k))
              have hs1 := Lib.hid hs1'
              have hs2 := Lib.hid hs2'
              clear hs1' hs2'
              refine hch2.mono ?_
              rintro e w3 ⟨b2, rfl, hb2, n2, rfl⟩
              obtain rfl : b2 = true := hb2.2 HB.out.2.1
              clear hch2 hb2 hch hlen s2 dr hnr hor hbr hOl hll hl2 hFl hF41 hfew HB HC HX HN HH HG HF2
              go_wp2_with fail
              refine (hs1.out n2).mono ?_
              rintro e w4 ⟨rfl, n3, rfl⟩
              have e1 : (w2.drewN n2).drewN n3 = w2.drewN (n2 + n3) := by simp [World.drewN, Nat.add_assoc]
              rw [e1]
              go_wp2_with fail
              refine (hs2.out (n2 + n3)).mono ?_
              rintro e w4 ⟨rfl, n4, rfl⟩
              have e2 : (w2.drewN (n2 + n3)).drewN n4 = w2.drewN (n2 + n3 + n4) := by simp [World.drewN, Nat.add_assoc]
              rw [e2]
              go_wp2_with fail
              refine (hpk.out (n2 + n3 + n4)).mono ?_
              rintro e w5 ⟨rfl, s5⟩
              go_wp2
              go_ret
              exact ⟨rfl, s5.below (Nat.le_refl _)⟩

end Go.Proofs.Ytckifkfjongidaa.limitBest
