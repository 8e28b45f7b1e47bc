/-
  Where the limit does not count, the cost is what comes of putting the two least together, again and again: the walk of LimitFree. No conditions.
-/
import Derived.Test.YtpolbpjclklgbaaLimF
import Derived.Test.YtpolbpjclklgbaaLimN
import Derived.Test.YtpolbpjclklgbaaIntsA
namespace Go.Proofs.Ytpolbpjclklgbaa.limitFree
open Go.RowKit Go.Proofs.Ytpolbpjclklgbaa.Limit

/-- A slice that reads as these numbers of 32 bits. -/
def U32Row (w : World) (v : Value) (xs : List Nat) : Prop := ∃ a cap, v = .slice a xs.length cap ∧ xs.length ≤ cap ∧ (a = none → cap = 0) ∧ ∀ (i : Nat) (h : i < xs.length), xs[i] < 4294967296 ∧ ∃ b off, a = some ⟨b, off, none⟩ ∧ w.cell? ⟨b, off + i, none⟩ = some (.int .u32 (xs[i] : Int))

theorem U32Row.below {w w' : World} {B : Nat} {v : Value} {xs : List Nat} (h : U32Row w v xs) (hb : RowKit.Below B w w') (hB : w.heap.size ≤ B) : U32Row w' v xs := by
  obtain ⟨a, cap, h1, h2, h3, h4⟩ := h
  refine ⟨a, cap, h1, h2, h3, fun i hi => ⟨(h4 i hi).1, ?_⟩⟩
  obtain ⟨_, b, off, e, hc⟩ := h4 i hi
  have lt := World.block_lt_of_cell? w _ hc
  exact ⟨b, off, e, (hb.cell (p := ⟨b, off + i, none⟩) (Nat.lt_of_lt_of_le lt hB)).trans hc⟩

section
open Go.ChangeShapes Go.WideShapes Go.Deep
variable {H : Type} {enc : TypeId × Value → H} {W : World}

theorem open_u32s {a : Option Addr} {len cap : Nat} {d : DataW H} {p : List MemPlace} (h : DataW.Trod enc Try.prog W 0 (fun _ => true) true 22 (.slice a len cap) d p) : ∃ xs, U32Row W (.slice a len cap) xs := by
  obtain ⟨fuel, hf⟩ := h
  rcases open_ints Try.underlying22 Try.underlying25 (by kernel_rfl) hf with ⟨hcs, _⟩ | ⟨x, l, c, zs, hcs, _, hl, hm, hz, _, hcell, hwz⟩
  · simp [Value.cells] at hcs
    obtain ⟨rfl, rfl, rfl⟩ := hcs
    exact ⟨[], none, 0, rfl, by simp, fun _ => rfl, fun i hi => absurd hi (by simp)⟩
  · simp [Value.cells] at hcs
    obtain ⟨rfl, rfl, rfl⟩ := hcs
    have hz' : zs.length = cap := by simpa using hz
    have hwf : ∀ i, i < len → ∃ y : Nat, zs.getD i 0 = (y : Int) ∧ y < 4294967296 := by
      intro i hi
      have hmem : zs.getD i 0 ∈ zs := by rw [getD_in _ _ (by omega)]; exact List.getElem_mem _
      have h1 := hwz _ hmem
      simp only [Lit.wf, Bool.and_eq_true, decide_eq_true_eq] at h1
      have e1 : IntKind.u32.min = 0 := rfl
      have e2 : IntKind.u32.max = 4294967295 := rfl
      rw [e1, e2] at h1
      exact ⟨(zs.getD i 0).toNat, by omega, by omega⟩
    obtain ⟨xs, h1, h2⟩ := list_of (fun i (y : Nat) => zs.getD i 0 = (y : Int) ∧ y < 4294967296) len hwf
    refine ⟨xs, some x, cap, by rw [h1], by omega, (fun e => by cases e), fun i hi => ⟨(h2 i hi).2, ?_⟩⟩
    have hx : x = ⟨x.block, x.off, none⟩ := by
      have h3 := hcell 0 (by omega)
      have h4 : x.spot = none := by
        have := World.cell?_spot h3
        simpa [Addr.add] using this
      obtain ⟨b, o, s⟩ := x
      simpa using h4
    refine ⟨x.block, x.off, by rw [← hx], ?_⟩
    have h5 := hcell i (by omega)
    rw [hx, add_none] at h5
    rw [h5, (h2 i hi).1]
end

/-- A shorter slice of the same row. -/
theorem _root_.Go.Proofs.Ytpolbpjclklgbaa.St.shorter {B : Nat} {w0 w : World} {r : List Thing} {e : TypeId} {a : Option Addr} {n c : Nat} {xs : List Value} (st : St B w0 w (rowT e 1 (.slice a n c) n xs :: r)) (m : Nat) (hm : m ≤ n) : St B w0 w (rowT e 1 (.slice a m c) m (xs.take m) :: r) :=
  st.step fun S hS => by
    refine ⟨S, ⟨?_, fun k => by cases a <;> exact hS.2 k⟩, Only.refl _ _, fun k hk => .inl hk⟩
    have h := hS.1
    refine ⟨by rw [List.length_take, h.1]; omega, ?_⟩
    rcases h.2 with ⟨e1, h0⟩ | ⟨g, cap, cur, e1, hb, hg, hnc, hcm, hcs, ht⟩
    · obtain ⟨rfl, rfl, rfl⟩ := Value.slice.inj e1
      obtain rfl : m = 0 := by omega
      exact .inl ⟨rfl, rfl⟩
    · obtain ⟨rfl, -, rfl⟩ := Value.slice.inj e1
      refine .inr ⟨g, c, cur, rfl, hb, hg, by omega, hcm, hcs, ?_⟩
      rw [← ht, List.take_take, Nat.mul_one, Nat.mul_one, Nat.min_eq_left hm]

set_option maxRecDepth 100000 in
set_option maxHeartbeats 8000000 in
theorem walk (w : World) (v0 : Value) (xs : List Nat) (h0 : U32Row w v0 xs) :
    Calls Try.prog 3 #[v0] w fun e w' => e = .returned (.bool true) ∧ Below w.heap.size w w' := by
  have H0 := Lib.hid h0
  have hp0 := picks_st (St.start w)
  obtain ⟨a0, cap0, rfl, hc0, hn0, -⟩ := h0
  by_cases c1 : xs.length < 2
  · go_enter Try.func3, Try.ntmps3
    go_wp2_with (go_at_call 6; refine hp0.mono ?_; rintro e w1 ⟨rfl, s1⟩)
    go_ret
    exact ⟨rfl, s1.below (Nat.le_refl _)⟩
  by_cases c2 : 17 < xs.length
  · go_enter Try.func3, Try.ntmps3
    go_wp2_with (go_at_call 6; refine hp0.mono ?_; rintro e w1 ⟨rfl, s1⟩)
    go_ret
    exact ⟨rfl, s1.below (Nat.le_refl _)⟩
  have d1 : decide ((xs.length : Int) < 2) = false := by simp; omega
  have d2 : decide (17 < (xs.length : Int)) = false := by simp; omega
  obtain ⟨F, hF⟩ : ∃ F, F = xs.map (1 + ·) := ⟨_, rfl⟩
  have HFL := Lib.hid (show F.length = xs.length by rw [hF]; simp)
  clear hp0
  go_enter Try.func3, Try.ntmps3
  go_wp2
  go_loopw [3, 4, 5] (fun fv lv iv wr => ∃ k : Nat, k ≤ xs.length ∧ iv = .int .i64 (k : Int) ∧ (∀ x ∈ F.take k, 0 < x ∧ x ≤ 4294967296) ∧ St w.heap.size w wr (rowT 3 1 fv k (i64s (F.take k)) :: rowT 3 1 lv k (i64s (F.take k)) :: [])) (fun _ _ iv _ => xs.length - (intOf iv).toNat)
  case atStart => exact ⟨0, Nat.zero_le _, rfl, fun x hx => absurd hx (by simp), ((St.start w).addNil).addNil⟩
  case round =>
    obtain ⟨k, hk, rfl, hb, t1⟩ := hrel
    have HBD := Lib.hid hb
    clear hb
    by_cases hlt : k < xs.length
    · obtain ⟨a0', cap0', e1, -, -, hat⟩ := H0.out.below (t1.below (Nat.le_refl _)) (Nat.le_refl _)
      obtain ⟨hx32, b0, off0, rfl, hx0⟩ := hat k hlt
      obtain ⟨rfl, -, rfl⟩ := Value.slice.inj e1
      clear hat e1
      have hxk : ∀ wx l, St w.heap.size w wx l → wx.cell? ⟨b0, off0 + k, none⟩ = some (.int .u32 (xs[k] : Int)) := fun wx l tx => by
        obtain ⟨a1', cap1', e1, -, -, hat⟩ := H0.out.below (tx.below (Nat.le_refl _)) (Nat.le_refl _)
        obtain ⟨_, b1', off1', e2, hx⟩ := hat k hlt
        obtain ⟨e3, -, -⟩ := Value.slice.inj e1
        rw [← e3] at e2
        obtain ⟨rfl, rfl, -⟩ := Addr.mk.inj (Option.some.inj e2)
        exact hx
      have hFk : F.take (k + 1) = F.take k ++ [1 + xs[k]] := by
        have := HFL.out
        rw [List.take_succ_eq_append_getElem (by omega)]
        congr 2
        simp [hF]
      generalize xs[k] = x at hx32 hx0 hxk hFk
      have HXK := Lib.hid hxk
      have HFK := Lib.hid hFk
      have HF := Lib.hid hF
      clear hxk hFk hF
      obtain ⟨z, hz⟩ : ∃ z : Nat, 1 + (x : Int) = (z : Int) ∧ z = 1 + x := ⟨1 + x, by omega, rfl⟩
      have HZ := Lib.hid hz.2
      have hz1 := hz.1
      clear hz
      obtain ⟨i0, hi, hz0, hz1', hz2⟩ := info_parts infoI
      have hzb : z ≤ 4294967296 := by omega
      go_wp2_with (at_builtin; refine wpList_append_one rfl _ _ 24 rfl 3 i0 (.int .i64 0) 1 8 Try.underlying24 hi hz0 hz1' hz2 rfl (by decide) t1 rfl [.int .i64 (z : Int)] rfl rfl ?oneCell (by unfold maxLen; omega) (by omega) ?_)
      case oneCell => first | rfl | (intro u hu; simp at hu; subst hu; rfl)
      intro v' w5 t5
      have t6 := t5.swap
      have hx5 := HXK.out w5 _ t5
      go_wp2_with (at_builtin; refine wpList_append_one rfl _ _ 24 rfl 3 i0 (.int .i64 0) 1 8 Try.underlying24 hi hz0 hz1' hz2 rfl (by decide) t6 rfl [.int .i64 (z : Int)] rfl rfl ?oneCell (by unfold maxLen; omega) (by omega) ?_)
      case oneCell => first | rfl | (intro u hu; simp at hu; subst hu; rfl)
      intro v2 w6 t7
      have t8 : St w.heap.size w w6 (rowT 3 1 v' (k + 1) (i64s (F.take (k + 1))) :: rowT 3 1 v2 (k + 1) (i64s (F.take (k + 1))) :: []) := by
        have e : i64s (F.take (k + 1)) = i64s (F.take k) ++ [.int .i64 (z : Int)] := by rw [HFK.out, i64s_append, ← HZ.out]; rfl
        rw [e]
        exact t7.swap
      clear t1 t5 t6 t7 hx0 hx5
      go_wp2
      refine ⟨⟨k + 1, by omega, by go_num, ?_, t8⟩, by simp [intOf]; omega⟩
      intro y hy
      rw [HFK.out] at hy
      rcases List.mem_append.1 hy with hy | hy
      · exact HBD.out y hy
      · obtain rfl := List.mem_singleton.1 hy
        exact ⟨by omega, by omega⟩
    · obtain rfl : k = xs.length := by omega
      have hFt : F.take xs.length = F := List.take_of_length_le (by rw [HFL.out]; omega)
      rw [hFt] at t1
      have hFb := HBD.out
      rw [hFt] at hFb
      have hFl := HFL.out
      rw [← hFl] at t1
      have hF2 : 2 ≤ F.length ∧ F.length ≤ 17 := by omega
      obtain ⟨af, cf, rfl⟩ := ownsRow_slice t1.row
      have HB := Lib.hid hFb
      have hsum := Nat.le_trans (sum_bounded 4294967296 F (fun x hx => (hFb x hx).2)) (Nat.mul_le_mul_right _ hF2.2)
      have hbest : best F 17 ≤ 17 * 562949953421312 := by
        have hpl : (pos F).length ≤ 2 ^ 17 := Nat.le_trans (List.length_filter_le _ _) (by omega)
        have h1 := cost_le F (lengths F (rare F) 17) (fun f hf => by have := (hFb f hf).2; omega) (lengths_bytes F (rare F) 17 (rare_is F) ⟨by omega, by omega⟩ hpl) (lengths_length _ _ _) F.length (Nat.le_refl _)
        exact Nat.le_trans h1 (Nat.mul_le_mul_right _ hF2.2)
      have hrem : 0 + rem F = best F 17 := by unfold rem; rw [if_pos hF2.1, Nat.zero_add]
      have HREM := Lib.hid hrem
      have HBEST := Lib.hid hbest
      have HF := Lib.hid hF
      clear hFt hFb hFl hF hrem hbest HBD
      generalize hSF : F.sum = SF at hsum
      have HSF := Lib.hid hSF
      generalize hBF : best F 17 = BF at *
      have HBF := Lib.hid hBF
      clear hSF hBF
      go_wp2
      go_loopw [4, 6] (fun lv wv wx => ∃ (P : List Nat) (wn : Nat), wv = .int .i64 (wn : Int) ∧ 1 ≤ P.length ∧ P.length ≤ 17 ∧ (∀ x ∈ P, 0 < x) ∧ P.sum = SF ∧ wn + rem P = BF ∧ St w.heap.size w wx (rowT 3 1 lv P.length (i64s P) :: rowT 3 1 (.slice af F.length cf) F.length (i64s F) :: [])) (fun lv _ _ => lenOf lv)
      case atStart => exact ⟨F, 0, rfl, by omega, by omega, fun x hx => (HB.out x hx).1, HSF.out, HREM.out, t1.swap⟩
      case round =>
        obtain ⟨P, wn, rfl, hP1, hP17, hPpos, hPsum, hPrem, t2⟩ := hrel
        clear t1
        have HPP := Lib.hid hPpos
        have HPS := Lib.hid hPsum
        have HPR := Lib.hid hPrem
        have hwn : wn ≤ 17 * 562949953421312 := by have := HBEST.out; omega
        clear hPpos hPsum hPrem
        by_cases h2 : 2 ≤ P.length
        · obtain ⟨g, cap, rfl, hcap⟩ := t2.rowShape (by omega)
          obtain ⟨K, hK⟩ : ∃ K, K = P.length := ⟨_, rfl⟩
          rw [← hK] at t2 hP1 hP17 h2 hcap
          simp only [← hK]
          obtain ⟨k1, hk1, hk1n⟩ : ∃ k1 : Nat, (K : Int) - 1 = (k1 : Int) ∧ k1 = K - 1 := ⟨K - 1, by omega, rfl⟩
          obtain ⟨k2, hk2, hk2n⟩ : ∃ k2 : Nat, (K : Int) - 2 = (k2 : Int) ∧ k2 = K - 2 := ⟨K - 2, by omega, rfl⟩
          have HK := Lib.hid hK
          have HK1 := Lib.hid hk1n
          have HK2 := Lib.hid hk2n
          have hk12 : k1 = k2 + 1 := by omega
          have HK12 := Lib.hid hk12
          have hk1b : k1 ≤ 16 := by omega
          have hk1K : k1 < K := by omega
          have hk2K : k2 < K := by omega
          clear hK hk1n hk2n hk12
          go_wp2
          go_loopw [7] (fun nv wx => ∃ (d : Nat) (Q : List Nat), d ≤ 2 ∧ nv = .int .i64 ((k1 : Int) - (d : Int)) ∧ Q.Perm P ∧ (1 ≤ d → ∀ j, j < k1 → nth Q k1 ≤ nth Q j) ∧ (2 ≤ d → ∀ j, j < k2 → nth Q k2 ≤ nth Q j) ∧ St w.heap.size w wx (rowT 3 1 (.slice (some ⟨g, 0, none⟩) K cap) K (i64s Q) :: rowT 3 1 (.slice af F.length cf) F.length (i64s F) :: [])) (fun nv _ => (intOf nv + 10).toNat)
          case atStart => exact ⟨0, P, by omega, by simp, List.Perm.refl _, fun h => absurd h (by omega), fun h => absurd h (by omega), t2⟩
          case round =>
            obtain ⟨d, Q, hd, rfl, hQ, hA, hB2, t3⟩ := hrel
            have HQ := Lib.hid hQ
            have HA := Lib.hid hA
            have HB2 := Lib.hid hB2
            clear hQ hA hB2 t2
            by_cases hd2 : d < 2
            · obtain ⟨n, hn, hnn⟩ : ∃ n : Nat, (k1 : Int) - (d : Int) = (n : Int) ∧ n + d = k1 := ⟨k1 - d, by have := HK12.out; omega, by have := HK12.out; omega⟩
              rw [hn]
              have HN := Lib.hid hnn
              have hnk : n < K := by omega
              have hkn : k2 ≤ n := by have := HK12.out; omega
              clear hn hnn
              go_wp2
              go_loopw [8] (fun iv wy => ∃ (i : Nat) (Q2 : List Nat), i ≤ n ∧ iv = .int .i64 (i : Int) ∧ Q2.Perm P ∧ (1 ≤ d → ∀ j, j < k1 → nth Q2 k1 ≤ nth Q2 j) ∧ (∀ j, j < i → nth Q2 n ≤ nth Q2 j) ∧ St w.heap.size w wy (rowT 3 1 (.slice (some ⟨g, 0, none⟩) K cap) K (i64s Q2) :: rowT 3 1 (.slice af F.length cf) F.length (i64s F) :: [])) (fun iv _ => n - (intOf iv).toNat)
              case atStart => exact ⟨0, Q, Nat.zero_le _, rfl, HQ.out, HA.out, fun j hj => absurd hj (by omega), t3⟩
              case round =>
                obtain ⟨i, Q2, hi, rfl, hQ2, hA2, hC, t4⟩ := hrel
                clear t3
                have hlQ : Q2.length = K := by rw [hQ2.length_eq, HK.out]
                have HLQ := Lib.hid hlQ
                have HQ2 := Lib.hid hQ2
                have HA2 := Lib.hid hA2
                have HC := Lib.hid hC
                clear hlQ hQ2 hA2 hC
                by_cases hlt : i < n
                · have ci : wr.drew.cell? ⟨g, i, none⟩ = some (.int .i64 (nth Q2 i : Int)) := by
                    have := HLQ.out
                    show wr.cell? ⟨g, i, none⟩ = _
                    rw [t4.row.cellAt i (by omega), i64s_get _ _ (by omega), nth_lt (by omega)]
                  have cn : wr.drew.cell? ⟨g, n, none⟩ = some (.int .i64 (nth Q2 n : Int)) := by
                    have := HLQ.out
                    show wr.cell? ⟨g, n, none⟩ = _
                    rw [t4.row.cellAt n (by omega), i64s_get _ _ (by omega), nth_lt (by omega)]
                  have ci0 : wr.cell? ⟨g, i, none⟩ = some (.int .i64 (nth Q2 i : Int)) := ci
                  have cn0 : wr.cell? ⟨g, n, none⟩ = some (.int .i64 (nth Q2 n : Int)) := cn
                  have hni : ¬ n = i := by omega
                  have hin : ¬ i = n := by omega
                  have fi : wr.frozen? ⟨g, i, none⟩ = false := t4.row.frozenAt i
                  have fn : wr.frozen? ⟨g, n, none⟩ = false := t4.row.frozenAt n
                  by_cases hsw : nth Q2 i < nth Q2 n
                  · have t5 := (((t4.stored i (.int .i64 (nth Q2 n : Int))).stored n (.int .i64 (nth Q2 i : Int))).drew).drew
                    rw [← i64s_set, ← i64s_set] at t5
                    have T5 := Lib.hid t5
                    clear t5
                    go_wp2
                    go_region
                    all_goals go_wp2
                    all_goals go_region
                    all_goals go_wp2
                    all_goals
                      refine ⟨⟨i + 1, swap Q2 i n, by omega, by go_num, (swap_perm (by rw [HLQ.out]; omega) (by rw [HLQ.out]; omega)).trans HQ2.out, ?_, swap_least hlt (by rw [HLQ.out]; omega) HC.out hsw, T5.out⟩, by simp [intOf]; omega⟩
                      intro hd1
                      have e1 := HLQ.out
                      have e2 := HN.out
                      have e3 := HK1.out
                      have hl := swap_last (P := Q2) hlt (by omega) (by rw [e1, ← e3]; exact HA2.out hd1)
                      rw [e1, ← e3] at hl
                      exact hl
                  · go_wp2
                    go_region
                    all_goals go_wp2
                    refine ⟨⟨i + 1, Q2, by omega, by go_num, HQ2.out, HA2.out, fun j hj => ?_, t4.drew⟩, by simp [intOf]; omega⟩
                    by_cases e : j = i
                    · subst e; omega
                    · exact HC.out j (by omega)
                · obtain rfl : i = n := by omega
                  go_wp2
                  refine ⟨⟨d + 1, Q2, by omega, by have := HN.out; congr 1; omega, HQ2.out, fun _ => ?_, fun h => ?_, t4⟩, by simp [intOf]; omega⟩
                  · by_cases hd0 : d = 0
                    · have e : i = k1 := by have := HN.out; omega
                      rw [← e]; exact HC.out
                    · exact HA2.out (by omega)
                  · have e : i = k2 := by have := HN.out; have := HK12.out; omega
                    rw [← e]; exact HC.out
            · obtain rfl : d = 2 := by omega
              have hlQ : Q.length = K := by rw [HQ.out.length_eq, HK.out]
              have hboth : nth Q k1 + nth Q k2 = both Q := by
                unfold both
                rw [hlQ, HK1.out, HK2.out]
              have hjl : (joined Q).length = K - 1 := by rw [joined_length Q (by omega), hlQ]
              have hpos : ∀ x ∈ Q, 0 < x := fun x hx => HPP.out x (HQ.out.mem_iff.1 hx)
              have hsQ : Q.sum = SF := by rw [HQ.out.sum_nat, HPS.out]
              have hjb := joined_best (P := Q) (by omega) (by omega) hpos (by rw [hlQ, ← HK1.out]; exact HA.out (by omega)) (by rw [hlQ, ← HK2.out]; exact HB2.out (by omega))
              have hrq : wn + (both Q + rem (joined Q)) = BF := by
                have := HPR.out
                unfold rem at this
                rw [if_pos (by rw [← HK.out]; omega), ← best_perm HQ.out 17, hjb] at this
                exact this
              have c1' : wr.drew.cell? ⟨g, k1, none⟩ = some (.int .i64 (nth Q k1 : Int)) := by
                show wr.cell? ⟨g, k1, none⟩ = _
                rw [t3.row.cellAt k1 (by omega), i64s_get _ _ (by omega), nth_lt (by omega)]
              have c2' : wr.drew.cell? ⟨g, k2, none⟩ = some (.int .i64 (nth Q k2 : Int)) := by
                show wr.cell? ⟨g, k2, none⟩ = _
                rw [t3.row.cellAt k2 (by omega), i64s_get _ _ (by omega), nth_lt (by omega)]
              have m1 : nth Q k1 ≤ SF := by rw [← hsQ, nth_lt (by omega)]; exact mem_le_sum (List.getElem_mem _)
              have m2 : nth Q k2 ≤ SF := by rw [← hsQ, nth_lt (by omega)]; exact mem_le_sum (List.getElem_mem _)
              have t4 := (t3.drew).shorter k2 (by omega)
              have HLQ := Lib.hid hlQ
              have HBO := Lib.hid hboth
              have HJL := Lib.hid hjl
              have HRQ := Lib.hid hrq
              have HPOS := Lib.hid hpos
              have HSQ := Lib.hid hsQ
              clear hlQ hboth hjl hrq hpos hsQ hjb
              obtain ⟨bo, hbo, hbon⟩ : ∃ bo : Nat, (nth Q k1 : Int) + (nth Q k2 : Int) = (bo : Int) ∧ bo = nth Q k1 + nth Q k2 := ⟨nth Q k1 + nth Q k2, by omega, rfl⟩
              have hbob : bo ≤ 2 * SF := by omega
              have HBN := Lib.hid hbon
              clear hbon
              obtain ⟨i0, hi, hz0, hz1', hz2⟩ := info_parts infoI
              go_wp2
              go_region
              all_goals
                generalize wr.drew = wd at t4 ⊢
                clear c1' c2'
                go_wp2_with (at_builtin; refine wpList_append_one rfl _ _ 24 rfl 3 i0 (.int .i64 0) 1 8 Try.underlying24 hi hz0 hz1' hz2 rfl (by decide) t4 rfl [.int .i64 (bo : Int)] rfl rfl ?oneCell (by unfold maxLen; omega) (by omega) ?_)
                case oneCell => first | rfl | (intro u hu; simp at hu; subst hu; rfl)
                intro v2 w6 t7
                have hkl : k2 + 1 = (joined Q).length := by rw [HJL.out]; have := HK2.out; omega
                have t8 : St w.heap.size w w6 (rowT 3 1 v2 (joined Q).length (i64s (joined Q)) :: rowT 3 1 (.slice af F.length cf) F.length (i64s F) :: []) := by
                  have e : i64s (joined Q) = (i64s Q).take k2 ++ [.int .i64 (bo : Int)] := by
                    unfold joined
                    rw [i64s_append, HLQ.out, ← HK2.out, ← HBO.out, HBN.out]
                    simp [i64s, List.map_take]
                  rw [e, ← hkl]
                  exact t7
                obtain ⟨a2, c2', rfl⟩ := ownsRow_slice t8.row
                have T8 := Lib.hid t8
                have HKL := Lib.hid hkl
                clear t7 t8 t4 t3 hkl
                go_wp2
                have hj := HJL.out
                refine ⟨⟨joined Q, wn + bo, by rw [Int.natCast_add], by omega, by omega, joined_pos (by rw [HLQ.out]; omega) HPOS.out, by rw [joined_sum Q (by rw [HLQ.out]; omega), HSQ.out], ?_, T8.out⟩, ?_⟩
                · have h1 := HRQ.out
                  have h2' := HBO.out
                  have h3' := HBN.out
                  omega
                · show (joined Q).length < K
                  omega
        · have hP1' : P.length = 1 := by omega
          have hwB : wn = BF := by
            have := HPR.out
            unfold rem at this
            rw [if_neg h2] at this
            omega
          have t3 := t2.swap
          have hnr : NumRow wr (.slice af F.length cf) F := t3.numRow
          have hir := hnr.ints (fun x hx => by have := (HB.out x hx).2; omega)
          have hpl : (pos F).length ≤ 2 ^ 17 := Nat.le_trans (List.length_filter_le _ _) (by omega)
          have hlen := lengths_ok t3 _ _ 17 hir (fun x hx => by
            obtain ⟨z, hz, rfl⟩ := List.mem_map.1 hx
            have := (HB.out z hz).2
            omega) (by rw [List.length_map]; omega) ⟨by omega, by omega⟩
          rw [show (F.map fun x : Nat => (x : Int)).map Int.toNat = F from by rw [List.map_map]; exact (List.map_congr_left fun x _ => Int.toNat_natCast x).trans (List.map_id F)] at hlen
          have hlen2 := hlen hpl
          rw [List.length_map] at hlen2
          have hby := lengths_bytes F (rare F) 17 (rare_is F) ⟨by omega, by omega⟩ hpl
          have hll : (lengths F (rare F) 17).length = F.length := lengths_length _ _ _
          have hbf := HBF.out
          unfold best at hbf
          generalize lengths F (rare F) 17 = O at hlen2 hby hll hbf
          have HLN := Lib.hid hlen2
          have HLL := Lib.hid hll
          have HCO := Lib.hid hbf
          have HWB := Lib.hid hwB
          have HP1 := Lib.hid hP1'
          obtain ⟨al, cl, rfl⟩ := ownsRow_slice t2.row
          clear hlen hlen2 hll hbf hwB hir hnr
          go_wp2_with fail
          refine HLN.out.mono ?_
          rintro e w7 ⟨u, rfl, t4⟩
          have hrow : ByteRow w7 u O := byteRow_owns (by rw [HLL.out]; exact t4.row) hby
          have hnr : NumRow w7 (.slice af F.length cf) F := t4.swap.numRow
          have hsum2 := sum_any w7 _ u F O hnr hrow (fun f hf => by have := (HB.out f hf).2; omega) HLL.out (by omega)
          rw [HCO.out, ← HWB.out] at hsum2
          go_wp2_with fail
          refine hsum2.mono ?_
          rintro e w8 ⟨rfl, n8, rfl⟩
          have t5 := t4.drewN n8
          generalize w7.drewN n8 = w9 at t5 ⊢
          go_wp2_with fail
          refine (picks_st t5).mono ?_
          rintro e w10 ⟨rfl, t6⟩
          go_wp2
          go_ret
          exact ⟨rfl, t6.below (Nat.le_refl _)⟩

end Go.Proofs.Ytpolbpjclklgbaa.limitFree
