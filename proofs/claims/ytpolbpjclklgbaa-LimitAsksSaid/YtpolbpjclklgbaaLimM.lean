/-
  Contracts of package pressworklaw05: picks, sum, choice. No conditions but those of the calls.
-/
import Derived.Test.YtpolbpjclklgbaaLimL
import Derived.Test.YtpolbpjclklgbaaKrA
import Derived.Test.YtpolbpjclklgbaaStr
namespace Go.Proofs.Ytpolbpjclklgbaa.Limit
open Go.RowKit
open Go.Proofs.Ytpolbpjclklgbaa.Kraft

/-- Lengths of frequencies that are known: by their weights, the lightest first. -/
theorem lengths_known (F W E C : List Nat) (L : Nat) (hW : W.Perm (pos F)) (hU : W.Pairwise (· ≤ ·)) (hC : countsOf W L = C) (hE : E.length = F.length)
    (h : ∀ i, i < F.length → if 0 < nth F i then ∀ p, p < W.length → nth W p = nth F i → lenAt C p = nth E i else nth E i = 0) : lengths F (rare F) L = E := by
  have hr := rare_is F
  have hw : (rare F).map (nth F) = W := List.Perm.eq_of_pairwise (le := (· ≤ ·)) (fun _ _ _ _ h1 h2 => Nat.le_antisymm h1 h2) hr.up hU (hr.weights.trans hW.symm)
  refine List.ext_getElem (by rw [lengths_length, hE]) fun i h1 h2 => ?_
  rw [← nth_lt h1, ← nth_lt h2]
  have hi : i < F.length := by rwa [lengths_length] at h1
  have hh := h i hi
  by_cases h0 : 0 < nth F i
  · rw [if_pos h0] at hh
    obtain ⟨p, hp, hpi⟩ := rare_at hr hi h0
    have hm : nth W p = nth F i := by rw [← hw, nth_map _ hp, hpi]
    have := hh p (by rw [← hw]; simpa using hp) hm
    rw [← this, ← hC, ← hw, ← hpi]
    exact lengths_at hr L hp
  · rw [if_neg h0] at hh
    rw [hh, lengths_zero hr L i hi (by omega)]

theorem known_3321 : lengths [1, 1, 2, 4] (rare [1, 1, 2, 4]) 3 = [3, 3, 2, 1] :=
  lengths_known _ [1, 1, 2, 4] _ [4, 3, 2] 3 (List.Perm.refl _) (by decide) (by kernel_rfl) rfl (by decide)

theorem rare_len (F : List Nat) : (rare F).length = (pos F).length := pos_perm_length (rare_is F)

/-- Where the error is none. -/
theorem errOf_ok {xs : List Int} {L : Int} (h : fitsB xs L = true) (hf : (pos (xs.map Int.toNat)).length ≤ 2 ^ L.toNat) : errOf xs L = 0 := by
  have hn : ¬ 2 ^ L.toNat < (pos (xs.map Int.toNat)).length := Nat.not_lt.2 hf
  unfold errOf
  rw [h, rare_len, if_neg hn]
  rfl

theorem lensAns_ok {xs : List Int} {L : Int} (h : errOf xs L = 0) : lensAns xs L = lengths (xs.map Int.toNat) (rare (xs.map Int.toNat)) L.toNat := by
  unfold lensAns; rw [if_pos h]

set_option maxRecDepth 100000 in
set_option maxHeartbeats 1000000 in
/-- picks: true. -/
theorem picks_st {B : Nat} {w0 w : World} {r : List Thing} (st : St B w0 w r) :
    Calls Try.prog 6 #[] w fun e w' => e = .returned (.bool true) ∧ St B w0 w' r := by
  have he : errOf [1, 1, 2, 4] 3 = 0 := errOf_ok (by decide) (by decide)
  have ha : lensAns [1, 1, 2, 4] 3 = [3, 3, 2, 1] := by rw [lensAns_ok he]; exact known_3321
  have hrow := (numRow_lit w [1, 1, 2, 4] 3 (0, 0)).ints (by decide)
  have hl := lengths_st (st.alloc (.cells (i64s [1, 1, 2, 4]).toArray 3)) _ _ 3 hrow
  unfold LengthsSt at hl
  rw [show ([1, 1, 2, 4] : List Nat).map (fun x : Nat => (x : Int)) = [1, 1, 2, 4] from rfl, he, ha] at hl
  go_enter Try.func6, Try.ntmps6
  go_wp2_with fail
  refine hl.mono ?_
  rintro e w1 ⟨u, rfl, s1⟩
  obtain ⟨a1, c1, rfl⟩ := ownsRow_slice s1.row
  have hcv := s1.string
  rw [show strOf [3, 3, 2, 1] = ({ data := #[3, 3, 2, 1] } : ByteArray) from by decide] at hcv
  have s2 := s1.drop
  have hcv : (convert 26 9 (.slice a1 4 c1)).run Try.prog w1 = .ok (.string { data := #[3, 3, 2, 1] }) w1 := hcv
  clear hl s1
  go_wp2
  go_ret
  exact ⟨rfl, s2⟩

/-- What lengths cost. -/
theorem cost_le (F O : List Nat) (hF : ∀ f ∈ F, f ≤ 2199023255552) (hO : ∀ o ∈ O, o < 256) (hl : O.length = F.length) (k : Nat) (hk : k ≤ F.length) : sumTo (fun i => nth F i * nth O i) k ≤ k * 562949953421312 := by
  refine sumTo_bound fun i hi => ?_
  have h1 := hF _ (List.getElem_mem (show i < F.length by omega))
  have h2 := hO _ (List.getElem_mem (show i < O.length by omega))
  rw [nth_lt (by omega), nth_lt (by omega)]
  have := Nat.mul_le_mul h1 (Nat.le_of_lt h2)
  omega

set_option maxRecDepth 100000 in
set_option maxHeartbeats 1000000 in
/-- sum. -/
theorem sum_any (w : World) (v u : Value) (F O : List Nat) (h : NumRow w v F) (g : ByteRow w u O) (hF : ∀ f ∈ F, f ≤ 2199023255552) (hl : O.length = F.length) (hn : F.length ≤ 2000) :
    Calls Try.prog 8 #[v, u] w fun e w' => e = .returned (.int .i64 (cost F O : Int)) ∧ ∃ n, w' = w.drewN n := by
  have hO := g.byte
  have HL := Lib.hid (fun k hk => cost_le F O hF hO hl k hk)
  have HC := Lib.hid (show cost F O = sumTo (fun i => nth F i * nth O i) F.length from rfl)
  have HF := Lib.hid hF
  have HO := Lib.hid hO
  have HG := Lib.hid g
  have HH := Lib.hid h
  clear hF hO
  obtain ⟨a, cap, rfl, hc, hnn, -⟩ := h
  obtain ⟨a2, cap2, rfl, hc2, hnn2, -⟩ := g
  rw [hl]
  go_enter Try.func8, Try.ntmps8
  go_wp2
  go_loopw [5, 6] (fun s i wr => ∃ k n : Nat, k ≤ F.length ∧ i = .int .i64 (k : Int) ∧ s = .int .i64 (sumTo (fun i => nth F i * nth O i) k : Int) ∧ wr = w.drewN n) (fun _ i _ => F.length - (intOf i).toNat)
  case atStart => exact ⟨0, 0, by omega, rfl, rfl, rfl⟩
  case round =>
    obtain ⟨k, n, hk, rfl, rfl, rfl⟩ := hrel
    by_cases hlt : k < F.length
    · obtain ⟨a', cap', e', _, _, hat⟩ := HH.out
      obtain ⟨rfl, -, rfl⟩ := Value.slice.inj e'
      obtain ⟨b0, off, rfl, c0⟩ := hat k hlt
      obtain ⟨a3, cap3, e3, _, _, hat3⟩ := HG.out
      obtain ⟨rfl, -, rfl⟩ := Value.slice.inj e3
      obtain ⟨hb, b1, off1, rfl, c1⟩ := hat3 k (by omega)
      have h1 := HF.out _ (List.getElem_mem hlt)
      have h2 := HL.out k (by omega)
      have hs : sumTo (fun i => nth F i * nth O i) (k + 1) = sumTo (fun i => nth F i * nth O i) k + F[k] * O[k] := by rw [sumTo, nth_lt hlt, nth_lt (by omega)]
      have h3 := HL.out (k + 1) (by omega)
      rw [hs] at h3
      have HS := Lib.hid hs
      clear hat hat3 e' e3 hs
      generalize sumTo (fun i => nth F i * nth O i) k = s at *
      generalize F[k] = f at *
      generalize O[k]'(by omega) = o at *
      have hm : (f : Int) * (o : Int) = ((f * o : Nat) : Int) := by simp
      generalize f * o = q at *
      have d0 : decide ((k : Int) < (F.length : Int)) = true := by simp; omega
      have c0' : (w.drewN n).cell? ⟨b0, off + k, none⟩ = some (.int .i64 (f : Int)) := c0
      have c1' : (w.drewN n).cell? ⟨b1, off1 + k, none⟩ = some (.int .u8 (o : Int)) := c1
      clear c0 c1
      have hq : w.drewN n = w.drewN n := rfl
      obtain ⟨wq, hwq⟩ : ∃ wq, w.drewN n = wq := ⟨_, rfl⟩
      rw [hwq] at c0' c1' ⊢
      have HQ := Lib.hid hwq
      clear hwq hq
      go_wp2
      go_quiet (fail)
      go_wp2
      exact ⟨⟨k + 1, n + nq, by omega, by go_num, by rw [HS.out]; go_num, by rw [← HQ.out]; simp [World.drewN, Nat.add_assoc]⟩, by simp [intOf]; omega⟩
    · obtain rfl : k = F.length := by omega
      rw [← HC.out]
      go_wp2
      go_ret
      exact ⟨rfl, n, rfl⟩

/-! choice. -/

theorem weight_kraft (O : List Nat) (L : Nat) (hL : L ≤ 20) (h : ∀ i, i < O.length → nth O i ≤ L) : weight O = kraft L O * 2 ^ (20 - L) := by
  have e : weight O = sumTo (fun j => Kraft.part (nth O j)) O.length := rfl
  rw [e]
  unfold kraft
  rw [Nat.mul_comm, ← sumTo_mul]
  refine sumTo_congr fun j hj => ?_
  have := h j hj
  by_cases h0 : nth O j = 0
  · rw [if_pos h0, h0]; rfl
  · rw [part_eq _ (by omega), if_neg h0, ← Nat.pow_add]
    congr 1
    omega

theorem full_iff (O : List Nat) (L : Nat) (hL : L ≤ 17) (hl : O.length ≤ 512) (h : ∀ i, i < O.length → nth O i ≤ L) : classAns O = .tuple #[.int .u8 2, .int .i64 0] ↔ kraft L O = 2 ^ L := by
  have hm : may O = true := (may_iff O).2 ⟨hl, fun x hx => by
    obtain ⟨i, hi, rfl⟩ := nth_mem hx
    have := h i hi
    omega⟩
  have hw := weight_kraft O L (by omega) h
  have hp : 2 ^ L * 2 ^ (20 - L) = 1048576 := by rw [← Nat.pow_add, show L + (20 - L) = 20 from by omega]
  have hz : 0 < 2 ^ (20 - L) := Nat.two_pow_pos _
  unfold classAns
  rw [if_pos hm]
  constructor
  · intro e
    have e1 : class_ (weight O) = 2 := by
      simp at e
      omega
    have e2 : weight O = 1048576 := by
      unfold class_ at e1
      split at e1
      · omega
      · split at e1
        · omega
        · split at e1 <;> omega
    rw [e2, ← hp] at hw
    exact (Nat.eq_of_mul_eq_mul_right hz hw).symm
  · intro e
    rw [e, hp] at hw
    rw [hw]
    rfl

end Go.Proofs.Ytpolbpjclklgbaa.Limit
