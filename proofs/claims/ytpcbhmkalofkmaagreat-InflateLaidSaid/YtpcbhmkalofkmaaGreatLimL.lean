/-
  Contracts of package limit: Lengths. No conditions but those of the calls.
-/
import Derived.Test.YtpcbhmkalofkmaaGreatLimT
import Derived.Test.YtpcbhmkalofkmaaGreatLimC
namespace Go.Proofs.YtpcbhmkalofkmaaGreat.Limit
open Go.RowKit

/-- What Lengths answers: the error, and the lengths. -/
def errOf (xs : List Int) (L : Int) : Nat := if fitsB xs L then (if 2 ^ L.toNat < (rare (xs.map Int.toNat)).length then 2 else 0) else 5
def lensAns (xs : List Int) (L : Int) : List Nat := if errOf xs L = 0 then lengths (xs.map Int.toNat) (rare (xs.map Int.toNat)) L.toNat else []

/-- Behind Lengths: a row of the call's own (or nil). -/
def LengthsSt (B : Nat) (w0 : World) (r : List Thing) (xs : List Int) (L : Int) (e : Ending) (w' : World) : Prop :=
  ∃ u, e = .returned (.tuple #[u, .int .i64 (errOf xs L : Int)]) ∧ St B w0 w' (rowT 5 1 u (lensAns xs L).length (u8s (lensAns xs L)) :: r)

theorem counts_le {F S : List Nat} (h : Rare F S) {L : Nat} (hL : 1 ≤ L) (hf : S.length ≤ 2 ^ L) : ∀ c ∈ countsOf (S.map (nth F)) L, c ≤ S.length := by
  by_cases h2 : 2 ≤ S.length
  · obtain ⟨e, hle⟩ := counts_two h h2 hL hf
    rw [e]
    have := (taking_desc h.upW h.posW L _ hle).all
    rwa [List.length_map] at this
  · intro c hc
    unfold countsOf at hc
    rw [List.length_map, if_pos (by omega)] at hc
    simp at hc
    omega

theorem counts_short {W : List Nat} {L : Nat} (hL : 1 ≤ L) : (countsOf W L).length ≤ L := by
  unfold countsOf
  split
  · simpa using hL
  · rw [taking_length]; exact Nat.le_refl _

theorem count_one {S : List Nat} (hS : S.Nodup) (n s : Nat) : (S.take n).count s ≤ 1 := List.nodup_iff_count.1 (hS.sublist (List.take_sublist n S)) s

theorem adds_le {S : List Nat} (hS : S.Nodup) (C : List Nat) (m s : Nat) (hs : s < m) : nth (addsTo S (List.replicate m 0) C) s ≤ C.length := by
  rw [addsTo_nth _ _ _ _ (by simpa using hs), nth_replicate, Nat.zero_add]
  induction C with
  | nil => simp
  | cons c C ih => rw [List.map_cons, List.sum_cons, List.length_cons]; have := count_one hS c s; omega

theorem adds_snoc (S l C : List Nat) (c : Nat) : addsTo S l (C ++ [c]) = (S.take c).foldl bump (addsTo S l C) := by
  unfold addsTo; rw [List.foldl_append]; rfl

theorem bumps_snoc (S l : List Nat) (q : Nat) (hq : q < S.length) : (S.take (q + 1)).foldl bump l = bump ((S.take q).foldl bump l) S[q] := by
  rw [List.take_succ_eq_append_getElem hq, List.foldl_append]; rfl

theorem bump_set (l : List Nat) (s : Nat) (hs : s < l.length) : l.set s (l[s] + 1) = bump l s := by unfold bump; rw [nth_lt hs]

theorem toNat_cast {xs : List Int} (hx : ∀ x ∈ xs, 0 ≤ x ∧ x ≤ 1099511627776) : ∀ y ∈ xs.map Int.toNat, y ≤ 1099511627776 := by
  intro y hy
  obtain ⟨x, h1, rfl⟩ := List.mem_map.1 hy
  have := hx x h1
  omega

set_option maxRecDepth 100000 in
set_option maxHeartbeats 4000000 in
/-- Lengths. -/
theorem lengths_st {B : Nat} {w0 w : World} {r : List Thing} (st : St B w0 w r) (v : Value) (xs : List Int) (L : Int) (h : IntRow w v xs) :
    Calls Tryz.prog 38 #[v, .int .i64 L] w (LengthsSt B w0 r xs L) := by
  obtain ⟨a, cap, rfl, hc, hnn, -⟩ := id h
  go_enter Tryz.func38, Tryz.ntmps38
  have hfit := fits_any w _ xs L h
  cases hb : fitsB xs L with
  | false =>
    have he : errOf xs L = 5 := by unfold errOf; rw [hb]; rfl
    have ha : lensAns xs L = [] := by unfold lensAns; rw [if_neg (by omega)]
    rw [hb] at hfit
    have hS := st.addNil (e := 5) (size := 1)
    go_wp2_with (go_at_call 61; refine hfit.mono ?_; rintro e w1 ⟨rfl, rfl⟩)
    go_ret2
    exact ⟨.slice none 0 0, by rw [he]; rfl, by rw [ha]; exact hS⟩
  | true =>
    obtain ⟨⟨hL1, hL2⟩, hx5, hxs⟩ := (fitsB_iff xs L).1 hb
    obtain ⟨l, rfl⟩ : ∃ l : Nat, L = (l : Int) := ⟨L.toNat, by omega⟩
    rw [hb] at hfit
    have hN := h.nums (fun x hx => (hxs x hx).1)
    obtain ⟨F, hF⟩ : ∃ F, xs.map Int.toNat = F := ⟨_, rfl⟩
    have hF2 := toNat_cast hxs
    have hFl : F.length = xs.length := by rw [← hF]; simp
    have he : errOf xs (l : Int) = if 2 ^ l < (rare F).length then 2 else 0 := by unfold errOf; rw [hb, hF]; rfl
    have ha : lensAns xs (l : Int) = if errOf xs (l : Int) = 0 then lengths F (rare F) l else [] := by unfold lensAns; rw [hF]; rfl
    rw [hF] at hN hF2
    have HX := Lib.hid hF2
    have HE := Lib.hid (And.intro he ha)
    have HN := Lib.hid hN
    have hr := rare_is F
    have hsl : (rare F).length ≤ F.length := by rw [rare_length]; exact posTo_length F F.length
    have HR := Lib.hid hr
    have hra := rarest_st (St.start w) _ F hN (by omega)
    have HST := Lib.hid st
    clear hF2 he ha hN hr hxs h st
    generalize rare F = S at HE HR hra hsl
    have hpl : 2 ^ l ≤ 131072 := by
      have := Nat.pow_le_pow_right (n := 2) (by omega) (show l ≤ 17 by omega)
      simpa using this
    have hwp : wrap64 ((2 : Int) ^ l) = ((2 ^ l : Nat) : Int) := by
      have e : (2 : Int) ^ l = ((2 ^ l : Nat) : Int) := by simp
      rw [e]
      unfold wrap64
      have h0 : 0 < 2 ^ l := Nat.two_pow_pos l
      generalize 2 ^ l = q at *
      omega
    obtain ⟨p, hp⟩ : ∃ p, 2 ^ l = p := ⟨_, rfl⟩
    rw [hp] at hwp hpl HE
    have HP := Lib.hid hp
    clear hp
    go_wp2_with (go_at_call 61; refine hfit.mono ?_; rintro e w1 ⟨rfl, rfl⟩)
    by_cases hbig : p < S.length
    · have he : errOf xs (l : Int) = 2 := by rw [HE.out.1, if_pos hbig]
      have ha : lensAns xs (l : Int) = [] := by rw [HE.out.2, if_neg (by omega)]
      have hdb : decide ((p : Int) < (S.length : Int)) = true := by simp; omega
      go_wp2_with (go_at_call 62; refine hra.mono ?_; rintro e w1 ⟨u, rfl, s1⟩; obtain ⟨a1, cap1, rfl⟩ := ownsRow_slice s1.row)
      go_ret2
      refine ⟨.slice none 0 0, by rw [he]; rfl, ?_⟩
      rw [ha]
      exact (HST.out.quiet (s1.below (Nat.le_refl _))).addNil (e := 5) (size := 1)
    · have he : errOf xs (l : Int) = 0 := by rw [HE.out.1, if_neg hbig]
      have ha : lensAns xs (l : Int) = lengths F S l := by rw [HE.out.2, if_pos he]
      have hdb : decide ((p : Int) < (S.length : Int)) = false := by simp; omega
      obtain ⟨i0, hi, hz0, hz1, hz2⟩ := info_parts info8
      have hmk : i0.bytes * xs.length ≤ 281474976710656 := by rw [hz2]; omega
      have hmx : xs.length ≤ maxLen := by unfold maxLen; omega
      go_wp2_with (first | (go_at_call 62; refine hra.mono ?_; rintro e w1 ⟨u, rfl, s1⟩; obtain ⟨a1, cap1, rfl⟩ := ownsRow_slice s1.row) | (at_make; refine wpList_make_full _ rfl _ _ 22 rfl w1.heap.size 5 i0 (.int .u8 0) 1 Tryz.underlying22 hi hz0 hz1 _ _ _ _ xs.length rfl rfl rfl rfl hmk hmx (Nat.le_refl _) ?_))
      intro w2 hown hg
      have s2 := s1.made hown hg
      clear hown hg hi hz0 hz1 hz2 hmk hmx s1 hra hfit
      have hlen : l ≤ 17 ∧ 1 ≤ l := by omega
      have hw := weightsOf_st s2 _ _ F S (HN.out.below (s2.below (Nat.le_refl _)) (Nat.le_refl _)) s2.swap.numRow (by omega) (fun q hq => ((HR.out.mem q).1 hq).1)
      have hw := Lib.hid hw
      clear s2
      generalize w1.heap.size = g at *
      go_wp2_with (go_at_call 64; refine hw.out.mono ?_; rintro e w3 ⟨g3, rfl, s3⟩)
      have hml : (S.map (nth F)).length = S.length := List.length_map _
      have hnr := s3.numRow
      rw [hml] at hnr
      have htk := takes_st s3 _ (S.map (nth F)) l hnr (by omega) (by omega) (fun x hx => by
        obtain ⟨q, hq, rfl⟩ := List.mem_map.1 hx
        have := ((HR.out.mem q).1 hq).1
        rw [nth_lt this]
        exact HX.out _ (List.getElem_mem this)) (by rw [hml, HP.out]; omega)
      have hcle := counts_le HR.out (L := l) (by omega) (by rw [HP.out]; omega)
      have hcsh := counts_short (W := S.map (nth F)) (L := l) (by omega)
      have haa : lensAns xs (l : Int) = addsTo S (List.replicate xs.length 0) (countsOf (S.map (nth F)) l) := by rw [ha, ← hFl]; rfl
      generalize countsOf (S.map (nth F)) l = C at *
      have HA := Lib.hid haa
      have HC := Lib.hid hcle
      have HN2 := Lib.hid HR.out.nodup
      have htk := Lib.hid htk
      have hSm : ∀ q ∈ S, q < xs.length := fun q hq => by have := ((HR.out.mem q).1 hq).1; omega
      have HSm := Lib.hid hSm
      clear s3 hw hnr hml ha haa hcle HE HP HR HX HN hF hSm
      go_wp2_with (go_at_call 63; refine htk.out.mono ?_; rintro e w4 ⟨u4, rfl, s4⟩; obtain ⟨a4, c4, rfl⟩ := ownsRow_slice s4.row)
      have s5 : St w.heap.size w w4 (bytesT g xs.length (addsTo S (List.replicate xs.length 0) (C.take 0)) :: rowT 3 1 (.slice a4 C.length c4) C.length (i64s C) :: rowT 3 1 (.slice a1 S.length cap1) S.length (i64s S) :: []) := s4.swap.drop.swap
      clear s4 htk
      go_loopw [9, 11, 32] (fun _ _ i wr => ∃ k : Nat, k ≤ C.length ∧ i = .int .i64 (k : Int) ∧ St w.heap.size w wr (bytesT g xs.length (addsTo S (List.replicate xs.length 0) (C.take k)) :: rowT 3 1 (.slice a4 C.length c4) C.length (i64s C) :: rowT 3 1 (.slice a1 S.length cap1) S.length (i64s S) :: [])) (fun _ _ i _ => C.length - (intOf i).toNat)
      case atStart => exact ⟨0, by omega, rfl, s5⟩
      case round =>
        obtain ⟨k, hk, rfl, s6⟩ := hrel
        clear s5
        by_cases hlt : k < C.length
        · obtain ⟨a', cap', e', _, _, hat⟩ := s6.swap.numRow
          obtain ⟨rfl, -, rfl⟩ := Value.slice.inj e'
          obtain ⟨b0, off, rfl, c0⟩ := hat k hlt
          have hnS : C[k] ≤ S.length := HC.out _ (List.getElem_mem hlt)
          obtain ⟨a2, cap2, e2, hcs, hns, hat2⟩ := s6.third.numRow
          obtain ⟨rfl, -, rfl⟩ := Value.slice.inj e2
          have hk1 : (C.take k).length = k := by rw [List.length_take]; omega
          have hsn := adds_snoc S (List.replicate xs.length 0) (C.take k) C[k]
          rw [← List.take_succ_eq_append_getElem hlt] at hsn
          have hle := fun q hq => adds_le HN2.out (C.take k) xs.length q hq
          rw [hk1] at hle
          have hal := addsTo_length S (C.take k) (List.replicate xs.length 0)
          rw [List.length_replicate] at hal
          have HSN := Lib.hid hsn
          have HLE := Lib.hid hle
          have HS6 := Lib.hid s6
          clear hat hat2 e' e2 hsn hle s6
          generalize addsTo S (List.replicate xs.length 0) (C.take k) = l0 at *
          generalize C[k] = n at *
          have hd0 : decide ((k : Int) < (C.length : Int)) = true := by simp; omega
          go_wp2
          go_loopw [11, 40] (fun _ i wr2 => ∃ q : Nat, q ≤ n ∧ i = .int .i64 (q : Int) ∧ St w.heap.size w wr2 (bytesT g xs.length ((S.take q).foldl bump l0) :: rowT 3 1 (.slice (some ⟨b0, off, none⟩) C.length c4) C.length (i64s C) :: rowT 3 1 (.slice a1 S.length cap1) S.length (i64s S) :: [])) (fun _ i _ => n - (intOf i).toNat)
          case atStart => exact ⟨0, by omega, rfl, HS6.out⟩
          case round =>
            obtain ⟨q, hq, rfl, s7⟩ := hrel
            by_cases hqn : q < n
            · obtain ⟨a3, cap3, e3, _, _, hat3⟩ := s7.third.numRow
              obtain ⟨rfl, -, rfl⟩ := Value.slice.inj e3
              obtain ⟨b1, off1, rfl, c1⟩ := hat3 q (by omega)
              have hsm := HSm.out _ (List.getElem_mem (show q < S.length by omega))
              have hbl := bumps_length (S.take q) l0
              have hstep := bumps_snoc S l0 q (by omega)
              have hbn := bumps_nth (S.take q) l0 (S[q]'(by omega)) (by omega)
              have hc1 := count_one HN2.out q (S[q]'(by omega))
              have hl1 := HLE.out _ hsm
              rw [hal] at hbl
              obtain ⟨d1, f1⟩ := s7.rowCell (S[q]'(by omega)) hbl hsm
              have s8 := s7.put (S[q]'(by omega)) (((S.take q).foldl bump l0)[S[q]'(by omega)]'(by omega) + 1)
              rw [bump_set _ _ (by omega), ← hstep] at s8
              rw [nth_lt (by omega)] at hbn
              clear hat3 e3 hstep s7
              generalize hy : ((S.take q).foldl bump l0)[S[q]'(by omega)]'(by omega) = y at *
              clear hy
              generalize S[q]'(by omega) = z at *
              have hy18 : y < 255 := by omega
              have H8 := Lib.hid s8
              clear s8 hbn hc1 hl1
              have hdq : decide ((q : Int) < (n : Int)) = true := by simp; omega
              go_wp2
              exact ⟨⟨q + 1, by omega, by go_num, H8.out⟩, by simp [intOf]; omega⟩
            · obtain rfl : q = n := by omega
              rw [← HSN.out] at s7
              have H7 := Lib.hid s7
              clear s7
              go_wp2
              exact ⟨⟨k + 1, by omega, by go_num, H7.out⟩, by simp [intOf]; omega⟩
        · obtain rfl : k = C.length := by omega
          rw [List.take_of_length_le (Nat.le_refl _), ← HA.out] at s6
          have hla : (lensAns xs (l : Int)).length = xs.length := by rw [HA.out, addsTo_length, List.length_replicate]
          have H6 := Lib.hid s6
          clear s6
          go_wp2
          go_ret2
          refine ⟨.slice (some ⟨g, 0, none⟩) xs.length xs.length, by rw [he]; rfl, ?_⟩
          have hf := HST.out.addRow (H6.out.below (Nat.le_refl _)) H6.out.rowFrom
          rw [hla]
          exact hf

end Go.Proofs.YtpcbhmkalofkmaaGreat.Limit
