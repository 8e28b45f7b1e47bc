/-
  The contract of pressworklaw10.best: how often symbols come up, and the best lengths for them. No conditions but that rows are small.
-/
import Derived.Test.YtpcbhmkalofkmaaGreatInfV
import Derived.Test.YtpcbhmkalofkmaaGreatInfH
import Derived.Test.YtpcbhmkalofkmaaGreatGL
import Derived.Test.YtpcbhmkalofkmaaGreatIntsA
namespace Go.Proofs.YtpcbhmkalofkmaaGreat.Inf
open Go.RowKit Kraft Hd Limit

theorem tickAll_app (F : List Nat) (a b : List Nat) : tickAll F (a ++ b) = tickAll (tickAll F a) b := by unfold tickAll; rw [List.foldl_append]
theorem litTo_next {l : List Tok.Tk} {k : Nat} {t : Tok.Tk} (h : l[k]? = some t) : litTo (l.take (k + 1)) = tick (litTo (l.take k)) (symA t) := by
  unfold litTo
  rw [List.take_add_one, h, List.map_append, tickAll_app]
  rfl
theorem disTo_byte {l : List Tok.Tk} {k : Nat} {t : Tok.Tk} (h : l[k]? = some t) (hb : Tok.isB t = true) : disTo (l.take (k + 1)) = disTo (l.take k) := by
  unfold disTo
  rw [List.take_add_one, h, List.filter_append]
  simp [hb]
theorem disTo_next {l : List Tok.Tk} {k : Nat} {t : Tok.Tk} (h : l[k]? = some t) (hb : Tok.isB t = false) : disTo (l.take (k + 1)) = tick (disTo (l.take k)) (Tok.disAns t.2.1).1 := by
  unfold disTo
  rw [List.take_add_one, h, List.filter_append, List.map_append, tickAll_app]
  simp [hb, tickAll]

theorem tickAll_bound : ∀ (is F : List Nat) (m : Nat), (∀ x ∈ F, x ≤ m) → ∀ x ∈ tickAll F is, x ≤ m + is.length
  | [], F, m, h => fun x hx => by have := h x hx; simpa using this
  | i :: is, F, m, h => fun x hx => by
    have h2 : ∀ y ∈ tick F i, y ≤ m + 1 := fun y hy => by
      unfold tick at hy
      rcases List.mem_or_eq_of_mem_set hy with g | g
      · have := h y g; omega
      · rw [g]
        have : nth F i ≤ m := by
          unfold nth
          rw [List.getD_eq_getElem?_getD]
          cases e : F[i]? with
          | none => simp
          | some z => exact h z (List.mem_of_getElem? e)
        omega
    have := tickAll_bound is (tick F i) (m + 1) h2 x hx
    rw [List.length_cons]
    omega
theorem litTo_bound (l : List Tok.Tk) : ∀ x ∈ litTo l, x ≤ 1 + l.length := fun x hx => by
  have := tickAll_bound (l.map symA) ((List.replicate 286 0).set 256 1) 1 (by decide +kernel) x hx
  rwa [List.length_map] at this
theorem disTo_bound (l : List Tok.Tk) : ∀ x ∈ disTo l, x ≤ l.length := fun x hx => by
  unfold disTo at hx
  have h := tickAll_bound ((l.filter fun t => !Tok.isB t).map fun t => (Tok.disAns t.2.1).1) (List.replicate 30 0) 0 (by decide +kernel) x hx
  rw [List.length_map] at h
  have := List.length_filter_le (fun t => !Tok.isB t) l
  omega

theorem pos_small (F : List Nat) : (pos F).length ≤ F.length := by unfold pos; exact List.length_filter_le _ _

section
variable {B : Nat} {w0 w : World} {r : List Thing}

set_option maxRecDepth 100000 in
set_option maxHeartbeats 4000000 in
theorem best_st (st : St B w0 w r) {v : Value} {l : List Tok.Tk} (h1 : ∀ W, St B w0 W r → Tok.TokRow W v l) (hl : l.length ≤ 1000) (hm : ∀ t ∈ l, Tok.may t = true) :
    Calls Tryz.prog 15 #[v] w fun e w' => ∃ u1 u2, e = .returned (.tuple #[u1, u2]) ∧ St B w0 w' (rowT 5 1 u1 286 (u8s (lengths (litTo l) (rare (litTo l)) 15)) :: rowT 5 1 u2 30 (u8s (lengths (disTo l) (rare (disTo l)) 15)) :: r) := by
  have hrow := h1
  obtain ⟨a, cap, rfl, hc, hmx, hnn, -⟩ := h1 w st
  clear h1
  obtain ⟨i0, hi, hz0, hz1, hz2⟩ := info_parts infoI
  have k1 : i0.bytes * 286 ≤ 281474976710656 := by rw [hz2]; omega
  have k2 : 286 ≤ maxLen := by unfold maxLen; omega
  have k1' : i0.bytes * 30 ≤ 281474976710656 := by rw [hz2]; omega
  have k2' : 30 ≤ maxLen := by unfold maxLen; omega
  go_enter Tryz.func15, Tryz.ntmps15
  go_wp2_with (at_make; refine wpList_make_full _ rfl _ _ 80 rfl w.heap.size 3 i0 (.int .i64 0) 1 Tryz.underlying80 hi hz0 hz1 _ _ _ _ 286 rfl rfl rfl rfl k1 k2 (Nat.le_refl _) ?_)
  intro w1 hown hgrow
  have s1 := st.madeNums hown hgrow
  clear hown hgrow k1 k2 st
  obtain ⟨g, hg⟩ : ∃ g, g = w.heap.size := ⟨_, rfl⟩
  rw [← hg] at s1
  try rw [← hg]
  clear hg
  go_wp2_with (at_make; refine wpList_make_full _ rfl _ _ 80 rfl w1.heap.size 3 i0 (.int .i64 0) 1 Tryz.underlying80 hi hz0 hz1 _ _ _ _ 30 rfl rfl rfl rfl k1' k2' (Nat.le_refl _) ?_)
  intro w2 hown hgrow
  have s2 := s1.madeNums hown hgrow
  clear hown hgrow hi hz0 hz1 hz2 k1' k2' s1
  obtain ⟨h, hh⟩ : ∃ h, h = w1.heap.size := ⟨_, rfl⟩
  rw [← hh] at s2
  try rw [← hh]
  clear hh
  have s3 := s2.swap
  clear s2
  obtain ⟨f0, f1⟩ := s3.numCell 256 (by simp) (by omega)
  have s4 := s3.putNum 256 1
  clear s3
  generalize (List.replicate 286 0)[256] = y0 at f0
  go_wp2
  clear f0 f1
  have e0 : (List.replicate 286 0).set 256 1 = litTo (l.take 0) := rfl
  have e1 : List.replicate 30 0 = disTo (l.take 0) := rfl
  rw [e0, e1] at s4
  clear e0 e1
  go_loopw [6, 7, 8, 9, 10, 11, 12, 13, 14] (fun iv _ _ _ _ _ _ _ _ wr => ∃ (k : Nat) (F G : List Nat), k ≤ l.length ∧ iv = .int .i64 (k : Int) ∧ Hid (litTo (l.take k) = F) ∧ Hid (disTo (l.take k) = G) ∧ St B w0 wr (numsT 3 g 286 F :: numsT 3 h 30 G :: r)) (fun iv _ _ _ _ _ _ _ _ _ => l.length - (intOf iv).toNat)
  case atStart => exact ⟨0, _, _, Nat.zero_le _, rfl, Lib.hid rfl, Lib.hid rfl, s4⟩
  case round =>
    clear s4
    obtain ⟨k, F, G, hk, rfl, hF, hG, s1⟩ := hrel
    have hFl : F.length = 286 := by rw [← hF.out, litTo_length]
    have hGl : G.length = 30 := by rw [← hG.out, disTo_length]
    have hFb : ∀ (i : Nat) (h : i < F.length), F[i] ≤ 2000 := fun i h => by
      have h9 := litTo_bound (l.take k) F[i] (by rw [hF.out]; exact List.getElem_mem h)
      rw [List.length_take] at h9
      omega
    have hGb : ∀ (i : Nat) (h : i < G.length), G[i] ≤ 2000 := fun i h => by
      have h9 := disTo_bound (l.take k) G[i] (by rw [hG.out]; exact List.getElem_mem h)
      rw [List.length_take] at h9
      omega
    by_cases hlt : k < l.length
    · obtain ⟨a', cap', e1, _, _, _, hat⟩ := hrow _ s1.drop.drop
      obtain ⟨rfl, -, rfl⟩ := Value.slice.inj e1
      obtain ⟨hin, b, off, rfl, c0, c1, c2⟩ := hat k hlt
      obtain ⟨tl, td, ty, hs⟩ : ∃ tl td ty, l[k] = (tl, td, ty) := ⟨_, _, _, rfl⟩
      rw [hs] at c0 c1 c2 hin
      have hmay : Tok.may (tl, td, ty) = true := by rw [← hs]; exact hm _ (List.getElem_mem hlt)
      obtain ⟨-, -, hty⟩ := hin
      simp only at c0 c1 c2 hty
      have hget : l[k]? = some (tl, td, ty) := by rw [List.getElem?_eq_getElem hlt, hs]
      clear hat e1 hm
      cases hisb : Tok.isB (tl, td, ty) with
      | true =>
        have hsy : symA (tl, td, ty) = ty := by unfold symA; rw [if_pos hisb]
        obtain ⟨rfl, rfl⟩ : tl = 0 ∧ td = 0 := by simpa [Tok.isB] using hisb
        have hFn := litTo_next hget
        rw [hsy, hF.out] at hFn
        have hGn := disTo_byte hget hisb
        rw [hG.out] at hGn
        have hti : tick F ty = F.set ty (F[ty]'(by omega) + 1) := by unfold tick; rw [nth_lt (by omega)]
        rw [hti] at hFn
        have hFv := hFb ty (by omega)
        obtain ⟨f0, f1⟩ := s1.numCell ty hFl (by omega)
        obtain ⟨x, hx⟩ : ∃ x, F[ty]'(by omega) = x := ⟨_, rfl⟩
        rw [hx] at f0 hFn hFv
        have s2 := s1.putNum ty (x + 1)
        have HFN := Lib.hid hFn
        have HGN := Lib.hid hGn
        clear hFn hGn hti hisb hmay hget hs hFb hGb hsy hx hrow
        go_wp2
        exact ⟨⟨k + 1, _, _, by omega, by go_num, HFN, HGN, s2⟩, by simp [intOf]; omega⟩
      | false =>
        obtain ⟨-, hr1, hr2, hr3, hr4⟩ : ty = 0 ∧ 3 ≤ tl ∧ tl ≤ 258 ∧ 1 ≤ td ∧ td ≤ 32768 := Tok.may_rep hmay hisb
        obtain ⟨d, rfl⟩ : ∃ d : Nat, td = (d : Int) := ⟨td.toNat, by omega⟩
        obtain ⟨n, rfl⟩ : ∃ n : Nat, tl = (n : Int) := ⟨tl.toNat, by omega⟩
        obtain ⟨i, hi, el, _, _⟩ := len_says n (by omega) (by omega)
        obtain ⟨j, hj, ed, _, _⟩ := dis_says d (by omega) (by omega)
        have hsy : symA ((n : Int), (d : Int), ty) = 257 + i := by unfold symA; rw [hisb]; simp only [Bool.false_eq_true, if_false, el]
        have hFn := litTo_next hget
        rw [hsy, hF.out] at hFn
        have hGn := disTo_next hget hisb
        rw [hG.out] at hGn
        simp only [ed] at hGn
        have hL := fun W => Tok.length_any W (n : Int) (by omega) (by omega)
        have hD := fun W => Tok.distance_any W (d : Int) (by omega) (by omega)
        rw [el] at hL
        rw [ed] at hD
        have HC0 : ∀ W, St B w0 W r → W.cell? ⟨b, off + k * 3 + 1, none⟩ = some (.int .i64 (d : Int)) := by
          intro W s
          obtain ⟨a2, cap2, e2, _, _, _, hat2⟩ := hrow W s
          obtain ⟨_, b2, off2, f2, _, g2, _⟩ := hat2 k hlt
          obtain ⟨rfl, -, -⟩ := Value.slice.inj e2
          obtain ⟨rfl, rfl⟩ : b = b2 ∧ off = off2 := by simpa using f2
          rw [hs] at g2
          exact g2
        obtain ⟨sl, hsl⟩ : ∃ sl, 257 + i = sl := ⟨_, rfl⟩
        rw [hsl] at hL hFn
        have hsl2 : sl ≤ 285 := by omega
        have hslF : sl < F.length := Nat.lt_of_le_of_lt hsl2 (by rw [hFl]; decide)
        have hjG : j < G.length := Nat.lt_of_le_of_lt hj (by rw [hGl]; decide)
        have hti : tick F sl = F.set sl (F[sl]'hslF + 1) := by unfold tick; rw [nth_lt (by omega)]
        rw [hti] at hFn
        have htj : tick G j = G.set j (G[j]'hjG + 1) := by unfold tick; rw [nth_lt (by omega)]
        rw [htj] at hGn
        have hFv := hFb sl (by omega)
        have hGv := hGb j (by omega)
        obtain ⟨x, hx⟩ : ∃ x, F[sl]'hslF = x := ⟨_, rfl⟩
        obtain ⟨y, hy⟩ : ∃ y, G[j]'hjG = y := ⟨_, rfl⟩
        rw [hx] at hFn hFv
        rw [hy] at hGn hGv
        have HFN := Lib.hid hFn
        have HGN := Lib.hid hGn
        have HC := Lib.hid HC0
        have HX := Lib.hid hx
        have HY := Lib.hid hy
        clear HC0 hFn hGn hti htj hisb hmay hget hs hFb hGb hsy hx hy hrow el ed c2
        unfold Tok.four at hL hD
        go_wp2_with fail
        refine (hL _).mono ?_
        rintro e w3 ⟨rfl, hb3⟩
        have s2 := s1.quiet hb3
        clear hL s1 hb3
        have d1 := HC.out w3 s2.drop.drop
        go_wp2_with fail
        refine (hD _).mono ?_
        rintro e w4 ⟨rfl, hb4⟩
        have s3 := s2.quiet hb4
        clear hD s2 hb4
        obtain ⟨f0, f1⟩ := s3.numCell sl hFl (by omega)
        rw [HX.out] at f0
        have s4 := s3.putNum sl (x + 1)
        rw [show ((x + 1 : Nat) : Int) = (x : Int) + 1 from by omega] at s4
        obtain ⟨f2, f3⟩ := s4.swap.numCell j hGl (by omega)
        rw [HY.out] at f2
        have s5 := (s4.swap.putNum j (y + 1)).swap
        clear s3 s4 HC HX HY
        go_wp2
        exact ⟨⟨k + 1, _, _, by omega, by go_num, HFN, HGN, s5⟩, by simp [intOf]; omega⟩
    · obtain rfl : k = l.length := by omega
      rw [List.take_length] at hF hG
      have hFi : ∀ x ∈ F.map (fun x : Nat => (x : Int)), 0 ≤ x ∧ x ≤ 1099511627776 := fun x hx => by
        obtain ⟨y, hy, rfl⟩ := List.mem_map.1 hx
        have h9 := litTo_bound l y (by rw [hF.out]; exact hy)
        omega
      have hGi : ∀ x ∈ G.map (fun x : Nat => (x : Int)), 0 ≤ x ∧ x ≤ 1099511627776 := fun x hx => by
        obtain ⟨y, hy, rfl⟩ := List.mem_map.1 hx
        have h9 := disTo_bound l y (by rw [hG.out]; exact hy)
        omega
      have hFm : (F.map (fun x : Nat => (x : Int))).map Int.toNat = F := by rw [List.map_map]; simp [Function.comp_def]
      have hGm : (G.map (fun x : Nat => (x : Int))).map Int.toNat = G := by rw [List.map_map]; simp [Function.comp_def]
      have hL1 := fun W r' (s : St B w0 W r') v (h : IntRow W v (F.map fun x : Nat => (x : Int))) => lengths_ok s v _ 15 h hFi (by rw [List.length_map]; omega) (by omega) (by rw [hFm]; have := pos_small F; omega)
      have hL2 := fun W r' (s : St B w0 W r') v (h : IntRow W v (G.map fun x : Nat => (x : Int))) => lengths_ok s v _ 15 h hGi (by rw [List.length_map]; omega) (by omega) (by rw [hGm]; have := pos_small G; omega)
      simp only [List.length_map, hFm, hFl] at hL1
      simp only [List.length_map, hGm, hGl] at hL2
      have n1 := (St.numRow (v := .slice (some ⟨g, 0, none⟩) 286 286) (xs := F) (by rw [hFl]; exact s1)).ints (fun x hx => by have h9 := litTo_bound l x (by rw [hF.out]; exact hx); omega)
      have hR : ∀ x ∈ G, x < 9223372036854775808 := fun x hx => by have h9 := disTo_bound l x (by rw [hG.out]; exact hx); omega
      have h1 := hL1 _ _ s1 _ n1
      clear n1 hL1 hFi hGi hFb hGb hFm hGm hrow
      rw [← hF.out] at h1
      rw [← hG.out] at hL2 hR
      obtain ⟨P, hP⟩ : ∃ P, lengths (litTo l) (rare (litTo l)) 15 = P := ⟨_, rfl⟩
      obtain ⟨Q, hQ⟩ : ∃ Q, lengths (disTo l) (rare (disTo l)) 15 = Q := ⟨_, rfl⟩
      rw [hP] at h1
      rw [hQ] at hL2
      have HP := Lib.hid hP
      have HQ := Lib.hid hQ
      clear hP hQ
      go_wp2_with fail
      refine h1.mono ?_
      rintro e w3 ⟨u1, rfl, s2⟩
      have n2 := (St.numRow (v := .slice (some ⟨h, 0, none⟩) 30 30) (xs := G) (by rw [hGl]; exact s2.drop.drop)).ints (by rw [← hG.out]; exact hR)
      rw [← hG.out] at n2
      have h2 := hL2 _ _ s2 _ n2
      clear h1 hL2 hR n2
      go_wp2_with fail
      refine h2.mono ?_
      rintro e w4 ⟨u2, rfl, s3⟩
      clear h2 s1 s2
      go_wp2
      go_ret2
      exact ⟨u1, u2, rfl, by rw [HP.out, HQ.out]; exact s3.third.drop.third.drop.swap⟩

end
end Go.Proofs.YtpcbhmkalofkmaaGreat.Inf
