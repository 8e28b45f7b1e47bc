/-
  Contract of pressworklaw09.lens: the best lengths for frequencies that are spread. No conditions but those of the calls.
-/
import Derived.Test.YtpkmojfjpnejdaaGreatHdB
import Derived.Test.YtpkmojfjpnejdaaGreatU16
import Derived.Test.YtpkmojfjpnejdaaGreatIntsA
import Derived.Test.YtpkmojfjpnejdaaGreatGL
namespace Go.Proofs.YtpkmojfjpnejdaaGreat.Hd
open Go.RowKit Kraft Limit

attribute [local go_sem] Oper.semAt_some

/-- What lens answers. -/
def LensSt (B : Nat) (w0 : World) (r : List Thing) (n : Nat) (e : Ending) (w' : World) : Prop :=
  ∃ (u : Value) (F E : List Nat), e = .returned u ∧ Choice F 15 E ∧ F.length = n ∧ (256 < n → 0 < nth F 256) ∧ (∀ x ∈ E, x < 256) ∧ St B w0 w' (rowT 5 1 u E.length (u8s E) :: r)

set_option maxRecDepth 100000 in
set_option maxHeartbeats 4000000 in
theorem lens_st {B : Nat} {w0 w : World} {r : List Thing} (st : St B w0 w r) (v : Value) (xs : List Nat) (h : ∀ W, St B w0 W r → U16Row W v xs) (hl : xs.length ≤ 300) (n : Nat) (hn1 : 1 ≤ n) (hn : n ≤ 300) :
    Calls Tryz.prog 22 #[v, .int .i64 (n : Int)] w (LensSt B w0 r n) := by
  obtain ⟨a, cap, rfl, hc, hnn, -⟩ := h w st
  have HX := Lib.hid h
  obtain ⟨i0, hi, hz0, hz1, hz2⟩ := info_parts infoI
  have hmk : i0.bytes * n ≤ 281474976710656 := by rw [hz2]; omega
  have hmx : n ≤ maxLen := by unfold maxLen; omega
  clear h
  go_enter Tryz.func22, Tryz.ntmps22
  go_wp2_with (at_make; refine wpList_make_full _ rfl _ _ 66 rfl w.heap.size 3 i0 (.int .i64 0) 1 Tryz.underlying66 hi hz0 hz1 _ _ _ _ n rfl rfl rfl rfl hmk hmx (Nat.le_refl _) ?_)
  intro w1 hown hgrow
  have s1 := st.madeNums hown hgrow
  clear hown hgrow hi hz0 hz1 hz2 hmk hmx st
  obtain ⟨g, hg⟩ : ∃ g, g = w.heap.size := ⟨_, rfl⟩
  rw [← hg] at s1
  try rw [← hg]
  clear hg
  go_wp2
  go_loopw [6] (fun iv wr => ∃ (k : Nat) (F : List Nat), k ≤ xs.length ∧ iv = .int .i64 (k : Int) ∧ Hid (F.length = n) ∧ Hid (∀ x ∈ F, x ≤ 65536 * k) ∧ St B w0 wr (numsT 3 g n F :: r)) (fun iv _ => xs.length - (intOf iv).toNat)
  case atStart => exact ⟨0, List.replicate n 0, Nat.zero_le _, rfl, Lib.hid (by simp), Lib.hid (fun x hx => by rw [List.eq_of_mem_replicate hx]; omega), s1⟩
  case round =>
    clear s1
    obtain ⟨k, F, hk, rfl, hF, hFb, s2⟩ := hrel
    by_cases hlt : k < xs.length
    · obtain ⟨a', cap', e1, _, _, hat⟩ := HX.out _ s2.drop
      obtain ⟨rfl, -, rfl⟩ := Value.slice.inj e1
      obtain ⟨hx, b, off, rfl, c0⟩ := hat k hlt
      clear e1 hat
      obtain ⟨j, hj, hjn⟩ : ∃ j, k * 7 % n = j ∧ j < n := ⟨_, rfl, Nat.mod_lt _ (by omega)⟩
      have hj2 : ((k : Int) * 7) % (n : Int) = (j : Int) := by rw [← hj]; simp
      have hj3 : ((k : Int) * 7).tmod (n : Int) = (j : Int) := by rw [Int.tmod_eq_emod_of_nonneg (by omega)]; exact hj2
      clear hj
      obtain ⟨f0, f1⟩ := s2.numCell j hF.out hjn
      have hFj : F[j]'(by rw [hF.out]; exact hjn) ≤ 65536 * k := hFb.out _ (List.getElem_mem _)
      have s3 := fun y => s2.putNum j y
      have hFb2 : ∀ y, y ≤ 65536 * (k + 1) → ∀ x ∈ F.set j y, x ≤ 65536 * (k + 1) := fun y hy x hx => by
        rcases List.mem_or_eq_of_mem_set hx with h | h
        · have := hFb.out x h; omega
        · omega
      have HFB := Lib.hid hFb2
      clear hFb2
      generalize F[j]'(by rw [hF.out]; exact hjn) = y at *
      generalize xs[k] = x at *
      have S3 := Lib.hid s3
      clear s3 hFb
      go_wp2
      go_region
      have hyx : (y : Int) + (x : Int) = ((y + x : Nat) : Int) := by omega
      have s4 := (S3.out (y + x)).drew
      rw [← hyx] at s4
      have hb2 := HFB.out (y + x) (by omega)
      have HB2 := Lib.hid hb2
      have HL2 := Lib.hid (show (F.set j (y + x)).length = n by rw [List.length_set]; exact hF.out)
      generalize F.set j (y + x) = F2 at *
      clear hyx S3 f0 f1 c0 hj2 hj3 hb2 HFB
      go_wp2
      exact ⟨⟨k + 1, F2, by omega, by go_num, HL2, HB2, s4⟩, by simp [intOf]; omega⟩
    · obtain rfl : k = xs.length := by omega
      have hfin : ∀ (F : List Nat), F.length = n → (256 < n → 0 < nth F 256) → (∀ x ∈ F, x ≤ 20000000) → ∀ W, St B w0 W (numsT 3 g n F :: r) → Calls Tryz.prog 44 #[.slice (some ⟨g, 0, none⟩) n n, .int .i64 15] W fun e w' =>
          ∃ u, e = .returned (.tuple #[u, .int .i64 0]) ∧ ∃ E, Choice F 15 E ∧ (∀ x ∈ E, x < 256) ∧ St B w0 w' (rowT 5 1 u E.length (u8s E) :: r) := by
        intro F hF h256 hb W s
        have hrow : NumRow W (.slice (some ⟨g, 0, none⟩) n n) F := by
          have h := s.row
          rw [← hF] at h ⊢
          exact numRow_owns h
        have hint := hrow.ints (fun x hx => by have := hb x hx; omega)
        have hmap : (F.map fun x : Nat => (x : Int)).map Int.toNat = F := by rw [List.map_map]; exact (List.map_congr_left (fun x _ => by simp)).trans (List.map_id F)
        have hpos : (pos F).length ≤ 2 ^ 15 := by
          have : (pos F).length ≤ F.length := List.length_filter_le _ _
          omega
        refine (lengths_ok s _ _ 15 hint (fun x hx => ?_) (by rw [List.length_map]; omega) (by omega) (by rw [hmap]; exact hpos)).mono ?_
        · obtain ⟨y, hy, rfl⟩ := List.mem_map.1 hx
          have := hb y hy
          omega
        · rintro e w' ⟨u, rfl, s'⟩
          rw [hmap, List.length_map] at s'
          have hr := rare_is F
          refine ⟨u, rfl, lengths F (rare F) 15, lengths_choice hr (by omega) (by rw [pos_perm_length hr]; exact hpos), lengths_bytes F _ 15 hr (by omega) hpos, ?_⟩
          rw [lengths_length]
          exact s'.swap.drop
      have HFIN := Lib.hid hfin
      clear hfin
      by_cases h256 : 256 < n
      · obtain ⟨f0, f1⟩ := s2.numCell 256 hF.out h256
        have s3 := fun y => s2.putNum 256 y
        have hy : F[256]'(by rw [hF.out]; exact h256) ≤ 65536 * xs.length := hFb.out _ (List.getElem_mem _)
        have h4 : ∀ y, 0 < y → y ≤ 20000000 → (F.set 256 y).length = n ∧ (256 < n → 0 < nth (F.set 256 y) 256) ∧ ∀ x ∈ F.set 256 y, x ≤ 20000000 := fun y h0 hy => by
          have hl2 := hF.out
          refine ⟨by rw [List.length_set]; exact hl2, fun _ => ?_, fun x hx => ?_⟩
          · rw [nth_lt (by rw [List.length_set]; omega), List.getElem_set_self]; exact h0
          · rcases List.mem_or_eq_of_mem_set hx with h | h
            · have := hFb.out x h; omega
            · omega
        have H4 := Lib.hid h4
        have S3 := Lib.hid s3
        generalize F[256]'(by rw [hF.out]; exact h256) = y at *
        clear h4 s3 hFb hF s2
        go_wp2_with fail
        have hyx : (y : Int) + 1 = ((y + 1 : Nat) : Int) := by omega
        have s4 := S3.out (y + 1)
        rw [← hyx] at s4
        obtain ⟨q1, q2, q3⟩ := H4.out (y + 1) (by omega) (by omega)
        have hcall := HFIN.out _ q1 q2 q3 _ s4
        have HQ := Lib.hid (And.intro q1 q2)
        generalize F.set 256 (y + 1) = F2 at *
        clear hyx H4 S3 f0 f1 q1 q2 q3 HFIN s4
        refine hcall.mono ?_
        rintro e w5 ⟨u, rfl, E, hE, hEb, s5⟩
        clear hcall
        go_wp2
        go_ret
        exact ⟨u, F2, E, rfl, hE, HQ.out.1, HQ.out.2, hEb, s5⟩
      · have hb : ∀ x ∈ F, x ≤ 20000000 := fun x hx => by have := hFb.out x hx; omega
        have hcall := HFIN.out F hF.out (fun h => absurd h h256) hb _ s2
        have HFL := hF
        clear hb hFb s2 HFIN
        go_wp2_with fail
        refine hcall.mono ?_
        rintro e w5 ⟨u, rfl, E, hE, hEb, s5⟩
        clear hcall
        go_wp2
        go_ret
        exact ⟨u, F, E, rfl, hE, HFL.out, fun h => absurd h h256, hEb, s5⟩

end Go.Proofs.YtpkmojfjpnejdaaGreat.Hd
