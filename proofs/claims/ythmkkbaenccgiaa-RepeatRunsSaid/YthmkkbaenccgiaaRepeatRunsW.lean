/-
  The walk of RepeatRuns. No conditions.
-/
import Derived.Test.YthmkkbaenccgiaaRepX
import Derived.Deep.Cut
namespace Go.Proofs.Ythmkkbaenccgiaa.repeatRuns
open Go.RowKit Rep

theorem back_err (L : List Nat) (hL : ∀ x ∈ L, x < 16) (n : Int) : unErr (pack L) n = (if (L.length : Int) = n then 0 else 2) ∧ unAns (pack L) n = if (L.length : Int) = n then L else [] :=
  unErr_end (fits_pack L.length L (Nat.le_refl _) hL) n L (say_back L hL)

theorem pack_ok (L : List Nat) (hL : ∀ x ∈ L, x < 16) : packErr L = 0 ∧ packOf L = pack L := by
  have e : (L.any fun x => decide (15 < x)) = false := by
    rw [List.any_eq_false]
    intro x hx
    have := hL x hx
    simp
    omega
  unfold packErr packOf
  rw [e]
  exact ⟨rfl, rfl⟩

theorem u16_wf {v : Int} (hv : (Lit.int .u16 v).wf = true) : ∃ x : Nat, v = (x : Int) ∧ x < 65536 := by
  simp only [Lit.wf, Bool.and_eq_true, decide_eq_true_eq] at hv
  have h1 : IntKind.u16.min = 0 := rfl
  have h2 : IntKind.u16.max = 65535 := rfl
  rw [h1, h2] at hv
  exact ⟨v.toNat, by omega, by omega⟩

theorem fill_next (i m z : Nat) (h : i < m) : (List.replicate i z ++ List.replicate (m - i) 0).set i z = List.replicate (i + 1) z ++ List.replicate (m - (i + 1)) 0 := by
  rw [List.set_append_right _ _ (by simp), List.length_replicate, Nat.sub_self, show m - i = (m - (i + 1)) + 1 from by omega, List.replicate_succ, List.set_cons_zero, List.replicate_succ', List.append_assoc]
  rfl

set_option maxRecDepth 100000 in
set_option maxHeartbeats 4000000 in
theorem walk (w : World) (ka : Int) (hka : (Lit.int .u8 ka).wf = true) (na : Int) (hna : (Lit.int .u16 na).wf = true) :
    Calls Try.prog 6 #[.int .u8 ka, .int .u16 na] w fun e w' => e = .returned (.bool true) ∧ Below w.heap.size w w' := by
  obtain ⟨k, rfl, hk⟩ := byte_wf hka
  obtain ⟨n, rfl, hn⟩ := u16_wf hna
  clear hka hna
  obtain ⟨i0, hi, hz0, hz1, hz2⟩ := info_parts info8
  obtain ⟨m, hm⟩ : ∃ m, n % 5001 = m := ⟨_, rfl⟩
  have hmi : (n : Int) % 5001 = (m : Int) := by omega
  have hm5 : m ≤ 5000 := by omega
  obtain ⟨z, hz⟩ : ∃ z, k % 16 = z := ⟨_, rfl⟩
  have hzi : (k : Int) % 16 = (z : Int) := by omega
  have hz16 : z < 16 := by omega
  have hmk : i0.bytes * m ≤ 281474976710656 := by rw [hz2]; omega
  have hmx : m ≤ maxLen := by unfold maxLen; omega
  clear hm hz
  go_enter Try.func6, Try.ntmps6
  go_wp2_with (at_make; refine wpList_make_full _ rfl _ _ 22 rfl w.heap.size 5 i0 (.int .u8 0) 1 Try.underlying22 hi hz0 hz1 _ _ _ _ m rfl rfl hmi hmi hmk hmx (Nat.le_refl _) ?_)
  intro w1 hown hgrow
  have s1 := (St.start w).made hown hgrow
  clear hown hgrow
  obtain ⟨g, hg⟩ : ∃ g, g = w.heap.size := ⟨_, rfl⟩
  rw [show bytesT w.heap.size m (List.replicate m 0) = bytesT g m (List.replicate m 0) from by rw [hg]] at s1
  rw [← hg]
  clear hg
  clear hmi
  have s2 : St w.heap.size w w1 [bytesT g m (List.replicate 0 z ++ List.replicate (m - 0) 0)] := by simpa using s1
  clear s1
  go_wp2
  go_loopw [7] (fun iv wr => ∃ i : Nat, i ≤ m ∧ iv = .int .i64 (i : Int) ∧ Hid (St w.heap.size w wr [bytesT g m (List.replicate i z ++ List.replicate (m - i) 0)])) (fun iv _ => m - (intOf iv).toNat)
  case atStart => exact ⟨0, Nat.zero_le _, rfl, Lib.hid s2⟩
  case round =>
    clear s2
    obtain ⟨i, him, rfl, s3⟩ := hrel
    by_cases hlt : i < m
    · have hc := (s3.out.rowCell i (by simp; omega) hlt).1
      have hf := (s3.out.rowCell i (by simp; omega) hlt).2
      have s4 := s3.out.put i z
      rw [fill_next i m z hlt] at s4
      have HS4 := Lib.hid s4
      clear s4
      go_wp2
      go_roundw
      case rel => exact ⟨i + 1, by omega, by go_num, HS4⟩
      case measure => simp [intOf]; omega
    · obtain rfl : i = m := by omega
      have s4 := s3.out
      rw [Nat.sub_self, show List.replicate 0 0 = ([] : List Nat) from rfl, List.append_nil] at s4
      have hlen : (List.replicate i z).length = i := List.length_replicate
      have hL16 : ∀ x ∈ List.replicate i z, x < 16 := fun x hx => by rw [(List.mem_replicate.1 hx).2]; exact hz16
      have hone := pack_one z i
      obtain ⟨L, hL⟩ : ∃ L, List.replicate i z = L := ⟨_, rfl⟩
      rw [hL] at s4 hL16 hone hlen
      have HLEN := Lib.hid hlen
      have s5 : St w.heap.size w wr [rowT 5 1 (.slice (some ⟨g, 0, none⟩) i i) L.length (u8s L)] := by rw [hlen]; exact s4
      have hrow : ByteRow wr (.slice (some ⟨g, 0, none⟩) i i) L := s5.bytesRow (fun x hx => by have := hL16 x hx; omega)
      have hp := pack_st s5 (.slice (some ⟨g, 0, none⟩) i i) L hrow (by omega)
      rw [(pack_ok L hL16).1, (pack_ok L hL16).2] at hp
      have hsm : Small (pack L) := by rw [← (pack_ok L hL16).2]; exact packOf_small L
      have HE := Lib.hid (back_err L hL16)
      clear s3 s4 hL hlen hL16 hrow
      generalize pack L = S at *
      have hi138 : (i : Int) / 138 = ((i / 138 : Nat) : Int) := by omega
      have hi6 : (i : Int) / 6 = ((i / 6 : Nat) : Int) := by omega
      obtain ⟨q138, hq138⟩ : ∃ q, i / 138 = q := ⟨_, rfl⟩
      obtain ⟨q6, hq6⟩ : ∃ q, i / 6 = q := ⟨_, rfl⟩
      rw [hq138] at hi138 hone
      rw [hq6] at hi6 hone
      have hqb : q138 ≤ 5000 ∧ q6 ≤ 5000 := by omega
      obtain ⟨hqb1, hqb2⟩ := hqb
      clear hq138 hq6
      go_wp2_with fail
      refine hp.mono ?_
      rintro e w2 ⟨v2, rfl, s6⟩
      obtain ⟨va, vc, rfl⟩ := ownsRow_slice s6.row
      have hSb : S.length ≤ 6000 := by split at hone <;> omega
      have hu := unpack_st s6 (.slice va S.length vc) S (fun W sW => sW.signs hsm) (by omega) (i : Int) (by omega) (by omega)
      unfold UnpackSt at hu
      have hli : (L.length : Int) = (i : Int) := by rw [HLEN.out]
      rw [(HE.out _).1, (HE.out _).2, if_pos hli, if_pos hli] at hu
      clear hli s5 hp
      by_cases hz0' : z = 0
      case' pos =>
        rw [if_pos hz0'] at hone
        have hd : ¬ 0 < z := by omega
        have hm1 : S.length ≤ q138 + 2 := hone
      case' neg =>
        rw [if_neg hz0'] at hone
        have hd : 0 < z := by omega
        have hm1 : S.length ≤ q6 + 3 := hone
      all_goals
        clear hz0'
        go_wp2_with fail
        refine hu.mono ?_
        rintro e w3 ⟨v3, rfl, s7⟩
        have hs1 := s7.string
        have hs2 := s7.third.string
        have hbw := s7.below (Nat.le_refl _)
        obtain ⟨sL, hsL⟩ : ∃ sL, strOf L = sL := ⟨_, rfl⟩
        rw [hsL] at hs1 hs2
        clear hsL s6 s7 hu
        go_wp2_with fail
        refine (packs_any _).mono ?_
        rintro e w4 ⟨rfl, hb4⟩
        go_wp2
        go_ret
        exact ⟨rfl, hbw.trans (hb4.mono hbw.size)⟩

end Go.Proofs.Ythmkkbaenccgiaa.repeatRuns
