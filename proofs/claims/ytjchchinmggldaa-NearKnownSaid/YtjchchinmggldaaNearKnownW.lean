/-
  The examples; none; rising, falling and like rows: the walk of NearKnown. No conditions.
-/
import Derived.Test.YtjchchinmggldaaNearG
namespace Go.Proofs.Ytjchchinmggldaa.nearKnown
open Go.RowKit Go.Proofs.Ytjchchinmggldaa.Suf Go.Proofs.Ytjchchinmggldaa.Near

def ups (n : Nat) : List Int := (List.range n).map fun i : Nat => (i : Int)
def downs (n : Nat) : List Int := (List.range n).map fun i : Nat => -(i : Int)
def sames (n : Nat) : List Int := (List.range n).map fun _ : Nat => (7 : Int)
theorem ups_succ (n : Nat) : ups (n + 1) = ups n ++ [(n : Int)] := by simp [ups, List.range_succ]
theorem downs_succ (n : Nat) : downs (n + 1) = downs n ++ [-(n : Int)] := by simp [downs, List.range_succ]
theorem sames_succ (n : Nat) : sames (n + 1) = sames n ++ [7] := by simp [sames, List.range_succ]
theorem ups_length (n : Nat) : (ups n).length = n := by simp [ups]
theorem downs_length (n : Nat) : (downs n).length = n := by simp [downs]
theorem sames_length (n : Nat) : (sames n).length = n := by simp [sames]
theorem ups_at {n i : Nat} (h : i < n) : nthI (ups n) i = (i : Int) := by rw [nthI_lt (by rw [ups_length]; exact h)]; simp [ups]
theorem downs_at {n i : Nat} (h : i < n) : nthI (downs n) i = -(i : Int) := by rw [nthI_lt (by rw [downs_length]; exact h)]; simp [downs]
theorem sames_at {n i : Nat} (h : i < n) : nthI (sames n) i = 7 := by rw [nthI_lt (by rw [sames_length]; exact h)]; simp [sames]

theorem ah_ups {n i : Nat} (h : i < n) : ahOf (ups n) i = (i : Int) - 1 :=
  (ahOf_is (ups n) i).one ⟨by omega, by omega, fun j hj => by rw [ups_at (show j < n by omega), ups_at h]; omega, fun j h1 h2 => by omega⟩
theorem be_ups {n i : Nat} (h : i < n) : beOf (ups n) i = n :=
  (beOf_is (ups n) i (by rw [ups_length]; exact h)).one ⟨h, by rw [ups_length]; exact Nat.le_refl _, fun h2 => by rw [ups_length] at h2; omega, fun j h1 h2 => by rw [ups_at h2, ups_at h]; omega⟩
theorem ah_downs {n i : Nat} (h : i < n) : ahOf (downs n) i = -1 :=
  (ahOf_is (downs n) i).one ⟨by omega, by omega, fun j hj => by omega, fun j h1 h2 => by rw [downs_at (show j < n by omega), downs_at h]; omega⟩
theorem be_downs {n i : Nat} (h : i < n) : beOf (downs n) i = i + 1 :=
  (beOf_is (downs n) i (by rw [downs_length]; exact h)).one ⟨by omega, by rw [downs_length]; omega, fun h2 => by rw [downs_length] at h2; rw [downs_at h2, downs_at h]; omega, fun j h1 h2 => by omega⟩
theorem ah_sames {n i : Nat} (h : i < n) : ahOf (sames n) i = -1 :=
  (ahOf_is (sames n) i).one ⟨by omega, by omega, fun j hj => by omega, fun j h1 h2 => by rw [sames_at (show j < n by omega), sames_at h]; omega⟩
theorem be_sames {n i : Nat} (h : i < n) : beOf (sames n) i = n :=
  (beOf_is (sames n) i (by rw [sames_length]; exact h)).one ⟨h, by rw [sames_length]; exact Nat.le_refl _, fun h2 => by rw [sames_length] at h2; omega, fun j h1 h2 => by rw [sames_at h2, sames_at h]; omega⟩

theorem ups_small {n : Nat} (h : n ≤ 1000) : ∀ x ∈ ups n, -9223372036854775808 ≤ x ∧ x ≤ 9223372036854775807 := fun x hx => by
  simp only [ups, List.mem_map, List.mem_range] at hx
  obtain ⟨i, hi, rfl⟩ := hx
  omega
theorem downs_small {n : Nat} (h : n ≤ 1000) : ∀ x ∈ downs n, -9223372036854775808 ≤ x ∧ x ≤ 9223372036854775807 := fun x hx => by
  simp only [downs, List.mem_map, List.mem_range] at hx
  obtain ⟨i, hi, rfl⟩ := hx
  omega
theorem sames_small {n : Nat} : ∀ x ∈ sames n, -9223372036854775808 ≤ x ∧ x ≤ 9223372036854775807 := fun x hx => by
  simp only [sames, List.mem_map, List.mem_range] at hx
  obtain ⟨i, hi, rfl⟩ := hx
  omega

theorem nilRow (W : World) : IntRow W (.slice none 0 0) [] := ⟨none, 0, rfl, Nat.le_refl _, fun _ => rfl, fun i hi => absurd hi (by simp)⟩

set_option maxRecDepth 100000 in
set_option maxHeartbeats 8000000 in
theorem walk (w : World) :
    Calls Try.prog 7 #[] w fun e w' => e = .returned (.bool true) ∧ Below w.heap.size w w' := by
  have s0 := (((St.start w).addNil (e := 3) (size := 1)).addNil (e := 3) (size := 1)).addNil (e := 3) (size := 1)
  go_enter Try.func7, Try.ntmps7
  go_wp2
  go_loopw [1, 2, 3, 4] (fun uv dv sv iv wr => ∃ k : Nat, k ≤ 300 ∧ iv = .int .i64 (k : Int) ∧ St w.heap.size w wr [rowT 3 1 uv k (iVals (ups k)), rowT 3 1 dv k (iVals (downs k)), rowT 3 1 sv k (iVals (sames k))]) (fun _ _ _ iv _ => 300 - (intOf iv).toNat)
  case atStart => exact ⟨0, by omega, rfl, s0⟩
  case round =>
    clear s0
    obtain ⟨k, hk, rfl, s1⟩ := hrel
    by_cases hlt : k < 300
    · go_wp2_with (at_builtin; refine wpList_append_int rfl _ _ rfl (k : Int) s1 rfl rfl (by omega) ?_)
      intro u1 w1 s2
      rw [← ups_succ] at s2
      clear s1
      go_wp2_with (at_builtin; refine wpList_append_int rfl _ _ rfl (-(k : Int)) s2.swap rfl rfl (by omega) ?_)
      intro u2 w2 s3
      rw [← downs_succ] at s3
      clear s2
      go_wp2_with (at_builtin; refine wpList_append_int rfl _ _ rfl 7 s3.third rfl rfl (by omega) ?_)
      intro u3 w3 s4
      rw [← sames_succ] at s4
      have s6 : St w.heap.size w w3 [rowT 3 1 u1 (k + 1) (iVals (ups (k + 1))), rowT 3 1 u2 (k + 1) (iVals (downs (k + 1))), rowT 3 1 u3 (k + 1) (iVals (sames (k + 1)))] := (s4.front 1).front 2
      clear s3 s4
      go_wp2
      exact ⟨⟨k + 1, by omega, by go_num, s6⟩, by simp [intOf]; omega⟩
    · obtain rfl : k = 300 := by omega
      obtain ⟨ua, uc, rfl⟩ : ∃ a c, u1 = .slice a 300 c := ownsRow_slice s1.row
      obtain ⟨da, dc, rfl⟩ : ∃ a c, u2 = .slice a 300 c := ownsRow_slice s1.drop.row
      obtain ⟨sa, sc, rfl⟩ : ∃ a c, u3 = .slice a 300 c := ownsRow_slice s1.drop.drop.row
      go_wp2_with fail
      refine (ahead_st s1 (.slice ua 300 uc) (ups 300) (fun W t => intRow_of t.row (ups_length 300) (ups_small (by omega))) (by rw [ups_length]; omega)).mono ?_
      rintro e y2 ⟨v2, rfl, s2⟩
      rw [ups_length] at s2
      obtain ⟨p2, q2, rfl⟩ : ∃ a c, v2 = .slice a 300 c := ownsRow_slice s2.row
      clear s1
      go_wp2_with fail
      refine (behind_st s2 (.slice ua 300 uc) (ups 300) (fun W t => intRow_of t.drop.row (ups_length 300) (ups_small (by omega))) (by rw [ups_length]; omega)).mono ?_
      rintro e y3 ⟨v3, rfl, s3⟩
      rw [ups_length] at s3
      obtain ⟨p3, q3, rfl⟩ : ∃ a c, v3 = .slice a 300 c := ownsRow_slice s3.row
      clear s2
      go_wp2_with fail
      refine (ahead_st s3 (.slice da 300 dc) (downs 300) (fun W t => intRow_of t.drop.drop.drop.row (downs_length 300) (downs_small (by omega))) (by rw [downs_length]; omega)).mono ?_
      rintro e y4 ⟨v4, rfl, s4⟩
      rw [downs_length] at s4
      obtain ⟨p4, q4, rfl⟩ : ∃ a c, v4 = .slice a 300 c := ownsRow_slice s4.row
      clear s3
      go_wp2_with fail
      refine (behind_st s4 (.slice da 300 dc) (downs 300) (fun W t => intRow_of t.drop.drop.drop.drop.row (downs_length 300) (downs_small (by omega))) (by rw [downs_length]; omega)).mono ?_
      rintro e y5 ⟨v5, rfl, s5⟩
      rw [downs_length] at s5
      obtain ⟨p5, q5, rfl⟩ : ∃ a c, v5 = .slice a 300 c := ownsRow_slice s5.row
      clear s4
      go_wp2_with fail
      refine (ahead_st s5 (.slice sa 300 sc) (sames 300) (fun W t => intRow_of t.drop.drop.drop.drop.drop.drop.row (sames_length 300) (sames_small)) (by rw [sames_length]; omega)).mono ?_
      rintro e y6 ⟨v6, rfl, s6⟩
      rw [sames_length] at s6
      obtain ⟨p6, q6, rfl⟩ : ∃ a c, v6 = .slice a 300 c := ownsRow_slice s6.row
      clear s5
      go_wp2_with fail
      refine (behind_st s6 (.slice sa 300 sc) (sames 300) (fun W t => intRow_of t.drop.drop.drop.drop.drop.drop.drop.row (sames_length 300) (sames_small)) (by rw [sames_length]; omega)).mono ?_
      rintro e y7 ⟨v7, rfl, s7⟩
      rw [sames_length] at s7
      obtain ⟨p7, q7, rfl⟩ : ∃ a c, v7 = .slice a 300 c := ownsRow_slice s7.row
      clear s6
      have s8 : St w.heap.size w y7 [rowT 3 1 (.slice p7 300 q7) 300 (iVals (behs (sames 300))), rowT 3 1 (.slice p6 300 q6) 300 (iVals (aheads (sames 300))), rowT 3 1 (.slice p5 300 q5) 300 (iVals (behs (downs 300))), rowT 3 1 (.slice p4 300 q4) 300 (iVals (aheads (downs 300))), rowT 3 1 (.slice p3 300 q3) 300 (iVals (behs (ups 300))), rowT 3 1 (.slice p2 300 q2) 300 (iVals (aheads (ups 300))), rowT 3 1 (.slice ua 300 uc) 300 (iVals (ups 300)), rowT 3 1 (.slice da 300 dc) 300 (iVals (downs 300)), rowT 3 1 (.slice sa 300 sc) 300 (iVals (sames 300))] := s7
      have hf := (beCells (sames_length 300) (by omega) s8).2
      have he := (ahCells (sames_length 300) (by omega) s8.drop).2
      have hd := (beCells (downs_length 300) (by omega) s8.drop.drop).2
      have hc := (ahCells (downs_length 300) (by omega) s8.drop.drop.drop).2
      have hb := (beCells (ups_length 300) (by omega) s8.drop.drop.drop.drop).2
      have ha := (ahCells (ups_length 300) (by omega) s8.drop.drop.drop.drop.drop).2
      have HC := Lib.hid (And.intro ha (And.intro hb (And.intro hc (And.intro hd (And.intro he hf)))))
      have hlow := s8.below (Nat.le_refl _)
      have sN := s8.drop.drop.drop.drop.drop.drop.drop.drop.drop
      clear ha hb hc hd he hf s7 s8
      go_wp2
      go_loopw [11] (fun iv wi => ∃ k : Nat, k ≤ 300 ∧ iv = .int .i64 (k : Int) ∧ wi = y7) (fun iv _ => 300 - (intOf iv).toNat)
      case atStart => exact ⟨0, by omega, rfl, rfl⟩
      case round =>
        obtain ⟨k, hk, rfl, rfl⟩ := hrel
        by_cases hlt : k < 300
        · have hIk : (k : Int) < 300 := by omega
          obtain ⟨ba, oa, rfl, za⟩ := HC.out.1 k hlt
          obtain ⟨bb, ob, rfl, zb⟩ := HC.out.2.1 k hlt
          obtain ⟨bc, oc, rfl, zc⟩ := HC.out.2.2.1 k hlt
          obtain ⟨bd, od, rfl, zd⟩ := HC.out.2.2.2.1 k hlt
          obtain ⟨be, oe, rfl, ze⟩ := HC.out.2.2.2.2.1 k hlt
          obtain ⟨bf, of, rfl, zf⟩ := HC.out.2.2.2.2.2 k hlt
          rw [ah_ups hlt] at za
          rw [be_ups hlt] at zb
          rw [ah_downs hlt] at zc
          rw [be_downs hlt] at zd
          rw [ah_sames hlt] at ze
          rw [be_sames hlt] at zf
          go_wp2
          exact ⟨⟨k + 1, by omega, by go_num, trivial⟩, by simp [intOf]; omega⟩
        · obtain rfl : k = 300 := by omega
          clear HC
          go_wp2_with fail
          refine (ahead_st sN (.slice none 0 0) [] (fun W _ => nilRow W) (by simp)).mono ?_
          rintro e t1 ⟨g1, rfl, j1⟩
          obtain ⟨ga, gc, rfl⟩ : ∃ a c, g1 = .slice a 0 c := ownsRow_slice j1.row
          go_wp2_with fail
          refine (behind_st j1 (.slice none 0 0) [] (fun W _ => nilRow W) (by simp)).mono ?_
          rintro e t2 ⟨g2, rfl, j2⟩
          obtain ⟨gb, gd, rfl⟩ : ∃ a c, g2 = .slice a 0 c := ownsRow_slice j2.row
          have hb := j2.below (Nat.le_refl _)
          clear j1 j2
          go_wp2_with fail
          refine (finds_any _).mono ?_
          rintro e w11 ⟨rfl, b2⟩
          go_wp2_with fail
          go_ret
          exact ⟨rfl, hb.trans (b2.mono hb.size)⟩

end Go.Proofs.Ytjchchinmggldaa.nearKnown
