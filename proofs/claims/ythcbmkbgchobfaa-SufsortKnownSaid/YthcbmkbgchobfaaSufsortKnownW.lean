/-
  The chapter's examples; few bytes; all alike: the walk of SufsortKnown (written by wip/gen_sufknown.py). No conditions.
-/
import Derived.Test.YthcbmkbgchobfaaSufM
namespace Go.Proofs.Ythcbmkbgchobfaa.sufsortKnown
open Go.RowKit Go.Proofs.Ythcbmkbgchobfaa.Suf

theorem zeros_ends (n : Nat) (Z : List Nat) (hl : Z.length = n) (hz : ∀ x ∈ Z, x = 0) : Whole n (Ahead false Z) (tab n fun i => n - 1 - i) := by
  have hv : ∀ p j, val false Z p j = if p + j < n then 1 else 0 := fun p j => by
    simp only [val, Bool.false_eq_true, if_false, hl]
    split
    · rename_i h
      rw [List.getD_eq_getElem?_getD, List.getElem?_eq_getElem (by omega), Option.getD_some, hz _ (List.getElem_mem _)]
    · rfl
  refine ⟨tab_length .., fun x hx => ?_, List.pairwise_iff_getElem.2 fun i j hi hj hij => ?_⟩
  · obtain ⟨i, hi, rfl⟩ := List.mem_iff_getElem.1 hx
    rw [tab_get]
    rw [tab_length] at hi
    omega
  · rw [tab_length] at hi hj
    rw [tab_get, tab_get]
    refine .inl ⟨i + 1, by omega, fun k hk => ?_, ?_⟩
    · rw [hv, hv, if_pos (by omega), if_pos (by omega)]
    · rw [hv, hv, if_neg (by omega), if_pos (by omega)]; omega

theorem zeros_rots (n : Nat) (Z : List Nat) (hl : Z.length = n) (hz : ∀ x ∈ Z, x = 0) : Whole n (Ahead true Z) (tab n fun i => i) := by
  have hv : ∀ p j, p < n → val true Z p j = 1 := fun p j h => by
    simp only [val, if_true, hl]
    rw [if_pos h, List.getD_eq_getElem?_getD, List.getElem?_eq_getElem (by rw [hl]; exact Nat.mod_lt _ (by omega)), Option.getD_some, hz _ (List.getElem_mem _)]
  refine ⟨tab_length .., fun x hx => ?_, List.pairwise_iff_getElem.2 fun i j hi hj hij => ?_⟩
  · obtain ⟨i, hi, rfl⟩ := List.mem_iff_getElem.1 hx
    rw [tab_get]
    rw [tab_length] at hi
    exact hi
  · rw [tab_length] at hi hj
    rw [tab_get, tab_get]
    exact .inr ⟨fun k _ => by rw [hv _ _ hi, hv _ _ hj], hij⟩

theorem seven_ends : wholeB false [7] [0] = true := by decide +kernel
theorem seven_rots : wholeB true [7] [0] = true := by decide +kernel
theorem four_ends : wholeB false [255, 0, 255, 0] [3, 1, 2, 0] = true := by decide +kernel
theorem none_zeros (J : List Nat) : ¬ Inv [0, 0] J := no_inv_twice (p := 0) (q := 1) (x := 0) rfl rfl (by decide) J
theorem none_two (J : List Nat) : ¬ Inv [1, 2] J := no_inv_out (k := 1) (x := 2) rfl (.inr (by decide)) J
theorem none_less (J : List Nat) : ¬ Inv [-1] J := no_inv_out (k := 0) (x := -1) rfl (.inl (by decide)) J

theorem litInts {B : Nat} {w0 w : World} {r : List Thing} (st : St B w0 w r) (xs : List Int) (hl : xs.length ≤ 1000) :
    St B w0 (w.alloc (.cells (iVals xs).toArray 3)) (intsT w.heap.size xs.length xs :: r) := by
  have h := World.ownsRow_lit (base := w.heap.size) (e := 3) (size := 1) w (iVals xs).toArray xs.length (Nat.le_refl _) (by unfold maxLen; omega) (by simp [iVals])
  exact st.addRow (below_alloc w _) (by simpa using h)

set_option maxRecDepth 100000 in
set_option maxHeartbeats 16000000 in
theorem walk (w : World) : Calls Try.prog 8 #[] w fun e w' => e = .returned (.bool true) ∧ Below w.heap.size w w' := by
  have hcv := run_convert_lit
  obtain ⟨i0, hi, hz0, hz1, hz2⟩ := info_parts info8
  have hmk : i0.bytes * 600 ≤ 281474976710656 := by rw [hz2]; omega
  have hmx : 600 ≤ maxLen := by unfold maxLen; omega
  go_enter Try.func8, Try.ntmps8
  go_wp2_with (at_make; refine wpList_make_full _ rfl _ _ 22 rfl w.heap.size 5 i0 (.int .u8 0) 1 Try.underlying22 hi hz0 hz1 _ _ _ _ 600 rfl rfl rfl rfl hmk hmx (Nat.le_refl _) ?_)
  intro w1 hown hg
  have s1 := (St.start w).made hown hg
  obtain ⟨Z, hZ⟩ : ∃ Z, List.replicate 600 (0 : Nat) = Z := ⟨_, rfl⟩
  rw [hZ] at s1
  have hZl : Z.length = 600 := by rw [← hZ, List.length_replicate]
  have hZz : ∀ x ∈ Z, x = 0 := fun x hx => by rw [← hZ] at hx; exact (List.mem_replicate.1 hx).2
  have hwe := zeros_ends 600 Z hZl hZz
  have hwr := zeros_rots 600 Z hZl hZz
  have hz256 : ∀ x ∈ Z, x < 256 := fun x hx => by rw [hZz x hx]; omega
  clear hown hg hi hz0 hz1 hz2 hmk hmx hZ
  have he := ends_st s1 (.slice (some ⟨w.heap.size, 0, none⟩) 600 600) Z (fun W t => byteRow_own t hZl hz256) (by omega)
  have hr := fun W g1 O (t : St w.heap.size w W (numsT 3 g1 600 O :: bytesT w.heap.size 600 Z :: [])) => rots_st t (.slice (some ⟨w.heap.size, 0, none⟩) 600 600) Z (fun W t => byteRow_own t.drop hZl hz256) (by omega)
  go_wp2_with fail
  refine he.mono ?_
  rintro e w2 ⟨O, hO, g1, rfl, s2⟩
  rw [hZl] at hO
  obtain rfl := Whole.one (fun _ _ h h' => h.asymm h') hO hwe
  rw [tab_length] at s2 ⊢
  have hr2 := hr w2 g1 _ s2
  clear he hr s1 s2
  go_wp2_with fail
  refine hr2.mono ?_
  rintro e w3 ⟨R, hR, g2, rfl, s3⟩
  rw [hZl] at hR
  obtain rfl := Whole.one (fun _ _ h h' => h.asymm h') hR hwr
  rw [tab_length] at s3 ⊢
  clear hr2 hwe hwr hZz hz256 hZl
  go_wp2_with fail
  go_loopw [4] (fun i wr => ∃ k : Nat, k ≤ 600 ∧ i = .int .i64 (k : Int) ∧ wr = w3) (fun i _ => 600 - (intOf i).toNat)
  case atStart => exact ⟨0, by omega, rfl, rfl⟩
  case round =>
    obtain ⟨k, hk, rfl, rfl⟩ := hrel
    by_cases hlt : k < 600
    · have c0 := (s3.numCell k (tab_length ..) hlt).1
      have c1 := (s3.swap.numCell k (tab_length ..) hlt).1
      rw [tab_get] at c0 c1
      have hkI : (k : Int) < 600 := by omega
      obtain ⟨y, hy⟩ : ∃ y : Nat, 600 - 1 - k = y := ⟨_, rfl⟩
      rw [hy] at c1
      have hyk : (599 : Int) - (k : Int) = (y : Int) := by omega
      have d1 : decide ((y : Int) = (y : Int)) = true := by simp
      clear s3 hy
      go_wp2
      go_roundw
      case rel => exact ⟨k + 1, by omega, by go_num, trivial⟩
      case measure => simp [intOf]; omega
    · have b := s3.below (Nat.le_refl _)
      clear s3 hO hR
      have hnone : ∀ W, ByteRow W (.slice none 0 0) [] := byteRow_none
      have hnn : ∀ W, IntRow W (.slice none 0 0) [] := fun W => ⟨none, 0, rfl, Nat.le_refl _, fun _ => rfl, fun i hi => absurd hi (by simp)⟩
      go_wp2_with fail
      refine (ends_st (St.start wr) _ [] (fun W _ => hnone W) (by decide)).mono ?_
      rintro e x1 ⟨O, hO, g, rfl, s2⟩
      obtain rfl : O = [] := List.eq_nil_of_length_eq_zero hO.len
      replace b := b.trans ((s2.below (Nat.le_refl _)).mono b.size)
      clear s2 hO
      go_wp2_with fail
      refine (rots_st (St.start x1) _ [] (fun W _ => hnone W) (by decide)).mono ?_
      rintro e x2 ⟨O, hO, g, rfl, s2⟩
      obtain rfl : O = [] := List.eq_nil_of_length_eq_zero hO.len
      replace b := b.trans ((s2.below (Nat.le_refl _)).mono b.size)
      clear s2 hO
      go_wp2_with fail
      refine (places_st (St.start x2) _ [] (fun W _ => hnn W) (by decide)).mono ?_
      rintro e x3 (⟨J, hJ, g, rfl, s2⟩ | ⟨hno, _⟩)
      rotate_left
      · exact absurd (⟨rfl, fun i h => absurd h (by simp)⟩ : Inv [] []) (hno _)
      obtain rfl : J = [] := List.eq_nil_of_length_eq_zero hJ.1
      replace b := b.trans ((s2.below (Nat.le_refl _)).mono b.size)
      clear s2 hJ
      have r1 := byteRow_lit x3 [7] (0, 0) (by decide)
      replace b := b.trans ((below_alloc x3 (.cells (u8s [7]).toArray 5 (0, 0))).mono b.size)
      go_wp2_with fail
      refine (ends_st (St.start (x3.alloc (.cells (u8s [7]).toArray 5 (0, 0)))) (.slice (some ⟨x3.heap.size, 0, none⟩) 1 1) [7] (fun W t => r1.below (t.below (Nat.le_refl _)) (Nat.le_refl _)) (by decide)).mono ?_
      generalize x3.alloc (.cells (u8s [7]).toArray 5 (0, 0)) = V at *
      rintro e x4 ⟨O, hO, g, rfl, s2⟩
      obtain rfl := order_is hO seven_ends
      replace s2 : St V.heap.size V x4 [numsT 3 g 1 [0]] := s2
      clear hO r1
      have s3 := litNums s2 [0] (by decide)
      go_wp2_with fail
      refine (same_st s3 (.slice (some ⟨g, 0, none⟩) 1 1) (.slice (some ⟨x4.heap.size, 0, none⟩) 1 1) [0] [0] (numsRow s3.swap rfl) (numsRow s3 rfl) (by decide) (by decide) (by decide)).mono ?_
      rintro e x5 ⟨rfl, s4⟩
      replace b := b.trans ((s4.below (Nat.le_refl _)).mono b.size)
      clear s2 s3 s4
      have r1 := byteRow_lit x5 [7] (0, 0) (by decide)
      replace b := b.trans ((below_alloc x5 (.cells (u8s [7]).toArray 5 (0, 0))).mono b.size)
      go_wp2_with fail
      refine (rots_st (St.start (x5.alloc (.cells (u8s [7]).toArray 5 (0, 0)))) (.slice (some ⟨x5.heap.size, 0, none⟩) 1 1) [7] (fun W t => r1.below (t.below (Nat.le_refl _)) (Nat.le_refl _)) (by decide)).mono ?_
      generalize x5.alloc (.cells (u8s [7]).toArray 5 (0, 0)) = V at *
      rintro e x6 ⟨O, hO, g, rfl, s2⟩
      obtain rfl := order_is hO seven_rots
      replace s2 : St V.heap.size V x6 [numsT 3 g 1 [0]] := s2
      clear hO r1
      have s3 := litNums s2 [0] (by decide)
      go_wp2_with fail
      refine (same_st s3 (.slice (some ⟨g, 0, none⟩) 1 1) (.slice (some ⟨x6.heap.size, 0, none⟩) 1 1) [0] [0] (numsRow s3.swap rfl) (numsRow s3 rfl) (by decide) (by decide) (by decide)).mono ?_
      rintro e x7 ⟨rfl, s4⟩
      replace b := b.trans ((s4.below (Nat.le_refl _)).mono b.size)
      clear s2 s3 s4
      have r1 := byteRow_lit x7 [98, 97, 110, 97, 110, 97] (6, 7) (by decide)
      replace b := b.trans ((below_alloc x7 (.cells (u8s [98, 97, 110, 97, 110, 97]).toArray 5 (6, 7))).mono b.size)
      go_wp2_with fail
      refine (rots_st (St.start (x7.alloc (.cells (u8s [98, 97, 110, 97, 110, 97]).toArray 5 (6, 7)))) (.slice (some ⟨x7.heap.size, 0, none⟩) 6 6) [98, 97, 110, 97, 110, 97] (fun W t => r1.below (t.below (Nat.le_refl _)) (Nat.le_refl _)) (by decide)).mono ?_
      generalize x7.alloc (.cells (u8s [98, 97, 110, 97, 110, 97]).toArray 5 (6, 7)) = V at *
      rintro e x8 ⟨O, hO, g, rfl, s2⟩
      obtain rfl := order_is hO banana_rots
      replace s2 : St V.heap.size V x8 [numsT 3 g 6 [5, 3, 1, 0, 4, 2]] := s2
      clear hO r1
      have s3 := litNums s2 [5, 3, 1, 0, 4, 2] (by decide)
      go_wp2_with fail
      refine (same_st s3 (.slice (some ⟨g, 0, none⟩) 6 6) (.slice (some ⟨x8.heap.size, 0, none⟩) 6 6) [5, 3, 1, 0, 4, 2] [5, 3, 1, 0, 4, 2] (numsRow s3.swap rfl) (numsRow s3 rfl) (by decide) (by decide) (by decide)).mono ?_
      rintro e x9 ⟨rfl, s4⟩
      replace b := b.trans ((s4.below (Nat.le_refl _)).mono b.size)
      clear s2 s3 s4
      have r1 := byteRow_lit x9 [255, 0, 255, 0] (0, 0) (by decide)
      replace b := b.trans ((below_alloc x9 (.cells (u8s [255, 0, 255, 0]).toArray 5 (0, 0))).mono b.size)
      go_wp2_with fail
      refine (ends_st (St.start (x9.alloc (.cells (u8s [255, 0, 255, 0]).toArray 5 (0, 0)))) (.slice (some ⟨x9.heap.size, 0, none⟩) 4 4) [255, 0, 255, 0] (fun W t => r1.below (t.below (Nat.le_refl _)) (Nat.le_refl _)) (by decide)).mono ?_
      generalize x9.alloc (.cells (u8s [255, 0, 255, 0]).toArray 5 (0, 0)) = V at *
      rintro e x10 ⟨O, hO, g, rfl, s2⟩
      obtain rfl := order_is hO four_ends
      replace s2 : St V.heap.size V x10 [numsT 3 g 4 [3, 1, 2, 0]] := s2
      clear hO r1
      have s3 := litNums s2 [3, 1, 2, 0] (by decide)
      go_wp2_with fail
      refine (same_st s3 (.slice (some ⟨g, 0, none⟩) 4 4) (.slice (some ⟨x10.heap.size, 0, none⟩) 4 4) [3, 1, 2, 0] [3, 1, 2, 0] (numsRow s3.swap rfl) (numsRow s3 rfl) (by decide) (by decide) (by decide)).mono ?_
      rintro e x11 ⟨rfl, s4⟩
      replace b := b.trans ((s4.below (Nat.le_refl _)).mono b.size)
      clear s2 s3 s4
      have s3 := litInts (St.start x11) [0, 0] (by decide)
      go_wp2_with fail
      refine (places_st s3 (.slice (some ⟨x11.heap.size, 0, none⟩) 2 2) [0, 0] (fun W t => intRow_of t.row rfl (by decide)) (by decide)).mono ?_
      rintro e x12 (⟨J, hJ, _⟩ | ⟨_, rfl, s4⟩)
      · exact absurd hJ (none_zeros J)
      replace b := b.trans ((s4.below (Nat.le_refl _)).mono b.size)
      clear s3 s4
      have s3 := litInts (St.start x12) [1, 2] (by decide)
      go_wp2_with fail
      refine (places_st s3 (.slice (some ⟨x12.heap.size, 0, none⟩) 2 2) [1, 2] (fun W t => intRow_of t.row rfl (by decide)) (by decide)).mono ?_
      rintro e x13 (⟨J, hJ, _⟩ | ⟨_, rfl, s4⟩)
      · exact absurd hJ (none_two J)
      replace b := b.trans ((s4.below (Nat.le_refl _)).mono b.size)
      clear s3 s4
      have s3 := litInts (St.start x13) [-1] (by decide)
      go_wp2_with fail
      refine (places_st s3 (.slice (some ⟨x13.heap.size, 0, none⟩) 1 1) [-1] (fun W t => intRow_of t.row rfl (by decide)) (by decide)).mono ?_
      rintro e x14 (⟨J, hJ, _⟩ | ⟨_, rfl, s4⟩)
      · exact absurd hJ (none_less J)
      replace b := b.trans ((s4.below (Nat.le_refl _)).mono b.size)
      clear s3 s4
      go_wp2_with fail
      refine (sorts_any x14).mono ?_
      rintro e w8 ⟨rfl, b2⟩
      go_wp2_with fail
      go_ret
      exact ⟨rfl, b.trans (b2.mono b.size)⟩

end Go.Proofs.Ythcbmkbgchobfaa.sufsortKnown
