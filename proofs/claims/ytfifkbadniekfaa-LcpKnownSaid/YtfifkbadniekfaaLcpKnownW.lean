/-
  The examples of the chapter; all alike; none; what may not be: the walk of LcpKnown. No conditions.
-/
import Derived.Test.YtfifkbadniekfaaLcpH
namespace Go.Proofs.Ytfifkbadniekfaa.lcpKnown
open Go.RowKit Go.Proofs.Ytfifkbadniekfaa.Suf Go.Proofs.Ytfifkbadniekfaa.Lcp

theorem zeros_val (n p j : Nat) : val false (List.replicate n 0) p j = if p + j < n then 1 else 0 := by
  by_cases h : p + j < n
  · rw [val_some (x := 0) (by rw [List.getElem?_replicate, if_pos h]), if_pos h]
  · rw [val_none (by rw [List.getElem?_replicate, if_neg h]), if_neg h]

theorem zeros_ahead {n p q : Nat} (hp : p < n) (hq : q < n) (h : Ahead false (List.replicate n 0) p q) : q < p := by
  have h1 := ahead_com (b := List.replicate n 0) (by simpa using hp) (by simpa using hq) h
  rw [zeros_val, zeros_val] at h1
  split at h1 <;> split at h1 <;> omega

theorem zeros_order {n : Nat} {O : List Nat} (h : Whole (List.replicate n 0).length (Ahead false (List.replicate n 0)) O) : ∀ i, i < n → nth O i = n - 1 - i := by
  rw [List.length_replicate] at h
  have h1 : Whole n (fun p q => q < p) O := h.imp fun p q hp hq => zeros_ahead hp hq
  have h2 : Whole n (fun p q => q < p) ((List.range n).map fun i => n - 1 - i) := by
    refine ⟨by simp, fun x hx => ?_, ?_⟩
    · obtain ⟨i, hi, rfl⟩ := List.mem_map.1 hx
      have := List.mem_range.1 hi
      omega
    · rw [List.pairwise_map]
      refine List.Pairwise.imp_of_mem (fun {a b} ha hb hab => ?_) (List.pairwise_lt_range (n := n))
      have := List.mem_range.1 hb
      omega
  have e := Whole.one (fun x y h h' => by omega) h1 h2
  intro i hi
  rw [e, nth_lt (by simpa using hi)]
  simp

theorem alike_zeros : ∀ a c : Nat, alike (List.replicate a 0) (List.replicate c 0) = min a c
  | 0, c => by
    rw [List.replicate_zero, Nat.zero_min]
    exact alike_is (fun k hk => absurd hk (by omega)) (fun ⟨z, h, _⟩ => by simp at h)
  | a + 1, 0 => by
    rw [List.replicate_zero, Nat.min_zero]
    exact alike_is (fun k hk => absurd hk (by omega)) (fun ⟨z, _, h⟩ => by simp at h)
  | a + 1, c + 1 => by
    rw [List.replicate_succ, List.replicate_succ, alike, if_pos rfl, alike_zeros a c]
    omega

theorem zeros_hts {n : Nat} {O : List Nat} (h : Whole (List.replicate n 0).length (Ahead false (List.replicate n 0)) O) (i : Nat) (hi : i < n) : hAt (List.replicate n 0) O i = i := by
  have h1 := zeros_order h
  unfold hAt
  split
  · omega
  · rw [h1 (i - 1) (by omega), h1 i hi]
    unfold com
    rw [List.drop_replicate, List.drop_replicate, alike_zeros]
    omega

/-- Numbers that are not the order. -/
theorem banana_not {b ys : List Nat} (hb : wholeB false b [5, 3, 1, 0, 4, 2] = true) (h : ys ≠ [5, 3, 1, 0, 4, 2]) : ∀ O : List Nat, ((ys.map fun x : Nat => (x : Int)) = O.map fun x : Nat => (x : Int)) → ¬ Whole b.length (Ahead false b) O := fun O e hw => by
  rw [← ints_one e] at hw
  exact h (order_is hw hb)

set_option maxRecDepth 100000 in
set_option maxHeartbeats 4000000 in
/-- Heights of banana and numbers that are not its order. -/
theorem banana_st (w : World) (u : Value) (ys : List Nat) (hm : ∀ y ∈ ys, y ≤ 1000000) (hl : ys.length ≤ 1000) (hy : ys ≠ [5, 3, 1, 0, 4, 2])
    (W1 : World) (hrow : ByteRow W1 (.slice (some ⟨w.heap.size, 0, none⟩) 6 6) [98, 97, 110, 97, 110, 97]) (hu : NumRow W1 u ys) (hB : Below w.heap.size w W1) :
    Calls Try.prog 9 #[.slice (some ⟨w.heap.size, 0, none⟩) 6 6, u] W1 fun e w' => e = .returned (.tuple #[.slice none 0 0, .int .i64 5]) ∧ Below w.heap.size w w' := by
  refine (heights_st (St.start W1) _ u [98, 97, 110, 97, 110, 97] (ys.map fun x : Nat => (x : Int)) (fun W t => hrow.below (t.below (Nat.le_refl _)) (Nat.le_refl _)) (fun W t => NumRow.intRow (hu.below (t.below (Nat.le_refl _)) (Nat.le_refl _)) hm) (by decide) (by rw [List.length_map]; omega)).mono ?_
  rintro e w2 (⟨O, g, h1, h2, _⟩ | ⟨_, h1, s1⟩)
  · exact absurd h2 (banana_not banana_ends hy O h1)
  · exact ⟨h1, hB.trans ((s1.below (Nat.le_refl _)).mono hB.size)⟩

theorem two_least (m : Int) (h : Least [0, 1, 3, 0, 0, 2] 4 5 m) : m = 2 := by
  refine h.one ⟨⟨5, by omega, by omega, rfl⟩, fun k v h1 h2 h3 => ?_⟩
  obtain rfl : k = 5 := by omega
  have := Option.some.inj h3
  omega

/-- Common of numbers written out. -/
theorem com_lit (w : World) (xs : List Nat) (hx : ∀ x ∈ xs, x ≤ 1000000) (hl : xs.length ≤ 1000) (p q : Int) (e0 : Ending) (he : ∀ e, ComAns (xs.map fun x : Nat => (x : Int)) p q e → e = e0) :
    Calls Try.prog 13 #[.slice (some ⟨w.heap.size, 0, none⟩) xs.length xs.length, .int .i64 p, .int .i64 q] (w.alloc (.cells (i64s xs).toArray 3)) fun e w' => e = e0 ∧ Below w.heap.size w w' := by
  refine (common_any _ _ _ (NumRow.intRow (numRow_lit w xs 3 (0, 0)) hx) (by rw [List.length_map]; omega) p q).mono ?_
  rintro e w' ⟨h, k, rfl⟩
  exact ⟨he e h, belowDrewN (below_alloc w _) k⟩

theorem empty_whole : Whole ([] : List Nat).length (Ahead false []) [] := ⟨rfl, fun x hx => (by cases hx), .nil⟩

set_option maxRecDepth 100000 in
set_option maxHeartbeats 16000000 in
theorem walk (w : World) : Calls Try.prog 7 #[] w fun e w' => e = .returned (.bool true) ∧ Below w.heap.size w w' := by
  have hcv := run_convert_lit
  obtain ⟨i0, hi, hz0, hz1, hz2⟩ := info_parts info8
  have hmk : i0.bytes * 300 ≤ 281474976710656 := by rw [hz2]; omega
  have hmx : 300 ≤ maxLen := by unfold maxLen; omega
  go_enter Try.func7, Try.ntmps7
  go_wp2_with (at_make; refine wpList_make_full _ rfl _ _ 22 rfl w.heap.size 5 i0 (.int .u8 0) 1 Try.underlying22 hi hz0 hz1 _ _ _ _ 300 rfl rfl rfl rfl hmk hmx (Nat.le_refl _) ?_)
  intro w1 hown hg
  have s1 := (St.start w).made hown hg
  have hZh : ∀ O, Whole (List.replicate 300 (0 : Nat)).length (Ahead false (List.replicate 300 0)) O → ∀ i, i < 300 → hAt (List.replicate 300 0) O i = i := fun O h i hi => zeros_hts h i hi
  obtain ⟨Z, hZ⟩ : ∃ Z, List.replicate 300 (0 : Nat) = Z := ⟨_, rfl⟩
  rw [hZ] at s1 hZh
  have hZl : Z.length = 300 := by rw [← hZ, List.length_replicate]
  have hz256 : ∀ x ∈ Z, x < 256 := fun x hx => by
    rw [← hZ] at hx
    rw [(List.mem_replicate.1 hx).2]
    omega
  clear hown hg hi hz0 hz1 hz2 hmk hmx hZ
  have he := ends_st s1 (.slice (some ⟨w.heap.size, 0, none⟩) 300 300) Z (fun W t => byteRow_own t hZl hz256) (by omega)
  go_wp2_with fail
  refine he.mono ?_
  rintro e w2 ⟨O, hO, g1, rfl, s2⟩
  have hOl : O.length = 300 := by rw [hO.len, hZl]
  have hOm : ∀ x ∈ O, x ≤ 1000000 := fun x hx => by have := hO.mem x hx; omega
  rw [hOl] at s2 ⊢
  have hh := heights_st s2 (.slice (some ⟨w.heap.size, 0, none⟩) 300 300) (.slice (some ⟨g1, 0, none⟩) 300 300) Z (O.map fun x : Nat => (x : Int)) (fun W t => byteRow_own t.drop hZl hz256) (fun W t => NumRow.intRow (numsRow t hOl) hOm) (by omega) (by rw [List.length_map, hOl]; omega)
  clear he s1 s2
  go_wp2_with fail
  refine hh.mono ?_
  rintro e w3 (⟨O', g2, h1, h2, rfl, s3⟩ | ⟨hno, _⟩)
  rotate_left
  · exact absurd hO (hno _ rfl)
  obtain rfl := ints_one h1
  have hat := hZh _ hO
  have hHl : (hts Z O).length = 300 := by rw [hts_length, hOl]
  rw [hZl] at s3 ⊢
  have hcell : ∀ k, k < 300 → w3.cell? ⟨g2, k, none⟩ = some (.int .i64 (k : Int)) := fun k hk => by
    have c0 := (s3.numCell k hHl hk).1
    rw [c0]
    unfold hts
    rw [tab_get, hat k hk]
  have b := s3.below (Nat.le_refl _)
  clear hh h1 h2 hO hOm hat hHl hZh hz256 s3 hOl hZl
  go_wp2_with fail
  go_loopw [5] (fun i wr => ∃ k : Nat, k ≤ 300 ∧ i = .int .i64 (k : Int) ∧ wr = w3) (fun i _ => 300 - (intOf i).toNat)
  case atStart => exact ⟨0, by omega, rfl, rfl⟩
  case round =>
    obtain ⟨k, hk, rfl, rfl⟩ := hrel
    by_cases hlt : k < 300
    · have c0 := hcell k hlt
      have hkI : (k : Int) < 300 := by omega
      clear hcell
      go_wp2
      go_roundw
      case rel => exact ⟨k + 1, by omega, by go_num, trivial⟩
      case measure => simp [intOf]; omega
    · clear hcell
      go_wp2_with fail
      refine (banana_st wr (.slice (some ⟨wr.heap.size + 1, 0, none⟩) 6 6) [0, 1, 2, 3, 4, 5] (by decide) (by decide) (by decide) ((wr.alloc (.cells (u8s [98, 97, 110, 97, 110, 97]).toArray 5 (6, 7))).alloc (.cells (i64s [0, 1, 2, 3, 4, 5]).toArray 3)) ((byteRow_lit wr [98, 97, 110, 97, 110, 97] (6, 7) (by decide)).below (below_alloc _ _) (Nat.le_refl _)) ?_ ?_).mono ?_
      · have h := numRow_lit (wr.alloc (.cells (u8s [98, 97, 110, 97, 110, 97]).toArray 5 (6, 7))) [0, 1, 2, 3, 4, 5] 3 (0, 0)
        rw [World.size_alloc] at h
        exact h
      · exact ((Below.refl _ wr).alloc (Nat.le_refl _) _).alloc (by simp) _
      rintro e x1 ⟨rfl, b1⟩
      replace b := b.trans (b1.mono b.size)
      clear b1
      go_wp2_with fail
      refine (banana_st x1 (.slice none 0 0) [] (by decide) (by decide) (by decide) (x1.alloc (.cells (u8s [98, 97, 110, 97, 110, 97]).toArray 5 (6, 7))) (byteRow_lit x1 [98, 97, 110, 97, 110, 97] (6, 7) (by decide)) (numRow_none _) (below_alloc _ _)).mono ?_
      rintro e x2 ⟨rfl, b1⟩
      replace b := b.trans (b1.mono b.size)
      clear b1
      go_wp2_with fail
      refine (heights_st (St.start x2) (.slice none 0 0) (.slice none 0 0) [] [] (fun W _ => ⟨none, 0, rfl, Nat.le_refl _, fun _ => rfl, fun i hi => absurd hi (by simp)⟩) (fun W _ => ⟨none, 0, rfl, Nat.le_refl _, fun _ => rfl, fun i hi => absurd hi (by simp)⟩) (by decide) (by decide)).mono ?_
      rintro e x3 (⟨O', g3, h1, h2, rfl, s3⟩ | ⟨hno, _⟩)
      rotate_left
      · exact absurd empty_whole (hno [] rfl)
      replace b := b.trans ((s3.below (Nat.le_refl _)).mono b.size)
      clear s3 h1 h2
      replace b : Below w.heap.size w x3 := b
      go_wp2_with fail
      refine (com_lit x3 [0, 1] (by decide) (by decide) 1 1 (.returned (.tuple #[.int .i64 0, .int .i64 5])) ?_).mono ?_
      · rintro e (⟨_, h⟩ | ⟨i, j, m, h1, h2, h3, _⟩)
        · exact h
        · omega
      rintro e x4 ⟨rfl, b1⟩
      replace b := b.trans (b1.mono b.size)
      clear b1
      go_wp2_with fail
      refine (com_lit x4 [0, 1] (by decide) (by decide) 0 2 (.returned (.tuple #[.int .i64 0, .int .i64 5])) ?_).mono ?_
      · rintro e (⟨_, h⟩ | ⟨i, j, m, h1, h2, h3, h4, _⟩)
        · exact h
        · simp at h4; omega
      rintro e x5 ⟨rfl, b1⟩
      replace b := b.trans (b1.mono b.size)
      clear b1
      go_wp2_with fail
      refine (com_lit x5 [0, 1] (by decide) (by decide) (-1) 1 (.returned (.tuple #[.int .i64 0, .int .i64 5])) ?_).mono ?_
      · rintro e (⟨_, h⟩ | ⟨i, j, m, h1, h2, h3, h4, _⟩)
        · exact h
        · omega
      rintro e x6 ⟨rfl, b1⟩
      replace b := b.trans (b1.mono b.size)
      clear b1
      go_wp2_with fail
      refine (com_lit x6 [0, 1, 3, 0, 0, 2] (by decide) (by decide) 4 5 (.returned (.tuple #[.int .i64 2, .int .i64 0])) ?_).mono ?_
      · rintro e (⟨h, _⟩ | ⟨i, j, m, h1, h2, h3, h4, h5, h6⟩)
        · simp at h
        · obtain rfl : i = 4 := by omega
          obtain rfl : j = 5 := by omega
          rw [h6, two_least m h5]
      rintro e x7 ⟨rfl, b1⟩
      replace b := b.trans (b1.mono b.size)
      clear b1
      go_wp2_with fail
      refine (heights_any x7).mono ?_
      rintro e x8 ⟨rfl, b1⟩
      replace b := b.trans (b1.mono b.size)
      clear b1
      go_wp2_with fail
      go_ret
      exact ⟨rfl, b⟩

end Go.Proofs.Ytfifkbadniekfaa.lcpKnown
