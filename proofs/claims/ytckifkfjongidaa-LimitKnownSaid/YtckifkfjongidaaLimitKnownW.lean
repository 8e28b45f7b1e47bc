/-
  The chapter's examples, and limits: the walk of LimitKnown. No conditions.
-/
import Derived.Test.YtckifkfjongidaaLimN
namespace Go.Proofs.Ytckifkfjongidaa.limitKnown
open Go.RowKit Go.Proofs.Ytckifkfjongidaa.Limit

/-- A row of numbers written out in the text, below 0 too. -/
theorem intRow_lit (w : World) (xs : List Int) (e : TypeId) (hx : ∀ x ∈ xs, -9223372036854775808 ≤ x ∧ x ≤ 9223372036854775807) : IntRow (w.alloc (.cells (xs.map (Value.int .i64)).toArray e)) (.slice (some ⟨w.heap.size, 0, none⟩) xs.length xs.length) xs := by
  refine ⟨_, xs.length, rfl, Nat.le_refl _, (fun e => by cases e), fun i hi => ⟨hx _ (List.getElem_mem hi), w.heap.size, 0, rfl, ?_⟩⟩
  rw [Nat.zero_add, cell_of_row _ w.heap.size i (xs.map (Value.int .i64)).toArray e (0, 0) (heap_alloc_new w _)]
  simp [hi]

theorem two : lengths [1, 1, 2, 4] (rare [1, 1, 2, 4]) 2 = [2, 2, 2, 2] :=
  lengths_known _ [1, 1, 2, 4] _ [4, 4] 2 (List.Perm.refl _) (by decide) (by kernel_rfl) rfl (by decide)

theorem nine : lengths [0, 9, 0] (rare [0, 9, 0]) 1 = [0, 1, 0] :=
  lengths_known _ [9] _ [1] 1 (List.Perm.refl _) (by decide) (by kernel_rfl) rfl (by decide)

theorem none_ : lengths [0, 0] (rare [0, 0]) 1 = [0, 0] :=
  lengths_known _ [] _ [0] 1 (List.Perm.refl _) (by decide) (by kernel_rfl) rfl (by decide)

theorem seven : lengths [21, 13, 8, 5, 3, 2, 1, 1] (rare [21, 13, 8, 5, 3, 2, 1, 1]) 7 = [1, 2, 3, 4, 5, 6, 7, 7] :=
  lengths_known _ [1, 1, 2, 3, 5, 8, 13, 21] _ [8, 7, 6, 5, 4, 3, 2] 7 (by decide) (by decide) (by kernel_rfl) rfl (by decide)

theorem four : lengths [21, 13, 8, 5, 3, 2, 1, 1] (rare [21, 13, 8, 5, 3, 2, 1, 1]) 4 = [2, 2, 3, 3, 4, 4, 4, 4] :=
  lengths_known _ [1, 1, 2, 3, 5, 8, 13, 21] _ [8, 8, 6, 4] 4 (by decide) (by decide) (by kernel_rfl) rfl (by decide)

theorem err5 {xs : List Int} {L : Int} (h : fitsB xs L = false) : errOf xs L = 5 ∧ lensAns xs L = [] := by
  have he : errOf xs L = 5 := by unfold errOf; rw [h]; rfl
  exact ⟨he, by unfold lensAns; rw [if_neg (by omega)]⟩

theorem err2 : errOf [5, 4, 3] 1 = 2 ∧ lensAns [5, 4, 3] 1 = [] := by
  have he : errOf [5, 4, 3] 1 = 2 := by
    unfold errOf
    rw [show fitsB [5, 4, 3] 1 = true from by decide, if_pos rfl, rare_len]
    rfl
  exact ⟨he, by unfold lensAns; rw [if_neg (by omega)]⟩

/-- What Lengths answers of a row written out in the text. -/
theorem known_st {B : Nat} {w0 w : World} {r : List Thing} (st : St B w0 w r) (xs : List Int) (L : Int) (e : Nat) (l : List Nat) (hx : ∀ x ∈ xs, -9223372036854775808 ≤ x ∧ x ≤ 9223372036854775807) (he : errOf xs L = e ∧ lensAns xs L = l) :
    Calls Try.prog 11 #[.slice (some ⟨w.heap.size, 0, none⟩) xs.length xs.length, .int .i64 L] (w.alloc (.cells (xs.map (Value.int .i64)).toArray 3)) fun en w' => ∃ a c, en = .returned (.tuple #[.slice a l.length c, .int .i64 (e : Int)]) ∧ St B w0 w' (rowT 5 1 (.slice a l.length c) l.length (u8s l) :: r) := by
  refine (lengths_st (st.alloc _) _ xs L (intRow_lit w xs 3 hx)).mono ?_
  rintro en w' ⟨u, rfl, s⟩
  obtain ⟨a, c, rfl⟩ := ownsRow_slice s.row
  rw [he.1, he.2] at *
  exact ⟨a, c, rfl, s⟩

theorem ok_of {xs : List Int} {L : Int} {l : List Nat} (h : fitsB xs L = true) (hf : (pos (xs.map Int.toNat)).length ≤ 2 ^ L.toNat) (hl : lengths (xs.map Int.toNat) (rare (xs.map Int.toNat)) L.toNat = l) : errOf xs L = 0 ∧ lensAns xs L = l := by
  have he := errOf_ok h hf
  exact ⟨he, by rw [lensAns_ok he, hl]⟩

set_option maxRecDepth 100000 in
set_option maxHeartbeats 8000000 in
theorem walk (w : World) :
    Calls Try.prog 9 #[] w fun e w' => e = .returned (.bool true) ∧ Below w.heap.size w w' := by
  go_enter Try.func9, Try.ntmps9
  have s0 := St.start w
  have h1 := known_st s0 [1, 1, 2, 4] 2 0 [2, 2, 2, 2] (by decide) (ok_of (by decide) (by decide) two)
  go_wp2_with fail
  refine h1.mono ?_
  rintro e w1 ⟨a1, c1, rfl, s1⟩
  clear h1
  have h2 := known_st s1 [0, 9, 0] 1 0 [0, 1, 0] (by decide) (ok_of (by decide) (by decide) nine)
  go_wp2_with fail
  refine h2.mono ?_
  rintro e w2 ⟨a2, c2, rfl, s2⟩
  clear h2
  have h3 := known_st s2 [0, 0] 1 0 [0, 0] (by decide) (ok_of (by decide) (by decide) none_)
  go_wp2_with fail
  refine h3.mono ?_
  rintro e w3 ⟨a3, c3, rfl, s3⟩
  clear h3
  have h4 := known_st s3 [5, 4, 3] 1 2 [] (by decide) (err2)
  go_wp2_with fail
  refine h4.mono ?_
  rintro e w4 ⟨a4, c4, rfl, s4⟩
  clear h4
  have s4 := s4.drop
  have h5 := known_st s4 [1] 18 5 [] (by decide) (err5 (by decide))
  go_wp2_with fail
  refine h5.mono ?_
  rintro e w5 ⟨a5, c5, rfl, s5⟩
  clear h5
  have s5 := s5.drop
  have h6 := known_st s5 [-1] 3 5 [] (by decide) (err5 (by decide))
  go_wp2_with fail
  refine h6.mono ?_
  rintro e w6 ⟨a6, c6, rfl, s6⟩
  clear h6
  have s6 := s6.drop
  have h7 := known_st s6 [1099511627777] 3 5 [] (by decide) (err5 (by decide))
  go_wp2_with fail
  refine h7.mono ?_
  rintro e w7 ⟨a7, c7, rfl, s7⟩
  clear h7
  have s7 := s7.drop
  obtain ⟨i0, hi, hz0, hz1, hz2⟩ := info_parts infoInt
  have hmk : i0.bytes * 513 ≤ 281474976710656 := by rw [hz2]; decide
  go_wp2_with (at_make; refine wpList_make_full _ rfl _ _ 22 rfl w7.heap.size 3 i0 (.int .i64 0) 1 Try.underlying22 hi hz0 hz1 _ _ _ _ 513 rfl rfl rfl rfl hmk (by decide) (Nat.le_refl _) ?_)
  intro w8' hown hg
  have s8' := s7.madeNums hown hg
  have hr8 : IntRow w8' (.slice (some ⟨w7.heap.size, 0, none⟩) 513 513) ((List.replicate 513 0).map fun x : Nat => (x : Int)) := (numRow_owns (xs := List.replicate 513 0) s8'.row).ints (by simp)
  have hl8 : ((List.replicate 513 0).map fun x : Nat => (x : Int)).length = 513 := by rw [List.length_map, List.length_replicate]
  have he8 := err5 (xs := (List.replicate 513 0).map fun x : Nat => (x : Int)) (L := 3) (fitsB_not (fun h => by rw [hl8] at h; omega))
  have h8 : Calls Try.prog 11 #[.slice (some ⟨w7.heap.size, 0, none⟩) 513 513, .int .i64 3] w8' fun en w' => ∃ u, en = .returned (.tuple #[u, .int .i64 5]) ∧ St w.heap.size w w' _ := (lengths_st s8'.drop _ _ 3 hr8).mono (by
    rintro en w' ⟨u, rfl, s⟩
    refine ⟨u, ?_, s.drop⟩
    rw [he8.1]
    rfl)
  clear hown hg hi hz0 hz1 hz2 hmk s8' hr8 hl8 he8
  go_wp2_with fail
  refine h8.mono ?_
  rintro e w8 ⟨u8, rfl, s8⟩
  have h9 := known_st s8 [21, 13, 8, 5, 3, 2, 1, 1] 7 0 [1, 2, 3, 4, 5, 6, 7, 7] (by decide) (ok_of (by decide) (by decide) seven)
  go_wp2_with fail
  refine h9.mono ?_
  rintro e w9 ⟨a9, c9, rfl, s9⟩
  clear h9
  have h10 := known_st s9 [21, 13, 8, 5, 3, 2, 1, 1] 4 0 [2, 2, 3, 3, 4, 4, 4, 4] (by decide) (ok_of (by decide) (by decide) four)
  go_wp2_with fail
  refine h10.mono ?_
  rintro e w10 ⟨a10, c10, rfl, s10⟩
  clear h10
  have hc : cost [21, 13, 8, 5, 3, 2, 1, 1] [2, 2, 3, 3, 4, 4, 4, 4] = 135 := by decide
  have s10' := s10.alloc (.cells (i64s [21, 13, 8, 5, 3, 2, 1, 1]).toArray 3)
  have hsum := sum_any (w10.alloc (.cells (i64s [21, 13, 8, 5, 3, 2, 1, 1]).toArray 3)) (.slice (some ⟨w10.heap.size, 0, none⟩) 8 8) (.slice a10 8 c10) [21, 13, 8, 5, 3, 2, 1, 1] [2, 2, 3, 3, 4, 4, 4, 4] (numRow_lit w10 [21, 13, 8, 5, 3, 2, 1, 1] 3 (0, 0)) (s10'.bytesRow (by decide)) (by decide) rfl (by decide)
  rw [hc] at hsum
  go_wp2_with fail
  refine hsum.mono ?_
  rintro e w11' ⟨rfl, n, rfl⟩
  have s11 := s10'.drewN n
  obtain ⟨w11, hw11⟩ : ∃ w11, (w10.alloc (.cells (i64s [21, 13, 8, 5, 3, 2, 1, 1]).toArray 3)).drewN n = w11 := ⟨_, rfl⟩
  rw [hw11] at s11 ⊢
  have v1 : (convert 24 9 (.slice a9 8 c9)).run Try.prog w11 = .ok (.string { data := #[1, 2, 3, 4, 5, 6, 7, 7] }) w11 := by
    have h := (s11.drop).string
    rw [show strOf [1, 2, 3, 4, 5, 6, 7, 7] = ({ data := #[1, 2, 3, 4, 5, 6, 7, 7] } : ByteArray) from by decide] at h
    exact h
  have v2 : (convert 24 9 (.slice a3 2 c3)).run Try.prog w11 = .ok (.string { data := #[0, 0] }) w11 := by
    have h := (s11.drop.drop).string
    rw [show strOf [0, 0] = ({ data := #[0, 0] } : ByteArray) from by decide] at h
    exact h
  have v3 : (convert 24 9 (.slice a2 3 c2)).run Try.prog w11 = .ok (.string { data := #[0, 1, 0] }) w11 := by
    have h := (s11.drop.drop.drop).string
    rw [show strOf [0, 1, 0] = ({ data := #[0, 1, 0] } : ByteArray) from by decide] at h
    exact h
  have v4 : (convert 24 9 (.slice a1 4 c1)).run Try.prog w11 = .ok (.string { data := #[2, 2, 2, 2] }) w11 := by
    have h := (s11.drop.drop.drop.drop).string
    rw [show strOf [2, 2, 2, 2] = ({ data := #[2, 2, 2, 2] } : ByteArray) from by decide] at h
    exact h
  have hp := Lib.hid (picks_st s11)
  clear hsum hc s10' hw11 s0 s1 s2 s3 s4 s5 s6 s7 s8 s9 s10 h8 s11
  go_wp2_with (go_at_call 10; refine hp.out.mono ?_; rintro e w12 ⟨rfl, s12⟩)
  go_ret
  exact ⟨rfl, s12.below (Nat.le_refl _)⟩

end Go.Proofs.Ytckifkfjongidaa.limitKnown
