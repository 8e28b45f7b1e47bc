/-
  Every Tail and Ends: the walk of FrameTails. No conditions.
-/
import Derived.Test.YtiggbioaaglgaaaFrL
namespace Go.Proofs.Ytiggbioaaglgaaa.frameTails
open Go.RowKit Crc Fr

set_option maxRecDepth 100000 in
set_option maxHeartbeats 8000000 in
theorem walk (w : World) (v0 : Value) (xs : List Nat) (h0 : ByteRow w v0 xs) (v1 : Value) (ys : List Nat) (h1 : ByteRow w v1 ys) :
    Calls Try.prog 5 #[v0, v1] w fun e w' => e = .returned (.bool true) ∧ Below w.heap.size w w' := by
  have hB := Nat.le_refl w.heap.size
  have HX := fun W (hb : Below w.heap.size w W) => h0.below hb hB
  have HY := fun W (hb : Below w.heap.size w W) => h1.below hb hB
  have hyb := h1.byte
  obtain ⟨xa, xc, rfl, -⟩ := h0
  obtain ⟨ya, yc, rfl, -⟩ := h1
  by_cases c0 : 5000 < xs.length
  · go_enter Try.func5, Try.ntmps5
    go_wp2
    go_ret
    exact ⟨rfl, Below.refl _ _⟩
  · have hx5 : xs.length ≤ 5000 := by omega
    have ht := refTail_st (St.start w) (.slice xa xs.length xc) xs (fun W s => HX W (s.below hB)) (by omega)
    go_enter Try.func5, Try.ntmps5
    go_wp2_with fail
    refine ht.mono ?_
    rintro e w1 ⟨v1, rfl, s1⟩
    obtain ⟨ta, tc, rfl⟩ := ownsRow_slice s1.row
    clear ht
    have hT : ∀ W T, St w.heap.size w W (rowT 5 1 (.slice ta 8 tc) 8 (u8s (tailOf xs)) :: T) → ByteRow W (.slice ta 8 tc) (tailOf xs) := fun W T t => byteRow_owns (by rw [tailOf_length]; exact t.row) (tailOf_byte xs)
    have s2 := s1.drew
    have ht2 := tail_st s2 (.slice xa xs.length xc) xs (fun W s => HX W (s.below hB)) (by omega)
    clear s1
    have hS : ∀ W T, St w.heap.size w W (rowT 5 1 (.slice ta 8 tc) 8 (u8s (tailOf xs)) :: T) → (convert 23 9 (.slice ta 8 tc)).run Try.prog W = .ok (.string (strOf (tailOf xs))) W ∧ (convert 23 9 (.slice ya ys.length yc)).run Try.prog W = .ok (.string (strOf ys)) W := fun W T t => ⟨run_string _ _ _ (hT W T t).reads, run_string _ _ _ (HY W (t.below hB)).reads⟩
    have hdec : ((strOf ys).toList == (strOf (tailOf xs)).toList) = decide (tailOf xs = ys) := by
      rw [Bool.eq_iff_iff, beq_iff_eq, str_list, strOf_eq hyb (tailOf_byte xs), decide_eq_true_eq]
      exact eq_comm
    go_wp2
    refine region_seg (by kernel_rfl) [0, 3] 24 rfl (by kernel_rfl) (by kernel_rfl) (fun _ _ d _ _ h => by cases d <;> exact h) ?_
    intro K hK
    simp only [pickL, List.getElem?_cons_zero, List.getElem?_cons_succ]
    go_wp2_with fail
    try clear hK K
    refine wpAny_of_held (S := fun W => ∃ T, St w.heap.size w W (rowT 5 1 (.slice ta 8 tc) 8 (u8s (tailOf xs)) :: T)) _ _ _ _ ?_
    refine wpAnyH_take (i := 4) (v := .string (strOf (tailOf xs))) rfl (by kernel_rfl) (by kernel_rfl) (by kernel_rfl) (fun _ _ _ h => h) (.inl ⟨by kernel_rfl, fun W hW => by obtain ⟨T, t⟩ := hW; obtain ⟨q1, q2⟩ := hS W T t; go_simp⟩) ⟨_, s2⟩ ?_
    refine held_call (j := 1) _ (by kernel_rfl) rfl (by kernel_rfl) 18 #[.slice xa xs.length xc] (by kernel_rfl) ht2 ?_
    rintro e w3 ⟨v3, rfl, s3⟩
    obtain ⟨qa, qc, hq⟩ := ownsRow_slice s3.row
    subst hq
    have hstr3 := run_string w3 (.slice qa 8 qc) (tailOf xs) (Reads.of_owns (xs := u8s (tailOf xs)) s3.row)
    have s4 := s3.swap
    refine ⟨_, rfl, ⟨_, s4⟩, ?_⟩
    clear ht2 s2 s3
    refine held_step (j := 2) _ (by kernel_rfl) rfl ?_
    intro N1 hN1
    go_wp2_with fail
    refine hN1 _ _ ⟨_, s4⟩ ?_
    try clear hN1 N1
    clear hstr3
    refine wpAnyH_take (i := 5) (v := .bool true) rfl (by kernel_rfl) (by kernel_rfl) (by kernel_rfl) (fun _ _ _ h => h) (.inl ⟨by kernel_rfl, fun W hW => by obtain ⟨T, t⟩ := hW; obtain ⟨q1, q2⟩ := hS W T t; go_simp; try simp⟩) ⟨_, s4⟩ ?_
    refine wpAnyH_take (i := 6) (v := .bool true) rfl (by kernel_rfl) (by kernel_rfl) (by kernel_rfl) (fun _ _ _ h => h) (.inl ⟨by kernel_rfl, fun W hW => by obtain ⟨T, t⟩ := hW; obtain ⟨q1, q2⟩ := hS W T t; go_simp⟩) ⟨_, s4⟩ ?_
    refine wpAnyH_take (i := 7) (v := .slice xa xs.length xc) rfl (by kernel_rfl) (by kernel_rfl) (by kernel_rfl) (fun _ _ _ h => h) (.inl ⟨by kernel_rfl, fun W hW => by obtain ⟨T, t⟩ := hW; obtain ⟨q1, q2⟩ := hS W T t; go_simp⟩) ⟨_, s4⟩ ?_
    refine wpAnyH_take (i := 8) (v := .slice ta 8 tc) rfl (by kernel_rfl) (by kernel_rfl) (by kernel_rfl) (fun _ _ _ h => h) (.inl ⟨by kernel_rfl, fun W hW => by obtain ⟨T, t⟩ := hW; obtain ⟨q1, q2⟩ := hS W T t; go_simp⟩) ⟨_, s4⟩ ?_
    have he1 := ends_st s4 (.slice xa xs.length xc) (.slice ta 8 tc) xs (tailOf xs) (fun W s => HX W (s.below hB)) (fun W s => hT W _ s) (by omega)
    rw [decide_eq_true (rfl : tailOf xs = tailOf xs)] at he1
    refine held_call (j := 9) _ (by kernel_rfl) rfl (by kernel_rfl) 19 #[.slice xa xs.length xc, .slice ta 8 tc] (by kernel_rfl) he1 ?_
    rintro e w5 ⟨rfl, s5⟩
    refine ⟨_, rfl, ⟨_, s5⟩, ?_⟩
    clear he1 s4
    refine wpAnyH_take (i := 10) (v := .bool true) rfl (by kernel_rfl) (by kernel_rfl) (by kernel_rfl) (fun _ _ _ h => h) (.inl ⟨by kernel_rfl, fun W hW => by obtain ⟨T, t⟩ := hW; obtain ⟨q1, q2⟩ := hS W T t; go_simp⟩) ⟨_, s5⟩ ?_
    refine wpAnyH_take (i := 11) (v := .bool true) rfl (by kernel_rfl) (by kernel_rfl) (by kernel_rfl) (fun _ _ _ h => h) (.inl ⟨by kernel_rfl, fun W hW => by obtain ⟨T, t⟩ := hW; obtain ⟨q1, q2⟩ := hS W T t; go_simp⟩) ⟨_, s5⟩ ?_
    refine wpAnyH_take (i := 12) (v := .slice xa xs.length xc) rfl (by kernel_rfl) (by kernel_rfl) (by kernel_rfl) (fun _ _ _ h => h) (.inl ⟨by kernel_rfl, fun W hW => by obtain ⟨T, t⟩ := hW; obtain ⟨q1, q2⟩ := hS W T t; go_simp⟩) ⟨_, s5⟩ ?_
    refine wpAnyH_take (i := 13) (v := .slice ya ys.length yc) rfl (by kernel_rfl) (by kernel_rfl) (by kernel_rfl) (fun _ _ _ h => h) (.inl ⟨by kernel_rfl, fun W hW => by obtain ⟨T, t⟩ := hW; obtain ⟨q1, q2⟩ := hS W T t; go_simp⟩) ⟨_, s5⟩ ?_
    refine wpAnyH_take (i := 15) (v := .slice ya ys.length yc) rfl (by kernel_rfl) (by kernel_rfl) (by kernel_rfl) (fun _ _ _ h => h) (.inl ⟨by kernel_rfl, fun W hW => by obtain ⟨T, t⟩ := hW; obtain ⟨q1, q2⟩ := hS W T t; go_simp⟩) ⟨_, s5⟩ ?_
    refine wpAnyH_take (i := 16) (v := .string (strOf ys)) rfl (by kernel_rfl) (by kernel_rfl) (by kernel_rfl) (fun _ _ _ h => h) (.inl ⟨by kernel_rfl, fun W hW => by obtain ⟨T, t⟩ := hW; obtain ⟨q1, q2⟩ := hS W T t; go_simp⟩) ⟨_, s5⟩ ?_
    refine wpAnyH_take (i := 17) (v := .slice ta 8 tc) rfl (by kernel_rfl) (by kernel_rfl) (by kernel_rfl) (fun _ _ _ h => h) (.inl ⟨by kernel_rfl, fun W hW => by obtain ⟨T, t⟩ := hW; obtain ⟨q1, q2⟩ := hS W T t; go_simp⟩) ⟨_, s5⟩ ?_
    refine wpAnyH_take (i := 18) (v := .string (strOf (tailOf xs))) rfl (by kernel_rfl) (by kernel_rfl) (by kernel_rfl) (fun _ _ _ h => h) (.inl ⟨by kernel_rfl, fun W hW => by obtain ⟨T, t⟩ := hW; obtain ⟨q1, q2⟩ := hS W T t; go_simp⟩) ⟨_, s5⟩ ?_
    refine wpAnyH_take (i := 19) (v := .bool ((strOf ys).toList == (strOf (tailOf xs)).toList)) rfl (by kernel_rfl) (by kernel_rfl) (by kernel_rfl) (fun _ _ _ h => h) (.inl ⟨by kernel_rfl, fun W hW => by obtain ⟨T, t⟩ := hW; obtain ⟨q1, q2⟩ := hS W T t; go_simp⟩) ⟨_, s5⟩ ?_
    have he2 := ends_st s5 (.slice xa xs.length xc) (.slice ya ys.length yc) xs ys (fun W s => HX W (s.below hB)) (fun W s => HY W (s.below hB)) (by omega)
    rw [← hdec] at he2
    refine held_call (j := 14) _ (by kernel_rfl) rfl (by kernel_rfl) 19 #[.slice xa xs.length xc, .slice ya ys.length yc] (by kernel_rfl) he2 ?_
    rintro e w6 ⟨rfl, s6⟩
    refine ⟨_, rfl, ⟨_, s6⟩, ?_⟩
    clear he2 s5
    refine wpAnyH_take (i := 20) (v := .bool true) rfl (by kernel_rfl) (by kernel_rfl) (by kernel_rfl) (fun _ _ _ h => h) (.inl ⟨by kernel_rfl, fun W hW => by obtain ⟨T, t⟩ := hW; obtain ⟨q1, q2⟩ := hS W T t; go_simp; try simp⟩) ⟨_, s6⟩ ?_
    refine wpAnyH_take (i := 21) (v := .bool true) rfl (by kernel_rfl) (by kernel_rfl) (by kernel_rfl) (fun _ _ _ h => h) (.inl ⟨by kernel_rfl, fun W hW => by obtain ⟨T, t⟩ := hW; obtain ⟨q1, q2⟩ := hS W T t; go_simp⟩) ⟨_, s6⟩ ?_
    refine wpAnyH_take (i := 22) (v := .bool true) rfl (by kernel_rfl) (by kernel_rfl) (by kernel_rfl) (fun _ _ _ h => h) (.inl ⟨by kernel_rfl, fun W hW => by obtain ⟨T, t⟩ := hW; obtain ⟨q1, q2⟩ := hS W T t; go_simp⟩) ⟨_, s6⟩ ?_
    refine held_call (j := 23) _ (by kernel_rfl) rfl (by kernel_rfl) 14 #[] (by kernel_rfl) (frames_any _) ?_
    rintro e w7 ⟨rfl, hb7⟩
    have s7 := s6.quiet hb7
    refine ⟨_, rfl, ⟨_, s7⟩, ?_⟩
    clear s6 hb7
    refine wpAnyH_take (i := 24) (v := .bool true) rfl (by kernel_rfl) (by kernel_rfl) (by kernel_rfl) (fun _ _ _ h => h) (.inl ⟨by kernel_rfl, fun W hW => by obtain ⟨T, t⟩ := hW; obtain ⟨q1, q2⟩ := hS W T t; go_simp⟩) ⟨_, s7⟩ ?_
    refine wpAnyH_take (i := 25) (v := .bool true) rfl (by kernel_rfl) (by kernel_rfl) (by kernel_rfl) (fun _ _ _ h => h) (.inl ⟨by kernel_rfl, fun W hW => by obtain ⟨T, t⟩ := hW; obtain ⟨q1, q2⟩ := hS W T t; go_simp⟩) ⟨_, s7⟩ ?_
    refine wpAnyH_done (by kernel_rfl) ?_ 0
    have hfin := s7.below hB
    clear s7 hS hT
    go_simp
    go_wp2
    go_ret
    exact ⟨rfl, hfin⟩

end Go.Proofs.Ytiggbioaaglgaaa.frameTails
