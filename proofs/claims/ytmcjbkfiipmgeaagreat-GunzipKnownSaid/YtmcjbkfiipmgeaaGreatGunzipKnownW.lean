/-
  The chapter's examples; what is wrong: the walk of GunzipKnown. No conditions. (Written by wip/gen_gknown.py.)
-/
import Derived.Test.YtmcjbkfiipmgeaaGreatGzK
import Derived.Test.YtmcjbkfiipmgeaaGreatGC
namespace Go.Proofs.YtmcjbkfiipmgeaaGreat.gunzipKnown
open Go.RowKit Kraft Hd Inf Fr Gu

theorem mem_cut : memAt (smallB.take 20) = none := by
  have h1 := small_got [75, 4, 0, 67, 190, 183, 232, 1, 0, 0]
  have h2 : infl (([31, 139, 8, 0, 0, 0, 0, 0, 0, 255] ++ [75, 4, 0, 67, 190, 183, 232, 1, 0, 0]).drop 10) = some (18, [97]) := infl_more [67, 190, 183, 232, 1, 0, 0]
  exact memAt_short h1 h2 (by decide)
theorem mem_zero : memAt [0] = none := memAt_head (get_none (k := 1) (by omega) (by simp [after, rdStep]))
theorem file_cut : file (smallB.take 20) = none := file_no (fun h => by rw [goods_none mem_cut] at h; revert h; decide)
theorem file_zero : file (smallB ++ [0]) = none := file_no (fun h => by rw [goods_small, goods_none mem_zero] at h; revert h; decide)
theorem file_more : file (smallB ++ smallB.take 20) = none := file_no (fun h => by rw [goods_small, goods_none mem_cut] at h; revert h; decide)
theorem file_bad : file badB = some [⟨21, [97], false, true⟩] := by
  have h := goods_bad []
  rw [List.append_nil, goods_nil] at h
  exact file_yes h rfl (by decide)
theorem file_sb : file (smallB ++ badB) = some [⟨21, [97], false, false⟩, ⟨21, [97], false, true⟩] := file_app (by decide) file_small file_bad
theorem file_bs : file (badB ++ smallB) = some [⟨21, [97], false, true⟩, ⟨21, [97], false, false⟩] := file_app (by decide) file_bad file_small
theorem file_sum : file sumB = some [⟨23, [97], true, false⟩] := by
  have h := goods_some sum_mem
  rw [show sumB.drop 23 = [] from rfl, goods_nil] at h
  exact file_yes h rfl (by decide)

section
variable {B : Nat} {w0 w : World} {r : List Thing}

theorem litAt {b : Nat} {xs : List Nat} (st : St B w0 w (litT b xs (21, 22) :: r)) (j : Nat) (hj : j < 21) : w.cell? ⟨b, j, none⟩ = (u8s xs)[j]? ∧ w.frozen? ⟨b, j, none⟩ = false := by
  obtain ⟨S1, h1, _⟩ := st.sep
  refine ⟨?_, ?_⟩
  · rw [cell_of_row _ b j (u8s xs).toArray 5 (21, 22) h1.1]
    simp
  · simp [World.frozen?, h1.1]
    omega

theorem litSet {b : Nat} {xs : List Nat} {fr : Nat × Nat} (st : St B w0 w (litT b xs fr :: r)) (j y : Nat) : St B w0 (w.setCell ⟨b, j, none⟩ (.int .u8 (y : Int))) (litT b (xs.set j y) fr :: r) := by
  refine st.step fun S hS => ⟨S, ⟨?_, hS.2⟩, ?_, fun k hk => .inl hk⟩
  · rw [setCell_eq_setRow w b j _ _ _ _ hS.1, setRow_heap w b _ _ _ _ hS.1]
    congr 2
    rw [u8s_set]
    simp
  · have hg : S b := (hS.2 b).2 rfl
    exact (Only.refl _ _).setCell (fun _ => hg) _
end

set_option maxRecDepth 100000 in
set_option maxHeartbeats 16000000 in
theorem walk (w : World) : Calls Tryz.prog 7 #[] w fun e w' => e = .returned (.bool true) ∧ Below w.heap.size w w' := by
  have hB := Nat.le_refl w.heap.size
  have hcv := Crc.run_convert_lit
  go_enter Tryz.func7, Tryz.ntmps7
  go_wp2_with fail
  refine (small_st (St.start w)).mono ?_
  rintro e w1 ⟨b1, rfl, s1⟩
  go_wp2_with fail
  refine (small_st s1).mono ?_
  rintro e w2 ⟨b2, rfl, s2⟩
  go_wp2_with (at_builtin; refine wpList_append_full rfl _ _ rfl s2 (xs := smallB) (ys := smallB) (s2.litRow11 (by decide)) (St.litRow11 s2.swap (by decide)) (by decide) rfl rfl (by decide) ?_)
  intro v3 w3 s3
  obtain ⟨a3, c3, rfl⟩ : ∃ a c, v3 = .slice a 42 c := ownsRow_slice s3.row
  have g1 := gunzip_says s3 (.slice a3 42 c3) (smallB ++ smallB) (byteRow_owns (by rw [u8s_append]; exact s3.row) (by decide)) (by decide) 9 2 2 42 false (by omega) file_two (o := [97, 97]) rfl rfl rfl rfl rfl
  clear s1 s2
  go_wp2_with fail
  refine g1.mono ?_
  rintro e w4 ⟨oa, oc, rfl, s4⟩
  have s5 := s4.newBox #[.slice oa 2 oc, .int .i64 2, .int .i64 42, .bool false] 28
  clear g1 s3 s4
  go_wp2_with fail
  refine (small_st s5).mono ?_
  rintro e w5 ⟨b5, rfl, s6⟩
  have s7 := litRow s6 [0] (by simp)
  have hz7 := s7.bytesRow (by decide)
  go_wp2_with (at_builtin; refine wpList_append_full rfl _ _ rfl s7 (xs := smallB) (ys := [0]) (St.litRow11 s7.swap (by decide)) hz7 (by decide) rfl rfl (by decide) ?_)
  intro v6 w6 s8
  obtain ⟨a6, c6, rfl⟩ : ∃ a c, v6 = .slice a 22 c := ownsRow_slice s8.row
  have g2 := gunzip_fails s8 (.slice a6 22 c6) (smallB ++ [0]) (byteRow_owns (by rw [u8s_append]; exact s8.row) (by decide)) (by decide) 9 (by omega) file_zero
  clear s5 s6 s7 hz7
  go_wp2_with fail
  refine g2.mono ?_
  rintro e w7 ⟨rfl, s9⟩
  have sA := s9.newBox #[.slice none 0 0, .int .i64 0, .int .i64 0, .bool false] 28
  have hcut : ∀ W T, St w.heap.size w W (litT b1 smallB (21, 22) :: T) → ByteRow W (.slice (some ⟨b1, 0, none⟩) 20 21) (smallB.take 20) := fun W T t => byteRow_first (t.litRow11 (by decide)) 20 (by decide)
  have g3 := gunzip_fails sA (.slice (some ⟨b1, 0, none⟩) 20 21) (smallB.take 20) (hcut _ _ (sA.front 8)) (by decide) 9 (by omega) file_cut
  clear g2 s8 s9
  go_wp2_with fail
  refine g3.mono ?_
  rintro e w8 ⟨rfl, sB⟩
  have sC := sB.newBox #[.slice none 0 0, .int .i64 0, .int .i64 0, .bool false] 28
  have g4 := gunzip_arg sC (.slice (some ⟨b1, 0, none⟩) 21 21) (-1) (by decide)
  clear g3 sA sB
  go_wp2_with fail
  refine g4.mono ?_
  rintro e w9 ⟨rfl, sD⟩
  have sE := sD.newBox #[.slice none 0 0, .int .i64 0, .int .i64 0, .bool false] 28
  clear g4 sC sD
  obtain ⟨TB, hTB⟩ : ∃ b, w4.heap.size = b := ⟨_, rfl⟩
  rw [hTB] at sE
  have sF : St w.heap.size w (w9.alloc (.cells #[.slice none 0 0, .int .i64 0, .int .i64 0, .bool false] 28)) (litT b1 smallB (21, 22) :: boxT TB #[.slice oa 2 oc, .int .i64 2, .int .i64 42, .bool false] 28 :: rowT 5 1 (.slice oa 2 oc) 2 (u8s [97, 97]) :: []) := ((((sE.drop.drop.drop.drop.drop.drop).front 3).drop.front 2).drop).front 2
  clear sE
  go_wp2_with fail
  try rw [hTB]
  clear hTB
  refine region_seg (by kernel_rfl) [1] 10 rfl (by kernel_rfl) (by kernel_rfl) (fun _ _ d _ _ h => by cases d <;> exact h) ?_
  have sd := sF.drew
  clear sF
  generalize (w9.alloc (.cells #[.slice none 0 0, .int .i64 0, .int .i64 0, .bool false] 28)).drew = wd at *
  intro K hK
  simp only [pickL]
  go_wp2_with fail
  try clear hK K
  refine wpAny_of_held (S := fun _ => True) _ _ _ _ ?_
  refine wpAnyH_take (i := 2) (v := .slice (some ⟨b1, 0, none⟩) 20 21) rfl (by kernel_rfl) (by kernel_rfl) (by kernel_rfl) (fun _ _ _ h => h) (.inl ⟨by kernel_rfl, fun W _ => by go_simp; try simp⟩) trivial ?_
  refine held_two (i := 0) (j := 8) _ _ (by kernel_rfl) rfl rfl ?_ ?_
  · intro N hN
    go_wp2_with fail
    refine (small_st sd).mono ?_
    rintro e wa ⟨bb, rfl, sa⟩
    go_wp2_with fail
    refine hN _ _ trivial ?_
    try clear hN N
    refine held_two (i := 3) (j := 8) _ _ (by kernel_rfl) rfl rfl ?_ ?_
    · intro N hN
      refine wpList_append_full (by kernel_rfl) _ _ rfl sa (xs := smallB) (ys := smallB.take 20) (St.litRow11 (sa.front 0) (by decide)) (hcut _ _ (sa.front 1)) (by decide) (by kernel_rfl) (by kernel_rfl) (by decide) ?_
      intro v9 wc sc
      obtain ⟨a9, c9, rfl⟩ : ∃ a c, v9 = .slice a 41 c := ownsRow_slice sc.row
      go_wp2_with fail
      refine hN _ _ trivial ?_
      try clear hN N
      refine held_two (i := 4) (j := 8) _ _ (by kernel_rfl) rfl rfl ?_ ?_
      · intro N hN
        have g5 := gunzip_fails sc (.slice a9 41 c9) (smallB ++ smallB.take 20) (byteRow_owns (by rw [u8s_append]; exact St.row (sc.front 0)) (by decide)) (by decide) 9 (by omega) file_more
        go_wp2_with fail
        refine g5.mono ?_
        rintro e we ⟨rfl, se⟩
        go_wp2_with fail
        refine hN _ _ trivial ?_
        try clear hN N
        clear g5
        refine wpAnyH_take (i := 5) (v := .tuple #[.agg #[.slice none 0 0, .int .i64 0, .int .i64 0, .bool false], .int .i64 2]) rfl (by kernel_rfl) (by kernel_rfl) (by kernel_rfl) (fun _ _ _ h => h) (.inl ⟨by kernel_rfl, fun W _ => by go_simp; try simp⟩) trivial ?_
        refine wpAnyH_take (i := 6) (v := .agg #[.slice none 0 0, .int .i64 0, .int .i64 0, .bool false]) rfl (by kernel_rfl) (by kernel_rfl) (by kernel_rfl) (fun _ _ _ h => h) (.inl ⟨by kernel_rfl, fun W _ => by go_simp; try simp⟩) trivial ?_
        refine wpAnyH_take (i := 7) (v := .int .i64 2) rfl (by kernel_rfl) (by kernel_rfl) (by kernel_rfl) (fun _ _ _ h => h) (.inl ⟨by kernel_rfl, fun W _ => by go_simp; try simp⟩) trivial ?_
        refine held_step (j := 8) _ (by kernel_rfl) rfl ?_
        intro N hN
        have sb := se.newBox #[.slice none 0 0, .int .i64 0, .int .i64 0, .bool false] 28
        obtain ⟨XB, hXB⟩ : ∃ b, we.heap.size = b := ⟨_, rfl⟩
        rw [hXB] at sb
        go_wp2_with fail
        refine hN _ _ trivial ?_
        try clear hN N
        clear hXB
        generalize we.alloc (.cells #[.slice none 0 0, .int .i64 0, .int .i64 0, .bool false] 28) = wb at *
        have tx := sb.front 0
        have x0 : wb.cell? ⟨XB, 0, none⟩ = some (.slice none 0 0) := (St.boxAt tx 0).1
        have x1 : wb.cell? ⟨XB, 1, none⟩ = some (.int .i64 0) := (St.boxAt tx 1).1
        have x2 : wb.cell? ⟨XB, 2, none⟩ = some (.int .i64 0) := (St.boxAt tx 2).1
        have x3 : wb.cell? ⟨XB, 3, none⟩ = some (.bool false) := (St.boxAt tx 3).1
        have z0 := (St.boxAt tx 0).2
        have z1 := (St.boxAt tx 1).2
        have z2 := (St.boxAt tx 2).2
        have z3 := (St.boxAt tx 3).2
        have ty := (((tx.setBoxAt 0 (.slice none 0 0)).setBoxAt 1 (.int .i64 0)).setBoxAt 2 (.int .i64 0)).setBoxAt 3 (.bool false)
        refine held_step (j := 9) _ (by kernel_rfl) rfl ?_
        intro N hN
        go_wp2_with fail
        refine hN _ _ trivial ?_
        try clear hN N
        clear x0 x1 x2 x3 z0 z1 z2 z3
        replace ty := ty.drop
        generalize (((wb.setCell ⟨XB, 0, none⟩ (.slice none 0 0)).setCell ⟨XB, 1, none⟩ (.int .i64 0)).setCell ⟨XB, 2, none⟩ (.int .i64 0)).setCell ⟨XB, 3, none⟩ (.bool false) = wf at *
        refine held_step (j := 10) _ (by kernel_rfl) rfl ?_
        intro N hN
        go_wp2_with fail
        refine hN _ _ trivial ?_
        try clear hN N
        have t6 : St w.heap.size w wf (litT b1 smallB (21, 22) :: boxT TB #[.slice oa 2 oc, .int .i64 2, .int .i64 42, .bool false] 28 :: rowT 5 1 (.slice oa 2 oc) 2 (u8s [97, 97]) :: []) := ty.drop.drop
        clear ty tx
        refine wpAnyH_done (by kernel_rfl) ?_ 0
        go_wp2_with fail
        refine (small_st t6).mono ?_
        rintro e u1 ⟨bd, rfl, t7⟩
        have c20 : u1.cell? ⟨bd, 20, none⟩ = some (.int .u8 0) := (litAt t7 20 (by omega)).1
        have f20 := (litAt t7 20 (by omega)).2
        have t8 := litSet t7 20 1
        replace t8 : St w.heap.size w (u1.setCell ⟨bd, 20, none⟩ (.int .u8 1)) (litT bd badB (21, 22) :: litT b1 smallB (21, 22) :: boxT TB #[.slice oa 2 oc, .int .i64 2, .int .i64 42, .bool false] 28 :: rowT 5 1 (.slice oa 2 oc) 2 (u8s [97, 97]) :: []) := t8
        have g6 := gunzip_says t8 (.slice (some ⟨bd, 0, none⟩) 21 21) badB (t8.litRow11 (by decide)) (by decide) 9 1 1 21 true (by omega) file_bad (o := [97]) rfl rfl rfl rfl rfl
        clear t6 t7
        go_wp2_with fail
        refine g6.mono ?_
        rintro e u2 ⟨ob, od, rfl, t9⟩
        have t10 := t9.newBox #[.slice ob 1 od, .int .i64 1, .int .i64 21, .bool true] 28
        have g7 := gunzip_says t10 (.slice (some ⟨bd, 0, none⟩) 21 21) badB (St.litRow11 (t10.front 2) (by decide)) (by decide) 0 0 1 21 false (by omega) file_bad (o := []) rfl rfl rfl rfl rfl
        clear g6 t8 t9 c20 f20
        go_wp2_with fail
        refine g7.mono ?_
        rintro e u3 ⟨ob3, od3, rfl, t11⟩
        have t12 := t11.newBox #[.slice ob3 0 od3, .int .i64 1, .int .i64 21, .bool false] 28
        clear g7 t10 t11
        go_wp2_with fail
        refine (small_st t12).mono ?_
        rintro e u4 ⟨bs, rfl, t13⟩
        clear t12
        go_wp2_with (at_builtin; refine wpList_append_full rfl _ _ rfl t13 (xs := smallB) (ys := badB) (t13.litRow11 (by decide)) (St.litRow11 (t13.front 5) (by decide)) (by decide) rfl rfl (by decide) ?_)
        intro v5 u5 t14
        obtain ⟨q5, p5, rfl⟩ : ∃ a c, v5 = .slice a 42 c := ownsRow_slice t14.row
        have g8 := gunzip_says t14 (.slice q5 42 p5) (smallB ++ badB) (byteRow_owns (by rw [u8s_append]; exact t14.row) (by decide)) (by decide) 1 1 2 42 false (by omega) file_sb (o := [97]) rfl rfl rfl rfl rfl
        clear t13
        go_wp2_with fail
        refine g8.mono ?_
        rintro e u6 ⟨ob6, od6, rfl, t15⟩
        have t16 := t15.newBox #[.slice ob6 1 od6, .int .i64 2, .int .i64 42, .bool false] 28
        clear g8 t14 t15
        go_wp2_with (at_builtin; refine wpList_append_full rfl _ _ rfl t16 (xs := badB) (ys := smallB) (St.litRow11 (t16.front 8) (by decide)) (St.litRow11 (t16.front 9) (by decide)) (by decide) rfl rfl (by decide) ?_)
        intro v7 u7 t17
        obtain ⟨q7, p7, rfl⟩ : ∃ a c, v7 = .slice a 42 c := ownsRow_slice t17.row
        have g9 := gunzip_says t17 (.slice q7 42 p7) (badB ++ smallB) (byteRow_owns (by rw [u8s_append]; exact t17.row) (by decide)) (by decide) 1 1 2 42 true (by omega) file_bs (o := [97]) rfl rfl rfl rfl rfl
        clear t16
        go_wp2_with fail
        refine g9.mono ?_
        rintro e u8 ⟨ob8, od8, rfl, t18⟩
        have t19 := t18.newBox #[.slice ob8 1 od8, .int .i64 2, .int .i64 42, .bool true] 28
        have t20 := t19.newLit sumB (23, 24)
        have g10 := gunzip_says t20 (.slice (some ⟨(u8.alloc (.cells #[.slice ob8 1 od8, .int .i64 2, .int .i64 42, .bool true] 28)).heap.size, 0, none⟩) 23 23) sumB (t20.litRow11 (by decide)) (by decide) 0 0 1 23 true (by omega) file_sum (o := []) rfl rfl rfl rfl rfl
        rw [show (u8.alloc (.cells #[.slice ob8 1 od8, .int .i64 2, .int .i64 42, .bool true] 28)).heap.size = u8.heap.size + 1 from by simp] at g10
        have hcv2 : (convert 26 26 (.slice (some ⟨u8.heap.size + 1, 0, none⟩) 23 23)).run Tryz.prog ((u8.alloc (.cells #[.slice ob8 1 od8, .int .i64 2, .int .i64 42, .bool true] 28)).alloc (.cells #[.int .u8 31, .int .u8 139, .int .u8 8, .int .u8 2, .int .u8 0, .int .u8 0, .int .u8 0, .int .u8 0, .int .u8 0, .int .u8 255, .int .u8 0, .int .u8 0, .int .u8 75, .int .u8 4, .int .u8 0, .int .u8 67, .int .u8 190, .int .u8 183, .int .u8 232, .int .u8 1, .int .u8 0, .int .u8 0, .int .u8 0] 5)) = .ok (.slice (some ⟨u8.heap.size + 1, 0, none⟩) 23 23) ((u8.alloc (.cells #[.slice ob8 1 od8, .int .i64 2, .int .i64 42, .bool true] 28)).alloc (.cells #[.int .u8 31, .int .u8 139, .int .u8 8, .int .u8 2, .int .u8 0, .int .u8 0, .int .u8 0, .int .u8 0, .int .u8 0, .int .u8 255, .int .u8 0, .int .u8 0, .int .u8 75, .int .u8 4, .int .u8 0, .int .u8 67, .int .u8 190, .int .u8 183, .int .u8 232, .int .u8 1, .int .u8 0, .int .u8 0, .int .u8 0] 5 (23, 24))) := by
          have h := Crc.run_convert_lit (u8.alloc (.cells #[.slice ob8 1 od8, .int .i64 2, .int .i64 42, .bool true] 28)) #[.int .u8 31, .int .u8 139, .int .u8 8, .int .u8 2, .int .u8 0, .int .u8 0, .int .u8 0, .int .u8 0, .int .u8 0, .int .u8 255, .int .u8 0, .int .u8 0, .int .u8 75, .int .u8 4, .int .u8 0, .int .u8 67, .int .u8 190, .int .u8 183, .int .u8 232, .int .u8 1, .int .u8 0, .int .u8 0, .int .u8 0] 23 23
          rw [show (u8.alloc (.cells #[.slice ob8 1 od8, .int .i64 2, .int .i64 42, .bool true] 28)).heap.size = u8.heap.size + 1 from by simp] at h
          exact h
        clear g9 t17 t18 t19
        go_wp2_with fail
        refine g10.mono ?_
        rintro e u9 ⟨obA, odA, rfl, t21⟩
        have t22 := t21.newBox #[.slice obA 0 odA, .int .i64 1, .int .i64 23, .bool true] 28
        clear g10 t20 t21 hcv2
        have q1 := run_string _ _ _ (Reads.of_owns (St.row (t22.front 17)))
        rw [show strOf [97, 97] = ⟨#[97, 97]⟩ from by decide] at q1
        have k0 : (u9.alloc (.cells #[.slice obA 0 odA, .int .i64 1, .int .i64 23, .bool true] 28)).cell? ⟨TB, 0, none⟩ = some (.slice oa 2 oc) := (St.boxAt (t22.front 16) 0).1
        have k13 : (u9.alloc (.cells #[.slice obA 0 odA, .int .i64 1, .int .i64 23, .bool true] 28)).cell? ⟨u2.heap.size, 3, none⟩ = some (.bool true) := (St.boxAt (t22.front 12) 3).1
        have k15 : (u9.alloc (.cells #[.slice obA 0 odA, .int .i64 1, .int .i64 23, .bool true] 28)).cell? ⟨u3.heap.size, 3, none⟩ = some (.bool false) := (St.boxAt (t22.front 10) 3).1
        have k16 : (u9.alloc (.cells #[.slice obA 0 odA, .int .i64 1, .int .i64 23, .bool true] 28)).cell? ⟨u3.heap.size, 1, none⟩ = some (.int .i64 1) := (St.boxAt (t22.front 10) 1).1
        have k17 : (u9.alloc (.cells #[.slice obA 0 odA, .int .i64 1, .int .i64 23, .bool true] 28)).cell? ⟨u6.heap.size, 3, none⟩ = some (.bool false) := (St.boxAt (t22.front 6) 3).1
        have k19 : (u9.alloc (.cells #[.slice obA 0 odA, .int .i64 1, .int .i64 23, .bool true] 28)).cell? ⟨u8.heap.size, 3, none⟩ = some (.bool true) := (St.boxAt (t22.front 3) 3).1
        have hbel := t22.below hB
        clear t22
        go_wp2_with fail
        refine (opens_any _).mono ?_
        rintro e u10 ⟨rfl, hb10⟩
        go_wp2
        go_ret
        exact ⟨rfl, hbel.trans (hb10.mono hbel.size)⟩
      · intro N hN
        have sb := sc.newBox #[.slice none 0 0, .int .i64 0, .int .i64 0, .bool false] 28
        obtain ⟨XB, hXB⟩ : ∃ b, wc.heap.size = b := ⟨_, rfl⟩
        rw [hXB] at sb
        go_wp2_with fail
        refine hN _ _ trivial ?_
        try clear hN N
        clear hXB
        generalize wc.alloc (.cells #[.slice none 0 0, .int .i64 0, .int .i64 0, .bool false] 28) = wb at *
        refine held_step (j := 4) _ (by kernel_rfl) rfl ?_
        intro N hN
        have g5 := gunzip_fails sb (.slice a9 41 c9) (smallB ++ smallB.take 20) (byteRow_owns (by rw [u8s_append]; exact St.row (sb.front 1)) (by decide)) (by decide) 9 (by omega) file_more
        go_wp2_with fail
        refine g5.mono ?_
        rintro e we ⟨rfl, se⟩
        go_wp2_with fail
        refine hN _ _ trivial ?_
        try clear hN N
        clear g5
        refine wpAnyH_take (i := 5) (v := .tuple #[.agg #[.slice none 0 0, .int .i64 0, .int .i64 0, .bool false], .int .i64 2]) rfl (by kernel_rfl) (by kernel_rfl) (by kernel_rfl) (fun _ _ _ h => h) (.inl ⟨by kernel_rfl, fun W _ => by go_simp; try simp⟩) trivial ?_
        refine wpAnyH_take (i := 6) (v := .agg #[.slice none 0 0, .int .i64 0, .int .i64 0, .bool false]) rfl (by kernel_rfl) (by kernel_rfl) (by kernel_rfl) (fun _ _ _ h => h) (.inl ⟨by kernel_rfl, fun W _ => by go_simp; try simp⟩) trivial ?_
        refine wpAnyH_take (i := 7) (v := .int .i64 2) rfl (by kernel_rfl) (by kernel_rfl) (by kernel_rfl) (fun _ _ _ h => h) (.inl ⟨by kernel_rfl, fun W _ => by go_simp; try simp⟩) trivial ?_
        have tx := se.front 0
        have x0 : we.cell? ⟨XB, 0, none⟩ = some (.slice none 0 0) := (St.boxAt tx 0).1
        have x1 : we.cell? ⟨XB, 1, none⟩ = some (.int .i64 0) := (St.boxAt tx 1).1
        have x2 : we.cell? ⟨XB, 2, none⟩ = some (.int .i64 0) := (St.boxAt tx 2).1
        have x3 : we.cell? ⟨XB, 3, none⟩ = some (.bool false) := (St.boxAt tx 3).1
        have z0 := (St.boxAt tx 0).2
        have z1 := (St.boxAt tx 1).2
        have z2 := (St.boxAt tx 2).2
        have z3 := (St.boxAt tx 3).2
        have ty := (((tx.setBoxAt 0 (.slice none 0 0)).setBoxAt 1 (.int .i64 0)).setBoxAt 2 (.int .i64 0)).setBoxAt 3 (.bool false)
        refine held_step (j := 9) _ (by kernel_rfl) rfl ?_
        intro N hN
        go_wp2_with fail
        refine hN _ _ trivial ?_
        try clear hN N
        clear x0 x1 x2 x3 z0 z1 z2 z3
        replace ty := ty.drop
        generalize (((we.setCell ⟨XB, 0, none⟩ (.slice none 0 0)).setCell ⟨XB, 1, none⟩ (.int .i64 0)).setCell ⟨XB, 2, none⟩ (.int .i64 0)).setCell ⟨XB, 3, none⟩ (.bool false) = wf at *
        refine held_step (j := 10) _ (by kernel_rfl) rfl ?_
        intro N hN
        go_wp2_with fail
        refine hN _ _ trivial ?_
        try clear hN N
        have t6 : St w.heap.size w wf (litT b1 smallB (21, 22) :: boxT TB #[.slice oa 2 oc, .int .i64 2, .int .i64 42, .bool false] 28 :: rowT 5 1 (.slice oa 2 oc) 2 (u8s [97, 97]) :: []) := ty.drop.drop
        clear ty tx
        refine wpAnyH_done (by kernel_rfl) ?_ 0
        go_wp2_with fail
        refine (small_st t6).mono ?_
        rintro e u1 ⟨bd, rfl, t7⟩
        have c20 : u1.cell? ⟨bd, 20, none⟩ = some (.int .u8 0) := (litAt t7 20 (by omega)).1
        have f20 := (litAt t7 20 (by omega)).2
        have t8 := litSet t7 20 1
        replace t8 : St w.heap.size w (u1.setCell ⟨bd, 20, none⟩ (.int .u8 1)) (litT bd badB (21, 22) :: litT b1 smallB (21, 22) :: boxT TB #[.slice oa 2 oc, .int .i64 2, .int .i64 42, .bool false] 28 :: rowT 5 1 (.slice oa 2 oc) 2 (u8s [97, 97]) :: []) := t8
        have g6 := gunzip_says t8 (.slice (some ⟨bd, 0, none⟩) 21 21) badB (t8.litRow11 (by decide)) (by decide) 9 1 1 21 true (by omega) file_bad (o := [97]) rfl rfl rfl rfl rfl
        clear t6 t7
        go_wp2_with fail
        refine g6.mono ?_
        rintro e u2 ⟨ob, od, rfl, t9⟩
        have t10 := t9.newBox #[.slice ob 1 od, .int .i64 1, .int .i64 21, .bool true] 28
        have g7 := gunzip_says t10 (.slice (some ⟨bd, 0, none⟩) 21 21) badB (St.litRow11 (t10.front 2) (by decide)) (by decide) 0 0 1 21 false (by omega) file_bad (o := []) rfl rfl rfl rfl rfl
        clear g6 t8 t9 c20 f20
        go_wp2_with fail
        refine g7.mono ?_
        rintro e u3 ⟨ob3, od3, rfl, t11⟩
        have t12 := t11.newBox #[.slice ob3 0 od3, .int .i64 1, .int .i64 21, .bool false] 28
        clear g7 t10 t11
        go_wp2_with fail
        refine (small_st t12).mono ?_
        rintro e u4 ⟨bs, rfl, t13⟩
        clear t12
        go_wp2_with (at_builtin; refine wpList_append_full rfl _ _ rfl t13 (xs := smallB) (ys := badB) (t13.litRow11 (by decide)) (St.litRow11 (t13.front 5) (by decide)) (by decide) rfl rfl (by decide) ?_)
        intro v5 u5 t14
        obtain ⟨q5, p5, rfl⟩ : ∃ a c, v5 = .slice a 42 c := ownsRow_slice t14.row
        have g8 := gunzip_says t14 (.slice q5 42 p5) (smallB ++ badB) (byteRow_owns (by rw [u8s_append]; exact t14.row) (by decide)) (by decide) 1 1 2 42 false (by omega) file_sb (o := [97]) rfl rfl rfl rfl rfl
        clear t13
        go_wp2_with fail
        refine g8.mono ?_
        rintro e u6 ⟨ob6, od6, rfl, t15⟩
        have t16 := t15.newBox #[.slice ob6 1 od6, .int .i64 2, .int .i64 42, .bool false] 28
        clear g8 t14 t15
        go_wp2_with (at_builtin; refine wpList_append_full rfl _ _ rfl t16 (xs := badB) (ys := smallB) (St.litRow11 (t16.front 8) (by decide)) (St.litRow11 (t16.front 9) (by decide)) (by decide) rfl rfl (by decide) ?_)
        intro v7 u7 t17
        obtain ⟨q7, p7, rfl⟩ : ∃ a c, v7 = .slice a 42 c := ownsRow_slice t17.row
        have g9 := gunzip_says t17 (.slice q7 42 p7) (badB ++ smallB) (byteRow_owns (by rw [u8s_append]; exact t17.row) (by decide)) (by decide) 1 1 2 42 true (by omega) file_bs (o := [97]) rfl rfl rfl rfl rfl
        clear t16
        go_wp2_with fail
        refine g9.mono ?_
        rintro e u8 ⟨ob8, od8, rfl, t18⟩
        have t19 := t18.newBox #[.slice ob8 1 od8, .int .i64 2, .int .i64 42, .bool true] 28
        have t20 := t19.newLit sumB (23, 24)
        have g10 := gunzip_says t20 (.slice (some ⟨(u8.alloc (.cells #[.slice ob8 1 od8, .int .i64 2, .int .i64 42, .bool true] 28)).heap.size, 0, none⟩) 23 23) sumB (t20.litRow11 (by decide)) (by decide) 0 0 1 23 true (by omega) file_sum (o := []) rfl rfl rfl rfl rfl
        rw [show (u8.alloc (.cells #[.slice ob8 1 od8, .int .i64 2, .int .i64 42, .bool true] 28)).heap.size = u8.heap.size + 1 from by simp] at g10
        have hcv2 : (convert 26 26 (.slice (some ⟨u8.heap.size + 1, 0, none⟩) 23 23)).run Tryz.prog ((u8.alloc (.cells #[.slice ob8 1 od8, .int .i64 2, .int .i64 42, .bool true] 28)).alloc (.cells #[.int .u8 31, .int .u8 139, .int .u8 8, .int .u8 2, .int .u8 0, .int .u8 0, .int .u8 0, .int .u8 0, .int .u8 0, .int .u8 255, .int .u8 0, .int .u8 0, .int .u8 75, .int .u8 4, .int .u8 0, .int .u8 67, .int .u8 190, .int .u8 183, .int .u8 232, .int .u8 1, .int .u8 0, .int .u8 0, .int .u8 0] 5)) = .ok (.slice (some ⟨u8.heap.size + 1, 0, none⟩) 23 23) ((u8.alloc (.cells #[.slice ob8 1 od8, .int .i64 2, .int .i64 42, .bool true] 28)).alloc (.cells #[.int .u8 31, .int .u8 139, .int .u8 8, .int .u8 2, .int .u8 0, .int .u8 0, .int .u8 0, .int .u8 0, .int .u8 0, .int .u8 255, .int .u8 0, .int .u8 0, .int .u8 75, .int .u8 4, .int .u8 0, .int .u8 67, .int .u8 190, .int .u8 183, .int .u8 232, .int .u8 1, .int .u8 0, .int .u8 0, .int .u8 0] 5 (23, 24))) := by
          have h := Crc.run_convert_lit (u8.alloc (.cells #[.slice ob8 1 od8, .int .i64 2, .int .i64 42, .bool true] 28)) #[.int .u8 31, .int .u8 139, .int .u8 8, .int .u8 2, .int .u8 0, .int .u8 0, .int .u8 0, .int .u8 0, .int .u8 0, .int .u8 255, .int .u8 0, .int .u8 0, .int .u8 75, .int .u8 4, .int .u8 0, .int .u8 67, .int .u8 190, .int .u8 183, .int .u8 232, .int .u8 1, .int .u8 0, .int .u8 0, .int .u8 0] 23 23
          rw [show (u8.alloc (.cells #[.slice ob8 1 od8, .int .i64 2, .int .i64 42, .bool true] 28)).heap.size = u8.heap.size + 1 from by simp] at h
          exact h
        clear g9 t17 t18 t19
        go_wp2_with fail
        refine g10.mono ?_
        rintro e u9 ⟨obA, odA, rfl, t21⟩
        have t22 := t21.newBox #[.slice obA 0 odA, .int .i64 1, .int .i64 23, .bool true] 28
        clear g10 t20 t21 hcv2
        have q1 := run_string _ _ _ (Reads.of_owns (St.row (t22.front 17)))
        rw [show strOf [97, 97] = ⟨#[97, 97]⟩ from by decide] at q1
        have k0 : (u9.alloc (.cells #[.slice obA 0 odA, .int .i64 1, .int .i64 23, .bool true] 28)).cell? ⟨TB, 0, none⟩ = some (.slice oa 2 oc) := (St.boxAt (t22.front 16) 0).1
        have k13 : (u9.alloc (.cells #[.slice obA 0 odA, .int .i64 1, .int .i64 23, .bool true] 28)).cell? ⟨u2.heap.size, 3, none⟩ = some (.bool true) := (St.boxAt (t22.front 12) 3).1
        have k15 : (u9.alloc (.cells #[.slice obA 0 odA, .int .i64 1, .int .i64 23, .bool true] 28)).cell? ⟨u3.heap.size, 3, none⟩ = some (.bool false) := (St.boxAt (t22.front 10) 3).1
        have k16 : (u9.alloc (.cells #[.slice obA 0 odA, .int .i64 1, .int .i64 23, .bool true] 28)).cell? ⟨u3.heap.size, 1, none⟩ = some (.int .i64 1) := (St.boxAt (t22.front 10) 1).1
        have k17 : (u9.alloc (.cells #[.slice obA 0 odA, .int .i64 1, .int .i64 23, .bool true] 28)).cell? ⟨u6.heap.size, 3, none⟩ = some (.bool false) := (St.boxAt (t22.front 6) 3).1
        have k19 : (u9.alloc (.cells #[.slice obA 0 odA, .int .i64 1, .int .i64 23, .bool true] 28)).cell? ⟨u8.heap.size, 3, none⟩ = some (.bool true) := (St.boxAt (t22.front 3) 3).1
        have hbel := t22.below hB
        clear t22
        go_wp2_with fail
        refine (opens_any _).mono ?_
        rintro e u10 ⟨rfl, hb10⟩
        go_wp2
        go_ret
        exact ⟨rfl, hbel.trans (hb10.mono hbel.size)⟩
    · intro N hN
      have sb := sa.newBox #[.slice none 0 0, .int .i64 0, .int .i64 0, .bool false] 28
      obtain ⟨XB, hXB⟩ : ∃ b, wa.heap.size = b := ⟨_, rfl⟩
      rw [hXB] at sb
      go_wp2_with fail
      refine hN _ _ trivial ?_
      try clear hN N
      clear hXB
      generalize wa.alloc (.cells #[.slice none 0 0, .int .i64 0, .int .i64 0, .bool false] 28) = wb at *
      refine held_step (j := 3) _ (by kernel_rfl) rfl ?_
      intro N hN
      refine wpList_append_full (by kernel_rfl) _ _ rfl sb (xs := smallB) (ys := smallB.take 20) (St.litRow11 (sb.front 1) (by decide)) (hcut _ _ (sb.front 2)) (by decide) (by kernel_rfl) (by kernel_rfl) (by decide) ?_
      intro v9 wc sc
      obtain ⟨a9, c9, rfl⟩ : ∃ a c, v9 = .slice a 41 c := ownsRow_slice sc.row
      go_wp2_with fail
      refine hN _ _ trivial ?_
      try clear hN N
      refine held_step (j := 4) _ (by kernel_rfl) rfl ?_
      intro N hN
      have g5 := gunzip_fails sc (.slice a9 41 c9) (smallB ++ smallB.take 20) (byteRow_owns (by rw [u8s_append]; exact St.row (sc.front 0)) (by decide)) (by decide) 9 (by omega) file_more
      go_wp2_with fail
      refine g5.mono ?_
      rintro e we ⟨rfl, se⟩
      go_wp2_with fail
      refine hN _ _ trivial ?_
      try clear hN N
      clear g5
      refine wpAnyH_take (i := 5) (v := .tuple #[.agg #[.slice none 0 0, .int .i64 0, .int .i64 0, .bool false], .int .i64 2]) rfl (by kernel_rfl) (by kernel_rfl) (by kernel_rfl) (fun _ _ _ h => h) (.inl ⟨by kernel_rfl, fun W _ => by go_simp; try simp⟩) trivial ?_
      refine wpAnyH_take (i := 6) (v := .agg #[.slice none 0 0, .int .i64 0, .int .i64 0, .bool false]) rfl (by kernel_rfl) (by kernel_rfl) (by kernel_rfl) (fun _ _ _ h => h) (.inl ⟨by kernel_rfl, fun W _ => by go_simp; try simp⟩) trivial ?_
      refine wpAnyH_take (i := 7) (v := .int .i64 2) rfl (by kernel_rfl) (by kernel_rfl) (by kernel_rfl) (fun _ _ _ h => h) (.inl ⟨by kernel_rfl, fun W _ => by go_simp; try simp⟩) trivial ?_
      have tx := se.front 1
      have x0 : we.cell? ⟨XB, 0, none⟩ = some (.slice none 0 0) := (St.boxAt tx 0).1
      have x1 : we.cell? ⟨XB, 1, none⟩ = some (.int .i64 0) := (St.boxAt tx 1).1
      have x2 : we.cell? ⟨XB, 2, none⟩ = some (.int .i64 0) := (St.boxAt tx 2).1
      have x3 : we.cell? ⟨XB, 3, none⟩ = some (.bool false) := (St.boxAt tx 3).1
      have z0 := (St.boxAt tx 0).2
      have z1 := (St.boxAt tx 1).2
      have z2 := (St.boxAt tx 2).2
      have z3 := (St.boxAt tx 3).2
      have ty := (((tx.setBoxAt 0 (.slice none 0 0)).setBoxAt 1 (.int .i64 0)).setBoxAt 2 (.int .i64 0)).setBoxAt 3 (.bool false)
      refine held_step (j := 9) _ (by kernel_rfl) rfl ?_
      intro N hN
      go_wp2_with fail
      refine hN _ _ trivial ?_
      try clear hN N
      clear x0 x1 x2 x3 z0 z1 z2 z3
      replace ty := ty.drop
      generalize (((we.setCell ⟨XB, 0, none⟩ (.slice none 0 0)).setCell ⟨XB, 1, none⟩ (.int .i64 0)).setCell ⟨XB, 2, none⟩ (.int .i64 0)).setCell ⟨XB, 3, none⟩ (.bool false) = wf at *
      refine held_step (j := 10) _ (by kernel_rfl) rfl ?_
      intro N hN
      go_wp2_with fail
      refine hN _ _ trivial ?_
      try clear hN N
      have t6 : St w.heap.size w wf (litT b1 smallB (21, 22) :: boxT TB #[.slice oa 2 oc, .int .i64 2, .int .i64 42, .bool false] 28 :: rowT 5 1 (.slice oa 2 oc) 2 (u8s [97, 97]) :: []) := ty.drop.drop
      clear ty tx
      refine wpAnyH_done (by kernel_rfl) ?_ 0
      go_wp2_with fail
      refine (small_st t6).mono ?_
      rintro e u1 ⟨bd, rfl, t7⟩
      have c20 : u1.cell? ⟨bd, 20, none⟩ = some (.int .u8 0) := (litAt t7 20 (by omega)).1
      have f20 := (litAt t7 20 (by omega)).2
      have t8 := litSet t7 20 1
      replace t8 : St w.heap.size w (u1.setCell ⟨bd, 20, none⟩ (.int .u8 1)) (litT bd badB (21, 22) :: litT b1 smallB (21, 22) :: boxT TB #[.slice oa 2 oc, .int .i64 2, .int .i64 42, .bool false] 28 :: rowT 5 1 (.slice oa 2 oc) 2 (u8s [97, 97]) :: []) := t8
      have g6 := gunzip_says t8 (.slice (some ⟨bd, 0, none⟩) 21 21) badB (t8.litRow11 (by decide)) (by decide) 9 1 1 21 true (by omega) file_bad (o := [97]) rfl rfl rfl rfl rfl
      clear t6 t7
      go_wp2_with fail
      refine g6.mono ?_
      rintro e u2 ⟨ob, od, rfl, t9⟩
      have t10 := t9.newBox #[.slice ob 1 od, .int .i64 1, .int .i64 21, .bool true] 28
      have g7 := gunzip_says t10 (.slice (some ⟨bd, 0, none⟩) 21 21) badB (St.litRow11 (t10.front 2) (by decide)) (by decide) 0 0 1 21 false (by omega) file_bad (o := []) rfl rfl rfl rfl rfl
      clear g6 t8 t9 c20 f20
      go_wp2_with fail
      refine g7.mono ?_
      rintro e u3 ⟨ob3, od3, rfl, t11⟩
      have t12 := t11.newBox #[.slice ob3 0 od3, .int .i64 1, .int .i64 21, .bool false] 28
      clear g7 t10 t11
      go_wp2_with fail
      refine (small_st t12).mono ?_
      rintro e u4 ⟨bs, rfl, t13⟩
      clear t12
      go_wp2_with (at_builtin; refine wpList_append_full rfl _ _ rfl t13 (xs := smallB) (ys := badB) (t13.litRow11 (by decide)) (St.litRow11 (t13.front 5) (by decide)) (by decide) rfl rfl (by decide) ?_)
      intro v5 u5 t14
      obtain ⟨q5, p5, rfl⟩ : ∃ a c, v5 = .slice a 42 c := ownsRow_slice t14.row
      have g8 := gunzip_says t14 (.slice q5 42 p5) (smallB ++ badB) (byteRow_owns (by rw [u8s_append]; exact t14.row) (by decide)) (by decide) 1 1 2 42 false (by omega) file_sb (o := [97]) rfl rfl rfl rfl rfl
      clear t13
      go_wp2_with fail
      refine g8.mono ?_
      rintro e u6 ⟨ob6, od6, rfl, t15⟩
      have t16 := t15.newBox #[.slice ob6 1 od6, .int .i64 2, .int .i64 42, .bool false] 28
      clear g8 t14 t15
      go_wp2_with (at_builtin; refine wpList_append_full rfl _ _ rfl t16 (xs := badB) (ys := smallB) (St.litRow11 (t16.front 8) (by decide)) (St.litRow11 (t16.front 9) (by decide)) (by decide) rfl rfl (by decide) ?_)
      intro v7 u7 t17
      obtain ⟨q7, p7, rfl⟩ : ∃ a c, v7 = .slice a 42 c := ownsRow_slice t17.row
      have g9 := gunzip_says t17 (.slice q7 42 p7) (badB ++ smallB) (byteRow_owns (by rw [u8s_append]; exact t17.row) (by decide)) (by decide) 1 1 2 42 true (by omega) file_bs (o := [97]) rfl rfl rfl rfl rfl
      clear t16
      go_wp2_with fail
      refine g9.mono ?_
      rintro e u8 ⟨ob8, od8, rfl, t18⟩
      have t19 := t18.newBox #[.slice ob8 1 od8, .int .i64 2, .int .i64 42, .bool true] 28
      have t20 := t19.newLit sumB (23, 24)
      have g10 := gunzip_says t20 (.slice (some ⟨(u8.alloc (.cells #[.slice ob8 1 od8, .int .i64 2, .int .i64 42, .bool true] 28)).heap.size, 0, none⟩) 23 23) sumB (t20.litRow11 (by decide)) (by decide) 0 0 1 23 true (by omega) file_sum (o := []) rfl rfl rfl rfl rfl
      rw [show (u8.alloc (.cells #[.slice ob8 1 od8, .int .i64 2, .int .i64 42, .bool true] 28)).heap.size = u8.heap.size + 1 from by simp] at g10
      have hcv2 : (convert 26 26 (.slice (some ⟨u8.heap.size + 1, 0, none⟩) 23 23)).run Tryz.prog ((u8.alloc (.cells #[.slice ob8 1 od8, .int .i64 2, .int .i64 42, .bool true] 28)).alloc (.cells #[.int .u8 31, .int .u8 139, .int .u8 8, .int .u8 2, .int .u8 0, .int .u8 0, .int .u8 0, .int .u8 0, .int .u8 0, .int .u8 255, .int .u8 0, .int .u8 0, .int .u8 75, .int .u8 4, .int .u8 0, .int .u8 67, .int .u8 190, .int .u8 183, .int .u8 232, .int .u8 1, .int .u8 0, .int .u8 0, .int .u8 0] 5)) = .ok (.slice (some ⟨u8.heap.size + 1, 0, none⟩) 23 23) ((u8.alloc (.cells #[.slice ob8 1 od8, .int .i64 2, .int .i64 42, .bool true] 28)).alloc (.cells #[.int .u8 31, .int .u8 139, .int .u8 8, .int .u8 2, .int .u8 0, .int .u8 0, .int .u8 0, .int .u8 0, .int .u8 0, .int .u8 255, .int .u8 0, .int .u8 0, .int .u8 75, .int .u8 4, .int .u8 0, .int .u8 67, .int .u8 190, .int .u8 183, .int .u8 232, .int .u8 1, .int .u8 0, .int .u8 0, .int .u8 0] 5 (23, 24))) := by
        have h := Crc.run_convert_lit (u8.alloc (.cells #[.slice ob8 1 od8, .int .i64 2, .int .i64 42, .bool true] 28)) #[.int .u8 31, .int .u8 139, .int .u8 8, .int .u8 2, .int .u8 0, .int .u8 0, .int .u8 0, .int .u8 0, .int .u8 0, .int .u8 255, .int .u8 0, .int .u8 0, .int .u8 75, .int .u8 4, .int .u8 0, .int .u8 67, .int .u8 190, .int .u8 183, .int .u8 232, .int .u8 1, .int .u8 0, .int .u8 0, .int .u8 0] 23 23
        rw [show (u8.alloc (.cells #[.slice ob8 1 od8, .int .i64 2, .int .i64 42, .bool true] 28)).heap.size = u8.heap.size + 1 from by simp] at h
        exact h
      clear g9 t17 t18 t19
      go_wp2_with fail
      refine g10.mono ?_
      rintro e u9 ⟨obA, odA, rfl, t21⟩
      have t22 := t21.newBox #[.slice obA 0 odA, .int .i64 1, .int .i64 23, .bool true] 28
      clear g10 t20 t21 hcv2
      have q1 := run_string _ _ _ (Reads.of_owns (St.row (t22.front 17)))
      rw [show strOf [97, 97] = ⟨#[97, 97]⟩ from by decide] at q1
      have k0 : (u9.alloc (.cells #[.slice obA 0 odA, .int .i64 1, .int .i64 23, .bool true] 28)).cell? ⟨TB, 0, none⟩ = some (.slice oa 2 oc) := (St.boxAt (t22.front 16) 0).1
      have k13 : (u9.alloc (.cells #[.slice obA 0 odA, .int .i64 1, .int .i64 23, .bool true] 28)).cell? ⟨u2.heap.size, 3, none⟩ = some (.bool true) := (St.boxAt (t22.front 12) 3).1
      have k15 : (u9.alloc (.cells #[.slice obA 0 odA, .int .i64 1, .int .i64 23, .bool true] 28)).cell? ⟨u3.heap.size, 3, none⟩ = some (.bool false) := (St.boxAt (t22.front 10) 3).1
      have k16 : (u9.alloc (.cells #[.slice obA 0 odA, .int .i64 1, .int .i64 23, .bool true] 28)).cell? ⟨u3.heap.size, 1, none⟩ = some (.int .i64 1) := (St.boxAt (t22.front 10) 1).1
      have k17 : (u9.alloc (.cells #[.slice obA 0 odA, .int .i64 1, .int .i64 23, .bool true] 28)).cell? ⟨u6.heap.size, 3, none⟩ = some (.bool false) := (St.boxAt (t22.front 6) 3).1
      have k19 : (u9.alloc (.cells #[.slice obA 0 odA, .int .i64 1, .int .i64 23, .bool true] 28)).cell? ⟨u8.heap.size, 3, none⟩ = some (.bool true) := (St.boxAt (t22.front 3) 3).1
      have hbel := t22.below hB
      clear t22
      go_wp2_with fail
      refine (opens_any _).mono ?_
      rintro e u10 ⟨rfl, hb10⟩
      go_wp2
      go_ret
      exact ⟨rfl, hbel.trans (hb10.mono hbel.size)⟩
  · intro N hN
    have sb := sd.newBox #[.slice none 0 0, .int .i64 0, .int .i64 0, .bool false] 28
    obtain ⟨XB, hXB⟩ : ∃ b, wd.heap.size = b := ⟨_, rfl⟩
    rw [hXB] at sb
    go_wp2_with fail
    refine hN _ _ trivial ?_
    try clear hN N
    clear hXB
    generalize wd.alloc (.cells #[.slice none 0 0, .int .i64 0, .int .i64 0, .bool false] 28) = wb at *
    refine held_step (j := 0) _ (by kernel_rfl) rfl ?_
    intro N hN
    go_wp2_with fail
    refine (small_st sb).mono ?_
    rintro e wa ⟨bb, rfl, sa⟩
    go_wp2_with fail
    refine hN _ _ trivial ?_
    try clear hN N
    refine held_step (j := 3) _ (by kernel_rfl) rfl ?_
    intro N hN
    refine wpList_append_full (by kernel_rfl) _ _ rfl sa (xs := smallB) (ys := smallB.take 20) (St.litRow11 (sa.front 0) (by decide)) (hcut _ _ (sa.front 2)) (by decide) (by kernel_rfl) (by kernel_rfl) (by decide) ?_
    intro v9 wc sc
    obtain ⟨a9, c9, rfl⟩ : ∃ a c, v9 = .slice a 41 c := ownsRow_slice sc.row
    go_wp2_with fail
    refine hN _ _ trivial ?_
    try clear hN N
    refine held_step (j := 4) _ (by kernel_rfl) rfl ?_
    intro N hN
    have g5 := gunzip_fails sc (.slice a9 41 c9) (smallB ++ smallB.take 20) (byteRow_owns (by rw [u8s_append]; exact St.row (sc.front 0)) (by decide)) (by decide) 9 (by omega) file_more
    go_wp2_with fail
    refine g5.mono ?_
    rintro e we ⟨rfl, se⟩
    go_wp2_with fail
    refine hN _ _ trivial ?_
    try clear hN N
    clear g5
    refine wpAnyH_take (i := 5) (v := .tuple #[.agg #[.slice none 0 0, .int .i64 0, .int .i64 0, .bool false], .int .i64 2]) rfl (by kernel_rfl) (by kernel_rfl) (by kernel_rfl) (fun _ _ _ h => h) (.inl ⟨by kernel_rfl, fun W _ => by go_simp; try simp⟩) trivial ?_
    refine wpAnyH_take (i := 6) (v := .agg #[.slice none 0 0, .int .i64 0, .int .i64 0, .bool false]) rfl (by kernel_rfl) (by kernel_rfl) (by kernel_rfl) (fun _ _ _ h => h) (.inl ⟨by kernel_rfl, fun W _ => by go_simp; try simp⟩) trivial ?_
    refine wpAnyH_take (i := 7) (v := .int .i64 2) rfl (by kernel_rfl) (by kernel_rfl) (by kernel_rfl) (fun _ _ _ h => h) (.inl ⟨by kernel_rfl, fun W _ => by go_simp; try simp⟩) trivial ?_
    have tx := se.front 2
    have x0 : we.cell? ⟨XB, 0, none⟩ = some (.slice none 0 0) := (St.boxAt tx 0).1
    have x1 : we.cell? ⟨XB, 1, none⟩ = some (.int .i64 0) := (St.boxAt tx 1).1
    have x2 : we.cell? ⟨XB, 2, none⟩ = some (.int .i64 0) := (St.boxAt tx 2).1
    have x3 : we.cell? ⟨XB, 3, none⟩ = some (.bool false) := (St.boxAt tx 3).1
    have z0 := (St.boxAt tx 0).2
    have z1 := (St.boxAt tx 1).2
    have z2 := (St.boxAt tx 2).2
    have z3 := (St.boxAt tx 3).2
    have ty := (((tx.setBoxAt 0 (.slice none 0 0)).setBoxAt 1 (.int .i64 0)).setBoxAt 2 (.int .i64 0)).setBoxAt 3 (.bool false)
    refine held_step (j := 9) _ (by kernel_rfl) rfl ?_
    intro N hN
    go_wp2_with fail
    refine hN _ _ trivial ?_
    try clear hN N
    clear x0 x1 x2 x3 z0 z1 z2 z3
    replace ty := ty.drop
    generalize (((we.setCell ⟨XB, 0, none⟩ (.slice none 0 0)).setCell ⟨XB, 1, none⟩ (.int .i64 0)).setCell ⟨XB, 2, none⟩ (.int .i64 0)).setCell ⟨XB, 3, none⟩ (.bool false) = wf at *
    refine held_step (j := 10) _ (by kernel_rfl) rfl ?_
    intro N hN
    go_wp2_with fail
    refine hN _ _ trivial ?_
    try clear hN N
    have t6 : St w.heap.size w wf (litT b1 smallB (21, 22) :: boxT TB #[.slice oa 2 oc, .int .i64 2, .int .i64 42, .bool false] 28 :: rowT 5 1 (.slice oa 2 oc) 2 (u8s [97, 97]) :: []) := ty.drop.drop
    clear ty tx
    refine wpAnyH_done (by kernel_rfl) ?_ 0
    go_wp2_with fail
    refine (small_st t6).mono ?_
    rintro e u1 ⟨bd, rfl, t7⟩
    have c20 : u1.cell? ⟨bd, 20, none⟩ = some (.int .u8 0) := (litAt t7 20 (by omega)).1
    have f20 := (litAt t7 20 (by omega)).2
    have t8 := litSet t7 20 1
    replace t8 : St w.heap.size w (u1.setCell ⟨bd, 20, none⟩ (.int .u8 1)) (litT bd badB (21, 22) :: litT b1 smallB (21, 22) :: boxT TB #[.slice oa 2 oc, .int .i64 2, .int .i64 42, .bool false] 28 :: rowT 5 1 (.slice oa 2 oc) 2 (u8s [97, 97]) :: []) := t8
    have g6 := gunzip_says t8 (.slice (some ⟨bd, 0, none⟩) 21 21) badB (t8.litRow11 (by decide)) (by decide) 9 1 1 21 true (by omega) file_bad (o := [97]) rfl rfl rfl rfl rfl
    clear t6 t7
    go_wp2_with fail
    refine g6.mono ?_
    rintro e u2 ⟨ob, od, rfl, t9⟩
    have t10 := t9.newBox #[.slice ob 1 od, .int .i64 1, .int .i64 21, .bool true] 28
    have g7 := gunzip_says t10 (.slice (some ⟨bd, 0, none⟩) 21 21) badB (St.litRow11 (t10.front 2) (by decide)) (by decide) 0 0 1 21 false (by omega) file_bad (o := []) rfl rfl rfl rfl rfl
    clear g6 t8 t9 c20 f20
    go_wp2_with fail
    refine g7.mono ?_
    rintro e u3 ⟨ob3, od3, rfl, t11⟩
    have t12 := t11.newBox #[.slice ob3 0 od3, .int .i64 1, .int .i64 21, .bool false] 28
    clear g7 t10 t11
    go_wp2_with fail
    refine (small_st t12).mono ?_
    rintro e u4 ⟨bs, rfl, t13⟩
    clear t12
    go_wp2_with (at_builtin; refine wpList_append_full rfl _ _ rfl t13 (xs := smallB) (ys := badB) (t13.litRow11 (by decide)) (St.litRow11 (t13.front 5) (by decide)) (by decide) rfl rfl (by decide) ?_)
    intro v5 u5 t14
    obtain ⟨q5, p5, rfl⟩ : ∃ a c, v5 = .slice a 42 c := ownsRow_slice t14.row
    have g8 := gunzip_says t14 (.slice q5 42 p5) (smallB ++ badB) (byteRow_owns (by rw [u8s_append]; exact t14.row) (by decide)) (by decide) 1 1 2 42 false (by omega) file_sb (o := [97]) rfl rfl rfl rfl rfl
    clear t13
    go_wp2_with fail
    refine g8.mono ?_
    rintro e u6 ⟨ob6, od6, rfl, t15⟩
    have t16 := t15.newBox #[.slice ob6 1 od6, .int .i64 2, .int .i64 42, .bool false] 28
    clear g8 t14 t15
    go_wp2_with (at_builtin; refine wpList_append_full rfl _ _ rfl t16 (xs := badB) (ys := smallB) (St.litRow11 (t16.front 8) (by decide)) (St.litRow11 (t16.front 9) (by decide)) (by decide) rfl rfl (by decide) ?_)
    intro v7 u7 t17
    obtain ⟨q7, p7, rfl⟩ : ∃ a c, v7 = .slice a 42 c := ownsRow_slice t17.row
    have g9 := gunzip_says t17 (.slice q7 42 p7) (badB ++ smallB) (byteRow_owns (by rw [u8s_append]; exact t17.row) (by decide)) (by decide) 1 1 2 42 true (by omega) file_bs (o := [97]) rfl rfl rfl rfl rfl
    clear t16
    go_wp2_with fail
    refine g9.mono ?_
    rintro e u8 ⟨ob8, od8, rfl, t18⟩
    have t19 := t18.newBox #[.slice ob8 1 od8, .int .i64 2, .int .i64 42, .bool true] 28
    have t20 := t19.newLit sumB (23, 24)
    have g10 := gunzip_says t20 (.slice (some ⟨(u8.alloc (.cells #[.slice ob8 1 od8, .int .i64 2, .int .i64 42, .bool true] 28)).heap.size, 0, none⟩) 23 23) sumB (t20.litRow11 (by decide)) (by decide) 0 0 1 23 true (by omega) file_sum (o := []) rfl rfl rfl rfl rfl
    rw [show (u8.alloc (.cells #[.slice ob8 1 od8, .int .i64 2, .int .i64 42, .bool true] 28)).heap.size = u8.heap.size + 1 from by simp] at g10
    have hcv2 : (convert 26 26 (.slice (some ⟨u8.heap.size + 1, 0, none⟩) 23 23)).run Tryz.prog ((u8.alloc (.cells #[.slice ob8 1 od8, .int .i64 2, .int .i64 42, .bool true] 28)).alloc (.cells #[.int .u8 31, .int .u8 139, .int .u8 8, .int .u8 2, .int .u8 0, .int .u8 0, .int .u8 0, .int .u8 0, .int .u8 0, .int .u8 255, .int .u8 0, .int .u8 0, .int .u8 75, .int .u8 4, .int .u8 0, .int .u8 67, .int .u8 190, .int .u8 183, .int .u8 232, .int .u8 1, .int .u8 0, .int .u8 0, .int .u8 0] 5)) = .ok (.slice (some ⟨u8.heap.size + 1, 0, none⟩) 23 23) ((u8.alloc (.cells #[.slice ob8 1 od8, .int .i64 2, .int .i64 42, .bool true] 28)).alloc (.cells #[.int .u8 31, .int .u8 139, .int .u8 8, .int .u8 2, .int .u8 0, .int .u8 0, .int .u8 0, .int .u8 0, .int .u8 0, .int .u8 255, .int .u8 0, .int .u8 0, .int .u8 75, .int .u8 4, .int .u8 0, .int .u8 67, .int .u8 190, .int .u8 183, .int .u8 232, .int .u8 1, .int .u8 0, .int .u8 0, .int .u8 0] 5 (23, 24))) := by
      have h := Crc.run_convert_lit (u8.alloc (.cells #[.slice ob8 1 od8, .int .i64 2, .int .i64 42, .bool true] 28)) #[.int .u8 31, .int .u8 139, .int .u8 8, .int .u8 2, .int .u8 0, .int .u8 0, .int .u8 0, .int .u8 0, .int .u8 0, .int .u8 255, .int .u8 0, .int .u8 0, .int .u8 75, .int .u8 4, .int .u8 0, .int .u8 67, .int .u8 190, .int .u8 183, .int .u8 232, .int .u8 1, .int .u8 0, .int .u8 0, .int .u8 0] 23 23
      rw [show (u8.alloc (.cells #[.slice ob8 1 od8, .int .i64 2, .int .i64 42, .bool true] 28)).heap.size = u8.heap.size + 1 from by simp] at h
      exact h
    clear g9 t17 t18 t19
    go_wp2_with fail
    refine g10.mono ?_
    rintro e u9 ⟨obA, odA, rfl, t21⟩
    have t22 := t21.newBox #[.slice obA 0 odA, .int .i64 1, .int .i64 23, .bool true] 28
    clear g10 t20 t21 hcv2
    have q1 := run_string _ _ _ (Reads.of_owns (St.row (t22.front 17)))
    rw [show strOf [97, 97] = ⟨#[97, 97]⟩ from by decide] at q1
    have k0 : (u9.alloc (.cells #[.slice obA 0 odA, .int .i64 1, .int .i64 23, .bool true] 28)).cell? ⟨TB, 0, none⟩ = some (.slice oa 2 oc) := (St.boxAt (t22.front 16) 0).1
    have k13 : (u9.alloc (.cells #[.slice obA 0 odA, .int .i64 1, .int .i64 23, .bool true] 28)).cell? ⟨u2.heap.size, 3, none⟩ = some (.bool true) := (St.boxAt (t22.front 12) 3).1
    have k15 : (u9.alloc (.cells #[.slice obA 0 odA, .int .i64 1, .int .i64 23, .bool true] 28)).cell? ⟨u3.heap.size, 3, none⟩ = some (.bool false) := (St.boxAt (t22.front 10) 3).1
    have k16 : (u9.alloc (.cells #[.slice obA 0 odA, .int .i64 1, .int .i64 23, .bool true] 28)).cell? ⟨u3.heap.size, 1, none⟩ = some (.int .i64 1) := (St.boxAt (t22.front 10) 1).1
    have k17 : (u9.alloc (.cells #[.slice obA 0 odA, .int .i64 1, .int .i64 23, .bool true] 28)).cell? ⟨u6.heap.size, 3, none⟩ = some (.bool false) := (St.boxAt (t22.front 6) 3).1
    have k19 : (u9.alloc (.cells #[.slice obA 0 odA, .int .i64 1, .int .i64 23, .bool true] 28)).cell? ⟨u8.heap.size, 3, none⟩ = some (.bool true) := (St.boxAt (t22.front 3) 3).1
    have hbel := t22.below hB
    clear t22
    go_wp2_with fail
    refine (opens_any _).mono ?_
    rintro e u10 ⟨rfl, hb10⟩
    go_wp2
    go_ret
    exact ⟨rfl, hbel.trans (hb10.mono hbel.size)⟩
end Go.Proofs.YtmcjbkfiipmgeaaGreat.gunzipKnown
