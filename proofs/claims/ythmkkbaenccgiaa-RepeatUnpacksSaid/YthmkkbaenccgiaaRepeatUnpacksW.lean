/-
  The walk of RepeatUnpacks. No conditions.
-/
import Derived.Test.YthmkkbaenccgiaaRepX
import Derived.Test.YthmkkbaenccgiaaRepH
import Derived.Test.YthmkkbaenccgiaaRepG
namespace Go.Proofs.Ythmkkbaenccgiaa.repeatUnpacks
open Go.RowKit Rep

set_option maxRecDepth 100000 in
set_option maxHeartbeats 4000000 in
theorem walk (w : World) (v : Value) (l : List (Nat × Nat)) (hb : SignRow w v l) (n : Int) (hn : (Lit.int .i64 n).wf = true) :
    Calls Try.prog 4 #[v, .int .i64 n] w fun e w' => e = .returned (.bool true) ∧ Below w.heap.size w w' := by
  have hn' : -9223372036854775808 ≤ n ∧ n ≤ 9223372036854775807 := by
    simp only [Lit.wf, Bool.and_eq_true, decide_eq_true_eq] at hn
    exact hn
  obtain ⟨hn0, hn1⟩ := hn'
  clear hn
  have HB := fun W hB => hb.below (B := w.heap.size) (w' := W) hB (Nat.le_refl _)
  have hsm := hb.small
  obtain ⟨a, cap, rfl, hc, hmx, -, -⟩ := id hb
  by_cases c1 : 400 < l.length
  · go_enter Try.func4, Try.ntmps4
    go_wp2
    go_ret
    exact ⟨rfl, Below.refl _ _⟩
  · obtain ⟨i0, hi, hz0, hz1, hz2⟩ := info_parts infoRSign
    have s0 := (St.start w).addNil (e := 32) (size := 2)
    go_enter Try.func4, Try.ntmps4
    go_wp2
    go_loopw [5, 6] (fun vv iv wr => ∃ k : Nat, iv = .int .i64 (k : Int) ∧ k ≤ l.length ∧ Hid (St w.heap.size w wr [signT 32 vv (l.take k)])) (fun _ iv _ => l.length - (intOf iv).toNat)
    case atStart => exact ⟨0, rfl, Nat.zero_le _, Lib.hid s0⟩
    case round =>
      clear s0
      obtain ⟨k, rfl, hk, s1⟩ := hrel
      have s1 := s1.out
      obtain ⟨va, vc, rfl⟩ := ownsRow_slice s1.row
      by_cases hlt : k < l.length
      · obtain ⟨a', cap', e1, _, _, _, hat⟩ := HB _ (s1.below (Nat.le_refl _))
        obtain ⟨rfl, -, rfl⟩ := Value.slice.inj e1
        obtain ⟨⟨hy0, hy1⟩, b, off, rfl, c0, c1'⟩ := hat _ hlt
        obtain ⟨c, x, hs⟩ : ∃ c x, l[k] = (c, x) := ⟨_, _, rfl⟩
        rw [hs] at c0 c1' hy0 hy1
        have HCW : Hid (∀ W, Below w.heap.size w W → W.cell? ⟨b, off + k * 2, none⟩ = some (.int .u8 (c : Int)) ∧ W.cell? ⟨b, off + k * 2 + 1, none⟩ = some (.int .u8 (x : Int))) := Lib.hid fun W hW => by
          obtain ⟨a2, cap2, e2, _, _, _, hat2⟩ := HB W hW
          obtain ⟨_, b2, off2, e3, q0, q1⟩ := hat2 _ hlt
          have e4 := (Value.slice.inj e2).1
          rw [e3] at e4
          obtain ⟨rfl, rfl⟩ : b = b2 ∧ off = off2 := by simpa using e4
          rw [hs] at q0 q1
          exact ⟨q0, q1⟩
        clear hat e1
        have ht : l.take (k + 1) = l.take k ++ [(c, x)] := by rw [List.take_succ_eq_append_getElem hlt, hs]
        have hl1 : (l.take k).length = k := by rw [List.length_take]; omega
        have HT := Lib.hid (And.intro ht hl1)
        have hl0 : (l.take k).length ≤ 400 := by omega
        rw [hl1] at s1 ⊢
        clear hs ht hl1
        generalize l.take k = l0 at *
        clear hb
        have HS1 := Lib.hid s1.drew
        clear s1
        go_wp2
        refine region_seg (by kernel_rfl) [0, 1, 2, 6, 7] 10 rfl (by kernel_rfl) (by kernel_rfl) (fun _ _ d _ _ h => by cases d <;> exact h) ?_
        intro K hK
        simp only [pickL, List.getElem?_cons_zero, List.getElem?_cons_succ]
        go_wp2_with fail
        try clear hK K
        have c0 : wr.drew.cell? ⟨b, off + k * 2, none⟩ = some (.int .u8 (c : Int)) := c0
        have c1' : wr.drew.cell? ⟨b, off + k * 2 + 1, none⟩ = some (.int .u8 (x : Int)) := c1'
        generalize wr.drew = wd at *
        refine wpAny_of_held (S := fun W => W.cell? ⟨b, off + k * 2, none⟩ = some (.int .u8 (c : Int)) ∧ W.cell? ⟨b, off + k * 2 + 1, none⟩ = some (.int .u8 (x : Int))) _ _ _ _ ?_
        refine wpAnyH_take (i := 3) (v := .pointer (some ⟨b, off + k * 2, none⟩)) rfl (by kernel_rfl) (by kernel_rfl) (by kernel_rfl) (fun _ _ _ h => h) (.inl ⟨rfl, fun W hW => by obtain ⟨k0, k1⟩ := hW; go_simp⟩) ⟨c0, c1'⟩ ?_
        refine wpAnyH_take (i := 4) (v := .pointer (some ⟨b, off + k * 2, none⟩)) rfl (by kernel_rfl) (by kernel_rfl) (by kernel_rfl) (fun _ _ _ h => h) (.inl ⟨rfl, fun W hW => by obtain ⟨k0, k1⟩ := hW; go_simp⟩) ⟨c0, c1'⟩ ?_
        refine wpAnyH_take (i := 5) (v := .int .u8 (c : Int)) rfl (by kernel_rfl) (by kernel_rfl) (by kernel_rfl) (fun _ _ _ h => h) (.inl ⟨rfl, fun W hW => by obtain ⟨k0, k1⟩ := hW; go_simp⟩) ⟨c0, c1'⟩ ?_
        refine wpAnyH_take (i := 8) (v := .pointer (some ⟨b, off + k * 2, none⟩)) rfl (by kernel_rfl) (by kernel_rfl) (by kernel_rfl) (fun _ _ _ h => h) (.inl ⟨rfl, fun W hW => by obtain ⟨k0, k1⟩ := hW; go_simp⟩) ⟨c0, c1'⟩ ?_
        refine wpAnyH_take (i := 9) (v := .pointer (some ⟨b, off + k * 2 + 1, none⟩)) rfl (by kernel_rfl) (by kernel_rfl) (by kernel_rfl) (fun _ _ _ h => h) (.inl ⟨rfl, fun W hW => by obtain ⟨k0, k1⟩ := hW; go_simp⟩) ⟨c0, c1'⟩ ?_
        refine wpAnyH_take (i := 10) (v := .int .u8 (x : Int)) rfl (by kernel_rfl) (by kernel_rfl) (by kernel_rfl) (fun _ _ _ h => h) (.inl ⟨rfl, fun W hW => by obtain ⟨k0, k1⟩ := hW; go_simp⟩) ⟨c0, c1'⟩ ?_
        refine held_step (j := 11) _ (by kernel_rfl) rfl ?_
        intro N1 hN1
        go_wp2_with fail
        refine hN1 _ _ ⟨c0, c1'⟩ ?_
        try clear hN1 N1
        refine held_step (j := 12) _ (by kernel_rfl) rfl ?_
        intro N2 hN2
        go_wp2_with fail
        refine hN2 _ _ ⟨cell_alloc c0 _, cell_alloc c1' _⟩ ?_
        try clear hN2 N2
        refine held_step (j := 13) _ (by kernel_rfl) rfl ?_
        intro N3 hN3
        have s5 := HS1.out
        refine wpList_append_one rfl _ _ 27 rfl 32 i0 (.agg #[.int .u8 0, .int .u8 0]) 2 2 Try.underlying27 hi hz0 hz1 hz2 rfl (by decide) s5 rfl [.int .u8 (c : Int), .int .u8 (x : Int)] rfl rfl (by simp [Value.oneCell']) (by unfold maxLen; omega) (by omega) ?_
        intro v6 w6 s6
        have s7 := signs_more s6
        have hcw := HCW.out w6 (s7.below (Nat.le_refl _))
        clear s5 s6 c0 c1'
        refine hN3 _ _ hcw ?_
        try clear hN3 N3
        refine held_step (j := 14) _ (by kernel_rfl) rfl ?_
        intro N4 hN4
        go_wp2_with fail
        refine hN4 _ _ hcw ?_
        try clear hN4 N4
        refine wpAnyH_done (by kernel_rfl) ?_ 0
        rw [← HT.out.1] at s7
        have HS7 := Lib.hid s7
        clear s7 hcw
        go_wp2
        go_roundw
        case rel => exact ⟨k + 1, by go_num, by omega, HS7⟩
        case measure => simp [intOf]; omega
      · obtain rfl : k = l.length := by omega
        rw [List.take_length] at s1 ⊢
        have hu := unpack_st s1 (.slice a l.length cap) l (fun W sW => HB W (sW.below (Nat.le_refl _))) (by omega) n hn0 hn1
        unfold UnpackSt at hu
        obtain ⟨er, her⟩ : ∃ er, unErr l n = er := ⟨_, rfl⟩
        obtain ⟨out, hout⟩ : ∃ out, unAns l n = out := ⟨_, rfl⟩
        rw [her, hout] at hu
        have HER := Lib.hid (And.intro her hout)
        clear her hout
        go_wp2_with fail
        refine hu.mono ?_
        rintro e w2 ⟨v2, rfl, s2⟩
        clear hu
        have hr := refUnpack_st s2 (.slice va l.length vc) l (fun W sW => sW.swap.signs hsm) (by omega) n hn0 hn1
        unfold UnpackSt at hr
        rw [HER.out.1, HER.out.2] at hr
        go_wp2_with fail
        refine hr.mono ?_
        rintro e w3 ⟨v3, rfl, s3⟩
        have hs1 := s3.string
        have hs2 := s3.swap.string
        have hbw := s3.below (Nat.le_refl _)
        obtain ⟨sL, hsL⟩ : ∃ sL, strOf out = sL := ⟨_, rfl⟩
        rw [hsL] at hs1 hs2
        clear hsL s1 s2 s3 hr HB hb
        go_wp2_with fail
        refine (packs_any _).mono ?_
        rintro e w4 ⟨rfl, hb4⟩
        go_wp2
        go_ret
        exact ⟨rfl, hbw.trans (hb4.mono hbw.size)⟩

end Go.Proofs.Ythmkkbaenccgiaa.repeatUnpacks
