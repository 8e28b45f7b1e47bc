/-
  The chapter's examples, each field, what is wrong: the walk of FrameKnown. No conditions.
-/
import Derived.Test.YtiggbioaaglgaaaFrK2
import Derived.Deep.Cut
namespace Go.Proofs.Ytiggbioaaglgaaa.frameKnown
open Go.RowKit Crc Fr

set_option maxRecDepth 100000 in
set_option maxHeartbeats 16000000 in
theorem walk (w : World) : Calls Try.prog 9 #[] w fun e w' => e = .returned (.bool true) ∧ Below w.heap.size w w' := by
  have hB := Nat.le_refl w.heap.size
  have hcv := run_convert_lit
  obtain ⟨Z, HZ⟩ : ∃ Z : List Nat, Hid (Z = List.replicate 65536 0) := ⟨_, Lib.hid rfl⟩
  have hput := put_st (St.start w) hKa_fits (ev := .slice none 0 0) (fun W _ => byteRow_none W) (by decide) (by decide) (by decide)
  go_enter Try.func9, Try.ntmps9
  go_wp2_with fail
  refine hput.mono ?_
  rintro e w1 (⟨-, v, rfl, s1⟩ | ⟨hm, -⟩)
  rotate_left
  · exact absurd hm (by rw [hKa_may]; simp)
  rw [hKa_bytes] at s1
  obtain ⟨ga, ca, rfl, hca⟩ := s1.rowShape (by decide)
  have s2 := s1.newLit [120, 121] (2, 3)
  have s3 := s2.newBox (headC hKb (.slice (some ⟨w1.heap.size, 0, none⟩) 2 2)) 25
  have hput2 := put_st s3 hKb_fits (ev := .slice (some ⟨w1.heap.size, 0, none⟩) 2 2) (fun W t => (t.front 1).litRow11 (by decide)) (by decide) (by decide) (by decide)
  obtain ⟨k0, k1, k2, k3, k4, k5, k6, k7, k8⟩ := headAt s3
  clear hput s1 s2
  go_wp2_with fail
  refine hput2.mono ?_
  rintro e w2 (⟨-, v, rfl, s4⟩ | ⟨hm, -⟩)
  rotate_left
  · exact absurd hm (by rw [hKb_may]; simp)
  obtain ⟨x, y, hx, hy, hbb⟩ := hKb_bytes
  rw [hbb] at s4
  obtain ⟨gb, cb, rfl, hcb⟩ := s4.rowShape (by simp)
  have hput3 := put_st s4 hKc_fits (ev := .slice none 0 0) (fun W _ => byteRow_none W) (by decide) (by decide) (by decide)
  clear hput2 s3 k0 k1 k2 k3 k4 k5 k6 k7 k8
  go_wp2_with fail
  refine hput3.mono ?_
  rintro e w3 (⟨-, v, rfl, s5⟩ | ⟨hm, -⟩)
  rotate_left
  · exact absurd hm (by rw [hKc_may]; simp)
  rw [hKc_bytes] at s5
  obtain ⟨gc, cc, rfl, hcc⟩ := s5.rowShape (by decide)
  clear hput3 s4 hbb
  have hcb2 : 21 ≤ cb := hcb
  have hR : ∀ k, ByteRow (w3.drewN k) (.slice (some ⟨gb, 0, none⟩) 21 cb) [31, 139, 8, 31, 4, 3, 2, 1, 5, 6, 2, 0, 120, 121, 110, 0, 99, 99, 0, x, y] := fun k => byteRow_owns (St.row ((s5.drewN k).front 1)) (by intro z hz; simp at hz; omega)
  have qa : ∀ k, (convert 23 9 (.slice (some ⟨ga, 0, none⟩) 10 ca)).run Try.prog (w3.drewN k) = .ok (.string ⟨#[31, 139, 8, 0, 0, 0, 0, 0, 0, 255]⟩) (w3.drewN k) := fun k => by
    have h := run_string _ _ _ (Reads.of_owns (St.row ((s5.drewN k).front 4)))
    rw [strKa] at h
    exact h
  have qc : ∀ k, (convert 23 9 (.slice (some ⟨gc, 0, none⟩) 14 cc)).run Try.prog (w3.drewN k) = .ok (.string ⟨#[31, 139, 8, 28, 0, 0, 0, 0, 0, 1, 0, 0, 0, 0]⟩) (w3.drewN k) := fun k => by
    have h := run_string _ _ _ (Reads.of_owns (s5.drewN k).row)
    rw [strKc] at h
    exact h
  obtain ⟨X, hX⟩ : ∃ X, strOf [x] = X := ⟨_, rfl⟩
  have hXs : X.size = 1 := by rw [← hX]; exact strOf_size [x]
  have qb1 : ∀ k, (convert 23 9 (.slice (some ⟨gb, 0, none⟩) 20 cb)).run Try.prog (w3.drewN k) = .ok (.string (⟨#[31, 139, 8, 31, 4, 3, 2, 1, 5, 6, 2, 0, 120, 121, 110, 0, 99, 99, 0]⟩ ++ X)) (w3.drewN k) := fun k => by
    have h := run_string _ _ _ (byteRow_low (hR k) 20 (by simp)).reads
    rw [show List.take 20 [31, 139, 8, 31, 4, 3, 2, 1, 5, 6, 2, 0, 120, 121, 110, 0, 99, 99, 0, x, y] = [31, 139, 8, 31, 4, 3, 2, 1, 5, 6, 2, 0, 120, 121, 110, 0, 99, 99, 0, x] from rfl, strKb, hX] at h
    exact h
  have qb2 : ∀ k, (convert 23 9 (.slice (some ⟨gb, 19, none⟩) 1 (cb - 19))).run Try.prog (w3.drewN k) = .ok (.string X) (w3.drewN k) := fun k => by
    have h := run_string _ _ _ (byteRow_at (hR k) 19 1 (by simp) (by omega)).reads
    rw [show sl [31, 139, 8, 31, 4, 3, 2, 1, 5, 6, 2, 0, 120, 121, 110, 0, 99, 99, 0, x, y] 19 1 = [x] from rfl, hX] at h
    exact h
  have h19 : ¬ cb = 19 := by omega
  have hc20 : 20 ≤ cb := by omega
  have hi20 : (20 : Int) ≤ (cb : Int) := by omega
  have hi19 : (19 : Int) ≤ (cb : Int) := by omega
  have hc0 : ¬ cb = 0 := by omega
  clear hR hX
  go_upto_region 5 with fail
  go_quiet (fail)
  have s6 := s5.drewN nq
  clear s5 qa qb1 qb2 qc
  generalize w3.drewN nq = w4 at *
  have s7 : St w.heap.size w w4 [] := s6.drop.drop.drop.drop.drop
  have s8 := s7.newLit [120] (1, 2)
  clear s6 s7 hXs h19 hc20 hi20 hi19 hc0 hcb2 hca hcb hcc
  go_wp2_with (at_make; refine wpList_make11 rfl 65536 rfl (by omega) HZ s8 ?_)
  intro w5 s9
  have s10 := s9.newBox #[.bool false, .int .u32 0, .int .u8 0, .int .u8 0, .slice none 0 0, .string ⟨#[]⟩, .string ⟨#[]⟩, .int .u8 8, .bool false, .bool false, .int .u32 0, .int .u8 0, .int .u8 0, .slice (some ⟨w4.heap.size, 0, none⟩) 1 1, .string ⟨#[]⟩, .string ⟨#[]⟩, .int .u8 0, .bool false, .bool false, .int .u32 0, .int .u8 0, .int .u8 0, .slice none 0 0, .string ⟨#[120]⟩, .string ⟨#[]⟩, .int .u8 0, .bool false, .bool false, .int .u32 0, .int .u8 0, .int .u8 0, .slice none 0 0, .string ⟨#[]⟩, .string ⟨#[120]⟩, .int .u8 0, .bool false, .bool false, .int .u32 0, .int .u8 0, .int .u8 0, .slice none 0 0, .string ⟨#[97, 0]⟩, .string ⟨#[]⟩, .int .u8 2, .bool false, .bool false, .int .u32 0, .int .u8 0, .int .u8 0, .slice none 0 0, .string ⟨#[]⟩, .string ⟨#[0]⟩, .int .u8 4, .bool false, .bool false, .int .u32 0, .int .u8 0, .int .u8 0, .slice (some ⟨w4.heap.size + 1, 0, none⟩) 65536 65536, .string ⟨#[]⟩, .string ⟨#[]⟩, .int .u8 1, .bool false] 25
  clear s8 s9
  go_wp2
  obtain ⟨CS, hCS⟩ : ∃ CS : Array Value, CS = #[.bool false, .int .u32 0, .int .u8 0, .int .u8 0, .slice none 0 0, .string ⟨#[]⟩, .string ⟨#[]⟩, .int .u8 8, .bool false, .bool false, .int .u32 0, .int .u8 0, .int .u8 0, .slice (some ⟨w4.heap.size, 0, none⟩) 1 1, .string ⟨#[]⟩, .string ⟨#[]⟩, .int .u8 0, .bool false, .bool false, .int .u32 0, .int .u8 0, .int .u8 0, .slice none 0 0, .string ⟨#[120]⟩, .string ⟨#[]⟩, .int .u8 0, .bool false, .bool false, .int .u32 0, .int .u8 0, .int .u8 0, .slice none 0 0, .string ⟨#[]⟩, .string ⟨#[120]⟩, .int .u8 0, .bool false, .bool false, .int .u32 0, .int .u8 0, .int .u8 0, .slice none 0 0, .string ⟨#[97, 0]⟩, .string ⟨#[]⟩, .int .u8 2, .bool false, .bool false, .int .u32 0, .int .u8 0, .int .u8 0, .slice none 0 0, .string ⟨#[]⟩, .string ⟨#[0]⟩, .int .u8 4, .bool false, .bool false, .int .u32 0, .int .u8 0, .int .u8 0, .slice (some ⟨w4.heap.size + 1, 0, none⟩) 65536 65536, .string ⟨#[]⟩, .string ⟨#[]⟩, .int .u8 1, .bool false] := ⟨_, rfl⟩
  rw [← hCS] at s10
  have HCS := Lib.hid hCS
  clear hCS
  generalize hg4 : w4.heap.size = g4 at *
  clear hg4
  go_loopw [9] (fun iv wr => ∃ k : Nat, k ≤ 7 ∧ iv = .int .i64 (k : Int) ∧ St w.heap.size w wr [boxT w5.heap.size CS 25, bytesT (g4 + 1) 65536 Z, litT g4 [120] (1, 2)]) (fun iv _ => 7 - (intOf iv).toNat)
  case atStart => exact ⟨0, by omega, rfl, by rw [HCS.out] at s10 ⊢; exact s10⟩
  case round =>
    clear s10
    obtain ⟨k, hk, rfl, s12⟩ := hrel
    have hkk : k = 0 ∨ k = 1 ∨ k = 2 ∨ k = 3 ∨ k = 4 ∨ k = 5 ∨ k = 6 ∨ k = 7 := by omega
    rcases hkk with rfl | rfl | rfl | rfl | rfl | rfl | rfl | rfl
    · have hh : Fits (hBad 0) ∧ may (hBad 0) = false := ⟨⟨by decide, by decide, by decide, by decide, by decide, by decide, by decide⟩, by decide⟩
      have c0 : wr.cell? ⟨w5.heap.size, 0, none⟩ = some (.bool false) := by have h := (St.boxAt s12 0).1; rw [HCS.out] at h; exact h
      have c1 : wr.cell? ⟨w5.heap.size, 1, none⟩ = some (.int .u32 0) := by have h := (St.boxAt s12 1).1; rw [HCS.out] at h; exact h
      have c2 : wr.cell? ⟨w5.heap.size, 2, none⟩ = some (.int .u8 0) := by have h := (St.boxAt s12 2).1; rw [HCS.out] at h; exact h
      have c3 : wr.cell? ⟨w5.heap.size, 3, none⟩ = some (.int .u8 0) := by have h := (St.boxAt s12 3).1; rw [HCS.out] at h; exact h
      have c4 : wr.cell? ⟨w5.heap.size, 4, none⟩ = some (.slice none 0 0) := by have h := (St.boxAt s12 4).1; rw [HCS.out] at h; exact h
      have c5 : wr.cell? ⟨w5.heap.size, 5, none⟩ = some (.string ⟨#[]⟩) := by have h := (St.boxAt s12 5).1; rw [HCS.out] at h; exact h
      have c6 : wr.cell? ⟨w5.heap.size, 6, none⟩ = some (.string ⟨#[]⟩) := by have h := (St.boxAt s12 6).1; rw [HCS.out] at h; exact h
      have c7 : wr.cell? ⟨w5.heap.size, 7, none⟩ = some (.int .u8 8) := by have h := (St.boxAt s12 7).1; rw [HCS.out] at h; exact h
      have c8 : wr.cell? ⟨w5.heap.size, 8, none⟩ = some (.bool false) := by have h := (St.boxAt s12 8).1; rw [HCS.out] at h; exact h
      have hput := put_st s12 hh.1 (ev := .slice none 0 0) (fun W _ => byteRow_none W) (by decide) (by decide) (by decide)
      have hm0 := Lib.hid hh.2
      clear hh
      go_wp2_with fail
      refine hput.mono ?_
      rintro e w13 (⟨hm, -⟩ | ⟨-, rfl, s13⟩)
      · exact absurd hm (by rw [hm0.out]; simp)
      · clear hput c0 c1 c2 c3 c4 c5 c6 c7 c8 s12
        go_wp2
        exact ⟨⟨1, by omega, rfl, s13⟩, by simp [intOf]⟩
    · have hh : Fits (hBad 1) ∧ may (hBad 1) = false := ⟨⟨by decide, by decide, by decide, by decide, by decide, by decide, by decide⟩, by decide⟩
      have c0 : wr.cell? ⟨w5.heap.size, 9, none⟩ = some (.bool false) := by have h := (St.boxAt s12 9).1; rw [HCS.out] at h; exact h
      have c1 : wr.cell? ⟨w5.heap.size, 10, none⟩ = some (.int .u32 0) := by have h := (St.boxAt s12 10).1; rw [HCS.out] at h; exact h
      have c2 : wr.cell? ⟨w5.heap.size, 11, none⟩ = some (.int .u8 0) := by have h := (St.boxAt s12 11).1; rw [HCS.out] at h; exact h
      have c3 : wr.cell? ⟨w5.heap.size, 12, none⟩ = some (.int .u8 0) := by have h := (St.boxAt s12 12).1; rw [HCS.out] at h; exact h
      have c4 : wr.cell? ⟨w5.heap.size, 13, none⟩ = some (.slice (some ⟨g4, 0, none⟩) 1 1) := by have h := (St.boxAt s12 13).1; rw [HCS.out] at h; exact h
      have c5 : wr.cell? ⟨w5.heap.size, 14, none⟩ = some (.string ⟨#[]⟩) := by have h := (St.boxAt s12 14).1; rw [HCS.out] at h; exact h
      have c6 : wr.cell? ⟨w5.heap.size, 15, none⟩ = some (.string ⟨#[]⟩) := by have h := (St.boxAt s12 15).1; rw [HCS.out] at h; exact h
      have c7 : wr.cell? ⟨w5.heap.size, 16, none⟩ = some (.int .u8 0) := by have h := (St.boxAt s12 16).1; rw [HCS.out] at h; exact h
      have c8 : wr.cell? ⟨w5.heap.size, 17, none⟩ = some (.bool false) := by have h := (St.boxAt s12 17).1; rw [HCS.out] at h; exact h
      have hput := put_st s12 hh.1 (ev := .slice (some ⟨g4, 0, none⟩) 1 1) (fun W t => (t.front 2).litRow11 (by decide)) (by decide) (by decide) (by decide)
      have hm0 := Lib.hid hh.2
      clear hh
      go_wp2_with fail
      refine hput.mono ?_
      rintro e w13 (⟨hm, -⟩ | ⟨-, rfl, s13⟩)
      · exact absurd hm (by rw [hm0.out]; simp)
      · clear hput c0 c1 c2 c3 c4 c5 c6 c7 c8 s12
        go_wp2
        exact ⟨⟨2, by omega, rfl, s13⟩, by simp [intOf]⟩
    · have hh : Fits (hBad 2) ∧ may (hBad 2) = false := ⟨⟨by decide, by decide, by decide, by decide, by decide, by decide, by decide⟩, by decide⟩
      have c0 : wr.cell? ⟨w5.heap.size, 18, none⟩ = some (.bool false) := by have h := (St.boxAt s12 18).1; rw [HCS.out] at h; exact h
      have c1 : wr.cell? ⟨w5.heap.size, 19, none⟩ = some (.int .u32 0) := by have h := (St.boxAt s12 19).1; rw [HCS.out] at h; exact h
      have c2 : wr.cell? ⟨w5.heap.size, 20, none⟩ = some (.int .u8 0) := by have h := (St.boxAt s12 20).1; rw [HCS.out] at h; exact h
      have c3 : wr.cell? ⟨w5.heap.size, 21, none⟩ = some (.int .u8 0) := by have h := (St.boxAt s12 21).1; rw [HCS.out] at h; exact h
      have c4 : wr.cell? ⟨w5.heap.size, 22, none⟩ = some (.slice none 0 0) := by have h := (St.boxAt s12 22).1; rw [HCS.out] at h; exact h
      have c5 : wr.cell? ⟨w5.heap.size, 23, none⟩ = some (.string ⟨#[120]⟩) := by have h := (St.boxAt s12 23).1; rw [HCS.out] at h; exact h
      have c6 : wr.cell? ⟨w5.heap.size, 24, none⟩ = some (.string ⟨#[]⟩) := by have h := (St.boxAt s12 24).1; rw [HCS.out] at h; exact h
      have c7 : wr.cell? ⟨w5.heap.size, 25, none⟩ = some (.int .u8 0) := by have h := (St.boxAt s12 25).1; rw [HCS.out] at h; exact h
      have c8 : wr.cell? ⟨w5.heap.size, 26, none⟩ = some (.bool false) := by have h := (St.boxAt s12 26).1; rw [HCS.out] at h; exact h
      have hput := put_st s12 hh.1 (ev := .slice none 0 0) (fun W _ => byteRow_none W) (by decide) (by decide) (by decide)
      have hm0 := Lib.hid hh.2
      clear hh
      go_wp2_with fail
      refine hput.mono ?_
      rintro e w13 (⟨hm, -⟩ | ⟨-, rfl, s13⟩)
      · exact absurd hm (by rw [hm0.out]; simp)
      · clear hput c0 c1 c2 c3 c4 c5 c6 c7 c8 s12
        go_wp2
        exact ⟨⟨3, by omega, rfl, s13⟩, by simp [intOf]⟩
    · have hh : Fits (hBad 3) ∧ may (hBad 3) = false := ⟨⟨by decide, by decide, by decide, by decide, by decide, by decide, by decide⟩, by decide⟩
      have c0 : wr.cell? ⟨w5.heap.size, 27, none⟩ = some (.bool false) := by have h := (St.boxAt s12 27).1; rw [HCS.out] at h; exact h
      have c1 : wr.cell? ⟨w5.heap.size, 28, none⟩ = some (.int .u32 0) := by have h := (St.boxAt s12 28).1; rw [HCS.out] at h; exact h
      have c2 : wr.cell? ⟨w5.heap.size, 29, none⟩ = some (.int .u8 0) := by have h := (St.boxAt s12 29).1; rw [HCS.out] at h; exact h
      have c3 : wr.cell? ⟨w5.heap.size, 30, none⟩ = some (.int .u8 0) := by have h := (St.boxAt s12 30).1; rw [HCS.out] at h; exact h
      have c4 : wr.cell? ⟨w5.heap.size, 31, none⟩ = some (.slice none 0 0) := by have h := (St.boxAt s12 31).1; rw [HCS.out] at h; exact h
      have c5 : wr.cell? ⟨w5.heap.size, 32, none⟩ = some (.string ⟨#[]⟩) := by have h := (St.boxAt s12 32).1; rw [HCS.out] at h; exact h
      have c6 : wr.cell? ⟨w5.heap.size, 33, none⟩ = some (.string ⟨#[120]⟩) := by have h := (St.boxAt s12 33).1; rw [HCS.out] at h; exact h
      have c7 : wr.cell? ⟨w5.heap.size, 34, none⟩ = some (.int .u8 0) := by have h := (St.boxAt s12 34).1; rw [HCS.out] at h; exact h
      have c8 : wr.cell? ⟨w5.heap.size, 35, none⟩ = some (.bool false) := by have h := (St.boxAt s12 35).1; rw [HCS.out] at h; exact h
      have hput := put_st s12 hh.1 (ev := .slice none 0 0) (fun W _ => byteRow_none W) (by decide) (by decide) (by decide)
      have hm0 := Lib.hid hh.2
      clear hh
      go_wp2_with fail
      refine hput.mono ?_
      rintro e w13 (⟨hm, -⟩ | ⟨-, rfl, s13⟩)
      · exact absurd hm (by rw [hm0.out]; simp)
      · clear hput c0 c1 c2 c3 c4 c5 c6 c7 c8 s12
        go_wp2
        exact ⟨⟨4, by omega, rfl, s13⟩, by simp [intOf]⟩
    · have hh : Fits (hBad 4) ∧ may (hBad 4) = false := ⟨⟨by decide, by decide, by decide, by decide, by decide, by decide, by decide⟩, by decide⟩
      have c0 : wr.cell? ⟨w5.heap.size, 36, none⟩ = some (.bool false) := by have h := (St.boxAt s12 36).1; rw [HCS.out] at h; exact h
      have c1 : wr.cell? ⟨w5.heap.size, 37, none⟩ = some (.int .u32 0) := by have h := (St.boxAt s12 37).1; rw [HCS.out] at h; exact h
      have c2 : wr.cell? ⟨w5.heap.size, 38, none⟩ = some (.int .u8 0) := by have h := (St.boxAt s12 38).1; rw [HCS.out] at h; exact h
      have c3 : wr.cell? ⟨w5.heap.size, 39, none⟩ = some (.int .u8 0) := by have h := (St.boxAt s12 39).1; rw [HCS.out] at h; exact h
      have c4 : wr.cell? ⟨w5.heap.size, 40, none⟩ = some (.slice none 0 0) := by have h := (St.boxAt s12 40).1; rw [HCS.out] at h; exact h
      have c5 : wr.cell? ⟨w5.heap.size, 41, none⟩ = some (.string ⟨#[97, 0]⟩) := by have h := (St.boxAt s12 41).1; rw [HCS.out] at h; exact h
      have c6 : wr.cell? ⟨w5.heap.size, 42, none⟩ = some (.string ⟨#[]⟩) := by have h := (St.boxAt s12 42).1; rw [HCS.out] at h; exact h
      have c7 : wr.cell? ⟨w5.heap.size, 43, none⟩ = some (.int .u8 2) := by have h := (St.boxAt s12 43).1; rw [HCS.out] at h; exact h
      have c8 : wr.cell? ⟨w5.heap.size, 44, none⟩ = some (.bool false) := by have h := (St.boxAt s12 44).1; rw [HCS.out] at h; exact h
      have hput := put_st s12 hh.1 (ev := .slice none 0 0) (fun W _ => byteRow_none W) (by decide) (by decide) (by decide)
      have hm0 := Lib.hid hh.2
      clear hh
      go_wp2_with fail
      refine hput.mono ?_
      rintro e w13 (⟨hm, -⟩ | ⟨-, rfl, s13⟩)
      · exact absurd hm (by rw [hm0.out]; simp)
      · clear hput c0 c1 c2 c3 c4 c5 c6 c7 c8 s12
        go_wp2
        exact ⟨⟨5, by omega, rfl, s13⟩, by simp [intOf]⟩
    · have hh : Fits (hBad 5) ∧ may (hBad 5) = false := ⟨⟨by decide, by decide, by decide, by decide, by decide, by decide, by decide⟩, by decide⟩
      have c0 : wr.cell? ⟨w5.heap.size, 45, none⟩ = some (.bool false) := by have h := (St.boxAt s12 45).1; rw [HCS.out] at h; exact h
      have c1 : wr.cell? ⟨w5.heap.size, 46, none⟩ = some (.int .u32 0) := by have h := (St.boxAt s12 46).1; rw [HCS.out] at h; exact h
      have c2 : wr.cell? ⟨w5.heap.size, 47, none⟩ = some (.int .u8 0) := by have h := (St.boxAt s12 47).1; rw [HCS.out] at h; exact h
      have c3 : wr.cell? ⟨w5.heap.size, 48, none⟩ = some (.int .u8 0) := by have h := (St.boxAt s12 48).1; rw [HCS.out] at h; exact h
      have c4 : wr.cell? ⟨w5.heap.size, 49, none⟩ = some (.slice none 0 0) := by have h := (St.boxAt s12 49).1; rw [HCS.out] at h; exact h
      have c5 : wr.cell? ⟨w5.heap.size, 50, none⟩ = some (.string ⟨#[]⟩) := by have h := (St.boxAt s12 50).1; rw [HCS.out] at h; exact h
      have c6 : wr.cell? ⟨w5.heap.size, 51, none⟩ = some (.string ⟨#[0]⟩) := by have h := (St.boxAt s12 51).1; rw [HCS.out] at h; exact h
      have c7 : wr.cell? ⟨w5.heap.size, 52, none⟩ = some (.int .u8 4) := by have h := (St.boxAt s12 52).1; rw [HCS.out] at h; exact h
      have c8 : wr.cell? ⟨w5.heap.size, 53, none⟩ = some (.bool false) := by have h := (St.boxAt s12 53).1; rw [HCS.out] at h; exact h
      have hput := put_st s12 hh.1 (ev := .slice none 0 0) (fun W _ => byteRow_none W) (by decide) (by decide) (by decide)
      have hm0 := Lib.hid hh.2
      clear hh
      go_wp2_with fail
      refine hput.mono ?_
      rintro e w13 (⟨hm, -⟩ | ⟨-, rfl, s13⟩)
      · exact absurd hm (by rw [hm0.out]; simp)
      · clear hput c0 c1 c2 c3 c4 c5 c6 c7 c8 s12
        go_wp2
        exact ⟨⟨6, by omega, rfl, s13⟩, by simp [intOf]⟩
    · have hh : Fits (⟨false, 0, 0, 0, Z, [], [], 1, false⟩ : Gz) ∧ may (⟨false, 0, 0, 0, Z, [], [], 1, false⟩) = false := by rw [HZ.out]; exact bad_big
      have hZl : Z.length = 65536 := by rw [HZ.out, List.length_replicate]
      have c0 : wr.cell? ⟨w5.heap.size, 54, none⟩ = some (.bool false) := by have h := (St.boxAt s12 54).1; rw [HCS.out] at h; exact h
      have c1 : wr.cell? ⟨w5.heap.size, 55, none⟩ = some (.int .u32 0) := by have h := (St.boxAt s12 55).1; rw [HCS.out] at h; exact h
      have c2 : wr.cell? ⟨w5.heap.size, 56, none⟩ = some (.int .u8 0) := by have h := (St.boxAt s12 56).1; rw [HCS.out] at h; exact h
      have c3 : wr.cell? ⟨w5.heap.size, 57, none⟩ = some (.int .u8 0) := by have h := (St.boxAt s12 57).1; rw [HCS.out] at h; exact h
      have c4 : wr.cell? ⟨w5.heap.size, 58, none⟩ = some (.slice (some ⟨g4 + 1, 0, none⟩) 65536 65536) := by have h := (St.boxAt s12 58).1; rw [HCS.out] at h; exact h
      have c5 : wr.cell? ⟨w5.heap.size, 59, none⟩ = some (.string ⟨#[]⟩) := by have h := (St.boxAt s12 59).1; rw [HCS.out] at h; exact h
      have c6 : wr.cell? ⟨w5.heap.size, 60, none⟩ = some (.string ⟨#[]⟩) := by have h := (St.boxAt s12 60).1; rw [HCS.out] at h; exact h
      have c7 : wr.cell? ⟨w5.heap.size, 61, none⟩ = some (.int .u8 1) := by have h := (St.boxAt s12 61).1; rw [HCS.out] at h; exact h
      have c8 : wr.cell? ⟨w5.heap.size, 62, none⟩ = some (.bool false) := by have h := (St.boxAt s12 62).1; rw [HCS.out] at h; exact h
      have hput := put_st s12 hh.1 (ev := .slice (some ⟨g4 + 1, 0, none⟩) 65536 65536) (fun W t => byteRow_owns (by rw [hZl]; exact St.row (t.front 1)) hh.1.extra) (by show Z.length ≤ 1000000; omega) (by show 0 ≤ 1000000; omega) (by show 0 ≤ 1000000; omega)
      have hm0 := Lib.hid hh.2
      clear hh hZl
      go_wp2_with fail
      refine hput.mono ?_
      rintro e w13 (⟨hm, -⟩ | ⟨-, rfl, s13⟩)
      · exact absurd hm (by rw [hm0.out]; simp)
      · clear hput c0 c1 c2 c3 c4 c5 c6 c7 c8 s12
        go_wp2
        exact ⟨⟨7, by omega, rfl, s13⟩, by simp [intOf]⟩
    · have s13 : St w.heap.size w wr [] := s12.drop.drop.drop
      clear s12 HZ HCS
      obtain ⟨Z2, HZ2⟩ : ∃ Z : List Nat, Hid (Z = List.replicate 65535 0) := ⟨_, Lib.hid rfl⟩
      go_wp2_with (at_make; refine wpList_make11 rfl 65535 rfl (by omega) HZ2 s13 ?_)
      intro w14 s14
      have hZl : Z2.length = 65535 := by rw [HZ2.out, List.length_replicate]
      have hfit : Fits ⟨false, 0, 0, 0, Z2, [], [], 1, false⟩ := by rw [HZ2.out]; exact full_fits
      have hmay : may ⟨false, 0, 0, 0, Z2, [], [], 1, false⟩ = true := by rw [HZ2.out]; exact full_may
      have hlen : (bytesOf ⟨false, 0, 0, 0, Z2, [], [], 1, false⟩).length = 65547 := by rw [HZ2.out]; exact full_len
      have hput := put_st s14 hfit (ev := .slice (some ⟨wr.heap.size, 0, none⟩) 65535 65535) (fun W t => byteRow_owns (by rw [hZl]; exact t.row) hfit.extra) (by show Z2.length ≤ 1000000; omega) (by show 0 ≤ 1000000; omega) (by show 0 ≤ 1000000; omega)
      have HM := Lib.hid hmay
      have HL := Lib.hid hlen
      clear hZl hfit hmay hlen s13
      go_wp2_with fail
      refine hput.mono ?_
      rintro e w15 (⟨-, v, rfl, s15⟩ | ⟨hm, -⟩)
      rotate_left
      · exact absurd hm (by rw [HM.out]; simp)
      rw [HL.out] at s15
      obtain ⟨pa, pc, rfl⟩ := ownsRow_slice s15.row
      clear hput
      have s16 := (s15.drop.drop).newBox #[.string ⟨#[]⟩, .string ⟨#[31, 139, 8, 32, 0, 0, 0, 0, 0, 0]⟩, .string ⟨#[31, 139, 7, 0, 0, 0, 0, 0, 0, 0]⟩, .string ⟨#[30, 139, 8, 0, 0, 0, 0, 0, 0, 0]⟩, .string ⟨#[31, 139, 8, 0, 0, 0, 0, 0, 0]⟩, .string ⟨#[31, 139, 8, 4, 0, 0, 0, 0, 0, 0, 1]⟩, .string ⟨#[31, 139, 8, 4, 0, 0, 0, 0, 0, 0, 1, 0]⟩, .string ⟨#[31, 139, 8, 8, 0, 0, 0, 0, 0, 0, 97]⟩, .string ⟨#[31, 139, 8, 2, 0, 0, 0, 0, 0, 0, 97]⟩, .string ⟨#[31, 139, 8, 128, 0, 0, 0, 0, 0, 0]⟩] 9
      clear s14 s15
      go_wp2
      have hNk : ∀ k, k < 10 → (#[.string ⟨#[]⟩, .string ⟨#[31, 139, 8, 32, 0, 0, 0, 0, 0, 0]⟩, .string ⟨#[31, 139, 7, 0, 0, 0, 0, 0, 0, 0]⟩, .string ⟨#[30, 139, 8, 0, 0, 0, 0, 0, 0, 0]⟩, .string ⟨#[31, 139, 8, 0, 0, 0, 0, 0, 0]⟩, .string ⟨#[31, 139, 8, 4, 0, 0, 0, 0, 0, 0, 1]⟩, .string ⟨#[31, 139, 8, 4, 0, 0, 0, 0, 0, 0, 1, 0]⟩, .string ⟨#[31, 139, 8, 8, 0, 0, 0, 0, 0, 0, 97]⟩, .string ⟨#[31, 139, 8, 2, 0, 0, 0, 0, 0, 0, 97]⟩, .string ⟨#[31, 139, 8, 128, 0, 0, 0, 0, 0, 0]⟩] : Array Value)[k]? = some (.string (strOf (noL k))) := by
        intro k hk
        have hkk : k = 0 ∨ k = 1 ∨ k = 2 ∨ k = 3 ∨ k = 4 ∨ k = 5 ∨ k = 6 ∨ k = 7 ∨ k = 8 ∨ k = 9 := by omega
        rcases hkk with rfl | rfl | rfl | rfl | rfl | rfl | rfl | rfl | rfl | rfl
        · rw [show strOf (noL 0) = ⟨#[]⟩ from by decide]; rfl
        · rw [show strOf (noL 1) = ⟨#[31, 139, 8, 32, 0, 0, 0, 0, 0, 0]⟩ from by decide]; rfl
        · rw [show strOf (noL 2) = ⟨#[31, 139, 7, 0, 0, 0, 0, 0, 0, 0]⟩ from by decide]; rfl
        · rw [show strOf (noL 3) = ⟨#[30, 139, 8, 0, 0, 0, 0, 0, 0, 0]⟩ from by decide]; rfl
        · rw [show strOf (noL 4) = ⟨#[31, 139, 8, 0, 0, 0, 0, 0, 0]⟩ from by decide]; rfl
        · rw [show strOf (noL 5) = ⟨#[31, 139, 8, 4, 0, 0, 0, 0, 0, 0, 1]⟩ from by decide]; rfl
        · rw [show strOf (noL 6) = ⟨#[31, 139, 8, 4, 0, 0, 0, 0, 0, 0, 1, 0]⟩ from by decide]; rfl
        · rw [show strOf (noL 7) = ⟨#[31, 139, 8, 8, 0, 0, 0, 0, 0, 0, 97]⟩ from by decide]; rfl
        · rw [show strOf (noL 8) = ⟨#[31, 139, 8, 2, 0, 0, 0, 0, 0, 0, 97]⟩ from by decide]; rfl
        · rw [show strOf (noL 9) = ⟨#[31, 139, 8, 128, 0, 0, 0, 0, 0, 0]⟩ from by decide]; rfl
      obtain ⟨NS, hNS⟩ : ∃ NS : Array Value, NS = #[.string ⟨#[]⟩, .string ⟨#[31, 139, 8, 32, 0, 0, 0, 0, 0, 0]⟩, .string ⟨#[31, 139, 7, 0, 0, 0, 0, 0, 0, 0]⟩, .string ⟨#[30, 139, 8, 0, 0, 0, 0, 0, 0, 0]⟩, .string ⟨#[31, 139, 8, 0, 0, 0, 0, 0, 0]⟩, .string ⟨#[31, 139, 8, 4, 0, 0, 0, 0, 0, 0, 1]⟩, .string ⟨#[31, 139, 8, 4, 0, 0, 0, 0, 0, 0, 1, 0]⟩, .string ⟨#[31, 139, 8, 8, 0, 0, 0, 0, 0, 0, 97]⟩, .string ⟨#[31, 139, 8, 2, 0, 0, 0, 0, 0, 0, 97]⟩, .string ⟨#[31, 139, 8, 128, 0, 0, 0, 0, 0, 0]⟩] := ⟨_, rfl⟩
      rw [← hNS] at hNk s16
      have HNS := Lib.hid hNS
      have HNK := Lib.hid hNk
      clear hNS hNk HM HL HZ2
      go_loopw [15] (fun iv wr => ∃ k : Nat, k ≤ 10 ∧ iv = .int .i64 (k : Int) ∧ St w.heap.size w wr [boxT w15.heap.size NS 9]) (fun iv _ => 10 - (intOf iv).toNat)
      case atStart => exact ⟨0, by omega, rfl, by rw [HNS.out] at s16 ⊢; exact s16⟩
      case round =>
        clear s16
        obtain ⟨k, hk, rfl, s17⟩ := hrel
        by_cases hlt : k < 10
        · have hcell : wr.cell? ⟨w15.heap.size, k, none⟩ = some (.string (strOf (noL k))) := by rw [(St.boxAt s17 k).1]; exact HNK.out k hlt
          obtain ⟨cap, W, T, hrun, s18, hv⟩ := conv_st s17 (noL k) (noL_byte k hlt)
          have hget := get_st s18 (.slice (some ⟨wr.heap.size, 0, none⟩) (noL k).length cap) (noL k) (fun W' t => hv W' _ t) (by have := noL_len k hlt; omega)
          rw [noL_none k hlt] at hget
          obtain ⟨SS, hSS⟩ : ∃ S, strOf (noL k) = S := ⟨_, rfl⟩
          obtain ⟨m, hm⟩ : ∃ m, (noL k).length = m := ⟨_, rfl⟩
          rw [hSS] at hcell hrun
          rw [hm] at hrun hget
          clear hSS hm hv s18 s17 HNS HNK
          go_wp2_with fail
          refine hget.mono ?_
          rintro e w19 ⟨rfl, s19⟩
          have s20 := (s19.newBox noHead 25).drop.drop
          clear hget hcell hrun s19
          go_wp2
          exact ⟨⟨k + 1, by omega, by go_num, s20⟩, by simp [intOf]; omega⟩
        · obtain rfl : k = 10 := by omega
          clear HNS HNK
          obtain ⟨Z3, HZ3⟩ : ∃ Z : List Nat, Hid (Z = List.replicate 8 0) := ⟨_, Lib.hid rfl⟩
          have e1 := ends_st s17 (.slice none 0 0) (.slice none 0 0) [] [] (fun W _ => byteRow_none W) (fun W _ => byteRow_none W) (by decide)
          rw [show decide (tailOf [] = []) = false from by rw [zero_tail]; decide] at e1
          go_wp2_with fail
          refine e1.mono ?_
          rintro e w22 ⟨rfl, s22⟩
          clear e1 s17
          go_wp2_with (at_make; refine wpList_make11 rfl 8 rfl (by omega) HZ3 s22 ?_)
          intro w23 s23
          have hZ8 : Z3.length = 8 := by rw [HZ3.out, List.length_replicate]
          have e2 := ends_st s23 (.slice none 0 0) (.slice (some ⟨w22.heap.size, 0, none⟩) 8 8) [] Z3 (fun W _ => byteRow_none W) (fun W t => byteRow_owns (by rw [hZ8]; exact t.row) (by rw [HZ3.out]; decide)) (by decide)
          rw [show decide (tailOf [] = Z3) = true from by rw [zero_tail, HZ3.out]; decide] at e2
          clear hZ8 s22
          go_wp2_with fail
          refine e2.mono ?_
          rintro e w24 ⟨rfl, s24⟩
          clear e2 s23
          go_wp2_with fail
          refine (frames_any _).mono ?_
          rintro e w25 ⟨rfl, hb25⟩
          have hfin := (s24.quiet hb25).below hB
          clear s24 hb25
          go_wp2
          go_ret
          exact ⟨rfl, hfin⟩

end Go.Proofs.Ytiggbioaaglgaaa.frameKnown
