/-
  The chapter's example of layer 14; what Common answers over a state. No conditions but that rows are small.
-/
import Derived.Test.YtfifkbadniekfaaLcpE
import Derived.Test.YtfifkbadniekfaaLcpB
import Derived.Test.YtfifkbadniekfaaSufM
namespace Go.Proofs.Ytfifkbadniekfaa.Lcp
open Go.RowKit Go.Proofs.Ytfifkbadniekfaa.Suf

theorem banana_hts : hts [98, 97, 110, 97, 110, 97] [5, 3, 1, 0, 4, 2] = [0, 1, 3, 0, 0, 2] := by decide +kernel

theorem banana_least (m : Int) (h : Least [0, 1, 3, 0, 0, 2] 0 2 m) : m = 1 := by
  refine h.one ⟨⟨1, by omega, by omega, rfl⟩, fun k v h1 h2 h3 => ?_⟩
  rcases (by omega : k = 1 ∨ k = 2) with rfl | rfl <;> · have := Option.some.inj h3; omega

set_option maxRecDepth 100000 in
set_option maxHeartbeats 4000000 in
/-- heights: the chapter's example. -/
theorem heights_any (w : World) : Calls Try.prog 12 #[] w fun e w' => e = .returned (.bool true) ∧ Below w.heap.size w w' := by
  have hcv := run_convert_lit
  go_enter Try.func12, Try.ntmps12
  go_wp2_with fail
  have b1 := below_alloc w (.cells (u8s [98, 97, 110, 97, 110, 97]).toArray 5 (6, 7))
  have r1 := byteRow_lit w [98, 97, 110, 97, 110, 97] (6, 7) (by decide)
  have s0 : St (w.heap.size + 1) (w.alloc (.cells (u8s [98, 97, 110, 97, 110, 97]).toArray 5 (6, 7))) (w.alloc (.cells (u8s [98, 97, 110, 97, 110, 97]).toArray 5 (6, 7))) [] := by
    have h := St.start (w.alloc (.cells (u8s [98, 97, 110, 97, 110, 97]).toArray 5 (6, 7)))
    rwa [World.size_alloc] at h
  have s1 := litNums s0 [5, 3, 1, 0, 4, 2] (by decide)
  rw [World.size_alloc] at s1
  have hB : w.heap.size + 1 ≤ (w.alloc (.cells (u8s [98, 97, 110, 97, 110, 97]).toArray 5 (6, 7))).heap.size := Nat.le_of_eq (World.size_alloc ..).symm
  have hr1 : ∀ W, St (w.heap.size + 1) (w.alloc (.cells (u8s [98, 97, 110, 97, 110, 97]).toArray 5 (6, 7))) W (numsT 3 (w.heap.size + 1) 6 [5, 3, 1, 0, 4, 2] :: []) → ByteRow W (.slice (some ⟨w.heap.size, 0, none⟩) 6 6) [98, 97, 110, 97, 110, 97] := fun W t => r1.below (t.below hB) (Nat.le_of_eq (World.size_alloc ..))
  have hcall := heights_st s1 (.slice (some ⟨w.heap.size, 0, none⟩) 6 6) (.slice (some ⟨w.heap.size + 1, 0, none⟩) 6 6) [98, 97, 110, 97, 110, 97] ([5, 3, 1, 0, 4, 2] : List Int) hr1 (fun W t => NumRow.intRow (numsRow t rfl) (by decide)) (by decide) (by decide)
  have bst : ∀ W r, St (w.heap.size + 1) (w.alloc (.cells (u8s [98, 97, 110, 97, 110, 97]).toArray 5 (6, 7))) W r → Below w.heap.size w W := fun W r t => b1.trans ((t.below hB).mono (by omega))
  clear hr1 r1 s0 s1 b1
  refine hcall.mono ?_
  clear hcall
  generalize w.alloc (.cells (u8s [98, 97, 110, 97, 110, 97]).toArray 5 (6, 7)) = W1 at *
  rintro e w2 (⟨O, g, hO, hW, rfl, s2⟩ | ⟨hno, _⟩)
  rotate_left
  · exact absurd (whole_of banana_ends) (hno _ rfl)
  obtain rfl : [5, 3, 1, 0, 4, 2] = O := ints_one hO
  rw [banana_hts] at s2
  replace s2 : St (w.heap.size + 1) W1 w2 (numsT 3 g 6 [0, 1, 3, 0, 0, 2] :: _) := s2
  have s3 := litNums s2 [0, 1, 3, 0, 0, 2] (by decide)
  clear hO hW
  go_wp2_with fail
  refine (common_any _ (.slice (some ⟨w2.heap.size, 0, none⟩) 6 6) ([0, 1, 3, 0, 0, 2] : List Int) (NumRow.intRow (numsRow s3 rfl) (by decide)) (by decide) 0 2).mono ?_
  rintro e w4 ⟨ha, k, rfl⟩
  have hans : e = .returned (.tuple #[.int .i64 1, .int .i64 0]) := by
    rcases ha with ⟨h, _⟩ | ⟨i, j, m, h1, h2, _, _, h3, h4⟩
    · simp at h
    · obtain rfl : i = 0 := by omega
      obtain rfl : j = 2 := by omega
      rw [h4, banana_least m h3]
  subst hans
  have s4 := s3.drewN k
  clear s3 ha
  generalize World.drewN _ k = w4 at *
  have s5 := litNums s4 [0, 1, 3, 0, 0, 2] (by decide)
  go_wp2_with fail
  refine (same_st s5 (.slice (some ⟨g, 0, none⟩) 6 6) (.slice (some ⟨w4.heap.size, 0, none⟩) 6 6) [0, 1, 3, 0, 0, 2] [0, 1, 3, 0, 0, 2] (numsRow s5.drop.swap rfl) (numsRow s5 rfl) (by decide) (by decide) (by decide)).mono ?_
  rintro e w5 ⟨rfl, s6⟩
  have b4 := bst _ _ s6
  clear s4 s5 s6
  go_wp2_with fail
  go_ret
  exact ⟨rfl, b4⟩

end Go.Proofs.Ytfifkbadniekfaa.Lcp
