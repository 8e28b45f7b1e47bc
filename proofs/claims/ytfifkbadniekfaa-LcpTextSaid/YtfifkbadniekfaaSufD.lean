/-
  Contracts of package sufsort: the pairs that closures tell; where a text goes on. No conditions but that rows are small.
-/
import Derived.Test.YtfifkbadniekfaaSufC
namespace Go.Proofs.Ytfifkbadniekfaa.Suf
open Go.RowKit

theorem infoPair : (Try.prog.info? 55).map (·.size) = some 2 := by kernel_rfl

set_option maxRecDepth 100000 in
set_option maxHeartbeats 1000000 in
/-- The pair of a place in the first round. -/
theorem pairOne_any (w : World) (fb : Nat) (u : Value) (X : List Nat) (hb : w.cell? ⟨fb, 0, none⟩ = some u) (hu : NumRow w u X) (p : Nat) (hp : p < X.length) :
    Calls Try.prog 31 #[.int .i64 (p : Int), .pointer (some ⟨fb, 0, none⟩)] w fun e w' => e = .returned (.agg #[.int .i64 (nth X p : Int), .int .i64 ((0 : Nat) : Int)]) ∧ Below w.heap.size w w' := by
  obtain ⟨a, cap, rfl, hc, hn, hat⟩ := hu
  obtain ⟨b, off, rfl, c0⟩ := hat p hp
  rw [nth_lt hp]
  generalize X[p] = y at *
  have h1 := World.block_lt_of_cell? w _ hb
  have h2 := World.block_lt_of_cell? w _ c0
  simp only at h1 h2
  have hb' : (w.alloc (.cells #[.int .i64 0, .int .i64 0] 55)).cell? ⟨fb, 0, none⟩ = some (.slice (some ⟨b, off, none⟩) X.length cap) := ((below_alloc w _).cell (p := ⟨fb, 0, none⟩) h1).trans hb
  have c0' : (w.alloc (.cells #[.int .i64 0, .int .i64 0] 55)).cell? ⟨b, off + p, none⟩ = some (.int .i64 (y : Int)) := ((below_alloc w _).cell (p := ⟨b, off + p, none⟩) h2).trans c0
  go_enter Try.func31, Try.ntmps31
  go_wp2_with fail
  refine bodyPost_ret (results_cell_row rfl _ _ w.heap.size 55 _ (0, 0) (.array 2 3) rfl (heap_alloc_new w _) Try.underlying55 rfl (by rw [infoPair]; rfl)) rfl ⟨rfl, below_alloc w _⟩

set_option maxRecDepth 100000 in
set_option maxHeartbeats 1000000 in
/-- The pair of a place in a later round. -/
theorem pairTwo_any (w : World) (fb gb : Nat) (u v : Value) (X Y : List Nat) (hb : w.cell? ⟨fb, 0, none⟩ = some u) (hu : NumRow w u X) (hg : w.cell? ⟨gb, 0, none⟩ = some v) (hv : NumRow w v Y) (p : Nat) (hp : p < X.length) (hq : p < Y.length) :
    Calls Try.prog 32 #[.int .i64 (p : Int), .pointer (some ⟨fb, 0, none⟩), .pointer (some ⟨gb, 0, none⟩)] w fun e w' => e = .returned (.agg #[.int .i64 (nth X p : Int), .int .i64 (nth Y p : Int)]) ∧ Below w.heap.size w w' := by
  obtain ⟨a, cap, rfl, hc, hn, hat⟩ := hu
  obtain ⟨b, off, rfl, c0⟩ := hat p hp
  obtain ⟨a2, cap2, rfl, hc2, hn2, hat2⟩ := hv
  obtain ⟨b2, off2, rfl, c1⟩ := hat2 p hq
  rw [nth_lt hp, nth_lt hq]
  generalize X[p] = y at *
  generalize Y[p] = z at *
  clear hat hat2 hn hn2
  have h1 := World.block_lt_of_cell? w _ hb
  have h2 := World.block_lt_of_cell? w _ c0
  have h3 := World.block_lt_of_cell? w _ hg
  have h4 := World.block_lt_of_cell? w _ c1
  simp only at h1 h2 h3 h4
  obtain ⟨n, hn⟩ : ∃ n, w.heap.size = n := ⟨_, rfl⟩
  rw [hn] at h1 h2 h3 h4
  have bA : Below n w (w.alloc (.cells #[.int .i64 0, .int .i64 0] 55)).drew := by rw [← hn]; exact (below_alloc w _).drew
  have hb' := (bA.cell (p := ⟨fb, 0, none⟩) h1).trans hb
  have c0' := (bA.cell (p := ⟨b, off + p, none⟩) h2).trans c0
  have hg' := (bA.cell (p := ⟨gb, 0, none⟩) h3).trans hg
  have c1' := (bA.cell (p := ⟨b2, off2 + p, none⟩) h4).trans c1
  have hx : (w.alloc (.cells #[.int .i64 0, .int .i64 0] 55)).drew.heap[n]? = some (.cells #[.int .i64 0, .int .i64 0] 55 (0, 0)) := by rw [← hn]; exact heap_alloc_new w _
  go_enter Try.func32, Try.ntmps32
  go_wp2_with fail
  have z0 : (w.alloc (.cells #[.int .i64 0, .int .i64 0] 55)).drew.frozen? ⟨n, 0, none⟩ = false := by simp [World.frozen?, hx]
  have z1 : (w.alloc (.cells #[.int .i64 0, .int .i64 0] 55)).drew.frozen? ⟨n, 1, none⟩ = false := by simp [World.frozen?, hx]
  have y0 : (w.alloc (.cells #[.int .i64 0, .int .i64 0] 55)).drew.cell? ⟨n, 0, none⟩ = some (.int .i64 0) := cell_of_row _ n 0 _ _ _ hx
  have y1 : (w.alloc (.cells #[.int .i64 0, .int .i64 0] 55)).drew.cell? ⟨n, 1, none⟩ = some (.int .i64 0) := cell_of_row _ n 1 _ _ _ hx
  generalize hwd : (w.alloc (.cells #[.int .i64 0, .int .i64 0] 55)).drew = wd at *
  clear hb c0 hg c1
  go_region
  go_wp2
  refine bodyPost_ret (results_cell_row rfl _ _ n 55 _ (0, 0) (.array 2 3) rfl (heap_setCell_same _ n 1 _ _ _ (heap_setCell_same _ n 0 _ _ _ hx)) Try.underlying55 rfl (by rw [infoPair]; rfl)) rfl ⟨rfl, ?_⟩
  rw [hn]
  exact (bA.setCell (Nat.le_refl _) _).setCell (Nat.le_refl _) _

set_option maxRecDepth 100000 in
set_option maxHeartbeats 1000000 in
/-- Where an end goes on. -/
theorem endBehind_any (w : World) (bb : Nat) (a : Option Addr) (n c : Nat) (hb : w.cell? ⟨bb, 0, none⟩ = some (.slice a n c)) (p d : Nat) (hp : p ≤ 1000000) (hd : d ≤ 1000000) :
    Calls Try.prog 24 #[.int .i64 (p : Int), .int .i64 (d : Int), .pointer (some ⟨bb, 0, none⟩)] w fun e w' => e = .returned (.int .i64 (beh false n p d : Int)) ∧ w' = w := by
  have h1 : (beh false n p d : Int) = min ((p : Int) + (d : Int)) (n : Int) := by simp only [beh, Bool.false_eq_true, if_false]; omega
  have h2 : (if (n : Int) < (p : Int) + (d : Int) then (n : Int) else (p : Int) + (d : Int)) = min ((p : Int) + (d : Int)) (n : Int) := by split <;> omega
  rw [h1]
  go_enter Try.func24, Try.ntmps24
  go_wp2_with fail
  go_ret
  exact ⟨by simp only [h2] at *; try rfl, rfl⟩

end Go.Proofs.Ytfifkbadniekfaa.Suf
