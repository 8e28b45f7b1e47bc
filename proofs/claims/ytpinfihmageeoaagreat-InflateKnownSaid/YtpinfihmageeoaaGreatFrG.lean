/-
  Contract of package frame: Get. No conditions but that rows are small.
-/
import Derived.Test.YtpinfihmageeoaaGreatFrS
import Derived.Test.YtpinfihmageeoaaGreatGC
import Derived.Defers
import Derived.Recover
import Derived.Tactics
import Derived.Tactics2
namespace Go
variable {P : Program}
/-- A region that does not panic. -/
theorem wp_calm11 {c : Code} {Q : Exit → Act → World → Prop} {a : Act} {w : World} (h : c.wp P (fun ex a w => match ex with | .normal => Q .normal a w | _ => False) a w) : c.wp P Q a w := by
  refine Code.wp_mono (fun e a w h => ?_) h
  cases e with
  | normal => exact h
  | _ => exact h.elim
end Go
namespace Go.Proofs.YtpinfihmageeoaaGreat.Fr
open Go.RowKit Crc

/-- The reader's fields, as they are read. -/
abbrev reads (rb : Nat) : Array Value := #[.func (.func 87) #[.pointer (some ⟨rb, 0, none⟩)] #[], .func (.func 88) #[.pointer (some ⟨rb, 0, none⟩)] #[], .func (.func 89) #[.pointer (some ⟨rb, 0, none⟩)] #[], .func (.func 90) #[.pointer (some ⟨rb, 0, none⟩)] #[], .func (.func 91) #[.pointer (some ⟨rb, 0, none⟩)] #[], .func (.func 92) #[.pointer (some ⟨rb, 0, none⟩)] #[], .func (.func 93) #[.pointer (some ⟨rb, 0, none⟩)] #[], .func (.func 94) #[.pointer (some ⟨rb, 0, none⟩)] #[], .func (.func 95) #[.pointer (some ⟨rb, 0, none⟩)] #[]]

/-- The cells of the head that is answered beside an error. -/
abbrev noHead : Array Value := #[.bool false, .int .u32 0, .int .u8 0, .int .u8 0, .slice none 0 0, .string ⟨#[]⟩, .string ⟨#[]⟩, .int .u8 0, .bool false]

theorem noHead_eq : headC Gz.nil (.slice none 0 0) = noHead := rfl

set_option maxRecDepth 100000 in
set_option maxHeartbeats 1000000 in
theorem catch11_oops (b1 b2 b3 b4 : Nat) (w : World) (h12 : b1 ≠ b2) (h13 : b1 ≠ b3) (h14 : b1 ≠ b4) (h23 : b2 ≠ b3) (h24 : b2 ≠ b4) (h34 : b3 ≠ b4)
    (c1 : w.heap[b1]? = some (.cells noHead 80 (0, 0))) (c2 : w.heap[b2]? = some (.cells #[.int .i64 0] 3 (0, 0))) (c3 : w.heap[b3]? = some (.cells #[.bool false] 4 (0, 0))) (c4 : w.heap[b4]? = some (.cells #[.int .i64 0] 22 (0, 0))) :
    CallsD Tryz.prog 86 #[.pointer (some ⟨b1, 0, none⟩), .pointer (some ⟨b2, 0, none⟩), .pointer (some ⟨b3, 0, none⟩), .pointer (some ⟨b4, 0, none⟩)] (.panicking oops) w fun e u' w' =>
      e = .returned (.tuple #[]) ∧ u' = .panicking [{ v := .iface 22 (.int .i64 2), recovered := true }] ∧ w' = (((((((((((w.setCell ⟨b1, 0, none⟩ (.bool false)).setCell ⟨b1, 1, none⟩ (.int .u32 0)).setCell ⟨b1, 2, none⟩ (.int .u8 0)).setCell ⟨b1, 3, none⟩ (.int .u8 0)).setCell ⟨b1, 4, none⟩ (.slice none 0 0)).setCell ⟨b1, 5, none⟩ (.string ⟨#[]⟩)).setCell ⟨b1, 6, none⟩ (.string ⟨#[]⟩)).setCell ⟨b1, 7, none⟩ (.int .u8 0)).setCell ⟨b1, 8, none⟩ (.bool false)).setCell ⟨b2, 0, none⟩ (.int .i64 0)).setCell ⟨b3, 0, none⟩ (.bool false)).setCell ⟨b4, 0, none⟩ (.int .i64 2) := by
  have k0 : w.cell? ⟨b1, 0, none⟩ = some (.bool false) := by rw [cell_of_row _ b1 0 _ _ (0, 0) c1]; rfl
  have k1 : w.cell? ⟨b1, 1, none⟩ = some (.int .u32 0) := by rw [cell_of_row _ b1 1 _ _ (0, 0) c1]; rfl
  have k2 : w.cell? ⟨b1, 2, none⟩ = some (.int .u8 0) := by rw [cell_of_row _ b1 2 _ _ (0, 0) c1]; rfl
  have k3 : w.cell? ⟨b1, 3, none⟩ = some (.int .u8 0) := by rw [cell_of_row _ b1 3 _ _ (0, 0) c1]; rfl
  have k4 : w.cell? ⟨b1, 4, none⟩ = some (.slice none 0 0) := by rw [cell_of_row _ b1 4 _ _ (0, 0) c1]; rfl
  have k5 : w.cell? ⟨b1, 5, none⟩ = some (.string ⟨#[]⟩) := by rw [cell_of_row _ b1 5 _ _ (0, 0) c1]; rfl
  have k6 : w.cell? ⟨b1, 6, none⟩ = some (.string ⟨#[]⟩) := by rw [cell_of_row _ b1 6 _ _ (0, 0) c1]; rfl
  have k7 : w.cell? ⟨b1, 7, none⟩ = some (.int .u8 0) := by rw [cell_of_row _ b1 7 _ _ (0, 0) c1]; rfl
  have k8 : w.cell? ⟨b1, 8, none⟩ = some (.bool false) := by rw [cell_of_row _ b1 8 _ _ (0, 0) c1]; rfl
  have m2 : w.cell? ⟨b2, 0, none⟩ = some (.int .i64 0) := by rw [cell_of_row _ b2 0 _ _ (0, 0) c2]; rfl
  have m3 : w.cell? ⟨b3, 0, none⟩ = some (.bool false) := by rw [cell_of_row _ b3 0 _ _ (0, 0) c3]; rfl
  have m4 : w.cell? ⟨b4, 0, none⟩ = some (.int .i64 0) := by rw [cell_of_row _ b4 0 _ _ (0, 0) c4]; rfl
  have z1 : ∀ j, w.frozen? ⟨b1, j, none⟩ = false := fun j => by simp [World.frozen?, c1]
  have z2 : w.frozen? ⟨b2, 0, none⟩ = false := by simp [World.frozen?, c2]
  have z3 : w.frozen? ⟨b3, 0, none⟩ = false := by simp [World.frozen?, c3]
  have z4 : w.frozen? ⟨b4, 0, none⟩ = false := by simp [World.frozen?, c4]
  clear c1 c2 c3 c4
  refine callsD_of_wpS Tryz.func86 rfl fun c₀ cs hu => ?_
  unfold oops at hu
  apply wpS_seq
  apply wpS_region
  simp [wpOpsS, go_sem, recoverD, hu, Tryz.ntmps86, Exit.thenS]
  refine wpS_cond (t := true) (by simp [Act.eval, Array.replicate]) ?_
  simp only [if_true]
  apply wpS_region
  simp [wpOpsS, go_sem, k0, k1, k2, k3, k4, k5, k6, k7, k8, m2, m3, m4, z1, z2, z3, z4, bodyPostS, results, Tryz.results86]

theorem catch11_idle (b1 b2 b3 b4 : Nat) (w : World) :
    CallsD Tryz.prog 86 #[.pointer (some ⟨b1, 0, none⟩), .pointer (some ⟨b2, 0, none⟩), .pointer (some ⟨b3, 0, none⟩), .pointer (some ⟨b4, 0, none⟩)] .returning w fun e u' w' => e = .returned (.tuple #[]) ∧ u' = .returning ∧ w' = w := by
  refine callsD_of_wpS Tryz.func86 rfl fun c₀ cs hu => ?_
  apply wpS_seq
  apply wpS_region
  simp [wpOpsS, go_sem, recoverD, hu, Tryz.ntmps86, Exit.thenS]
  refine wpS_cond (t := false) (by simp [Act.eval, Array.replicate]) ?_
  simp only [Bool.false_eq_true, if_false]
  refine wpS_of_wp (wp_skip ?_)
  cases c₀
  simp_all [bodyPostS, results, Tryz.results86]

end Go.Proofs.YtpinfihmageeoaaGreat.Fr
