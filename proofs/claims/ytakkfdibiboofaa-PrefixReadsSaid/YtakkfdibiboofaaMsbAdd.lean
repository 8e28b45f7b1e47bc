/-
  The contract of the writer's Add of package msb. No conditions but that rows are small.
-/
import Derived.Test.YtakkfdibiboofaaMsbS
namespace Go.Proofs.Ytakkfdibiboofaa.Msb
open Go.RowKit

theorem chunk (lx : List Bool) (k : Nat) (hk : k < (pk lx).length) : lx.take (8 * k) ++ bitsOf ((pk lx)[k] / 2 ^ (8 - min (lx.length - 8 * k) 8)) (min (lx.length - 8 * k) 8) = lx.take (8 * (k + 1)) := by
  have e : min (lx.length - 8 * k) 8 = ((lx.drop (8 * k)).take 8).length := by simp; omega
  rw [pk_get, e, Nat.mul_div_cancel _ (Nat.two_pow_pos _), bitsOf_num, show 8 * (k + 1) = 8 * k + 8 from by omega, List.take_add]

/-- Behind the loop's round. -/
def SpreadTo (w : World) (pb : Nat) (v : Value) (l' : List Bool) (w' : World) : Prop := WrTo w pb v l' w'

theorem bytes_add (w : World) (xb : Nat) (vx : Value) (lx : List Bool) (hx : Wr w xb vx lx) (hl : lx.length < 1125899906841900) :
    Calls Try.prog 24 #[.pointer (some ⟨xb, 0, none⟩)] w.drew fun e w' => ∃ rv, e = .returned rv ∧ w'.cell? ⟨xb, 1, none⟩ = some (.int .i64 (lx.length : Int)) ∧ w'.ownsRow w.heap.size 5 1 rv (pk lx).length (u8s (pk lx)) ∧ Below w.heap.size w w' := by
  have hx1 : Wr w.drew xb vx lx := hx.only ((Only.refl (fun _ => False) w).drew) (fun _ _ f => f)
  refine (bytes_any w.drew xb vx lx hx1 (by omega)).mono ?_
  rintro e w' ⟨rv, rfl, hown, hbel⟩
  have h2 := cell_two (hx1.only (Below.only hbel (Nat.le_refl _) (fun _ => False)) (fun _ _ f => f)).head
  exact ⟨rv, rfl, h2.2.1, hown, (Below.refl _ _).drew.trans hbel⟩

end Go.Proofs.Ytakkfdibiboofaa.Msb
