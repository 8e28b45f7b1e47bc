/-
  Contracts of pressworklaw07: packs (is an example packed, and unpacked?). No conditions.
-/
import Derived.Test.YthmkkbaenccgiaaRepK
import Derived.Test.YthmkkbaenccgiaaRepU
import Derived.Test.YthmkkbaenccgiaaStr
namespace Go.Proofs.Ythmkkbaenccgiaa.Rep
open Go.RowKit

/-- The chapter's example. -/
def exL : List Nat := [5, 5, 5, 5, 0, 0, 0, 7]
def exS : List (Nat × Nat) := [(5, 0), (16, 0), (17, 0), (7, 0)]

theorem ex_pack : packErr exL = 0 ∧ packOf exL = exS := by
  have e : (exL.any fun x => decide (15 < x)) = false := by decide
  unfold packErr packOf
  rw [e]
  refine ⟨rfl, ?_⟩
  show pack exL = exS
  simp [pack, lead, signs, others, zeros, exL, exS]

theorem ex_unpack : unErr exS 8 = 0 ∧ unAns exS 8 = exL := by decide

theorem ex_small : Small exS := by
  intro p hp
  simp [exS] at hp
  rcases hp with rfl | rfl | rfl | rfl <;> decide

/-- A row of signs written out in the text, some worlds later. -/
theorem signRow_box {w : World} {b : Nat} {l : List (Nat × Nat)} {e : TypeId} (h : w.heap[b]? = some (.cells (sgn l).toArray e (0, 0))) (hs : Small l) (hl : l.length ≤ maxLen) : SignRow w (.slice (some ⟨b, 0, none⟩) l.length l.length) l := by
  refine ⟨_, l.length, rfl, Nat.le_refl _, hl, (fun e => by cases e), fun i hi => ⟨hs _ (List.getElem_mem hi), b, 0, rfl, ?_, ?_⟩⟩
  · rw [Nat.zero_add, cell_of_row _ b _ (sgn l).toArray e (0, 0) h]
    simpa using (sgn_get l i hi).1
  · rw [Nat.zero_add, cell_of_row _ b _ (sgn l).toArray e (0, 0) h]
    simpa using (sgn_get l i hi).2

set_option maxRecDepth 100000 in
set_option maxHeartbeats 4000000 in
theorem packs_any (w : World) : Calls Try.prog 12 #[] w fun e w' => e = .returned (.bool true) ∧ Below w.heap.size w w' := by
  have s0 := (St.start w).newBox (u8s exL).toArray 5
  have hp := pack_st s0 _ exL (byteRow_lit w exL (0, 0) (by decide)) (by decide)
  rw [ex_pack.1, ex_pack.2] at hp
  go_enter Try.func12, Try.ntmps12
  go_wp2_with (go_at_call 9; refine hp.mono ?_; rintro e w1 ⟨v1, rfl, s1⟩)
  have s2 := s1.newBox (sgn exS).toArray 31
  have hu := unpack_st s2 _ exS (fun W sW => signRow_box sW.box ex_small (by decide)) (by decide) 8 (by decide) (by decide)
  unfold UnpackSt at hu
  rw [ex_unpack.1, ex_unpack.2] at hu
  refine hu.mono ?_
  rintro e w2 ⟨v2, rfl, s3⟩
  obtain ⟨g, cp, rfl, hcp⟩ := s1.rowShape (by decide)
  have s4 := s3.third
  clear hu hp s0 s1 s2
  have c2 : w2.cell? ⟨g, 2, none⟩ = some (.int .u8 16) := s4.row.cellAt 2 (by decide)
  have c3 : w2.cell? ⟨g, 3, none⟩ = some (.int .u8 0) := s4.row.cellAt 3 (by decide)
  have c4 : w2.cell? ⟨g, 4, none⟩ = some (.int .u8 17) := s4.row.cellAt 4 (by decide)
  have c5 : w2.cell? ⟨g, 5, none⟩ = some (.int .u8 0) := s4.row.cellAt 5 (by decide)
  have hstr := s3.string
  have hcp2 : 4 ≤ cp := hcp
  have hso : strOf exL = ⟨#[5, 5, 5, 5, 0, 0, 0, 7]⟩ := by decide
  rw [hso] at hstr
  have hb := bits_any w2 18 (by decide)
  rw [show bitsOf' 18 = 7 from rfl] at hb
  have hlen4 : (exS.length : Int) = 4 := rfl
  go_wp2_with (go_at_call 11; refine hb.mono ?_; rintro e w3 ⟨rfl, rfl⟩)
  go_ret
  exact ⟨rfl, s3.below (Nat.le_refl _)⟩

end Go.Proofs.Ythmkkbaenccgiaa.Rep
