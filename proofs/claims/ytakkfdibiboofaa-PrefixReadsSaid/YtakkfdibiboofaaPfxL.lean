/-
  pressworklaw06.puts: the chapter's example. No conditions.
-/
import Derived.Test.YtakkfdibiboofaaPfxE
namespace Go.Proofs.Ytakkfdibiboofaa
open Go.RowKit Kraft

/-- A thing of a state's list, to the front. -/
def toFront : Nat → List Thing → List Thing
  | 0, l => l
  | _, [] => []
  | n + 1, A :: r => match toFront n r with
    | [] => [A]
    | C :: r' => C :: A :: r'

theorem Sep.front {w : World} : ∀ (n : Nat) (l : List Thing) (S : Nat → Prop), Sep w l S → Sep w (toFront n l) S
  | 0, _, _, h => h
  | n + 1, [], _, h => h
  | n + 1, A :: r, S, h => by
    have h1 : Sep w (A :: toFront n r) S := Sep.under (fun S' h' => Sep.front n r S' h') h
    unfold toFront
    cases e : toFront n r with
    | nil => rw [e] at h1; exact h1
    | cons C r' => rw [e] at h1; exact h1.swap

theorem St.front {B : Nat} {w0 w : World} {l : List Thing} (n : Nat) (h : St B w0 w l) : St B w0 w (toFront n l) := ⟨h.only, h.size, Sep.front n l _ h.sep⟩

/-- Bytes written out in the text. -/
theorem St.litBytes {B : Nat} {w0 w : World} {r : List Thing} (st : St B w0 w r) (xs : List Nat) (hb : ∀ x ∈ xs, x < 256) :
    St B w0 (w.alloc (.cells (u8s xs).toArray 5)) r ∧ ByteRow (w.alloc (.cells (u8s xs).toArray 5)) (.slice (some ⟨w.heap.size, 0, none⟩) xs.length xs.length) xs :=
  ⟨st.alloc _, byteRow_lit w xs (0, 0) hb⟩

def exL : List Nat := [2, 1, 0, 2]
theorem exL_err : wordsErr exL = 0 := by decide +kernel
theorem exL_20 : ∀ j, len exL j ≤ 20 := len_le_of (wordsErr_ok exL_err).1
theorem exL_w : weight exL ≤ 1048576 := (wordsErr_ok exL_err).2

set_option maxRecDepth 100000 in
set_option maxHeartbeats 1000000 in
theorem puts_any (w : World) : Calls Try.prog 11 #[] w fun e w' => e = .returned (.bool true) ∧ Below w.heap.size w w' := by
  have s0 := (St.start w).litBytes exL (by decide)
  have hnew := tnew_st s0.1 _ exL s0.2 (by decide)
  go_enter Try.func11, Try.ntmps11
  go_wp2_with fail
  refine hnew.mono ?_
  rintro e w1 (⟨h, _⟩ | ⟨_, tb, rfl, s1⟩)
  · exact absurd exL_err h
  clear hnew s0
  have s2 := s1.newWr.mnewWr
  rw [show (w1.alloc (.cells #[.slice none 0 0, .int .i64 0] 45)).heap.size = w1.heap.size + 1 from by simp] at s2
  obtain ⟨pa, hpa⟩ : ∃ pa, pa = w1.heap.size := ⟨_, rfl⟩
  rw [← hpa] at s2
  have sA : St w.heap.size w _ (wrT pa [] :: tblL tb exL :: Msb.wrT (pa + 1) [] :: []) := (s2.front 2).front 2
  clear s2 s1
  go_wp2_with fail
  simp only [← hpa]
  clear hpa
  refine (Low.tput_st sA 0 exL_20 exL_w (by decide)).mono ?_
  rintro e x1 ⟨rfl, a1⟩
  rw [show _ ++ wordBits exL 0 = [true, false] from by decide +kernel] at a1
  rw [show putErr exL 0 = 0 from by decide +kernel]
  clear sA
  go_wp2_with fail
  refine (Low.tput_st a1 1 exL_20 exL_w (by decide)).mono ?_
  rintro e x2 ⟨rfl, a2⟩
  rw [show _ ++ wordBits exL 1 = [true, false, false] from by decide +kernel] at a2
  rw [show putErr exL 1 = 0 from by decide +kernel]
  clear a1
  go_wp2_with fail
  refine (Low.tput_st a2 3 exL_20 exL_w (by decide)).mono ?_
  rintro e x3 ⟨rfl, a3⟩
  rw [show _ ++ wordBits exL 3 = [true, false, false, true, true] from by decide +kernel] at a3
  rw [show putErr exL 3 = 0 from by decide +kernel]
  clear a2
  go_wp2_with fail
  have sB : St w.heap.size w _ (Msb.wrT (pa + 1) [] :: tblL tb exL :: wrT pa [true, false, false, true, true] :: []) := (a3.front 1).front 2
  clear a3
  refine (High.tput_st sB 0 exL_20 exL_w (by decide)).mono ?_
  rintro e x4 ⟨rfl, a4⟩
  rw [show _ ++ wordBits exL 0 = [true, false] from by decide +kernel] at a4
  rw [show putErr exL 0 = 0 from by decide +kernel]
  clear sB
  go_wp2_with fail
  refine (High.tput_st a4 1 exL_20 exL_w (by decide)).mono ?_
  rintro e x5 ⟨rfl, a5⟩
  rw [show _ ++ wordBits exL 1 = [true, false, false] from by decide +kernel] at a5
  rw [show putErr exL 1 = 0 from by decide +kernel]
  clear a4
  go_wp2_with fail
  refine (High.tput_st a5 3 exL_20 exL_w (by decide)).mono ?_
  rintro e x6 ⟨rfl, a6⟩
  rw [show _ ++ wordBits exL 3 = [true, false, false, true, true] from by decide +kernel] at a6
  rw [show putErr exL 3 = 0 from by decide +kernel]
  clear a5
  go_wp2_with fail
  have sC := a6.litBytes [152] (by decide)
  refine (Msb.new_st sC.1 sC.2.reads (by decide) (by decide)).mono ?_
  rintro e x7 ⟨qb, rfl, a7⟩
  clear sC a6
  have sD : St w.heap.size w x7 (Msb.rdT qb [152] 0 :: tblL tb exL :: Msb.wrT (pa + 1) [true, false, false, true, true] :: wrT pa [true, false, false, true, true] :: []) := (a7.front 2).front 1
  clear a7
  go_wp2_with fail
  refine (High.tget_st sD exL_20).mono ?_
  rintro e x8 ⟨rfl, a8⟩
  rw [show High.got exL [152] 0 = (2, 0, 0) from by decide +kernel] at a8 ⊢
  clear sD
  have sE : St w.heap.size w x8 (wrT pa [true, false, false, true, true] :: tblL tb exL :: Msb.wrT (pa + 1) [true, false, false, true, true] :: []) := a8.drop.front 2
  clear a8
  go_wp2_with fail
  refine (bytes_st sE (by decide)).mono ?_
  rintro e x9 ⟨v9, rfl, a9⟩
  rw [show pk [true, false, false, true, true] = [25] from by decide +kernel] at a9
  have hcv := a9.string
  have hst : ((strOf [25]).toList == [25]) = true := by decide +kernel
  have sF : St w.heap.size w x9 (Msb.wrT (pa + 1) [true, false, false, true, true] :: tblL tb exL :: []) := (a9.drop.drop).front 1
  clear a9 sE
  go_wp2_with fail
  refine (Msb.bytes_st sF (by decide)).mono ?_
  rintro e x10 ⟨v10, rfl, a10⟩
  rw [show Msb.pk [true, false, false, true, true] = [152] from by decide +kernel] at a10
  have hcv2 := a10.string
  have hst2 : ((strOf [152]).toList == [152]) = true := by decide +kernel
  have sG := (a10.drop.drop)
  clear a10 sF
  obtain ⟨g, mb, hT⟩ := sG.tblHead
  have hb3 := tbits_any hT 3
  have hb2 := tbits_any hT 2
  rw [show bitsAtSym exL 3 = 2 from by decide +kernel] at hb3
  rw [show bitsAtSym exL 2 = 0 from by decide +kernel] at hb2
  go_wp2_with fail
  refine hb3.mono ?_
  rintro e x11 ⟨rfl, rfl⟩
  go_wp2_with fail
  refine hb2.mono ?_
  rintro e x12 ⟨rfl, rfl⟩
  go_wp2
  go_ret
  exact ⟨rfl, sG.below (Nat.le_refl _)⟩

end Go.Proofs.Ytakkfdibiboofaa
