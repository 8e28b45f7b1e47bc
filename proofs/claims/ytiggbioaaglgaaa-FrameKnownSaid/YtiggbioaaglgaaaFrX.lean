/-
  The document's Same; the laws' examples. No conditions but that rows are small.
-/
import Derived.Test.YtiggbioaaglgaaaFrV
import Derived.Test.YtiggbioaaglgaaaFrH
namespace Go.Proofs.Ytiggbioaaglgaaa.Fr
open Go.RowKit Crc

set_option maxRecDepth 100000 in
set_option maxHeartbeats 4000000 in
theorem same_true (w : World) (h : Gz) (ev eg : Value) (hA : ByteRow w ev h.extra) (hC : ByteRow w eg h.extra) :
    Calls Try.prog 13 #[.agg (headC h ev), .agg (headC h eg)] w fun e w' => e = .returned (.bool true) ∧ Below w.heap.size w w' := by
  have hb1 := below_alloc w (.cells (headC h ev) 25)
  have hb2 := below_alloc (w.alloc (.cells (headC h ev) 25)) (.cells (headC h eg) 25)
  have hbel : Below w.heap.size w ((w.alloc (.cells (headC h ev) 25)).alloc (.cells (headC h eg) 25)) := hb1.trans (hb2.mono (by simp))
  have hA2 := (hA.below hbel (Nat.le_refl _)).reads
  have hC2 := (hC.below hbel (Nat.le_refl _)).reads
  have cA := run_string _ _ _ hA2
  have cC := run_string _ _ _ hC2
  generalize strOf h.extra = sA at *
  clear hA2 hC2 hb1 hb2
  obtain ⟨aa, ca, rfl, -⟩ := hA
  obtain ⟨ab, cb, rfl, -⟩ := hC
  go_enter Try.func13, Try.ntmps13
  go_wp2
  all_goals clear cA cC
  all_goals
    go_ret
    refine ⟨?_, hbel⟩
    first | rfl | (simp_all)

/-- A row of bytes written out in the text, of any marks. -/
def litT (b : Nat) (xs : List Nat) (fr : Nat × Nat) : Thing where
  holds w S := w.heap[b]? = some (.cells (u8s xs).toArray 5 fr) ∧ ∀ k, S k ↔ k = b
  keep := by
    rintro w w' S T ⟨h1, h2⟩ ho hd
    exact ⟨ho.at h1 (hd b ((h2 b).2 rfl)), h2⟩
  lt := by
    rintro w S k ⟨h1, h2⟩ hk
    obtain rfl := (h2 k).1 hk
    exact lt_of_block h1

section
variable {B : Nat} {w0 w : World} {r : List Thing}

theorem _root_.Go.Proofs.Ytiggbioaaglgaaa.St.newLit (st : St B w0 w r) (xs : List Nat) (fr : Nat × Nat) : St B w0 (w.alloc (.cells (u8s xs).toArray 5 fr)) (litT w.heap.size xs fr :: r) :=
  st.add (S := fun k => k = w.heap.size) (below_alloc _ _) ⟨heap_alloc_new w _, fun _ => Iff.rfl⟩ (fun k hk => by omega)

theorem _root_.Go.Proofs.Ytiggbioaaglgaaa.St.litRow11 {b : Nat} {xs : List Nat} {fr : Nat × Nat} (st : St B w0 w (litT b xs fr :: r)) (hb : ∀ x ∈ xs, x < 256) : ByteRow w (.slice (some ⟨b, 0, none⟩) xs.length xs.length) xs := by
  obtain ⟨S1, h1, _⟩ := st.sep
  refine ⟨_, xs.length, rfl, Nat.le_refl _, (fun e => by cases e), fun i hi => ⟨hb _ (List.getElem_mem hi), b, 0, rfl, ?_⟩⟩
  rw [Nat.zero_add, cell_of_row _ b i (u8s xs).toArray 5 fr h1.1]
  simp [u8s, hi]
end

/-- The example's head. -/
def exH : Gz := ⟨false, 0, 0, 3, [], [97], [], 2, false⟩
def exB : List Nat := [31, 139, 8, 8, 0, 0, 0, 0, 0, 3, 97, 0]
def exM : List Nat := [31, 139, 8, 8, 0, 0, 0, 0, 0, 3, 97, 0, 109, 111, 114, 101]
def exD : List Nat := [49, 50, 51, 52, 53, 54, 55, 56, 57]
def exT : List Nat := [38, 57, 244, 203, 9, 0, 0, 0]
theorem exH_fits : Fits exH := ⟨by decide, by decide, by decide, by decide, by decide, by decide, by decide⟩
theorem exH_may : may exH = true := by decide
theorem exH_bytes : bytesOf exH = exB := by decide +kernel
theorem exM_got : get exM = some ⟨12, exH, false⟩ := by
  have h := get_put exH_fits exH_may [109, 111, 114, 101]
  rw [exH_bytes] at h
  exact h
theorem exD_tail : tailOf exD = exT := by
  unfold tailOf exD
  rw [low_digits]
  decide

theorem exB_str : strOf exB = ⟨#[31, 139, 8, 8, 0, 0, 0, 0, 0, 3, 97, 0]⟩ := by decide
theorem exT_str : strOf exT = ⟨#[38, 57, 244, 203, 9, 0, 0, 0]⟩ := by decide

set_option maxRecDepth 100000 in
set_option maxHeartbeats 8000000 in
theorem frames_any (w : World) : Calls Try.prog 14 #[] w fun e w' => e = .returned (.bool true) ∧ Below w.heap.size w w' := by
  have hB := Nat.le_refl w.heap.size
  have hcv := run_convert_lit
  have hput := put_st (St.start w) exH_fits (ev := .slice none 0 0) (fun W _ => byteRow_none W) (by decide) (by decide) (by decide)
  go_enter Try.func14, Try.ntmps14
  go_wp2_with fail
  refine hput.mono ?_
  rintro e w1 (⟨-, v, rfl, s1⟩ | ⟨hm, -⟩)
  rotate_left
  · exact absurd hm (by rw [exH_may]; simp)
  rw [exH_bytes] at s1
  obtain ⟨a1, c1, rfl⟩ := ownsRow_slice s1.row
  have s2 := s1.newLit exM (16, 17)
  have hget := get_st s2 (.slice (some ⟨w1.heap.size, 0, none⟩) 16 16) exM (fun W t => t.litRow11 (by decide)) (by decide)
  rw [exM_got] at hget
  clear hput s1
  go_wp2_with fail
  refine hget.mono ?_
  rintro e w2 ⟨ev, rfl, s3⟩
  obtain ⟨a2, c2, rfl⟩ : ∃ a c, ev = .slice a 0 c := ownsRow_slice s3.row
  clear hget s2
  have s4 := s3.newBox (headC exH (.slice a2 0 c2)) 25
  have hstr := run_string _ _ _ (Reads.of_owns (St.row (s4.front 3)))
  rw [exB_str] at hstr
  have k5 : (w2.alloc (.cells (headC exH (.slice a2 0 c2)) 25)).cell? ⟨w2.heap.size, 5, none⟩ = some (.string ⟨#[97]⟩) := by
    rw [(St.boxAt s4 5).1, ← show strOf [97] = ⟨#[97]⟩ from by decide]
    rfl
  have k7 : (w2.alloc (.cells (headC exH (.slice a2 0 c2)) 25)).cell? ⟨w2.heap.size, 7, none⟩ = some (.int .u8 2) := (St.boxAt s4 7).1
  have k3 : (w2.alloc (.cells (headC exH (.slice a2 0 c2)) 25)).cell? ⟨w2.heap.size, 3, none⟩ = some (.int .u8 3) := (St.boxAt s4 3).1
  have s5 := s4.newLit exD (9, 10)
  have htail := tail_st s5 (.slice (some ⟨(w2.alloc (.cells (headC exH (.slice a2 0 c2)) 25)).heap.size, 0, none⟩) 9 9) exD (fun W t => t.litRow11 (by decide)) (by decide)
  rw [exD_tail, show (w2.alloc (.cells (headC exH (.slice a2 0 c2)) 25)).heap.size = w2.heap.size + 1 from by simp] at htail
  have hcv2 : (convert 23 23 (.slice (some ⟨w2.heap.size + 1, 0, none⟩) 9 9)).run Try.prog ((w2.alloc (.cells (headC exH (.slice a2 0 c2)) 25)).alloc (.cells #[.int .u8 49, .int .u8 50, .int .u8 51, .int .u8 52, .int .u8 53, .int .u8 54, .int .u8 55, .int .u8 56, .int .u8 57] 5)) = .ok (.slice (some ⟨w2.heap.size + 1, 0, none⟩) 9 9) ((w2.alloc (.cells (headC exH (.slice a2 0 c2)) 25)).alloc (.cells #[.int .u8 49, .int .u8 50, .int .u8 51, .int .u8 52, .int .u8 53, .int .u8 54, .int .u8 55, .int .u8 56, .int .u8 57] 5 (9, 10))) := by
    have h := run_convert_lit (w2.alloc (.cells (headC exH (.slice a2 0 c2)) 25)) #[.int .u8 49, .int .u8 50, .int .u8 51, .int .u8 52, .int .u8 53, .int .u8 54, .int .u8 55, .int .u8 56, .int .u8 57] 9 9
    rw [show (w2.alloc (.cells (headC exH (.slice a2 0 c2)) 25)).heap.size = w2.heap.size + 1 from by simp] at h
    exact h
  clear s3 s4
  go_wp2_with fail
  refine htail.mono ?_
  rintro e w3 ⟨v3, rfl, s6⟩
  obtain ⟨a3, c3, rfl⟩ := ownsRow_slice s6.row
  have hstr2 := run_string _ _ _ (Reads.of_owns (St.row s6))
  rw [exT_str] at hstr2
  have hbel := s6.below hB
  clear htail s5 s6 hstr k5 k7 k3
  go_wp2
  go_ret
  exact ⟨rfl, hbel⟩

end Go.Proofs.Ytiggbioaaglgaaa.Fr
