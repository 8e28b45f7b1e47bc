/-
  Every Put: the walk of FramePuts. No conditions.
-/
import Derived.Test.YtiggbioaaglgaaaFrY
namespace Go.Proofs.Ytiggbioaaglgaaa.framePuts
open Go.RowKit Crc Fr

set_option maxRecDepth 100000 in
set_option maxHeartbeats 8000000 in
theorem walk (w : World) (v0 : Value) (h : Gz) (h0 : HeadIn w v0 h) :
    Calls Try.prog 3 #[v0] w fun e w' => e = .returned (.bool true) ∧ Below w.heap.size w w' := by
  have hB := Nat.le_refl w.heap.size
  obtain ⟨ev, rfl, hrow, hf⟩ := h0
  have HE := fun W (hb : Below w.heap.size w W) => hrow.below hb hB
  obtain ⟨ea, ec, rfl, -⟩ := hrow
  have s1 := (St.start w).newBox (headC h (.slice ea h.extra.length ec)) 25
  obtain ⟨k0, k1, k2, k3, k4, k5, k6, k7, k8⟩ := headAt s1
  have hlong := long_any (w.alloc (.cells (headC h (.slice ea h.extra.length ec)) 25)) h ea ec
  go_enter Try.func3, Try.ntmps3
  go_wp2_with fail
  refine hlong.mono ?_
  rintro e w1 ⟨rfl, hb1⟩
  have s2 := s1.quiet hb1
  clear hlong k0 k1 k2 k3 k4 k5 k6 k7 k8 s1 hb1
  have hbel1 := s2.below hB
  cases hL : longB h with
  | true =>
    go_wp2
    go_ret
    exact ⟨rfl, hbel1⟩
  | false =>
    obtain ⟨m1, m2, m3⟩ := longB_no hL
    have s3 := s2.newBox (headC h (.slice ea h.extra.length ec)) 25
    obtain ⟨k0, k1, k2, k3, k4, k5, k6, k7, k8⟩ := headAt s2
    have s4 := s3.newBox #[] 5
    have l4 : ((w1.alloc (.cells #[.bool h.text, .int .u32 (h.time : Int), .int .u8 (h.xfl : Int), .int .u8 (h.os : Int), .slice ea h.extra.length ec, .string (strOf h.name), .string (strOf h.comment), .int .u8 (h.has : Int), .bool h.sum] 25)).alloc (.cells #[] 5)).cell? ⟨w.heap.size, 4, none⟩ = some (.slice ea h.extra.length ec) := (St.boxAt (s4.front 2) 4).1
    have hrow3 := HE _ (s3.below hB)
    have hsz : Value.slice (some ⟨w1.heap.size + 1, 0, none⟩) 0 0 = Value.slice (some ⟨(w1.alloc (.cells (headC h (.slice ea h.extra.length ec)) 25)).heap.size, 0, none⟩) 0 0 := by simp
    clear s2 s4
    go_wp2_with (at_builtin; refine wpList_copyW rfl (.tmp 11) (.tmp 13) rfl s3 hrow3 rfl rfl (by omega) ?_)
    intro v5 w5 s5
    clear hsz
    obtain ⟨a5, c5, rfl⟩ := ownsRow_slice s5.row
    have s6 := (s5.front 1).setBoxAt 4 (.slice a5 h.extra.length c5)
    obtain ⟨j4, f4⟩ := St.boxAt (s5.front 1) 4
    replace j4 : w5.cell? ⟨w1.heap.size, 4, none⟩ = some (.slice ea h.extra.length ec) := j4
    have s7 : St w.heap.size w (w5.setCell ⟨w1.heap.size, 4, none⟩ (.slice a5 h.extra.length c5)) [boxT w1.heap.size (headC h (.slice a5 h.extra.length c5)) 25, rowT 5 1 (.slice a5 h.extra.length c5) h.extra.length (u8s h.extra), boxT w.heap.size (headC h (.slice ea h.extra.length ec)) 25] := s6
    obtain ⟨n0, n1, n2, n3, n4, n5, n6, n7, n8⟩ := headAt s7
    have hput := put_st s7 hf (ev := .slice a5 h.extra.length c5) (fun W s => byteRow_owns (St.row (s.front 1)) hf.extra) (by omega) (by omega) (by omega)
    clear s3 k0 k1 k2 k3 k4 k5 k6 k7 k8 l4 hrow3 s5 s6
    go_wp2_with fail
    refine hput.mono ?_
    rintro e w6 (⟨hm, v, rfl, s8⟩ | ⟨hm, rfl, s8⟩)
    · obtain ⟨pa, pc, rfl⟩ := ownsRow_slice s8.row
      obtain ⟨k0, k1, k2, k3, k4, k5, k6, k7, k8⟩ := headAt (s8.front 3)
      have hput2 := refPut_st s8 hf (ev := .slice ea h.extra.length ec) (fun W s => HE _ (s.below hB)) (by omega) (by omega) (by omega)
      clear hput s7 n0 n1 n2 n3 n4 n5 n6 n7 n8
      go_wp2_with fail
      refine hput2.mono ?_
      rintro e w7 (⟨-, v, rfl, s9⟩ | ⟨hm2, -⟩)
      rotate_left
      · exact absurd hm2 (by rw [hm]; simp)
      obtain ⟨qa, qc, rfl⟩ := ownsRow_slice s9.row
      have hbyte : ∀ x ∈ bytesOf h, x < 256 := laid_byte hf ((may_iff _).1 hm).1 9
      obtain ⟨T, hT⟩ : ∃ t, strOf (bytesOf h) = t := ⟨_, rfl⟩
      have q1 := run_string w7 (.slice qa (bytesOf h).length qc) (bytesOf h) (Reads.of_owns s9.row)
      have q2 := run_string w7 (.slice pa (bytesOf h).length pc) (bytesOf h) (Reads.of_owns (St.row (s9.front 1)))
      rw [hT] at q1 q2
      obtain ⟨l0, l1, l2, l3, l4, l5, l6, l7, l8⟩ := headAt (s9.front 2)
      obtain ⟨k0, k1, k2, k3, k4, k5, k6, k7, k8⟩ := headAt (s9.front 4)
      have hrow7 : ByteRow w7 (.slice a5 h.extra.length c5) h.extra := byteRow_owns (St.row (s9.front 3)) hf.extra
      have hsame := same_true w7 h (.slice a5 h.extra.length c5) (.slice ea h.extra.length ec) hrow7 (HE _ (s9.below hB))
      clear hput2 s8 hT hrow7 hbyte
      go_wp2_with fail
      refine hsame.mono ?_
      rintro e w11 ⟨rfl, hb11⟩
      have s11 := s9.quiet hb11
      clear hsame k0 k1 k2 k3 k4 k5 k6 k7 k8 l0 l1 l2 l3 l4 l5 l6 l7 l8 s9 hb11 q1 q2
      go_wp2_with fail
      refine (frames_any _).mono ?_
      rintro e w12 ⟨rfl, hb12⟩
      have hfin := (s11.quiet hb12).below hB
      clear s11 hb12
      go_wp2
      go_ret
      exact ⟨rfl, hfin⟩
    · obtain ⟨k0, k1, k2, k3, k4, k5, k6, k7, k8⟩ := headAt (s8.front 2)
      have hput2 := refPut_st s8 hf (ev := .slice ea h.extra.length ec) (fun W s => HE _ (s.below hB)) (by omega) (by omega) (by omega)
      clear hput s7 n0 n1 n2 n3 n4 n5 n6 n7 n8
      go_wp2_with fail
      refine hput2.mono ?_
      rintro e w7 (⟨hm2, -⟩ | ⟨-, rfl, s9⟩)
      · exact absurd hm2 (by rw [hm]; simp)
      have q1 := run_string w7 (.slice none 0 0) [] (byteRow_none w7).reads
      obtain ⟨T, hT⟩ : ∃ t, strOf ([] : List Nat) = t := ⟨_, rfl⟩
      rw [hT] at q1
      clear k0 k1 k2 k3 k4 k5 k6 k7 k8
      obtain ⟨l0, l1, l2, l3, l4, l5, l6, l7, l8⟩ := headAt (s9.front 0)
      obtain ⟨k0, k1, k2, k3, k4, k5, k6, k7, k8⟩ := headAt (s9.front 2)
      have hrow7 : ByteRow w7 (.slice a5 h.extra.length c5) h.extra := byteRow_owns (St.row (s9.front 1)) hf.extra
      have hsame := same_true w7 h (.slice a5 h.extra.length c5) (.slice ea h.extra.length ec) hrow7 (HE _ (s9.below hB))
      clear hput2 s8 hT hrow7
      go_wp2_with fail
      refine hsame.mono ?_
      rintro e w11 ⟨rfl, hb11⟩
      have s11 := s9.quiet hb11
      clear hsame k0 k1 k2 k3 k4 k5 k6 k7 k8 l0 l1 l2 l3 l4 l5 l6 l7 l8 s9 hb11 q1
      go_wp2_with fail
      refine (frames_any _).mono ?_
      rintro e w12 ⟨rfl, hb12⟩
      have hfin := (s11.quiet hb12).below hB
      clear s11 hb12
      go_wp2
      go_ret
      exact ⟨rfl, hfin⟩

end Go.Proofs.Ytiggbioaaglgaaa.framePuts
