/-
  Every Get: the walk of FrameGets. No conditions. (Written by wip/gen_gets.py.)
-/
import Derived.Test.YtiggbioaaglgaaaFrZ
namespace Go.Proofs.Ytiggbioaaglgaaa.frameGets
open Go.RowKit Crc Fr

set_option maxRecDepth 100000 in
set_option maxHeartbeats 8000000 in
theorem walk (w : World) (v0 : Value) (xs : List Nat) (h0 : ByteRow w v0 xs) :
    Calls Try.prog 4 #[v0] w fun e w' => e = .returned (.bool true) ∧ Below w.heap.size w w' := by
  have hB := Nat.le_refl w.heap.size
  have HX := fun W (hb : Below w.heap.size w W) => h0.below hb hB
  have hxb := h0.byte
  have hrow := h0
  obtain ⟨xa, xc, rfl, hxc, -⟩ := h0
  by_cases c0 : 2000 < xs.length
  · go_enter Try.func4, Try.ntmps4
    go_wp2
    go_ret
    exact ⟨rfl, Below.refl _ _⟩
  · have hx5 : xs.length ≤ 2000 := by omega
    have s0 := St.start w
    go_enter Try.func4, Try.ntmps4
    go_wp2_with (at_builtin; refine wpList_copyW rfl (.tmp 15) (.tmp 16) rfl s0 hrow rfl rfl (by omega) ?_)
    intro v5 w5 s5
    obtain ⟨a5, c5, rfl⟩ := ownsRow_slice s5.row
    have hget := get_st s5 (.slice a5 xs.length c5) xs (fun W s => byteRow_owns s.row hxb) (by omega)
    clear s0 hrow
    cases hg : Fr.get xs with
    | none =>
      rw [hg] at hget
      go_wp2_with fail
      refine hget.mono ?_
      rintro e w1 ⟨rfl, s1⟩
      have s2 := s1.newBox noHead 25
      have href := refGet_st s2 (.slice xa xs.length xc) xs (fun W s => HX W (s.below hB)) (by omega)
      rw [hg] at href
      clear hget s1 s5
      go_wp2_with fail
      refine href.mono ?_
      rintro e w2 ⟨rfl, s3⟩
      have s4 := s3.newBox noHead 25
      obtain ⟨k0, k1, k2, k3, k4, k5, k6, k7, k8⟩ := headAt (h := Gz.nil) (ev := .slice none 0 0) s4
      obtain ⟨l0, l1, l2, l3, l4, l5, l6, l7, l8⟩ := headAt (h := Gz.nil) (ev := .slice none 0 0) (s4.front 1)
      have hsame := same_true (w2.alloc (.cells noHead 25)) Gz.nil (.slice none 0 0) (.slice none 0 0) (byteRow_none _) (byteRow_none _)
      clear href s2 s3
      go_wp2_with fail
      refine hsame.mono ?_
      rintro e w3 ⟨rfl, hb3⟩
      have s6 := s4.quiet hb3
      clear hsame s4 hb3 k0 k1 k2 k3 k4 k5 k6 k7 k8 l0 l1 l2 l3 l4 l5 l6 l7 l8
      have q1 := run_string w3 (.slice xa xs.length xc) xs (HX _ (s6.below hB)).reads
      have q2 := run_string w3 (.slice a5 xs.length c5) xs (Reads.of_owns (St.row (s6.front 2)))
      obtain ⟨t, ht⟩ : ∃ t, strOf xs = t := ⟨_, rfl⟩
      rw [ht] at q1 q2
      clear ht
      go_wp2_with fail
      refine (frames_any _).mono ?_
      rintro e w12 ⟨rfl, hb12⟩
      have hfin := (s6.quiet hb12).below hB
      clear s6 hb12 q1 q2
      go_wp2
      go_ret
      exact ⟨rfl, hfin⟩
    | some s =>
      rw [hg] at hget
      obtain ⟨-, g2, -⟩ := got hxb hg
      go_wp2_with fail
      refine hget.mono ?_
      rintro e w1 ⟨ev, rfl, s1⟩
      obtain ⟨ea, ec, rfl⟩ : ∃ a c, ev = .slice a s.h.extra.length c := ownsRow_slice s1.row
      have s2 := s1.newBox (headC s.h (.slice ea s.h.extra.length ec)) 25
      have href := refGet_st s2 (.slice xa xs.length xc) xs (fun W s => HX W (s.below hB)) (by omega)
      rw [hg] at href
      clear hget s1 s5
      go_wp2_with fail
      refine href.mono ?_
      rintro e w2 ⟨gv, rfl, s3⟩
      obtain ⟨ga, gc, rfl⟩ : ∃ a c, gv = .slice a s.h.extra.length c := ownsRow_slice s3.row
      have s4 := s3.newBox (headC s.h (.slice ga s.h.extra.length gc)) 25
      obtain ⟨k0, k1, k2, k3, k4, k5, k6, k7, k8⟩ := headAt (h := s.h) (ev := .slice ga s.h.extra.length gc) s4
      obtain ⟨l0, l1, l2, l3, l4, l5, l6, l7, l8⟩ := headAt (h := s.h) (ev := .slice ea s.h.extra.length ec) (s4.front 2)
      have hsame := same_true (w2.alloc (.cells (headC s.h (.slice ga s.h.extra.length gc)) 25)) s.h (.slice ea s.h.extra.length ec) (.slice ga s.h.extra.length gc) (byteRow_owns (St.row (s4.front 3)) g2.extra) (byteRow_owns (St.row (s4.front 1)) g2.extra)
      clear href s2 s3
      go_wp2_with fail
      refine hsame.mono ?_
      rintro e w3 ⟨rfl, hb3⟩
      have s6 := s4.quiet hb3
      clear hsame s4 hb3 k0 k1 k2 k3 k4 k5 k6 k7 k8 l0 l1 l2 l3 l4 l5 l6 l7 l8
      have q1 := run_string w3 (.slice xa xs.length xc) xs (HX _ (s6.below hB)).reads
      have q2 := run_string w3 (.slice a5 xs.length c5) xs (Reads.of_owns (St.row (s6.front 4)))
      obtain ⟨t, ht⟩ : ∃ t, strOf xs = t := ⟨_, rfl⟩
      rw [ht] at q1 q2
      clear ht
      go_wp2_with fail
      refine (frames_any _).mono ?_
      rintro e w12 ⟨rfl, hb12⟩
      have hfin := (s6.quiet hb12).below hB
      clear s6 hb12 q1 q2
      go_wp2
      go_ret
      exact ⟨rfl, hfin⟩

end Go.Proofs.Ytiggbioaaglgaaa.frameGets
