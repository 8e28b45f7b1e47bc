/-
  A stored block ahead of a stream: the walk of InflateAhead. No conditions.
-/
import Derived.Test.YtpcbhmkalofkmaaGR
import Derived.Test.YtpcbhmkalofkmaaGO
namespace Go.Proofs.Ytpcbhmkalofkmaa.inflateAhead
open Go.RowKit Kraft Hd Inf

set_option maxRecDepth 100000 in
set_option maxHeartbeats 4000000 in
theorem walk (w : World) (v0 : Value) (xs : List Nat) (h0 : ByteRow w v0 xs) (v1 : Value) (ys : List Nat) (h1 : ByteRow w v1 ys) :
    Calls Try.prog 4 #[v0, v1] w fun e w' => e = .returned (.bool true) ∧ Below w.heap.size w w' := by
  have hB := Nat.le_refl w.heap.size
  have HIN := fun W (hb : Below w.heap.size w W) => And.intro (h0.below hb hB) (h1.below hb hB)
  have hyb := h1.byte
  have hxb := h0.byte
  obtain ⟨a0, cap0, rfl, hc0, hn0, -⟩ := h0
  obtain ⟨a1, cap1, rfl, hc1, hn1, -⟩ := h1
  by_cases c0 : 400 < xs.length
  · go_enter Try.func4, Try.ntmps4
    go_wp2
    go_ret
    exact ⟨rfl, Below.refl _ _⟩
  by_cases c1 : 2000 < ys.length
  · go_enter Try.func4, Try.ntmps4
    go_wp2
    go_ret
    exact ⟨rfl, Below.refl _ _⟩
  have HIN := Lib.hid HIN
  have hi1 := inflate_st (St.start w) (.slice a0 xs.length cap0) xs (fun W s => (HIN.out W (s.below hB)).1) (by omega) 4000 (by omega)
  unfold Flow10 at hi1
  cases hx : infl xs with
  | none =>
    rw [hx] at hi1
    simp only at hi1
    go_enter Try.func4, Try.ntmps4
    go_wp2_with fail
    refine hi1.mono ?_
    rintro e w1 ⟨rfl, s1⟩
    have s2 := s1.newBox (flowC (.slice none 0 0) 0 0) 25
    have hbel := s2.below hB
    clear hi1 s1 s2
    go_wp2_with (go_at_call 8; refine (reads_any _).mono ?_; rintro e w3 ⟨rfl, hb3⟩)
    go_ret
    exact ⟨rfl, hbel.trans (hb3.mono hbel.size)⟩
  | some y =>
    obtain ⟨q, o⟩ := y
    rw [hx] at hi1
    simp only at hi1
    have hah := infl_ahead hx hyb (by omega)
    have hus := used_ahead q ys.length
    have hob := infl_byte hx
    have hin := infl_some hx
    have hfar : o.length ≤ 900000 := by have := infl_far hx; have := infl_some hx; omega
    obtain ⟨uq, huq⟩ : ∃ uq, used q = uq := ⟨_, rfl⟩
    rw [huq] at hi1 hus hin
    obtain ⟨o4, ho4⟩ : ∃ o4, o.take 4000 = o4 := ⟨_, rfl⟩
    have ho4l : o4.length ≤ 4000 := by rw [← ho4, List.length_take]; omega
    have ho4b : ∀ x ∈ o4, x < 256 := fun x hx => hob x (by rw [← ho4] at hx; exact List.mem_of_mem_take hx)
    have htk : (ys ++ o).take (4000 + ys.length) = ys ++ o4 := by rw [show 4000 + ys.length = ys.length + 4000 from by omega, List.take_length_add_append, ho4]
    rw [ho4] at hi1
    have hsb : storedBytes ys = [0, ys.length % 256, ys.length / 256, 255 - ys.length % 256, 255 - ys.length / 256] ++ ys := rfl
    rw [hsb] at hah
    obtain ⟨l1, hl1, hb1⟩ : ∃ l1, ys.length % 256 = l1 ∧ l1 < 256 := ⟨_, rfl, by omega⟩
    obtain ⟨l2, hl2, hb2⟩ : ∃ l2, ys.length / 256 = l2 ∧ l2 < 256 := ⟨_, rfl, by omega⟩
    obtain ⟨l3, hl3, hb3⟩ : ∃ l3, 255 - l1 = l3 ∧ l3 < 256 := ⟨_, rfl, by omega⟩
    obtain ⟨l4, hl4, hb4⟩ : ∃ l4, 255 - l2 = l4 ∧ l4 < 256 := ⟨_, rfl, by omega⟩
    rw [hl1, hl2, hl3, hl4] at hah
    have e1 : (ys.length : Int) % 256 = (l1 : Int) := by omega
    have e2 : (ys.length : Int) / 256 = (l2 : Int) := by omega
    have e3 : (255 : Int) - (l1 : Int) = (l3 : Int) := by omega
    have e4 : (255 : Int) - (l2 : Int) = (l4 : Int) := by omega
    obtain ⟨Z, hZ, hZl, hZb⟩ : ∃ Z, [0, l1, l2, l3, l4] ++ ys ++ xs = Z ∧ 5 + ys.length + xs.length = Z.length ∧ ∀ x ∈ Z, x < 256 := ⟨_, rfl, by simp only [List.length_append, List.length_cons, List.length_nil], by
      intro x hx
      rcases List.mem_append.1 hx with h | h
      · rcases List.mem_append.1 h with h | h
        · simp only [List.mem_cons, List.not_mem_nil, or_false] at h
          omega
        · exact hyb x h
      · exact hxb x h⟩
    rw [hZ] at hah
    rw [List.append_assoc] at hZ
    have HAH := Lib.hid hah
    have HZ := Lib.hid (And.intro hZ hZl)
    have HZB := Lib.hid hZb
    have hZs : Z.length ≤ 10000 := by omega
    clear hZ hZl hZb hxb
    have HTK := Lib.hid htk
    have HOL := Lib.hid (show (ys ++ o).length = o.length + ys.length from by rw [List.length_append]; omega)
    clear hah htk hsb hl1 hl2 hl3 hl4 ho4 hob hx
    go_enter Try.func4, Try.ntmps4
    go_wp2_with fail
    refine hi1.mono ?_
    rintro e w1 ⟨oa, oc, rfl, s1⟩
    have s2 := s1.newBox (flowC (.slice oa o4.length oc) o.length uq) 25
    clear hi1 s1
    have s3 := litRow s2 [0, l1, l2, l3, l4] (by simp)
    rw [show (w1.alloc (.cells (flowC (.slice oa o4.length oc) o.length uq) 25)).heap.size = w1.heap.size + 1 from by simp] at s3
    have hb1 := (HIN.out _ (s3.below hB)).2
    go_wp2_with (at_builtin; refine wpList_append_bytes rfl _ _ rfl s3 hb1 rfl rfl (by first | omega | (simp; omega)) ?_)
    intro v2 w2 s4 _ _
    clear hb1
    have hb2 := (HIN.out _ (s4.below hB)).1
    go_wp2_with (at_builtin; refine wpList_append_bytes rfl _ _ rfl s4 hb2 rfl rfl (by first | omega | (simp; omega)) ?_)
    intro v3 w3 s5 _ _
    rw [← u8s_append, ← u8s_append] at s5
    replace s5 : St w.heap.size w w3 (rowT 5 1 v3 Z.length (u8s Z) :: boxT w1.heap.size (flowC (.slice oa o4.length oc) o.length uq) 25 :: rowT 5 1 (.slice oa o4.length oc) o4.length (u8s o4) :: []) := by
      obtain ⟨g1, g2⟩ := HZ.out
      rw [← g2, ← g1]
      exact s5
    clear s4 hb2
    have hi2 := inflate_st s5 v3 Z (fun W s => s.bytesRow HZB.out) hZs (4000 + ys.length) (by omega)
    unfold Flow10 at hi2
    rw [HAH.out] at hi2
    simp only at hi2
    rw [HTK.out, HOL.out, hus, show ((4000 + ys.length : Nat) : Int) = 4000 + (ys.length : Int) from by omega] at hi2
    go_wp2_with fail
    refine hi2.mono ?_
    rintro e w4 ⟨ob, od, rfl, s6⟩
    obtain ⟨m, hm⟩ : ∃ m, (ys ++ o4).length = m := ⟨_, rfl⟩
    obtain ⟨z2, hz2⟩ : ∃ z, o.length + ys.length = z := ⟨_, rfl⟩
    obtain ⟨u2, hu2⟩ : ∃ z, uq + ys.length + 5 = z := ⟨_, rfl⟩
    rw [hz2, hu2]
    have hz3 : (o.length : Int) + (ys.length : Int) = (z2 : Int) := by omega
    have hu3 : (uq : Int) + (ys.length : Int) + 5 = (u2 : Int) := by omega
    have hmb : m ≤ 6000 := by rw [← hm, List.length_append]; omega
    have hyo : ∀ x ∈ ys ++ o4, x < 256 := fun x hx => (List.mem_append.1 hx).elim (hyb x) (ho4b x)
    have s7 := s6.newBox (flowC (.slice ob (ys ++ o4).length od) z2 u2) 25
    have t1 := run_string _ _ _ (Reads.of_owns s7.swap.row)
    have t2 := run_string _ _ _ (Reads.of_owns (St.row (s7.front 4)))
    have t3 := run_string _ _ _ (HIN.out _ (s7.below hB)).2.reads
    have hss : strOf ys ++ strOf o4 = strOf (ys ++ o4) := strOf_app ys o4
    have hl1 : (strOf ys).size ≤ 2000 := by rw [strOf_size]; omega
    have hl2 : (strOf o4).size ≤ 4000 := by rw [strOf_size]; omega
    rw [hm] at s7 t1 t2 t3
    rw [hm]
    have k0 : (w4.alloc (.cells (flowC (.slice ob m od) z2 u2) 25)).cell? ⟨w1.heap.size, 0, none⟩ = some (.slice oa o4.length oc) := (St.boxAt (s7.front 3) 0).1
    have k1 : (w4.alloc (.cells (flowC (.slice ob m od) z2 u2) 25)).cell? ⟨w1.heap.size, 1, none⟩ = some (.int .i64 (o.length : Int)) := (St.boxAt (s7.front 3) 1).1
    have k2 : (w4.alloc (.cells (flowC (.slice ob m od) z2 u2) 25)).cell? ⟨w1.heap.size, 2, none⟩ = some (.int .i64 (uq : Int)) := (St.boxAt (s7.front 3) 2).1
    have hbel := s7.below hB
    have hzb : z2 ≤ 2000000 := by rw [← hz2]; omega
    have hub : u2 ≤ 3000 := by omega
    clear s2 s3 s5 s6 s7 hi2 HIN HAH HZ HZB HTK HOL hz2 hu2 hus e1 e2 e3 e4 hyb hyo ho4b hm
    generalize strOf ys = S1 at *
    generalize strOf o4 = S2 at *
    generalize strOf (ys ++ o4) = S3 at *
    go_wp2_with (go_at_call 8; refine (reads_any _).mono ?_; rintro e w5 ⟨rfl, hb5⟩)
    go_ret
    exact ⟨rfl, hbel.trans (hb5.mono hbel.size)⟩

end Go.Proofs.Ytpcbhmkalofkmaa.inflateAhead
