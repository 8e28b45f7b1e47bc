/-
  Heads come back: the walk of FrameBack. No conditions.
-/
import Derived.Test.YtiggbioaaglgaaaFrL
namespace Go.Proofs.Ytiggbioaaglgaaa.frameBack
open Go.RowKit Crc Fr

set_option maxRecDepth 100000 in
set_option maxHeartbeats 8000000 in
theorem walk (w : World) (v0 : Value) (h : Gz) (h0 : HeadIn w v0 h) (v1 : Value) (ys : List Nat) (h1 : ByteRow w v1 ys) :
    Calls Try.prog 6 #[v0, v1] w fun e w' => e = .returned (.bool true) ∧ Below w.heap.size w w' := by
  have hB := Nat.le_refl w.heap.size
  obtain ⟨ev, rfl, hrow, hf⟩ := h0
  have HE := fun W (hb : Below w.heap.size w W) => hrow.below hb hB
  have HY := fun W (hb : Below w.heap.size w W) => h1.below hb hB
  have hyb := h1.byte
  obtain ⟨ea, ec, rfl, -⟩ := hrow
  obtain ⟨ya, yc, rfl, -⟩ := h1
  have s1 := (St.start w).newBox (headC h (.slice ea h.extra.length ec)) 25
  obtain ⟨k0, k1, k2, k3, k4, k5, k6, k7, k8⟩ := headAt s1
  have hlong := long_any (w.alloc (.cells (headC h (.slice ea h.extra.length ec)) 25)) h ea ec
  go_enter Try.func6, Try.ntmps6
  go_wp2_with fail
  refine hlong.mono ?_
  rintro e w1 ⟨rfl, hb1⟩
  have s2 := s1.quiet hb1
  clear hlong k0 k1 k2 k3 k4 k5 k6 k7 k8 s1 hb1
  have hbel1 := s2.below hB
  cases hL : longB h with
  | true =>
    go_wp2
    go_ret
    exact ⟨rfl, hbel1⟩
  | false =>
    by_cases c1 : 100 < ys.length
    · go_wp2
      go_ret
      exact ⟨rfl, hbel1⟩
    · obtain ⟨m1, m2, m3⟩ := longB_no hL
      obtain ⟨k0, k1, k2, k3, k4, k5, k6, k7, k8⟩ := headAt s2
      have hput := put_st s2 hf (ev := .slice ea h.extra.length ec) (fun W s => HE W (s.below hB)) (by omega) (by omega) (by omega)
      go_wp2_with fail
      refine hput.mono ?_
      rintro e w2 (⟨hm, v, rfl, s3⟩ | ⟨hm, rfl, s3⟩)
      · clear k0 k1 k2 k3 k4 k5 k6 k7 k8 hput s2
        obtain ⟨ba, bc, rfl⟩ := ownsRow_slice s3.row
        obtain ⟨k0, k1, k2, k3, k4, k5, k6, k7, k8⟩ := headAt (s3.front 1)
        have hmay := refMay_any w2 h hf ea ec (by omega) (by omega)
        rw [hm] at hmay
        go_wp2_with fail
        refine hmay.mono ?_
        rintro e w3 ⟨rfl, hb3⟩
        have s4 := s3.quiet hb3
        clear k0 k1 k2 k3 k4 k5 k6 k7 k8 hmay s3 hb3
        have hi := (may_iff h).1 hm
        have hbyte : ∀ x ∈ bytesOf h, x < 256 := laid_byte hf hi.1 9
        have hbl : (bytesOf h).length ≤ 9 * (4 + h.extra.length + h.name.length + h.comment.length) := laid_len h 9
        have hbg := laid_ge h
        have g1 := get_put hf hm ys
        obtain ⟨d, hd⟩ : ∃ d, (bytesOf h).length - 1 = d := ⟨_, rfl⟩
        have g2 := get_cut hf hm d (by omega)
        have hn1 : (((bytesOf h).length : Nat) : Int) - 1 = (d : Int) := by omega
        have hext : h.extra.length ≤ 1000 := by have := hi.2.1; omega
        have hn5 : (bytesOf h).length ≤ 28000 := by omega
        have hby2 : ∀ x ∈ bytesOf h ++ ys, x < 256 := fun x hx => (List.mem_append.1 hx).elim (hbyte x) (hyb x)
        have HD := Lib.hid hd
        clear hi hbl hd m1 hext
        have hrow3 : ByteRow w3 (.slice ba (bytesOf h).length bc) (bytesOf h) := byteRow_owns s4.row hbyte
        have HSUB : ∀ W T, St w.heap.size w W (rowT 5 1 (.slice ba (bytesOf h).length bc) (bytesOf h).length (u8s (bytesOf h)) :: T) → ByteRow W (.slice ba d bc) ((bytesOf h).take d) := by
          intro W T t
          have hs := byteRow_sub (p := 0) (n := d) (byteRow_owns t.row hbyte) (by have := HD.out; omega)
          have ha : (if bc = 0 then ba else ba.map (·.add 0)) = ba := by
            split
            · rfl
            · cases ba <;> simp [Addr.add]
          rw [ha, Nat.sub_zero] at hs
          unfold sl at hs
          rw [List.drop_zero] at hs
          exact hs
        have hdc : d ≤ bc := by
          obtain ⟨_, _, e, h2, _⟩ := hrow3
          obtain ⟨-, -, rfl⟩ := Value.slice.inj e
          have := HD.out
          omega
        go_wp2_with (at_builtin; refine wpList_copyW rfl _ _ rfl s4 hrow3 rfl rfl (by omega) ?_)
        intro v5 w5 s5
        obtain ⟨a5, c5, rfl⟩ := ownsRow_slice s5.row
        clear hrow3 s4
        go_wp2_with (at_builtin; refine wpList_append_bytes rfl _ _ rfl s5 (HY _ (s5.below hB)) rfl rfl (by omega) ?_)
        intro v6 w6 s6 _ _
        rw [← u8s_append] at s6
        have hget := get_st s6 v6 (bytesOf h ++ ys) (fun W t => byteRow_owns (by rw [List.length_append]; exact t.row) hby2) (by rw [List.length_append]; omega)
        rw [g1] at hget
        obtain ⟨a6, c6, rfl⟩ := ownsRow_slice s6.row
        clear s5 g1
        go_wp2_with fail
        refine hget.mono ?_
        rintro e w7 ⟨ev7, rfl, s7⟩
        obtain ⟨a7, c7, rfl⟩ : ∃ a c, ev7 = .slice a h.extra.length c := ownsRow_slice s7.row
        have s8 := s7.newBox (headC h (.slice a7 h.extra.length c7)) 25
        have hget2 := get_st s8 (.slice ba d bc) ((bytesOf h).take d) (fun W t => HSUB W _ (t.front 3)) (by rw [List.length_take]; omega)
        rw [g2] at hget2
        clear hget s7 g2 s6
        go_wp2_with fail
        refine hget2.mono ?_
        rintro e w8 ⟨rfl, s9⟩
        have s10 := s9.newBox noHead 25
        obtain ⟨k0, k1, k2, k3, k4, k5, k6, k7, k8⟩ := headAt (s10.front 1)
        obtain ⟨l0, l1, l2, l3, l4, l5, l6, l7, l8⟩ := headAt (s10.front 5)
        have hrow7 : ByteRow (w8.alloc (.cells noHead 25)) (.slice a7 h.extra.length c7) h.extra := byteRow_owns (St.row (s10.front 2)) hf.extra
        have hsame := same_true _ h (.slice a7 h.extra.length c7) (.slice ea h.extra.length ec) hrow7 (HE _ (s10.below hB))
        clear hget2 s8 s9 hrow7
        go_wp2_with fail
        refine hsame.mono ?_
        rintro e w11 ⟨rfl, hb11⟩
        have s11 := s10.quiet hb11
        clear hsame k0 k1 k2 k3 k4 k5 k6 k7 k8 l0 l1 l2 l3 l4 l5 l6 l7 l8 s10 hb11
        go_wp2_with fail
        refine (frames_any _).mono ?_
        rintro e w12 ⟨rfl, hb12⟩
        have hfin := (s11.quiet hb12).below hB
        clear s11 hb12
        go_wp2
        go_ret
        exact ⟨rfl, hfin⟩
      · clear k0 k1 k2 k3 k4 k5 k6 k7 k8 hput s2
        obtain ⟨k0, k1, k2, k3, k4, k5, k6, k7, k8⟩ := headAt s3
        have hmay := refMay_any w2 h hf ea ec (by omega) (by omega)
        rw [hm] at hmay
        go_wp2_with fail
        refine hmay.mono ?_
        rintro e w3 ⟨rfl, hb3⟩
        have s4 := s3.quiet hb3
        clear k0 k1 k2 k3 k4 k5 k6 k7 k8 hmay s3 hb3
        go_wp2_with fail
        refine (frames_any _).mono ?_
        rintro e w12 ⟨rfl, hb12⟩
        have hfin := (s4.quiet hb12).below hB
        clear s4 hb12
        go_wp2
        go_ret
        exact ⟨rfl, hfin⟩

end Go.Proofs.Ytiggbioaaglgaaa.frameBack
