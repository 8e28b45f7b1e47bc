/-
  What is got is put as the same bytes, but for its sum: the walk of FrameSame. No conditions. (Written by wip/gen_same.py.)
-/
import Derived.Test.YtiggbioaaglgaaaFrL
namespace Go.Proofs.Ytiggbioaaglgaaa.frameSame
open Go.RowKit Crc Fr

theorem byteRow_take {w : World} {a : Option Addr} {len cap : Nat} {xs : List Nat} (h : ByteRow w (.slice a len cap) xs) (d : Nat) (hd : d ≤ xs.length) : ByteRow w (.slice a d cap) (xs.take d) := by
  have hs := byteRow_sub (p := 0) (n := d) h (by omega)
  have ha : (if cap = 0 then a else a.map (·.add 0)) = a := by
    split
    · rfl
    · cases a <;> simp [Addr.add]
  rw [ha, Nat.sub_zero] at hs
  unfold sl at hs
  rw [List.drop_zero] at hs
  exact hs

set_option maxRecDepth 100000 in
set_option maxHeartbeats 16000000 in
theorem walk (w : World) (v0 : Value) (xs : List Nat) (h0 : ByteRow w v0 xs) :
    Calls Try.prog 7 #[v0] w fun e w' => e = .returned (.bool true) ∧ Below w.heap.size w w' := by
  have hB := Nat.le_refl w.heap.size
  have HX := fun W (hb : Below w.heap.size w W) => h0.below hb hB
  have hxb := h0.byte
  obtain ⟨xa, xc, rfl, hxc, -⟩ := h0
  by_cases c0 : 2000 < xs.length
  · go_enter Try.func7, Try.ntmps7
    go_wp2
    go_ret
    exact ⟨rfl, Below.refl _ _⟩
  · have hx5 : xs.length ≤ 2000 := by omega
    have hget := get_st (St.start w) (.slice xa xs.length xc) xs (fun W s => HX W (s.below hB)) (by omega)
    go_enter Try.func7, Try.ntmps7
    cases hg : Fr.get xs with
    | none =>
      rw [hg] at hget
      go_wp2_with fail
      refine hget.mono ?_
      rintro e w1 ⟨rfl, s1⟩
      have s2 := s1.newBox noHead 25
      obtain ⟨k0, k1, k2, k3, k4, k5, k6, k7, k8⟩ := headAt (h := Gz.nil) (ev := .slice none 0 0) s2
      have hsame := same_true (w1.alloc (.cells noHead 25)) Gz.nil (.slice none 0 0) (.slice none 0 0) (byteRow_none _) (byteRow_none _)
      clear hget s1
      go_wp2_with fail
      refine hsame.mono ?_
      rintro e w3 ⟨rfl, hb3⟩
      have s3 := s2.quiet hb3
      clear hsame k0 k1 k2 k3 k4 k5 k6 k7 k8 s2 hb3
      go_wp2_with fail
      refine (frames_any _).mono ?_
      rintro e w12 ⟨rfl, hb12⟩
      have hfin := (s3.quiet hb12).below hB
      clear s3 hb12
      go_wp2
      go_ret
      exact ⟨rfl, hfin⟩
    | some s =>
      rw [hg] at hget
      obtain ⟨g1, g2, g3, g4, g5⟩ := got hxb hg
      have g6 := got_len hxb hg
      have g7 := got_sum hxb hg
      have hbyte : ∀ x ∈ bytesOf s.h, x < 256 := laid_byte g2 ((may_iff _).1 g1).1 9
      have hel : s.h.extra.length ≤ 65535 := ((may_iff _).1 g1).2.1
      have hnl : s.h.name.length ≤ (bytesOf s.h).length ∧ s.h.comment.length ≤ (bytesOf s.h).length := by
        obtain ⟨_, _, _, ⟨_, m5⟩, _, m7⟩ := (may_iff _).1 g1
        constructor
        · rcases m5 with m5 | m5
          · show _ ≤ (laid s.h 6 ++ (if s.h.has / 2 % 2 = 1 then s.h.name ++ [0] else []) ++ _ ++ _).length
            rw [if_pos m5]
            simp only [List.length_append]
            omega
          · rw [m5]; exact Nat.zero_le _
        · rcases m7 with m7 | m7
          · show _ ≤ (laid s.h 7 ++ (if s.h.has / 4 % 2 = 1 then s.h.comment ++ [0] else []) ++ _).length
            rw [if_pos m7]
            simp only [List.length_append]
            omega
          · rw [m7]; exact Nat.zero_le _
      obtain ⟨n, hn⟩ : ∃ n, s.p = n := ⟨_, rfl⟩
      have hnc : n ≤ xc := by omega
      go_wp2_with fail
      refine hget.mono ?_
      rintro e w1 ⟨ev, rfl, s1⟩
      obtain ⟨ea, ec, rfl⟩ : ∃ a c, ev = .slice a s.h.extra.length c := ownsRow_slice s1.row
      have s2 := s1.newBox (headC s.h (.slice ea s.h.extra.length ec)) 25
      obtain ⟨k0, k1, k2, k3, k4, k5, k6, k7, k8⟩ := headAt s2
      have hput := put_st s2 g2 (ev := .slice ea s.h.extra.length ec) (fun W t => byteRow_owns (St.row (t.front 1)) g2.extra) (by omega) (by omega) (by omega)
      clear hget s1
      go_wp2_with fail
      refine hput.mono ?_
      rintro e w3 (⟨-, v, rfl, s4⟩ | ⟨hm2, -⟩)
      rotate_left
      · exact absurd hm2 (by rw [g1]; simp)
      obtain ⟨pa, pc, rfl⟩ := ownsRow_slice s4.row
      clear hput s2 k0 k1 k2 k3 k4 k5 k6 k7 k8
      have k8 : w3.cell? ⟨w1.heap.size, 8, none⟩ = some (.bool s.h.sum) := (St.boxAt (s4.front 1) 8).1
      rw [hn] at g3 g4 g5 g6 g7
      rw [g6] at s4
      have hR : ∀ W T, St w.heap.size w W (rowT 5 1 (.slice pa n pc) n (u8s (bytesOf s.h)) :: T) → ByteRow W (.slice pa n pc) (bytesOf s.h) := fun W T t => byteRow_owns (by rw [g6]; exact t.row) hbyte
      have hpc : n ≤ pc := by obtain ⟨_, _, e, h2, _⟩ := hR _ _ s4; obtain ⟨-, -, rfl⟩ := Value.slice.inj e; omega
      have hxn : n ≤ xs.length := g3
      have HG := Lib.hid g5
      clear g5 g1 hel hnl hg
      cases hs : s.h.sum with
      | false =>
        obtain ⟨hwr, htk⟩ := g4 hs
        rw [hs] at k8
        have hbs := bytes_plain hs
        obtain ⟨s3, hs3⟩ : ∃ t, strOf (xs.take n) = t := ⟨_, rfl⟩
        have hS : ∀ W T, St w.heap.size w W (rowT 5 1 (.slice pa n pc) n (u8s (bytesOf s.h)) :: T) → (convert 23 9 (.slice pa n pc)).run Try.prog W = .ok (.string s3) W ∧ (convert 23 9 (.slice xa n xc)).run Try.prog W = .ok (.string s3) W ∧ True ∧ True := by
          intro W T t
          refine ⟨?_, ?_, trivial, trivial⟩
          · have h := run_string _ _ _ (hR W T t).reads
            rw [hbs, ← htk, hs3] at h
            exact h
          · have h := run_string _ _ _ (byteRow_take (HX W (t.below hB)) n g3).reads
            rw [hs3] at h
            exact h
        clear hbs htk hs3 hs g4 g7 HG hbyte g3
        generalize s.wrong = wr at *
        subst hwr
        go_wp2
        refine region_seg (by kernel_rfl) [0] 14 rfl (by kernel_rfl) (by kernel_rfl) (fun _ _ d _ _ h => by cases d <;> exact h) ?_
        have sd := s4.drew
        generalize w3.drew = wd at *
        intro K hK
        simp only [pickL, List.getElem?_cons_zero]
        go_wp2_with fail
        try clear hK K
        refine wpAny_of_held (S := fun W => ∃ T, St w.heap.size w W (rowT 5 1 (.slice pa n pc) n (u8s (bytesOf s.h)) :: T)) _ _ _ _ ?_
        refine wpAnyH_take (i := 1) (v := .string s3) rfl (by kernel_rfl) (by kernel_rfl) (by kernel_rfl) (fun _ _ _ h => h) (.inl ⟨by kernel_rfl, fun W hW => by obtain ⟨T, t⟩ := hW; obtain ⟨q1, q2, q3, q4⟩ := hS W T t; go_simp⟩) ⟨_, sd⟩ ?_
        refine wpAnyH_take (i := 2) (v := .slice xa xs.length xc) rfl (by kernel_rfl) (by kernel_rfl) (by kernel_rfl) (fun _ _ _ h => h) (.inl ⟨by kernel_rfl, fun W hW => by obtain ⟨T, t⟩ := hW; obtain ⟨q1, q2, q3, q4⟩ := hS W T t; go_simp⟩) ⟨_, sd⟩ ?_
        refine wpAnyH_take (i := 3) (v := .int .i64 (n : Int)) rfl (by kernel_rfl) (by kernel_rfl) (by kernel_rfl) (fun _ _ _ h => h) (.inl ⟨by kernel_rfl, fun W hW => by obtain ⟨T, t⟩ := hW; obtain ⟨q1, q2, q3, q4⟩ := hS W T t; go_simp⟩) ⟨_, sd⟩ ?_
        refine wpAnyH_take (i := 4) (v := .slice xa n xc) rfl (by kernel_rfl) (by kernel_rfl) (by kernel_rfl) (fun _ _ _ h => h) (.inl ⟨by kernel_rfl, fun W hW => by obtain ⟨T, t⟩ := hW; obtain ⟨q1, q2, q3, q4⟩ := hS W T t; go_simp⟩) ⟨_, sd⟩ ?_
        refine wpAnyH_take (i := 5) (v := .string s3) rfl (by kernel_rfl) (by kernel_rfl) (by kernel_rfl) (fun _ _ _ h => h) (.inl ⟨by kernel_rfl, fun W hW => by obtain ⟨T, t⟩ := hW; obtain ⟨q1, q2, q3, q4⟩ := hS W T t; go_simp⟩) ⟨_, sd⟩ ?_
        refine wpAnyH_take (i := 6) (v := .bool true) rfl (by kernel_rfl) (by kernel_rfl) (by kernel_rfl) (fun _ _ _ h => h) (.inl ⟨by kernel_rfl, fun W hW => by obtain ⟨T, t⟩ := hW; obtain ⟨q1, q2, q3, q4⟩ := hS W T t; go_simp; try simp⟩) ⟨_, sd⟩ ?_
        refine wpAnyH_take (i := 7) (v := .bool true) rfl (by kernel_rfl) (by kernel_rfl) (by kernel_rfl) (fun _ _ _ h => h) (.inl ⟨by kernel_rfl, fun W hW => by obtain ⟨T, t⟩ := hW; obtain ⟨q1, q2, q3, q4⟩ := hS W T t; go_simp⟩) ⟨_, sd⟩ ?_
        refine wpAnyH_take (i := 8) (v := .bool false) rfl (by kernel_rfl) (by kernel_rfl) (by kernel_rfl) (fun _ _ _ h => h) (.inl ⟨by kernel_rfl, fun W hW => by obtain ⟨T, t⟩ := hW; obtain ⟨q1, q2, q3, q4⟩ := hS W T t; go_simp⟩) ⟨_, sd⟩ ?_
        refine wpAnyH_take (i := 9) (v := .bool true) rfl (by kernel_rfl) (by kernel_rfl) (by kernel_rfl) (fun _ _ _ h => h) (.inl ⟨by kernel_rfl, fun W hW => by obtain ⟨T, t⟩ := hW; obtain ⟨q1, q2, q3, q4⟩ := hS W T t; go_simp⟩) ⟨_, sd⟩ ?_
        refine wpAnyH_take (i := 10) (v := .bool true) rfl (by kernel_rfl) (by kernel_rfl) (by kernel_rfl) (fun _ _ _ h => h) (.inl ⟨by kernel_rfl, fun W hW => by obtain ⟨T, t⟩ := hW; obtain ⟨q1, q2, q3, q4⟩ := hS W T t; go_simp⟩) ⟨_, sd⟩ ?_
        refine wpAnyH_take (i := 11) (v := .bool true) rfl (by kernel_rfl) (by kernel_rfl) (by kernel_rfl) (fun _ _ _ h => h) (.inl ⟨by kernel_rfl, fun W hW => by obtain ⟨T, t⟩ := hW; obtain ⟨q1, q2, q3, q4⟩ := hS W T t; go_simp⟩) ⟨_, sd⟩ ?_
        refine held_call (j := 12) _ (by kernel_rfl) rfl (by kernel_rfl) 14 #[] (by kernel_rfl) (frames_any _) ?_
        rintro e w7 ⟨rfl, hb7⟩
        have s7 := sd.quiet hb7
        refine ⟨_, rfl, ⟨_, s7⟩, ?_⟩
        clear sd hb7
        refine wpAnyH_take (i := 13) (v := .bool true) rfl (by kernel_rfl) (by kernel_rfl) (by kernel_rfl) (fun _ _ _ h => h) (.inl ⟨by kernel_rfl, fun W hW => by obtain ⟨T, t⟩ := hW; obtain ⟨q1, q2, q3, q4⟩ := hS W T t; go_simp⟩) ⟨_, s7⟩ ?_
        refine wpAnyH_take (i := 14) (v := .bool true) rfl (by kernel_rfl) (by kernel_rfl) (by kernel_rfl) (fun _ _ _ h => h) (.inl ⟨by kernel_rfl, fun W hW => by obtain ⟨T, t⟩ := hW; obtain ⟨q1, q2, q3, q4⟩ := hS W T t; go_simp⟩) ⟨_, s7⟩ ?_
        refine wpAnyH_done (by kernel_rfl) ?_ 0
        have hfin := s7.below hB
        clear s7 hS
        go_simp
        go_wp2
        go_ret
        exact ⟨rfl, hfin⟩
      | true =>
        obtain ⟨q1, q2, q3⟩ := g7 hs
        rw [hs] at k8
        obtain ⟨d, hd⟩ : ∃ d, n - 2 = d := ⟨_, rfl⟩
        have hnd : (n : Int) - 2 = (d : Int) := by omega
        rw [hd] at q2
        have hdn : d ≤ n := by omega
        have hdw : IntKind.i64.wrap (d : Int) = (d : Int) := by
          simp [IntKind.wrap, IntKind.signed, IntKind.bits]
          omega
        have hdc : d ≤ pc := by omega
        have hdxc : d ≤ xc := by omega
        obtain ⟨s1', hs1⟩ : ∃ t, strOf (xs.take d) = t := ⟨_, rfl⟩
        obtain ⟨s2, hs2⟩ : ∃ t, strOf (bytesOf s.h) = t := ⟨_, rfl⟩
        obtain ⟨s3, hs3⟩ : ∃ t, strOf (xs.take n) = t := ⟨_, rfl⟩
        have hS : ∀ W T, St w.heap.size w W (rowT 5 1 (.slice pa n pc) n (u8s (bytesOf s.h)) :: T) → (convert 23 9 (.slice pa d pc)).run Try.prog W = .ok (.string s1') W ∧ (convert 23 9 (.slice xa d xc)).run Try.prog W = .ok (.string s1') W ∧ (convert 23 9 (.slice pa n pc)).run Try.prog W = .ok (.string s2) W ∧ (convert 23 9 (.slice xa n xc)).run Try.prog W = .ok (.string s3) W := by
          intro W T t
          have hr := hR W T t
          refine ⟨?_, ?_, ?_, ?_⟩
          · have h := run_string _ _ _ (byteRow_take hr d (by omega)).reads
            rw [q2, hs1] at h
            exact h
          · have h := run_string _ _ _ (byteRow_take (HX W (t.below hB)) d (by omega)).reads
            rw [hs1] at h
            exact h
          · have h := run_string _ _ _ hr.reads
            rw [hs2] at h
            exact h
          · have h := run_string _ _ _ (byteRow_take (HX W (t.below hB)) n g3).reads
            rw [hs3] at h
            exact h
        have hx0 : (s2.toList == s3.toList) = !s.wrong := by
          rw [Bool.eq_iff_iff, beq_iff_eq, str_list, ← hs2, ← hs3, strOf_eq hbyte (fun x hx => hxb x (List.mem_of_mem_take hx)), q3]
          cases s.wrong <;> simp
        clear hs1 hs2 hs3 q2 q3 hs g4 g7 HG hbyte g3 hd
        cases hwr : s.wrong with
        | false =>
          rw [hwr] at hx0
          have hx : (s2.toList == s3.toList) = true := hx0
          clear hx0
          generalize s.wrong = wr at *
          subst hwr
          go_wp2
          refine region_seg (by kernel_rfl) [0] 26 rfl (by kernel_rfl) (by kernel_rfl) (fun _ _ d _ _ h => by cases d <;> exact h) ?_
          have sd := s4.drew
          generalize w3.drew = wd at *
          intro K hK
          simp only [pickL, List.getElem?_cons_zero]
          go_wp2_with fail
          try clear hK K
          refine wpAny_of_held (S := fun W => ∃ T, St w.heap.size w W (rowT 5 1 (.slice pa n pc) n (u8s (bytesOf s.h)) :: T)) _ _ _ _ ?_
          refine wpAnyH_take (i := 1) (v := .int .i64 (n : Int)) rfl (by kernel_rfl) (by kernel_rfl) (by kernel_rfl) (fun _ _ _ h => h) (.inl ⟨by kernel_rfl, fun W hW => by obtain ⟨T, t⟩ := hW; obtain ⟨q1, q2, q3, q4⟩ := hS W T t; go_simp⟩) ⟨_, sd⟩ ?_
          refine wpAnyH_take (i := 2) (v := .int .i64 (d : Int)) rfl (by kernel_rfl) (by kernel_rfl) (by kernel_rfl) (fun _ _ _ h => h) (.inl ⟨by kernel_rfl, fun W hW => by obtain ⟨T, t⟩ := hW; obtain ⟨q1, q2, q3, q4⟩ := hS W T t; go_simp; first | done | exact hdw⟩) ⟨_, sd⟩ ?_
          refine wpAnyH_take (i := 3) (v := .slice pa d pc) rfl (by kernel_rfl) (by kernel_rfl) (by kernel_rfl) (fun _ _ _ h => h) (.inl ⟨by kernel_rfl, fun W hW => by obtain ⟨T, t⟩ := hW; obtain ⟨q1, q2, q3, q4⟩ := hS W T t; go_simp⟩) ⟨_, sd⟩ ?_
          refine wpAnyH_take (i := 4) (v := .string s1') rfl (by kernel_rfl) (by kernel_rfl) (by kernel_rfl) (fun _ _ _ h => h) (.inl ⟨by kernel_rfl, fun W hW => by obtain ⟨T, t⟩ := hW; obtain ⟨q1, q2, q3, q4⟩ := hS W T t; go_simp⟩) ⟨_, sd⟩ ?_
          refine wpAnyH_take (i := 5) (v := .slice xa xs.length xc) rfl (by kernel_rfl) (by kernel_rfl) (by kernel_rfl) (fun _ _ _ h => h) (.inl ⟨by kernel_rfl, fun W hW => by obtain ⟨T, t⟩ := hW; obtain ⟨q1, q2, q3, q4⟩ := hS W T t; go_simp⟩) ⟨_, sd⟩ ?_
          refine wpAnyH_take (i := 6) (v := .int .i64 (n : Int)) rfl (by kernel_rfl) (by kernel_rfl) (by kernel_rfl) (fun _ _ _ h => h) (.inl ⟨by kernel_rfl, fun W hW => by obtain ⟨T, t⟩ := hW; obtain ⟨q1, q2, q3, q4⟩ := hS W T t; go_simp⟩) ⟨_, sd⟩ ?_
          refine wpAnyH_take (i := 7) (v := .int .i64 (d : Int)) rfl (by kernel_rfl) (by kernel_rfl) (by kernel_rfl) (fun _ _ _ h => h) (.inl ⟨by kernel_rfl, fun W hW => by obtain ⟨T, t⟩ := hW; obtain ⟨q1, q2, q3, q4⟩ := hS W T t; go_simp; first | done | exact hdw⟩) ⟨_, sd⟩ ?_
          refine wpAnyH_take (i := 8) (v := .slice xa d xc) rfl (by kernel_rfl) (by kernel_rfl) (by kernel_rfl) (fun _ _ _ h => h) (.inl ⟨by kernel_rfl, fun W hW => by obtain ⟨T, t⟩ := hW; obtain ⟨q1, q2, q3, q4⟩ := hS W T t; go_simp⟩) ⟨_, sd⟩ ?_
          refine wpAnyH_take (i := 9) (v := .string s1') rfl (by kernel_rfl) (by kernel_rfl) (by kernel_rfl) (fun _ _ _ h => h) (.inl ⟨by kernel_rfl, fun W hW => by obtain ⟨T, t⟩ := hW; obtain ⟨q1, q2, q3, q4⟩ := hS W T t; go_simp⟩) ⟨_, sd⟩ ?_
          refine wpAnyH_take (i := 10) (v := .bool true) rfl (by kernel_rfl) (by kernel_rfl) (by kernel_rfl) (fun _ _ _ h => h) (.inl ⟨by kernel_rfl, fun W hW => by obtain ⟨T, t⟩ := hW; obtain ⟨q1, q2, q3, q4⟩ := hS W T t; go_simp; try simp⟩) ⟨_, sd⟩ ?_
          refine wpAnyH_take (i := 11) (v := .bool true) rfl (by kernel_rfl) (by kernel_rfl) (by kernel_rfl) (fun _ _ _ h => h) (.inl ⟨by kernel_rfl, fun W hW => by obtain ⟨T, t⟩ := hW; obtain ⟨q1, q2, q3, q4⟩ := hS W T t; go_simp⟩) ⟨_, sd⟩ ?_
          refine wpAnyH_take (i := 12) (v := .slice pa n pc) rfl (by kernel_rfl) (by kernel_rfl) (by kernel_rfl) (fun _ _ _ h => h) (.inl ⟨by kernel_rfl, fun W hW => by obtain ⟨T, t⟩ := hW; obtain ⟨q1, q2, q3, q4⟩ := hS W T t; go_simp⟩) ⟨_, sd⟩ ?_
          refine wpAnyH_take (i := 13) (v := .string s2) rfl (by kernel_rfl) (by kernel_rfl) (by kernel_rfl) (fun _ _ _ h => h) (.inl ⟨by kernel_rfl, fun W hW => by obtain ⟨T, t⟩ := hW; obtain ⟨q1, q2, q3, q4⟩ := hS W T t; go_simp⟩) ⟨_, sd⟩ ?_
          refine wpAnyH_take (i := 14) (v := .slice xa xs.length xc) rfl (by kernel_rfl) (by kernel_rfl) (by kernel_rfl) (fun _ _ _ h => h) (.inl ⟨by kernel_rfl, fun W hW => by obtain ⟨T, t⟩ := hW; obtain ⟨q1, q2, q3, q4⟩ := hS W T t; go_simp⟩) ⟨_, sd⟩ ?_
          refine wpAnyH_take (i := 15) (v := .int .i64 (n : Int)) rfl (by kernel_rfl) (by kernel_rfl) (by kernel_rfl) (fun _ _ _ h => h) (.inl ⟨by kernel_rfl, fun W hW => by obtain ⟨T, t⟩ := hW; obtain ⟨q1, q2, q3, q4⟩ := hS W T t; go_simp⟩) ⟨_, sd⟩ ?_
          refine wpAnyH_take (i := 16) (v := .slice xa n xc) rfl (by kernel_rfl) (by kernel_rfl) (by kernel_rfl) (fun _ _ _ h => h) (.inl ⟨by kernel_rfl, fun W hW => by obtain ⟨T, t⟩ := hW; obtain ⟨q1, q2, q3, q4⟩ := hS W T t; go_simp⟩) ⟨_, sd⟩ ?_
          refine wpAnyH_take (i := 17) (v := .string s3) rfl (by kernel_rfl) (by kernel_rfl) (by kernel_rfl) (fun _ _ _ h => h) (.inl ⟨by kernel_rfl, fun W hW => by obtain ⟨T, t⟩ := hW; obtain ⟨q1, q2, q3, q4⟩ := hS W T t; go_simp⟩) ⟨_, sd⟩ ?_
          refine wpAnyH_take (i := 18) (v := .bool true) rfl (by kernel_rfl) (by kernel_rfl) (by kernel_rfl) (fun _ _ _ h => h) (.inl ⟨by kernel_rfl, fun W hW => by obtain ⟨T, t⟩ := hW; obtain ⟨q1, q2, q3, q4⟩ := hS W T t; go_simp; first | done | (rw [hx]) | (simp only [hx])⟩) ⟨_, sd⟩ ?_
          refine wpAnyH_take (i := 19) (v := .bool false) rfl (by kernel_rfl) (by kernel_rfl) (by kernel_rfl) (fun _ _ _ h => h) (.inl ⟨by kernel_rfl, fun W hW => by obtain ⟨T, t⟩ := hW; obtain ⟨q1, q2, q3, q4⟩ := hS W T t; go_simp⟩) ⟨_, sd⟩ ?_
          refine wpAnyH_take (i := 20) (v := .bool true) rfl (by kernel_rfl) (by kernel_rfl) (by kernel_rfl) (fun _ _ _ h => h) (.inl ⟨by kernel_rfl, fun W hW => by obtain ⟨T, t⟩ := hW; obtain ⟨q1, q2, q3, q4⟩ := hS W T t; go_simp⟩) ⟨_, sd⟩ ?_
          refine wpAnyH_take (i := 21) (v := .bool true) rfl (by kernel_rfl) (by kernel_rfl) (by kernel_rfl) (fun _ _ _ h => h) (.inl ⟨by kernel_rfl, fun W hW => by obtain ⟨T, t⟩ := hW; obtain ⟨q1, q2, q3, q4⟩ := hS W T t; go_simp; try rfl⟩) ⟨_, sd⟩ ?_
          refine wpAnyH_take (i := 22) (v := .bool true) rfl (by kernel_rfl) (by kernel_rfl) (by kernel_rfl) (fun _ _ _ h => h) (.inl ⟨by kernel_rfl, fun W hW => by obtain ⟨T, t⟩ := hW; obtain ⟨q1, q2, q3, q4⟩ := hS W T t; go_simp⟩) ⟨_, sd⟩ ?_
          refine wpAnyH_take (i := 23) (v := .bool true) rfl (by kernel_rfl) (by kernel_rfl) (by kernel_rfl) (fun _ _ _ h => h) (.inl ⟨by kernel_rfl, fun W hW => by obtain ⟨T, t⟩ := hW; obtain ⟨q1, q2, q3, q4⟩ := hS W T t; go_simp⟩) ⟨_, sd⟩ ?_
          refine held_call (j := 24) _ (by kernel_rfl) rfl (by kernel_rfl) 14 #[] (by kernel_rfl) (frames_any _) ?_
          rintro e w7 ⟨rfl, hb7⟩
          have s7 := sd.quiet hb7
          refine ⟨_, rfl, ⟨_, s7⟩, ?_⟩
          clear sd hb7
          refine wpAnyH_take (i := 25) (v := .bool true) rfl (by kernel_rfl) (by kernel_rfl) (by kernel_rfl) (fun _ _ _ h => h) (.inl ⟨by kernel_rfl, fun W hW => by obtain ⟨T, t⟩ := hW; obtain ⟨q1, q2, q3, q4⟩ := hS W T t; go_simp⟩) ⟨_, s7⟩ ?_
          refine wpAnyH_take (i := 26) (v := .bool true) rfl (by kernel_rfl) (by kernel_rfl) (by kernel_rfl) (fun _ _ _ h => h) (.inl ⟨by kernel_rfl, fun W hW => by obtain ⟨T, t⟩ := hW; obtain ⟨q1, q2, q3, q4⟩ := hS W T t; go_simp⟩) ⟨_, s7⟩ ?_
          refine wpAnyH_done (by kernel_rfl) ?_ 0
          have hfin := s7.below hB
          clear s7 hS
          go_simp
          go_wp2
          go_ret
          exact ⟨rfl, hfin⟩
        | true =>
          rw [hwr] at hx0
          have hx : (s2.toList == s3.toList) = false := hx0
          clear hx0
          generalize s.wrong = wr at *
          subst hwr
          go_wp2
          refine region_seg (by kernel_rfl) [0] 26 rfl (by kernel_rfl) (by kernel_rfl) (fun _ _ d _ _ h => by cases d <;> exact h) ?_
          have sd := s4.drew
          generalize w3.drew = wd at *
          intro K hK
          simp only [pickL, List.getElem?_cons_zero]
          go_wp2_with fail
          try clear hK K
          refine wpAny_of_held (S := fun W => ∃ T, St w.heap.size w W (rowT 5 1 (.slice pa n pc) n (u8s (bytesOf s.h)) :: T)) _ _ _ _ ?_
          refine wpAnyH_take (i := 1) (v := .int .i64 (n : Int)) rfl (by kernel_rfl) (by kernel_rfl) (by kernel_rfl) (fun _ _ _ h => h) (.inl ⟨by kernel_rfl, fun W hW => by obtain ⟨T, t⟩ := hW; obtain ⟨q1, q2, q3, q4⟩ := hS W T t; go_simp⟩) ⟨_, sd⟩ ?_
          refine wpAnyH_take (i := 2) (v := .int .i64 (d : Int)) rfl (by kernel_rfl) (by kernel_rfl) (by kernel_rfl) (fun _ _ _ h => h) (.inl ⟨by kernel_rfl, fun W hW => by obtain ⟨T, t⟩ := hW; obtain ⟨q1, q2, q3, q4⟩ := hS W T t; go_simp; first | done | exact hdw⟩) ⟨_, sd⟩ ?_
          refine wpAnyH_take (i := 3) (v := .slice pa d pc) rfl (by kernel_rfl) (by kernel_rfl) (by kernel_rfl) (fun _ _ _ h => h) (.inl ⟨by kernel_rfl, fun W hW => by obtain ⟨T, t⟩ := hW; obtain ⟨q1, q2, q3, q4⟩ := hS W T t; go_simp⟩) ⟨_, sd⟩ ?_
          refine wpAnyH_take (i := 4) (v := .string s1') rfl (by kernel_rfl) (by kernel_rfl) (by kernel_rfl) (fun _ _ _ h => h) (.inl ⟨by kernel_rfl, fun W hW => by obtain ⟨T, t⟩ := hW; obtain ⟨q1, q2, q3, q4⟩ := hS W T t; go_simp⟩) ⟨_, sd⟩ ?_
          refine wpAnyH_take (i := 5) (v := .slice xa xs.length xc) rfl (by kernel_rfl) (by kernel_rfl) (by kernel_rfl) (fun _ _ _ h => h) (.inl ⟨by kernel_rfl, fun W hW => by obtain ⟨T, t⟩ := hW; obtain ⟨q1, q2, q3, q4⟩ := hS W T t; go_simp⟩) ⟨_, sd⟩ ?_
          refine wpAnyH_take (i := 6) (v := .int .i64 (n : Int)) rfl (by kernel_rfl) (by kernel_rfl) (by kernel_rfl) (fun _ _ _ h => h) (.inl ⟨by kernel_rfl, fun W hW => by obtain ⟨T, t⟩ := hW; obtain ⟨q1, q2, q3, q4⟩ := hS W T t; go_simp⟩) ⟨_, sd⟩ ?_
          refine wpAnyH_take (i := 7) (v := .int .i64 (d : Int)) rfl (by kernel_rfl) (by kernel_rfl) (by kernel_rfl) (fun _ _ _ h => h) (.inl ⟨by kernel_rfl, fun W hW => by obtain ⟨T, t⟩ := hW; obtain ⟨q1, q2, q3, q4⟩ := hS W T t; go_simp; first | done | exact hdw⟩) ⟨_, sd⟩ ?_
          refine wpAnyH_take (i := 8) (v := .slice xa d xc) rfl (by kernel_rfl) (by kernel_rfl) (by kernel_rfl) (fun _ _ _ h => h) (.inl ⟨by kernel_rfl, fun W hW => by obtain ⟨T, t⟩ := hW; obtain ⟨q1, q2, q3, q4⟩ := hS W T t; go_simp⟩) ⟨_, sd⟩ ?_
          refine wpAnyH_take (i := 9) (v := .string s1') rfl (by kernel_rfl) (by kernel_rfl) (by kernel_rfl) (fun _ _ _ h => h) (.inl ⟨by kernel_rfl, fun W hW => by obtain ⟨T, t⟩ := hW; obtain ⟨q1, q2, q3, q4⟩ := hS W T t; go_simp⟩) ⟨_, sd⟩ ?_
          refine wpAnyH_take (i := 10) (v := .bool true) rfl (by kernel_rfl) (by kernel_rfl) (by kernel_rfl) (fun _ _ _ h => h) (.inl ⟨by kernel_rfl, fun W hW => by obtain ⟨T, t⟩ := hW; obtain ⟨q1, q2, q3, q4⟩ := hS W T t; go_simp; try simp⟩) ⟨_, sd⟩ ?_
          refine wpAnyH_take (i := 11) (v := .bool true) rfl (by kernel_rfl) (by kernel_rfl) (by kernel_rfl) (fun _ _ _ h => h) (.inl ⟨by kernel_rfl, fun W hW => by obtain ⟨T, t⟩ := hW; obtain ⟨q1, q2, q3, q4⟩ := hS W T t; go_simp⟩) ⟨_, sd⟩ ?_
          refine wpAnyH_take (i := 12) (v := .slice pa n pc) rfl (by kernel_rfl) (by kernel_rfl) (by kernel_rfl) (fun _ _ _ h => h) (.inl ⟨by kernel_rfl, fun W hW => by obtain ⟨T, t⟩ := hW; obtain ⟨q1, q2, q3, q4⟩ := hS W T t; go_simp⟩) ⟨_, sd⟩ ?_
          refine wpAnyH_take (i := 13) (v := .string s2) rfl (by kernel_rfl) (by kernel_rfl) (by kernel_rfl) (fun _ _ _ h => h) (.inl ⟨by kernel_rfl, fun W hW => by obtain ⟨T, t⟩ := hW; obtain ⟨q1, q2, q3, q4⟩ := hS W T t; go_simp⟩) ⟨_, sd⟩ ?_
          refine wpAnyH_take (i := 14) (v := .slice xa xs.length xc) rfl (by kernel_rfl) (by kernel_rfl) (by kernel_rfl) (fun _ _ _ h => h) (.inl ⟨by kernel_rfl, fun W hW => by obtain ⟨T, t⟩ := hW; obtain ⟨q1, q2, q3, q4⟩ := hS W T t; go_simp⟩) ⟨_, sd⟩ ?_
          refine wpAnyH_take (i := 15) (v := .int .i64 (n : Int)) rfl (by kernel_rfl) (by kernel_rfl) (by kernel_rfl) (fun _ _ _ h => h) (.inl ⟨by kernel_rfl, fun W hW => by obtain ⟨T, t⟩ := hW; obtain ⟨q1, q2, q3, q4⟩ := hS W T t; go_simp⟩) ⟨_, sd⟩ ?_
          refine wpAnyH_take (i := 16) (v := .slice xa n xc) rfl (by kernel_rfl) (by kernel_rfl) (by kernel_rfl) (fun _ _ _ h => h) (.inl ⟨by kernel_rfl, fun W hW => by obtain ⟨T, t⟩ := hW; obtain ⟨q1, q2, q3, q4⟩ := hS W T t; go_simp⟩) ⟨_, sd⟩ ?_
          refine wpAnyH_take (i := 17) (v := .string s3) rfl (by kernel_rfl) (by kernel_rfl) (by kernel_rfl) (fun _ _ _ h => h) (.inl ⟨by kernel_rfl, fun W hW => by obtain ⟨T, t⟩ := hW; obtain ⟨q1, q2, q3, q4⟩ := hS W T t; go_simp⟩) ⟨_, sd⟩ ?_
          refine wpAnyH_take (i := 18) (v := .bool false) rfl (by kernel_rfl) (by kernel_rfl) (by kernel_rfl) (fun _ _ _ h => h) (.inl ⟨by kernel_rfl, fun W hW => by obtain ⟨T, t⟩ := hW; obtain ⟨q1, q2, q3, q4⟩ := hS W T t; go_simp; first | done | (rw [hx]) | (simp only [hx])⟩) ⟨_, sd⟩ ?_
          refine wpAnyH_take (i := 19) (v := .bool true) rfl (by kernel_rfl) (by kernel_rfl) (by kernel_rfl) (fun _ _ _ h => h) (.inl ⟨by kernel_rfl, fun W hW => by obtain ⟨T, t⟩ := hW; obtain ⟨q1, q2, q3, q4⟩ := hS W T t; go_simp⟩) ⟨_, sd⟩ ?_
          refine wpAnyH_take (i := 20) (v := .bool false) rfl (by kernel_rfl) (by kernel_rfl) (by kernel_rfl) (fun _ _ _ h => h) (.inl ⟨by kernel_rfl, fun W hW => by obtain ⟨T, t⟩ := hW; obtain ⟨q1, q2, q3, q4⟩ := hS W T t; go_simp⟩) ⟨_, sd⟩ ?_
          refine wpAnyH_take (i := 21) (v := .bool true) rfl (by kernel_rfl) (by kernel_rfl) (by kernel_rfl) (fun _ _ _ h => h) (.inl ⟨by kernel_rfl, fun W hW => by obtain ⟨T, t⟩ := hW; obtain ⟨q1, q2, q3, q4⟩ := hS W T t; go_simp; try rfl⟩) ⟨_, sd⟩ ?_
          refine wpAnyH_take (i := 22) (v := .bool true) rfl (by kernel_rfl) (by kernel_rfl) (by kernel_rfl) (fun _ _ _ h => h) (.inl ⟨by kernel_rfl, fun W hW => by obtain ⟨T, t⟩ := hW; obtain ⟨q1, q2, q3, q4⟩ := hS W T t; go_simp⟩) ⟨_, sd⟩ ?_
          refine wpAnyH_take (i := 23) (v := .bool true) rfl (by kernel_rfl) (by kernel_rfl) (by kernel_rfl) (fun _ _ _ h => h) (.inl ⟨by kernel_rfl, fun W hW => by obtain ⟨T, t⟩ := hW; obtain ⟨q1, q2, q3, q4⟩ := hS W T t; go_simp⟩) ⟨_, sd⟩ ?_
          refine held_call (j := 24) _ (by kernel_rfl) rfl (by kernel_rfl) 14 #[] (by kernel_rfl) (frames_any _) ?_
          rintro e w7 ⟨rfl, hb7⟩
          have s7 := sd.quiet hb7
          refine ⟨_, rfl, ⟨_, s7⟩, ?_⟩
          clear sd hb7
          refine wpAnyH_take (i := 25) (v := .bool true) rfl (by kernel_rfl) (by kernel_rfl) (by kernel_rfl) (fun _ _ _ h => h) (.inl ⟨by kernel_rfl, fun W hW => by obtain ⟨T, t⟩ := hW; obtain ⟨q1, q2, q3, q4⟩ := hS W T t; go_simp⟩) ⟨_, s7⟩ ?_
          refine wpAnyH_take (i := 26) (v := .bool true) rfl (by kernel_rfl) (by kernel_rfl) (by kernel_rfl) (fun _ _ _ h => h) (.inl ⟨by kernel_rfl, fun W hW => by obtain ⟨T, t⟩ := hW; obtain ⟨q1, q2, q3, q4⟩ := hS W T t; go_simp⟩) ⟨_, s7⟩ ?_
          refine wpAnyH_done (by kernel_rfl) ?_ 0
          have hfin := s7.below hB
          clear s7 hS
          go_simp
          go_wp2
          go_ret
          exact ⟨rfl, hfin⟩
end Go.Proofs.Ytiggbioaaglgaaa.frameSame
