/-
  A head's fields play no part in what a file says: the walk of GunzipHeads. No conditions.
-/
import Derived.Test.YtmcjbkfiipmgeaaGreatGzT
namespace Go.Proofs.YtmcjbkfiipmgeaaGreat.gunzipHeads
open Go.RowKit Kraft Hd Inf Fr Gu

theorem u16_nat {v : Int} (hv : (Lit.int .u16 v).wf = true) : ∃ x : Nat, v = (x : Int) ∧ x < 65536 := by
  simp only [Lit.wf, Bool.and_eq_true, decide_eq_true_eq] at hv
  have h1 : IntKind.u16.min = 0 := rfl
  have h2 : IntKind.u16.max = 65535 := rfl
  rw [h1, h2] at hv
  exact ⟨v.toNat, by omega, by omega⟩

theorem nil_fits : Fits Gz.nil := ⟨by decide, by decide, by decide, by decide, by simp [Gz.nil], by simp [Gz.nil], by simp [Gz.nil]⟩
theorem nil_may : Fr.may Gz.nil = true := by decide
theorem nil_len : (bytesOf Gz.nil).length = 10 := by decide +kernel

theorem xor_one (y : Nat) (hy : y < 256) : bits .xor .u8 (y : Int) 1 = ((y ^^^ 1 : Nat) : Int) ∧ y ^^^ 1 < 256 := by
  have : ∀ y : Nat, y < 256 → bits .xor .u8 (y : Int) 1 = ((y ^^^ 1 : Nat) : Int) ∧ y ^^^ 1 < 256 := by decide +kernel
  exact this y hy

/-- The file whose head's sum is turned. -/
theorem file_head {g : Gz} (hf : Fits g) (hm : Fr.may g = true) (hs : g.sum = true) (xs : List Nat) (hxb : ∀ x ∈ xs, x < 256) (hx : xs.length ≤ 65535) (j y : Nat) (hj : (bytesOf g).length - 1 = j) (hjl : j < (bytesOf g).length) (hy : (Gu.stored g xs)[j]? = some y) :
    ∃ u, file ((Gu.stored g xs).set j (y ^^^ 1)) = some [⟨u, xs, true, false⟩] := by
  have h1 := file_one (get_head hf hm hs) xs hxb hx
  have h2 : (bytesOf g).getD ((bytesOf g).length - 1) 0 = y := by
    unfold Gu.stored at hy
    rw [List.getElem?_append_left hjl] at hy
    rw [hj, List.getD_eq_getElem?_getD, hy]
    rfl
  rw [h2, hj] at h1
  unfold Gu.stored
  rw [List.set_append_left _ _ hjl]
  exact ⟨_, h1⟩

set_option maxRecDepth 100000 in
set_option maxHeartbeats 8000000 in
theorem walk (w : World) (v0 : Value) (xs : List Nat) (h0 : ByteRow w v0 xs) (v1 : Value) (g : Gz) (h1 : HeadIn w v1 g) (kk : Int) (hkk : (Lit.int .u16 kk).wf = true) :
    Calls Tryz.prog 8 #[v0, v1, .int .u16 kk] w fun e w' => e = .returned (.bool true) ∧ Below w.heap.size w w' := by
  have hB := Nat.le_refl w.heap.size
  obtain ⟨kn, rfl, hkn⟩ := u16_nat hkk
  clear hkk
  obtain ⟨ev, rfl, hrow, hf⟩ := h1
  have HE := fun W (hb : Below w.heap.size w W) => hrow.below hb hB
  have HX := fun W (hb : Below w.heap.size w W) => h0.below hb hB
  have hxb := h0.byte
  obtain ⟨ea, ec, rfl, -⟩ := hrow
  obtain ⟨xa, xc, rfl, -⟩ := h0
  have s1 := (St.start w).newBox (headC g (.slice ea g.extra.length ec)) 52
  obtain ⟨k0, k1, k2, k3, k4, k5, k6, k7, k8⟩ := headAt s1
  have hbel1 := s1.below hB
  have hsn : (strOf g.name).size = g.name.length := Fr.strOf_size _
  have hsc : (strOf g.comment).size = g.comment.length := Fr.strOf_size _
  by_cases c0 : 1000 < xs.length
  · go_enter Tryz.func8, Tryz.ntmps8
    go_wp2
    go_ret
    exact ⟨rfl, hbel1⟩
  by_cases c1 : 1000 < g.extra.length
  · go_enter Tryz.func8, Tryz.ntmps8
    go_wp2
    go_ret
    exact ⟨rfl, hbel1⟩
  by_cases c2 : 1000 < g.name.length
  · go_enter Tryz.func8, Tryz.ntmps8
    go_wp2
    go_ret
    exact ⟨rfl, hbel1⟩
  by_cases c3 : 1000 < g.comment.length
  · go_enter Tryz.func8, Tryz.ntmps8
    go_wp2
    go_ret
    exact ⟨rfl, hbel1⟩
  have hput := Fr.put_st s1 hf (ev := .slice ea g.extra.length ec) (fun W s => HE W (s.below hB)) (by omega) (by omega) (by omega)
  have HE := Lib.hid HE
  have HX := Lib.hid HX
  go_enter Tryz.func8, Tryz.ntmps8
  go_wp2_with fail
  refine hput.mono ?_
  rintro e w1 (⟨hm, v, rfl, s2⟩ | ⟨hm, rfl, s2⟩)
  rotate_left
  · have hb2 := s2.below hB
    go_wp2_with fail
    refine (opens_any _).mono ?_
    rintro e w3 ⟨rfl, hb3⟩
    go_wp2
    go_ret
    exact ⟨rfl, hb2.trans (hb3.mono hb2.size)⟩
  · clear k0 k1 k2 k3 k4 k5 k6 k7 k8 hput s1
    obtain ⟨a1, cc1, rfl⟩ := ownsRow_slice s2.row
    obtain ⟨k0, k1, k2, k3, k4, k5, k6, k7, k8⟩ := headAt s2.swap
    obtain ⟨n, hn, hnb⟩ : ∃ n, kn % 1200 = n ∧ n < 1200 := ⟨_, rfl, by omega⟩
    have hn2 : (kn : Int) % 1200 = (n : Int) := by omega
    have hn3 : (kn : Int).tmod 1200 = (n : Int) := by rw [Int.tmod_eq_emod_of_nonneg (by omega)]; exact hn2
    have hst := stored_st s2 hf hm (.slice ea g.extra.length ec) (fun W s => HE.out W (s.below hB)) (by omega) (by omega) (by omega) (.slice xa xs.length xc) xs (fun W s => HX.out W (s.below hB)) (by omega)
    have hge := laid_ge g
    have hHl : (bytesOf g).length ≤ 9 * (4 + g.extra.length + g.name.length + g.comment.length) := laid_len g 9
    have hGl := stored_length g xs
    have hGb := stored_byte hf hm hxb (by omega)
    have hpos : 0 < (Gu.stored g xs).length := by omega
    have hGs : (Gu.stored g xs).length ≤ 60000 := by omega
    have HGl := Lib.hid hGl
    clear hGl
    have hfile := file_one (get_put hf hm) xs hxb (by omega)
    go_wp2_with fail
    refine hst.mono ?_
    rintro e w2 ⟨v2, rfl, s3⟩
    obtain ⟨g2, cc2, rfl, hcc2⟩ := s3.rowShape hpos
    clear hst s2 k0 k1 k2 k3 k4 k5 k6 k7 k8
    obtain ⟨G, hG⟩ : ∃ G, Gu.stored g xs = G := ⟨_, rfl⟩
    have hfile2 : file G = some [⟨(bytesOf g).length + (5 + xs.length) + 8, xs, false, false⟩] := by rw [← hG]; exact hfile
    rw [hG] at s3 hGb hcc2 hGs HGl
    try rw [hG]
    obtain ⟨o, ho⟩ : ∃ o, xs.take n = o := ⟨_, rfl⟩
    obtain ⟨t, ht⟩ : ∃ t, o.length = t := ⟨_, rfl⟩
    have hob : ∀ x ∈ o, x < 256 := fun x hx => hxb x (by rw [← ho] at hx; exact List.mem_of_mem_take hx)
    have hg1 := gunzip_says s3 (.slice (some ⟨g2, 0, none⟩) G.length cc2) G (byteRow_owns s3.row hGb) hGs n t xs.length G.length false (by omega) (o := o) hfile2 (by simp [outs]; exact ho) ht (by simp [outs]) rfl (by simp [wrongs])
    go_wp2_with fail
    refine hg1.mono ?_
    rintro e w3 ⟨oa, oc, rfl, s4⟩
    have s5 := s4.newBox #[.slice oa t oc, .int .i64 (xs.length : Int), .int .i64 (G.length : Int), .bool false] 28
    clear hg1 s3 s4
    have hst2 : Calls Tryz.prog 22 #[.agg noHead, .slice xa xs.length xc] _ _ := stored_st s5 nil_fits nil_may (.slice none 0 0) (fun W s => byteRow_none W) (by decide) (by decide) (by decide) (.slice xa xs.length xc) xs (fun W s => HX.out W (s.below hB)) (by omega)
    have hZl := stored_length Gz.nil xs
    rw [nil_len] at hZl
    have hpos2 : 0 < (Gu.stored Gz.nil xs).length := by omega
    have hZs : (Gu.stored Gz.nil xs).length ≤ 60000 := by omega
    have HZl := Lib.hid hZl
    clear hZl
    have hZb := stored_byte nil_fits nil_may hxb (by omega)
    have hfz := file_one (get_put nil_fits nil_may) xs hxb (by omega)
    go_wp2_with fail
    refine hst2.mono ?_
    rintro e w4 ⟨v4, rfl, s6⟩
    obtain ⟨g4, cc4, rfl, hcc4⟩ := s6.rowShape hpos2
    clear hst2 s5
    obtain ⟨Z, hZ⟩ : ∃ Z, Gu.stored Gz.nil xs = Z := ⟨_, rfl⟩
    have hfz2 : file Z = some [⟨(bytesOf Gz.nil).length + (5 + xs.length) + 8, xs, false, false⟩] := by rw [← hZ]; exact hfz
    rw [hZ] at s6 hZb hcc4 hZs HZl
    try rw [hZ]
    have hg2 := gunzip_says s6 (.slice (some ⟨g4, 0, none⟩) Z.length cc4) Z (byteRow_owns s6.row hZb) hZs n t xs.length Z.length false (by omega) (o := o) hfz2 (by simp [outs]; exact ho) ht (by simp [outs]) rfl (by simp [wrongs])
    clear hfz hfz2 hfile
    go_wp2_with fail
    refine hg2.mono ?_
    rintro e w5 ⟨ob, od, rfl, s7⟩
    have s8 := s7.newBox #[.slice ob t od, .int .i64 (xs.length : Int), .int .i64 (Z.length : Int), .bool false] 28
    clear hg2 s6 s7
    have q1 := run_string _ _ _ (Reads.of_owns (St.row (s8.front 4)))
    have q2 := run_string _ _ _ (Reads.of_owns (St.row (s8.front 1)))
    obtain ⟨so, hso⟩ : ∃ so, strOf o = so := ⟨_, rfl⟩
    rw [hso] at q1 q2
    have k0 : (w5.alloc (.cells #[.slice ob t od, .int .i64 (xs.length : Int), .int .i64 (Z.length : Int), .bool false] 28)).cell? ⟨w3.heap.size, 0, none⟩ = some (.slice oa t oc) := (St.boxAt (s8.front 3) 0).1
    have k1 : (w5.alloc (.cells #[.slice ob t od, .int .i64 (xs.length : Int), .int .i64 (Z.length : Int), .bool false] 28)).cell? ⟨w3.heap.size, 1, none⟩ = some (.int .i64 (xs.length : Int)) := (St.boxAt (s8.front 3) 1).1
    have k2 : (w5.alloc (.cells #[.slice ob t od, .int .i64 (xs.length : Int), .int .i64 (Z.length : Int), .bool false] 28)).cell? ⟨w3.heap.size, 2, none⟩ = some (.int .i64 (G.length : Int)) := (St.boxAt (s8.front 3) 2).1
    have k3 : (w5.alloc (.cells #[.slice ob t od, .int .i64 (xs.length : Int), .int .i64 (Z.length : Int), .bool false] 28)).cell? ⟨w3.heap.size, 3, none⟩ = some (.bool false) := (St.boxAt (s8.front 3) 3).1
    have k8 : (w5.alloc (.cells #[.slice ob t od, .int .i64 (xs.length : Int), .int .i64 (Z.length : Int), .bool false] 28)).cell? ⟨w.heap.size, 8, none⟩ = some (.bool g.sum) := (St.boxAt (s8.front 7) 8).1
    have hsub : (G.length : Int) - ((bytesOf g).length : Int) = (Z.length : Int) - 10 := by have a1 := HGl.out; have a2 := HZl.out; omega
    have hbel8 := s8.below hB
    obtain ⟨sm, hs⟩ : ∃ sm, g.sum = sm := ⟨_, rfl⟩
    rw [hs] at k8
    obtain ⟨j, hj⟩ : ∃ j, (bytesOf g).length - 1 = j := ⟨_, rfl⟩
    have hji : ((bytesOf g).length : Int) - 1 = (j : Int) := by omega
    have hjG : j < G.length := by have a1 := HGl.out; omega
    have hjH : j < (bytesOf g).length := by omega
    cases sm with
    | false =>
      go_wp2_with fail
      refine (opens_any _).mono ?_
      rintro e w9 ⟨rfl, hb9⟩
      go_wp2
      go_ret
      exact ⟨rfl, hbel8.trans (hb9.mono hbel8.size)⟩
    | true =>
      have c6 := (St.row (s8.front 5)).cellAt j (by omega)
      rw [u8s_get _ _ hjG] at c6
      have f6 := (St.row (s8.front 5)).frozenAt j
      obtain ⟨y, hy⟩ : ∃ y, G[j] = y := ⟨_, rfl⟩
      have hyb : y < 256 := by rw [← hy]; exact hGb _ (List.getElem_mem hjG)
      rw [hy] at c6
      obtain ⟨hxor, hy2b⟩ := xor_one y hyb
      have hfh := file_head hf hm hs xs hxb (by omega) j y hj hjH (by rw [hG, List.getElem?_eq_getElem hjG, hy])
      obtain ⟨y2, hy2⟩ : ∃ y2, y ^^^ 1 = y2 := ⟨_, rfl⟩
      rw [hG, hy2] at hfh
      rw [hy2] at hxor hy2b
      obtain ⟨u2, hfh⟩ := hfh
      have s9 := (s8.front 5).stored j (.int .u8 (y2 : Int))
      rw [← u8s_set] at s9
      have hG2l : (G.set j y2).length = G.length := List.length_set
      have hG2b : ∀ x ∈ G.set j y2, x < 256 := by
        intro x hx
        rcases List.mem_or_eq_of_mem_set hx with h | rfl
        · exact hGb x h
        · exact hy2b
      have hrow9 := byteRow_owns (xs := G.set j y2) (by rw [hG2l]; exact s9.row) hG2b
      have hg3 := gunzip_says s9 (.slice (some ⟨g2, 0, none⟩) G.length cc2) (G.set j y2) hrow9 (by rw [hG2l]; exact hGs) n t xs.length G.length true (by omega) (o := o) hfh (by simp [outs]; exact ho) ht (by simp [outs]) hG2l (by simp [wrongs])
      clear hG2l hfh hy hy2 hfile2 hj hjH hG
      have hjI : (j : Int) < (G.length : Int) := by omega
      clear hrow9
      go_wp2_with fail
      refine hg3.mono ?_
      rintro e w6 ⟨oz, od2, rfl, s10⟩
      have s11 := s10.newBox #[.slice oz t od2, .int .i64 (xs.length : Int), .int .i64 (G.length : Int), .bool true] 28
      have q3 := run_string _ _ _ (Reads.of_owns (St.row (s11.front 1)))
      have q4 := run_string _ _ _ (Reads.of_owns (St.row (s11.front 7)))
      rw [hso] at q3 q4
      have l0 : (w6.alloc (.cells #[.slice oz t od2, .int .i64 (xs.length : Int), .int .i64 (G.length : Int), .bool true] 28)).cell? ⟨w3.heap.size, 0, none⟩ = some (.slice oa t oc) := (St.boxAt (s11.front 6) 0).1
      have hbel11 := s11.below hB
      clear hg3 s8 s9 s10 c6 f6 k0 k1 k2 k3 k8 q1 q2
      go_wp2_with fail
      refine (opens_any _).mono ?_
      rintro e w12 ⟨rfl, hb12⟩
      go_wp2
      go_ret
      exact ⟨rfl, hbel11.trans (hb12.mono hbel11.size)⟩

end Go.Proofs.YtmcjbkfiipmgeaaGreat.gunzipHeads
