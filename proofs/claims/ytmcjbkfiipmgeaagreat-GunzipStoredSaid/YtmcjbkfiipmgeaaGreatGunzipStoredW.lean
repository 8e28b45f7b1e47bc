/-
  Members of any bytes say them; a tail's bit that turned is told: the walk of GunzipStored. No conditions.
-/
import Derived.Test.YtmcjbkfiipmgeaaGreatGzT
import Derived.Test.YtmcjbkfiipmgeaaGreatGzL
namespace Go.Proofs.YtmcjbkfiipmgeaaGreat.gunzipStored
open Go.RowKit Kraft Hd Inf Fr Gu

theorem u8_nat {v : Int} (hv : (Lit.int .u8 v).wf = true) : ∃ x : Nat, v = (x : Int) ∧ x < 256 := by
  simp only [Lit.wf, Bool.and_eq_true, decide_eq_true_eq] at hv
  have h1 : IntKind.u8.min = 0 := rfl
  have h2 : IntKind.u8.max = 255 := rfl
  rw [h1, h2] at hv
  exact ⟨v.toNat, by omega, by omega⟩

theorem stored_one (g : Gz) (b : List Nat) : [b].flatMap (Gu.stored g) = Gu.stored g b := by simp

theorem bytes_len (h : Gz) : (bytesOf h).length ≤ 16 + h.extra.length + h.name.length + h.comment.length := by
  have p0 : ∀ a, (Fr.part h 0 a).length = 3 := fun a => rfl
  have p1 : ∀ a, (Fr.part h 1 a).length = 1 := fun a => rfl
  have p2 : ∀ a, (Fr.part h 2 a).length = 4 := fun a => le_length _ _
  have p3 : ∀ a, (Fr.part h 3 a).length = 1 := fun a => rfl
  have p4 : ∀ a, (Fr.part h 4 a).length = 1 := fun a => rfl
  have p5 : ∀ a, (Fr.part h 5 a).length ≤ 2 + h.extra.length := by
    intro a
    unfold Fr.part
    simp only
    split
    · rw [List.length_append, le_length]; omega
    · simp
  have p6 : ∀ a, (Fr.part h 6 a).length ≤ 1 + h.name.length := by
    intro a
    unfold Fr.part
    simp only
    split
    · rw [List.length_append]; simp; omega
    · simp
  have p7 : ∀ a, (Fr.part h 7 a).length ≤ 1 + h.comment.length := by
    intro a
    unfold Fr.part
    simp only
    split
    · rw [List.length_append]; simp; omega
    · simp
  have p8 : ∀ a, (Fr.part h 8 a).length ≤ 2 := by
    intro a
    unfold Fr.part
    simp only
    split
    · rw [le_length]; omega
    · simp
  have l1 : (laid h 1).length = 3 := by show (laid h 0 ++ Fr.part h 0 _).length = 3; rw [List.length_append, p0]; rfl
  have l2 : (laid h 2).length = 4 := by show (laid h 1 ++ Fr.part h 1 _).length = 4; rw [List.length_append, p1, l1]
  have l3 : (laid h 3).length = 8 := by show (laid h 2 ++ Fr.part h 2 _).length = 8; rw [List.length_append, p2, l2]
  have l4 : (laid h 4).length = 9 := by show (laid h 3 ++ Fr.part h 3 _).length = 9; rw [List.length_append, p3, l3]
  have l5 : (laid h 5).length = 10 := by show (laid h 4 ++ Fr.part h 4 _).length = 10; rw [List.length_append, p4, l4]
  have st : ∀ k, (laid h (k + 1)).length = (laid h k).length + (Fr.part h k (laid h k)).length := fun k => List.length_append
  have s6 := st 5
  have s7 := st 6
  have s8 := st 7
  have s9 := st 8
  have q5 := p5 (laid h 5)
  have q6 := p6 (laid h 6)
  have q7 := p7 (laid h 7)
  have q8 := p8 (laid h 8)
  simp only [Nat.reduceAdd] at s6 s7 s8 s9
  show (laid h 9).length ≤ _
  omega

theorem xor_bit (x e : Nat) (hx : x < 256) (he : e < 8) : bits .xor .u8 (x : Int) ((2 ^ e : Nat) : Int) = ((x ^^^ 2 ^ e : Nat) : Int) ∧ x ^^^ 2 ^ e < 256 ∧ x ^^^ 2 ^ e ≠ x := by
  have : ∀ e : Nat, e < 8 → ∀ x : Nat, x < 256 → bits .xor .u8 (x : Int) ((2 ^ e : Nat) : Int) = ((x ^^^ 2 ^ e : Nat) : Int) ∧ x ^^^ 2 ^ e < 256 ∧ x ^^^ 2 ^ e ≠ x := by decide +kernel
  exact this e he x hx

/-- One byte of the last tail is another one. -/
theorem file_turn {g : Gz} (hf : Fits g) (hm : Fr.may g = true) (li : List (List Nat)) (b : List Nat) (hl : ∀ c ∈ li ++ [b], (∀ x ∈ c, x < 256) ∧ c.length ≤ 65535) (j y y2 : Nat) (hj : j < 8) (G : List Nat) (hG : (li ++ [b]).flatMap (Gu.stored g) = G)
    (hy : G[G.length - 1 - j]? = some y) (hne : y2 ≠ y) : ∃ ns, file (G.set (G.length - 1 - j) y2) = some ns ∧ outs ns = (li ++ [b]).flatten ∧ (ns.any fun m => m.head || m.tail) = true := by
  have e1 : G = (li.flatMap (Gu.stored g) ++ (bytesOf g ++ lastBytes b)) ++ tailOf b := by
    rw [← hG, List.flatMap_append, stored_one]
    unfold Gu.stored
    simp only [List.append_assoc]
  have hlen : G.length = (li.flatMap (Gu.stored g) ++ (bytesOf g ++ lastBytes b)).length + 8 := by rw [e1, List.length_append, tailOf_length]
  obtain ⟨P, hP⟩ : ∃ P, li.flatMap (Gu.stored g) ++ (bytesOf g ++ lastBytes b) = P := ⟨_, rfl⟩
  rw [hP] at e1 hlen
  have hp : G.length - 1 - j = P.length + (7 - j) := by omega
  have ht : (tailOf b)[7 - j]? = some y := by
    rw [hp, e1, List.getElem?_append_right (by omega), Nat.add_sub_cancel_left] at hy
    exact hy
  have hset : G.set (G.length - 1 - j) y2 = li.flatMap (Gu.stored g) ++ (bytesOf g ++ (lastBytes b ++ (tailOf b).set (7 - j) y2)) := by
    rw [hp, e1, List.set_append_right _ _ (by omega), Nat.add_sub_cancel_left, ← hP]
    simp only [List.append_assoc]
  have hnt : tailOf b ≠ (tailOf b).set (7 - j) y2 := by
    intro e
    have h9 := ht
    rw [e, List.getElem?_set_self (by rw [tailOf_length]; omega)] at h9
    exact hne (Option.some.inj h9)
  refine ⟨_, by rw [hset]; exact file_tail hf hm li b _ (by rw [List.length_set, tailOf_length]) hnt hl, ?_, ?_⟩
  · rw [outs_app, outs_stored]
    simp [outs]
  · rw [List.any_append]
    simp

set_option maxRecDepth 100000 in
set_option maxHeartbeats 16000000 in
theorem walk (w : World) (v0 : Value) (l : List (List Nat)) (h0 : Gu.RowsIn w v0 l) (v1 : Value) (g : Gz) (h1 : HeadIn w v1 g) (tk : Int) (htk : (Lit.int .u8 tk).wf = true) :
    Calls Tryz.prog 5 #[v0, v1, .int .u8 tk] w fun e w' => e = .returned (.bool true) ∧ Below w.heap.size w w' := by
  have hB := Nat.le_refl w.heap.size
  obtain ⟨tn, rfl, htn⟩ := u8_nat htk
  clear htk
  obtain ⟨ev, rfl, hrow, hf⟩ := h1
  have HE := Lib.hid (fun W (hb : Below w.heap.size w W) => hrow.below hb hB)
  have HL := Lib.hid (fun W (hb : Below w.heap.size w W) => h0.below hb hB)
  obtain ⟨ea, ec, rfl, -⟩ := hrow
  obtain ⟨la, lc, rfl, hlc, -⟩ := h0
  have s1 := (St.start w).newBox (headC g (.slice ea g.extra.length ec)) 52
  obtain ⟨k0, k1, k2, k3, k4, k5, k6, k7, k8⟩ := headAt s1
  have hbel1 := s1.below hB
  have hsn : (strOf g.name).size = g.name.length := Fr.strOf_size _
  have hsc : (strOf g.comment).size = g.comment.length := Fr.strOf_size _
  by_cases c0 : l.length < 1
  · go_enter Tryz.func5, Tryz.ntmps5
    go_wp2_with (go_at_call 20; refine (opens_any _).mono ?_; rintro e w9 ⟨rfl, hb9⟩)
    go_ret
    exact ⟨rfl, hbel1.trans (hb9.mono hbel1.size)⟩
  by_cases c1 : 8 < l.length
  · go_enter Tryz.func5, Tryz.ntmps5
    go_wp2_with (go_at_call 20; refine (opens_any _).mono ?_; rintro e w9 ⟨rfl, hb9⟩)
    go_ret
    exact ⟨rfl, hbel1.trans (hb9.mono hbel1.size)⟩
  by_cases c2 : 1000 < g.extra.length
  · go_enter Tryz.func5, Tryz.ntmps5
    go_wp2_with (go_at_call 20; refine (opens_any _).mono ?_; rintro e w9 ⟨rfl, hb9⟩)
    go_ret
    exact ⟨rfl, hbel1.trans (hb9.mono hbel1.size)⟩
  by_cases c3 : 1000 < g.name.length
  · go_enter Tryz.func5, Tryz.ntmps5
    go_wp2_with (go_at_call 20; refine (opens_any _).mono ?_; rintro e w9 ⟨rfl, hb9⟩)
    go_ret
    exact ⟨rfl, hbel1.trans (hb9.mono hbel1.size)⟩
  by_cases c4 : 1000 < g.comment.length
  · go_enter Tryz.func5, Tryz.ntmps5
    go_wp2_with (go_at_call 20; refine (opens_any _).mono ?_; rintro e w9 ⟨rfl, hb9⟩)
    go_ret
    exact ⟨rfl, hbel1.trans (hb9.mono hbel1.size)⟩
  have hput := Fr.put_st s1 hf (ev := .slice ea g.extra.length ec) (fun W s => HE.out W (s.below hB)) (by omega) (by omega) (by omega)
  go_enter Tryz.func5, Tryz.ntmps5
  go_wp2_with fail
  refine hput.mono ?_
  rintro e w1 (⟨hm, v, rfl, s2⟩ | ⟨hm, rfl, s2⟩)
  rotate_left
  · have hb2 := s2.below hB
    go_wp2_with fail
    refine (opens_any _).mono ?_
    rintro e w3 ⟨rfl, hb3⟩
    go_wp2
    go_ret
    exact ⟨rfl, hb2.trans (hb3.mono hb2.size)⟩
  · clear k0 k1 k2 k3 k4 k5 k6 k7 k8 hput s1 hbel1
    obtain ⟨a1, cc1, rfl⟩ := ownsRow_slice s2.row
    have s3 := (s2.addNil (e := 5) (size := 1)).addNil (e := 5) (size := 1)
    go_wp2_with fail
    go_loopw [9, 10, 11] (fun gv wv iv wr => ∃ (k : Nat) (G Y : List Nat) (ga wa : Option Addr) (gc wc : Nat), k ≤ l.length ∧ gv = .slice ga G.length gc ∧ wv = .slice wa Y.length wc ∧ iv = .int .i64 (k : Int) ∧ Hid ((l.take k).flatMap (Gu.stored g) = G ∧ (l.take k).flatten = Y ∧ G.length ≤ k * 6100 ∧ Y.length ≤ k * 3000) ∧ Hid (∀ b ∈ l.take k, (∀ x ∈ b, x < 256) ∧ b.length ≤ 3000) ∧
      St w.heap.size w wr (rowT 5 1 gv G.length (u8s G) :: rowT 5 1 wv Y.length (u8s Y) :: boxT w.heap.size (headC g (.slice ea g.extra.length ec)) 52 :: []))
      (fun _ _ iv _ => l.length - (intOf iv).toNat)
    case atStart =>
      refine ⟨0, [], [], none, none, 0, 0, Nat.zero_le _, rfl, rfl, rfl, Lib.hid ⟨rfl, rfl, by simp, by simp⟩, Lib.hid (by simp), ?_⟩
      exact ((s3.front 2).drop)
    case round =>
      obtain ⟨k, G, Y, ga, wa, gc, wc, hk, rfl, rfl, rfl, hGY, hall, st⟩ := hrel
      clear s2 s3
      by_cases hlt : k < l.length
      · obtain ⟨x, hx⟩ : ∃ x, l[k] = x := ⟨_, rfl⟩
        have hcell : ∀ W, Below w.heap.size w W → ∃ b0 off xa xc, la = some ⟨b0, off, none⟩ ∧ W.cell? ⟨b0, off + k, none⟩ = some (.slice xa x.length xc) ∧ ByteRow W (.slice xa x.length xc) x := by
          intro W hW
          obtain ⟨a', cap', e, -, -, hat⟩ := HL.out W hW
          obtain ⟨rfl, -, rfl⟩ := Value.slice.inj e
          obtain ⟨b0, off, c, e1, e2, e3⟩ := hat k hlt
          rw [hx] at e3
          obtain ⟨xa, xc, rfl, -⟩ := id e3
          exact ⟨b0, off, xa, xc, e1, e2, e3⟩
        obtain ⟨b0, off, xa, xc, rfl, cx, hrowx⟩ := hcell wr (st.below hB)
        have hcx : ∀ W, Below w.heap.size w W → W.cell? ⟨b0, off + k, none⟩ = some (.slice xa x.length xc) ∧ ByteRow W (.slice xa x.length xc) x := by
          intro W hW
          obtain ⟨b2, off2, xa2, xc2, e1, e2, e3⟩ := hcell W hW
          obtain ⟨rfl, rfl⟩ : b0 = b2 ∧ off = off2 := by simpa using e1
          have h1 := hcell (w) (Below.refl _ _)
          obtain ⟨b3, off3, xa3, xc3, e4, e5, e6⟩ := h1
          obtain ⟨rfl, rfl⟩ : b0 = b3 ∧ off = off3 := by simpa using e4
          have hlt3 := World.block_lt_of_cell? w _ e5
          have e7 := (hW.cell (p := ⟨b0, off + k, none⟩) hlt3).trans e5
          have e8 := ((st.below hB).cell (p := ⟨b0, off + k, none⟩) hlt3).trans e5
          rw [cx] at e8
          rw [e2] at e7
          rw [← Option.some.inj e8] at e7
          obtain ⟨rfl, -, rfl⟩ := Value.slice.inj (Option.some.inj e7)
          exact ⟨e2, e3⟩
        have hxb := hrowx.byte
        clear hcell
        by_cases hb : 3000 < x.length
        · have hbel := st.below hB
          go_wp2_with fail
          refine (opens_any _).mono ?_
          rintro e w9 ⟨rfl, hb9⟩
          go_wp2
          go_ret
          exact ⟨rfl, hbel.trans (hb9.mono hbel.size)⟩
        · have hbx : ¬ (3000 : Int) < (x.length : Int) := by omega
          have hlk : (k : Int) < (l.length : Int) := by omega
          have hGb : G.length ≤ 48800 ∧ Y.length ≤ 30000 := by
            have h9 := hGY.out.2.2
            have h8 : k * 6100 ≤ 8 * 6100 := Nat.mul_le_mul_right _ (by omega)
            have h7 : k * 3000 ≤ 8 * 3000 := Nat.mul_le_mul_right _ (by omega)
            omega
          obtain ⟨hGb, hYb⟩ := hGb
          go_wp2_with fail
          have hS : ∀ W T, St w.heap.size w W (boxT w.heap.size (headC g (.slice ea g.extra.length ec)) 52 :: T) → W.cell? ⟨b0, off + k, none⟩ = some (.slice xa x.length xc) ∧ W.cell? ⟨w.heap.size, 0, none⟩ = some (.bool g.text) ∧ W.cell? ⟨w.heap.size, 1, none⟩ = some (.int .u32 (g.time : Int)) ∧ W.cell? ⟨w.heap.size, 2, none⟩ = some (.int .u8 (g.xfl : Int)) ∧ W.cell? ⟨w.heap.size, 3, none⟩ = some (.int .u8 (g.os : Int)) ∧ W.cell? ⟨w.heap.size, 4, none⟩ = some (.slice ea g.extra.length ec) ∧ W.cell? ⟨w.heap.size, 5, none⟩ = some (.string (strOf g.name)) ∧ W.cell? ⟨w.heap.size, 6, none⟩ = some (.string (strOf g.comment)) ∧ W.cell? ⟨w.heap.size, 7, none⟩ = some (.int .u8 (g.has : Int)) ∧ W.cell? ⟨w.heap.size, 8, none⟩ = some (.bool g.sum) :=
            fun W T t => ⟨(hcx W (t.below hB)).1, headAt t⟩
          refine region_seg (by kernel_rfl) [0, 2, 3] 6 rfl (by kernel_rfl) (by kernel_rfl) (fun _ _ d _ _ h => by cases d <;> exact h) ?_
          have sd := st.drew.front 2
          clear cx
          generalize wr.drew = wd at *
          intro K hK
          simp only [pickL, List.getElem?_cons_zero, List.getElem?_cons_succ]
          go_wp2_with fail
          try clear hK K
          refine wpAny_of_held (S := fun W => ∃ T, St w.heap.size w W (boxT w.heap.size (headC g (.slice ea g.extra.length ec)) 52 :: T)) _ _ _ _ ?_
          refine wpAnyH_take (i := 1) (v := .agg (headC g (.slice ea g.extra.length ec))) rfl (by kernel_rfl) (by kernel_rfl) (by kernel_rfl) (fun _ _ _ h => h) (.inl ⟨by kernel_rfl, fun W hW => by obtain ⟨T, t⟩ := hW; obtain ⟨q, k0, k1, k2, k3, k4, k5, k6, k7, k8⟩ := hS W T t; go_simp; try simp⟩) ⟨_, sd⟩ ?_
          refine wpAnyH_take (i := 4) (v := .pointer (some ⟨b0, off + k, none⟩)) rfl (by kernel_rfl) (by kernel_rfl) (by kernel_rfl) (fun _ _ _ h => h) (.inl ⟨by kernel_rfl, fun W hW => by go_simp; try simp⟩) ⟨_, sd⟩ ?_
          refine wpAnyH_take (i := 5) (v := .slice xa x.length xc) rfl (by kernel_rfl) (by kernel_rfl) (by kernel_rfl) (fun _ _ _ h => h) (.inl ⟨by kernel_rfl, fun W hW => by obtain ⟨T, t⟩ := hW; obtain ⟨q, k0, k1, k2, k3, k4, k5, k6, k7, k8⟩ := hS W T t; go_simp; try simp⟩) ⟨_, sd⟩ ?_
          have hst := stored_st sd hf hm (.slice ea g.extra.length ec) (fun W s => HE.out W (s.below hB)) (by omega) (by omega) (by omega) (.slice xa x.length xc) x (fun W s => (hcx W (s.below hB)).2) (by omega)
          have hXl := stored_length g x
          have hHl := bytes_len g
          have hXs : (Gu.stored g x).length ≤ 6100 := by omega
          have hXb := stored_byte hf hm hxb (by omega)
          obtain ⟨X, hX⟩ : ∃ X, Gu.stored g x = X := ⟨_, rfl⟩
          rw [hX] at hst hXs hXb
          have HXX := Lib.hid hX
          clear hX hXl hHl
          refine held_step (j := 6) _ (by kernel_rfl) rfl ?_
          intro N hN
          go_wp2_with fail
          refine hst.mono ?_
          rintro e w5 ⟨v5, rfl, s5⟩
          obtain ⟨a5, c5, rfl⟩ : ∃ a c, v5 = .slice a X.length c := ownsRow_slice s5.row
          go_wp2_with fail
          refine hN _ _ ⟨_, s5.swap⟩ ?_
          try clear hN N
          clear hst
          refine held_step (j := 7) _ (by kernel_rfl) rfl ?_
          intro N hN
          refine wpList_append_bytes (by kernel_rfl) _ _ rfl (s5.front 2) (byteRow_owns s5.row hXb) (by kernel_rfl) (by kernel_rfl) (by omega) ?_
          intro v6 w6 s6 _ _
          obtain ⟨a6, c6, rfl⟩ : ∃ a c, v6 = .slice a (G.length + X.length) c := ownsRow_slice s6.row
          go_wp2_with fail
          refine hN _ _ ⟨_, s6.front 2⟩ ?_
          try clear hN N
          have s7 := (s6.swap.drop).front 2
          replace s7 : St w.heap.size w w6 (rowT 5 1 (.slice wa Y.length wc) Y.length (u8s Y) :: rowT 5 1 (.slice a6 (G.length + X.length) c6) (G.length + X.length) (u8s G ++ u8s X) :: boxT w.heap.size (headC g (.slice ea g.extra.length ec)) 52 :: []) := s7
          refine held_step (j := 8) _ (by kernel_rfl) rfl ?_
          intro N hN
          go_wp2_with fail
          refine hN _ _ ⟨_, s6.front 2⟩ ?_
          try clear hN N
          clear s5 s6 sd st
          obtain ⟨cx2, hrx2⟩ := hcx w6 (s7.below hB)
          refine wpAnyH_done (by kernel_rfl) ?_ 0
          go_wp2_with (at_builtin; refine wpList_append_bytes rfl _ _ rfl s7 hrx2 rfl rfl (by omega) ?_)
          intro v8 w8 s8 _ _
          obtain ⟨a8, c8, rfl⟩ : ∃ a c, v8 = .slice a (Y.length + x.length) c := ownsRow_slice s8.row
          have hGl : (G ++ X).length = G.length + X.length := List.length_append
          have hYl : (Y ++ x).length = Y.length + x.length := List.length_append
          have htk : l.take (k + 1) = l.take k ++ [x] := by rw [List.take_succ_eq_append_getElem hlt, hx]
          have hfin : ∃ (k2 : Nat) (G2 Y2 : List Nat) (ga2 wa2 : Option Addr) (gc2 wc2 : Nat), k2 ≤ l.length ∧ Value.slice a6 (G.length + X.length) c6 = .slice ga2 G2.length gc2 ∧ Value.slice a8 (Y.length + x.length) c8 = .slice wa2 Y2.length wc2 ∧ Value.int .i64 ((k : Int) + 1) = .int .i64 (k2 : Int) ∧ Hid ((l.take k2).flatMap (Gu.stored g) = G2 ∧ (l.take k2).flatten = Y2 ∧ G2.length ≤ k2 * 6100 ∧ Y2.length ≤ k2 * 3000) ∧ Hid (∀ b ∈ l.take k2, (∀ x ∈ b, x < 256) ∧ b.length ≤ 3000) ∧
              St w.heap.size w w8 (rowT 5 1 (.slice a6 (G.length + X.length) c6) G2.length (u8s G2) :: rowT 5 1 (.slice a8 (Y.length + x.length) c8) Y2.length (u8s Y2) :: boxT w.heap.size (headC g (.slice ea g.extra.length ec)) 52 :: []) := by
            obtain ⟨e1, e2, e3, e4⟩ := hGY.out
            refine ⟨k + 1, G ++ X, Y ++ x, a6, a8, c6, c8, hlt, by rw [hGl], by rw [hYl], rfl, Lib.hid ⟨?_, ?_, ?_, ?_⟩, Lib.hid ?_, ?_⟩
            · rw [htk, List.flatMap_append, e1, stored_one, HXX.out]
            · rw [htk, List.flatten_append, e2]; simp
            · rw [hGl, Nat.succ_mul]; omega
            · rw [hYl, Nat.succ_mul]; omega
            · intro b hbm
              rw [htk] at hbm
              rcases List.mem_append.1 hbm with h9 | h9
              · exact hall.out b h9
              · obtain rfl := List.mem_singleton.1 h9
                exact ⟨hxb, by omega⟩
            · rw [hGl, hYl, u8s_append, u8s_append]
              exact s8.swap
          clear hGl hYl htk s7 s8
          go_wp2_with fail
          refine ⟨hfin, ?_⟩
          simp [intOf]
          omega
      · obtain rfl : k = l.length := by omega
        obtain ⟨e1, e2, e3, e4⟩ := hGY.out
        have hal := hall.out
        rw [List.take_length] at e1 e2 hal
        have hne : l ≠ [] := fun e => by rw [e] at c0; simp at c0
        obtain ⟨li, b, hlb⟩ : ∃ li b, l = li ++ [b] := by
          rcases List.eq_nil_or_concat l with h | ⟨li, b, h⟩
          · exact absurd h hne
          · exact ⟨li, b, by rw [h, List.concat_eq_append]⟩
        have hal2 : ∀ c ∈ li ++ [b], (∀ x ∈ c, x < 256) ∧ c.length ≤ 65535 := fun c hc => ⟨(hal c (by rw [hlb]; exact hc)).1, by have := (hal c (by rw [hlb]; exact hc)).2; omega⟩
        have hfile := file_stored hf hm l hne (fun c hc => ⟨(hal c hc).1, by have := (hal c hc).2; omega⟩)
        have hcut := file_less hf hm li b hal2
        have hG2 : (li ++ [b]).flatMap (Gu.stored g) = G := by rw [← hlb]; exact e1
        have hY2 : (li ++ [b]).flatten = Y := by rw [← hlb]; exact e2
        rw [hG2] at hcut
        rw [e1] at hfile
        have hout : outs (l.map (mem g)) = Y := by rw [outs_stored, e2]
        have hGbyte : ∀ x ∈ G, x < 256 := by
          intro x hx
          rw [← e1] at hx
          obtain ⟨c, hc, hx⟩ := List.mem_flatMap.1 hx
          exact stored_byte hf hm (hal c hc).1 (by have := (hal c hc).2; omega) x hx
        have hYbyte : ∀ x ∈ Y, x < 256 := by
          intro x hx
          rw [← e2] at hx
          obtain ⟨c, hc, hx⟩ := List.mem_flatten.1 hx
          exact (hal c hc).1 x hx
        have hGs : G.length ≤ 60000 := by
          have h8 : l.length * 6100 ≤ 8 * 6100 := Nat.mul_le_mul_right _ (by omega)
          omega
        have hYs : Y.length ≤ 30000 := by
          have h8 : l.length * 3000 ≤ 8 * 3000 := Nat.mul_le_mul_right _ (by omega)
          omega
        have hG8 : 8 < G.length := by
          rw [← hG2, List.flatMap_append, stored_one, List.length_append, stored_length]
          have := laid_ge g
          omega
        have hg1 := gunzip_says st (.slice ga G.length gc) G (byteRow_owns st.row hGbyte) hGs Y.length Y.length Y.length G.length false (by omega) (o := Y) hfile (by rw [hout, List.take_length]) rfl (by rw [hout]) rfl (by rw [wrongs_all _ _ (by rw [hout]; omega)]; exact any_stored g l)
        obtain ⟨sY, hsY⟩ : ∃ t, strOf Y = t := ⟨_, rfl⟩
        have HGY := Lib.hid (And.intro hG2 hY2)
        clear hGY hall e1 e2 e3 e4 hal hout hfile
        go_wp2_with fail
        refine hg1.mono ?_
        rintro e w2 ⟨oa, oc, rfl, s4⟩
        have s5 := s4.newBox #[.slice oa Y.length oc, .int .i64 (Y.length : Int), .int .i64 (G.length : Int), .bool false] 28
        clear hg1 st s4
        have q1 := run_string _ _ _ (Reads.of_owns (St.row (s5.front 1)))
        have q2 := run_string _ _ _ (Reads.of_owns (St.row (s5.front 3)))
        rw [hsY] at q1 q2
        obtain ⟨d, hd, hd1⟩ : ∃ d, G.length - 1 = d ∧ d + 1 = G.length := ⟨_, rfl, by omega⟩
        have hdI : (G.length : Int) - 1 = (d : Int) := by omega
        have hrowG : ByteRow _ (.slice ga G.length gc) G := byteRow_owns (St.row (s5.front 2)) hGbyte
        have hgc : G.length ≤ gc := by obtain ⟨a', c', e', hc', -⟩ := hrowG; obtain ⟨-, -, rfl⟩ := Value.slice.inj e'; exact hc'
        have hdg : (d : Int) ≤ (gc : Int) := by omega
        have hg2 := gunzip_fails s5 (.slice ga d gc) (G.take d) (byteRow_first hrowG d (by omega)) (by rw [List.length_take]; omega) Y.length (by omega) (by rw [← hd]; exact hcut)
        clear hrowG
        go_wp2_with fail
        refine hg2.mono ?_
        rintro e w3 ⟨rfl, s6⟩
        have s7 := s6.newBox #[.slice none 0 0, .int .i64 0, .int .i64 0, .bool false] 28
        clear hg2 s5 s6 q1 q2
        obtain ⟨j, hj, hj8⟩ : ∃ j, tn % 8 = j ∧ j < 8 := ⟨_, rfl, by omega⟩
        obtain ⟨q, hq, hq7⟩ : ∃ q, tn % 7 = q ∧ q < 7 := ⟨_, rfl, by omega⟩
        have hj1 : (tn : Int) % 8 = (j : Int) := by omega
        have hj2 : (tn : Int).tmod 8 = (j : Int) := by rw [Int.tmod_eq_emod_of_nonneg (by omega)]; exact hj1
        have hq1 : (tn : Int) % 7 = (q : Int) := by omega
        have hq2 : (tn : Int).tmod 7 = (q : Int) := by rw [Int.tmod_eq_emod_of_nonneg (by omega)]; exact hq1
        obtain ⟨p, hp, hpI⟩ : ∃ p, G.length - 1 - j = p ∧ (d : Int) - (j : Int) = (p : Int) := ⟨_, rfl, by omega⟩
        have hpG : p < G.length := by omega
        obtain ⟨gb, cap9, e9, -⟩ := (s7.front 3).rowShape (by omega)
        obtain ⟨rfl, -, -⟩ := Value.slice.inj e9
        have c6 := (St.row (s7.front 3)).cellAt p (by omega)
        rw [u8s_get _ _ hpG] at c6
        have f6 := (St.row (s7.front 3)).frozenAt p
        obtain ⟨y, hy⟩ : ∃ y, G[p] = y := ⟨_, rfl⟩
        have hyb : y < 256 := by rw [← hy]; exact hGbyte _ (List.getElem_mem hpG)
        rw [hy] at c6
        obtain ⟨hx1, hx2, hx3⟩ := xor_bit y q hyb (by omega)
        obtain ⟨y2, hy2⟩ : ∃ y2, y ^^^ 2 ^ q = y2 := ⟨_, rfl⟩
        rw [hy2] at hx1 hx2 hx3
        have hxor : bits .xor .u8 (y : Int) ((2 : Int) ^ q % 256) = (y2 : Int) := by
          rw [← hx1]
          congr 1
          have h2 : (2 : Nat) ^ q < 256 := Nat.pow_lt_pow_right (n := 8) (by omega) (by omega)
          have h3 : ((2 : Int) ^ q) = ((2 ^ q : Nat) : Int) := by simp
          rw [h3]
          generalize (2 : Nat) ^ q = z at h2
          omega
        obtain ⟨hG2, hY2⟩ := HGY.out
        obtain ⟨ns, hn1, hn2, hn3⟩ := file_turn hf hm li b hal2 j y y2 hj8 G hG2 (by rw [hp, List.getElem?_eq_getElem hpG, hy]) hx3
        rw [hp] at hn1
        rw [hY2] at hn2
        have s8 := (s7.front 3).stored p (.int .u8 (y2 : Int))
        rw [← u8s_set] at s8
        have hGl2 : (G.set p y2).length = G.length := List.length_set
        have hGb2 : ∀ x ∈ G.set p y2, x < 256 := by
          intro x hx
          rcases List.mem_or_eq_of_mem_set hx with h | rfl
          · exact hGbyte x h
          · exact hx2
        have hrow8 := byteRow_owns (xs := G.set p y2) (by rw [hGl2]; exact s8.row) hGb2
        have hg3 := gunzip_says s8 (.slice (some ⟨gb, 0, none⟩) G.length gc) (G.set p y2) hrow8 (by rw [hGl2]; exact hGs) Y.length Y.length Y.length G.length true (by omega) (o := Y) hn1 (by rw [hn2, List.take_length]) rfl (by rw [hn2]) hGl2 (by rw [wrongs_all _ _ (by rw [hn2]; omega)]; exact hn3)
        have hpl : (p : Int) < (G.length : Int) := by omega
        clear hrow8 hGl2 hG2 hY2 hn1 hn2 hn3 hy hy2 hp hj hq hd hd1 hal2 hcut hx1 hx3 e9 HGY hlb
        go_wp2_with fail
        refine hg3.mono ?_
        rintro e w6 ⟨oz, od, rfl, s9⟩
        have s10 := s9.newBox #[.slice oz Y.length od, .int .i64 (Y.length : Int), .int .i64 (G.length : Int), .bool true] 28
        have q3 := run_string _ _ _ (Reads.of_owns (St.row (s10.front 1)))
        have q4 := run_string _ _ _ (Reads.of_owns (St.row (s10.front 6)))
        rw [hsY] at q3 q4
        have hbel := s10.below hB
        clear hg3 s7 s8 s9 s10 c6 f6
        go_wp2_with fail
        refine (opens_any _).mono ?_
        rintro e w12 ⟨rfl, hb12⟩
        go_wp2
        go_ret
        exact ⟨rfl, hbel.trans (hb12.mono hbel.size)⟩

end Go.Proofs.YtmcjbkfiipmgeaaGreat.gunzipStored
