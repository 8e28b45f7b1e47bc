/-
  What is put is got, symbol by symbol, in both orders, whatever stands behind: the walk of PrefixBack. No conditions.
-/
import Derived.Test.YtakkfdibiboofaaPfxQ
import Derived.Test.YtakkfdibiboofaaPfxL
import Derived.Test.YtakkfdibiboofaaIntsA
namespace Go.Proofs.Ytakkfdibiboofaa.prefixBack
open Go.RowKit Kraft

/-- A slice that reads as these numbers of 16 bits. -/
def U16Row (w : World) (v : Value) (xs : List Nat) : Prop := ∃ a cap, v = .slice a xs.length cap ∧ xs.length ≤ cap ∧ (a = none → cap = 0) ∧ ∀ (i : Nat) (h : i < xs.length), xs[i] < 65536 ∧ ∃ b off, a = some ⟨b, off, none⟩ ∧ w.cell? ⟨b, off + i, none⟩ = some (.int .u16 (xs[i] : Int))

theorem U16Row.below {w w' : World} {B : Nat} {v : Value} {xs : List Nat} (h : U16Row w v xs) (hb : RowKit.Below B w w') (hB : w.heap.size ≤ B) : U16Row w' v xs := by
  obtain ⟨a, cap, h1, h2, h3, h4⟩ := h
  refine ⟨a, cap, h1, h2, h3, fun i hi => ⟨(h4 i hi).1, ?_⟩⟩
  obtain ⟨_, b, off, e, hc⟩ := h4 i hi
  have lt := World.block_lt_of_cell? w _ hc
  exact ⟨b, off, e, (hb.cell (p := ⟨b, off + i, none⟩) (Nat.lt_of_lt_of_le lt hB)).trans hc⟩

section
open Go.ChangeShapes Go.WideShapes Go.Deep
variable {H : Type} {enc : TypeId × Value → H} {W : World}

theorem open_u16s {a : Option Addr} {len cap : Nat} {d : DataW H} {p : List MemPlace} (h : DataW.Trod enc Try.prog W 0 (fun _ => true) true 55 (.slice a len cap) d p) : ∃ xs, U16Row W (.slice a len cap) xs := by
  obtain ⟨fuel, hf⟩ := h
  rcases open_ints Try.underlying55 Try.underlying56 (by kernel_rfl) hf with ⟨hcs, _⟩ | ⟨x, l, c, zs, hcs, _, hl, hm, hz, _, hcell, hwz⟩
  · simp [Value.cells] at hcs
    obtain ⟨rfl, rfl, rfl⟩ := hcs
    exact ⟨[], none, 0, rfl, by simp, fun _ => rfl, fun i hi => absurd hi (by simp)⟩
  · simp [Value.cells] at hcs
    obtain ⟨rfl, rfl, rfl⟩ := hcs
    have hz' : zs.length = cap := by simpa using hz
    have hwf : ∀ i, i < len → ∃ y : Nat, zs.getD i 0 = (y : Int) ∧ y < 65536 := by
      intro i hi
      have hmem : zs.getD i 0 ∈ zs := by rw [getD_in _ _ (by omega)]; exact List.getElem_mem _
      have h1 := hwz _ hmem
      simp only [Lit.wf, Bool.and_eq_true, decide_eq_true_eq] at h1
      have e1 : IntKind.u16.min = 0 := rfl
      have e2 : IntKind.u16.max = 65535 := rfl
      rw [e1, e2] at h1
      exact ⟨(zs.getD i 0).toNat, by omega, by omega⟩
    obtain ⟨xs, h1, h2⟩ := list_of (fun i (y : Nat) => zs.getD i 0 = (y : Int) ∧ y < 65536) len hwf
    refine ⟨xs, some x, cap, by rw [h1], by omega, (fun e => by cases e), fun i hi => ⟨(h2 i hi).2, ?_⟩⟩
    have hx : x = ⟨x.block, x.off, none⟩ := by
      have h3 := hcell 0 (by omega)
      have h4 : x.spot = none := by
        have := World.cell?_spot h3
        simpa [Addr.add] using this
      obtain ⟨b, o, s⟩ := x
      simpa using h4
    refine ⟨x.block, x.off, by rw [← hx], ?_⟩
    have h5 := hcell i (by omega)
    rw [hx, add_none] at h5
    rw [h5, (h2 i hi).1]
end

theorem enc_le {L : List Nat} (h20 : ∀ j, len L j ≤ 20) : ∀ D : List Nat, (enc L D).length ≤ 20 * D.length
  | [] => Nat.zero_le _
  | s :: D => by
    have ih := enc_le h20 D
    have := h20 s
    show (wordBits L (s : Int) ++ enc L D).length ≤ _
    rw [List.length_append, wordBits_length, bitsAtSym_nat, List.length_cons]
    omega

set_option maxRecDepth 100000 in
set_option maxHeartbeats 4000000 in
theorem walk (w : World) (v0 : Value) (L : List Nat) (h0 : ByteRow w v0 L) (v1 : Value) (ls : List Nat) (h1 : U16Row w v1 ls) (v2 : Value) (bh : List Nat) (h2 : ByteRow w v2 bh) :
    Calls Try.prog 5 #[v0, v1, v2] w fun e w' => e = .returned (.bool true) ∧ Below w.heap.size w w' := by
  have H0 := Lib.hid h0
  have H1 := Lib.hid h1
  have H2 := Lib.hid h2
  obtain ⟨a0, cap0, rfl, hc0, hn0, -⟩ := h0
  obtain ⟨a1, cap1, rfl, hc1, hn1, -⟩ := h1
  obtain ⟨a2, cap2, rfl, hc2, hn2, -⟩ := h2
  by_cases c0 : 60 < L.length
  · go_enter Try.func5, Try.ntmps5
    go_wp2
    go_ret
    exact ⟨rfl, Below.refl _ _⟩
  by_cases c1 : 200 < ls.length
  · go_enter Try.func5, Try.ntmps5
    go_wp2
    go_ret
    exact ⟨rfl, Below.refl _ _⟩
  by_cases c2 : 40 < bh.length
  · go_enter Try.func5, Try.ntmps5
    go_wp2
    go_ret
    exact ⟨rfl, Below.refl _ _⟩
  have d0 : decide (60 < (L.length : Int)) = false := by simp; omega
  have d1 : decide (200 < (ls.length : Int)) = false := by simp; omega
  have d2 : decide (40 < (bh.length : Int)) = false := by simp; omega
  have hnew := tnew_st (St.start w) _ L H0.out (by omega)
  go_enter Try.func5, Try.ntmps5
  go_wp2_with fail
  refine hnew.mono ?_
  rintro e w1 (⟨hE, rfl, s1⟩ | ⟨hE, tb, rfl, s1⟩)
  · have hne : ((wordsErr L : Int) != 0) = true := by simpa using hE
    go_wp2_with fail
    refine (puts_any w1).mono ?_
    rintro e w2 ⟨rfl, hb⟩
    go_wp2
    go_ret
    exact ⟨rfl, (s1.quiet hb).below (Nat.le_refl _)⟩
  by_cases hL0 : L.length = 0
  · go_wp2_with fail
    refine (puts_any w1).mono ?_
    rintro e w2 ⟨rfl, hb⟩
    go_wp2
    go_ret
    exact ⟨rfl, (s1.quiet hb).below (Nat.le_refl _)⟩
  have h20 := len_le_of (wordsErr_ok hE).1
  have hw := (wordsErr_ok hE).2
  have s2 := s1.newWr.mnewWr
  rw [show (w1.alloc (.cells #[.slice none 0 0, .int .i64 0] 45)).heap.size = w1.heap.size + 1 from by simp] at s2
  obtain ⟨pa, hpa⟩ : ∃ pa, w1.heap.size = pa := ⟨_, rfl⟩
  rw [hpa] at s2
  have hz : ((L.length : Int) == 0) = false := by rw [beq_eq_false_iff_ne]; omega
  go_wp2
  generalize (w1.alloc (.cells #[.slice none 0 0, .int .i64 0] 45)).alloc (.cells #[.slice none 0 0, .int .i64 0] 47) = w2 at s2 ⊢
  clear hpa s1 hnew
  have hzk : ((0 : Nat) : Int) = 0 := rfl
  have sA : St w.heap.size w w2 (wrT pa (enc L []) :: tblL tb L :: Msb.wrT (pa + 1) (enc L []) :: rowT 3 1 (.slice none 0 0) ([] : List Nat).length (i64s []) :: []) :=
    (((s2.addNil (e := 3) (size := 1)).front 1).front 3).front 3
  go_loopw [11, 12, 13] (fun dv nv iv wr => ∃ (k : Nat) (D : List Nat), k ≤ ls.length ∧ iv = .int .i64 (k : Int) ∧ D.length ≤ k ∧ (∀ s ∈ D, s < L.length ∧ 0 < len L s) ∧ nv = .int .i64 ((enc L D).length : Int) ∧ St w.heap.size w wr (wrT pa (enc L D) :: tblL tb L :: Msb.wrT (pa + 1) (enc L D) :: rowT 3 1 dv D.length (i64s D) :: [])) (fun _ _ iv _ => ls.length - (intOf iv).toNat)
  case atStart => exact ⟨0, [], by omega, rfl, Nat.le_refl _, fun s hs => absurd hs (by simp), rfl, sA⟩
  case round =>
    obtain ⟨k, D, hk, rfl, hDk, hD, rfl, t1⟩ := hrel
    have HD := Lib.hid hD
    have HDk := Lib.hid hDk
    have hel := enc_le h20 D
    clear hD sA s2
    by_cases hlt : k < ls.length
    · obtain ⟨a1', cap1', e1, -, -, hat⟩ := H1.out.below (t1.below (Nat.le_refl _)) (Nat.le_refl _)
      obtain ⟨hx16, b1, off1, rfl, hx1⟩ := hat k hlt
      obtain ⟨rfl, -, rfl⟩ := Value.slice.inj e1
      clear hat e1
      generalize ls[k] = x at hx16 hx1
      obtain ⟨s, hs⟩ : ∃ s, s = x % L.length := ⟨_, rfl⟩
      have hsl : s < L.length := by rw [hs]; exact Nat.mod_lt _ (by omega)
      have hsm : (x : Int) % (L.length : Int) = (s : Int) := by rw [hs]; rfl
      clear hs
      have hlow := Low.tput_st t1 (s : Int) h20 hw (by omega)
      have hps : putErr L (s : Int) = if len L s = 0 then 5 else 0 := by unfold putErr; rw [bitsAtSym_nat]
      obtain ⟨a0', cap0', e0, -, -, hat0⟩ := H0.out.below (t1.below (Nat.le_refl _)) (Nat.le_refl _)
      obtain ⟨hb256, b0, off0, rfl, hy0⟩ := hat0 s hsl
      obtain ⟨rfl, -, rfl⟩ := Value.slice.inj e0
      have hlen := len_get L s hsl
      clear hat0 e0
      have hwr : Below w.heap.size w wr := t1.below (Nat.le_refl _)
      by_cases hs0 : len L s = 0
      · rw [if_pos hs0] at hps
        rw [hps, wordBits_none L s hs0, List.append_nil] at hlow
        go_wp2_with fail
        refine hlow.mono ?_
        rintro e w3 ⟨rfl, t2⟩
        have hhigh := High.tput_st ((t2.front 1).front 2) (s : Int) h20 hw (by omega)
        rw [hps, wordBits_none L s hs0, List.append_nil] at hhigh
        go_wp2_with fail
        refine hhigh.mono ?_
        rintro e w4 ⟨rfl, t3⟩
        have hy4 : w4.cell? ⟨b0, off0 + s, none⟩ = some (.int .u8 0) := by
          obtain ⟨a0', cap0', e0, -, -, hat0⟩ := H0.out.below (t3.below (Nat.le_refl _)) (Nat.le_refl _)
          obtain ⟨_, b0', off0', e1, hy⟩ := hat0 s hsl
          obtain ⟨e2, -, -⟩ := Value.slice.inj e0
          rw [← e2] at e1
          obtain ⟨rfl, rfl, -⟩ := Addr.mk.inj (Option.some.inj e1)
          rw [hy, ← hlen, hs0]
          rfl
        go_wp2
        exact ⟨⟨k + 1, D, by omega, by go_num, by have := HDk.out; omega, HD.out, rfl, (t3.front 1).front 2⟩, by simp [intOf]; omega⟩
      · rw [if_neg hs0] at hps
        rw [hps] at hlow
        rw [← enc_snoc] at hlow
        go_wp2_with fail
        refine hlow.mono ?_
        rintro e w3 ⟨rfl, t2⟩
        have hhigh := High.tput_st ((t2.front 1).front 2) (s : Int) h20 hw (by omega)
        rw [hps, ← enc_snoc] at hhigh
        go_wp2_with fail
        refine hhigh.mono ?_
        rintro e w4 ⟨rfl, t3⟩
        obtain ⟨y, hy, hy4⟩ : ∃ y : Nat, y = len L s ∧ w4.cell? ⟨b0, off0 + s, none⟩ = some (.int .u8 (y : Int)) := by
          obtain ⟨a0', cap0', e0, -, -, hat0⟩ := H0.out.below (t3.below (Nat.le_refl _)) (Nat.le_refl _)
          obtain ⟨_, b0', off0', e1, hy⟩ := hat0 s hsl
          obtain ⟨e2, -, -⟩ := Value.slice.inj e0
          rw [← e2] at e1
          obtain ⟨rfl, rfl, -⟩ := Addr.mk.inj (Option.some.inj e1)
          exact ⟨L[s], hlen.symm, hy⟩
        have hy20 : y ≤ 20 := by rw [hy]; exact h20 s
        have hypos : 0 < y := by omega
        have HY := Lib.hid hy
        clear hy hlow hhigh
        obtain ⟨i0, hi, hz0, hz1, hz2⟩ := info_parts infoI
        have t4 := (t3.front 3)
        go_wp2_with (at_builtin; refine wpList_append_one rfl _ _ 43 rfl 3 i0 (.int .i64 0) 1 8 Try.underlying43 hi hz0 hz1 hz2 rfl (by decide) t4 rfl [.int .i64 (s : Int)] rfl rfl ?oneCell (by unfold maxLen; omega) (by omega) ?_)
        case oneCell => intro u hu; simp at hu; subst hu; rfl
        intro v' w5 t5
        have hy5 : w5.cell? ⟨b0, off0 + s, none⟩ = some (.int .u8 (y : Int)) := by
          obtain ⟨a0', cap0', e0, -, -, hat0⟩ := H0.out.below (t5.below (Nat.le_refl _)) (Nat.le_refl _)
          obtain ⟨_, b0', off0', e1, hy⟩ := hat0 s hsl
          obtain ⟨e2, -, -⟩ := Value.slice.inj e0
          rw [← e2] at e1
          obtain ⟨rfl, rfl, -⟩ := Addr.mk.inj (Option.some.inj e1)
          rw [hy, ← hlen, HY.out]
        have t6 : St w.heap.size w w5 (wrT pa (enc L (D ++ [s])) :: tblL tb L :: Msb.wrT (pa + 1) (enc L (D ++ [s])) :: rowT 3 1 v' (D ++ [s]).length (i64s (D ++ [s])) :: []) := by
          have e1 : i64s (D ++ [s]) = i64s D ++ [.int .i64 (s : Int)] := by simp [i64s]
          rw [e1, List.length_append]
          exact (((t5.front 1).front 2).front 3)
        clear hy4 t1 t2 t3 t4 t5 hx1 hy0
        go_wp2
        refine ⟨⟨k + 1, D ++ [s], by omega, by go_num, by have := HDk.out; simp; omega, ?_, ?_, t6⟩, by simp [intOf]; omega⟩
        · intro z hz
          rcases List.mem_append.1 hz with hz | hz
          · exact HD.out z hz
          · obtain rfl := List.mem_singleton.1 hz
            exact ⟨hsl, by omega⟩
        · rw [enc_snoc, List.length_append, wordBits_length, bitsAtSym_nat, ← HY.out]
          simp
    · obtain rfl : k = ls.length := by omega
      have hD200 : D.length ≤ 200 := by have := HDk.out; omega
      obtain ⟨ad, cd, rfl⟩ := ownsRow_slice (t1.front 3).row
      have hel2 : (enc L D).length ≤ 4000 := by omega
      have hpkl : (pk (enc L D)).length ≤ 1000 := by rw [pk_length]; omega
      have hmpkl : (Msb.pk (enc L D)).length ≤ 1000 := by rw [Msb.pk_length]; omega
      have hbh : ∀ x ∈ bh, x < 256 := H2.out.byte
      have hlo : ∀ x ∈ pk (enc L D) ++ bh, x < 256 := by
        intro x hx
        rcases List.mem_append.1 hx with hx | hx
        · exact pk_lt _ x hx
        · exact hbh x hx
      have hhi : ∀ x ∈ Msb.pk (enc L D) ++ bh, x < 256 := by
        intro x hx
        rcases List.mem_append.1 hx with hx | hx
        · exact Msb.pk_lt _ x hx
        · exact hbh x hx
      go_wp2_with fail
      refine (bytes_st t1 (by omega)).mono ?_
      rintro e w3 ⟨v3, rfl, t2⟩
      go_wp2_with (at_builtin; refine wpList_append_bytes rfl _ _ rfl t2 (H2.out.below (t2.below (Nat.le_refl _)) (Nat.le_refl _)) rfl rfl (by omega) ?_)
      intro v4 w4 t3 _ _
      rw [← u8s_append] at t3
      have hr := Reads.of_owns t3.row
      go_wp2_with fail
      refine (new_st t3 hr hlo (by rw [List.length_append]; omega)).mono ?_
      rintro e w5 ⟨qx, rfl, t4⟩
      have t5 : St w.heap.size w w5 (Msb.wrT (pa + 1) (enc L D) :: rdT qx (pk (enc L D) ++ bh) 0 :: wrT pa (enc L D) :: tblL tb L :: rowT 3 1 (.slice ad D.length cd) D.length (i64s D) :: []) := (t4.front 1).drop.front 3
      clear t1 t2 t3 t4 hr
      go_wp2_with fail
      refine (Msb.bytes_st t5 (by omega)).mono ?_
      rintro e w6 ⟨v6, rfl, t6⟩
      go_wp2_with (at_builtin; refine wpList_append_bytes rfl _ _ rfl t6 (H2.out.below (t6.below (Nat.le_refl _)) (Nat.le_refl _)) rfl rfl (by omega) ?_)
      intro v7 w7 t7 _ _
      rw [← u8s_append] at t7
      have hr := Reads.of_owns t7.row
      go_wp2_with fail
      refine (Msb.new_st t7 hr hhi (by rw [List.length_append]; omega)).mono ?_
      rintro e w8 ⟨qy, rfl, t8⟩
      have t9 : St w.heap.size w w8 (rdT qx (pk (enc L D) ++ bh) (enc L (D.take 0)).length :: tblL tb L :: Msb.rdT qy (Msb.pk (enc L D) ++ bh) (enc L (D.take 0)).length :: wrT pa (enc L D) :: Msb.wrT (pa + 1) (enc L D) :: rowT 3 1 (.slice ad D.length cd) D.length (i64s D) :: []) := (((((t8.front 1).drop.front 1).front 3).front 2).front 4).front 4
      clear t5 t6 t7 t8 hr
      go_wp2
      go_loopw [18] (fun iv wz => ∃ j : Nat, j ≤ D.length ∧ iv = .int .i64 (j : Int) ∧ St w.heap.size w wz (rdT qx (pk (enc L D) ++ bh) (enc L (D.take j)).length :: tblL tb L :: Msb.rdT qy (Msb.pk (enc L D) ++ bh) (enc L (D.take j)).length :: wrT pa (enc L D) :: Msb.wrT (pa + 1) (enc L D) :: rowT 3 1 (.slice ad D.length cd) D.length (i64s D) :: [])) (fun iv _ => D.length - (intOf iv).toNat)
      case atStart => exact ⟨0, Nat.zero_le _, rfl, t9⟩
      case round =>
        obtain ⟨j, hj, rfl, t10⟩ := hrel
        clear t9
        by_cases hlt2 : j < D.length
        · have hglow := Low.tget_st t10 h20
          rw [Low.got_enc h20 hw D HD.out bh j hlt2] at hglow
          simp only [← enc_take L D j hlt2] at hglow
          obtain ⟨g1, cap3, e3, hcap3⟩ := (t10.front 5).rowShape (by omega)
          obtain ⟨rfl, -, rfl⟩ := Value.slice.inj e3
          have hgk : ∀ wx, St w.heap.size w wx (rdT qx (pk (enc L D) ++ bh) (enc L (D.take (j + 1))).length :: tblL tb L :: Msb.rdT qy (Msb.pk (enc L D) ++ bh) (enc L (D.take (j + 1))).length :: wrT pa (enc L D) :: Msb.wrT (pa + 1) (enc L D) :: rowT 3 1 (.slice (some ⟨g1, 0, none⟩) D.length cd) D.length (i64s D) :: []) → wx.cell? ⟨g1, j, none⟩ = some (.int .i64 (D[j] : Int)) := fun wx tx => by
            rw [(tx.front 5).row.cellAt j (by omega), i64s_get _ _ hlt2]
          go_wp2_with fail
          refine hglow.mono ?_
          rintro e w9 ⟨rfl, t11⟩
          have hghigh := High.tget_st ((t11.front 1).front 2) h20
          rw [High.got_enc h20 hw D HD.out bh j hlt2] at hghigh
          simp only [← enc_take L D j hlt2] at hghigh
          go_wp2_with fail
          refine hghigh.mono ?_
          rintro e w10 ⟨rfl, t12⟩
          have t13 := (t12.front 1).front 2
          have hx13 := hgk w10 t13
          clear hgk hglow hghigh t10 t11 t12
          go_wp2
          exact ⟨⟨j + 1, by omega, by go_num, t13⟩, by simp [intOf]; omega⟩
        · obtain rfl : j = D.length := by omega
          rw [List.take_length] at t10
          go_wp2_with fail
          refine (at_st t10).mono ?_
          rintro e w9 ⟨rfl, rfl⟩
          go_wp2_with fail
          refine (Msb.at_st (t10.front 2)).mono ?_
          rintro e w9 ⟨rfl, rfl⟩
          go_wp2_with fail
          refine (len_st (t10.front 3)).mono ?_
          rintro e w9 ⟨rfl, rfl⟩
          go_wp2_with fail
          refine (Msb.len_st (t10.front 4)).mono ?_
          rintro e w9 ⟨rfl, rfl⟩
          go_wp2_with fail
          refine (puts_any wr).mono ?_
          rintro e w9 ⟨rfl, hb⟩
          go_wp2
          go_ret
          exact ⟨rfl, (t10.quiet hb).below (Nat.le_refl _)⟩

end Go.Proofs.Ytakkfdibiboofaa.prefixBack
