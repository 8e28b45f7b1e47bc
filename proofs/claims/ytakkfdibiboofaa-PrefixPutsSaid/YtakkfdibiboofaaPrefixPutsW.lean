/-
  Every Put of both orders lays the word's bits, or answers ErrArg; and Bits: the walk of PrefixPuts. No conditions.
-/
import Derived.Test.YtakkfdibiboofaaPfxS
import Derived.Test.YtakkfdibiboofaaInts
namespace Go.Proofs.Ytakkfdibiboofaa.prefixPuts
open Go.RowKit Kraft

theorem reads_prefix {w : World} {b : Nat} {a : Option Addr} {n c m : Nat} {X : List Nat} (h : w.ownsRow b 5 1 (.slice a n c) n (u8s X)) (hm : m ≤ n) : Reads w (.slice a m c) (u8s (X.take m)) ∧ n ≤ c := by
  have hl : X.length = n := by have := h.1; rw [u8s_length] at this; omega
  rcases h.2 with ⟨e, h0⟩ | ⟨g, cap, cur, e, _, _, hnc, _⟩
  · obtain ⟨rfl, rfl, rfl⟩ := Value.slice.inj e
    obtain rfl : m = 0 := by omega
    exact ⟨.inl ⟨rfl, by simp [u8s]⟩, Nat.le_refl _⟩
  · obtain ⟨rfl, -, rfl⟩ := Value.slice.inj e
    refine ⟨.inr ⟨_, c, by rw [u8s_length, List.length_take, Nat.min_eq_left (by omega)], fun j u hu => ?_⟩, hnc⟩
    refine h.cells (g := g) rfl j u ?_
    have hj : j < m := by
      have := (List.getElem?_eq_some_iff.1 hu).1
      rw [u8s_length, List.length_take] at this
      omega
    rw [← hu]
    simp [u8s, hj]

set_option maxRecDepth 100000 in
set_option maxHeartbeats 8000000 in
theorem walk (w : World) (v0 : Value) (L : List Nat) (h0 : ByteRow w v0 L) (v1 : Value) (ls : List Int) (h1 : IntRow w v1 ls) :
    Calls Try.prog 4 #[v0, v1] w fun e w' => e = .returned (.bool true) ∧ Below w.heap.size w w' := by
  have H0 := Lib.hid h0
  have H1 := Lib.hid h1
  obtain ⟨a0, cap0, rfl, hc0, hn0, -⟩ := h0
  obtain ⟨a1, cap1, rfl, hc1, hn1, -⟩ := h1
  by_cases c0 : 60 < L.length
  · go_enter Try.func4, Try.ntmps4
    go_wp2
    go_ret
    exact ⟨rfl, Below.refl _ _⟩
  by_cases c1 : 40 < ls.length
  · go_enter Try.func4, Try.ntmps4
    go_wp2
    go_ret
    exact ⟨rfl, Below.refl _ _⟩
  have d0 : decide (60 < (L.length : Int)) = false := by simp; omega
  have d1 : decide (40 < (ls.length : Int)) = false := by simp; omega
  have hnew := tnew_st (St.start w) _ L H0.out (by omega)
  go_enter Try.func4, Try.ntmps4
  go_wp2_with fail
  refine hnew.mono ?_
  rintro e w1 (⟨hE, rfl, s1⟩ | ⟨hE, tb, rfl, s1⟩)
  · have hrows := refRows_st s1 _ L (H0.out.below (s1.below (Nat.le_refl _)) (Nat.le_refl _)) (by omega)
    have hne : ((wordsErr L : Int) != 0) = true := by simpa using hE
    go_wp2_with fail
    refine hrows.mono ?_
    rintro e w2 (⟨_, rfl, s2⟩ | ⟨h, _⟩)
    case inr => exact absurd h hE
    go_wp2_with fail
    refine (puts_any w2).mono ?_
    rintro e w3 ⟨rfl, hb⟩
    go_wp2
    go_ret
    exact ⟨rfl, (s2.quiet hb).below (Nat.le_refl _)⟩
  have h20 := len_le_of (wordsErr_ok hE).1
  have hw := (wordsErr_ok hE).2
  have hrows := refRows_st s1 _ L (H0.out.below (s1.below (Nat.le_refl _)) (Nat.le_refl _)) (by omega)
  go_wp2_with fail
  refine hrows.mono ?_
  rintro e w2 (⟨h, _⟩ | ⟨_, vr, rfl, s2⟩)
  · exact absurd hE h
  have s3 := s2.newWr.mnewWr
  rw [show (w2.alloc (.cells #[.slice none 0 0, .int .i64 0] 45)).heap.size = w2.heap.size + 1 from by simp] at s3
  obtain ⟨pa, hpa⟩ : ∃ pa, w2.heap.size = pa := ⟨_, rfl⟩
  rw [hpa] at s3
  go_wp2
  generalize (w2.alloc (.cells #[.slice none 0 0, .int .i64 0] 45)).alloc (.cells #[.slice none 0 0, .int .i64 0] 47) = w3 at s3 ⊢
  clear hpa s2 s1 hnew hrows
  have sA : St w.heap.size w w3 (wrT pa [] :: tblL tb L :: Msb.wrT (pa + 1) [] :: rowsT vr (rowsOf L) :: rowT 5 1 (.slice none 0 0) ([] : List Bool).length (u8s (nats [])) :: []) := ((((s3.addNil (e := 5) (size := 1)).front 3).front 2).front 4).front 4
  obtain ⟨ar, cr, hvr⟩ : ∃ a c, vr = .slice a L.length c := by
    obtain ⟨vs, hR⟩ := s3.front 2 |>.rows
    obtain ⟨a, c, e⟩ := ownsRow_slice hR.row
    rw [rowsOf_length] at e
    exact ⟨a, c, e⟩
  subst hvr
  clear s3
  go_loopw [11, 12] (fun rv iv wr => ∃ (k : Nat) (E : List Bool), k ≤ ls.length ∧ iv = .int .i64 (k : Int) ∧ E.length ≤ 20 * k ∧ St w.heap.size w wr (wrT pa E :: tblL tb L :: Msb.wrT (pa + 1) E :: rowsT (.slice ar L.length cr) (rowsOf L) :: rowT 5 1 rv E.length (u8s (nats E)) :: [])) (fun _ iv _ => ls.length - (intOf iv).toNat)
  case atStart => exact ⟨0, [], Nat.zero_le _, rfl, Nat.le_refl _, sA⟩
  case round =>
    obtain ⟨k, E, hk, rfl, hEk, t1⟩ := hrel
    clear sA
    by_cases hlt : k < ls.length
    · obtain ⟨a1', cap1', e1, -, -, hat⟩ := H1.out.below (t1.below (Nat.le_refl _)) (Nat.le_refl _)
      obtain ⟨hx64, b1, off1, rfl, hx1⟩ := hat k hlt
      obtain ⟨rfl, -, rfl⟩ := Value.slice.inj e1
      clear hat e1
      have hxk : ∀ wx l, St w.heap.size w wx l → wx.cell? ⟨b1, off1 + k, none⟩ = some (.int .i64 ls[k]) := fun wx l tx => by
        obtain ⟨a1', cap1', e1, -, -, hat⟩ := H1.out.below (tx.below (Nat.le_refl _)) (Nat.le_refl _)
        obtain ⟨_, b1', off1', e2, hx⟩ := hat k hlt
        obtain ⟨e3, -, -⟩ := Value.slice.inj e1
        rw [← e3] at e2
        obtain ⟨rfl, rfl, -⟩ := Addr.mk.inj (Option.some.inj e2)
        exact hx
      generalize ls[k] = x at hx64 hx1 hxk
      have hE40 : E.length < 2000 := by omega
      have hlow := Low.tput_st t1 x h20 hw (by omega)
      by_cases hb0 : bitsAtSym L x = 0
      · have hpe : putErr L x = 5 := by unfold putErr; rw [if_pos hb0]
        have hwb : wordBits L x = [] := List.eq_nil_of_length_eq_zero (by rw [wordBits_length]; exact hb0)
        rw [hpe, hwb, List.append_nil] at hlow
        have hcases : x < 0 ∨ (L.length : Int) ≤ x ∨ ∃ s : Nat, x = (s : Int) ∧ s < L.length ∧ len L s = 0 := by
          by_cases hx0 : x < 0
          · exact .inl hx0
          · by_cases hxl : (L.length : Int) ≤ x
            · exact .inr (.inl hxl)
            · refine .inr (.inr ⟨x.toNat, by omega, by omega, ?_⟩)
              unfold bitsAtSym at hb0
              rw [if_neg hx0] at hb0
              exact hb0
        rcases hcases with hx0 | hxl | ⟨s, rfl, hsl, hs0⟩
        rotate_left 2
        · obtain ⟨g, cap, au, cu, ev, hcap, hcell, hbr⟩ := (t1.front 3).rowsCell s hsl
          obtain ⟨rfl, -, rfl⟩ := Value.slice.inj ev
          rw [hs0] at hcell
          clear hbr ev
          go_wp2_with fail
          refine hlow.mono ?_
          rintro e w4 ⟨rfl, t2⟩
          have hx4 := hxk w4 _ t2
          have hhigh := High.tput_st ((t2.front 1).front 2) (s : Int) h20 hw (by omega)
          rw [hpe, hwb, List.append_nil] at hhigh
          go_wp2_with fail
          refine hhigh.mono ?_
          rintro e w5 ⟨rfl, t3⟩
          have hx5 := hxk w5 _ t3
          obtain ⟨gt, mb, hT⟩ := (t3.front 1).tblHead
          have hbits := tbits_any hT (s : Int)
          rw [hb0] at hbits
          go_wp2_with fail
          refine hbits.mono ?_
          rintro e w6 ⟨rfl, rfl⟩
          clear hT hbits hlow hhigh t1 t2
          go_wp2
          exact ⟨⟨k + 1, E, by omega, by go_num, by omega, (t3.front 1).front 2⟩, by simp [intOf]; omega⟩
        · go_wp2_with fail
          refine hlow.mono ?_
          rintro e w4 ⟨rfl, t2⟩
          have hx4 := hxk w4 _ t2
          have hhigh := High.tput_st ((t2.front 1).front 2) x h20 hw (by omega)
          rw [hpe, hwb, List.append_nil] at hhigh
          go_wp2_with fail
          refine hhigh.mono ?_
          rintro e w5 ⟨rfl, t3⟩
          have hx5 := hxk w5 _ t3
          obtain ⟨gt, mb, hT⟩ := (t3.front 1).tblHead
          have hbits := tbits_any hT x
          rw [hb0] at hbits
          go_wp2_with fail
          refine hbits.mono ?_
          rintro e w6 ⟨rfl, rfl⟩
          clear hT hbits hlow hhigh t1 t2
          go_wp2
          exact ⟨⟨k + 1, E, by omega, by go_num, by omega, (t3.front 1).front 2⟩, by simp [intOf]; omega⟩
        · have hx0' : 0 ≤ x := by omega
          go_wp2_with fail
          refine hlow.mono ?_
          rintro e w4 ⟨rfl, t2⟩
          have hx4 := hxk w4 _ t2
          have hhigh := High.tput_st ((t2.front 1).front 2) x h20 hw (by omega)
          rw [hpe, hwb, List.append_nil] at hhigh
          go_wp2_with fail
          refine hhigh.mono ?_
          rintro e w5 ⟨rfl, t3⟩
          have hx5 := hxk w5 _ t3
          obtain ⟨gt, mb, hT⟩ := (t3.front 1).tblHead
          have hbits := tbits_any hT x
          rw [hb0] at hbits
          go_wp2_with fail
          refine hbits.mono ?_
          rintro e w6 ⟨rfl, rfl⟩
          clear hT hbits hlow hhigh t1 t2
          go_wp2
          exact ⟨⟨k + 1, E, by omega, by go_num, by omega, (t3.front 1).front 2⟩, by simp [intOf]; omega⟩
      · obtain ⟨s, rfl, hsl, hbs⟩ := bitsAtSym_in (Nat.pos_of_ne_zero hb0)
        have hpe : putErr L (s : Int) = 0 := by unfold putErr; rw [if_neg hb0]
        have hls : 0 < len L s := by omega
        have hls20 := h20 s
        rw [hpe] at hlow
        obtain ⟨g, cap, au, cu, ev, hcap, hcell, hbr⟩ := (t1.front 3).rowsCell s hsl
        obtain ⟨rfl, -, rfl⟩ := Value.slice.inj ev
        clear ev
        have hwl : (wordBits L (s : Int)).length = len L s := by rw [wordBits_length]; exact hbs
        have t2 := t1.front 4
        have HW := Lib.hid hwl
        have HBR := Lib.hid hbr
        clear hwl hbr
        go_wp2_with (at_builtin; refine wpList_append_bytes rfl _ _ rfl t2 HBR.out rfl rfl (by rw [nats_length, HW.out]; omega) ?_)
        intro v4 w4 t3 _ _
        rw [nats_length, HW.out] at t3
        obtain ⟨g', cap', au', cu', ev, -, hcell4, -⟩ := (t3.front 4).rowsCell s hsl
        obtain ⟨e1, -, e2⟩ := Value.slice.inj ev
        obtain ⟨rfl, -⟩ := Addr.mk.inj (Option.some.inj e1)
        have hx4 := hxk w4 _ t3
        have t4 : St w.heap.size w w4 (wrT pa E :: tblL tb L :: Msb.wrT (pa + 1) E :: rowsT (.slice (some ⟨g, 0, none⟩) L.length cr) (rowsOf L) :: rowT 5 1 v4 (E.length + len L s) (u8s (nats (E ++ wordBits L (s : Int)))) :: []) := by
          rw [nats_append, u8s_append]
          exact (((t3.front 4).front 4).front 4).front 4
        have hlow := Low.tput_st t4 (s : Int) h20 hw (by omega)
        rw [hpe] at hlow
        clear t3 t2 t1 ev e1 e2 hcell hx1
        go_wp2_with fail
        refine hlow.mono ?_
        rintro e w5 ⟨rfl, t5⟩
        have hx5 := hxk w5 _ t5
        have hhigh := High.tput_st ((t5.front 1).front 2) (s : Int) h20 hw (by omega)
        rw [hpe] at hhigh
        go_wp2_with fail
        refine hhigh.mono ?_
        rintro e w6 ⟨rfl, t6⟩
        have hx6 := hxk w6 _ t6
        obtain ⟨gt, mb, hT⟩ := (t6.front 1).tblHead
        have hbits := tbits_any hT (s : Int)
        rw [hbs] at hbits
        go_wp2_with fail
        refine hbits.mono ?_
        rintro e w7 ⟨rfl, rfl⟩
        have t7 : St w.heap.size w w6 (wrT pa (E ++ wordBits L (s : Int)) :: tblL tb L :: Msb.wrT (pa + 1) (E ++ wordBits L (s : Int)) :: rowsT (.slice (some ⟨g, 0, none⟩) L.length cr) (rowsOf L) :: rowT 5 1 v4 (E ++ wordBits L (s : Int)).length (u8s (nats (E ++ wordBits L (s : Int)))) :: []) := by
          have eL : (E ++ wordBits L (s : Int)).length = E.length + len L s := by rw [List.length_append, HW.out]
          rw [eL]
          exact (t6.front 1).front 2
        clear hT hbits hlow hhigh t4 t5 t6
        go_wp2
        exact ⟨⟨k + 1, E ++ wordBits L (s : Int), by omega, by go_num, by rw [List.length_append, HW.out]; omega, t7⟩, by simp [intOf]; omega⟩
    · obtain rfl : k = ls.length := by omega
      have hE2 : E.length ≤ 800 := by omega
      have hpk : (pk E).length ≤ 1000 := by rw [pk_length]; omega
      have hmpk : (Msb.pk E).length ≤ 1000 := by rw [Msb.pk_length]; omega
      obtain ⟨re, ce, rfl⟩ := ownsRow_slice (t1.front 4).row
      go_wp2_with fail
      refine (bytes_st t1 (by omega)).mono ?_
      rintro e w4 ⟨v4, rfl, t2⟩
      have hb4 := byteRow_owns t2.row (pk_lt _)
      go_wp2_with fail
      refine (bits_st t2 v4 (pk E) hb4 true (by omega)).mono ?_
      rintro e w5 ⟨vc, rfl, t3⟩
      have hEC : E.length ≤ (nats (bitsBoth (pk E) true)).length := by
        rw [nats_length]
        unfold bitsBoth
        rw [rest_length, pk_length]
        omega
      have hC := bitsBoth_low E
      generalize bitsBoth (pk E) true = C at t3 hEC hC
      have t4 : St w.heap.size w w5 (Msb.wrT (pa + 1) E :: rowT 5 1 vc (nats C).length (u8s (nats C)) :: wrT pa E :: rowT 5 1 (.slice re E.length ce) E.length (u8s (nats E)) :: []) := ((((t3.front 1).drop.front 4).drop.front 2).drop.front 2)
      go_wp2_with fail
      refine (Msb.bytes_st t4 (by omega)).mono ?_
      rintro e w6 ⟨v6, rfl, t5⟩
      have hb6 := byteRow_owns t5.row (Msb.pk_lt _)
      go_wp2_with fail
      refine (bits_st t5 v6 (Msb.pk E) hb6 false (by omega)).mono ?_
      rintro e w7 ⟨vd, rfl, t6⟩
      have hED : E.length ≤ (nats (bitsBoth (Msb.pk E) false)).length := by
        rw [nats_length]
        unfold bitsBoth
        rw [rest_length, Msb.pk_length]
        omega
      have hD := bitsBoth_high E
      generalize bitsBoth (Msb.pk E) false = D at t6 hED hD
      clear t1 t2 t3 t4 t5 hb4 hb6
      obtain ⟨ac, cc, rfl⟩ := ownsRow_slice (t6.front 3).row
      obtain ⟨ad, cd, rfl⟩ := ownsRow_slice t6.row
      obtain ⟨rC, hcc⟩ := reads_prefix (t6.front 3).row hEC
      obtain ⟨rD, hcd⟩ := reads_prefix t6.row hED
      have rE := Reads.of_owns (t6.front 5).row
      rw [show (nats C).take E.length = nats E from by unfold nats; rw [← List.map_take, hC]] at rC
      rw [show (nats D).take E.length = nats E from by unfold nats; rw [← List.map_take, hD]] at rD
      generalize (nats C).length = nC at *
      generalize (nats D).length = nD at *
      generalize hnE : E.length = nE at *
      have HNE := Lib.hid hnE
      clear hnE hC hD
      go_wp2
      have HT := Lib.hid t6.drew
      have sC := run_string w7.drew _ _ rC
      have sD := run_string w7.drew _ _ rD
      have sE := run_string w7.drew _ _ rE
      clear rC rD rE t6
      refine region_seg (by kernel_rfl) [1] 47 rfl (by kernel_rfl) (by kernel_rfl) (fun _ _ d _ _ h => by cases d <;> exact h) ?_
      generalize w7.drew = wd at *
      intro K1 hK1
      simp only [pickL, List.getElem?_cons_zero, List.getElem?_cons_succ]
      go_wp2_with fail
      refine wpAny_take (i := 2) (v := .int .i64 (nE : Int)) rfl (by kernel_rfl) (by kernel_rfl) (by kernel_rfl) (fun _ _ _ h => h) (.inl ⟨rfl, fun w => by go_simp; try (intro hh; exfalso; omega)⟩) ?_
      have hla := len_st (HT.out.front 4)
      have hlb := Msb.len_st (HT.out.front 2)
      rw [HNE.out] at hla hlb
      have hputs := puts_any wd
      refine mid_seg [0, 3, 4, 6] 42 (by kernel_rfl) (by kernel_rfl) (fun _ _ d _ _ h => by cases d <;> exact h) ?_
      intro K2 hK2
      simp only [pickL, List.getElem?_cons_zero, List.getElem?_cons_succ]
      go_wp2_with fail
      refine hla.mono ?_
      rintro e w8 ⟨rfl, rfl⟩
      go_wp2_with fail
      refine wpAny_take (i := 7) (v := .int .i64 (nE : Int)) rfl (by kernel_rfl) (by kernel_rfl) (by kernel_rfl) (fun _ _ _ h => h) (.inl ⟨rfl, fun w => by go_simp; try (intro hh; exfalso; omega)⟩) ?_
      refine mid_seg [5, 8, 9, 10, 11, 13] 35 (by kernel_rfl) (by kernel_rfl) (fun _ _ d _ _ h => by cases d <;> exact h) ?_
      intro K3 hK3
      simp only [pickL, List.getElem?_cons_zero, List.getElem?_cons_succ]
      go_wp2_with fail
      refine hlb.mono ?_
      rintro e w8 ⟨rfl, rfl⟩
      go_wp2_with fail
      refine wpAny_take (i := 12) (v := .int .i64 (nC : Int)) rfl (by kernel_rfl) (by kernel_rfl) (by kernel_rfl) (fun _ _ _ h => h) (.inl ⟨rfl, fun w => by go_simp; try (intro hh; exfalso; omega)⟩) ?_
      refine wpAny_take (i := 14) (v := .int .i64 (nE : Int)) rfl (by kernel_rfl) (by kernel_rfl) (by kernel_rfl) (fun _ _ _ h => h) (.inl ⟨rfl, fun w => by go_simp; try (intro hh; exfalso; omega)⟩) ?_
      refine mid_seg [15, 16, 17, 18, 20] 28 (by kernel_rfl) (by kernel_rfl) (fun _ _ d _ _ h => by cases d <;> exact h) ?_
      intro K4 hK4
      simp only [pickL, List.getElem?_cons_zero, List.getElem?_cons_succ]
      go_wp2_with fail
      refine wpAny_take (i := 19) (v := .int .i64 (nD : Int)) rfl (by kernel_rfl) (by kernel_rfl) (by kernel_rfl) (fun _ _ _ h => h) (.inl ⟨rfl, fun w => by go_simp; try (intro hh; exfalso; omega)⟩) ?_
      refine wpAny_take (i := 21) (v := .int .i64 (nE : Int)) rfl (by kernel_rfl) (by kernel_rfl) (by kernel_rfl) (fun _ _ _ h => h) (.inl ⟨rfl, fun w => by go_simp; try (intro hh; exfalso; omega)⟩) ?_
      refine mid_seg [22, 23, 24, 25, 26, 30] 20 (by kernel_rfl) (by kernel_rfl) (fun _ _ d _ _ h => by cases d <;> exact h) ?_
      intro K5 hK5
      simp only [pickL, List.getElem?_cons_zero, List.getElem?_cons_succ]
      go_wp2_with fail
      refine wpAny_take (i := 27) (v := .int .i64 (nE : Int)) rfl (by kernel_rfl) (by kernel_rfl) (by kernel_rfl) (fun _ _ _ h => h) (.inl ⟨rfl, fun w => by go_simp; try (intro hh; exfalso; omega)⟩) ?_
      refine wpAny_take (i := 28) (v := .slice ac nE cc) rfl (by kernel_rfl) (by kernel_rfl) (by kernel_rfl) (fun _ _ _ h => h) (.inl ⟨rfl, fun w => by go_simp; try (intro hh; exfalso; omega)⟩) ?_
      refine mid_two 29 31 [31, 32, 33, 34, 35, 36, 40] [29, 32, 33, 34, 35, 36, 40] 10 _ _ (by kernel_rfl) rfl rfl rfl (by kernel_rfl) (by kernel_rfl) (by kernel_rfl) (by kernel_rfl) (fun _ _ d _ _ h => by cases d <;> exact h) ?_ ?_
      all_goals
        intro Ka hKa
        simp only [pickL, List.getElem?_cons_zero, List.getElem?_cons_succ]
        go_wp2_with fail
        refine wpAny_take (i := 37) (v := .int .i64 (nE : Int)) rfl (by kernel_rfl) (by kernel_rfl) (by kernel_rfl) (fun _ _ _ h => h) (.inl ⟨rfl, fun w => by go_simp; try (intro hh; exfalso; omega)⟩) ?_
        refine wpAny_take (i := 38) (v := .slice ad nE cd) rfl (by kernel_rfl) (by kernel_rfl) (by kernel_rfl) (fun _ _ _ h => h) (.inl ⟨rfl, fun w => by go_simp; try (intro hh; exfalso; omega)⟩) ?_
        refine mid_two 39 41 [41, 42, 43, 44, 45, 46, 47] [39, 42, 43, 44, 45, 46, 47] 0 _ _ (by kernel_rfl) rfl rfl rfl (by kernel_rfl) (by kernel_rfl) (by kernel_rfl) (by kernel_rfl) (fun _ _ d _ _ h => by cases d <;> exact h) ?_ ?_
        all_goals
          intro Kb hKb
          simp only [pickL, List.getElem?_cons_zero, List.getElem?_cons_succ]
          go_wp2_with fail
          refine hputs.mono ?_
          rintro e w8 ⟨rfl, hb⟩
          go_wp2_with fail
          refine wpAny_done (by kernel_rfl) ?_ 0
          go_wp2
          go_ret
          exact ⟨rfl, (HT.out.quiet hb).below (Nat.le_refl _)⟩

end Go.Proofs.Ytakkfdibiboofaa.prefixPuts
