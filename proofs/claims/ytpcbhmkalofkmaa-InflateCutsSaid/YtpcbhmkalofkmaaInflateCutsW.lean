/-
  A beginning of a stream is none; bits behind its last one play no part: the walk of InflateCuts. No conditions.
-/
import Derived.Test.YtpcbhmkalofkmaaGR
import Derived.Test.YtpcbhmkalofkmaaInflateKeepsW
namespace Go.Proofs.Ytpcbhmkalofkmaa.inflateCuts
open Go.RowKit Kraft Hd Inf
open inflateKeeps (byteRow_cut u16_of)

theorem u8_of {mo : Int} (hmo : (Lit.int .u8 mo).wf = true) : ∃ y : Nat, mo = (y : Int) ∧ y < 256 := by
  simp only [Lit.wf, Bool.and_eq_true, decide_eq_true_eq] at hmo
  have e1 : IntKind.u8.min = 0 := rfl
  have e2 : IntKind.u8.max = 255 := rfl
  rw [e1, e2] at hmo
  exact ⟨mo.toNat, by omega, by omega⟩

theorem xor_byte (x y : Nat) (hx : x < 256) (hy : y < 256) : bits .xor .u8 (x : Int) (y : Int) = ((x ^^^ y : Nat) : Int) := by
  have hb : x ^^^ y < 2 ^ 8 := Nat.xor_lt_two_pow (n := 8) hx hy
  have key : (BitVec.ofInt 8 (x : Int) ^^^ BitVec.ofInt 8 (y : Int)).toNat = x ^^^ y := by
    rw [BitVec.toNat_xor, BitVec.toNat_ofInt, BitVec.toNat_ofInt]
    congr 1 <;> omega
  show IntKind.u8.wrap ((BitVec.ofInt 8 (x : Int) ^^^ BitVec.ofInt 8 (y : Int)).toNat : Nat) = _
  rw [key]
  simp [IntKind.wrap, IntKind.signed, IntKind.bits]
  omega

theorem shr_bit (i : Nat) (hi : i < 8) : (128 : Int) / 2 ^ i = ((2 ^ (7 - i) : Nat) : Int) := by
  have : ∀ i, i < 8 → (128 : Int) / 2 ^ i = ((2 ^ (7 - i) : Nat) : Int) := by decide
  exact this i hi

set_option maxRecDepth 100000 in
set_option maxHeartbeats 8000000 in
theorem walk (w : World) (v0 : Value) (xs : List Nat) (h0 : ByteRow w v0 xs) (kp : Int) (hkp : (Lit.int .u16 kp).wf = true) (fl : Int) (hfl : (Lit.int .u8 fl).wf = true) :
    Calls Try.prog 5 #[v0, .int .u16 kp, .int .u8 fl] w fun e w' => e = .returned (.bool true) ∧ Below w.heap.size w w' := by
  have hB := Nat.le_refl w.heap.size
  have HIN := fun W (hb : Below w.heap.size w W) => h0.below hb hB
  have hxb := h0.byte
  obtain ⟨a0, cap0, rfl, hc0, hn0, -⟩ := h0
  obtain ⟨kp, rfl, hkl⟩ := u16_of hkp
  obtain ⟨fl, rfl, hfb⟩ := u8_of hfl
  clear hkp hfl
  by_cases c0 : 500 < xs.length
  · go_enter Try.func5, Try.ntmps5
    go_wp2
    go_ret
    exact ⟨rfl, Below.refl _ _⟩
  have HIN := Lib.hid HIN
  have hi1 := inflate_st (St.start w) (.slice a0 xs.length cap0) xs (fun W s => HIN.out W (s.below hB)) (by omega) 4000 (by omega)
  unfold Flow10 at hi1
  cases hx : infl xs with
  | none =>
    rw [hx] at hi1
    simp only at hi1
    go_enter Try.func5, Try.ntmps5
    go_wp2_with fail
    refine hi1.mono ?_
    rintro e w1 ⟨rfl, s1⟩
    have s2 := s1.newBox (flowC (.slice none 0 0) 0 0) 25
    have hbel := s2.below hB
    clear hi1 s1 s2
    go_wp2_with (go_at_call 8; refine (reads_any _).mono ?_; rintro e w4 ⟨rfl, hb4⟩)
    go_ret
    exact ⟨rfl, hbel.trans (hb4.mono hbel.size)⟩
  | some y =>
    obtain ⟨q, o⟩ := y
    rw [hx] at hi1
    simp only at hi1
    have hob := infl_byte hx
    have hin := infl_some hx
    have hfar : o.length ≤ 1100000 := by have := infl_far hx; have := infl_some hx; omega
    obtain ⟨uq, huq⟩ : ∃ uq, used q = uq := ⟨_, rfl⟩
    have HFR := Lib.hid (fun j hg fill => turned_free hx j hg fill)
    rw [huq] at HFR
    obtain ⟨k, hk, hku⟩ : ∃ k, kp % uq = k ∧ k < uq := ⟨_, rfl, Nat.mod_lt _ (by omega)⟩
    have hk1 : (kp : Int) % (uq : Int) = (k : Int) := by rw [← hk]; simp
    have hk2 : (kp : Int).tmod (uq : Int) = (k : Int) := by rw [Int.tmod_eq_emod_of_nonneg (by omega)]; exact hk1
    have HCT := Lib.hid (infl_cut hx k (by omega))
    have HX := Lib.hid hx
    have HUQ := Lib.hid huq
    rw [huq] at hi1 hin
    obtain ⟨o4, ho4⟩ : ∃ o4, o.take 4000 = o4 := ⟨_, rfl⟩
    have hb4 : ∀ x ∈ o4, x < 256 := fun x hx => hob x (by rw [← ho4] at hx; exact List.mem_of_mem_take hx)
    rw [ho4] at hi1
    have HO4 := Lib.hid ho4
    clear hk ho4 hob hx huq
    go_enter Try.func5, Try.ntmps5
    go_wp2_with fail
    refine hi1.mono ?_
    rintro e w1 ⟨oa, oc, rfl, s1⟩
    obtain ⟨z, hz⟩ : ∃ z, o.length = z := ⟨_, rfl⟩
    obtain ⟨m4, hm4⟩ : ∃ z, o4.length = z := ⟨_, rfl⟩
    rw [hz, hm4]
    rw [hm4] at s1
    have HZ := Lib.hid hz
    have HM4 := Lib.hid hm4
    rw [hz] at hfar
    have s2 := s1.newBox (flowC (.slice oa m4 oc) z uq) 25
    have hkx : k ≤ xs.length := by omega
    have hkc : k ≤ cap0 := by omega
    have huc : uq ≤ cap0 := by omega
    have hux : uq ≤ xs.length := hin.2.1
    have hu1 : 1 ≤ uq := hin.1
    have hi2 := inflate_fails s2 (.slice a0 k cap0) (xs := xs.take k) (fun W s => byteRow_cut (HIN.out W (s.below hB)) hkx) (by rw [List.length_take]; omega) 4000 (by omega) HCT.out
    have htl : (xs.take uq).length = uq := by rw [List.length_take]; omega
    clear hi1 s1 hz hm4 hin
    go_wp2_with fail
    refine hi2.mono ?_
    rintro e w2 ⟨rfl, s3⟩
    have s4 := s3.newBox #[.slice none 0 0, .int .i64 0, .int .i64 0, .bool false] 25
    have k2 : ((w2.alloc (.cells #[.slice none 0 0, .int .i64 0, .int .i64 0, .bool false] 25)).alloc (.cells #[] 5)).cell? ⟨w1.heap.size, 2, none⟩ = some (.int .i64 (uq : Int)) := (St.boxAt ((s4.alloc _).front 1) 2).1
    have hcp := byteRow_cut (HIN.out _ (s4.below hB)) (m := uq) hux
    clear hi2 s2 s3
    have HSZ := Lib.hid (show (w2.alloc (.cells #[.slice none 0 0, .int .i64 0, .int .i64 0, .bool false] 25)).heap.size = w2.heap.size + 1 from by simp)
    go_wp2_with (at_builtin; refine wpList_copyW rfl _ _ rfl s4 hcp (by rw [HSZ.out]; rfl) rfl (by omega) ?_)
    intro v3 w3 s5
    obtain ⟨fb, hfb2⟩ : ∃ fb, w1.heap.size = fb := ⟨_, rfl⟩
    rw [hfb2] at s5
    try rw [hfb2]
    obtain ⟨g, c3, hv3, -⟩ := s5.rowShape (by omega)
    subst hv3
    have s6 := s5.swap.drop
    obtain ⟨up, hup⟩ : ∃ up, uq - 1 = up := ⟨_, rfl⟩
    have hlt : up < xs.length := by omega
    obtain ⟨x, hxx, hxl⟩ : ∃ x, xs.getD up 0 = x ∧ x < 256 := ⟨_, rfl, by rw [getD_in _ _ hlt]; exact hxb _ (List.getElem_mem hlt)⟩
    have htake : xs.take uq = xs.take up ++ [x] := by
      rw [show uq = up + 1 from by omega, List.take_succ_eq_append_getElem hlt, ← getD_in xs 0 hlt, hxx]
    have htu : ∀ m, turned xs uq m = xs.take up ++ [x ^^^ m] := fun m => by unfold turned; rw [hup, hxx]
    have HTU := Lib.hid htu
    rw [htake] at s6
    obtain ⟨b0, off0, ha0⟩ : ∃ b off, a0 = some ⟨b, off, none⟩ := by
      obtain ⟨a', c', e, -, -, hat⟩ := HIN.out w (Below.refl _ _)
      obtain ⟨rfl, -, -⟩ := Value.slice.inj e
      obtain ⟨-, b, off, e2, -⟩ := hat 0 (by omega)
      exact ⟨b, off, e2⟩
    subst ha0
    have HCELL := Lib.hid (show ∀ W, Below w.heap.size w W → W.cell? ⟨b0, off0 + up, none⟩ = some (.int .u8 (x : Int)) from fun W hb => by
      obtain ⟨a', c', e, -, -, hat⟩ := HIN.out W hb
      obtain ⟨rfl, -, -⟩ := Value.slice.inj e
      obtain ⟨-, b, off, e2, hc⟩ := hat up hlt
      have e3 := Option.some.inj e2
      obtain ⟨rfl, rfl, -⟩ := Addr.mk.inj e3
      rw [hc, ← hxx, getD_in _ _ hlt])
    have hup1 : (uq : Int) - 1 = (up : Int) := by omega
    have hupu : up < uq := by omega
    have hupx : up < xs.length := hlt
    have hlen : ∀ y : Nat, (xs.take up ++ [y]).length = uq := fun y => by rw [List.length_append, List.length_take, List.length_singleton]; omega
    have hset : ∀ y y' : Nat, (xs.take up ++ [y]).set up y' = xs.take up ++ [y'] := fun y y' => by
      rw [List.set_append_right _ _ (by rw [List.length_take]; omega), List.length_take, show up - min up xs.length = 0 from by omega]
      rfl
    have HLEN := Lib.hid hlen
    have HSET := Lib.hid hset
    have hpb : ∀ b ∈ xs.take up, b < 256 := fun b hb => hxb b (List.mem_of_mem_take hb)
    have HPB := Lib.hid hpb
    have HTL := Lib.hid (show (xs.take up).length = up from by rw [List.length_take]; omega)
    clear s5 s4 k2 hcp HSZ hfb2 htake hxx htu hlt hup hpb hlen hset hxb HCT hk1 hk2 hkx hkc hku hkl
    generalize xs.take up = T at *
    go_wp2
    go_loopw [12, 13, 14] (fun i _ _ wr => ∃ (j : Nat) (y : Nat), j ≤ 8 ∧ i = .int .i64 (j : Int) ∧ y < 256 ∧ Hid (∀ i, i < j → Inf.Alike q o (infl (turned xs uq (2 ^ (7 - i))))) ∧
      St w.heap.size w wr (rowT 5 1 (.slice (some ⟨g, 0, none⟩) uq c3) uq (u8s (T ++ [y])) :: boxT fb (flowC (.slice oa m4 oc) z uq) 25 :: rowT 5 1 (.slice oa m4 oc) m4 (u8s o4) :: [])) (fun i _ _ _ => 8 - (intOf i).toNat)
    case atStart => exact ⟨0, x, by omega, rfl, hxl, Lib.hid (fun i hi => absurd hi (by omega)), s6⟩
    case round =>
    clear s6
    obtain ⟨j, y, hj, rfl, hyl, HG, t1⟩ := hrel
    by_cases hlt : j < 8
    case' neg =>
      have tt := t1
      clear t1
      go_wp2
    case' pos =>
      have kf : wr.cell? ⟨fb, 2, none⟩ = some (.int .i64 (uq : Int)) := (St.boxAt t1.swap 2).1
      have kb := HCELL.out _ (t1.below hB)
      have kw : wr.cell? ⟨g, up, none⟩ = some (.int .u8 (y : Int)) := by
        rw [t1.row.cellAt up (by omega), u8s_get _ _ (by rw [HLEN.out]; omega)]
        have h := HTL.out
        rw [List.getElem_append_right (by omega)]
        simp
      have kz : wr.frozen? ⟨g, up, none⟩ = false := t1.row.frozenAt up
      obtain ⟨m, hm, hml, hm2⟩ : ∃ m : Nat, 2 ^ (7 - j) = m ∧ m < 256 ∧ (128 : Int) / 2 ^ j = (m : Int) := ⟨_, rfl, by
        have : ∀ j, j < 8 → 2 ^ (7 - j) < 256 := by decide
        exact this j hlt, shr_bit j hlt⟩
      have hxor := xor_byte x m hxl hml
      have hxb2 : x ^^^ m < 256 := Nat.xor_lt_two_pow (n := 8) hxl hml
      obtain ⟨y2, hy2⟩ : ∃ y2, x ^^^ m = y2 := ⟨_, rfl⟩
      rw [hy2] at hxor hxb2
      have t2 := (t1.stored up (.int .u8 (y2 : Int)))
      rw [← u8s_set, HSET.out] at t2
      go_wp2
      go_region
      have hZl : (T ++ [y2]).length ≤ 10000 := by rw [HLEN.out]; omega
      have hZb : ∀ b ∈ T ++ [y2], b < 256 := fun b hb => (List.mem_append.1 hb).elim (HPB.out b) (fun h => by rw [List.mem_singleton.1 h]; exact hxb2)
      have t3 := t2.drew
      have hi3 := inflate_st (xs := T ++ [y2]) t3 (.slice (some ⟨g, 0, none⟩) uq c3) (fun W s => St.bytesRow (v := .slice (some ⟨g, 0, none⟩) uq c3) (by rw [HLEN.out]; exact s) hZb) hZl 4000 (by omega)
      have htm : turned xs uq m = T ++ [y2] := by rw [HTU.out, hy2]
      have HTM := Lib.hid htm
      have HM := Lib.hid hm
      unfold Flow10 at hi3
      clear kf kb kw kz hxor hm2 htm hy2 t1 t2 hZl hm
      generalize (wr.setCell ⟨g, up, none⟩ (.int .u8 (y2 : Int))).drew = w4 at t3 hi3 ⊢
      cases hif : infl (T ++ [y2])
      case' none =>
        rw [hif] at hi3
        simp only at hi3
        go_wp2_with fail
        refine hi3.mono ?_
        rintro e w5 ⟨rfl, t4⟩
        have tt := (t4.newBox #[.slice none 0 0, .int .i64 0, .int .i64 0, .bool false] 25).drop
        clear hi3 t3 t4
        go_wp2
      case' some y3 =>
        obtain ⟨q', o'⟩ := y3
        rw [hif] at hi3
        simp only at hi3
        obtain ⟨o5, ho5⟩ : ∃ o5, o'.take 4000 = o5 := ⟨_, rfl⟩
        obtain ⟨u5, hu5⟩ : ∃ u5, used q' = u5 := ⟨_, rfl⟩
        obtain ⟨z5, hz5⟩ : ∃ z5, o'.length = z5 := ⟨_, rfl⟩
        have hob5 : ∀ b ∈ o5, b < 256 := fun b hb => infl_byte hif b (by rw [← ho5] at hb; exact List.mem_of_mem_take hb)
        rw [ho5, hu5, hz5] at hi3
        obtain ⟨m5, hm5⟩ : ∃ m5, o5.length = m5 := ⟨_, rfl⟩
        rw [hm5] at hi3
        go_wp2_with fail
        refine hi3.mono ?_
        rintro e w5 ⟨o6, c6, rfl, t4⟩
        have t5 := t4.newBox (flowC (.slice o6 m5 c6) z5 u5) 25
        have hr5 := St.bytesRow (xs := o5) (v := .slice o6 m5 c6) (by rw [hm5]; exact t5.front 1) hob5
        have hr4 := St.bytesRow (xs := o4) (v := .slice oa m4 oc) (by rw [HM4.out]; exact t5.front 4) hb4
        have hsm := same_any (w5.alloc (.cells (flowC (.slice o6 m5 c6) z5 u5) 25)) (.slice o6 m5 c6) (.slice oa m4 oc) o5 o4 z5 z u5 uq hr5 hr4
        have k0 : (w5.alloc (.cells (flowC (.slice o6 m5 c6) z5 u5) 25)).cell? ⟨fb, 0, none⟩ = some (.slice oa m4 oc) := (St.boxAt (t5.front 3) 0).1
        have k1 : (w5.alloc (.cells (flowC (.slice o6 m5 c6) z5 u5) 25)).cell? ⟨fb, 1, none⟩ = some (.int .i64 (z : Int)) := (St.boxAt (t5.front 3) 1).1
        have k2 : (w5.alloc (.cells (flowC (.slice o6 m5 c6) z5 u5) 25)).cell? ⟨fb, 2, none⟩ = some (.int .i64 (uq : Int)) := (St.boxAt (t5.front 3) 2).1
        have k3 : (w5.alloc (.cells (flowC (.slice o6 m5 c6) z5 u5) 25)).cell? ⟨fb, 3, none⟩ = some (.bool false) := (St.boxAt (t5.front 3) 3).1
        by_cases hsame : o5 = o4 ∧ z5 = z ∧ u5 = uq
        case' pos =>
          have hal : Inf.Alike q o (infl (turned xs uq (2 ^ (7 - j)))) := by
            rw [HM.out, HTM.out, hif]
            exact ⟨q', o', rfl, by rw [ho5, HO4.out]; exact hsame.1, by rw [hz5, HZ.out]; exact hsame.2.1, by rw [hu5, HUQ.out]; exact hsame.2.2⟩
          have hG2 : ∀ i, i < j + 1 → Inf.Alike q o (infl (turned xs uq (2 ^ (7 - i)))) := fun i hi => by
            rcases Nat.lt_or_ge i j with h | h
            · exact HG.out i h
            · obtain rfl : i = j := by omega
              exact hal
          have HG2 := Lib.hid hG2
          rw [decide_eq_true hsame] at hsm
          clear hal hG2 ho5 hu5 hz5 hm5 hr5 hr4 hi3 t3 hsame hif
          go_wp2_with (go_at_call 7; refine hsm.mono ?_; rintro e w6 ⟨rfl, hb6⟩)
          have t6 := (t5.quiet hb6).drop.drop
          refine ⟨⟨j + 1, y2, by omega, by go_num, hxb2, HG2, t6⟩, by simp [intOf]; omega⟩
        case' neg =>
          rw [decide_eq_false hsame] at hsm
          clear ho5 hu5 hz5 hm5 hr5 hr4 hi3 t3 hsame hif
          go_wp2_with (go_at_call 7; refine hsm.mono ?_; rintro e w6 ⟨rfl, hb6⟩)
          have tt := (t5.quiet hb6).drop.drop
          clear t4 t5 k0 k1 k2 k3 hsm hb6
          go_wp2
    all_goals
      have kf : World.cell? _ ⟨fb, 2, none⟩ = some (.int .i64 (uq : Int)) := (St.boxAt tt.swap 2).1
      have kb := HCELL.out _ (tt.below hB)
      have kw : ∃ u, World.cell? _ ⟨g, up, none⟩ = some u := ⟨_, by
        rw [tt.row.cellAt up (by omega), List.getElem?_eq_getElem (by rw [u8s_length, HLEN.out]; omega)]⟩
      obtain ⟨u, kw⟩ := kw
      have kz : World.frozen? _ ⟨g, up, none⟩ = false := tt.row.frozenAt up
      obtain ⟨s, hs, hsl⟩ : ∃ s : Nat, 8 - j = s ∧ s ≤ 8 := ⟨_, rfl, by omega⟩
      have hs1 : (8 : Int) - (j : Int) = (s : Int) := by omega
      obtain ⟨m2, hm2, hm2l⟩ : ∃ m2 : Nat, fl * 2 ^ s % 256 = m2 ∧ m2 < 256 := ⟨_, rfl, Nat.mod_lt _ (by decide)⟩
      have hsh : (fl : Int) * 2 ^ s % 256 = (m2 : Int) := by rw [← hm2]; norm_cast
      have hsh2 : ((fl * 2 ^ s : Nat) : Int) % 256 = (m2 : Int) := by rw [← hm2]; norm_cast
      have hxor2 := xor_byte x m2 hxl hm2l
      have hy4l : x ^^^ m2 < 256 := Nat.xor_lt_two_pow (n := 8) hxl hm2l
      obtain ⟨y4, hy4⟩ : ∃ y4, x ^^^ m2 = y4 := ⟨_, rfl⟩
      rw [hy4] at hxor2 hy4l
      have hal := HFR.out j HG.out fl
      rw [hs, hm2, HTU.out, hy4] at hal
      have HAL := Lib.hid hal
      have hxy : j = 0 → y4 = x := fun h => by
        subst h
        rw [← hy4, ← hm2, ← hs]
        simp
      have HXY := Lib.hid hxy
      have tt2 := tt.stored up (.int .u8 (y4 : Int))
      rw [← u8s_set, HSET.out] at tt2
      have tt3 := tt2.drew
      go_region
      clear kf kb kw kz hs1 hsh hsh2 hxor2 hy4 hal hxy hm2 hs tt tt2
      generalize ((World.setCell _ ⟨g, up, none⟩ (.int .u8 (y4 : Int))).drew) = W6 at tt3 ⊢
      have hin3 : ∀ W, St w.heap.size w W (rowT 5 1 (.slice (some ⟨g, 0, none⟩) uq c3) uq (u8s (T ++ [y4])) :: boxT fb (flowC (.slice oa m4 oc) z uq) 25 :: rowT 5 1 (.slice oa m4 oc) m4 (u8s o4) :: []) →
          Calls Try.prog 6 #[.slice (some ⟨g, 0, none⟩) uq c3, .int .i64 4000] W fun e w' => ∃ o6 c6, e = .returned (.tuple #[.agg (flowC (.slice o6 m4 c6) z uq), .int .i64 0]) ∧
            St w.heap.size w w' (rowT 5 1 (.slice o6 m4 c6) m4 (u8s o4) :: rowT 5 1 (.slice (some ⟨g, 0, none⟩) uq c3) uq (u8s (T ++ [y4])) :: boxT fb (flowC (.slice oa m4 oc) z uq) 25 :: rowT 5 1 (.slice oa m4 oc) m4 (u8s o4) :: []) := fun W st => by
        obtain ⟨q7, o7, h1, h2, h3, h4⟩ := HAL.out
        have hZb : ∀ b ∈ T ++ [y4], b < 256 := fun b hb => (List.mem_append.1 hb).elim (HPB.out b) (fun h => by rw [List.mem_singleton.1 h]; exact hy4l)
        refine (inflate_st (xs := T ++ [y4]) st (.slice (some ⟨g, 0, none⟩) uq c3) (fun W s => St.bytesRow (v := .slice (some ⟨g, 0, none⟩) uq c3) (by rw [HLEN.out]; exact s) hZb) (by rw [HLEN.out]; omega) 4000 (by omega)).mono ?_
        intro e w' hf
        unfold Flow10 at hf
        rw [h1] at hf
        simp only at hf
        rw [h2, h3, h4, HO4.out, HZ.out, HUQ.out, HM4.out] at hf
        exact hf
      have HIN3 := Lib.hid hin3
      clear hin3 HAL
      by_cases hj0 : j = 0
      case' pos =>
        have e0 : ((j : Int) == 0) = true := by rw [hj0]; rfl
        have hx4 := HXY.out hj0
        have kf : W6.cell? ⟨fb, 2, none⟩ = some (.int .i64 (uq : Int)) := (St.boxAt tt3.swap 2).1
        have kb := HCELL.out _ (tt3.below hB)
        have kw : ∃ u, W6.cell? ⟨g, up, none⟩ = some u := ⟨_, by
          rw [tt3.row.cellAt up (by omega), List.getElem?_eq_getElem (by rw [u8s_length, HLEN.out]; omega)]⟩
        obtain ⟨u, kw⟩ := kw
        have kz : W6.frozen? ⟨g, up, none⟩ = false := tt3.row.frozenAt up
        have tt4 := tt3.stored up (.int .u8 (x : Int))
        rw [← u8s_set, HSET.out, ← hx4] at tt4
        rw [hx4] at tt4
        have tt5 := tt4.drew
        rw [← hx4] at tt5
        clear hj0 tt3 tt4
        go_wp2
        go_region
        rw [← hx4]
        clear kf kb kw kz
        generalize ((W6.setCell ⟨g, up, none⟩ (.int .u8 (y4 : Int))).drew) = W7 at tt5 ⊢
      case' neg =>
        have e0 : ((j : Int) == 0) = false := by rw [beq_eq_false_iff_ne]; omega
        have tt5 := tt3
        clear hj0 tt3
      all_goals
        have hi4 := HIN3.out _ tt5
        clear HXY
        go_wp2_with fail
        refine hi4.mono ?_
        rintro e w7 ⟨o6, c6, rfl, t8⟩
        have t9 := t8.newBox (flowC (.slice o6 m4 c6) z uq) 25
        have hbel := t9.below hB
        have hr5 := St.bytesRow (xs := o4) (v := .slice o6 m4 c6) (by rw [HM4.out]; exact t9.front 1) hb4
        have hr4 := St.bytesRow (xs := o4) (v := .slice oa m4 oc) (by rw [HM4.out]; exact t9.front 4) hb4
        have hsm := same_any (w7.alloc (.cells (flowC (.slice o6 m4 c6) z uq) 25)) (.slice o6 m4 c6) (.slice oa m4 oc) o4 o4 z z uq uq hr5 hr4
        simp only [and_self, decide_true] at hsm
        have k0 : (w7.alloc (.cells (flowC (.slice o6 m4 c6) z uq) 25)).cell? ⟨fb, 0, none⟩ = some (.slice oa m4 oc) := (St.boxAt (t9.front 3) 0).1
        have k1 : (w7.alloc (.cells (flowC (.slice o6 m4 c6) z uq) 25)).cell? ⟨fb, 1, none⟩ = some (.int .i64 (z : Int)) := (St.boxAt (t9.front 3) 1).1
        have k2 : (w7.alloc (.cells (flowC (.slice o6 m4 c6) z uq) 25)).cell? ⟨fb, 2, none⟩ = some (.int .i64 (uq : Int)) := (St.boxAt (t9.front 3) 2).1
        have k3 : (w7.alloc (.cells (flowC (.slice o6 m4 c6) z uq) 25)).cell? ⟨fb, 3, none⟩ = some (.bool false) := (St.boxAt (t9.front 3) 3).1
        clear hr5 hr4 t8 t9 hi4 HIN3
        go_wp2_with (go_at_call 7; refine hsm.mono ?_; rintro e w8 ⟨rfl, hb8⟩)
        go_wp2_with (go_at_call 8; refine (reads_any _).mono ?_; rintro e w9 ⟨rfl, hb9⟩)
        go_ret
        exact ⟨rfl, hbel.trans ((hb8.trans (hb9.mono hb8.size)).mono hbel.size)⟩

end Go.Proofs.Ytpcbhmkalofkmaa.inflateCuts
