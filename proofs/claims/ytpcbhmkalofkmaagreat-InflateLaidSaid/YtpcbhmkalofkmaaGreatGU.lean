/-
  InfD InfE, one behind the other (merged by wip/merge.py). No conditions but those that each states.
-/
import Derived.Test.YtpcbhmkalofkmaaGreatGT
import Derived.Test.YtpcbhmkalofkmaaGreatGO
import Derived.Test.YtpcbhmkalofkmaaGreatGC
import Derived.Test.YtpcbhmkalofkmaaGreatGW

/-
  Contracts of pressworkref10: symbols. No conditions but that rows are small.
-/
namespace Go.Proofs.YtpcbhmkalofkmaaGreat.Inf
open Go.RowKit Kraft Hd

section
variable {B : Nat} {w0 w : World} {r : List Thing} {sb : Nat} {rv bv : Value} {R : List Bool} {keep p : Nat} {out : List Nat} {bad : Bool}

theorem Str.dropR {A : Thing} (h : Str B w0 w (A :: r) sb rv bv keep p out bad) : Str B w0 w r sb rv bv keep p out bad := by
  obtain ⟨oa, oc, st⟩ := h.st
  exact ⟨oa, oc, (st.front 2).drop⟩
theorem Str.overR {A : Thing} {Q : World → Prop} (h : Str B w0 w r sb rv bv keep p out bad) (f : ∀ l, St B w0 w l → ∀ w', Q w' → St B w0 w' (A :: l)) (w' : World) (hq : Q w') : Str B w0 w' (A :: r) sb rv bv keep p out bad := by
  obtain ⟨oa, oc, st⟩ := h.st
  exact ⟨oa, oc, ((f _ st w' hq).front 2).front 2⟩
/-- A call that makes a thing, over a Stream. -/
theorem Str.makes {f : FuncId} {args : Array Value} {C : Ending → World → List Thing → Prop} (h : Str B w0 w r sb rv bv keep p out bad) (c : ∀ l, St B w0 w l → Calls Tryz.prog f args w fun e w' => C e w' l)
    {D : Ending → World → Prop} (hd : ∀ e w' oa oc, C e w' (boxT sb (strC rv bv p (.slice oa (out.take keep).length oc) keep out.length bad) 70 :: rowT 5 1 (.slice oa (out.take keep).length oc) (out.take keep).length (u8s (out.take keep)) :: r) → D e w') : Calls Tryz.prog f args w D := by
  obtain ⟨oa, oc, st⟩ := h.st
  exact (c _ st).mono fun e w' hc => hd e w' oa oc hc

theorem Str.of {A : Thing} {oa : Option Addr} {oc : Nat} (s : St B w0 w (A :: boxT sb (strC rv bv p (.slice oa (out.take keep).length oc) keep out.length bad) 70 :: rowT 5 1 (.slice oa (out.take keep).length oc) (out.take keep).length (u8s (out.take keep)) :: r)) : Str B w0 w (A :: r) sb rv bv keep p out bad :=
  ⟨oa, oc, (s.front 2).front 2⟩

theorem Str.rest (h : Str B w0 w r sb rv bv keep p out bad) : St B w0 w r := by
  obtain ⟨oa, oc, st⟩ := h.st
  exact st.drop.drop

theorem RowsOf.more {A : Thing} (h : RowsOf B w0 r rv bv R) : RowsOf B w0 (A :: r) rv bv R := ⟨fun W s => h.row W s.drop, fun W s => h.bits W s.drop, h.small, h.addr⟩
theorem CodeAt.more {A : Thing} {wv : Value} {L : List Nat} (h : CodeAt B w0 r wv L) : CodeAt B w0 (A :: r) wv L := ⟨fun W s => h.words W s.drop, h.low, h.weigh, h.few⟩

/-- What is not kept may be any. -/
theorem Str.same {out' : List Nat} (h : Str B w0 w r sb rv bv keep p out bad) (hl : out'.length = out.length) (ht : out'.take keep = out.take keep) : Str B w0 w r sb rv bv keep p out' bad := by
  obtain ⟨oa, oc, st⟩ := h.st
  refine ⟨oa, oc, ?_⟩
  rw [ht, hl]
  exact st

theorem BadStr.dropR {A : Thing} (h : BadStr B w0 w (A :: r) sb rv bv keep R) : BadStr B w0 w r sb rv bv keep R := by
  obtain ⟨p', o', h1, h2⟩ := h
  exact ⟨p', o', h1, h2.dropR⟩
theorem PartSt.dropR {A : Thing} {x : Option (Nat × List Nat)} (h : PartSt B w0 (A :: r) sb rv bv keep R x w) : PartSt B w0 r sb rv bv keep R x w := by
  cases x with
  | none => exact BadStr.dropR h
  | some y => exact Str.dropR h

theorem rows10_st (h : Str B w0 w r sb rv bv keep p out bad) {fv : Value} {P : List Nat} (hF : ByteRow w fv P) (hP : wordsErr P = 0) (hl : P.length ≤ 512) :
    Calls Tryz.prog 86 #[fv] w fun e w' => ∃ v', e = .returned (.tuple #[v', .int .i64 0]) ∧ Str B w0 w' (rowsT v' (rowsOf P) :: r) sb rv bv keep p out bad := by
  obtain ⟨oa, oc, st⟩ := h.st
  refine (refRows_st st fv P hF (by omega)).mono ?_
  rintro e w' (⟨h0, _⟩ | ⟨_, v', rfl, s⟩)
  · exact absurd hP h0
  · exact ⟨v', rfl, Str.of s⟩

theorem lens10_st (h : Str B w0 w r sb rv bv keep p out bad) :
    Calls Tryz.prog 88 #[] w fun e w' => ∃ g, e = .returned (.slice (some ⟨g, 0, none⟩) 29 29) ∧ Str B w0 w' (numsT 3 g 29 lenF :: r) sb rv bv keep p out bad := by
  obtain ⟨oa, oc, st⟩ := h.st
  refine (lens8_st st).mono ?_
  rintro e w' ⟨g, rfl, s⟩
  exact ⟨g, rfl, Str.of s⟩
theorem diss10_st (h : Str B w0 w r sb rv bv keep p out bad) :
    Calls Tryz.prog 90 #[] w fun e w' => ∃ g, e = .returned (.slice (some ⟨g, 0, none⟩) 30 30) ∧ Str B w0 w' (numsT 3 g 30 disF :: r) sb rv bv keep p out bad := by
  obtain ⟨oa, oc, st⟩ := h.st
  refine (diss8_st st).mono ?_
  rintro e w' ⟨g, rfl, s⟩
  exact ⟨g, rfl, Str.of s⟩

theorem Str.lenCell {g : Nat} (h : Str B w0 w (numsT 3 g 29 lenF :: r) sb rv bv keep p out bad) (c : Nat) (h1 : 256 < c) (h2 : c ≤ 285) : w.cell? ⟨g, c - 257, none⟩ = some (.int .i64 (lenL c : Int)) := by
  obtain ⟨oa, oc, st⟩ := h.st
  have hl : lenF.length = 29 := rfl
  have := (St.numCell (st.front 2) (c - 257) hl (by omega)).1
  rw [this, lenF_at _ (by omega), show 257 + (c - 257) = c from by omega]
theorem Str.disCell {g : Nat} (h : Str B w0 w (numsT 3 g 30 disF :: r) sb rv bv keep p out bad) (d : Nat) (h2 : d ≤ 29) : w.cell? ⟨g, d, none⟩ = some (.int .i64 (disL d : Int)) := by
  obtain ⟨oa, oc, st⟩ := h.st
  have hl : disF.length = 30 := rfl
  have := (St.numCell (st.front 2) d hl (by omega)).1
  rw [this, disF_at _ (by omega)]

/-- number, whatever comes. -/
theorem num10_any (h : Str B w0 w r sb rv bv keep p out bad) (hR : RowsOf B w0 r rv bv R) (n : Nat) (hn : n ≤ 32) (hp : p ≤ R.length) :
    Calls Tryz.prog 52 #[.pointer (some ⟨sb, 0, none⟩), .int .i64 (n : Int)] w fun e w' => ∃ (x q : Nat) (b' : Bool), e = .returned (.int .i64 (x : Int)) ∧ x < 2 ^ n ∧ q ≤ R.length ∧ Hid ((if bad = true then none else numAt R p n) = if b' = true then none else some (x, q)) ∧ Hid (b' = false → q = p + n) ∧ Str B w0 w' r sb rv bv keep q out b' := by
  by_cases hno : bad = true ∨ R.length < p + n
  · refine (num10_no h hR n hn hp hno).mono ?_
    rintro e w' ⟨rfl, s⟩
    refine ⟨0, p, true, rfl, Nat.two_pow_pos _, hp, Lib.hid ?_, Lib.hid (fun h => by cases h), s⟩
    rw [if_pos rfl]
    rcases hno with h | h
    · rw [if_pos h]
    · unfold numAt; rw [if_pos h]; exact ite_self _
  · obtain rfl : bad = false := by cases bad with | true => exact absurd (.inl rfl) hno | false => rfl
    have hl : p + n ≤ R.length := by
      rcases Nat.lt_or_ge R.length (p + n) with g | g
      · exact absurd (.inr g) hno
      · exact g
    refine (num10_ok h hR n hn hl).mono ?_
    rintro e w' ⟨rfl, s⟩
    refine ⟨nm R p n, p + n, false, rfl, nm_lt R p n, hl, Lib.hid ?_, Lib.hid (fun _ => rfl), s⟩
    unfold numAt
    rw [if_neg (by decide), if_neg (by omega), if_neg (by decide)]

theorem Str.drew (h : Str B w0 w r sb rv bv keep p out bad) : Str B w0 w.drew r sb rv bv keep p out bad := by
  obtain ⟨oa, oc, st⟩ := h.st
  exact ⟨oa, oc, st.drew⟩

theorem Str.at345 (h : Str B w0 w r sb rv bv keep p out bad) : ∃ oa oc, w.cell? ⟨sb, 3, none⟩ = some (.slice oa (out.take keep).length oc) ∧ w.cell? ⟨sb, 4, none⟩ = some (.int .i64 (keep : Int)) ∧ w.cell? ⟨sb, 5, none⟩ = some (.int .i64 (out.length : Int)) ∧
    (0 < (out.take keep).length → ∃ g, oa = some ⟨g, 0, none⟩ ∧ ∀ i (hi : i < (out.take keep).length), w.cell? ⟨g, i, none⟩ = some (.int .u8 ((out.take keep)[i] : Int))) := by
  obtain ⟨oa, oc, st⟩ := h.st
  refine ⟨oa, oc, (st.boxAt 3).1, (st.boxAt 4).1, (st.boxAt 5).1, fun h0 => ?_⟩
  obtain ⟨g, cap, e, hc⟩ := st.swap.rowShape h0
  obtain ⟨rfl, -, rfl⟩ := Value.slice.inj e
  exact ⟨g, rfl, fun i hi => by rw [st.swap.row.cellAt i (by omega), u8s_get _ _ hi]⟩

set_option maxRecDepth 100000 in
set_option maxHeartbeats 4000000 in
theorem symbols10_st (h : Str B w0 w r sb rv bv keep p out false) (hR : RowsOf B w0 r rv bv R) (hp : p ≤ R.length) (hk : keep ≤ 100000) (ho : out.length + 258 * R.length ≤ 10000000) {fv ov : Value} {P Q : List Nat}
    (hF : ∀ W, St B w0 W r → ByteRow W fv P) (hO : ∀ W, St B w0 W r → ByteRow W ov Q) (hP0 : 0 < P.length) (hQ0 : 0 < Q.length) (hP : wordsErr P = 0) (hQ : wordsErr Q = 0) :
    Calls Tryz.prog 54 #[.pointer (some ⟨sb, 0, none⟩), fv, ov] w fun e w' => e = .returned (.tuple #[]) ∧ PartSt B w0 r sb rv bv keep R (syms P Q R p out) w' := by
  obtain ⟨X, hXX⟩ : ∃ X, syms P Q R p out = X := ⟨_, rfl⟩
  rw [hXX]
  have HXX := Lib.hid hXX
  clear hXX
  have hPm := wordsErr_ok hP
  have hQm := wordsErr_ok hQ
  have hPf := (may_iff P).1 hPm.1
  have hQf := (may_iff Q).1 hQm.1
  have h20 : ∀ L : List Nat, (∀ x ∈ L, x ≤ 20) → ∀ j, len L j ≤ 20 := by
    intro L hL j
    unfold len
    by_cases hj : j < L.length
    · rw [getD_in _ _ hj]; exact hL _ (List.getElem_mem hj)
    · rw [getD_out _ _ (by omega)]; omega
  have hrow1 := rows10_st h (hF _ h.rest) hP hPf.1
  have hsm := hR.small
  go_enter Tryz.func54, Tryz.ntmps54
  go_wp2_with fail
  refine hrow1.mono ?_
  rintro e w1 ⟨va, rfl, s1⟩
  have hrow2 := rows10_st s1 (hO _ s1.dropR.rest) hQ hQf.1
  clear hrow1
  go_wp2_with fail
  refine hrow2.mono ?_
  rintro e w2 ⟨vb, rfl, s2⟩
  clear hrow2 s1 h
  have hR2 := (hR.more (A := rowsT va (rowsOf P))).more (A := rowsT vb (rowsOf Q))
  have hCa : CodeAt B w0 (rowsT vb (rowsOf Q) :: rowsT va (rowsOf P) :: r) va P := codeAt_rows hP0 (h20 P hPf.2) hPm.2 hPf.1 (fun W s => ⟨_, s.drop⟩)
  have hCb : CodeAt B w0 (rowsT vb (rowsOf Q) :: rowsT va (rowsOf P) :: r) vb Q := codeAt_rows hQ0 (h20 Q hQf.2) hQm.2 hQf.1 (fun W s => ⟨_, s⟩)
  have hfn : ∀ W x, PartSt B w0 (rowsT vb (rowsOf Q) :: rowsT va (rowsOf P) :: r) sb rv bv keep R x W → PartSt B w0 r sb rv bv keep R x W := fun W x s => s.dropR.dropR
  have HFN := Lib.hid hfn
  clear hfn hF hO hR h20 hPm hQm hPf hQf hP hQ hP0 hQ0
  generalize rowsT vb (rowsOf Q) :: rowsT va (rowsOf P) :: r = r2 at *
  have hbad : ∀ W q o, Str B w0 W r2 sb rv bv keep q o true → q ≤ R.length → X = none → PartSt B w0 r sb rv bv keep R X W := fun W q o s hq hX => by
    rw [hX]
    exact HFN.out W none ⟨q, o, hq, s⟩
  have HBAD := Lib.hid hbad
  clear hbad
  go_wp2
  go_loopw [10, 11, 12, 13, 14, 15] (fun _ _ _ _ _ _ wr => ∃ q o, p ≤ q ∧ q ≤ R.length ∧ Hid (syms P Q R q o = X) ∧ o.length ≤ out.length + 258 * (q - p) ∧ Str B w0 wr r2 sb rv bv keep q o false) (fun _ _ _ _ _ _ wr => match wr.cell? ⟨sb, 2, none⟩ with | some v => R.length - (intOf v).toNat | none => 0)
  case atStart => exact ⟨p, out, Nat.le_refl _, hp, HXX, by omega, s2⟩
  case round =>
    clear s2
    obtain ⟨q, o, hq1, hq2, HS, hol, h1⟩ := hrel
    have hm2 := h1.at2.1
    have hc := sym10_get h1 hR2 hCa hq2
    cases hs : symAt P R q with
    | none =>
      rw [hs] at hc
      simp only at hc
      have hX : X = none := by rw [← HS.out]; exact syms_none (step_bad hs)
      have HX := Lib.hid hX
      clear hX hs h1 hm2
      go_wp2_with fail
      refine hc.mono ?_
      rintro e w3 ⟨rfl, q3, hq3, s3⟩
      clear hc
      obtain ⟨c6, f6⟩ := s3.at6
      have hfin := HBAD.out _ _ _ s3 hq3 HX.out
      go_wp2
      refine bodyPost_ret (results_none rfl _ _ _) rfl ?_
      exact ⟨rfl, hfin⟩
    | some cc =>
      obtain ⟨c, q'⟩ := cc
      rw [hs] at hc
      simp only at hc
      obtain ⟨hqq, hqR⟩ := symAt_le hs
      have hlt : q < R.length := by omega
      have HSY := Lib.hid hs
      by_cases c1 : c = 256
      · subst c1
        have hX : X = some (q', o) := by rw [← HS.out]; exact syms_end hlt (step_eob hs)
        have HX := Lib.hid hX
        clear hX hs h1 hm2
        go_wp2_with fail
        refine hc.mono ?_
        rintro e w3 ⟨rfl, s3⟩
        clear hc
        obtain ⟨c6, f6⟩ := s3.at6
        have hfin : PartSt B w0 r sb rv bv keep R X w3 := by rw [HX.out]; exact HFN.out _ (some (q', o)) s3
        go_wp2
        refine bodyPost_ret (results_none rfl _ _ _) rfl ?_
        exact ⟨rfl, hfin⟩
      · have ne256 : ((c : Int) == 256) = false := by rw [beq_eq_false_iff_ne]; omega
        by_cases c2 : c < 256
        · have hX : syms P Q R q' (o ++ [c]) = X := by rw [← HS.out]; exact (syms_on hlt (step_lit hs c2)).symm
          have HX := Lib.hid hX
          clear hX hs h1
          go_wp2_with fail
          refine hc.mono ?_
          rintro e w3 ⟨rfl, s3⟩
          clear hc
          obtain ⟨c6, f6⟩ := s3.at6
          have hput := put10_st s3 c hk (by omega)
          go_wp2_with (go_at_call 85; refine hput.mono ?_; rintro e w4 ⟨rfl, s4⟩)
          have hm4 := s4.at2.1
          refine ⟨⟨q', o ++ [c], by omega, hqR, HX, by rw [List.length_append, List.length_singleton]; omega, s4⟩, ?_⟩
          rw [hm4, hm2]
          simp [intOf]
          omega
        · by_cases c3 : 285 < c
          · have hX : X = none := by rw [← HS.out]; exact syms_none (step_over hs c3)
            have HX := Lib.hid hX
            clear hX hs h1 hm2
            go_wp2_with fail
            refine hc.mono ?_
            rintro e w3 ⟨rfl, s3⟩
            clear hc
            obtain ⟨c6, f6⟩ := s3.at6
            have s4 := s3.set6
            have hfin := HBAD.out _ _ _ s4 hqR HX.out
            go_wp2
            refine bodyPost_ret (results_none rfl _ _ _) rfl ?_
            exact ⟨rfl, hfin⟩
          · have hst : step P Q R q o = none → X = none := fun h => by rw [← HS.out]; exact syms_none h
            have hon : ∀ q4 o4, step P Q R q o = some (false, q4, o4) → syms P Q R q4 o4 = X := fun q4 o4 h => by rw [← HS.out]; exact (syms_on hlt h).symm
            rw [step_len hs (by omega) (by omega)] at hst hon
            have HST := Lib.hid hst
            have HON := Lib.hid hon
            have hlt9 := hm2
            clear hst hon hs h1 HS HSY
            have HTOP := Lib.hid (fun x hx => len_top c x (by omega) (by omega) hx)
            have hlb := lenB_le c (by omega) (by omega)
            obtain ⟨lb, hlb0⟩ : ∃ lb, lenB c = lb := ⟨_, rfl⟩
            have hlbs : ∀ W, Calls Tryz.prog 89 #[.int .i64 (c : Int)] W fun e w' => e = .returned (.int .i64 (lb : Int)) ∧ W = w' := fun W => by
              rw [← hlb0]
              exact lenBits_any W c (by omega) (by omega)
            have hcel : ∀ W g q o b, Str B w0 W (numsT 3 g 29 lenF :: r2) sb rv bv keep q o b → W.cell? ⟨g, c - 257, none⟩ = some (.int .i64 (lenL c : Int)) := fun W g q o b s => s.lenCell c (by omega) (by omega)
            rw [hlb0] at HST HON HTOP hlb
            obtain ⟨lc, hlc⟩ : ∃ lc, lenL c = lc := ⟨_, rfl⟩
            rw [hlc] at HST HON HTOP hcel
            clear hlc hlb0
            have HCEL := Lib.hid hcel
            clear hcel
            have hcc : ((c : Int) - 257) = ((c - 257 : Nat) : Int) := by omega
            obtain ⟨c7, hc7⟩ : ∃ c7, c - 257 = c7 := ⟨_, rfl⟩
            rw [hc7] at hcc HCEL
            have hc7b : c7 ≤ 28 := by omega
            go_wp2_with fail
            refine hc.mono ?_
            rintro e w3 ⟨rfl, s3⟩
            clear hc
            obtain ⟨c6, f6⟩ := s3.at6
            have hlens := lens10_st s3.drew
            clear hc7
            go_wp2
            clear c6 f6
            refine region_seg (by kernel_rfl) [5, 6, 1] 8 rfl (by kernel_rfl) (by kernel_rfl) (fun _ _ d _ _ h => by cases d <;> exact h) ?_
            generalize w3.drew = wd at *
            intro K hK
            simp only [pickL, List.getElem?_cons_zero, List.getElem?_cons_succ]
            go_wp2_with fail
            try clear hK K
            refine wpAny_take (i := 2) (v := .int .i64 (c7 : Int)) rfl (by kernel_rfl) (by kernel_rfl) (by kernel_rfl) (fun _ _ _ h => h) (.inl ⟨rfl, fun w => by go_simp; exact IntWalk.i64_in _ (by omega)⟩) ?_
            refine mid_seg [0] 6 (by kernel_rfl) (by kernel_rfl) (fun _ _ d _ _ h => by cases d <;> exact h) ?_
            intro K2 hK2
            simp only [pickL, List.getElem?_cons_zero]
            go_wp2_with (go_at_call 88; refine hlens.mono ?_; rintro e w4 ⟨g, rfl, s4⟩)
            try clear hK2 K2
            clear hlens s3
            have x0 := HCEL.out _ _ _ _ _ s4
            have hnum := num10_any s4 hR2.more lb (by omega) hqR
            refine wpAny_of_held (S := fun W => W.cell? ⟨g, c7, none⟩ = some (.int .i64 (lc : Int))) _ _ _ _ ?_
            refine wpAnyH_take (i := 3) (v := .pointer (some ⟨g, c7, none⟩)) rfl (by kernel_rfl) (by kernel_rfl) (by kernel_rfl) (fun _ _ _ h => h) (.inl ⟨rfl, fun W hW => by go_simp; first | omega | trivial⟩) x0 ?_
            refine wpAnyH_take (i := 4) (v := .int .i64 (lc : Int)) rfl (by kernel_rfl) (by kernel_rfl) (by kernel_rfl) (fun _ _ _ h => h) (.inl ⟨rfl, fun W hW => by go_simp⟩) x0 ?_
            refine held_step (j := 7) _ (by kernel_rfl) rfl ?_
            intro N1 hN1
            go_wp2_with (go_at_call 89; refine (hlbs _).mono ?_; rintro e w5 ⟨rfl, rfl⟩)
            refine hN1 _ _ x0 ?_
            try clear hN1 N1
            refine held_step (j := 8) _ (by kernel_rfl) rfl ?_
            intro N2 hN2
            go_wp2_with (go_at_call 52; refine hnum.mono ?_; rintro e w5 ⟨x, q2, b2, rfl, hx, hq2', HN, HNQ, s5⟩)
            have x1 := HCEL.out _ _ _ _ _ s5
            refine hN2 _ _ x1 ?_
            try clear hN2 N2
            have hxt := (HTOP.out x hx).2
            clear hnum s4 x0 hx
            refine held_step (j := 9) _ (by kernel_rfl) rfl ?_
            intro N3 hN3
            go_wp2_with fail
            refine hN3 _ _ x1 ?_
            try clear hN3 N3
            refine held_step (j := 10) _ (by kernel_rfl) rfl ?_
            intro N4 hN4
            go_wp2_with fail
            refine hN4 _ _ x1 ?_
            try clear hN4 N4
            refine wpAnyH_done (by kernel_rfl) ?_ 0
            have s6 := s5.dropR
            clear s5 x1
            have hnn : ((lc : Int) + (x : Int)) = ((lc + x : Nat) : Int) := by omega
            obtain ⟨n, hnv⟩ : ∃ n, lc + x = n := ⟨_, rfl⟩
            rw [hnv] at hxt hnn
            try rw [hnn]
            have hwn : IntKind.i64.wrap ((lc : Int) + (x : Int)) = (n : Int) := by rw [hnn]; exact IntWalk.i64_in _ (by omega)
            try rw [hwn]
            cases b2 with
            | true =>
              have hX : X = none := HST.out (by rw [show numAt R q' lb = none from by have := HN.out; simpa using this]; rfl)
              have hsy := sym10_bad s6 vb
              clear HST HON HN HNQ HTOP HCEL
              go_wp2_with fail
              refine hsy.mono ?_
              rintro e w7 ⟨rfl, s7⟩
              clear hsy s6
              obtain ⟨c6, f6⟩ := s7.at6
              have s8 := s7.set6
              have hfin := HBAD.out _ _ _ s8 hq2' hX
              clear hX
              go_wp2
              refine bodyPost_ret (results_none rfl _ _ _) rfl ?_
              exact ⟨rfl, hfin⟩
            | false =>
              have hN : numAt R q' lb = some (x, q2) := by have := HN.out; simpa using this
              have hst := HST.out
              have hon := HON.out
              rw [hN] at hst hon
              simp only [Option.bind_some, hnv] at hst hon
              have HST2 := Lib.hid hst
              have HON2 := Lib.hid hon
              have hqq2 := HNQ.out rfl
              clear HST HON HN HNQ HTOP HCEL hst hon hN
              have hsy := sym10_get s6 hR2 hCb hq2'
              cases hs2 : symAt Q R q2 with
              | none =>
                rw [hs2] at hsy
                simp only at hsy
                have hX : X = none := HST2.out (by unfold farAt; rw [hs2]; rfl)
                clear HST2 HON2 hs2
                go_wp2_with fail
                refine hsy.mono ?_
                rintro e w7 ⟨rfl, q7, hq7, s7⟩
                clear hsy s6
                obtain ⟨c6, f6⟩ := s7.at6
                have s8 := s7.set6
                have hfin := HBAD.out _ _ _ s8 hq7 hX
                clear hX
                go_wp2
                refine bodyPost_ret (results_none rfl _ _ _) rfl ?_
                exact ⟨rfl, hfin⟩
              | some dd =>
                obtain ⟨d, q3⟩ := dd
                rw [hs2] at hsy
                simp only at hsy
                obtain ⟨hq3a, hq3b⟩ := symAt_le hs2
                by_cases hd : 29 < d
                · have hX : X = none := HST2.out (by unfold farAt; rw [hs2]; simp only [Option.bind_some]; rw [if_pos hd]; rfl)
                  clear HST2 HON2 hs2
                  go_wp2_with fail
                  refine hsy.mono ?_
                  rintro e w7 ⟨rfl, s7⟩
                  clear hsy s6
                  obtain ⟨c6, f6⟩ := s7.at6
                  have s8 := s7.set6
                  have hfin := HBAD.out _ _ _ s8 hq3b hX
                  clear hX
                  go_wp2
                  refine bodyPost_ret (results_none rfl _ _ _) rfl ?_
                  exact ⟨rfl, hfin⟩
                · have hfe : farAt Q R q2 = (numAt R q3 (disB d)).bind fun y => some (disL d + y.1, y.2) := by unfold farAt; rw [hs2]; simp only [Option.bind_some]; rw [if_neg hd]
                  have hst := HST2.out
                  have hon := HON2.out
                  rw [hfe] at hst hon
                  have HST3 := Lib.hid hst
                  have HON3 := Lib.hid hon
                  clear HST2 HON2 hs2 hst hon hfe
                  have hdb := disB_le d (by omega)
                  have HTOP := Lib.hid (fun y hy => dis_top d y (by omega) hy)
                  obtain ⟨db, hdb0⟩ : ∃ db, disB d = db := ⟨_, rfl⟩
                  have hdbs : ∀ W, Calls Tryz.prog 91 #[.int .i64 (d : Int)] W fun e w' => e = .returned (.int .i64 (db : Int)) ∧ W = w' := fun W => by
                    rw [← hdb0]
                    exact disBits_any W d (by omega)
                  have hcel : ∀ W g q o b, Str B w0 W (numsT 3 g 30 disF :: r2) sb rv bv keep q o b → W.cell? ⟨g, d, none⟩ = some (.int .i64 (disL d : Int)) := fun W g q o b s => s.disCell d (by omega)
                  have hdp := disL_pos d (by omega)
                  rw [hdb0] at HST3 HON3 HTOP hdb
                  obtain ⟨dl, hdl⟩ : ∃ dl, disL d = dl := ⟨_, rfl⟩
                  rw [hdl] at HST3 HON3 HTOP hcel hdp
                  have HCEL := Lib.hid hcel
                  clear hcel hdl hdb0
                  go_wp2_with fail
                  refine hsy.mono ?_
                  rintro e w7 ⟨rfl, s7⟩
                  clear hsy s6
                  obtain ⟨c6, f6⟩ := s7.at6
                  have hdiss := diss10_st s7.drew
                  go_wp2
                  clear c6 f6
                  refine region_seg (by kernel_rfl) [4, 5, 1] 7 rfl (by kernel_rfl) (by kernel_rfl) (fun _ _ d _ _ h => by cases d <;> exact h) ?_
                  generalize w7.drew = we at *
                  intro K hK
                  simp only [pickL, List.getElem?_cons_zero, List.getElem?_cons_succ]
                  go_wp2_with fail
                  try clear hK K
                  refine mid_seg [0] 6 (by kernel_rfl) (by kernel_rfl) (fun _ _ d _ _ h => by cases d <;> exact h) ?_
                  intro K2 hK2
                  simp only [pickL, List.getElem?_cons_zero]
                  go_wp2_with (go_at_call 90; refine hdiss.mono ?_; rintro e w8 ⟨g, rfl, s8⟩)
                  try clear hK2 K2
                  clear hdiss s7
                  have x0 := HCEL.out _ _ _ _ _ s8
                  have hnum := num10_any s8 hR2.more db (by omega) hq3b
                  refine wpAny_of_held (S := fun W => W.cell? ⟨g, d, none⟩ = some (.int .i64 (dl : Int))) _ _ _ _ ?_
                  refine wpAnyH_take (i := 2) (v := .pointer (some ⟨g, d, none⟩)) rfl (by kernel_rfl) (by kernel_rfl) (by kernel_rfl) (fun _ _ _ h => h) (.inl ⟨rfl, fun W hW => by go_simp; first | omega | trivial⟩) x0 ?_
                  refine wpAnyH_take (i := 3) (v := .int .i64 (dl : Int)) rfl (by kernel_rfl) (by kernel_rfl) (by kernel_rfl) (fun _ _ _ h => h) (.inl ⟨rfl, fun W hW => by go_simp⟩) x0 ?_
                  refine held_step (j := 6) _ (by kernel_rfl) rfl ?_
                  intro N1 hN1
                  go_wp2_with (go_at_call 91; refine (hdbs _).mono ?_; rintro e w9 ⟨rfl, rfl⟩)
                  refine hN1 _ _ x0 ?_
                  try clear hN1 N1
                  refine held_step (j := 7) _ (by kernel_rfl) rfl ?_
                  intro N2 hN2
                  go_wp2_with (go_at_call 52; refine hnum.mono ?_; rintro e w9 ⟨y, q4, b4, rfl, hy, hq4, HN, HNQ, s9⟩)
                  have x1 := HCEL.out _ _ _ _ _ s9
                  refine hN2 _ _ x1 ?_
                  try clear hN2 N2
                  have hyt := (HTOP.out y hy).2
                  clear hnum s8 x0 hy
                  refine held_step (j := 8) _ (by kernel_rfl) rfl ?_
                  intro N3 hN3
                  go_wp2_with fail
                  refine hN3 _ _ x1 ?_
                  try clear hN3 N3
                  refine held_step (j := 9) _ (by kernel_rfl) rfl ?_
                  intro N4 hN4
                  go_wp2_with fail
                  refine hN4 _ _ x1 ?_
                  try clear hN4 N4
                  refine wpAnyH_done (by kernel_rfl) ?_ 0
                  have s10 := s9.dropR
                  clear s9 x1
                  have hff : ((dl : Int) + (y : Int)) = ((dl + y : Nat) : Int) := by omega
                  obtain ⟨far, hfv⟩ : ∃ far, dl + y = far := ⟨_, rfl⟩
                  rw [hfv] at hyt hff
                  try rw [hff]
                  have hwf : IntKind.i64.wrap ((dl : Int) + (y : Int)) = (far : Int) := by rw [hff]; exact IntWalk.i64_in _ (by omega)
                  try rw [hwf]
                  have hfp : 1 ≤ far := by omega
                  obtain ⟨c6, f6⟩ := s10.at6
                  obtain ⟨oa, oc, c3', c4', c5', -⟩ := s10.at345
                  cases b4 with
                  | true =>
                    have hX : X = none := HST3.out (by rw [show numAt R q3 db = none from by have := HN.out; simpa using this]; rfl)
                    have s11 := s10.set6
                    have hfin := HBAD.out _ _ _ s11 hq4 hX
                    clear HST3 HON3 HN HNQ HTOP HCEL hX
                    go_wp2
                    refine bodyPost_ret (results_none rfl _ _ _) rfl ?_
                    exact ⟨rfl, hfin⟩
                  | false =>
                    have hN : numAt R q3 db = some (y, q4) := by have := HN.out; simpa using this
                    have hst := HST3.out
                    have hon := HON3.out
                    rw [hN] at hst hon
                    simp only [Option.bind_some, hfv] at hst hon
                    have hqq4 := HNQ.out rfl
                    have HST4 := Lib.hid hst
                    have HON4 := Lib.hid hon
                    clear HST3 HON3 HN HNQ HTOP HCEL hst hon hN hfv
                    by_cases hov : o.length < far
                    · have hX : X = none := HST4.out (by rw [if_pos hov])
                      have s11 := s10.set6
                      have hfin := HBAD.out _ _ _ s11 hq4 hX
                      clear HST4 HON4 hX
                      go_wp2
                      refine bodyPost_ret (results_none rfl _ _ _) rfl ?_
                      exact ⟨rfl, hfin⟩
                    · have hX : syms P Q R q4 (Tok.rep far n o) = X := HON4.out _ _ (by rw [if_neg hov])
                      have HX := Lib.hid hX
                      clear HST4 HON4 hX
                      go_wp2
                      go_loopw [14, 15] (fun i _ wi => ∃ k : Nat, k ≤ n ∧ i = .int .i64 (k : Int) ∧ Str B w0 wi r2 sb rv bv keep q4 (Tok.rep far k o) false) (fun i _ _ => n - (intOf i).toNat)
                      case atStart => exact ⟨0, Nat.zero_le _, rfl, s10⟩
                      case round =>
                        clear s10 c6 f6 c3' c4' c5'
                        obtain ⟨k, hkn, rfl, s11⟩ := hrel
                        by_cases hkl : k < n
                        · have hzl : (Tok.rep far k o).length = o.length + k := Tok.rep_length far k o
                          have hmore := Tok.rep_more far k o
                          obtain ⟨oa, oc, c3', c4', c5', hcell⟩ := s11.at345
                          have HM := Lib.hid hmore
                          clear hmore
                          generalize Tok.rep far k o = ok at *
                          have hput := fun (W : World) (c : Nat) (s : Str B w0 W r2 sb rv bv keep q4 ok false) => put10_st s c hk (by omega)
                          by_cases hkeep : ok.length < keep
                          · have htk : ok.take keep = ok := List.take_of_length_le (by omega)
                            rw [htk] at hcell c3'
                            obtain ⟨g, rfl, hcells⟩ := hcell (by omega)
                            obtain ⟨j, hj⟩ : ∃ j, ok.length - far = j := ⟨_, rfl⟩
                            have hj2 : (ok.length : Int) - (far : Int) = (j : Int) := by omega
                            have hcj := hcells j (by omega)
                            have hbyte : ok.getD (ok.length - far) 0 = ok[j]'(by omega) := by rw [hj, getD_in _ _ (by omega)]
                            have hM2 := HM.out
                            rw [hbyte] at hM2
                            have HM2 := Lib.hid hM2
                            clear HM hbyte hM2 hcells hcell htk
                            generalize ok[j]'(by omega) = x at *
                            have hjl : j < ok.length := by omega
                            have hzb : ok.length ≤ 20000000 := by omega
                            clear hzl hj
                            generalize ok.length = z at *
                            have hwj : IntKind.i64.wrap ((z : Int) - (far : Int)) = (j : Int) := by rw [hj2]; exact IntWalk.i64_in _ (by omega)
                            go_wp2
                            go_quiet (fail)
                            go_wp2
                            go_quiet (fail)
                            go_wp2_with (go_at_call 85; refine (hput _ x (by first | exact s11.drewN _ | exact (s11.drewN _).drewN _)).mono ?_; rintro e w12 ⟨rfl, s12⟩)
                            refine ⟨⟨k + 1, by omega, by go_num, by rw [HM2.out]; exact s12⟩, by simp [intOf]; omega⟩
                          · have hput2 := fun (W : World) (s : Str B w0 W r2 sb rv bv keep q4 ok false) => (hput W 0 s).mono (fun e w' (h : e = .returned (.tuple #[]) ∧ Str B w0 w' r2 sb rv bv keep q4 (ok ++ [0]) false) => (⟨h.1, h.2.same (out' := Tok.rep far (k + 1) o) (by rw [HM.out]; simp) (by rw [HM.out, List.take_append_of_le_length (by omega), List.take_append_of_le_length (by omega)])⟩ : e = .returned (.tuple #[]) ∧ Str B w0 w' r2 sb rv bv keep q4 (Tok.rep far (k + 1) o) false))
                            clear hput HM hcell
                            go_wp2
                            go_quiet (fail)
                            go_wp2_with (go_at_call 85; refine (hput2 _ (by first | exact s11.drewN _ | exact (s11.drewN _).drewN _)).mono ?_; rintro e w12 ⟨rfl, s12⟩)
                            refine ⟨⟨k + 1, by omega, by go_num, s12⟩, by simp [intOf]; omega⟩
                        · obtain rfl : k = n := by omega
                          have hzl : (Tok.rep far k o).length = o.length + k := Tok.rep_length far k o
                          have hm4 := s11.at2.1
                          go_wp2
                          refine ⟨⟨q4, Tok.rep far k o, by omega, hq4, HX, by omega, s11⟩, ?_⟩
                          rw [hm4, hm2]
                          simp [intOf]
                          omega

end
end Go.Proofs.YtpcbhmkalofkmaaGreat.Inf

/-
  Contracts of pressworkref10: fixed, block. No conditions but that rows are small.
-/
namespace Go.Proofs.YtpcbhmkalofkmaaGreat.Inf
open Go.RowKit Kraft Hd

section
variable {B : Nat} {w0 w : World} {r : List Thing} {sb : Nat} {rv bv : Value} {R : List Bool} {keep p : Nat} {out : List Nat} {bad : Bool}

theorem fill_set (l : List Nat) (n k x : Nat) (hk : k < n) (hn : l.length = n) (hx : l[k]? = some x) : (l.take k ++ List.replicate (n - k) 0).set k x = l.take (k + 1) ++ List.replicate (n - (k + 1)) 0 := by
  have hl : (l.take k).length = k := by rw [List.length_take]; omega
  obtain ⟨h1, h2⟩ := List.getElem?_eq_some_iff.1 hx
  rw [List.set_append_right _ _ (by omega), hl, Nat.sub_self, show n - k = (n - (k + 1)) + 1 from by omega, List.replicate_succ, List.set_cons_zero, List.take_add_one, hx, List.append_assoc]
  rfl

theorem fill_over (l : List Nat) (n k x y : Nat) (hk : k < n) (hn : l.length = n) (hx : l[k]? = some x) : ((l.take k ++ List.replicate (n - k) 0).set k y).set k x = l.take (k + 1) ++ List.replicate (n - (k + 1)) 0 := by
  rw [List.set_set]
  exact fill_set l n k x hk hn hx

theorem fixP_at (k : Nat) (hk : k < 288) : fixP[k]? = some (if 143 < k ∧ k < 256 then 9 else if 255 < k ∧ k < 280 then 7 else 8) := by
  have : ∀ k, k < 288 → fixP[k]? = some (if 143 < k ∧ k < 256 then 9 else if 255 < k ∧ k < 280 then 7 else 8) := by decide +kernel
  exact this k hk
theorem fixQ_at (k : Nat) (hk : k < 32) : fixQ[k]? = some 5 := by
  have : ∀ k, k < 32 → fixQ[k]? = some 5 := by decide +kernel
  exact this k hk
theorem fixP_length : fixP.length = 288 := by decide +kernel
theorem fixQ_length : fixQ.length = 32 := by decide +kernel

set_option maxRecDepth 100000 in
set_option maxHeartbeats 1000000 in
theorem fixed10_st (st : St B w0 w r) : Calls Tryz.prog 55 #[] w fun e w' => ∃ g, e = .returned (.slice (some ⟨g, 0, none⟩) 288 288) ∧ St B w0 w' (bytesT g 288 fixP :: r) := by
  obtain ⟨i0, hi, hz0, hz1, hz2⟩ := info_parts info8
  have hmk : i0.bytes * 288 ≤ 281474976710656 := by rw [hz2]; omega
  have hmx : 288 ≤ maxLen := by unfold maxLen; omega
  go_enter Tryz.func55, Tryz.ntmps55
  go_wp2_with (at_make; refine wpList_make_full _ rfl _ _ 22 rfl w.heap.size 5 i0 (.int .u8 0) 1 Tryz.underlying22 hi hz0 hz1 _ _ _ _ 288 rfl rfl rfl rfl hmk hmx (Nat.le_refl _) ?_)
  intro w1 hown hgrow
  have s1 := st.made hown hgrow
  clear hown hgrow hi hz0 hz1 hz2 hmk hmx st
  obtain ⟨g, hg⟩ : ∃ g, g = w.heap.size := ⟨_, rfl⟩
  rw [← hg] at s1
  try rw [← hg]
  clear hg
  go_wp2
  go_loopw [2] (fun iv wr => ∃ k : Nat, k ≤ 288 ∧ iv = .int .i64 (k : Int) ∧ St B w0 wr (bytesT g 288 (fixP.take k ++ List.replicate (288 - k) 0) :: r)) (fun iv _ => 288 - (intOf iv).toNat)
  case atStart => exact ⟨0, Nat.zero_le _, rfl, s1⟩
  case round =>
    clear s1
    obtain ⟨k, hk, rfl, t1⟩ := hrel
    by_cases hlt : k < 288
    · have hl : (fixP.take k ++ List.replicate (288 - k) 0).length = 288 := by rw [List.length_append, List.length_take, List.length_replicate, fixP_length]; omega
      obtain ⟨f0, f1⟩ := t1.rowCell k hl hlt
      have hat := fixP_at k hlt
      have hs1 := fun x hx => fill_set fixP 288 k x hlt fixP_length hx
      have hs2 := fun x y hx => fill_over fixP 288 k x y hlt fixP_length hx
      have t2 := t1.put k 8
      by_cases ha : 143 < k ∧ k < 256
      · rw [if_pos ha] at hat
        have t3 := t2.put k 9
        rw [hs2 _ _ hat] at t3
        obtain ⟨f2, f3⟩ := t2.rowCell k (by rw [List.length_set]; exact hl) hlt
        clear hs1 hs2 hat
        obtain ⟨ha1, ha2⟩ := ha
        go_wp2
        exact ⟨⟨k + 1, by omega, by go_num, t3⟩, by simp [intOf]; omega⟩
      · rw [if_neg ha] at hat
        by_cases hb : 255 < k ∧ k < 280
        · rw [if_pos hb] at hat
          have t3 := t2.put k 7
          rw [hs2 _ _ hat] at t3
          obtain ⟨f2, f3⟩ := t2.rowCell k (by rw [List.length_set]; exact hl) hlt
          clear hs1 hs2 hat ha
          obtain ⟨hb1, hb2⟩ := hb
          go_wp2
          exact ⟨⟨k + 1, by omega, by go_num, t3⟩, by simp [intOf]; omega⟩
        · rw [if_neg hb] at hat
          rw [hs1 _ hat] at t2
          clear hs1 hs2 hat
          have hc : k ≤ 143 ∨ 280 ≤ k := by omega
          clear ha hb
          rcases hc with hc | hc
          · go_wp2
            exact ⟨⟨k + 1, by omega, by go_num, t2⟩, by simp [intOf]; omega⟩
          · go_wp2
            exact ⟨⟨k + 1, by omega, by go_num, t2⟩, by simp [intOf]; omega⟩
    · obtain rfl : k = 288 := by omega
      rw [List.take_of_length_le (by rw [fixP_length]; omega), Nat.sub_self, List.replicate_zero, List.append_nil] at t1
      go_wp2
      go_ret
      exact ⟨g, rfl, t1⟩

/-- What is none, behind a block. -/
def NoneSt (B : Nat) (w0 w : World) (r : List Thing) (sb : Nat) : Prop := ∃ cs, cs[6]? = some (.bool true) ∧ St B w0 w (boxT sb cs 70 :: r)

theorem Str.isNone (h : Str B w0 w r sb rv bv keep p out true) : NoneSt B w0 w r sb := by
  obtain ⟨oa, oc, st⟩ := h.st
  exact ⟨_, rfl, st.swap.drop⟩

theorem Str.noneAt (h : Str B w0 w r sb rv bv keep p out bad) (u : Value) : NoneSt B w0 ((w.setCell ⟨sb, 2, none⟩ u).setCell ⟨sb, 6, none⟩ (.bool true)) r sb := by
  obtain ⟨oa, oc, st⟩ := h.st
  exact ⟨_, rfl, ((st.setBoxAt 2 u).setBoxAt 6 (.bool true)).swap.drop⟩

/-- What a block comes to. -/
def BlockSt (B : Nat) (w0 : World) (r : List Thing) (sb : Nat) (rv bv : Value) (keep : Nat) (x : Option (Bool × Nat × List Nat)) (e : Ending) (w' : World) : Prop :=
  match x with
  | none => ∃ b, e = .returned (.bool b) ∧ NoneSt B w0 w' r sb
  | some (b, q, o) => e = .returned (.bool b) ∧ Str B w0 w' r sb rv bv keep q o false

/-- Get of a header, over a Stream. -/
theorem head10_no (h : Str B w0 w r sb rv bv keep p out false) (hR : RowsOf B w0 r rv bv R) (hp : p ≤ R.length) (k : Nat) (hd : headAt R p = none) :
    Calls Tryz.prog 56 #[rv, .int .i64 (p : Int)] (w.drewN k) fun e w' => ∃ q : Int, e = .returned (.tuple #[.slice none 0 0, .slice none 0 0, .int .i64 q, .int .i64 2]) ∧ Str B w0 w' r sb rv bv keep p out false := by
  obtain ⟨oa, oc, st⟩ := h.st
  refine (refHead_st (st.drewN k) rv R (fun W s => hR.row W s.drop.drop) hR.small p hp).mono ?_
  intro e w' hh
  unfold HeadSt at hh
  rw [hd] at hh
  obtain ⟨q, he, s⟩ := hh
  exact ⟨q, he, ⟨oa, oc, s⟩⟩
theorem head10_yes (h : Str B w0 w r sb rv bv keep p out false) (hR : RowsOf B w0 r rv bv R) (hp : p ≤ R.length) (k : Nat) {P Q : List Nat} {q : Nat} (hd : headAt R p = some (P, Q, q)) :
    Calls Tryz.prog 56 #[rv, .int .i64 (p : Int)] (w.drewN k) fun e w' => ∃ g cap, e = .returned (.tuple #[.slice (some ⟨g, 0, none⟩) P.length cap, .slice (some ⟨g, P.length, none⟩) Q.length (cap - P.length), .int .i64 (q : Int), .int .i64 0]) ∧
      Str B w0 w' (rowT 5 1 (.slice (some ⟨g, 0, none⟩) (P ++ Q).length cap) (P ++ Q).length (u8s (P ++ Q)) :: r) sb rv bv keep p out false := by
  obtain ⟨oa, oc, st⟩ := h.st
  refine (refHead_st (st.drewN k) rv R (fun W s => hR.row W s.drop.drop) hR.small p hp).mono ?_
  intro e w' hh
  unfold HeadSt at hh
  rw [hd] at hh
  obtain ⟨g, cap, he, s⟩ := hh
  exact ⟨g, cap, he, Str.of s⟩

end
end Go.Proofs.YtpcbhmkalofkmaaGreat.Inf
