/-
  InfD InfE InfF InfG, one behind the other (merged by wip/merge.py). No conditions but those that each states.
-/
import Derived.Test.YtpinfihmageeoaaGreatGH
import Derived.Test.YtpinfihmageeoaaGreatGO
import Derived.Test.YtpinfihmageeoaaGreatGC
import Derived.Test.YtpinfihmageeoaaGreatGW
import Derived.Test.YtpinfihmageeoaaGreatGR

namespace Go.Proofs.YtpinfihmageeoaaGreat.Inf
open Go.RowKit Kraft Hd

section
variable {B : Nat} {w0 w : World} {r : List Thing} {sb : Nat} {rv bv : Value} {R : List Bool} {keep p : Nat} {out : List Nat} {bad : Bool}

theorem Str.dropR {A : Thing} (h : Str B w0 w (A :: r) sb rv bv keep p out bad) : Str B w0 w r sb rv bv keep p out bad := by
  obtain ⟨oa, oc, st⟩ := h.st
  exact ⟨oa, oc, (st.front 2).drop⟩
theorem Str.overR {A : Thing} {Q : World → Prop} (h : Str B w0 w r sb rv bv keep p out bad) (f : ∀ l, St B w0 w l → ∀ w', Q w' → St B w0 w' (A :: l)) (w' : World) (hq : Q w') : Str B w0 w' (A :: r) sb rv bv keep p out bad := by
  obtain ⟨oa, oc, st⟩ := h.st
  exact ⟨oa, oc, ((f _ st w' hq).front 2).front 2⟩
theorem Str.makes {f : FuncId} {args : Array Value} {C : Ending → World → List Thing → Prop} (h : Str B w0 w r sb rv bv keep p out bad) (c : ∀ l, St B w0 w l → Calls Tryz.prog f args w fun e w' => C e w' l)
    {D : Ending → World → Prop} (hd : ∀ e w' oa oc, C e w' (boxT sb (strC rv bv p (.slice oa (out.take keep).length oc) keep out.length bad) 111 :: rowT 5 1 (.slice oa (out.take keep).length oc) (out.take keep).length (u8s (out.take keep)) :: r) → D e w') : Calls Tryz.prog f args w D := by
  obtain ⟨oa, oc, st⟩ := h.st
  exact (c _ st).mono fun e w' hc => hd e w' oa oc hc

theorem Str.of {A : Thing} {oa : Option Addr} {oc : Nat} (s : St B w0 w (A :: boxT sb (strC rv bv p (.slice oa (out.take keep).length oc) keep out.length bad) 111 :: rowT 5 1 (.slice oa (out.take keep).length oc) (out.take keep).length (u8s (out.take keep)) :: r)) : Str B w0 w (A :: r) sb rv bv keep p out bad :=
  ⟨oa, oc, (s.front 2).front 2⟩

theorem Str.rest (h : Str B w0 w r sb rv bv keep p out bad) : St B w0 w r := by
  obtain ⟨oa, oc, st⟩ := h.st
  exact st.drop.drop

theorem RowsOf.more {A : Thing} (h : RowsOf B w0 r rv bv R) : RowsOf B w0 (A :: r) rv bv R := ⟨fun W s => h.row W s.drop, fun W s => h.bits W s.drop, h.small, h.addr⟩
theorem CodeAt.more {A : Thing} {wv : Value} {L : List Nat} (h : CodeAt B w0 r wv L) : CodeAt B w0 (A :: r) wv L := ⟨fun W s => h.words W s.drop, h.low, h.weigh, h.few⟩

theorem Str.same {out' : List Nat} (h : Str B w0 w r sb rv bv keep p out bad) (hl : out'.length = out.length) (ht : out'.take keep = out.take keep) : Str B w0 w r sb rv bv keep p out' bad := by
  obtain ⟨oa, oc, st⟩ := h.st
  refine ⟨oa, oc, ?_⟩
  rw [ht, hl]
  exact st

theorem BadStr.dropR {A : Thing} (h : BadStr B w0 w (A :: r) sb rv bv keep R) : BadStr B w0 w r sb rv bv keep R := by
  obtain ⟨p', o', h1, h2⟩ := h
  exact ⟨p', o', h1, h2.dropR⟩
theorem PartSt.dropR {A : Thing} {x : Option (Nat × List Nat)} (h : PartSt B w0 (A :: r) sb rv bv keep R x w) : PartSt B w0 r sb rv bv keep R x w := by
  cases x with
  | none => exact BadStr.dropR h
  | some y => exact Str.dropR h

theorem rows10_st (h : Str B w0 w r sb rv bv keep p out bad) {fv : Value} {P : List Nat} (hF : ByteRow w fv P) (hP : wordsErr P = 0) (hl : P.length ≤ 512) :
    Calls Tryz.prog 100 #[fv] w fun e w' => ∃ v', e = .returned (.tuple #[v', .int .i64 0]) ∧ Str B w0 w' (rowsT v' (rowsOf P) :: r) sb rv bv keep p out bad := by
  obtain ⟨oa, oc, st⟩ := h.st
  refine (refRows_st st fv P hF (by omega)).mono ?_
  rintro e w' (⟨h0, _⟩ | ⟨_, v', rfl, s⟩)
  · exact absurd hP h0
  · exact ⟨v', rfl, Str.of s⟩

theorem lens10_st (h : Str B w0 w r sb rv bv keep p out bad) :
    Calls Tryz.prog 102 #[] w fun e w' => ∃ g, e = .returned (.slice (some ⟨g, 0, none⟩) 29 29) ∧ Str B w0 w' (numsT 3 g 29 lenF :: r) sb rv bv keep p out bad := by
  obtain ⟨oa, oc, st⟩ := h.st
  refine (lens8_st st).mono ?_
  rintro e w' ⟨g, rfl, s⟩
  exact ⟨g, rfl, Str.of s⟩
theorem diss10_st (h : Str B w0 w r sb rv bv keep p out bad) :
    Calls Tryz.prog 104 #[] w fun e w' => ∃ g, e = .returned (.slice (some ⟨g, 0, none⟩) 30 30) ∧ Str B w0 w' (numsT 3 g 30 disF :: r) sb rv bv keep p out bad := by
  obtain ⟨oa, oc, st⟩ := h.st
  refine (diss8_st st).mono ?_
  rintro e w' ⟨g, rfl, s⟩
  exact ⟨g, rfl, Str.of s⟩

theorem Str.lenCell {g : Nat} (h : Str B w0 w (numsT 3 g 29 lenF :: r) sb rv bv keep p out bad) (c : Nat) (h1 : 256 < c) (h2 : c ≤ 285) : w.cell? ⟨g, c - 257, none⟩ = some (.int .i64 (lenL c : Int)) := by
  obtain ⟨oa, oc, st⟩ := h.st
  have hl : lenF.length = 29 := rfl
  have := (St.numCell (st.front 2) (c - 257) hl (by omega)).1
  rw [this, lenF_at _ (by omega), show 257 + (c - 257) = c from by omega]
theorem Str.disCell {g : Nat} (h : Str B w0 w (numsT 3 g 30 disF :: r) sb rv bv keep p out bad) (d : Nat) (h2 : d ≤ 29) : w.cell? ⟨g, d, none⟩ = some (.int .i64 (disL d : Int)) := by
  obtain ⟨oa, oc, st⟩ := h.st
  have hl : disF.length = 30 := rfl
  have := (St.numCell (st.front 2) d hl (by omega)).1
  rw [this, disF_at _ (by omega)]

theorem num10_any (h : Str B w0 w r sb rv bv keep p out bad) (hR : RowsOf B w0 r rv bv R) (n : Nat) (hn : n ≤ 32) (hp : p ≤ R.length) :
    Calls Tryz.prog 72 #[.pointer (some ⟨sb, 0, none⟩), .int .i64 (n : Int)] w fun e w' => ∃ (x q : Nat) (b' : Bool), e = .returned (.int .i64 (x : Int)) ∧ x < 2 ^ n ∧ q ≤ R.length ∧ Hid ((if bad = true then none else numAt R p n) = if b' = true then none else some (x, q)) ∧ Hid (b' = false → q = p + n) ∧ Str B w0 w' r sb rv bv keep q out b' := by
  by_cases hno : bad = true ∨ R.length < p + n
  · refine (num10_no h hR n hn hp hno).mono ?_
    rintro e w' ⟨rfl, s⟩
    refine ⟨0, p, true, rfl, Nat.two_pow_pos _, hp, Lib.hid ?_, Lib.hid (fun h => by cases h), s⟩
    rw [if_pos rfl]
    rcases hno with h | h
    · rw [if_pos h]
    · unfold numAt; rw [if_pos h]; exact ite_self _
  · obtain rfl : bad = false := by cases bad with | true => exact absurd (.inl rfl) hno | false => rfl
    have hl : p + n ≤ R.length := by
      rcases Nat.lt_or_ge R.length (p + n) with g | g
      · exact absurd (.inr g) hno
      · exact g
    refine (num10_ok h hR n hn hl).mono ?_
    rintro e w' ⟨rfl, s⟩
    refine ⟨nm R p n, p + n, false, rfl, nm_lt R p n, hl, Lib.hid ?_, Lib.hid (fun _ => rfl), s⟩
    unfold numAt
    rw [if_neg (by decide), if_neg (by omega), if_neg (by decide)]

theorem Str.drew (h : Str B w0 w r sb rv bv keep p out bad) : Str B w0 w.drew r sb rv bv keep p out bad := by
  obtain ⟨oa, oc, st⟩ := h.st
  exact ⟨oa, oc, st.drew⟩

theorem Str.at345 (h : Str B w0 w r sb rv bv keep p out bad) : ∃ oa oc, w.cell? ⟨sb, 3, none⟩ = some (.slice oa (out.take keep).length oc) ∧ w.cell? ⟨sb, 4, none⟩ = some (.int .i64 (keep : Int)) ∧ w.cell? ⟨sb, 5, none⟩ = some (.int .i64 (out.length : Int)) ∧
    (0 < (out.take keep).length → ∃ g, oa = some ⟨g, 0, none⟩ ∧ ∀ i (hi : i < (out.take keep).length), w.cell? ⟨g, i, none⟩ = some (.int .u8 ((out.take keep)[i] : Int))) := by
  obtain ⟨oa, oc, st⟩ := h.st
  refine ⟨oa, oc, (st.boxAt 3).1, (st.boxAt 4).1, (st.boxAt 5).1, fun h0 => ?_⟩
  obtain ⟨g, cap, e, hc⟩ := st.swap.rowShape h0
  obtain ⟨rfl, -, rfl⟩ := Value.slice.inj e
  exact ⟨g, rfl, fun i hi => by rw [st.swap.row.cellAt i (by omega), u8s_get _ _ hi]⟩

set_option maxRecDepth 100000 in
set_option maxHeartbeats 4000000 in
theorem symbols10_st (h : Str B w0 w r sb rv bv keep p out false) (hR : RowsOf B w0 r rv bv R) (hp : p ≤ R.length) (hk : keep ≤ 100000) (ho : out.length + 258 * R.length ≤ 10000000) {fv ov : Value} {P Q : List Nat}
    (hF : ∀ W, St B w0 W r → ByteRow W fv P) (hO : ∀ W, St B w0 W r → ByteRow W ov Q) (hP0 : 0 < P.length) (hQ0 : 0 < Q.length) (hP : wordsErr P = 0) (hQ : wordsErr Q = 0) :
    Calls Tryz.prog 74 #[.pointer (some ⟨sb, 0, none⟩), fv, ov] w fun e w' => e = .returned (.tuple #[]) ∧ PartSt B w0 r sb rv bv keep R (syms P Q R p out) w' := by
  obtain ⟨X, hXX⟩ : ∃ X, syms P Q R p out = X := ⟨_, rfl⟩
  rw [hXX]
  have HXX := Lib.hid hXX
  clear hXX
  have hPm := wordsErr_ok hP
  have hQm := wordsErr_ok hQ
  have hPf := (may_iff P).1 hPm.1
  have hQf := (may_iff Q).1 hQm.1
  have h20 : ∀ L : List Nat, (∀ x ∈ L, x ≤ 20) → ∀ j, len L j ≤ 20 := by
    intro L hL j
    unfold len
    by_cases hj : j < L.length
    · rw [getD_in _ _ hj]; exact hL _ (List.getElem_mem hj)
    · rw [getD_out _ _ (by omega)]; omega
  have hrow1 := rows10_st h (hF _ h.rest) hP hPf.1
  have hsm := hR.small
  go_enter Tryz.func74, Tryz.ntmps74
  go_wp2_with fail
  refine hrow1.mono ?_
  rintro e w1 ⟨va, rfl, s1⟩
  have hrow2 := rows10_st s1 (hO _ s1.dropR.rest) hQ hQf.1
  clear hrow1
  go_wp2_with fail
  refine hrow2.mono ?_
  rintro e w2 ⟨vb, rfl, s2⟩
  clear hrow2 s1 h
  have hR2 := (hR.more (A := rowsT va (rowsOf P))).more (A := rowsT vb (rowsOf Q))
  have hCa : CodeAt B w0 (rowsT vb (rowsOf Q) :: rowsT va (rowsOf P) :: r) va P := codeAt_rows hP0 (h20 P hPf.2) hPm.2 hPf.1 (fun W s => ⟨_, s.drop⟩)
  have hCb : CodeAt B w0 (rowsT vb (rowsOf Q) :: rowsT va (rowsOf P) :: r) vb Q := codeAt_rows hQ0 (h20 Q hQf.2) hQm.2 hQf.1 (fun W s => ⟨_, s⟩)
  have hfn : ∀ W x, PartSt B w0 (rowsT vb (rowsOf Q) :: rowsT va (rowsOf P) :: r) sb rv bv keep R x W → PartSt B w0 r sb rv bv keep R x W := fun W x s => s.dropR.dropR
  have HFN := Lib.hid hfn
  clear hfn hF hO hR h20 hPm hQm hPf hQf hP hQ hP0 hQ0
  generalize rowsT vb (rowsOf Q) :: rowsT va (rowsOf P) :: r = r2 at *
  have hbad : ∀ W q o, Str B w0 W r2 sb rv bv keep q o true → q ≤ R.length → X = none → PartSt B w0 r sb rv bv keep R X W := fun W q o s hq hX => by
    rw [hX]
    exact HFN.out W none ⟨q, o, hq, s⟩
  have HBAD := Lib.hid hbad
  clear hbad
  go_wp2
  go_loopw [10, 11, 12, 13, 14, 15] (fun _ _ _ _ _ _ wr => ∃ q o, p ≤ q ∧ q ≤ R.length ∧ Hid (syms P Q R q o = X) ∧ o.length ≤ out.length + 258 * (q - p) ∧ Str B w0 wr r2 sb rv bv keep q o false) (fun _ _ _ _ _ _ wr => match wr.cell? ⟨sb, 2, none⟩ with | some v => R.length - (intOf v).toNat | none => 0)
  case atStart => exact ⟨p, out, Nat.le_refl _, hp, HXX, by omega, s2⟩
  case round =>
    clear s2
    obtain ⟨q, o, hq1, hq2, HS, hol, h1⟩ := hrel
    have hm2 := h1.at2.1
    have hc := sym10_get h1 hR2 hCa hq2
    cases hs : symAt P R q with
    | none =>
      rw [hs] at hc
      simp only at hc
      have hX : X = none := by rw [← HS.out]; exact syms_none (step_bad hs)
      have HX := Lib.hid hX
      clear hX hs h1 hm2
      go_wp2_with fail
      refine hc.mono ?_
      rintro e w3 ⟨rfl, q3, hq3, s3⟩
      clear hc
      obtain ⟨c6, f6⟩ := s3.at6
      have hfin := HBAD.out _ _ _ s3 hq3 HX.out
      go_wp2
      refine bodyPost_ret (results_none rfl _ _ _) rfl ?_
      exact ⟨rfl, hfin⟩
    | some cc =>
      obtain ⟨c, q'⟩ := cc
      rw [hs] at hc
      simp only at hc
      obtain ⟨hqq, hqR⟩ := symAt_le hs
      have hlt : q < R.length := by omega
      have HSY := Lib.hid hs
      by_cases c1 : c = 256
      · subst c1
        have hX : X = some (q', o) := by rw [← HS.out]; exact syms_end hlt (step_eob hs)
        have HX := Lib.hid hX
        clear hX hs h1 hm2
        go_wp2_with fail
        refine hc.mono ?_
        rintro e w3 ⟨rfl, s3⟩
        clear hc
        obtain ⟨c6, f6⟩ := s3.at6
        have hfin : PartSt B w0 r sb rv bv keep R X w3 := by rw [HX.out]; exact HFN.out _ (some (q', o)) s3
        go_wp2
        refine bodyPost_ret (results_none rfl _ _ _) rfl ?_
        exact ⟨rfl, hfin⟩
      · have ne256 : ((c : Int) == 256) = false := by rw [beq_eq_false_iff_ne]; omega
        by_cases c2 : c < 256
        · have hX : syms P Q R q' (o ++ [c]) = X := by rw [← HS.out]; exact (syms_on hlt (step_lit hs c2)).symm
          have HX := Lib.hid hX
          clear hX hs h1
          go_wp2_with fail
          refine hc.mono ?_
          rintro e w3 ⟨rfl, s3⟩
          clear hc
          obtain ⟨c6, f6⟩ := s3.at6
          have hput := put10_st s3 c hk (by omega)
          go_wp2_with (go_at_call 99; refine hput.mono ?_; rintro e w4 ⟨rfl, s4⟩)
          have hm4 := s4.at2.1
          refine ⟨⟨q', o ++ [c], by omega, hqR, HX, by rw [List.length_append, List.length_singleton]; omega, s4⟩, ?_⟩
          rw [hm4, hm2]
          simp [intOf]
          omega
        · by_cases c3 : 285 < c
          · have hX : X = none := by rw [← HS.out]; exact syms_none (step_over hs c3)
            have HX := Lib.hid hX
            clear hX hs h1 hm2
            go_wp2_with fail
            refine hc.mono ?_
            rintro e w3 ⟨rfl, s3⟩
            clear hc
            obtain ⟨c6, f6⟩ := s3.at6
            have s4 := s3.set6
            have hfin := HBAD.out _ _ _ s4 hqR HX.out
            go_wp2
            refine bodyPost_ret (results_none rfl _ _ _) rfl ?_
            exact ⟨rfl, hfin⟩
          · have hst : step P Q R q o = none → X = none := fun h => by rw [← HS.out]; exact syms_none h
            have hon : ∀ q4 o4, step P Q R q o = some (false, q4, o4) → syms P Q R q4 o4 = X := fun q4 o4 h => by rw [← HS.out]; exact (syms_on hlt h).symm
            rw [step_len hs (by omega) (by omega)] at hst hon
            have HST := Lib.hid hst
            have HON := Lib.hid hon
            have hlt9 := hm2
            clear hst hon hs h1 HS HSY
            have HTOP := Lib.hid (fun x hx => len_top c x (by omega) (by omega) hx)
            have hlb := lenB_le c (by omega) (by omega)
            obtain ⟨lb, hlb0⟩ : ∃ lb, lenB c = lb := ⟨_, rfl⟩
            have hlbs : ∀ W, Calls Tryz.prog 103 #[.int .i64 (c : Int)] W fun e w' => e = .returned (.int .i64 (lb : Int)) ∧ W = w' := fun W => by
              rw [← hlb0]
              exact lenBits_any W c (by omega) (by omega)
            have hcel : ∀ W g q o b, Str B w0 W (numsT 3 g 29 lenF :: r2) sb rv bv keep q o b → W.cell? ⟨g, c - 257, none⟩ = some (.int .i64 (lenL c : Int)) := fun W g q o b s => s.lenCell c (by omega) (by omega)
            rw [hlb0] at HST HON HTOP hlb
            obtain ⟨lc, hlc⟩ : ∃ lc, lenL c = lc := ⟨_, rfl⟩
            rw [hlc] at HST HON HTOP hcel
            clear hlc hlb0
            have HCEL := Lib.hid hcel
            clear hcel
            have hcc : ((c : Int) - 257) = ((c - 257 : Nat) : Int) := by omega
            obtain ⟨c7, hc7⟩ : ∃ c7, c - 257 = c7 := ⟨_, rfl⟩
            rw [hc7] at hcc HCEL
            have hc7b : c7 ≤ 28 := by omega
            go_wp2_with fail
            refine hc.mono ?_
            rintro e w3 ⟨rfl, s3⟩
            clear hc
            obtain ⟨c6, f6⟩ := s3.at6
            have hlens := lens10_st s3.drew
            clear hc7
            go_wp2
            clear c6 f6
            refine region_seg (by kernel_rfl) [5, 6, 1] 8 rfl (by kernel_rfl) (by kernel_rfl) (fun _ _ d _ _ h => by cases d <;> exact h) ?_
            generalize w3.drew = wd at *
            intro K hK
            simp only [pickL, List.getElem?_cons_zero, List.getElem?_cons_succ]
            go_wp2_with fail
            try clear hK K
            refine wpAny_take (i := 2) (v := .int .i64 (c7 : Int)) rfl (by kernel_rfl) (by kernel_rfl) (by kernel_rfl) (fun _ _ _ h => h) (.inl ⟨rfl, fun w => by go_simp; exact IntWalk.i64_in _ (by omega)⟩) ?_
            refine mid_seg [0] 6 (by kernel_rfl) (by kernel_rfl) (fun _ _ d _ _ h => by cases d <;> exact h) ?_
            intro K2 hK2
            simp only [pickL, List.getElem?_cons_zero]
            go_wp2_with (go_at_call 102; refine hlens.mono ?_; rintro e w4 ⟨g, rfl, s4⟩)
            try clear hK2 K2
            clear hlens s3
            have x0 := HCEL.out _ _ _ _ _ s4
            have hnum := num10_any s4 hR2.more lb (by omega) hqR
            refine wpAny_of_held (S := fun W => W.cell? ⟨g, c7, none⟩ = some (.int .i64 (lc : Int))) _ _ _ _ ?_
            refine wpAnyH_take (i := 3) (v := .pointer (some ⟨g, c7, none⟩)) rfl (by kernel_rfl) (by kernel_rfl) (by kernel_rfl) (fun _ _ _ h => h) (.inl ⟨rfl, fun W hW => by go_simp; first | omega | trivial⟩) x0 ?_
            refine wpAnyH_take (i := 4) (v := .int .i64 (lc : Int)) rfl (by kernel_rfl) (by kernel_rfl) (by kernel_rfl) (fun _ _ _ h => h) (.inl ⟨rfl, fun W hW => by go_simp⟩) x0 ?_
            refine held_step (j := 7) _ (by kernel_rfl) rfl ?_
            intro N1 hN1
            go_wp2_with (go_at_call 103; refine (hlbs _).mono ?_; rintro e w5 ⟨rfl, rfl⟩)
            refine hN1 _ _ x0 ?_
            try clear hN1 N1
            refine held_step (j := 8) _ (by kernel_rfl) rfl ?_
            intro N2 hN2
            go_wp2_with (go_at_call 72; refine hnum.mono ?_; rintro e w5 ⟨x, q2, b2, rfl, hx, hq2', HN, HNQ, s5⟩)
            have x1 := HCEL.out _ _ _ _ _ s5
            refine hN2 _ _ x1 ?_
            try clear hN2 N2
            have hxt := (HTOP.out x hx).2
            clear hnum s4 x0 hx
            refine held_step (j := 9) _ (by kernel_rfl) rfl ?_
            intro N3 hN3
            go_wp2_with fail
            refine hN3 _ _ x1 ?_
            try clear hN3 N3
            refine held_step (j := 10) _ (by kernel_rfl) rfl ?_
            intro N4 hN4
            go_wp2_with fail
            refine hN4 _ _ x1 ?_
            try clear hN4 N4
            refine wpAnyH_done (by kernel_rfl) ?_ 0
            have s6 := s5.dropR
            clear s5 x1
            have hnn : ((lc : Int) + (x : Int)) = ((lc + x : Nat) : Int) := by omega
            obtain ⟨n, hnv⟩ : ∃ n, lc + x = n := ⟨_, rfl⟩
            rw [hnv] at hxt hnn
            try rw [hnn]
            have hwn : IntKind.i64.wrap ((lc : Int) + (x : Int)) = (n : Int) := by rw [hnn]; exact IntWalk.i64_in _ (by omega)
            try rw [hwn]
            cases b2 with
            | true =>
              have hX : X = none := HST.out (by rw [show numAt R q' lb = none from by have := HN.out; simpa using this]; rfl)
              have hsy := sym10_bad s6 vb
              clear HST HON HN HNQ HTOP HCEL
              go_wp2_with fail
              refine hsy.mono ?_
              rintro e w7 ⟨rfl, s7⟩
              clear hsy s6
              obtain ⟨c6, f6⟩ := s7.at6
              have s8 := s7.set6
              have hfin := HBAD.out _ _ _ s8 hq2' hX
              clear hX
              go_wp2
              refine bodyPost_ret (results_none rfl _ _ _) rfl ?_
              exact ⟨rfl, hfin⟩
            | false =>
              have hN : numAt R q' lb = some (x, q2) := by have := HN.out; simpa using this
              have hst := HST.out
              have hon := HON.out
              rw [hN] at hst hon
              simp only [Option.bind_some, hnv] at hst hon
              have HST2 := Lib.hid hst
              have HON2 := Lib.hid hon
              have hqq2 := HNQ.out rfl
              clear HST HON HN HNQ HTOP HCEL hst hon hN
              have hsy := sym10_get s6 hR2 hCb hq2'
              cases hs2 : symAt Q R q2 with
              | none =>
                rw [hs2] at hsy
                simp only at hsy
                have hX : X = none := HST2.out (by unfold farAt; rw [hs2]; rfl)
                clear HST2 HON2 hs2
                go_wp2_with fail
                refine hsy.mono ?_
                rintro e w7 ⟨rfl, q7, hq7, s7⟩
                clear hsy s6
                obtain ⟨c6, f6⟩ := s7.at6
                have s8 := s7.set6
                have hfin := HBAD.out _ _ _ s8 hq7 hX
                clear hX
                go_wp2
                refine bodyPost_ret (results_none rfl _ _ _) rfl ?_
                exact ⟨rfl, hfin⟩
              | some dd =>
                obtain ⟨d, q3⟩ := dd
                rw [hs2] at hsy
                simp only at hsy
                obtain ⟨hq3a, hq3b⟩ := symAt_le hs2
                by_cases hd : 29 < d
                · have hX : X = none := HST2.out (by unfold farAt; rw [hs2]; simp only [Option.bind_some]; rw [if_pos hd]; rfl)
                  clear HST2 HON2 hs2
                  go_wp2_with fail
                  refine hsy.mono ?_
                  rintro e w7 ⟨rfl, s7⟩
                  clear hsy s6
                  obtain ⟨c6, f6⟩ := s7.at6
                  have s8 := s7.set6
                  have hfin := HBAD.out _ _ _ s8 hq3b hX
                  clear hX
                  go_wp2
                  refine bodyPost_ret (results_none rfl _ _ _) rfl ?_
                  exact ⟨rfl, hfin⟩
                · have hfe : farAt Q R q2 = (numAt R q3 (disB d)).bind fun y => some (disL d + y.1, y.2) := by unfold farAt; rw [hs2]; simp only [Option.bind_some]; rw [if_neg hd]
                  have hst := HST2.out
                  have hon := HON2.out
                  rw [hfe] at hst hon
                  have HST3 := Lib.hid hst
                  have HON3 := Lib.hid hon
                  clear HST2 HON2 hs2 hst hon hfe
                  have hdb := disB_le d (by omega)
                  have HTOP := Lib.hid (fun y hy => dis_top d y (by omega) hy)
                  obtain ⟨db, hdb0⟩ : ∃ db, disB d = db := ⟨_, rfl⟩
                  have hdbs : ∀ W, Calls Tryz.prog 105 #[.int .i64 (d : Int)] W fun e w' => e = .returned (.int .i64 (db : Int)) ∧ W = w' := fun W => by
                    rw [← hdb0]
                    exact disBits_any W d (by omega)
                  have hcel : ∀ W g q o b, Str B w0 W (numsT 3 g 30 disF :: r2) sb rv bv keep q o b → W.cell? ⟨g, d, none⟩ = some (.int .i64 (disL d : Int)) := fun W g q o b s => s.disCell d (by omega)
                  have hdp := disL_pos d (by omega)
                  rw [hdb0] at HST3 HON3 HTOP hdb
                  obtain ⟨dl, hdl⟩ : ∃ dl, disL d = dl := ⟨_, rfl⟩
                  rw [hdl] at HST3 HON3 HTOP hcel hdp
                  have HCEL := Lib.hid hcel
                  clear hcel hdl hdb0
                  go_wp2_with fail
                  refine hsy.mono ?_
                  rintro e w7 ⟨rfl, s7⟩
                  clear hsy s6
                  obtain ⟨c6, f6⟩ := s7.at6
                  have hdiss := diss10_st s7.drew
                  go_wp2
                  clear c6 f6
                  refine region_seg (by kernel_rfl) [4, 5, 1] 7 rfl (by kernel_rfl) (by kernel_rfl) (fun _ _ d _ _ h => by cases d <;> exact h) ?_
                  generalize w7.drew = we at *
                  intro K hK
                  simp only [pickL, List.getElem?_cons_zero, List.getElem?_cons_succ]
                  go_wp2_with fail
                  try clear hK K
                  refine mid_seg [0] 6 (by kernel_rfl) (by kernel_rfl) (fun _ _ d _ _ h => by cases d <;> exact h) ?_
                  intro K2 hK2
                  simp only [pickL, List.getElem?_cons_zero]
                  go_wp2_with (go_at_call 104; refine hdiss.mono ?_; rintro e w8 ⟨g, rfl, s8⟩)
                  try clear hK2 K2
                  clear hdiss s7
                  have x0 := HCEL.out _ _ _ _ _ s8
                  have hnum := num10_any s8 hR2.more db (by omega) hq3b
                  refine wpAny_of_held (S := fun W => W.cell? ⟨g, d, none⟩ = some (.int .i64 (dl : Int))) _ _ _ _ ?_
                  refine wpAnyH_take (i := 2) (v := .pointer (some ⟨g, d, none⟩)) rfl (by kernel_rfl) (by kernel_rfl) (by kernel_rfl) (fun _ _ _ h => h) (.inl ⟨rfl, fun W hW => by go_simp; first | omega | trivial⟩) x0 ?_
                  refine wpAnyH_take (i := 3) (v := .int .i64 (dl : Int)) rfl (by kernel_rfl) (by kernel_rfl) (by kernel_rfl) (fun _ _ _ h => h) (.inl ⟨rfl, fun W hW => by go_simp⟩) x0 ?_
                  refine held_step (j := 6) _ (by kernel_rfl) rfl ?_
                  intro N1 hN1
                  go_wp2_with (go_at_call 105; refine (hdbs _).mono ?_; rintro e w9 ⟨rfl, rfl⟩)
                  refine hN1 _ _ x0 ?_
                  try clear hN1 N1
                  refine held_step (j := 7) _ (by kernel_rfl) rfl ?_
                  intro N2 hN2
                  go_wp2_with (go_at_call 72; refine hnum.mono ?_; rintro e w9 ⟨y, q4, b4, rfl, hy, hq4, HN, HNQ, s9⟩)
                  have x1 := HCEL.out _ _ _ _ _ s9
                  refine hN2 _ _ x1 ?_
                  try clear hN2 N2
                  have hyt := (HTOP.out y hy).2
                  clear hnum s8 x0 hy
                  refine held_step (j := 8) _ (by kernel_rfl) rfl ?_
                  intro N3 hN3
                  go_wp2_with fail
                  refine hN3 _ _ x1 ?_
                  try clear hN3 N3
                  refine held_step (j := 9) _ (by kernel_rfl) rfl ?_
                  intro N4 hN4
                  go_wp2_with fail
                  refine hN4 _ _ x1 ?_
                  try clear hN4 N4
                  refine wpAnyH_done (by kernel_rfl) ?_ 0
                  have s10 := s9.dropR
                  clear s9 x1
                  have hff : ((dl : Int) + (y : Int)) = ((dl + y : Nat) : Int) := by omega
                  obtain ⟨far, hfv⟩ : ∃ far, dl + y = far := ⟨_, rfl⟩
                  rw [hfv] at hyt hff
                  try rw [hff]
                  have hwf : IntKind.i64.wrap ((dl : Int) + (y : Int)) = (far : Int) := by rw [hff]; exact IntWalk.i64_in _ (by omega)
                  try rw [hwf]
                  have hfp : 1 ≤ far := by omega
                  obtain ⟨c6, f6⟩ := s10.at6
                  obtain ⟨oa, oc, c3', c4', c5', -⟩ := s10.at345
                  cases b4 with
                  | true =>
                    have hX : X = none := HST3.out (by rw [show numAt R q3 db = none from by have := HN.out; simpa using this]; rfl)
                    have s11 := s10.set6
                    have hfin := HBAD.out _ _ _ s11 hq4 hX
                    clear HST3 HON3 HN HNQ HTOP HCEL hX
                    go_wp2
                    refine bodyPost_ret (results_none rfl _ _ _) rfl ?_
                    exact ⟨rfl, hfin⟩
                  | false =>
                    have hN : numAt R q3 db = some (y, q4) := by have := HN.out; simpa using this
                    have hst := HST3.out
                    have hon := HON3.out
                    rw [hN] at hst hon
                    simp only [Option.bind_some, hfv] at hst hon
                    have hqq4 := HNQ.out rfl
                    have HST4 := Lib.hid hst
                    have HON4 := Lib.hid hon
                    clear HST3 HON3 HN HNQ HTOP HCEL hst hon hN hfv
                    by_cases hov : o.length < far
                    · have hX : X = none := HST4.out (by rw [if_pos hov])
                      have s11 := s10.set6
                      have hfin := HBAD.out _ _ _ s11 hq4 hX
                      clear HST4 HON4 hX
                      go_wp2
                      refine bodyPost_ret (results_none rfl _ _ _) rfl ?_
                      exact ⟨rfl, hfin⟩
                    · have hX : syms P Q R q4 (Tok.rep far n o) = X := HON4.out _ _ (by rw [if_neg hov])
                      have HX := Lib.hid hX
                      clear HST4 HON4 hX
                      go_wp2
                      go_loopw [14, 15] (fun i _ wi => ∃ k : Nat, k ≤ n ∧ i = .int .i64 (k : Int) ∧ Str B w0 wi r2 sb rv bv keep q4 (Tok.rep far k o) false) (fun i _ _ => n - (intOf i).toNat)
                      case atStart => exact ⟨0, Nat.zero_le _, rfl, s10⟩
                      case round =>
                        clear s10 c6 f6 c3' c4' c5'
                        obtain ⟨k, hkn, rfl, s11⟩ := hrel
                        by_cases hkl : k < n
                        · have hzl : (Tok.rep far k o).length = o.length + k := Tok.rep_length far k o
                          have hmore := Tok.rep_more far k o
                          obtain ⟨oa, oc, c3', c4', c5', hcell⟩ := s11.at345
                          have HM := Lib.hid hmore
                          clear hmore
                          generalize Tok.rep far k o = ok at *
                          have hput := fun (W : World) (c : Nat) (s : Str B w0 W r2 sb rv bv keep q4 ok false) => put10_st s c hk (by omega)
                          by_cases hkeep : ok.length < keep
                          · have htk : ok.take keep = ok := List.take_of_length_le (by omega)
                            rw [htk] at hcell c3'
                            obtain ⟨g, rfl, hcells⟩ := hcell (by omega)
                            obtain ⟨j, hj⟩ : ∃ j, ok.length - far = j := ⟨_, rfl⟩
                            have hj2 : (ok.length : Int) - (far : Int) = (j : Int) := by omega
                            have hcj := hcells j (by omega)
                            have hbyte : ok.getD (ok.length - far) 0 = ok[j]'(by omega) := by rw [hj, getD_in _ _ (by omega)]
                            have hM2 := HM.out
                            rw [hbyte] at hM2
                            have HM2 := Lib.hid hM2
                            clear HM hbyte hM2 hcells hcell htk
                            generalize ok[j]'(by omega) = x at *
                            have hjl : j < ok.length := by omega
                            have hzb : ok.length ≤ 20000000 := by omega
                            clear hzl hj
                            generalize ok.length = z at *
                            have hwj : IntKind.i64.wrap ((z : Int) - (far : Int)) = (j : Int) := by rw [hj2]; exact IntWalk.i64_in _ (by omega)
                            go_wp2
                            go_quiet (fail)
                            go_wp2
                            go_quiet (fail)
                            go_wp2_with (go_at_call 99; refine (hput _ x (by first | exact s11.drewN _ | exact (s11.drewN _).drewN _)).mono ?_; rintro e w12 ⟨rfl, s12⟩)
                            refine ⟨⟨k + 1, by omega, by go_num, by rw [HM2.out]; exact s12⟩, by simp [intOf]; omega⟩
                          · have hput2 := fun (W : World) (s : Str B w0 W r2 sb rv bv keep q4 ok false) => (hput W 0 s).mono (fun e w' (h : e = .returned (.tuple #[]) ∧ Str B w0 w' r2 sb rv bv keep q4 (ok ++ [0]) false) => (⟨h.1, h.2.same (out' := Tok.rep far (k + 1) o) (by rw [HM.out]; simp) (by rw [HM.out, List.take_append_of_le_length (by omega), List.take_append_of_le_length (by omega)])⟩ : e = .returned (.tuple #[]) ∧ Str B w0 w' r2 sb rv bv keep q4 (Tok.rep far (k + 1) o) false))
                            clear hput HM hcell
                            go_wp2
                            go_quiet (fail)
                            go_wp2_with (go_at_call 99; refine (hput2 _ (by first | exact s11.drewN _ | exact (s11.drewN _).drewN _)).mono ?_; rintro e w12 ⟨rfl, s12⟩)
                            refine ⟨⟨k + 1, by omega, by go_num, s12⟩, by simp [intOf]; omega⟩
                        · obtain rfl : k = n := by omega
                          have hzl : (Tok.rep far k o).length = o.length + k := Tok.rep_length far k o
                          have hm4 := s11.at2.1
                          go_wp2
                          refine ⟨⟨q4, Tok.rep far k o, by omega, hq4, HX, by omega, s11⟩, ?_⟩
                          rw [hm4, hm2]
                          simp [intOf]
                          omega

end
end Go.Proofs.YtpinfihmageeoaaGreat.Inf

namespace Go.Proofs.YtpinfihmageeoaaGreat.Inf
open Go.RowKit Kraft Hd

section
variable {B : Nat} {w0 w : World} {r : List Thing} {sb : Nat} {rv bv : Value} {R : List Bool} {keep p : Nat} {out : List Nat} {bad : Bool}

theorem fill_set (l : List Nat) (n k x : Nat) (hk : k < n) (hn : l.length = n) (hx : l[k]? = some x) : (l.take k ++ List.replicate (n - k) 0).set k x = l.take (k + 1) ++ List.replicate (n - (k + 1)) 0 := by
  have hl : (l.take k).length = k := by rw [List.length_take]; omega
  obtain ⟨h1, h2⟩ := List.getElem?_eq_some_iff.1 hx
  rw [List.set_append_right _ _ (by omega), hl, Nat.sub_self, show n - k = (n - (k + 1)) + 1 from by omega, List.replicate_succ, List.set_cons_zero, List.take_add_one, hx, List.append_assoc]
  rfl

theorem fill_over (l : List Nat) (n k x y : Nat) (hk : k < n) (hn : l.length = n) (hx : l[k]? = some x) : ((l.take k ++ List.replicate (n - k) 0).set k y).set k x = l.take (k + 1) ++ List.replicate (n - (k + 1)) 0 := by
  rw [List.set_set]
  exact fill_set l n k x hk hn hx

theorem fixP_at (k : Nat) (hk : k < 288) : fixP[k]? = some (if 143 < k ∧ k < 256 then 9 else if 255 < k ∧ k < 280 then 7 else 8) := by
  have : ∀ k, k < 288 → fixP[k]? = some (if 143 < k ∧ k < 256 then 9 else if 255 < k ∧ k < 280 then 7 else 8) := by decide +kernel
  exact this k hk
theorem fixQ_at (k : Nat) (hk : k < 32) : fixQ[k]? = some 5 := by
  have : ∀ k, k < 32 → fixQ[k]? = some 5 := by decide +kernel
  exact this k hk
theorem fixP_length : fixP.length = 288 := by decide +kernel
theorem fixQ_length : fixQ.length = 32 := by decide +kernel

set_option maxRecDepth 100000 in
set_option maxHeartbeats 1000000 in
theorem fixed10_st (st : St B w0 w r) : Calls Tryz.prog 75 #[] w fun e w' => ∃ g, e = .returned (.slice (some ⟨g, 0, none⟩) 288 288) ∧ St B w0 w' (bytesT g 288 fixP :: r) := by
  obtain ⟨i0, hi, hz0, hz1, hz2⟩ := info_parts info8
  have hmk : i0.bytes * 288 ≤ 281474976710656 := by rw [hz2]; omega
  have hmx : 288 ≤ maxLen := by unfold maxLen; omega
  go_enter Tryz.func75, Tryz.ntmps75
  go_wp2_with (at_make; refine wpList_make_full _ rfl _ _ 26 rfl w.heap.size 5 i0 (.int .u8 0) 1 Tryz.underlying26 hi hz0 hz1 _ _ _ _ 288 rfl rfl rfl rfl hmk hmx (Nat.le_refl _) ?_)
  intro w1 hown hgrow
  have s1 := st.made hown hgrow
  clear hown hgrow hi hz0 hz1 hz2 hmk hmx st
  obtain ⟨g, hg⟩ : ∃ g, g = w.heap.size := ⟨_, rfl⟩
  rw [← hg] at s1
  try rw [← hg]
  clear hg
  go_wp2
  go_loopw [2] (fun iv wr => ∃ k : Nat, k ≤ 288 ∧ iv = .int .i64 (k : Int) ∧ St B w0 wr (bytesT g 288 (fixP.take k ++ List.replicate (288 - k) 0) :: r)) (fun iv _ => 288 - (intOf iv).toNat)
  case atStart => exact ⟨0, Nat.zero_le _, rfl, s1⟩
  case round =>
    clear s1
    obtain ⟨k, hk, rfl, t1⟩ := hrel
    by_cases hlt : k < 288
    · have hl : (fixP.take k ++ List.replicate (288 - k) 0).length = 288 := by rw [List.length_append, List.length_take, List.length_replicate, fixP_length]; omega
      obtain ⟨f0, f1⟩ := t1.rowCell k hl hlt
      have hat := fixP_at k hlt
      have hs1 := fun x hx => fill_set fixP 288 k x hlt fixP_length hx
      have hs2 := fun x y hx => fill_over fixP 288 k x y hlt fixP_length hx
      have t2 := t1.put k 8
      by_cases ha : 143 < k ∧ k < 256
      · rw [if_pos ha] at hat
        have t3 := t2.put k 9
        rw [hs2 _ _ hat] at t3
        obtain ⟨f2, f3⟩ := t2.rowCell k (by rw [List.length_set]; exact hl) hlt
        clear hs1 hs2 hat
        obtain ⟨ha1, ha2⟩ := ha
        go_wp2
        exact ⟨⟨k + 1, by omega, by go_num, t3⟩, by simp [intOf]; omega⟩
      · rw [if_neg ha] at hat
        by_cases hb : 255 < k ∧ k < 280
        · rw [if_pos hb] at hat
          have t3 := t2.put k 7
          rw [hs2 _ _ hat] at t3
          obtain ⟨f2, f3⟩ := t2.rowCell k (by rw [List.length_set]; exact hl) hlt
          clear hs1 hs2 hat ha
          obtain ⟨hb1, hb2⟩ := hb
          go_wp2
          exact ⟨⟨k + 1, by omega, by go_num, t3⟩, by simp [intOf]; omega⟩
        · rw [if_neg hb] at hat
          rw [hs1 _ hat] at t2
          clear hs1 hs2 hat
          have hc : k ≤ 143 ∨ 280 ≤ k := by omega
          clear ha hb
          rcases hc with hc | hc
          · go_wp2
            exact ⟨⟨k + 1, by omega, by go_num, t2⟩, by simp [intOf]; omega⟩
          · go_wp2
            exact ⟨⟨k + 1, by omega, by go_num, t2⟩, by simp [intOf]; omega⟩
    · obtain rfl : k = 288 := by omega
      rw [List.take_of_length_le (by rw [fixP_length]; omega), Nat.sub_self, List.replicate_zero, List.append_nil] at t1
      go_wp2
      go_ret
      exact ⟨g, rfl, t1⟩

def NoneSt (B : Nat) (w0 w : World) (r : List Thing) (sb : Nat) : Prop := ∃ cs, cs[6]? = some (.bool true) ∧ St B w0 w (boxT sb cs 111 :: r)

theorem Str.isNone (h : Str B w0 w r sb rv bv keep p out true) : NoneSt B w0 w r sb := by
  obtain ⟨oa, oc, st⟩ := h.st
  exact ⟨_, rfl, st.swap.drop⟩

theorem Str.noneAt (h : Str B w0 w r sb rv bv keep p out bad) (u : Value) : NoneSt B w0 ((w.setCell ⟨sb, 2, none⟩ u).setCell ⟨sb, 6, none⟩ (.bool true)) r sb := by
  obtain ⟨oa, oc, st⟩ := h.st
  exact ⟨_, rfl, ((st.setBoxAt 2 u).setBoxAt 6 (.bool true)).swap.drop⟩

def BlockSt (B : Nat) (w0 : World) (r : List Thing) (sb : Nat) (rv bv : Value) (keep : Nat) (x : Option (Bool × Nat × List Nat)) (e : Ending) (w' : World) : Prop :=
  match x with
  | none => ∃ b, e = .returned (.bool b) ∧ NoneSt B w0 w' r sb
  | some (b, q, o) => e = .returned (.bool b) ∧ Str B w0 w' r sb rv bv keep q o false

theorem head10_no (h : Str B w0 w r sb rv bv keep p out false) (hR : RowsOf B w0 r rv bv R) (hp : p ≤ R.length) (k : Nat) (hd : headAt R p = none) :
    Calls Tryz.prog 76 #[rv, .int .i64 (p : Int)] (w.drewN k) fun e w' => ∃ q : Int, e = .returned (.tuple #[.slice none 0 0, .slice none 0 0, .int .i64 q, .int .i64 2]) ∧ Str B w0 w' r sb rv bv keep p out false := by
  obtain ⟨oa, oc, st⟩ := h.st
  refine (refHead_st (st.drewN k) rv R (fun W s => hR.row W s.drop.drop) hR.small p hp).mono ?_
  intro e w' hh
  unfold HeadSt at hh
  rw [hd] at hh
  obtain ⟨q, he, s⟩ := hh
  exact ⟨q, he, ⟨oa, oc, s⟩⟩
theorem head10_yes (h : Str B w0 w r sb rv bv keep p out false) (hR : RowsOf B w0 r rv bv R) (hp : p ≤ R.length) (k : Nat) {P Q : List Nat} {q : Nat} (hd : headAt R p = some (P, Q, q)) :
    Calls Tryz.prog 76 #[rv, .int .i64 (p : Int)] (w.drewN k) fun e w' => ∃ g cap, e = .returned (.tuple #[.slice (some ⟨g, 0, none⟩) P.length cap, .slice (some ⟨g, P.length, none⟩) Q.length (cap - P.length), .int .i64 (q : Int), .int .i64 0]) ∧
      Str B w0 w' (rowT 5 1 (.slice (some ⟨g, 0, none⟩) (P ++ Q).length cap) (P ++ Q).length (u8s (P ++ Q)) :: r) sb rv bv keep p out false := by
  obtain ⟨oa, oc, st⟩ := h.st
  refine (refHead_st (st.drewN k) rv R (fun W s => hR.row W s.drop.drop) hR.small p hp).mono ?_
  intro e w' hh
  unfold HeadSt at hh
  rw [hd] at hh
  obtain ⟨g, cap, he, s⟩ := hh
  exact ⟨g, cap, he, Str.of s⟩

end
end Go.Proofs.YtpinfihmageeoaaGreat.Inf

namespace Go.Proofs.YtpinfihmageeoaaGreat.Inf
open Go.RowKit Kraft Hd

section
variable {B : Nat} {w0 w : World} {r : List Thing} {sb : Nat} {rv bv : Value} {R : List Bool} {keep p : Nat} {out : List Nat} {bad : Bool}

theorem fixed10_str (h : Str B w0 w r sb rv bv keep p out bad) : Calls Tryz.prog 75 #[] w fun e w' => ∃ g, e = .returned (.slice (some ⟨g, 0, none⟩) 288 288) ∧ Str B w0 w' (bytesT g 288 fixP :: r) sb rv bv keep p out bad := by
  obtain ⟨oa, oc, st⟩ := h.st
  refine (fixed10_st st).mono ?_
  rintro e w' ⟨g, rfl, s⟩
  exact ⟨g, rfl, Str.of s⟩
theorem Str.made {w' : World} {n : Nat} (h : Str B w0 w r sb rv bv keep p out bad) (hown : w'.ownsRow w.heap.size 5 1 (.slice (some ⟨w.heap.size, 0, none⟩) n n) n (madeCells #[Value.int .u8 0] n).toList) (hg : w.grownBy w' none) :
    Str B w0 w' (bytesT w.heap.size n (List.replicate n 0) :: r) sb rv bv keep p out bad := by
  obtain ⟨oa, oc, st⟩ := h.st
  exact Str.of (st.made hown hg)
theorem Str.byteCell {g n : Nat} {xs : List Nat} (h : Str B w0 w (bytesT g n xs :: r) sb rv bv keep p out bad) (i : Nat) (hl : xs.length = n) (hi : i < n) : w.cell? ⟨g, i, none⟩ = some (.int .u8 (xs[i]'(by omega) : Int)) ∧ w.frozen? ⟨g, i, none⟩ = false := by
  obtain ⟨oa, oc, st⟩ := h.st
  exact (st.front 2).rowCell i hl hi
theorem Str.putB {g n : Nat} {xs : List Nat} (h : Str B w0 w (bytesT g n xs :: r) sb rv bv keep p out bad) (i x : Nat) : Str B w0 (w.setCell ⟨g, i, none⟩ (.int .u8 (x : Int))) (bytesT g n (xs.set i x) :: r) sb rv bv keep p out bad := by
  obtain ⟨oa, oc, st⟩ := h.st
  exact Str.of ((st.front 2).put i x)
theorem Str.at0 (h : Str B w0 w r sb rv bv keep p out bad) : w.cell? ⟨sb, 0, none⟩ = some rv := by
  obtain ⟨oa, oc, st⟩ := h.st
  exact (st.boxAt 0).1

set_option maxRecDepth 100000 in
set_option maxHeartbeats 2000000 in
theorem block10_st (h : Str B w0 w r sb rv bv keep p out false) (hR : RowsOf B w0 r rv bv R) (h8 : R.length % 8 = 0) (hp : p ≤ R.length) (hk : keep ≤ 100000) (ho : out.length + 258 * R.length ≤ 10000000) :
    Calls Tryz.prog 53 #[.pointer (some ⟨sb, 0, none⟩)] w (BlockSt B w0 r sb rv bv keep (blockAt R p out)) := by
  obtain ⟨X, hXX⟩ : ∃ X, blockAt R p out = X := ⟨_, rfl⟩
  rw [hXX]
  have HXX := Lib.hid hXX
  clear hXX
  have hsm := hR.small
  have hnone : ∀ W b, X = none → NoneSt B w0 W r sb → BlockSt B w0 r sb rv bv keep X (.returned (.bool b)) W := fun W b hX s => by rw [hX]; exact ⟨b, rfl, s⟩
  have HNO := Lib.hid hnone
  clear hnone
  by_cases h3 : R.length < p + 3
  · have hX : X = none := by rw [← HXX.out]; unfold blockAt; rw [if_pos h3]
    -- either number fails
    have hbadend : ∀ W q o, Str B w0 W r sb rv bv keep q o true → q ≤ R.length → o.length ≤ 10000000 → Calls Tryz.prog 73 #[.pointer (some ⟨sb, 0, none⟩)] W fun e w' => e = .returned (.tuple #[]) ∧ NoneSt B w0 w' r sb := fun W q o s hq ho => by
      refine (stored10_st s hR h8 hq hk ho).mono ?_
      rintro e w' ⟨rfl, s2⟩
      obtain ⟨p', o', _, s3⟩ := s2
      exact ⟨rfl, s3.isNone⟩
    by_cases h1 : R.length < p + 1
    · have hn1 := num10_no h hR 1 (by omega) hp (.inr h1)
      go_enter Tryz.func53, Tryz.ntmps53
      go_wp2_with fail
      refine hn1.mono ?_
      rintro e w1 ⟨rfl, s1⟩
      have hn2 := num10_no s1 hR 2 (by omega) hp (.inl rfl)
      go_wp2_with fail
      refine hn2.mono ?_
      rintro e w2 ⟨rfl, s2⟩
      have hb := hbadend _ _ _ s2 hp (by omega)
      go_wp2_with fail
      refine hb.mono ?_
      rintro e w3 ⟨rfl, s3⟩
      have hfin := fun b => HNO.out _ b hX s3
      clear hX HXX
      go_wp2
      go_ret
      exact hfin _
    · have hn1 := num10_ok h hR 1 (by omega) (by omega)
      obtain ⟨b, hb⟩ : ∃ b, (((nm R p 1 : Nat) : Int) == 1) = b := ⟨_, rfl⟩
      generalize nm R p 1 = x at hn1 hb
      go_enter Tryz.func53, Tryz.ntmps53
      go_wp2_with fail
      refine hn1.mono ?_
      rintro e w1 ⟨rfl, s1⟩
      have hn2 := num10_no s1 hR 2 (by omega) (by omega) (.inr (by omega))
      go_wp2_with fail
      refine hn2.mono ?_
      rintro e w2 ⟨rfl, s2⟩
      have hb := hbadend _ _ _ s2 (by omega) (by omega)
      go_wp2_with fail
      refine hb.mono ?_
      rintro e w3 ⟨rfl, s3⟩
      have hfin := fun b => HNO.out _ b hX s3
      clear hX HXX
      go_wp2
      go_ret
      exact hfin _
  · have hn1 := num10_ok h hR 1 (by omega) (by omega)
    have hxb := nm_lt R p 1
    have hyb := nm_lt R (p + 1) 2
    have hXE : X = ((if nm R (p + 1) 2 = 0 then storedAt R (p + 3) out else if nm R (p + 1) 2 = 1 then syms fixP fixQ R (p + 3) out else
        if nm R (p + 1) 2 = 2 then (headAt R (p + 3)).bind fun y => syms y.1 y.2.1 R y.2.2 out else none).map fun x => (decide (nm R p 1 = 1), x)) := by
      rw [← HXX.out]; unfold blockAt; rw [if_neg h3]
    obtain ⟨p1, hp1⟩ : ∃ p1, p + 1 = p1 := ⟨_, rfl⟩
    obtain ⟨p3, hp3⟩ : ∃ p3, p + 3 = p3 := ⟨_, rfl⟩
    rw [hp1, hp3] at hXE
    rw [hp1] at hyb hn1
    have hp3r : p3 ≤ R.length := by omega
    have hn2 := fun W (s : Str B w0 W r sb rv bv keep p1 out false) => num10_ok s hR 2 (by omega) (by omega)
    rw [show p1 + 2 = p3 from by omega] at hn2
    obtain ⟨b, hb, hb2⟩ : ∃ b, (((nm R p 1 : Nat) : Int) == 1) = b ∧ decide (nm R p 1 = 1) = b := ⟨_, rfl, by
      by_cases g : nm R p 1 = 1
      · rw [g]; rfl
      · rw [decide_eq_false g, eq_comm, beq_eq_false_iff_ne]; omega⟩
    rw [hb2] at hXE
    generalize nm R p 1 = x at *
    generalize nm R p1 2 = y at *
    have hend : ∀ W Y, X = Y.map (fun x => (b, x)) → PartSt B w0 r sb rv bv keep R Y W → BlockSt B w0 r sb rv bv keep X (.returned (.bool b)) W := fun W Y hX s => by
      rw [hX]
      cases Y with
      | none => obtain ⟨p', o', _, s3⟩ := s; exact ⟨b, rfl, s3.isNone⟩
      | some y => exact ⟨rfl, s⟩
    have HEND := Lib.hid hend
    have HXE := Lib.hid hXE
    clear hXE hend hb2 hp1 hp3 HXX h3 hxb
    go_enter Tryz.func53, Tryz.ntmps53
    go_wp2_with fail
    refine hn1.mono ?_
    rintro e w1 ⟨rfl, s1⟩
    have hn2 := hn2 _ s1
    go_wp2_with fail
    refine hn2.mono ?_
    rintro e w2 ⟨rfl, s2⟩
    clear hn1 hn2 s1 h
    have hk4 : y = 0 ∨ y = 1 ∨ y = 2 ∨ y = 3 := by omega
    rcases hk4 with rfl | rfl | rfl | rfl <;> have hXE := HXE.out <;> clear HXE
    · rw [if_pos rfl] at hXE
      have hs := stored10_st s2 hR h8 hp3r hk (by omega)
      rw [if_neg (by decide)] at hs
      have HE := Lib.hid hXE
      clear hXE
      go_wp2_with fail
      refine hs.mono ?_
      rintro e w3 ⟨rfl, s3⟩
      have hfin := HEND.out _ _ HE.out s3
      clear s3 hs s2
      go_wp2
      go_ret
      exact hfin
    · rw [if_neg (by decide), if_pos rfl] at hXE
      have HE := Lib.hid hXE
      clear hXE
      obtain ⟨i0, hi, hz0, hz1, hz2⟩ := info_parts info8
      have hmk : i0.bytes * 32 ≤ 281474976710656 := by rw [hz2]; omega
      have hmx : 32 ≤ maxLen := by unfold maxLen; omega
      go_wp2_with (at_make; refine wpList_make_full _ rfl _ _ 26 rfl w2.heap.size 5 i0 (.int .u8 0) 1 Tryz.underlying26 hi hz0 hz1 _ _ _ _ 32 rfl rfl rfl rfl hmk hmx (Nat.le_refl _) ?_)
      intro w3 hown hgrow
      have s3 := s2.made hown hgrow
      clear hown hgrow hi hz0 hz1 hz2 hmk hmx s2
      obtain ⟨g, hg⟩ : ∃ g, g = w2.heap.size := ⟨_, rfl⟩
      rw [← hg] at s3
      try rw [← hg]
      clear hg
      go_wp2
      go_loopw [6] (fun iv wr => ∃ k : Nat, k ≤ 32 ∧ iv = .int .i64 (k : Int) ∧ Str B w0 wr (bytesT g 32 (fixQ.take k ++ List.replicate (32 - k) 0) :: r) sb rv bv keep p3 out false) (fun iv _ => 32 - (intOf iv).toNat)
      case atStart => exact ⟨0, Nat.zero_le _, rfl, s3⟩
      case round =>
        clear s3
        obtain ⟨k, hk1, rfl, t1⟩ := hrel
        by_cases hlt : k < 32
        · have hl : (fixQ.take k ++ List.replicate (32 - k) 0).length = 32 := by rw [List.length_append, List.length_take, List.length_replicate, fixQ_length]; omega
          obtain ⟨f0, f1⟩ := t1.byteCell k hl hlt
          have t2 := t1.putB k 5
          rw [fill_set fixQ 32 k 5 hlt fixQ_length (fixQ_at k hlt)] at t2
          clear t1
          go_wp2
          exact ⟨⟨k + 1, by omega, by go_num, t2⟩, by simp [intOf]; omega⟩
        · obtain rfl : k = 32 := by omega
          rw [List.take_of_length_le (by rw [fixQ_length]; omega), Nat.sub_self, List.replicate_zero, List.append_nil] at t1
          have hfx := fixed10_str t1
          have hF5 : ∀ x ∈ fixP, x < 256 := by decide +kernel
          have hO5 : ∀ x ∈ fixQ, x < 256 := by decide +kernel
          go_wp2_with (go_at_call 75; refine hfx.mono ?_; rintro e w4 ⟨g2, rfl, t2⟩)
          have hsy := symbols10_st t2 hR.more.more hp3r hk (by omega) (fv := .slice (some ⟨g2, 0, none⟩) 288 288) (ov := .slice (some ⟨g, 0, none⟩) 32 32) (P := fixP) (Q := fixQ)
            (fun W s => byteRow_nb s.row fixP_length hF5) (fun W s => byteRow_nb s.drop.row fixQ_length hO5) (by rw [fixP_length]; omega) (by rw [fixQ_length]; omega) fix_fits.1 fix_fits.2
          clear hfx t1 hF5 hO5
          have hfin := fun W (s : PartSt B w0 (bytesT g2 288 fixP :: bytesT g 32 fixQ :: r) sb rv bv keep R (syms fixP fixQ R p3 out) W) => HEND.out W _ HE.out (PartSt.dropR (PartSt.dropR s))
          go_wp2_with (go_at_call 74; refine hsy.mono ?_; rintro e w5 ⟨rfl, t3⟩)
          have hfin := hfin _ t3
          clear hsy t2 t3
          go_wp2
          go_ret
          exact hfin
    · rw [if_neg (by decide), if_neg (by decide), if_pos rfl] at hXE
      have HE := Lib.hid hXE
      clear hXE
      have c0 := s2.at0
      have c2 := s2.at2.1
      cases hd : headAt R p3 with
      | none =>
        have hget := fun k => head10_no s2 hR hp3r k hd
        have hX : X = none := by rw [HE.out, hd]; rfl
        clear HE
        go_wp2
        go_region_with ((go_at_call 76; refine (hget _).mono ?_; rintro e w3 ⟨q, rfl, s3⟩))
        all_goals
          have d2 := s3.at2
          have s4 := s3.noneAt (.int .i64 q)
          have hfin := HNO.out _ true hX s4
          have d6 := s3.at6
          obtain ⟨d2a, d2b⟩ := d2
          obtain ⟨d6a, d6b⟩ := d6
          clear hX HNO HEND s2 s3 s4 hget hd
          go_wp2
          go_ret
          exact hfin
      | some y =>
        obtain ⟨P, Q, q⟩ := y
        have hget := fun k => head10_yes s2 hR hp3r k hd
        have hm := head_more hd []
        simp only at hm
        have hml := mayH_len hm.2.2.2
        have hmf := mayH_fits hm.2.2.2
        have hE2 : X = (syms P Q R q out).map fun x => (b, x) := by rw [HE.out, hd]; rfl
        have HE2 := Lib.hid hE2
        have hPQ : ∀ x ∈ P ++ Q, x < 256 := fun x hx => by
          rcases List.mem_append.1 hx with h | h
          · have := hml.2.2.2.2.2.1 x h; omega
          · have := hml.2.2.2.2.2.2 x h; omega
        have hqr : q ≤ R.length := hm.2.1
        clear HE hE2
        go_wp2
        go_region_with ((go_at_call 76; refine (hget _).mono ?_; rintro e w3 ⟨g, cap, rfl, s3⟩))
        all_goals
          obtain ⟨d2a, d2b⟩ := s3.at2
          have s4 := s3.set2 q
          have hsy := symbols10_st s4 hR.more hqr hk (by omega) (fv := .slice (some ⟨g, 0, none⟩) P.length cap) (ov := .slice (some ⟨g, P.length, none⟩) Q.length (cap - P.length)) (P := P) (Q := Q)
            (fun W s => by
              have hrow := byteRow_nb s.row rfl hPQ
              have b1 := (byteRow_take hrow (m := P.length) (by rw [List.length_append]; omega)).1
              rwa [List.take_left] at b1)
            (fun W s => by
              have hrow := byteRow_nb s.row rfl hPQ
              have b2 := byteRow_sub hrow (i := P.length) (m := Q.length) (by rw [List.length_append]; omega)
              rw [List.drop_left, List.take_length, Nat.zero_add] at b2
              exact b2) (by omega) (by omega) hmf.1 hmf.2
          have hfin := fun W (s : PartSt B w0 (rowT 5 1 (.slice (some ⟨g, 0, none⟩) (P ++ Q).length cap) (P ++ Q).length (u8s (P ++ Q)) :: r) sb rv bv keep R (syms P Q R q out) W) => HEND.out W _ HE2.out (PartSt.dropR s)
          clear hPQ hmf hm hd hget s2 s3 HEND HE2 HNO hml
          go_wp2_with (go_at_call 74; refine hsy.mono ?_; rintro e w5 ⟨rfl, t3⟩)
          have hfin := hfin _ t3
          clear hsy t3
          go_wp2
          go_ret
          exact hfin
    · rw [if_neg (by decide), if_neg (by decide), if_neg (by decide)] at hXE
      obtain ⟨c6, f6⟩ := s2.at6
      have s3 := s2.set6
      have hfin := HNO.out _ b hXE s3.isNone
      clear hXE
      go_wp2
      go_ret
      exact hfin

end
end Go.Proofs.YtpinfihmageeoaaGreat.Inf

namespace Go
variable {P : Program}
theorem results_row_tmp {fn : Func} {p q : Tmp} {ty : TypeId} (h : fn.results = #[.cell p ty, .tmp q]) (tmps : Array Value) (w : World) (g : Nat) (t : TypeId) (cs : Array Value) (fr : Nat × Nat) (d : TypeDesc)
    (hp : tmps.getD p undef = .pointer (some ⟨g, 0, none⟩)) (hg : w.heap[g]? = some (.cells cs t fr))
    (hu : P.underlying ty = some d) (hd : (match d with | .struct _ | .array _ _ => true | _ => false) = true) (hi : (P.info? ty).map (·.size) = some cs.size) :
    (results fn tmps).run P w = .ok (.tuple #[.agg cs, tmps.getD q undef]) w := by
  have hp' : tmps[p]?.getD undef = .pointer (some ⟨g, 0, none⟩) := by simpa using hp
  simp [results, h, hp', asAddr, run_loadVar_row w g t ty cs fr d hg hu hd hi]
end Go
namespace Go.Proofs.YtpinfihmageeoaaGreat.Inf
open Go.RowKit Kraft Hd

section
variable {B : Nat} {w0 w : World} {r : List Thing} {sb : Nat} {rv bv : Value} {R : List Bool} {keep p : Nat} {out : List Nat} {bad : Bool}

theorem ofBytes_bitI (xs : List Nat) : ∀ (k : Nat), k ≤ xs.length → ofBytes (xs.take k) = (row xs).take (8 * k)
  | 0, _ => by simp [ofBytes]
  | k + 1, h => by
    rw [ofBytes_snoc xs k (by omega), ofBytes_bitI xs k (by omega)]
    have e : (row xs).take (8 * (k + 1)) = (row xs).take (8 * k) ++ ((row xs).drop (8 * k)).take 8 := by rw [show 8 * (k + 1) = 8 * k + 8 from by omega, List.take_add]
    rw [e]
    congr 1
    refine List.ext_getElem (by rw [bitsOf_length, List.length_take, List.length_drop, row_length]; omega) (fun i h1 h2 => ?_)
    rw [bitsOf_length] at h1
    rw [List.getElem_take, List.getElem_drop, row_get]
    unfold bitAt
    rw [getD_in _ _ (by omega : (8 * k + i) / 8 < xs.length)]
    have e1 : (8 * k + i) / 8 = k := by omega
    have e2 : (8 * k + i) % 8 = i := by omega
    have hb := num_bit (bitsOf xs[k] 8) i
    simp only [e1, e2]
    have hg : ∀ (n v i : Nat) (h : i < (bitsOf v n).length), (bitsOf v n)[i] = (v / 2 ^ i % 2 == 1) := by
      intro n
      induction n with
      | zero => intro v i h; simp [bitsOf] at h
      | succ n ih =>
        intro v i h
        rw [bitsOf_length] at h
        cases i with
        | zero => simp [bitsOf]
        | succ i =>
          simp only [bitsOf, List.getElem_cons_succ]
          rw [ih (v / 2) i (by rw [bitsOf_length]; omega), Nat.div_div_eq_div_mul, Nat.pow_succ, Nat.mul_comm]
    exact hg 8 _ i _

theorem ofBytes_rowI (xs : List Nat) : ofBytes xs = row xs := by
  have h := ofBytes_bitI xs xs.length (Nat.le_refl _)
  rw [List.take_of_length_le (Nat.le_refl _), List.take_of_length_le (by rw [row_length]; exact Nat.le_refl _)] at h
  exact h

theorem of_st (st : St B w0 w r) (v : Value) (xs : List Nat) (hv : ByteRow w v xs) (hl : xs.length ≤ 1000000) :
    Calls Tryz.prog 51 #[v] w fun e w' => ∃ v', e = .returned v' ∧ St B w0 w' (rowT 4 1 v' (row xs).length (bools (row xs)) :: r) := by
  have h := of_any w v xs hv hl
  rw [ofBytes_rowI] at h
  refine h.mono ?_
  rintro e w' ⟨v', rfl, h1, h2⟩
  exact ⟨v', rfl, st.addRow h2 h1⟩

set_option maxRecDepth 100000 in
set_option maxHeartbeats 4000000 in
theorem refInflate_st (st : St B w0 w r) (v : Value) (xs : List Nat) (hv : ∀ W, St B w0 W r → ByteRow W v xs) (hx : xs.length ≤ 1250) (keep : Nat) (hk : keep ≤ 100000) :
    Calls Tryz.prog 33 #[v, .int .i64 (keep : Int)] w (Flow10 B w0 r keep (infl xs)) := by
  obtain ⟨X, hX⟩ : ∃ X, infl xs = X := ⟨_, rfl⟩
  rw [hX]
  have HX := Lib.hid (show strm (row xs) 0 [] = X from hX)
  clear hX
  have s1 := st.newBox (flowC (.slice none 0 0) 0 0) 28
  have hof := of_st s1 v xs (hv _ s1.drop) (by omega)
  have hRl := row_length xs
  have h8 : (row xs).length % 8 = 0 := by omega
  have hRs : (row xs).length ≤ 10000 := by omega
  have HRL := Lib.hid hRl
  clear hRl hv
  generalize row xs = R at *
  go_enter Tryz.func33, Tryz.ntmps33
  go_wp2_with fail
  refine hof.mono ?_
  rintro e w2 ⟨v2, rfl, s2⟩
  obtain ⟨fb, hfb⟩ : ∃ fb, w.heap.size = fb := ⟨_, rfl⟩
  rw [hfb] at s2
  try rw [hfb]
  clear hof hfb s1
  obtain ⟨ar, cr, hvr⟩ := ownsRow_slice s2.row
  have hbits := refBits9_st s2 v2 R (fun W s => RowAt.of_owns s.row) (by omega)
  subst hvr
  go_wp2_with fail
  refine hbits.mono ?_
  rintro e w3 ⟨v3, rfl, s3⟩
  clear hbits s2
  obtain ⟨ab, cb, hvb⟩ := ownsRow_slice s3.row
  have hR : RowsOf B w0 (rowT 5 1 v3 (nats R).length (u8s (nats R)) :: rowT 4 1 (.slice ar R.length cr) R.length (bools R) :: boxT fb (flowC (.slice none 0 0) 0 0) 28 :: r)
      (.slice ar R.length cr) v3 R := ⟨fun W s => RowAt.of_owns s.drop.row, fun W s => byteRow_owns s.row (nats_lt _), by omega, fun a n c e => by
        rcases s3.row.2 with ⟨e1, _⟩ | ⟨g, cap, cur, e1, _⟩
        · rw [e1] at e
          exact .inl (Value.slice.inj e).1.symm
        · rw [e1] at e
          exact .inr ⟨g, 0, (Value.slice.inj e).1.symm⟩⟩
  subst hvb
  have s4 := (s3.addNil (e := 5) (size := 1)).newBox (strC (.slice ar R.length cr) (.slice ab (nats R).length cb) 0 (.slice none 0 0) keep 0 false) 111
  obtain ⟨n1, hn1⟩ : ∃ n, R.length = n := ⟨_, rfl⟩
  obtain ⟨n2, hn2⟩ : ∃ n, (nats R).length = n := ⟨_, rfl⟩
  rw [hn1, hn2] at s4 hR
  rw [hn1, hn2]
  have HN1 := Lib.hid hn1
  rw [hn1] at h8 hRs
  clear s3 hn1 hn2
  go_wp2
  rw [← HN1.out] at h8 hRs
  have h0 : Str B w0 (w3.alloc (.cells (strC (.slice ar n1 cr) (.slice ab n2 cb) 0 (.slice none 0 0) keep 0 false) 111)) (rowT 5 1 (.slice ab n2 cb) n2 (u8s (nats R)) :: rowT 4 1 (.slice ar n1 cr) n1 (bools R) :: boxT fb (flowC (.slice none 0 0) 0 0) 28 :: r)
      w3.heap.size (.slice ar n1 cr) (.slice ab n2 cb) keep 0 [] false := ⟨none, 0, by
    rw [List.take_nil]
    exact s4⟩
  have hdr : ∀ W, St B w0 W (rowT 5 1 (.slice ab n2 cb) n2 (u8s (nats R)) :: rowT 4 1 (.slice ar n1 cr) n1 (bools R) :: boxT fb (flowC (.slice none 0 0) 0 0) 28 :: r) → St B w0 W (boxT fb (flowC (.slice none 0 0) 0 0) 28 :: r) := fun W s => s.drop.drop
  obtain ⟨L, hL⟩ : ∃ L, rowT 5 1 (.slice ab n2 cb) n2 (u8s (nats R)) :: rowT 4 1 (.slice ar n1 cr) n1 (bools R) :: [] = L := ⟨_, rfl⟩
  replace hR : RowsOf B w0 (rowT 5 1 (.slice ab n2 cb) n2 (u8s (nats R)) :: rowT 4 1 (.slice ar n1 cr) n1 (bools R) :: [] ++ (boxT fb (flowC (.slice none 0 0) 0 0) 28 :: r)) (.slice ar n1 cr) (.slice ab n2 cb) R := hR
  replace h0 : Str B w0 _ (rowT 5 1 (.slice ab n2 cb) n2 (u8s (nats R)) :: rowT 4 1 (.slice ar n1 cr) n1 (bools R) :: [] ++ (boxT fb (flowC (.slice none 0 0) 0 0) 28 :: r)) w3.heap.size (.slice ar n1 cr) (.slice ab n2 cb) keep 0 [] false := h0
  rw [hL] at hR h0
  clear hL s4 hdr HN1
  obtain ⟨sb, hsb⟩ : ∃ sb, w3.heap.size = sb := ⟨_, rfl⟩
  rw [hsb] at h0
  try rw [hsb]
  clear hsb
  generalize w3.alloc (.cells (strC (.slice ar n1 cr) (.slice ab n2 cb) 0 (.slice none 0 0) keep 0 false) 111) = w4 at *
  generalize (.slice ar n1 cr : Value) = rv at *
  generalize (.slice ab n2 cb : Value) = bv at *
  go_loopw [] (fun wr => ∃ q o, q ≤ R.length ∧ Hid (strm R q o = X) ∧ o.length ≤ 258 * q ∧ Str B w0 wr (L ++ (boxT fb (flowC (.slice none 0 0) 0 0) 28 :: r)) sb rv bv keep q o false) (fun wr => match wr.cell? ⟨sb, 2, none⟩ with | some v => R.length - (intOf v).toNat | none => 0)
  case atStart => exact ⟨0, [], Nat.zero_le _, HX, Nat.zero_le _, h0⟩
  case round =>
    clear h0
    obtain ⟨q, o, hq, HS, hol, h1⟩ := hrel
    have hm2 := h1.at2.1
    have hblk := block10_st h1 hR h8 hq hk (by omega)
    cases hb : blockAt R q o with
    | none =>
      rw [hb] at hblk
      have hX : X = none := by rw [← HS.out]; exact strm_none hb
      subst hX
      clear HS hb h1 hm2
      go_wp2_with fail
      refine hblk.mono ?_
      rintro e w5 ⟨b, rfl, cs5, hc6, s5⟩
      have c6 : w5.cell? ⟨sb, 6, none⟩ = some (.bool true) := (s5.boxAt 6).1.trans hc6
      have s6 : St B w0 w5 (boxT fb (flowC (.slice none 0 0) 0 0) 28 :: r) := ⟨s5.only, s5.size, Sep.pass _ L _ s5.drop.sep⟩
      have k0 : w5.cell? ⟨fb, 0, none⟩ = some (.slice none 0 0) := (s6.boxAt 0).1
      have k1 : w5.cell? ⟨fb, 1, none⟩ = some (.int .i64 0) := (s6.boxAt 1).1
      have k2 : w5.cell? ⟨fb, 2, none⟩ = some (.int .i64 0) := (s6.boxAt 2).1
      have k3 : w5.cell? ⟨fb, 3, none⟩ = some (.bool false) := (s6.boxAt 3).1
      have z0 := (s6.boxAt 0).2
      have z1 := (s6.boxAt 1).2
      have z2 := (s6.boxAt 2).2
      have z3 := (s6.boxAt 3).2
      have s7 := (((s6.setBoxAt 0 (.slice none 0 0)).setBoxAt 1 (.int .i64 0)).setBoxAt 2 (.int .i64 0)).setBoxAt 3 (.bool false)
      clear s5 s6 hc6 hblk
      cases b
      all_goals
        go_wp2
        generalize (((w5.setCell ⟨fb, 0, none⟩ (.slice none 0 0)).setCell ⟨fb, 1, none⟩ (.int .i64 0)).setCell ⟨fb, 2, none⟩ (.int .i64 0)).setCell ⟨fb, 3, none⟩ (.bool false) = w6 at s7 ⊢
        replace s7 : St B w0 w6 (boxT fb (flowC (.slice none 0 0) 0 0) 28 :: r) := s7
        refine bodyPost_ret (results_row_tmp rfl _ _ fb 28 (flowC (.slice none 0 0) 0 0) (0, 0) _ rfl s7.box Tryz.underlying28 rfl size_flow) rfl ?_
        exact ⟨rfl, s7.drop⟩
    | some y =>
      obtain ⟨b, q', o'⟩ := y
      rw [hb] at hblk
      have hlt := block_some hb
      have hfar := block_far hb
      cases b with
      | false =>
        have hX : strm R q' o' = X := by rw [← HS.out]; exact (strm_on hb).symm
        have HX := Lib.hid hX
        clear hX HS hb h1
        go_wp2_with fail
        refine hblk.mono ?_
        rintro e w5 ⟨rfl, s5⟩
        have hm5 := s5.at2.1
        obtain ⟨c6, f6⟩ := s5.at6
        go_wp2
        refine ⟨⟨q', o', by omega, HX, by omega, s5⟩, ?_⟩
        rw [hm5, hm2]
        simp [intOf]
        omega
      | true =>
        have hX : X = some (q', o') := by rw [← HS.out]; exact strm_end hb
        subst hX
        clear HS hb h1 hm2
        go_wp2_with fail
        refine hblk.mono ?_
        rintro e w5 ⟨rfl, s5⟩
        obtain ⟨c6, f6⟩ := s5.at6
        have c2 := s5.at2.1
        obtain ⟨oa, oc, st5⟩ := s5.st
        have s6 : St B w0 w5 (boxT sb (strC rv bv q' (.slice oa (o'.take keep).length oc) keep o'.length false) 111 :: rowT 5 1 (.slice oa (o'.take keep).length oc) (o'.take keep).length (u8s (o'.take keep)) :: boxT fb (flowC (.slice none 0 0) 0 0) 28 :: r) :=
          ⟨st5.only, st5.size, Sep.cut L _ [boxT sb (strC rv bv q' (.slice oa (o'.take keep).length oc) keep o'.length false) 111, rowT 5 1 (.slice oa (o'.take keep).length oc) (o'.take keep).length (u8s (o'.take keep))] _ st5.sep⟩
        obtain ⟨uq, huq⟩ : ∃ uq, used q' = uq := ⟨_, rfl⟩
        have hu1 : ((q' : Int) + 7) / 8 = (uq : Int) := by unfold used at huq; omega
        have hu2 : ((q' : Int) + 7).tdiv 8 = (uq : Int) := by rw [Int.tdiv_eq_ediv_of_nonneg (by omega)]; exact hu1
        have hql : q' ≤ 100000 := by omega
        have hfin : ∀ W, St B w0 W (rowT 5 1 (.slice oa (o'.take keep).length oc) (o'.take keep).length (u8s (o'.take keep)) :: r) → Flow10 B w0 r keep (some (q', o')) (.returned (.tuple #[.agg (flowC (.slice oa (o'.take keep).length oc) o'.length uq), .int .i64 0])) W := fun W s => ⟨oa, oc, by rw [huq], s⟩
        have HF := Lib.hid hfin
        clear hfin huq st5 s5 hblk hlt hfar
        generalize u8s (o'.take keep) = us at *
        generalize (o'.take keep).length = m at *
        obtain ⟨z, hz⟩ : ∃ z, o'.length = z := ⟨_, rfl⟩
        rw [hz] at s6 HF
        clear hz
        have c3 : w5.cell? ⟨sb, 3, none⟩ = some (.slice oa m oc) := (s6.boxAt 3).1
        have c5 : w5.cell? ⟨sb, 5, none⟩ = some (.int .i64 (z : Int)) := (s6.boxAt 5).1
        have s7 := s6.front 2
        have k0 : w5.cell? ⟨fb, 0, none⟩ = some (.slice none 0 0) := (St.boxAt s7 0).1
        have k1 : w5.cell? ⟨fb, 1, none⟩ = some (.int .i64 0) := (St.boxAt s7 1).1
        have k2 : w5.cell? ⟨fb, 2, none⟩ = some (.int .i64 0) := (St.boxAt s7 2).1
        have k3 : w5.cell? ⟨fb, 3, none⟩ = some (.bool false) := (St.boxAt s7 3).1
        have z0 := (St.boxAt s7 0).2
        have z1 := (St.boxAt s7 1).2
        have z2 := (St.boxAt s7 2).2
        have z3 := (St.boxAt s7 3).2
        go_wp2
        go_region
        have s8 := ((((s7.setBoxAt 0 (.slice oa m oc)).setBoxAt 1 (.int .i64 (z : Int))).setBoxAt 2 (.int .i64 (uq : Int))).setBoxAt 3 (.bool false)).drew
        generalize ((((w5.setCell ⟨fb, 0, none⟩ (.slice oa m oc)).setCell ⟨fb, 1, none⟩ (.int .i64 (z : Int))).setCell ⟨fb, 2, none⟩ (.int .i64 (uq : Int))).setCell ⟨fb, 3, none⟩ (.bool false)).drew = w6 at s8 ⊢
        replace s8 : St B w0 w6 (boxT fb (flowC (.slice oa m oc) z uq) 28 :: boxT sb (strC rv bv q' (.slice oa m oc) keep z false) 111 :: rowT 5 1 (.slice oa m oc) m us :: r) := s8
        go_wp2
        refine bodyPost_ret (results_row_tmp rfl _ _ fb 28 (flowC (.slice oa m oc) z uq) (0, 0) _ rfl s8.box Tryz.underlying28 rfl size_flow) rfl ?_
        exact HF.out _ s8.drop.drop

set_option maxRecDepth 100000 in
set_option maxHeartbeats 1000000 in
theorem refInflate_arg (st : St B w0 w r) (v : Value) (keep : Int) (hk : keep < 0) :
    Calls Tryz.prog 33 #[v, .int .i64 keep] w fun e w' => e = .returned (.tuple #[.agg (flowC (.slice none 0 0) 0 0), .int .i64 5]) ∧ St B w0 w' r := by
  have s3 := st.newBox (flowC (.slice none 0 0) 0 0) 28
  go_enter Tryz.func33, Tryz.ntmps33
  go_wp2
  refine bodyPost_ret (results_row_tmp rfl _ _ w.heap.size 28 (flowC (.slice none 0 0) 0 0) (0, 0) _ rfl s3.box Tryz.underlying28 rfl size_flow) rfl ?_
  exact ⟨rfl, s3.drop⟩

end
end Go.Proofs.YtpinfihmageeoaaGreat.Inf
