/-
  Contracts of package lcp: Heights. No conditions but that rows are small.
-/
import Derived.Test.YtfifkbadniekfaaLcpD
import Derived.Test.YtfifkbadniekfaaGzS
import Derived.Test.YtfifkbadniekfaaSufI
namespace Go.Proofs.Ytfifkbadniekfaa.Lcp
open Go.RowKit Go.Shelf Go.Proofs.Ytfifkbadniekfaa.Suf

attribute [local go_sem] Oper.semAt_some

/-- What Heights leaves. -/
def HeightsSt (B : Nat) (w0 : World) (r : List Thing) (b : List Nat) (xs : List Int) (en : Ending) (w' : World) : Prop :=
  (∃ (O : List Nat) (g : Nat), xs = (O.map fun x : Nat => (x : Int)) ∧ Whole b.length (Ahead false b) O ∧ en = .returned (.tuple #[.slice (some ⟨g, 0, none⟩) b.length b.length, .int .i64 0]) ∧ St B w0 w' (numsT 3 g b.length (hts b O) :: r)) ∨
  ((∀ O : List Nat, xs = (O.map fun x : Nat => (x : Int)) → ¬ Whole b.length (Ahead false b) O) ∧ en = .returned (.tuple #[.slice none 0 0, .int .i64 5]) ∧ St B w0 w' r)

theorem inv_of_whole {b O : List Nat} {xs : List Int} (e : xs = O.map fun x : Nat => (x : Int)) (h : Whole b.length (Ahead false b) O) : ∃ J, Inv xs J := by
  subst e
  exact inv_whole h (fun _ => Ahead.irrefl)

/-- What the loop's own memory holds. -/
theorem heldH_from {n1 : Nat} {w1 : World} {L : Nat → List Thing} {b : Nat} (hL : ∀ k X T, (∀ j, T j → ∀ cs t fr, X.heap[j]? ≠ some (.cells cs t fr)) → ∀ A ∈ L k, Off X T A) (hb : n1 ≤ b) : OwnFrom b (fun k X => St n1 w1 X (L k)) := by
  rintro k A B row h hg hr
  refine h.other (T := fun j => row = some j) (hL k A _ fun j hj cs t fr e => ?_) (fun j hj => ?_) ⟨hg.os, hg.tape, hg.output, hg.size, fun k hk hn => hg.block k hk (fun e => hn e.symm)⟩
  · obtain ⟨o, ho, hc⟩ := (hr j hj).2
    rw [e] at ho
    obtain rfl := Option.some.inj ho
    cases hc
  · have := (hr j hj).1
    omega

section
variable {B : Nat} {w0 w : World} {r : List Thing}

set_option maxRecDepth 100000 in
set_option maxHeartbeats 8000000 in
/-- Heights: what is common to neighbours of the order of ends. -/
theorem heights_st (st : St B w0 w r) (v u : Value) (b : List Nat) (xs : List Int) (hv : ∀ W, St B w0 W r → ByteRow W v b) (hu : ∀ W, St B w0 W r → IntRow W u xs) (hb : b.length ≤ 400000) (hx : xs.length ≤ 1000000) :
    Calls Try.prog 9 #[v, u] w (HeightsSt B w0 r b xs) := by
  obtain ⟨va, vc, rfl⟩ : ∃ a c, v = .slice a b.length c := by obtain ⟨a, c, e, _⟩ := hv w st; exact ⟨a, c, e⟩
  obtain ⟨ua, uc, rfl⟩ : ∃ a c, u = .slice a xs.length c := by obtain ⟨a, c, e, _⟩ := hu w st; exact ⟨a, c, e⟩
  by_cases hl : xs.length = b.length
  rotate_left
  · have hne : ((xs.length : Int) == (b.length : Int)) = false := by simp; omega
    have hno : ∀ O : List Nat, xs = (O.map fun x : Nat => (x : Int)) → ¬ Whole b.length (Ahead false b) O := fun O e h => hl (by rw [e, List.length_map, h.len])
    have HNO := Lib.hid hno
    clear hno hv hu
    unfold HeightsSt
    generalize xs.length = m at *
    generalize b.length = n at *
    go_enter Try.func9, Try.ntmps9
    go_wp2
    go_ret2
    exact .inr ⟨HNO.out, rfl, st⟩
  obtain ⟨n, hn⟩ : ∃ n, b.length = n := ⟨_, rfl⟩
  have hpl := places_st st _ xs hu hx
  have hcase : (∀ J, ¬ Inv xs J) → n ≠ 0 ∧ ∀ O : List Nat, xs = (O.map fun x : Nat => (x : Int)) → ¬ Whole b.length (Ahead false b) O := fun hno => by
    refine ⟨fun e => hno [] ⟨by rw [hl, hn, e]; rfl, fun i hi => absurd hi (by simp)⟩, fun O e h => ?_⟩
    obtain ⟨J, hJ⟩ := inv_of_whole e h
    exact hno J hJ
  have HCASE := Lib.hid hcase
  have HV := Lib.hid hv
  have HU := Lib.hid hu
  have HL := Lib.hid (And.intro hl hn)
  rw [hl] at hpl hx ⊢
  rw [hn] at hpl hb hx ⊢
  clear hv hu hcase hl hn
  obtain ⟨i0, hi, hz0, hz1, hz2⟩ := info_parts infoI
  have hmk : i0.bytes * n ≤ 281474976710656 := by rw [hz2]; omega
  have hmx : n ≤ maxLen := by unfold maxLen; omega
  refine (callsIn_wide (n := 3)).1 ?_
  refine callsIn_of_wp_marks Try.func9 rfl trivial ?_ rfl
  simp only [Try.ntmps9, List.size_toArray, List.length_cons, List.length_nil, Nat.reduceAdd, Nat.reduceSub, Array.replicate_succ, Array.replicate_zero, List.push_toArray, List.append_toArray, List.nil_append, List.cons_append]
  gi_wp2_with fail
  refine ⟨trivial, ?_⟩
  refine (callsIn_wide.2 hpl).mono ?_
  clear hpl
  rintro e w1 (⟨J, hJ, g, rfl, s1⟩ | ⟨hno, rfl, s1⟩)
  rotate_left
  · obtain ⟨h0, hno2⟩ := HCASE.out hno
    have HNO := Lib.hid hno2
    have hne : ((0 : Int) != (n : Int)) = true := by simp; omega
    clear hno hno2
    gi_wp2
    refine ⟨trivial, ?_⟩
    gi_wp2
    refine ⟨_, results_tmp2 rfl _ _ _, ?_⟩
    exact .inr ⟨HNO.out, rfl, s1.alloc _⟩
  have hJl : J.length = n := by rw [hJ.1, HL.out.1, HL.out.2]
  obtain ⟨O, hO⟩ := ints_inv hJ
  have hof : Of O J := of_inv (by rw [← hO]; exact hJ)
  have hOl : O.length = n := by rw [← hJl, hof.len]
  rw [hJl] at s1 ⊢
  have s2 := s1.newBox #[.slice (some ⟨g, 0, none⟩) n n] 23
  obtain ⟨b6, hb6⟩ : ∃ x, w1.heap.size = x := ⟨_, rfl⟩
  rw [hb6] at s2
  have hU : ∀ W, St B w0 W r → NumRow W (.slice ua n uc) O := fun W t => by
    have h1 := HU.out W t
    rw [hO] at h1
    have h2 := h1.nums (fun x hx => by obtain ⟨y, _, rfl⟩ := List.mem_map.1 hx; omega)
    have e : ((O.map fun x : Nat => (x : Int)).map Int.toNat) = O := by simp [List.map_map, Function.comp_def]
    rw [e] at h2
    rw [List.length_map, hOl] at h2
    exact h2
  have hV : ∀ W, St B w0 W r → ByteRow W (.slice va n vc) b := fun W t => by
    have := HV.out W t
    rwa [HL.out.2] at this
  have hri := rises_st s2 (.slice va n vc) (.slice ua n uc) (.slice (some ⟨g, 0, none⟩) n n) b O J (fun W t => hV W t.drop.drop) (fun W t => hU W t.drop.drop) (fun W t => numsRow t.swap hJl) (by rw [HL.out.2]; omega) (by rw [HL.out.2, hOl]) (by rw [HL.out.2, hJl]) (fun i hi => by have := (hof.back i (by rw [hOl, ← HL.out.2]; exact hi)).1; rw [HL.out.2]; omega)
  have k6 := (s2.boxAt 0).1
  simp only [List.getElem?_toArray, List.getElem?_cons_zero] at k6
  have HX := Lib.hid (And.intro hJ (And.intro hO hof))
  have HUV := Lib.hid (And.intro hU hV)
  have HLEN := Lib.hid (And.intro hJl hOl)
  clear hJ hO hof hU hV hJl hOl s1
  gi_wp2_with fail
  refine ⟨trivial, ?_⟩
  refine (callsIn_wide.2 hri).mono ?_
  clear hri k6 hb6
  generalize w1.alloc (.cells #[.slice (some ⟨g, 0, none⟩) n n] 23) = w2 at *
  rintro e w3 ⟨t, ht, rfl, s3⟩
  clear s2
  have k6 := (s3.boxAt 0).1
  simp only [List.getElem?_toArray, List.getElem?_cons_zero] at k6
  have hwh := order_good (b := b) (by rw [HLEN.out.2, HL.out.2]) HX.out.2.2
  rw [← ht] at hwh
  cases t with
  | false =>
    have hno : ∀ O' : List Nat, xs = (O'.map fun x : Nat => (x : Int)) → ¬ Whole b.length (Ahead false b) O' := fun O' e h => by
      have h1 := ints_one (HX.out.2.1.symm.trans e)
      subst h1
      exact absurd (hwh.1 h) (by decide)
    have HNO := Lib.hid hno
    clear hno hwh ht
    gi_wp2
    refine ⟨_, results_tmp2 rfl _ _ _, ?_⟩
    exact .inr ⟨HNO.out, rfl, s3.drop.drop⟩
  | true =>
    have hW := hwh.2 rfl
    clear hwh ht
    have HW := Lib.hid hW
    clear hW st
    gi_wp2_with (gi_at_make; refine wpListIn_make_all _ rfl _ _ 23 rfl w3.heap.size 3 i0 (.int .i64 0) 1 Try.underlying23 hi hz0 hz1 _ _ _ _ n rfl rfl rfl rfl hmk hmx (Nat.le_refl _) ?_)
    intro w4 hown hg
    have t1 := (St.start w3).madeNums hown hg
    have t2 := t1.newBox #[.slice (some ⟨w3.heap.size, 0, none⟩) n n] 23
    obtain ⟨b7, hb7⟩ : ∃ x, w4.heap.size = x := ⟨_, rfl⟩
    rw [hb7] at t2
    have q0 : w3.heap.size < (w4.alloc (.cells #[.slice (some ⟨w3.heap.size, 0, none⟩) n n] 23)).heap.size := Nat.lt_of_lt_of_le (hown.lt _ rfl).2 (by simp)
    clear t1 hown hg hi hz0 hz1 hz2 hmk hmx
    have k6' := ((t2.below (Nat.le_refl _)).cell (p := ⟨b6, 0, none⟩) (World.block_lt_of_cell? w3 _ k6)).trans k6
    gi_wp2_with fail
    generalize w4.alloc (.cells #[.slice (some ⟨w3.heap.size, 0, none⟩) n n] 23) = w5 at *
    refine ⟨trivial, ?_⟩
    refine (callsIn_wide.2 (commons_any va ua (some ⟨g, 0, none⟩) n n n vc uc n _)).mono ?_
    rintro e w9 ⟨rfl, rfl⟩
    clear hb7
    have t3 := ((t2.alloc (.cells #[.slice va n vc] 22)).alloc (.cells #[.slice ua n uc] 23)).alloc (.cells #[.slice (some ⟨g, 0, none⟩) n n] 23)
    obtain ⟨n5, hn5⟩ : ∃ x, w5.heap.size = x := ⟨_, rfl⟩
    have x2 : (((w5.alloc (.cells #[.slice va n vc] 22)).alloc (.cells #[.slice ua n uc] 23)).alloc (.cells #[.slice (some ⟨g, 0, none⟩) n n] 23)).cell? ⟨n5 + 2, 0, none⟩ = some (.slice (some ⟨g, 0, none⟩) n n) := by
      have := (Boxed.new ((w5.alloc (.cells #[.slice va n vc] 22)).alloc (.cells #[.slice ua n uc] 23)) 23 (.slice (some ⟨g, 0, none⟩) n n)).cell
      rwa [World.size_alloc, World.size_alloc, hn5] at this
    have x1 : (((w5.alloc (.cells #[.slice va n vc] 22)).alloc (.cells #[.slice ua n uc] 23)).alloc (.cells #[.slice (some ⟨g, 0, none⟩) n n] 23)).cell? ⟨n5 + 1, 0, none⟩ = some (.slice ua n uc) := by
      have := ((Boxed.new (w5.alloc (.cells #[.slice va n vc] 22)) 23 (.slice ua n uc)).alloc (.cells #[.slice (some ⟨g, 0, none⟩) n n] 23)).cell
      rwa [World.size_alloc, hn5] at this
    have x0 : (((w5.alloc (.cells #[.slice va n vc] 22)).alloc (.cells #[.slice ua n uc] 23)).alloc (.cells #[.slice (some ⟨g, 0, none⟩) n n] 23)).cell? ⟨n5, 0, none⟩ = some (.slice va n vc) := by
      have := (((Boxed.new w5 22 (.slice va n vc)).alloc (.cells #[.slice ua n uc] 23)).alloc (.cells #[.slice (some ⟨g, 0, none⟩) n n] 23)).cell
      rwa [hn5] at this
    have z9 : (((w5.alloc (.cells #[.slice va n vc] 22)).alloc (.cells #[.slice ua n uc] 23)).alloc (.cells #[.slice (some ⟨g, 0, none⟩) n n] 23)).heap.size = n5 + 3 := by simp [hn5]
    rw [hn5] at q0
    clear t2 k6'
    gi_wp2_with fail
    clear hn5
    generalize ((w5.alloc (.cells #[.slice va n vc] 22)).alloc (.cells #[.slice ua n uc] 23)).alloc (.cells #[.slice (some ⟨g, 0, none⟩) n n] 23) = w9 at *
    obtain ⟨n1, hn1⟩ : ∃ x, w3.heap.size = x := ⟨_, rfl⟩
    have hq : ∀ W, Below n1 w3 W → St B w0 W (boxT b6 #[.slice (some ⟨g, 0, none⟩) n n] 23 :: numsT 3 g n J :: r) := fun W hW => s3.quiet (by rw [hn1]; exact hW)
    have b9 := t3.below (Nat.le_refl _)
    rw [hn1] at b9
    have HQ := Lib.hid hq
    rw [hn1] at t3 q0 ⊢
    have hO0 := hFill_zero b O
    rw [HLEN.out.2] at hO0
    rw [hO0] at t3
    have hseq := commons_seq 2 (by omega) (n5 + 2) n5 (n5 + 1) n1 (.slice va n vc) (.slice ua n uc) (.slice (some ⟨g, 0, none⟩) n n) b O J w9 (by omega) (by omega) (by omega) (by omega) x2 x0 x1 (fun W hW => HUV.out.2 W (hq W (b9.trans hW)).drop.drop) (fun W hW => HUV.out.1 W (hq W (b9.trans hW)).drop.drop) (fun W hW => numsRow (hq W (b9.trans hW)).swap HLEN.out.1) (by rw [HL.out.2]; omega) HW.out HX.out.2.2
    rw [HL.out.2] at hseq
    clear hq hO0 x0 x1 x2 k6 b9
    refine range_count rfl (by omega) (gf := 26) (lb := #[.pointer (some ⟨n5 + 2, 0, none⟩), .pointer (some ⟨n5, 0, none⟩), .pointer (some ⟨n5 + 1, 0, none⟩)]) rfl trivial (enters_of Try.func26 (by kernel_rfl) rfl)
      hseq (fun h k => KeepC.trans h k) ?keep (Below.refl _ _) (fun _ _ => rfl)
      (fun k W' => St n1 w3 W' [boxT b7 #[.slice (some ⟨n1, 0, none⟩) n n] 23, numsT 3 n1 n (hFill b O k)])
      (heldH_from (L := fun k => [boxT b7 #[.slice (some ⟨n1, 0, none⟩) n n] 23, numsT 3 n1 n (hFill b O k)]) (fun k X T hT A hA => by
        rcases List.mem_cons.1 hA with rfl | hA
        · exact off_box (fun e hb => hT _ hb _ _ _ e)
        · obtain rfl := List.mem_singleton.1 hA
          exact off_row (fun j cs fr e hb => hT _ hb _ _ _ e)) (by omega))
      t3 ?a1 ?assign ?body ?done
    case keep =>
      intro W l o o' hlW hW h3 h4
      exact ⟨belowK_b (w := w9) (by omega) W l o o' hlW hW h3 h4, fun j v _ hv => cell_kept hv (grownBy_putObj' W l o') (fun r e => by cases e; exact ⟨o, hW, h3⟩)⟩
    case assign =>
      intro l j X K hj hK
      unfold comArgs
      gi_wp2
      exact hK
    case body =>
      rintro l k X hk s
      clear hseq t3
      have hstep := hFill_step (b := b) HX.out.2.2 (k := k) (by rw [HLEN.out.2]; exact hk)
      have hat := (HX.out.2.2.at_ k (by rw [HLEN.out.2]; exact hk)).1
      rw [HLEN.out.2] at hat
      have bX := s.below (by omega)
      have sq := HQ.out X bX
      have k6 := (sq.boxAt 0).1
      have c0 := (sq.swap.numCell k HLEN.out.1 hk).1
      have k7 := (s.boxAt 0).1
      obtain ⟨c1, f1⟩ := s.swap.numCell (nth J k) (by rw [hFill_length, HLEN.out.2]) hat
      have e0 : J[k]'(by rw [HLEN.out.1]; exact hk) = nth J k := (nth_lt _).symm
      rw [e0] at c0
      have s2 := (s.drew.swap.putNum (nth J k) (nAt b O J k)).swap
      rw [hstep] at s2
      clear hstep e0
      simp only [List.getElem?_toArray, List.getElem?_cons_zero] at k6 k7
      generalize (hFill b O k)[nth J k]'(by rw [hFill_length, HLEN.out.2]; exact hat) = old at *
      generalize nth J k = i at *
      generalize nAt b O J k = x at *
      have H : KeepsOthers X (X.drew.setCell ⟨n1, i, none⟩ (.int .i64 (x : Int))) ∧ KeepC n1 (n5 + 2) n5 (n5 + 1) X (X.drew.setCell ⟨n1, i, none⟩ (.int .i64 (x : Int))) ∧ St n1 w3 (X.drew.setCell ⟨n1, i, none⟩ (.int .i64 (x : Int))) [boxT b7 #[.slice (some ⟨n1, 0, none⟩) n n] 23, numsT 3 n1 n (hFill b O (k + 1))] := by
        refine ⟨KeepsOthers.trans (B := X.drew) ⟨Nat.le_refl _, fun _ _ h _ => h⟩ (KeepsOthers.setCell _ _ _), ⟨((Below.refl n1 X).drew).setCell (p := ⟨n1, i, none⟩) (Nat.le_refl _) _, fun j v hj hv => ?_⟩, s2⟩
        have hne : j ≠ n1 := by omega
        exact (World.cell?_of_block (w := X.drew) (heap_setCell_other _ ⟨n1, i, none⟩ j _ hne)).trans hv
      have HH := Lib.hid H
      clear s2 sq H bX s
      gi_wp2
      gi_region
      all_goals gi_wp2
      all_goals exact HH.out
    case done =>
      rintro D X hD s hK
      clear hseq t3
      have k7 := (s.boxAt 0).1
      simp only [List.getElem?_toArray, List.getElem?_cons_zero] at k7
      have hrow := s.swap.rowFrom
      have hX := (s.below (by omega)).trans (belowK_b (w := w9) (by omega) X D _ (.deferred none) (by omega) hK rfl rfl)
      have hend := hFill_end HW.out
      rw [HL.out.2] at hend
      rw [hend] at hrow
      have hrow' := ownsRow_putObj hrow (.deferred none) hK rfl
      have sf := s3.drop.drop.addRow (by rw [hn1]; exact hX) (by rw [hn1]; exact hrow')
      have HF := Lib.hid sf
      clear hrow hX hend hrow' sf s
      gi_wp2
      refine ⟨by simp, .inl ⟨_, _, rfl, run_takeDeferred hK, ?_⟩⟩
      refine ⟨_, results_tmp2 rfl _ _ _, ?_⟩
      refine .inl ⟨O, n1, HX.out.2.1, HW.out, ?_, ?_⟩
      · rw [HL.out.2]; rfl
      · rw [HL.out.2]; exact HF.out

end
end Go.Proofs.Ytfifkbadniekfaa.Lcp
