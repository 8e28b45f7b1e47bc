/-
  pressworkref05.fall: the frequencies above 0, the greatest first. No conditions but that there are at most 2000.
-/
import Derived.Test.YtpolbpjclklgbaaLimD
import Derived.Test.YtpolbpjclklgbaaLimC
import Derived.Test.YtpolbpjclklgbaaIntsA
import Derived.Test.YtpolbpjclklgbaaRegion
namespace Go.Proofs.Ytpolbpjclklgbaa.Limit
open Go.RowKit

/-- A number put in at a place. -/
def putAt (P : List Nat) (j x : Nat) : List Nat := P.take j ++ x :: P.drop j

theorem putAt_length {P : List Nat} {j : Nat} (x : Nat) (hj : j ≤ P.length) : (putAt P j x).length = P.length + 1 := by
  unfold putAt; rw [List.length_append, List.length_cons, List.length_take, List.length_drop]; omega

theorem putAt_perm (P : List Nat) (j x : Nat) : (putAt P j x).Perm (x :: P) := by
  unfold putAt
  refine List.perm_middle.trans ?_
  rw [List.take_append_drop]

theorem falls_at {P : List Nat} (hP : P.Pairwise (· ≥ ·)) {a b : Nat} (hab : a ≤ b) (hb : b < P.length) : nth P b ≤ nth P a := by
  by_cases e : a = b
  · subst e; exact Nat.le_refl _
  · rw [nth_lt hb, nth_lt (by omega)]
    exact List.pairwise_iff_getElem.1 hP a b (by omega) hb (by omega)

theorem putAt_falls {P : List Nat} {j x : Nat} (hP : P.Pairwise (· ≥ ·)) (h1 : ∀ q, q < j → x ≤ nth P q) (h2 : j = P.length ∨ (j < P.length ∧ nth P j < x)) : (putAt P j x).Pairwise (· ≥ ·) := by
  unfold putAt
  refine List.pairwise_append.2 ⟨hP.sublist (List.take_sublist _ _), List.pairwise_cons.2 ⟨fun y hy => ?_, hP.sublist (List.drop_sublist _ _)⟩, fun y hy z hz => ?_⟩
  · obtain ⟨i, hi, rfl⟩ := List.getElem_of_mem hy
    rw [List.length_drop] at hi
    rw [List.getElem_drop]
    rcases h2 with h2 | ⟨h2, h3⟩
    · omega
    · have := falls_at hP (a := j) (b := j + i) (by omega) (by omega)
      rw [nth_lt (show j + i < P.length by omega)] at this
      show P[j + i] ≤ x
      omega
  · obtain ⟨i, hi, rfl⟩ := List.getElem_of_mem hy
    rw [List.length_take] at hi
    rw [List.getElem_take]
    have hq := h1 i (by omega)
    rw [nth_lt (by omega)] at hq
    rcases List.mem_cons.1 hz with rfl | hz
    · exact hq
    · obtain ⟨i', hi', rfl⟩ := List.getElem_of_mem hz
      rw [List.length_drop] at hi'
      rw [List.getElem_drop]
      exact List.pairwise_iff_getElem.1 hP i (j + i') (by omega) (by omega) (by omega)

/-- The frequencies above 0, the greatest first. -/
def falling (F : List Nat) : List Nat := ((rare F).map (nth F)).reverse

theorem falling_is {F P : List Nat} (hP : P.Pairwise (· ≥ ·)) (hQ : P.Perm (pos F)) : P = falling F := by
  have hr := rare_is F
  have e : P.reverse = (rare F).map (nth F) := List.Perm.eq_of_pairwise (le := (· ≤ ·)) (fun _ _ _ _ h1 h2 => Nat.le_antisymm h1 h2) (List.pairwise_reverse.2 hP) hr.up ((List.reverse_perm P).trans (hQ.trans hr.weights.symm))
  unfold falling
  rw [← e, List.reverse_reverse]

theorem pos_hit {F : List Nat} {k : Nat} (hk : k < F.length) (h : 0 < F[k]) : (pos (F.take (k + 1))).Perm (F[k] :: pos (F.take k)) := by
  rw [List.take_succ_eq_append_getElem hk]
  unfold pos
  rw [List.filter_append, List.filter_cons_of_pos (by simpa using h), List.filter_nil]
  exact List.perm_append_comm

theorem pos_miss {F : List Nat} {k : Nat} (hk : k < F.length) (h : F[k] = 0) : pos (F.take (k + 1)) = pos (F.take k) := by
  rw [List.take_succ_eq_append_getElem hk]
  unfold pos
  rw [List.filter_append, List.filter_cons_of_neg (by simp [h]), List.filter_nil, List.append_nil]

theorem nums_drop {w : World} {n cap q : Nat} {a : Option Addr} {F : List Nat} (h : NumRow w (.slice a n cap) F) (hq : q ≤ n) : NumRow w (sliced a q n cap 1) (F.drop q) := by
  obtain ⟨a', cap', e, h2, h3, h4⟩ := h
  obtain ⟨rfl, hn, rfl⟩ := Value.slice.inj e
  have hl : (F.drop q).length = n - q := by rw [List.length_drop]; omega
  by_cases hc : cap = q
  · subst hc
    refine ⟨a, 0, by unfold sliced; rw [if_pos rfl, hl, Nat.sub_self], by omega, fun _ => rfl, fun i hi => ?_⟩
    rw [hl] at hi
    omega
  · refine ⟨a.map (·.add (q * 1)), cap - q, by unfold sliced; rw [if_neg hc, hl], by omega, fun e => ?_, fun i hi => ?_⟩
    · cases a with
      | none => have := h3 rfl; omega
      | some x => cases e
    · rw [List.getElem_drop]
      rw [hl] at hi
      obtain ⟨b, off, e0, c0⟩ := h4 (q + i) (by omega)
      refine ⟨b, off + q, by rw [e0]; simp [Addr.add], ?_⟩
      rw [Nat.add_assoc]
      exact c0

/-- A shorter slice of the same row. -/
theorem _root_.Go.Proofs.Ytpolbpjclklgbaa.St.cutTo {B : Nat} {w0 w : World} {r : List Thing} {e : TypeId} {a : Option Addr} {n c : Nat} {xs : List Value} (st : St B w0 w (rowT e 1 (.slice a n c) n xs :: r)) (m : Nat) (hm : m ≤ n) : St B w0 w (rowT e 1 (.slice a m c) m (xs.take m) :: r) :=
  st.step fun S hS => by
    refine ⟨S, ⟨?_, fun k => by cases a <;> exact hS.2 k⟩, Only.refl _ _, fun k hk => .inl hk⟩
    have h := hS.1
    refine ⟨by rw [List.length_take, h.1]; omega, ?_⟩
    rcases h.2 with ⟨e1, h0⟩ | ⟨g, cap, cur, e1, hb, hg, hnc, hcm, hcs, ht⟩
    · obtain ⟨rfl, rfl, rfl⟩ := Value.slice.inj e1
      obtain rfl : m = 0 := by omega
      exact .inl ⟨rfl, rfl⟩
    · obtain ⟨rfl, -, rfl⟩ := Value.slice.inj e1
      refine .inr ⟨g, c, cur, rfl, hb, hg, by omega, hcm, hcs, ?_⟩
      rw [← ht, List.take_take, Nat.mul_one, Nat.mul_one, Nat.min_eq_left hm]

theorem numRow_any' {w : World} {base n : Nat} {e : TypeId} {v : Value} {l : List Nat} (h : w.ownsRow base e 1 v n (i64s l)) (hl : l.length = n) : NumRow w v l := by
  obtain ⟨a, c, rfl⟩ := ownsRow_slice h
  subst hl
  exact numRow_owns h

theorem putAt_row {B : Nat} {w0 w : World} {r : List Thing} {e : TypeId} {v : Value} {P R : List Nat} {j x : Nat} (hR : R = P.drop j) (hj : j ≤ P.length)
    (h : St B w0 w (rowT e 1 v (j + 1 + R.length) ((i64s P).take j ++ [.int .i64 (x : Int)] ++ i64s R) :: r)) : St B w0 w (rowT e 1 v (putAt P j x).length (i64s (putAt P j x)) :: r) := by
  subst hR
  have e : i64s (putAt P j x) = (i64s P).take j ++ [.int .i64 (x : Int)] ++ i64s (P.drop j) := by
    unfold putAt
    simp [i64s, List.map_take]
  have e2 : (putAt P j x).length = j + 1 + (P.drop j).length := by rw [putAt_length x hj, List.length_drop]; omega
  rw [e, e2]
  exact h

set_option maxRecDepth 100000 in
set_option maxHeartbeats 1000000 in
theorem fall_any (w : World) (v : Value) (F : List Nat) (h : NumRow w v F) (hn : F.length ≤ 2000) :
    Calls Try.prog 19 #[v] w fun e w' => ∃ u, e = .returned u ∧ St w.heap.size w w' [rowT 3 1 u (falling F).length (i64s (falling F))] := by
  have H := Lib.hid h
  obtain ⟨a0, cap0, rfl, hc0, hn0, -⟩ := h
  go_enter Try.func19, Try.ntmps19
  go_wp2
  go_loopw [3, 4] (fun ov iv wr => ∃ (k : Nat) (P : List Nat), k ≤ F.length ∧ iv = .int .i64 (k : Int) ∧ P.Pairwise (· ≥ ·) ∧ P.Perm (pos (F.take k)) ∧ P.length ≤ k ∧ (P = [] → ov = .slice none 0 0) ∧ St w.heap.size w wr [rowT 3 1 ov P.length (i64s P)]) (fun _ iv _ => F.length - (intOf iv).toNat)
  case atStart => exact ⟨0, [], Nat.zero_le _, rfl, .nil, by simp [pos], Nat.le_refl _, fun _ => rfl, (St.start w).addNil⟩
  case round =>
    obtain ⟨k, P, hk, rfl, hP, hQ, hPk, hnil, t1⟩ := hrel
    have HNIL := Lib.hid hnil
    clear hnil
    have HP := Lib.hid hP
    have HQ := Lib.hid hQ
    clear hP hQ
    obtain ⟨ao, co, rfl⟩ := ownsRow_slice t1.row
    by_cases hlt : k < F.length
    · obtain ⟨a0', cap0', e1, -, -, hat⟩ := H.out.below (t1.below (Nat.le_refl _)) (Nat.le_refl _)
      obtain ⟨b0, off0, rfl, hx0⟩ := hat k hlt
      obtain ⟨rfl, -, rfl⟩ := Value.slice.inj e1
      clear hat e1
      have hxk : ∀ wx l, St w.heap.size w wx l → wx.cell? ⟨b0, off0 + k, none⟩ = some (.int .i64 (F[k] : Int)) := fun wx l tx => by
        obtain ⟨a1', cap1', e1, -, -, hat⟩ := H.out.below (tx.below (Nat.le_refl _)) (Nat.le_refl _)
        obtain ⟨b1', off1', e2, hx⟩ := hat k hlt
        obtain ⟨e3, -, -⟩ := Value.slice.inj e1
        rw [← e3] at e2
        obtain ⟨rfl, rfl, -⟩ := Addr.mk.inj (Option.some.inj e2)
        exact hx
      have hh := fun h0 => pos_hit hlt h0
      have hm := fun h0 => pos_miss hlt h0
      generalize F[k] = x at hx0 hxk hh hm
      have HXK := Lib.hid hxk
      have HH := Lib.hid hh
      have HM := Lib.hid hm
      clear hxk hh hm
      by_cases hx : x = 0
      · subst hx
        go_wp2
        exact ⟨⟨k + 1, P, by omega, by go_num, HP.out, by rw [HM.out rfl]; exact HQ.out, by omega, HNIL.out, t1⟩, by simp [intOf]; omega⟩
      · have hx1 : 0 < x := by omega
        go_wp2
        go_loopw [5] (fun jv wx => ∃ j : Nat, j ≤ P.length ∧ jv = .int .i64 (j : Int) ∧ (∀ q, q < j → x ≤ nth P q) ∧ St w.heap.size w wx [rowT 3 1 (.slice ao P.length co) P.length (i64s P)]) (fun jv _ => P.length - (intOf jv).toNat)
        case atStart => exact ⟨0, Nat.zero_le _, rfl, fun q hq => absurd hq (by omega), t1⟩
        case round =>
          obtain ⟨j, hj, rfl, hb, t2⟩ := hrel
          have HB := Lib.hid hb
          clear hb t1 hx0
          have hx2 := HXK.out wr.drew _ t2.drew
          have hx3 := HXK.out wr _ t2
          by_cases hgo : j < P.length ∧ x ≤ nth P j
          · obtain ⟨hjl, hge⟩ := hgo
            obtain ⟨g, cap, e1, hcap⟩ := t2.rowShape (by omega)
            obtain ⟨rfl, -, rfl⟩ := Value.slice.inj e1
            have cj : wr.cell? ⟨g, j, none⟩ = some (.int .i64 (nth P j : Int)) := by
              rw [t2.row.cellAt j (by omega), i64s_get _ _ hjl, nth_lt hjl]
            have cj' : wr.drew.cell? ⟨g, j, none⟩ = some (.int .i64 (nth P j : Int)) := cj
            go_wp2
            go_region
            all_goals go_wp2
            refine ⟨⟨j + 1, by omega, by go_num, fun q hq => ?_, t2.drew⟩, by simp [intOf]; omega⟩
            by_cases e : q = j
            · subst e; exact hge
            · exact HB.out q (by omega)
          · have hstop : j = P.length ∨ (j < P.length ∧ nth P j < x) := by omega
            have HS := Lib.hid hstop
            clear hgo
            have hdrop : ∀ wx l, St w.heap.size w wx (rowT 3 1 (.slice ao P.length co) P.length (i64s P) :: l) → NumRow wx (sliced ao j P.length co 1) (P.drop j) := fun wx l tx => nums_drop tx.numRow hj
            have HD := Lib.hid hdrop
            clear hdrop
            have hcase : (P = [] ∧ ao = none ∧ co = 0 ∧ j = 0) ∨ (∃ g, ao = some ⟨g, 0, none⟩ ∧ 0 < P.length ∧ co = j ∧ j = P.length) ∨ (∃ g, ao = some ⟨g, 0, none⟩ ∧ 0 < P.length ∧ ¬ co = j ∧ j < co ∧ j = P.length) ∨ (∃ g, ao = some ⟨g, 0, none⟩ ∧ 0 < P.length ∧ ¬ co = j ∧ j < co ∧ j < P.length ∧ nth P j < x) := by
              by_cases h0 : P = []
              · obtain ⟨e1, -, e2⟩ := Value.slice.inj (HNIL.out h0)
                exact .inl ⟨h0, e1, e2, by rw [h0] at hj; simpa using hj⟩
              · have hp := List.length_pos_iff.2 h0
                obtain ⟨g, cap, e1, hcap⟩ := t2.rowShape hp
                obtain ⟨rfl, -, rfl⟩ := Value.slice.inj e1
                rcases hstop with e | ⟨e1, e2⟩
                · by_cases e3 : co = j
                  · exact .inr (.inl ⟨g, rfl, hp, e3, e⟩)
                  · exact .inr (.inr (.inl ⟨g, rfl, hp, e3, by omega, e⟩))
                · exact .inr (.inr (.inr ⟨g, rfl, hp, by omega, by omega, e1, e2⟩))
            have HF := Lib.hid (putAt_falls HP.out HB.out hstop)
            have HG := Lib.hid ((putAt_perm P j x).trans ((HQ.out.cons x).trans (HH.out hx1).symm))
            clear hstop HS HB HP HQ HH HM
            rcases hcase with ⟨rfl, rfl, rfl, rfl⟩ | ⟨g, rfl, hp, e5, e6⟩ | ⟨g, rfl, hp, hcj, hjc, e6⟩ | ⟨g, rfl, hp, hcj, hjc, hjl, hge⟩
            · have hj0 : 0 ≤ ([] : List Nat).length := Nat.le_refl _
              go_wp2
              go_region
              all_goals go_wp2_with (at_builtin; refine wpList_copyNums (xs := ([] : List Nat)) rfl _ _ rfl t2.drew ?nr rfl rfl (by first | (rw [List.length_drop]; omega) | (simp; done)) ?_)
              case nr =>
                have z := HD.out _ _ t2.drew
                simp [sliced] at z
                exact z
              intro v3 w3 t3
              obtain ⟨a3, c3, rfl⟩ := ownsRow_slice t3.row
              have t4 := (t3.swap.drew).cutTo 0 (by first | exact Nat.le_refl _ | omega)
              have x4 := HXK.out w3.drew _ t4
              clear t2 t3 hx2 hx3
              obtain ⟨i0, hi, hz0, hz1', hz2⟩ := info_parts infoI
              go_wp2
              refine region_seg (by kernel_rfl) [0, 1, 3, 4, 9] 7 rfl (by kernel_rfl) (by kernel_rfl) (fun _ _ d _ _ h => by cases d <;> exact h) ?_
              generalize w3.drew = wd at *
              intro K hK
              simp only [pickL, List.getElem?_cons_zero, List.getElem?_cons_succ]
              go_wp2_with fail
              refine wpAny_take (i := 2) (v := .slice none 0 0) rfl (by kernel_rfl) (by kernel_rfl) (by kernel_rfl) (fun _ _ _ h => h) (.inl ⟨rfl, fun w => by go_simp; try (intro hh; exfalso; omega)⟩) ?_
              refine mid_seg [5, 6, 7, 8, 10, 11] 0 (by kernel_rfl) (by kernel_rfl) (fun _ _ d _ _ h => by cases d <;> exact h) ?_
              intro K hK
              simp only [pickL, List.getElem?_cons_zero, List.getElem?_cons_succ]
              go_wp2_with (at_builtin; refine wpList_append_one rfl _ _ 24 rfl 3 i0 (.int .i64 0) 1 8 Try.underlying24 hi hz0 hz1' hz2 rfl (by decide) t4 rfl [.int .i64 (x : Int)] rfl rfl ?oneCell (by unfold maxLen; omega) (by omega) ?_)
              case oneCell => first | rfl | (intro u hu; simp at hu; subst hu; rfl)
              intro v5 w5 t5
              go_wp2_with (at_builtin; refine wpList_append_nums rfl _ _ rfl t5 (numRow_any' t5.swap.row (by first | rfl | exact List.length_drop)) rfl rfl (by first | (rw [List.length_drop]; omega) | (simp; done) | (simp; omega)) ?_; intro v6 w6 t6 _ _)
              refine wpAny_done (by kernel_rfl) ?_ 0
              have t7 := putAt_row (P := ([] : List Nat)) (j := 0) (x := x) (R := ([] : List Nat)) (by simp) (by first | exact Nat.le_refl _ | omega) t6.swap.drop
              clear t4 t5 t6 x4
              go_wp2
              exact ⟨⟨k + 1, putAt ([] : List Nat) 0 x, by omega, by go_num, HF.out, HG.out, by rw [putAt_length x (by first | exact Nat.le_refl _ | omega)]; first | omega | (simp; done) | (simp; omega), fun e => absurd (congrArg List.length e) (by rw [putAt_length x (by first | exact Nat.le_refl _ | omega)]; simp), t7⟩, by simp [intOf]; omega⟩
            · subst e5
              subst e6
              go_wp2
              go_region
              all_goals go_wp2_with (at_builtin; refine wpList_copyNums (xs := ([] : List Nat)) rfl _ _ rfl t2.drew ?nr rfl rfl (by first | (rw [List.length_drop]; omega) | (simp; done)) ?_)
              case nr =>
                have z := HD.out _ _ t2.drew
                simp [sliced] at z
                exact z
              intro v3 w3 t3
              obtain ⟨a3, c3, rfl⟩ := ownsRow_slice t3.row
              have t4 := (t3.swap.drew).cutTo P.length (by first | exact Nat.le_refl _ | omega)
              have x4 := HXK.out w3.drew _ t4
              clear t2 t3 hx2 hx3
              obtain ⟨i0, hi, hz0, hz1', hz2⟩ := info_parts infoI
              go_wp2
              refine region_seg (by kernel_rfl) [0, 1, 3, 4, 9] 7 rfl (by kernel_rfl) (by kernel_rfl) (fun _ _ d _ _ h => by cases d <;> exact h) ?_
              generalize w3.drew = wd at *
              intro K hK
              simp only [pickL, List.getElem?_cons_zero, List.getElem?_cons_succ]
              go_wp2_with fail
              refine wpAny_take (i := 2) (v := .slice (some ⟨g, 0, none⟩) P.length P.length) rfl (by kernel_rfl) (by kernel_rfl) (by kernel_rfl) (fun _ _ _ h => h) (.inl ⟨rfl, fun w => by go_simp; try (intro hh; exfalso; omega)⟩) ?_
              refine mid_seg [5, 6, 7, 8, 10, 11] 0 (by kernel_rfl) (by kernel_rfl) (fun _ _ d _ _ h => by cases d <;> exact h) ?_
              intro K hK
              simp only [pickL, List.getElem?_cons_zero, List.getElem?_cons_succ]
              go_wp2_with (at_builtin; refine wpList_append_one rfl _ _ 24 rfl 3 i0 (.int .i64 0) 1 8 Try.underlying24 hi hz0 hz1' hz2 rfl (by decide) t4 rfl [.int .i64 (x : Int)] rfl rfl ?oneCell (by unfold maxLen; omega) (by omega) ?_)
              case oneCell => first | rfl | (intro u hu; simp at hu; subst hu; rfl)
              intro v5 w5 t5
              go_wp2_with (at_builtin; refine wpList_append_nums rfl _ _ rfl t5 (numRow_any' t5.swap.row (by first | rfl | exact List.length_drop)) rfl rfl (by first | (rw [List.length_drop]; omega) | (simp; done) | (simp; omega)) ?_; intro v6 w6 t6 _ _)
              refine wpAny_done (by kernel_rfl) ?_ 0
              have t7 := putAt_row (P := P) (j := P.length) (x := x) (R := ([] : List Nat)) (by simp) (by first | exact Nat.le_refl _ | omega) t6.swap.drop
              clear t4 t5 t6 x4
              go_wp2
              exact ⟨⟨k + 1, putAt P P.length x, by omega, by go_num, HF.out, HG.out, by rw [putAt_length x (by first | exact Nat.le_refl _ | omega)]; first | omega | (simp; done) | (simp; omega), fun e => absurd (congrArg List.length e) (by rw [putAt_length x (by first | exact Nat.le_refl _ | omega)]; simp), t7⟩, by simp [intOf]; omega⟩
            · subst e6
              go_wp2
              go_region
              all_goals go_wp2_with (at_builtin; refine wpList_copyNums (xs := ([] : List Nat)) rfl _ _ rfl t2.drew ?nr rfl rfl (by first | (rw [List.length_drop]; omega) | (simp; done)) ?_)
              case nr =>
                have z := HD.out _ _ t2.drew
                simp [sliced, add_none, hcj] at z
                exact z
              intro v3 w3 t3
              obtain ⟨a3, c3, rfl⟩ := ownsRow_slice t3.row
              have t4 := (t3.swap.drew).cutTo P.length (by first | exact Nat.le_refl _ | omega)
              have x4 := HXK.out w3.drew _ t4
              clear t2 t3 hx2 hx3
              obtain ⟨i0, hi, hz0, hz1', hz2⟩ := info_parts infoI
              go_wp2
              refine region_seg (by kernel_rfl) [0, 1, 3, 4, 9] 7 rfl (by kernel_rfl) (by kernel_rfl) (fun _ _ d _ _ h => by cases d <;> exact h) ?_
              generalize w3.drew = wd at *
              intro K hK
              simp only [pickL, List.getElem?_cons_zero, List.getElem?_cons_succ]
              go_wp2_with fail
              refine wpAny_take (i := 2) (v := .slice (some ⟨g, 0, none⟩) P.length co) rfl (by kernel_rfl) (by kernel_rfl) (by kernel_rfl) (fun _ _ _ h => h) (.inl ⟨rfl, fun w => by go_simp; try (intro hh; exfalso; omega)⟩) ?_
              refine mid_seg [5, 6, 7, 8, 10, 11] 0 (by kernel_rfl) (by kernel_rfl) (fun _ _ d _ _ h => by cases d <;> exact h) ?_
              intro K hK
              simp only [pickL, List.getElem?_cons_zero, List.getElem?_cons_succ]
              go_wp2_with (at_builtin; refine wpList_append_one rfl _ _ 24 rfl 3 i0 (.int .i64 0) 1 8 Try.underlying24 hi hz0 hz1' hz2 rfl (by decide) t4 rfl [.int .i64 (x : Int)] rfl rfl ?oneCell (by unfold maxLen; omega) (by omega) ?_)
              case oneCell => first | rfl | (intro u hu; simp at hu; subst hu; rfl)
              intro v5 w5 t5
              go_wp2_with (at_builtin; refine wpList_append_nums rfl _ _ rfl t5 (numRow_any' t5.swap.row (by first | rfl | exact List.length_drop)) rfl rfl (by first | (rw [List.length_drop]; omega) | (simp; done) | (simp; omega)) ?_; intro v6 w6 t6 _ _)
              refine wpAny_done (by kernel_rfl) ?_ 0
              have t7 := putAt_row (P := P) (j := P.length) (x := x) (R := ([] : List Nat)) (by simp) (by first | exact Nat.le_refl _ | omega) t6.swap.drop
              clear t4 t5 t6 x4
              go_wp2
              exact ⟨⟨k + 1, putAt P P.length x, by omega, by go_num, HF.out, HG.out, by rw [putAt_length x (by first | exact Nat.le_refl _ | omega)]; first | omega | (simp; done) | (simp; omega), fun e => absurd (congrArg List.length e) (by rw [putAt_length x (by first | exact Nat.le_refl _ | omega)]; simp), t7⟩, by simp [intOf]; omega⟩
            · have cj : wr.cell? ⟨g, j, none⟩ = some (.int .i64 (nth P j : Int)) := by
                rw [t2.row.cellAt j (by omega), i64s_get _ _ hjl, nth_lt hjl]
              have cj' : wr.drew.cell? ⟨g, j, none⟩ = some (.int .i64 (nth P j : Int)) := cj
              go_wp2
              go_region
              all_goals go_wp2_with (at_builtin; refine wpList_copyNums (xs := List.drop j P) rfl _ _ rfl t2.drew ?nr rfl rfl (by first | (rw [List.length_drop]; omega) | (simp; done)) ?_)
              case nr =>
                have z := HD.out _ _ t2.drew
                simp [sliced, add_none, hcj] at z
                exact z
              intro v3 w3 t3
              obtain ⟨a3, c3, rfl⟩ := ownsRow_slice t3.row
              have t4 := (t3.swap.drew).cutTo j (by first | exact Nat.le_refl _ | omega)
              have x4 := HXK.out w3.drew _ t4
              clear t2 t3 hx2 hx3
              obtain ⟨i0, hi, hz0, hz1', hz2⟩ := info_parts infoI
              go_wp2
              refine region_seg (by kernel_rfl) [0, 1, 3, 4, 9] 7 rfl (by kernel_rfl) (by kernel_rfl) (fun _ _ d _ _ h => by cases d <;> exact h) ?_
              generalize w3.drew = wd at *
              intro K hK
              simp only [pickL, List.getElem?_cons_zero, List.getElem?_cons_succ]
              go_wp2_with fail
              refine wpAny_take (i := 2) (v := .slice (some ⟨g, 0, none⟩) j co) rfl (by kernel_rfl) (by kernel_rfl) (by kernel_rfl) (fun _ _ _ h => h) (.inl ⟨rfl, fun w => by go_simp; try (intro hh; exfalso; omega)⟩) ?_
              refine mid_seg [5, 6, 7, 8, 10, 11] 0 (by kernel_rfl) (by kernel_rfl) (fun _ _ d _ _ h => by cases d <;> exact h) ?_
              intro K hK
              simp only [pickL, List.getElem?_cons_zero, List.getElem?_cons_succ]
              go_wp2_with (at_builtin; refine wpList_append_one rfl _ _ 24 rfl 3 i0 (.int .i64 0) 1 8 Try.underlying24 hi hz0 hz1' hz2 rfl (by decide) t4 rfl [.int .i64 (x : Int)] rfl rfl ?oneCell (by unfold maxLen; omega) (by omega) ?_)
              case oneCell => first | rfl | (intro u hu; simp at hu; subst hu; rfl)
              intro v5 w5 t5
              go_wp2_with (at_builtin; refine wpList_append_nums rfl _ _ rfl t5 (numRow_any' t5.swap.row (by first | rfl | exact List.length_drop)) rfl rfl (by first | (rw [List.length_drop]; omega) | (simp; done) | (simp; omega)) ?_; intro v6 w6 t6 _ _)
              refine wpAny_done (by kernel_rfl) ?_ 0
              have t7 := putAt_row (P := P) (j := j) (x := x) (R := List.drop j P) (by simp) (by first | exact Nat.le_refl _ | omega) t6.swap.drop
              clear t4 t5 t6 x4
              go_wp2
              exact ⟨⟨k + 1, putAt P j x, by omega, by go_num, HF.out, HG.out, by rw [putAt_length x (by first | exact Nat.le_refl _ | omega)]; first | omega | (simp; done) | (simp; omega), fun e => absurd (congrArg List.length e) (by rw [putAt_length x (by first | exact Nat.le_refl _ | omega)]; simp), t7⟩, by simp [intOf]; omega⟩
    · obtain rfl : k = F.length := by omega
      have e := HQ.out
      rw [List.take_of_length_le (Nat.le_refl _)] at e
      have e2 := falling_is HP.out e
      clear e HNIL HP HQ
      subst e2
      clear hk
      go_wp2
      go_ret
      exact ⟨_, rfl, t1⟩

end Go.Proofs.Ytpolbpjclklgbaa.Limit
