/-
  The document's answer for a Get: pressworkref06.begins and Get. No conditions but that slices are of at most 2^40 elements.
-/
import Derived.Test.YtakkfdibiboofaaPfxT
import Derived.Laws.StructEq
namespace Go.Proofs.Ytakkfdibiboofaa
open Go.RowKit Kraft

theorem byteRow_take {w : World} {a : Option Addr} {n c m : Nat} {X : List Nat} (h : ByteRow w (.slice a n c) X) (hm : m ≤ n) : ByteRow w (.slice a m c) (X.take m) ∧ n ≤ c ∧ X.length = n := by
  obtain ⟨a', c', e, hc, hn, hat⟩ := h
  obtain ⟨rfl, e2, rfl⟩ := Value.slice.inj e
  refine ⟨⟨a, c, by rw [List.length_take]; congr 1; omega, by rw [List.length_take]; omega, hn, fun i hi => ?_⟩, by omega, e2.symm⟩
  have hi' : i < X.length := by rw [List.length_take] at hi; omega
  rw [List.getElem_take]
  exact hat i hi'

theorem strOf_beq {X Y : List Nat} (hx : ∀ x ∈ X, x < 256) (hy : ∀ y ∈ Y, y < 256) : ((strOf X).toList == (strOf Y).toList) = decide (X = Y) := by
  rw [ByteArray.toList_eq, ByteArray.toList_eq, Bool.eq_iff_iff]
  simp only [beq_iff_eq, decide_eq_true_eq]
  exact ⟨fun h => (strOf_inj hx hy).1 (Go.WideShapes.bytes_inj h), fun h => by rw [h]⟩

/-- begins: the first row's beginning is the second one. -/
theorem begins_any (w : World) (a b : Option Addr) (n m c d : Nat) (X Y : List Nat) (hx : ByteRow w (.slice a n c) X) (hy : ByteRow w (.slice b m d) Y) :
    Calls Try.prog 35 #[.slice a n c, .slice b m d] w fun e w' => e = .returned (.bool (decide (m ≤ n ∧ X.take m = Y))) ∧ ∃ k, w' = w.drewN k := by
  by_cases hmn : m ≤ n
  · obtain ⟨r1, r2, r3⟩ := byteRow_take hx hmn
    have s1 := run_string w.drew _ _ r1.reads
    have s2 := run_string w.drew _ _ hy.reads
    have hq := strOf_beq r1.byte hy.byte
    go_enter Try.func35, Try.ntmps35
    go_wp2
    go_region
    all_goals go_wp2
    all_goals go_ret
    all_goals refine ⟨?_, 1, rfl⟩
    all_goals
      show Ending.returned (.bool (decide (X.take m = Y))) = _
      have hd : decide (X.take m = Y) = decide (m ≤ n ∧ X.take m = Y) := decide_eq_decide.2 ⟨fun h => ⟨hmn, h⟩, fun h => h.2⟩
      rw [hd]
  · rw [show decide (m ≤ n ∧ X.take m = Y) = false from decide_eq_false (fun h => hmn h.1)]
    go_enter Try.func35, Try.ntmps35
    go_wp2
    go_region
    all_goals go_wp2
    all_goals go_ret
    all_goals exact ⟨rfl, 1, rfl⟩

theorem byteRow_sub {w : World} {b off n c i m : Nat} {X : List Nat} (h : ByteRow w (.slice (some ⟨b, off, none⟩) n c) X) (hm : i + m ≤ n) : ByteRow w (.slice (some ⟨b, off + i, none⟩) m (c - i)) ((X.drop i).take m) := by
  obtain ⟨a', c', e, hc, hn, hat⟩ := h
  obtain ⟨rfl, e2, rfl⟩ := Value.slice.inj e
  refine ⟨some ⟨b, off + i, none⟩, c - i, by rw [List.length_take, List.length_drop]; congr 1; omega, by rw [List.length_take, List.length_drop]; omega, (fun e => by cases e), fun j hj => ?_⟩
  have hj' : i + j < X.length := by rw [List.length_take, List.length_drop] at hj; omega
  rw [List.getElem_take, List.getElem_drop]
  obtain ⟨h1, b', off', e3, h4⟩ := hat (i + j) hj'
  obtain ⟨rfl, rfl, -⟩ := Addr.mk.inj (Option.some.inj e3)
  exact ⟨h1, b, off + i, rfl, by rw [Nat.add_assoc]; exact h4⟩

theorem nats_take (l : List Bool) (m : Nat) : nats (l.take m) = (nats l).take m := by unfold nats; rw [List.map_take]
theorem nats_drop (l : List Bool) (m : Nat) : nats (l.drop m) = (nats l).drop m := by unfold nats; rw [List.map_drop]

/-- What begins tells. -/
theorem begins_fit (L : List Nat) (p : List Bool) (j : Nat) (h0 : 0 < len L j) : decide (p.length ≤ len L j ∧ (nats (wordBits L (j : Int))).take p.length = nats p) = decide (Fit L p j) := by
  refine decide_eq_decide.2 ?_
  unfold Fit
  rw [← nats_take]
  constructor
  · rintro ⟨h1, h2⟩
    exact ⟨h0, h1, nats_inj h2⟩
  · rintro ⟨_, h1, h2⟩
    exact ⟨h1, by rw [h2]⟩

theorem fit_nil (L : List Nat) (j : Nat) (h : 0 < len L j) : Fit L [] j := ⟨h, Nat.zero_le _, rfl⟩

theorem seek_nil_bits (L : List Nat) : seek (tab L L.length) 0 0 [] = (0, 0, 2) := by
  cases e : tab L L.length 0 0 with
  | none => exact seek_none e _
  | some v =>
    rcases tab_some _ _ _ _ e with ⟨k, h1, h2, h3, h4, h5⟩ | ⟨rfl, _⟩
    · omega
    · exact seek_end e

set_option maxRecDepth 100000 in
set_option maxHeartbeats 4000000 in
/-- Get, of no bits. -/
theorem refGet_nil {w : World} {ar : Option Addr} {cr : Nat} {L : List Nat} (h20 : ∀ j, len L j ≤ 20) (hl : L.length ≤ 512)
    (hrow : ∀ s, s < L.length → ∃ g au cu, ar = some ⟨g, 0, none⟩ ∧ w.cell? ⟨g, s, none⟩ = some (.slice au (len L s) cu) ∧ ByteRow w (.slice au (len L s) cu) (nats (wordBits L (s : Int)))) :
    Calls Try.prog 16 #[.slice ar L.length cr, .slice none 0 0, .int .i64 0] w
      fun e w' => e = .returned (.tuple #[.int .i64 0, .int .i64 0, .int .i64 2]) ∧ ∃ k, w' = w.drewN k := by
  have HROW := Lib.hid hrow
  clear hrow
  go_enter Try.func16, Try.ntmps16
  go_wp2
  go_loopw [9] (fun nv wr => nv = .int .i64 0 ∧ ∃ N, wr = w.drewN N) (fun _ _ => 1)
  case atStart => exact ⟨rfl, 0, rfl⟩
  case round =>
    obtain ⟨rfl, N, hN⟩ := hrel
    go_wp2
    go_loopw [10, 11] (fun sv iv wr => ∃ (i : Nat) (b : Bool), i ≤ L.length ∧ iv = .int .i64 (i : Int) ∧ sv = .bool b ∧ ∃ N, wr = w.drewN N) (fun _ iv _ => L.length - (intOf iv).toNat)
    case atStart => exact ⟨0, false, Nat.zero_le _, rfl, rfl, N, hN⟩
    case round =>
      obtain ⟨i, b, hi, rfl, rfl, N1, hN1⟩ := hrel
      by_cases hlt : i < L.length
      · obtain ⟨g, au, cu, rfl, hc, hbr⟩ := HROW.out i hlt
        have hc1 : wr.cell? ⟨g, i, none⟩ = some (.slice au (len L i) cu) := by rw [hN1]; exact hc
        have HBR := Lib.hid hbr
        have HN1 := Lib.hid hN1
        clear hN1 hbr hc
        by_cases h0 : len L i = 0
        · rw [h0] at hc1
          go_wp2
          go_region
          all_goals go_wp2
          exact ⟨⟨i + 1, b, by omega, by go_num, rfl, N1 + 1, by rw [HN1.out]; rfl⟩, by simp [intOf]; omega⟩
        · have hpos : 0 < len L i := by omega
          have hz : ((len L i : Int) == 0) = false := by rw [beq_eq_false_iff_ne]; omega
          have hli := h20 i
          have hbegins : ∀ wx, wx = wr.drew → Calls Try.prog 35 #[.slice au (len L i) cu, .slice none 0 0] wx fun e w' => e = .returned (.bool true) ∧ ∃ k, w' = wx.drewN k := by
            intro wx hwx
            have hb1 : Below w.heap.size w wx := by rw [hwx, HN1.out]; exact (below_drewN N1).drew
            have := begins_any wx _ _ _ _ _ _ _ _ (HBR.out.below hb1 (Nat.le_refl _)) (byteRow_none wx)
            rw [decide_eq_true (show 0 ≤ len L i ∧ (nats (wordBits L (i : Int))).take 0 = [] from ⟨Nat.zero_le _, rfl⟩)] at this
            exact this
          have HBG := Lib.hid hbegins
          have hc2 : wr.drew.cell? ⟨g, i, none⟩ = some (.slice au (len L i) cu) := hc1
          clear hbegins hc1
          go_wp2
          refine region_seg (by kernel_rfl) [0, 1, 2, 3, 4, 5, 6, 7, 8, 11, 12, 13, 14] 7 rfl (by kernel_rfl) (by kernel_rfl) (fun _ _ d _ _ h => by cases d <;> exact h) ?_
          generalize hwd : wr.drew = wd at *
          intro K hK
          simp only [pickL, List.getElem?_cons_zero, List.getElem?_cons_succ]
          go_wp2_with fail
          refine wpAny_take (i := 9) (v := .pointer (some ⟨g, i, none⟩)) rfl (by kernel_rfl) (by kernel_rfl) (by kernel_rfl) (fun _ _ _ h => h) (.inl ⟨rfl, fun w => by go_simp⟩) ?_
          refine wpAny_take (i := 15) (v := .int .i64 0) rfl (by kernel_rfl) (by kernel_rfl) (by kernel_rfl) (fun _ _ _ h => h) (.inl ⟨rfl, fun w => by go_simp; exact IntWalk.i64_in _ (by omega)⟩) ?_
          refine wpAny_take (i := 16) (v := .slice none 0 0) rfl (by kernel_rfl) (by kernel_rfl) (by kernel_rfl) (fun _ _ _ h => h) (.inl ⟨rfl, fun w => by go_simp⟩) ?_
          refine mid_seg [10, 17, 18, 19] 0 (by kernel_rfl) (by kernel_rfl) (fun _ _ d _ _ h => by cases d <;> exact h) ?_
          intro K2 hK2
          simp only [pickL, List.getElem?_cons_zero, List.getElem?_cons_succ]
          go_wp2_with fail
          refine (HBG.out _ rfl).mono ?_
          rintro e w3 ⟨rfl, k3, rfl⟩
          have hwn : ∃ N, wd.drewN k3 = w.drewN N := ⟨N1 + (1 + k3), by rw [← hwd, HN1.out, World.drewN_drew, World.drewN_drewN]⟩
          go_wp2_with fail
          refine wpAny_done (by kernel_rfl) ?_ 0
          go_wp2
          exact ⟨⟨i + 1, true, by omega, by go_num, rfl, hwn⟩, by simp [intOf]; omega⟩
      · obtain rfl : i = L.length := by omega
        have hwn : ∃ N, wr = w.drewN N := ⟨N1, hN1⟩
        clear hN1
        cases b with
        | false =>
          go_wp2
          go_ret3
          exact ⟨rfl, hwn⟩
        | true =>
          go_wp2
          go_ret3
          exact ⟨rfl, hwn⟩

set_option maxRecDepth 100000 in
set_option maxHeartbeats 4000000 in
/-- Get. -/
theorem refGet_any {w : World} {ar : Option Addr} {ab ob cr nb cb : Nat} {L : List Nat} {Bl : List Bool} (h20 : ∀ j, len L j ≤ 20) (hw : weight L ≤ 1048576) (hl : L.length ≤ 512)
    (hrow : ∀ s, s < L.length → ∃ g au cu, ar = some ⟨g, 0, none⟩ ∧ w.cell? ⟨g, s, none⟩ = some (.slice au (len L s) cu) ∧ ByteRow w (.slice au (len L s) cu) (nats (wordBits L (s : Int))))
    (hbits : ByteRow w (.slice (some ⟨ab, ob, none⟩) nb cb) (nats Bl)) (hnb : Bl.length = nb) (hn : nb ≤ 10000) (i0 : Nat) (hi0 : i0 ≤ nb) :
    Calls Try.prog 16 #[.slice ar L.length cr, .slice (some ⟨ab, ob, none⟩) nb cb, .int .i64 (i0 : Int)] w
      fun e w' => e = .returned (.tuple #[.int .i64 (seek (tab L L.length) 0 0 (Bl.drop i0)).2.1, .int .i64 ((i0 + (seek (tab L L.length) 0 0 (Bl.drop i0)).1 : Nat) : Int), .int .i64 ((seek (tab L L.length) 0 0 (Bl.drop i0)).2.2 : Int)]) ∧ ∃ k, w' = w.drewN k := by
  have HROW := Lib.hid hrow
  have HB := Lib.hid hbits
  have hcb : nb ≤ cb := by
    obtain ⟨_, _, e, h2, _⟩ := hbits
    obtain ⟨_, e2, e3⟩ := Value.slice.inj e
    omega
  have HNB := Lib.hid hnb
  clear hrow hbits hnb
  generalize hR : seek (tab L L.length) 0 0 (Bl.drop i0) = R
  obtain ⟨Rk, Rs, Re⟩ := R
  go_enter Try.func16, Try.ntmps16
  go_wp2
  go_loopw [9] (fun nv wr => ∃ n : Nat, i0 + n ≤ nb ∧ nv = .int .i64 (n : Int) ∧ (Rk, Rs, Re) = (n + (seek (tab L L.length) (numTop ((Bl.drop i0).take n)) n (Bl.drop (i0 + n))).1, (seek (tab L L.length) (numTop ((Bl.drop i0).take n)) n (Bl.drop (i0 + n))).2) ∧ ∃ N, wr = w.drewN N) (fun nv _ => nb + 1 - (intOf nv).toNat)
  case atStart => exact ⟨0, by omega, rfl, by rw [← hR]; simp [numTop], 0, rfl⟩
  case round =>
    obtain ⟨n, hin, rfl, hS, N, hN⟩ := hrel
    obtain ⟨p, hp⟩ : ∃ p, p = (Bl.drop i0).take n := ⟨_, rfl⟩
    have hpl : p.length = n := by rw [hp, List.length_take, List.length_drop, HNB.out]; omega
    rw [← hp] at hS
    go_wp2
    go_loopw [10, 11] (fun sv iv wr => ∃ (i : Nat) (b : Bool), i ≤ L.length ∧ iv = .int .i64 (i : Int) ∧ sv = .bool b ∧ (b = true ↔ ∃ j, j < i ∧ Fit L p j) ∧ (∀ j, j < i → Fit L p j → len L j ≠ n) ∧ ∃ N, wr = w.drewN N) (fun _ iv _ => L.length - (intOf iv).toNat)
    case atStart => exact ⟨0, false, Nat.zero_le _, rfl, rfl, ⟨fun h => (Bool.false_ne_true h).elim, fun ⟨j, hj, _⟩ => absurd hj (by omega)⟩, fun j hj => absurd hj (by omega), N, hN⟩
    case round =>
      obtain ⟨i, b, hi, rfl, rfl, hb, hne, N1, hN1⟩ := hrel
      have HBB := Lib.hid hb
      have HNE := Lib.hid hne
      have HP := Lib.hid hp
      have HPL := Lib.hid hpl
      have HS := Lib.hid hS
      clear hb hne hp hpl hS
      by_cases hlt : i < L.length
      · obtain ⟨g, au, cu, rfl, hc, hbr⟩ := HROW.out i hlt
        have hc1 : wr.cell? ⟨g, i, none⟩ = some (.slice au (len L i) cu) := by rw [hN1]; exact hc
        have HBR := Lib.hid hbr
        have HN1 := Lib.hid hN1
        clear hN1 hbr hc
        by_cases h0 : len L i = 0
        · rw [h0] at hc1
          go_wp2
          go_region
          all_goals go_wp2
          have hnf : ¬ Fit L p i := fun h => by have := h.1; omega
          refine ⟨⟨i + 1, b, by omega, by go_num, rfl, ?_, ?_, N1 + 1, by rw [HN1.out]; rfl⟩, by simp [intOf]; omega⟩
          · rw [HBB.out]
            constructor
            · rintro ⟨j, hj, hf⟩; exact ⟨j, by omega, hf⟩
            · rintro ⟨j, hj, hf⟩
              by_cases e : j = i
              · subst e; exact absurd hf hnf
              · exact ⟨j, by omega, hf⟩
          · intro j hj hf
            by_cases e : j = i
            · subst e; exact absurd hf hnf
            · exact HNE.out j (by omega) hf
        · have hpos : 0 < len L i := by omega
          have hz : ((len L i : Int) == 0) = false := by rw [beq_eq_false_iff_ne]; omega
          have hli := h20 i
          obtain ⟨os, hos, hrs⟩ : ∃ os, (if cb = i0 then some ⟨ab, ob, none⟩ else some (⟨ab, ob + i0, none⟩ : Addr)) = some ⟨ab, os, none⟩ ∧ ∀ wx X, ByteRow wx (.slice (some ⟨ab, ob, none⟩) nb cb) X → ByteRow wx (.slice (some ⟨ab, os, none⟩) n (cb - i0)) ((X.drop i0).take n) := by
            by_cases hci : cb = i0
            · refine ⟨ob, by rw [if_pos hci], fun wx X h => ?_⟩
              have hn0 : n = 0 := by omega
              subst hn0
              exact ⟨_, cb - i0, rfl, by simp, (fun e => by cases e), fun j hj => absurd hj (by simp)⟩
            · exact ⟨ob + i0, by rw [if_neg hci], fun wx X h => byteRow_sub h hin⟩
          have hbegins : ∀ wx, wx = wr.drew → Calls Try.prog 35 #[.slice au (len L i) cu, .slice (some ⟨ab, os, none⟩) n (cb - i0)] wx fun e w' => e = .returned (.bool (decide (Fit L p i))) ∧ ∃ k, w' = wx.drewN k := by
            intro wx hwx
            have hb1 : Below w.heap.size w wx := by rw [hwx, HN1.out]; exact (below_drewN N1).drew
            have r1 := HBR.out.below hb1 (Nat.le_refl _)
            have r2 := hrs _ _ (HB.out.below hb1 (Nat.le_refl _))
            rw [← nats_drop, ← nats_take, ← HP.out] at r2
            have := begins_any wx _ _ _ _ _ _ _ _ r1 r2
            rw [← HPL.out] at this ⊢
            rw [begins_fit L p i hpos] at this
            exact this
          obtain ⟨m, hm, hmn⟩ : ∃ m : Nat, (i0 : Int) + (n : Int) = (m : Int) ∧ m - i0 = n := ⟨i0 + n, by omega, by omega⟩
          rw [← hmn] at hbegins
          have HMN := Lib.hid hmn
          have hm2 : i0 ≤ m ∧ m ≤ nb := by omega
          have HBG := Lib.hid hbegins
          have hc2 : wr.drew.cell? ⟨g, i, none⟩ = some (.slice au (len L i) cu) := hc1
          have HOS := Lib.hid hos
          clear hbegins hmn hc1 hos hrs
          go_wp2
          refine region_seg (by kernel_rfl) [0, 1, 2, 3, 4, 5, 6, 7, 8, 11, 12, 13, 14] 7 rfl (by kernel_rfl) (by kernel_rfl) (fun _ _ d _ _ h => by cases d <;> exact h) ?_
          generalize hwd : wr.drew = wd at *
          intro K hK
          simp only [pickL, List.getElem?_cons_zero, List.getElem?_cons_succ]
          go_wp2_with fail
          refine wpAny_take (i := 9) (v := .pointer (some ⟨g, i, none⟩)) rfl (by kernel_rfl) (by kernel_rfl) (by kernel_rfl) (fun _ _ _ h => h) (.inl ⟨rfl, fun w => by go_simp⟩) ?_
          refine wpAny_take (i := 15) (v := .int .i64 (m : Int)) rfl (by kernel_rfl) (by kernel_rfl) (by kernel_rfl) (fun _ _ _ h => h) (.inl ⟨rfl, fun w => by go_simp; exact IntWalk.i64_in _ (by omega)⟩) ?_
          refine wpAny_take (i := 16) (v := .slice (some ⟨ab, os, none⟩) (m - i0) (cb - i0)) rfl (by kernel_rfl) (by kernel_rfl) (by kernel_rfl) (fun _ _ _ h => h) (.inl ⟨rfl, fun w => by go_simp; rw [if_pos (by omega : m ≤ cb), HOS.out]⟩) ?_
          refine mid_seg [10, 17, 18, 19] 0 (by kernel_rfl) (by kernel_rfl) (fun _ _ d _ _ h => by cases d <;> exact h) ?_
          intro K2 hK2
          simp only [pickL, List.getElem?_cons_zero, List.getElem?_cons_succ]
          go_wp2_with fail
          refine (HBG.out _ rfl).mono ?_
          rintro e w3 ⟨rfl, k3, rfl⟩
          by_cases hf : Fit L p i
          · rw [decide_eq_true hf]
            go_wp2_with fail
            refine wpAny_done (by kernel_rfl) ?_ 0
            have hwn : ∃ N, wd.drewN k3 = w.drewN N := ⟨N1 + (1 + k3), by rw [← hwd, HN1.out, World.drewN_drew, World.drewN_drewN]⟩
            by_cases he : len L i = n
            · have ht := tab_exact h20 hw hlt hf (by rw [he, HPL.out])
              rw [HPL.out] at ht
              have hs := HS.out
              rw [seek_sym ht (by omega)] at hs
              obtain ⟨e1, e2⟩ := Prod.mk.inj hs
              obtain ⟨e3, e4⟩ := Prod.mk.inj e2
              have HE := Lib.hid (show Rk = n ∧ Rs = (i : Int) ∧ Re = 0 from ⟨e1, e3, e4⟩)
              clear ht hs e1 e2 e3 e4
              go_wp2
              go_ret3
              obtain ⟨e1, e3, e4⟩ := HE.out
              have hm3 : m = i0 + Rk := by have := HMN.out; omega
              refine ⟨?_, hwn⟩
              rw [e3, e4, ← hm3]
              rfl
            · have hne2 : ((len L i : Int) == (n : Int)) = false := by rw [beq_eq_false_iff_ne]; omega
              go_wp2
              refine ⟨⟨i + 1, true, by omega, by go_num, rfl, ⟨fun _ => ⟨i, by omega, hf⟩, fun _ => rfl⟩, ?_, hwn⟩, by simp [intOf]; omega⟩
              intro j hj hfj
              by_cases e : j = i
              · subst e; exact he
              · exact HNE.out j (by omega) hfj
          · rw [decide_eq_false hf]
            have hwn : ∃ N, wd.drewN k3 = w.drewN N := ⟨N1 + (1 + k3), by rw [← hwd, HN1.out, World.drewN_drew, World.drewN_drewN]⟩
            go_wp2_with fail
            refine wpAny_done (by kernel_rfl) ?_ 0
            go_wp2
            refine ⟨⟨i + 1, b, by omega, by go_num, rfl, ?_, ?_, hwn⟩, by simp [intOf]; omega⟩
            · rw [HBB.out]
              constructor
              · rintro ⟨j, hj, hfj⟩; exact ⟨j, by omega, hfj⟩
              · rintro ⟨j, hj, hfj⟩
                by_cases e : j = i
                · subst e; exact absurd hfj hf
                · exact ⟨j, by omega, hfj⟩
            · intro j hj hfj
              by_cases e : j = i
              · subst e; exact absurd hfj hf
              · exact HNE.out j (by omega) hfj
      · obtain rfl : i = L.length := by omega
        have hwn : ∃ N, wr = w.drewN N := ⟨N1, hN1⟩
        obtain ⟨m, hm, hmn⟩ : ∃ m : Nat, (i0 : Int) + (n : Int) = (m : Int) ∧ m = i0 + n := ⟨i0 + n, by omega, rfl⟩
        have HMN := Lib.hid hmn
        have hmb : m ≤ nb := by omega
        clear hN1 hmn
        cases b with
        | false =>
          have ht : tab L L.length (numTop p) n = none := by
            have := tab_nothing h20 hw (p := p) (fun j hj hfj => Bool.false_ne_true (HBB.out.2 ⟨j, hj, hfj⟩))
            rw [HPL.out] at this
            exact this
          have hs := HS.out
          rw [seek_none ht] at hs
          obtain ⟨e1, e2⟩ := Prod.mk.inj hs
          obtain ⟨e3, e4⟩ := Prod.mk.inj e2
          have HE := Lib.hid (show Rk = n ∧ Rs = 0 ∧ Re = 2 from ⟨e1, e3, e4⟩)
          clear ht hs e1 e2 e3 e4
          go_wp2
          go_ret3
          obtain ⟨e1, e3, e4⟩ := HE.out
          have hm3 : m = i0 + Rk := by have := HMN.out; omega
          refine ⟨?_, hwn⟩
          rw [e3, e4, ← hm3]
          rfl
        | true =>
          have ht : tab L L.length (numTop p) n = some (-1) := by
            obtain ⟨j, hj, hfj⟩ := HBB.out.1 rfl
            have := tab_longer h20 hw hj hfj (by rw [HPL.out]; exact HNE.out j hj hfj)
            rw [HPL.out] at this
            exact this
          have hs := HS.out
          by_cases hend : m = nb
          · have hdrop : Bl.drop (i0 + n) = [] := List.drop_eq_nil_of_le (by have := HNB.out; have := HMN.out; omega)
            rw [hdrop, seek_end ht] at hs
            obtain ⟨e1, e2⟩ := Prod.mk.inj hs
            obtain ⟨e3, e4⟩ := Prod.mk.inj e2
            have HE := Lib.hid (show Rk = n ∧ Rs = 0 ∧ Re = 2 from ⟨e1, e3, e4⟩)
            have hend2 : ((m : Int) == (nb : Int)) = true := by rw [beq_iff_eq]; omega
            clear ht hs e1 e2 e3 e4 hdrop
            go_wp2
            go_ret3
            obtain ⟨e1, e3, e4⟩ := HE.out
            have hm3 : m = i0 + Rk := by have := HMN.out; omega
            refine ⟨?_, hwn⟩
            rw [e3, e4, show (i0 : Int) + (Rk : Int) = (nb : Int) from by omega]
            rfl
          · have hlt2 : i0 + n < Bl.length := by have := HNB.out; have := HMN.out; omega
            obtain ⟨bt, hbt⟩ : ∃ bt, bt = Bl[i0 + n] := ⟨_, rfl⟩
            rw [List.drop_eq_getElem_cons hlt2, ← hbt, seek_on ht] at hs
            have hp2 : (Bl.drop i0).take (n + 1) = p ++ [bt] := by
              rw [List.take_succ_eq_append_getElem (by rw [List.length_drop]; omega), ← HP.out, List.getElem_drop, hbt]
            have HP2 := Lib.hid hp2
            have HS2 := Lib.hid hs
            have hend2 : ((m : Int) == (nb : Int)) = false := by rw [beq_eq_false_iff_ne]; omega
            clear ht hs hbt hp2 hlt2
            go_wp2
            refine ⟨⟨n + 1, by have := HMN.out; omega, by go_num, ?_, hwn⟩, by have := HMN.out; simp [intOf]; omega⟩
            rw [HP2.out, numTop_snoc, HS2.out, show i0 + (n + 1) = i0 + n + 1 from by omega]
            refine Prod.mk.injEq .. ▸ ⟨by omega, rfl⟩

/-- Get, of rows of the call's own. -/
theorem refGet_rows {w : World} {va vb : Option Addr} {cr nb cb : Nat} {L : List Nat} {Bl : List Bool} (h20 : ∀ j, len L j ≤ 20) (hw : weight L ≤ 1048576) (hl : L.length ≤ 512)
    (hrow : ∀ s, s < L.length → ∃ g au cu, va = some ⟨g, 0, none⟩ ∧ w.cell? ⟨g, s, none⟩ = some (.slice au (len L s) cu) ∧ ByteRow w (.slice au (len L s) cu) (nats (wordBits L (s : Int))))
    (hbits : ByteRow w (.slice vb nb cb) (nats Bl)) (hv : vb = none ∨ ∃ b o, vb = some ⟨b, o, none⟩) (hnb : Bl.length = nb) (hn : nb ≤ 10000) (i0 : Nat) (hi0 : i0 ≤ nb) :
    Calls Try.prog 16 #[.slice va L.length cr, .slice vb nb cb, .int .i64 (i0 : Int)] w
      fun e w' => e = .returned (.tuple #[.int .i64 (seek (tab L L.length) 0 0 (Bl.drop i0)).2.1, .int .i64 ((i0 + (seek (tab L L.length) 0 0 (Bl.drop i0)).1 : Nat) : Int), .int .i64 ((seek (tab L L.length) 0 0 (Bl.drop i0)).2.2 : Int)]) ∧ ∃ k, w' = w.drewN k := by
  rcases hv with rfl | ⟨b, o, rfl⟩
  · obtain ⟨a', c', e, h1, h2, _⟩ := hbits
    obtain ⟨rfl, e2, rfl⟩ := Value.slice.inj e
    have h0 := h2 rfl
    subst h0
    obtain rfl : nb = 0 := by omega
    obtain rfl : i0 = 0 := by omega
    obtain rfl : Bl = [] := List.eq_nil_of_length_eq_zero hnb
    rw [show ([] : List Bool).drop 0 = [] from rfl, seek_nil_bits]
    exact refGet_nil h20 hl hrow
  · exact refGet_any h20 hw hl hrow hbits hnb hn i0 hi0

/-- What the elements of rows are. -/
theorem St.rowsAll {B : Nat} {w0 w : World} {r : List Thing} {va : Option Addr} {cr : Nat} {L : List Nat} (st : St B w0 w (rowsT (.slice va L.length cr) (rowsOf L) :: r)) :
    ∀ s, s < L.length → ∃ g au cu, va = some ⟨g, 0, none⟩ ∧ w.cell? ⟨g, s, none⟩ = some (.slice au (len L s) cu) ∧ ByteRow w (.slice au (len L s) cu) (nats (wordBits L (s : Int))) := by
  intro s hs
  obtain ⟨g, cap, au, cu, e, _, h1, h2⟩ := st.rowsCell s hs
  obtain ⟨rfl, -, -⟩ := Value.slice.inj e
  exact ⟨g, au, cu, rfl, h1, h2⟩

end Go.Proofs.Ytakkfdibiboofaa
