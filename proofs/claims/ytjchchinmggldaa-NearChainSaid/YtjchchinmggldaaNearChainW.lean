/-
  From a place on, from one nearest lesser number to that one of it, come just those that are less than all between: the walk of NearChain. No conditions.
-/
import Derived.Test.YtjchchinmggldaaNearG
namespace Go.Proofs.Ytjchchinmggldaa.nearChain
open Go.RowKit Go.Proofs.Ytjchchinmggldaa.Suf Go.Proofs.Ytjchchinmggldaa.Near

theorem u16_nat {v : Int} (hv : (Lit.int .u16 v).wf = true) : ∃ x : Nat, v = (x : Int) ∧ x < 65536 := by
  simp only [Lit.wf, Bool.and_eq_true, decide_eq_true_eq] at hv
  have e1 : IntKind.u16.min = 0 := rfl
  have e2 : IntKind.u16.max = 65535 := rfl
  rw [e1, e2] at hv
  exact ⟨v.toNat, by omega, by omega⟩

theorem rem_nat (p n : Nat) : (p : Int).tmod (n : Int) = ((p % n : Nat) : Int) := by
  rw [Int.tmod_eq_emod_of_nonneg (by omega)]; rfl

theorem lead_here {l : List Int} {k : Nat} (x : Int) (h : k < l.length) : lead x (l.drop k) = if nthI l k < x then 0 else lead x (l.drop (k + 1)) + 1 := by
  rw [List.drop_eq_getElem_cons h, lead, ← nthI_lt h]

set_option maxRecDepth 100000 in
set_option maxHeartbeats 8000000 in
theorem walk (w : World) (v : Value) (l : List Int) (h : IntRow w v l) (pp : Int) (hpp : (Lit.int .u16 pp).wf = true) :
    Calls Try.prog 8 #[v, .int .u16 pp] w fun e w' => e = .returned (.bool true) ∧ Below w.heap.size w w' := by
  obtain ⟨p, rfl, hp⟩ := u16_nat hpp
  clear hpp
  obtain ⟨va, vc, rfl⟩ : ∃ a c, v = .slice a l.length c := by obtain ⟨a, c, e, _⟩ := h; exact ⟨a, c, e⟩
  by_cases c1 : 600 < l.length
  · clear h
    go_enter Try.func8, Try.ntmps8
    go_wp2_with fail
    refine (finds_any w).mono ?_
    rintro e w8 ⟨rfl, b2⟩
    go_wp2_with fail
    go_ret
    exact ⟨rfl, b2⟩
  by_cases c2 : l.length = 0
  · rw [c2]
    clear h c1 c2
    go_enter Try.func8, Try.ntmps8
    go_wp2_with fail
    refine (finds_any w).mono ?_
    rintro e w8 ⟨rfl, b2⟩
    go_wp2_with fail
    go_ret
    exact ⟨rfl, b2⟩
  have HV : Hid (∀ W r, St w.heap.size w W r → IntRow W (.slice va l.length vc) l) := Lib.hid fun W r t => h.below (t.below (Nat.le_refl _)) (Nat.le_refl _)
  obtain ⟨n, hn⟩ : ∃ n, l.length = n := ⟨_, rfl⟩
  have HR : Hid (∀ W r, St w.heap.size w W r → ∀ i, i < n → ∃ b off, va = some ⟨b, off, none⟩ ∧ W.cell? ⟨b, off + i, none⟩ = some (.int .i64 (nthI l i))) := Lib.hid fun W r t => by
    have h1 := HV.out W r t
    rw [hn] at h1
    exact (cellsOf h1).2.2
  have hle : n ≤ 600 := by omega
  have hpos : 0 < n := by omega
  have hne : ((n : Int) == 0) = false := by simp; omega
  have HN := Lib.hid hn
  rw [hn] at HV c1 ⊢
  clear h hn c2
  obtain ⟨i, hi⟩ : ∃ i, p % n = i := ⟨_, rfl⟩
  have hin : i < n := by rw [← hi]; exact Nat.mod_lt _ hpos
  have r1 := rem_nat p n
  rw [hi] at r1
  have hnz : ¬ (n : Int) = 0 := by omega
  go_enter Try.func8, Try.ntmps8
  go_wp2_with fail
  refine (ahead_st (St.start w) _ l (fun W t => HV.out W _ t) (by rw [HN.out]; omega)).mono ?_
  rintro e w2 ⟨v2, rfl, s2⟩
  rw [HN.out] at s2
  obtain ⟨aa, ac, rfl⟩ := ownsRow_slice s2.row
  go_wp2_with fail
  refine (behind_st s2 _ l (fun W t => HV.out W _ t) (by rw [HN.out]; omega)).mono ?_
  rintro e w3 ⟨v3, rfl, s3⟩
  rw [HN.out] at s3
  obtain ⟨ba, bc, rfl⟩ := ownsRow_slice s3.row
  clear s2
  have HA : Hid (∀ W r, St w.heap.size w W (r :: [rowT 3 1 (.slice aa n ac) n (iVals (aheads l))]) → ∀ i, i < n → ∃ b off, aa = some ⟨b, off, none⟩ ∧ W.cell? ⟨b, off + i, none⟩ = some (.int .i64 (ahOf l i))) := Lib.hid fun W r t => (ahCells HN.out (by omega) t.drop).2
  have HE : Hid (∀ W r, St w.heap.size w W (rowT 3 1 (.slice ba n bc) n (iVals (behs l)) :: r) → ∀ i, i < n → ∃ b off, ba = some ⟨b, off, none⟩ ∧ W.cell? ⟨b, off + i, none⟩ = some (.int .i64 (beOf l i : Int))) := Lib.hid fun W r t => (beCells HN.out (by omega) t).2
  obtain ⟨b1, o1, rfl, a0⟩ := HA.out _ _ s3 i hin
  obtain ⟨b2, o2, rfl, l0⟩ := HR.out _ _ s3 i hin
  have iI : (i : Int) < (n : Int) := by omega
  have s4 := s3.drew
  have ha0 : ahOf l i = seekUp l (nthI l i) i := rfl
  obtain ⟨y, hy⟩ : ∃ y, ahOf l i = y := ⟨_, rfl⟩
  obtain ⟨x, hx⟩ : ∃ x, nthI l i = x := ⟨_, rfl⟩
  rw [hy, hx] at ha0
  rw [hy] at a0
  rw [hx] at l0
  have HXY : Hid (y = seekUp l x i) := Lib.hid ha0
  have HX := Lib.hid hx
  clear ha0 hy hx s3
  go_wp2
  go_region
  clear a0 l0
  generalize w3.drew = w4 at *
  go_wp2
  go_loopw [8, 9, 10] (fun av lv kv wi => ∃ (m : Nat) (x : Int), m ≤ i ∧ kv = .int .i64 ((m : Int) - 1) ∧ lv = .int .i64 x ∧ (∃ y, av = .int .i64 y ∧ Hid (y = seekUp l x m)) ∧ St w.heap.size w wi [rowT 3 1 (.slice ba n bc) n (iVals (behs l)), rowT 3 1 (.slice (some ⟨b1, o1, none⟩) n ac) n (iVals (aheads l))]) (fun _ _ kv _ => (intOf kv + 1).toNat)
  case atStart => exact ⟨i, x, Nat.le_refl _, by first | rfl | go_num, rfl, ⟨y, rfl, HXY⟩, s4⟩
  case round =>
    clear s4 HXY HX
    obtain ⟨m, x, hm, rfl, rfl, ⟨y, rfl, hy⟩, s5⟩ := hrel
    cases m with
    | succ m =>
      obtain ⟨c1, q1, e1, a0⟩ := HA.out _ _ s5 m (by omega)
      obtain ⟨rfl, rfl⟩ : b1 = c1 ∧ o1 = q1 := by simpa using e1
      obtain ⟨c2, q2, e2, l0⟩ := HR.out _ _ s5 m (by omega)
      obtain ⟨rfl, rfl⟩ : b2 = c2 ∧ o2 = q2 := by simpa using e2
      clear e1 e2
      have hmn : (m : Int) < (n : Int) := by omega
      have hst : seekUp l x (m + 1) = if nthI l m < x then (m : Int) else seekUp l x m := rfl
      have hah : ahOf l m = seekUp l (nthI l m) m := rfl
      obtain ⟨u, hu⟩ : ∃ u, nthI l m = u := ⟨_, rfl⟩
      obtain ⟨y2, hy2⟩ : ∃ y, ahOf l m = y := ⟨_, rfl⟩
      rw [hu] at l0 hst hah
      rw [hy2] at a0 hah
      have HAH := Lib.hid hah
      clear hah hu hy2
      by_cases hx : u < x
      · rw [if_pos hx] at hst
        have hym := hy.out
        rw [hst] at hym
        subst hym
        clear hst
        have hd : decide (u < x) = true := by simpa using hx
        go_wp2
        go_roundw
        case rel => exact ⟨m, u, by omega, by go_num, rfl, ⟨y2, rfl, HAH⟩, s5⟩
        case measure => simp [intOf]
      · rw [if_neg hx] at hst
        have HY : Hid (y = seekUp l x m) := Lib.hid (by rw [hy.out, hst])
        clear hst hy
        have hd : decide (u < x) = false := by simpa using hx
        go_wp2
        go_roundw
        case rel => exact ⟨m, x, by omega, by go_num, rfl, ⟨y, rfl, HY⟩, s5⟩
        case measure => simp [intOf]
    | zero =>
      have hy1 : y = -1 := hy.out
      subst hy1
      clear hy
      obtain ⟨c1, q1, rfl, a0⟩ := HE.out _ _ s5 i hin
      obtain ⟨c2, q2, e2, l0⟩ := HR.out _ _ s5 i hin
      obtain ⟨rfl, rfl⟩ : b2 = c2 ∧ o2 = q2 := by simpa using e2
      have s6 := s5.drew
      have hb0 : beOf l i = i + 1 + lead (nthI l i) (l.drop (i + 1)) := rfl
      obtain ⟨y, hy⟩ : ∃ y, beOf l i = y := ⟨_, rfl⟩
      obtain ⟨x2, hx2⟩ : ∃ x, nthI l i = x := ⟨_, rfl⟩
      rw [hy, hx2] at hb0
      rw [hy] at a0
      rw [hx2] at l0
      have HXY : Hid (y = i + 1 + lead x2 (l.drop (i + 1))) := Lib.hid hb0
      clear e2 hb0 hy hx2 s5
      go_wp2
      go_region
      clear a0 l0
      generalize wr.drew = w7 at *
      go_wp2
      go_loopw [11, 12, 13] (fun av lv kv wi => ∃ (m : Nat) (x : Int), i < m ∧ m ≤ n ∧ kv = .int .i64 (m : Int) ∧ lv = .int .i64 x ∧ (∃ y : Nat, av = .int .i64 (y : Int) ∧ Hid (y = m + lead x (l.drop m))) ∧ St w.heap.size w wi [rowT 3 1 (.slice (some ⟨c1, q1, none⟩) n bc) n (iVals (behs l)), rowT 3 1 (.slice (some ⟨b1, o1, none⟩) n ac) n (iVals (aheads l))]) (fun _ _ kv _ => n - (intOf kv).toNat)
      case atStart => exact ⟨i + 1, x2, by omega, by omega, by first | rfl | go_num, rfl, ⟨y, rfl, HXY⟩, s6⟩
      case round =>
        clear s6 HXY
        obtain ⟨m, x, him, hm, rfl, rfl, ⟨y, rfl, hy⟩, s5⟩ := hrel
        by_cases hlt : m < n
        · obtain ⟨d1, r1, e1, a0⟩ := HE.out _ _ s5 m hlt
          obtain ⟨rfl, rfl⟩ : c1 = d1 ∧ q1 = r1 := by simpa using e1
          obtain ⟨d2, r2, e2, l0⟩ := HR.out _ _ s5 m hlt
          obtain ⟨rfl, rfl⟩ : b2 = d2 ∧ o2 = r2 := by simpa using e2
          clear e1 e2
          have hmn : (m : Int) < (n : Int) := by omega
          have hst := lead_here x (show m < l.length by rw [HN.out]; exact hlt)
          have hah : beOf l m = m + 1 + lead (nthI l m) (l.drop (m + 1)) := rfl
          obtain ⟨u, hu⟩ : ∃ u, nthI l m = u := ⟨_, rfl⟩
          obtain ⟨y2, hy2⟩ : ∃ y, beOf l m = y := ⟨_, rfl⟩
          rw [hu] at l0 hst hah
          rw [hy2] at a0 hah
          have HAH : Hid (y2 = m + 1 + lead u (l.drop (m + 1))) := Lib.hid hah
          clear hah hu hy2
          by_cases hx : u < x
          · rw [if_pos hx] at hst
            have hym := hy.out
            rw [hst, Nat.add_zero] at hym
            subst hym
            clear hst
            have hd : decide (u < x) = true := by simpa using hx
            go_wp2
            go_roundw
            case rel => exact ⟨y + 1, u, by omega, by omega, by go_num, rfl, ⟨y2, rfl, HAH⟩, s5⟩
            case measure => simp [intOf]; omega
          · rw [if_neg hx] at hst
            have HY : Hid (y = m + 1 + lead x (l.drop (m + 1))) := Lib.hid (by rw [hy.out, hst]; omega)
            clear hst hy
            have hd : decide (u < x) = false := by simpa using hx
            go_wp2
            go_roundw
            case rel => exact ⟨m + 1, x, by omega, by omega, by go_num, rfl, ⟨y, rfl, HY⟩, s5⟩
            case measure => simp [intOf]; omega
        · obtain rfl : m = n := by omega
          have hy1 : y = m := by
            rw [hy.out, List.drop_of_length_le (by rw [HN.out]; exact Nat.le_refl _)]
            rfl
          subst hy1
          have hb := s5.below (Nat.le_refl _)
          clear hy s5
          go_wp2_with fail
          refine (finds_any _).mono ?_
          rintro e w11 ⟨rfl, b2⟩
          go_wp2_with fail
          go_ret
          exact ⟨rfl, hb.trans (b2.mono hb.size)⟩

end Go.Proofs.Ytjchchinmggldaa.nearChain
