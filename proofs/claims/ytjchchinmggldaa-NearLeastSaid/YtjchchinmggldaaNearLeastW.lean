/-
  At the nearest lesser place a lesser number stands, between none; and where there is none all are no less: the walk of NearLeast. No conditions.
-/
import Derived.Test.YtjchchinmggldaaNearF
import Derived.StillTactics
namespace Go.Proofs.Ytjchchinmggldaa.nearLeast
open Go.RowKit Go.Proofs.Ytjchchinmggldaa.Suf Go.Proofs.Ytjchchinmggldaa.Near

/-- One operation of a line that only reads. -/
theorem still_go {P : Program} {ops : Array Oper} {w : World} {Q : Act → Prop} {a : Act} {o : Oper} {rest : List Oper}
    (h : ∃ a', (∀ K : Act → Prop, K a' → if Region.wanted o (yielded ops a.tmps) then o.still P a w K else K (a.put o.dst undef)) ∧ wpStill P ops w Q rest a') : wpStill P ops w Q (o :: rest) a := by
  obtain ⟨a', h1, h2⟩ := h
  have := h1 _ h2
  exact this

set_option maxRecDepth 100000 in
set_option maxHeartbeats 8000000 in
theorem walk (w : World) (v : Value) (l : List Int) (h : IntRow w v l) :
    Calls Try.prog 4 #[v] w fun e w' => e = .returned (.bool true) ∧ Below w.heap.size w w' := by
  obtain ⟨va, vc, rfl⟩ : ∃ a c, v = .slice a l.length c := by obtain ⟨a, c, e, _⟩ := h; exact ⟨a, c, e⟩
  by_cases c1 : 600 < l.length
  · clear h
    go_enter Try.func4, Try.ntmps4
    go_wp2
    go_ret
    exact ⟨rfl, Below.refl _ _⟩
  have HV : Hid (∀ W r, St w.heap.size w W r → IntRow W (.slice va l.length vc) l) := Lib.hid fun W r t => h.below (t.below (Nat.le_refl _)) (Nat.le_refl _)
  have ha := ahead_st (St.start w) _ l (fun W t => HV.out W _ t) (by omega)
  have hb := fun W r (t : St w.heap.size w W r) => behind_st t _ l (fun W t => HV.out W _ t) (by omega)
  obtain ⟨n, hn⟩ : ∃ n, l.length = n := ⟨_, rfl⟩
  have hle : n ≤ 600 := by omega
  have HN := Lib.hid hn
  have HBE := Lib.hid hb
  rw [hn] at ha c1 ⊢
  clear h hn hb
  go_enter Try.func4, Try.ntmps4
  go_wp2_with fail
  refine ha.mono ?_
  rintro e w2 ⟨v2, rfl, s2⟩
  rw [HN.out] at s2
  obtain ⟨aa, ac, rfl⟩ := ownsRow_slice s2.row
  have hb := HBE.out _ _ s2
  rw [HN.out] at hb
  clear ha
  go_wp2_with fail
  refine hb.mono ?_
  rintro e w3 ⟨v3, rfl, s3⟩
  rw [HN.out] at s3
  obtain ⟨ba, bc, rfl⟩ := ownsRow_slice s3.row
  have hcell : ∀ W, St w.heap.size w W [rowT 3 1 (.slice ba n bc) n (iVals (behs l)), rowT 3 1 (.slice aa n ac) n (iVals (aheads l))] → ∀ i, i < n →
      (∃ b off, aa = some ⟨b, off, none⟩ ∧ W.cell? ⟨b, off + i, none⟩ = some (.int .i64 (ahOf l i))) ∧ (∃ b off, ba = some ⟨b, off, none⟩ ∧ W.cell? ⟨b, off + i, none⟩ = some (.int .i64 (beOf l i : Int))) ∧ ∃ b off, va = some ⟨b, off, none⟩ ∧ ∀ j, j < n → W.cell? ⟨b, off + j, none⟩ = some (.int .i64 (nthI l j)) := fun W t i hi => by
    have h1 := (cellsOf (ahRow (l := l) (by rw [HN.out]; exact t.drop) (by rw [HN.out]; omega))).2.2 i hi
    have h2 := (cellsOf (beRow (l := l) (by rw [HN.out]; exact t) (by rw [HN.out]; omega))).2.2 i hi
    rw [ah_nth (by rw [HN.out]; exact hi)] at h1
    rw [be_nth (by rw [HN.out]; exact hi)] at h2
    have hv := HV.out W _ t
    rw [HN.out] at hv
    have h3 := (cellsOf hv).2.2
    obtain ⟨b, off, e, _⟩ := h3 i hi
    refine ⟨h1, h2, b, off, e, fun j hj => ?_⟩
    obtain ⟨b', off', e', c⟩ := h3 j hj
    rw [e] at e'
    obtain ⟨rfl, rfl⟩ : b = b' ∧ off = off' := by simpa using e'
    exact c
  have HC := Lib.hid hcell
  clear hb s2 hcell
  go_wp2
  go_loopw [5] (fun iv wr => ∃ k : Nat, k ≤ n ∧ iv = .int .i64 (k : Int) ∧ St w.heap.size w wr [rowT 3 1 (.slice ba n bc) n (iVals (behs l)), rowT 3 1 (.slice aa n ac) n (iVals (aheads l))]) (fun iv _ => n - (intOf iv).toNat)
  case atStart => exact ⟨0, by omega, rfl, s3⟩
  case round =>
    clear s3
    obtain ⟨k, hk, rfl, s1⟩ := hrel
    by_cases hlt : k < n
    · obtain ⟨⟨ab, ao, rfl, a0⟩, ⟨bb, bo, rfl, b0⟩, lb, lo, rfl, hl⟩ := HC.out wr s1 k hlt
      obtain ⟨p1, p2, p3, p4⟩ := ahOf_is l k
      obtain ⟨q1, q2, q3, q4⟩ := beOf_is l k (by rw [HN.out]; exact hlt)
      rw [HN.out] at q2 q3
      generalize ahOf l k = A at *
      generalize beOf l k = E at *
      have l0 := hl k hlt
      have HLB := Lib.hid (And.intro p4 (And.intro q4 hl))
      have kI : (k : Int) < (n : Int) := by omega
      have i1 : decide (A < -1) = false := by simp; omega
      have i2 : decide ((k : Int) ≤ A) = false := by simp; omega
      have i3 : decide ((E : Int) ≤ (k : Int)) = false := by simp; omega
      have i4 : decide ((n : Int) < (E : Int)) = false := by simp; omega
      obtain ⟨x, hx⟩ : ∃ x, nthI l k = x := ⟨_, rfl⟩
      rw [hx] at l0 p3 q3
      have HXX := Lib.hid hx
      clear hx
      have j5 : decide (E ≤ k) = false := by simp; omega
      have j6 : decide (n < E) = false := by simp; omega
      clear i3 i4
      go_wp2
      simp only [List.append_eq, List.cons_append, List.nil_append]
      refine wp_region_still_lit (by kernel_rfl) (by kernel_rfl) no_implicit_lambda% ?_
      iterate 35
        refine no_implicit_lambda% (still_go ?_)
        apply Exists.intro
        refine ⟨fun K hK => ?_, ?_⟩
        · go_simp
          exact hK
      rcases (by omega : A = -1 ∨ 0 ≤ A) with hA | hA
      · subst hA
        clear i1 i2 p1 p2
        have i2 : decide ((k : Int) ≤ -1) = false := by simp; omega
        by_cases hE : E < n
        · have le := hl E hE
          have ue := q3 hE
          generalize nthI l E = z at *
          have eI : (E : Int) < (n : Int) := by omega
          have j2 : decide (x ≤ z) = false := by simp; omega
          have j4 : decide (E < n) = true := by simp; omega
          clear p3 p4 q3 q4 hl
          iterate 39
            refine no_implicit_lambda% (still_go ?_)
            apply Exists.intro
            refine ⟨fun K hK => ?_, ?_⟩
            · go_simp
              exact hK
          refine no_implicit_lambda% (wpStill_nil ?_)
          go_wp2
          go_loopw [6] (fun kv wi => ∃ m q : Nat, (-1) < (m : Int) ∧ m ≤ E ∧ kv = .int .i64 (m : Int) ∧ wi = wr.drewN (q + 1)) (fun kv _ => n - (intOf kv).toNat)
          case atStart => exact ⟨0, 0, by omega, by omega, by first | rfl | go_num, rfl⟩
          case round =>
            obtain ⟨m, q, hm1, hm2, rfl, rfl⟩ := hrel
            by_cases hme : m < E
            · have c0 := HLB.out.2.2 m (by omega)
              have hge : x ≤ nthI l m := by
                rw [← HXX.out]
                rcases Nat.lt_trichotomy m k with g | g | g
                · exact HLB.out.1 m hm1 g
                · subst g; exact Int.le_refl _
                · exact HLB.out.2.1 m g hme
              have mI : (m : Int) < (n : Int) := by omega
              have mE : (m : Int) < (E : Int) := by omega
              generalize nthI l m = y at *
              have hd : decide (y < x) = false := by simp; omega
              go_wp2
              go_region
              go_wp2
              go_roundw
              case rel => exact ⟨m + 1, q + 1, by omega, by omega, by go_num, rfl⟩
              case measure => simp [intOf]; omega
            · have mE : ¬ (m : Int) < (E : Int) := by omega
              have s3 := s1.drewN (q + 1)
              go_wp2
              exact ⟨⟨k + 1, by omega, by go_num, s3⟩, by simp [intOf]; omega⟩
        · have eI : decide (E < n) = false := by simp; omega
          clear p3 p4 q3 q4 hl
          iterate 39
            refine no_implicit_lambda% (still_go ?_)
            apply Exists.intro
            refine ⟨fun K hK => ?_, ?_⟩
            · go_simp
              exact hK
          refine no_implicit_lambda% (wpStill_nil ?_)
          go_wp2
          go_loopw [6] (fun kv wi => ∃ m q : Nat, (-1) < (m : Int) ∧ m ≤ E ∧ kv = .int .i64 (m : Int) ∧ wi = wr.drewN (q + 1)) (fun kv _ => n - (intOf kv).toNat)
          case atStart => exact ⟨0, 0, by omega, by omega, by first | rfl | go_num, rfl⟩
          case round =>
            obtain ⟨m, q, hm1, hm2, rfl, rfl⟩ := hrel
            by_cases hme : m < E
            · have c0 := HLB.out.2.2 m (by omega)
              have hge : x ≤ nthI l m := by
                rw [← HXX.out]
                rcases Nat.lt_trichotomy m k with g | g | g
                · exact HLB.out.1 m hm1 g
                · subst g; exact Int.le_refl _
                · exact HLB.out.2.1 m g hme
              have mI : (m : Int) < (n : Int) := by omega
              have mE : (m : Int) < (E : Int) := by omega
              generalize nthI l m = y at *
              have hd : decide (y < x) = false := by simp; omega
              go_wp2
              go_region
              go_wp2
              go_roundw
              case rel => exact ⟨m + 1, q + 1, by omega, by omega, by go_num, rfl⟩
              case measure => simp [intOf]; omega
            · have mE : ¬ (m : Int) < (E : Int) := by omega
              have s3 := s1.drewN (q + 1)
              go_wp2
              exact ⟨⟨k + 1, by omega, by go_num, s3⟩, by simp [intOf]; omega⟩
      · obtain ⟨a, rfl⟩ : ∃ a : Nat, A = (a : Int) := ⟨A.toNat, by omega⟩
        have la := hl a (by omega)
        have ua := p3 a rfl
        generalize nthI l a = u at *
        have aI : (a : Int) < (n : Int) := by omega
        have j1 : decide (x ≤ u) = false := by simp; omega
        have j3 : decide (k ≤ a) = false := by simp; omega
        have HAK : Hid (a < k) := Lib.hid (by omega)
        clear i1 i2 p1 p2
        by_cases hE : E < n
        · have le := hl E hE
          have ue := q3 hE
          generalize nthI l E = z at *
          have eI : (E : Int) < (n : Int) := by omega
          have j2 : decide (x ≤ z) = false := by simp; omega
          have j4 : decide (E < n) = true := by simp; omega
          clear p3 p4 q3 q4 hl
          iterate 39
            refine no_implicit_lambda% (still_go ?_)
            apply Exists.intro
            refine ⟨fun K hK => ?_, ?_⟩
            · go_simp
              exact hK
          refine no_implicit_lambda% (wpStill_nil ?_)
          go_wp2
          go_loopw [6] (fun kv wi => ∃ m q : Nat, (a : Int) < (m : Int) ∧ m ≤ E ∧ kv = .int .i64 (m : Int) ∧ wi = wr.drewN (q + 1)) (fun kv _ => n - (intOf kv).toNat)
          case atStart => exact ⟨a + 1, 0, by omega, by have := HAK.out; omega, by first | rfl | go_num, rfl⟩
          case round =>
            obtain ⟨m, q, hm1, hm2, rfl, rfl⟩ := hrel
            by_cases hme : m < E
            · have c0 := HLB.out.2.2 m (by omega)
              have hge : x ≤ nthI l m := by
                rw [← HXX.out]
                rcases Nat.lt_trichotomy m k with g | g | g
                · exact HLB.out.1 m hm1 g
                · subst g; exact Int.le_refl _
                · exact HLB.out.2.1 m g hme
              have mI : (m : Int) < (n : Int) := by omega
              have mE : (m : Int) < (E : Int) := by omega
              generalize nthI l m = y at *
              have hd : decide (y < x) = false := by simp; omega
              go_wp2
              go_region
              go_wp2
              go_roundw
              case rel => exact ⟨m + 1, q + 1, by omega, by omega, by go_num, rfl⟩
              case measure => simp [intOf]; omega
            · have mE : ¬ (m : Int) < (E : Int) := by omega
              have s3 := s1.drewN (q + 1)
              go_wp2
              exact ⟨⟨k + 1, by omega, by go_num, s3⟩, by simp [intOf]; omega⟩
        · have eI : decide (E < n) = false := by simp; omega
          clear p3 p4 q3 q4 hl
          iterate 39
            refine no_implicit_lambda% (still_go ?_)
            apply Exists.intro
            refine ⟨fun K hK => ?_, ?_⟩
            · go_simp
              exact hK
          refine no_implicit_lambda% (wpStill_nil ?_)
          go_wp2
          go_loopw [6] (fun kv wi => ∃ m q : Nat, (a : Int) < (m : Int) ∧ m ≤ E ∧ kv = .int .i64 (m : Int) ∧ wi = wr.drewN (q + 1)) (fun kv _ => n - (intOf kv).toNat)
          case atStart => exact ⟨a + 1, 0, by omega, by have := HAK.out; omega, by first | rfl | go_num, rfl⟩
          case round =>
            obtain ⟨m, q, hm1, hm2, rfl, rfl⟩ := hrel
            by_cases hme : m < E
            · have c0 := HLB.out.2.2 m (by omega)
              have hge : x ≤ nthI l m := by
                rw [← HXX.out]
                rcases Nat.lt_trichotomy m k with g | g | g
                · exact HLB.out.1 m hm1 g
                · subst g; exact Int.le_refl _
                · exact HLB.out.2.1 m g hme
              have mI : (m : Int) < (n : Int) := by omega
              have mE : (m : Int) < (E : Int) := by omega
              generalize nthI l m = y at *
              have hd : decide (y < x) = false := by simp; omega
              go_wp2
              go_region
              go_wp2
              go_roundw
              case rel => exact ⟨m + 1, q + 1, by omega, by omega, by go_num, rfl⟩
              case measure => simp [intOf]; omega
            · have mE : ¬ (m : Int) < (E : Int) := by omega
              have s3 := s1.drewN (q + 1)
              go_wp2
              exact ⟨⟨k + 1, by omega, by go_num, s3⟩, by simp [intOf]; omega⟩
    · have b1 := s1.below (Nat.le_refl _)
      clear s1 HC
      go_wp2_with fail
      refine (finds_any wr).mono ?_
      rintro e w8 ⟨rfl, b2⟩
      go_wp2_with fail
      go_ret
      exact ⟨rfl, b1.trans (b2.mono b1.size)⟩

end Go.Proofs.Ytjchchinmggldaa.nearLeast
