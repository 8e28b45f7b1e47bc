/-
  Lengths answers each call as the document says; its cost is the least, level by level; what is handed in stays: the walk of LimitAsks. No conditions.
-/
import Derived.Test.YtpolbpjclklgbaaLimK
import Derived.Test.YtpolbpjclklgbaaLimN
namespace Go.Proofs.Ytpolbpjclklgbaa.limitAsks
open Go.RowKit Go.Proofs.Ytpolbpjclklgbaa.Limit

def iVals (xs : List Int) : List Value := xs.map fun (x : Int) => Value.int .i64 x
theorem iVals_length (xs : List Int) : (iVals xs).length = xs.length := by simp [iVals]
theorem iVals_get (xs : List Int) (i : Nat) (h : i < xs.length) : (iVals xs)[i]? = some (.int .i64 xs[i]) := by simp [iVals, h]
theorem iVals_one (xs : List Int) : ∀ u ∈ iVals xs, u.oneCell' = true := by
  intro u hu
  simp only [iVals, List.mem_map] at hu
  obtain ⟨x, _, rfl⟩ := hu
  rfl

theorem readsInts {w : World} {v : Value} {xs : List Int} (h : IntRow w v xs) : Reads w v (iVals xs) := by
  obtain ⟨a, cap, rfl, hc, hn, hat⟩ := h
  cases a with
  | none =>
    have := hn rfl
    have h0 : xs = [] := List.eq_nil_of_length_eq_zero (by omega)
    subst h0 this
    exact .inl ⟨rfl, rfl⟩
  | some a =>
    refine .inr ⟨a, cap, by rw [iVals_length], fun j u hu => ?_⟩
    have hj : j < xs.length := by
      have := (List.getElem?_eq_some_iff.1 hu).1
      rwa [iVals_length] at this
    obtain ⟨_, b, off, e, hcell⟩ := hat j hj
    obtain rfl := Option.some.inj e
    rw [add_none, hcell, ← hu, iVals_get _ _ hj]

theorem wpList_copyInts {ops : Array Oper} {rest : List Oper} {o : Oper} {a : Act} {Q : Exit → Act → World → Prop} (hw : Region.wanted o (yielded ops a.tmps) = true) (s x : Operand)
    (ho : o.op = .call { callee := .builtin .append, args := #[s, x], argTypes := #[24, 24] })
    {B : Nat} {w0 w2 : World} {r : List Thing} (st : St B w0 w2 r) {v : Value} {xs : List Int} (h0 : IntRow w2 v xs) (hs : a.eval s = .slice (some ⟨w2.heap.size, 0, none⟩) 0 0) (hx : a.eval x = v) (hl : xs.length ≤ 1000000)
    (K : ∀ v' w', St B w0 w' (rowT 3 1 v' xs.length (iVals xs) :: r) → wpList Try.prog ops Q rest (a.put o.dst v') w') : wpList Try.prog ops Q (o :: rest) a (w2.alloc (.cells #[] 3)) := by
  have s1 : St B w0 (w2.alloc (.cells #[] 3)) (rowT 3 1 (.slice (some ⟨w2.heap.size, 0, none⟩) 0 0) 0 [] :: r) :=
    st.addRow (below_alloc w2 _) (World.ownsRow_made w2 #[] 0 (Nat.le_refl _) (by unfold maxLen; omega) rfl)
  have h := h0.below (below_alloc w2 (.cells #[] 3)) (Nat.le_refl _)
  obtain ⟨i0, hi, hz0, hz1, hz2⟩ := info_parts infoI
  have hr := readsInts h
  obtain ⟨ad, cap, rfl, hc, hn, hat⟩ := h
  refine wpList_append_mineW _ hw s x 24 ho 3 i0 (.int .i64 0) 1 8 Try.underlying24 hi hz0 hz1 hz2 rfl (by decide) _ 0 [] hs s1.row ad xs.length cap (iVals xs) hx ?_ (by rw [iVals_length]; omega) ?_ (iVals_one xs) (by unfold maxLen; omega) (by omega) ?_
  · intro e1
    have := hn e1
    exact ⟨by omega, this⟩
  · intro b hb j u hu
    rcases hr with ⟨e1, e2⟩ | ⟨a', cap', e1, e2⟩
    · rw [e2] at hu; simp at hu
    · have e3 : ad = some a' := (Value.slice.inj e1).1
      rw [hb] at e3
      obtain rfl := Option.some.inj e3
      exact e2 j u hu
  · intro v' w' g1 g2 g3
    have s2 := s1.grown g1 g2 g3
    rw [Nat.zero_add, List.nil_append] at s2
    exact K v' w' s2

theorem intRow_of {w : World} {base n : Nat} {e : TypeId} {v : Value} {xs : List Int} (h : w.ownsRow base e 1 v n (iVals xs)) (hl : xs.length = n) (hx : ∀ x ∈ xs, -9223372036854775808 ≤ x ∧ x ≤ 9223372036854775807) : IntRow w v xs := by
  subst hl
  rcases h.2 with ⟨rfl, h0⟩ | ⟨g, cap, cur, rfl, _, hg, hnc, _⟩
  · obtain rfl : xs = [] := List.eq_nil_of_length_eq_zero h0
    exact ⟨none, 0, rfl, Nat.le_refl _, fun _ => rfl, fun i hi => absurd hi (by simp)⟩
  · refine ⟨_, cap, rfl, hnc, (fun e => by cases e), fun i hi => ⟨hx _ (List.getElem_mem hi), g, 0, rfl, ?_⟩⟩
    rw [Nat.zero_add, h.cellAt i (by omega), iVals_get _ _ hi]

/-- How many of the first k are above 0. -/
def posI (xs : List Int) (k : Nat) : Nat := ((xs.take k).filter fun x => decide (0 < x)).length

theorem posI_le (xs : List Int) (k : Nat) : posI xs k ≤ k := by
  unfold posI
  refine Nat.le_trans (List.length_filter_le _ _) ?_
  rw [List.length_take]; omega

theorem posI_hit {xs : List Int} {k : Nat} (hk : k < xs.length) (h : 0 < xs[k]) : posI xs (k + 1) = posI xs k + 1 := by
  unfold posI
  rw [List.take_succ_eq_append_getElem hk, List.filter_append, List.filter_cons_of_pos (by simpa using h), List.filter_nil, List.length_append]
  rfl

theorem posI_miss {xs : List Int} {k : Nat} (hk : k < xs.length) (h : ¬ 0 < xs[k]) : posI xs (k + 1) = posI xs k := by
  unfold posI
  rw [List.take_succ_eq_append_getElem hk, List.filter_append, List.filter_cons_of_neg (by simpa using h), List.filter_nil, List.append_nil]

theorem posI_all (xs : List Int) : posI xs xs.length = (pos (xs.map Int.toNat)).length := by
  unfold posI pos
  rw [List.take_length, List.filter_map, List.length_map]
  congr 1
  exact List.filter_congr fun x _ => by simp

/-- Is a frequency out of its bounds, among the first k? -/
def badTo (xs : List Int) (b0 : Bool) (k : Nat) : Bool := b0 || (xs.take k).any fun x => decide (x < 0) || decide (1099511627776 < x)

theorem badTo_succ {xs : List Int} {b0 : Bool} {k : Nat} (hk : k < xs.length) : badTo xs b0 (k + 1) = (badTo xs b0 k || (decide (xs[k] < 0) || decide (1099511627776 < xs[k]))) := by
  unfold badTo
  rw [List.take_succ_eq_append_getElem hk, List.any_append]
  simp [Bool.or_assoc]

theorem badTo_all (xs : List Int) (m : Int) (b0 : Bool) (hb : b0 = (decide (m < 1) || decide (17 < m) || decide (512 < xs.length))) : fitsB xs m = !badTo xs b0 xs.length := by
  rw [Bool.eq_iff_iff, fitsB_iff, hb]
  unfold badTo
  rw [List.take_length]
  simp [and_assoc]

theorem err5 {xs : List Int} {L : Int} (h : fitsB xs L = false) : errOf xs L = 5 ∧ lensAns xs L = [] := by
  have he : errOf xs L = 5 := by unfold errOf; rw [h]; rfl
  exact ⟨he, by unfold lensAns; rw [if_neg (by omega)]⟩

set_option maxRecDepth 100000 in
set_option maxHeartbeats 2000000 in
theorem walk (w : World) (v0 : Value) (xs : List Int) (h0 : IntRow w v0 xs) (m : Int) (_ : (Lit.int .i64 m).wf = true) :
    Calls Try.prog 4 #[v0, .int .i64 m] w fun e w' => e = .returned (.bool true) ∧ Below w.heap.size w w' := by
  have H := Lib.hid h0
  have hp0 := picks_st (St.start w)
  obtain ⟨a0, cap0, rfl, hc0, hn0, hat0⟩ := h0
  have HXB := Lib.hid (show ∀ x ∈ xs, -9223372036854775808 ≤ x ∧ x ≤ 9223372036854775807 from fun x hx => by
    obtain ⟨i, hi, rfl⟩ := List.getElem_of_mem hx
    exact (hat0 i hi).1)
  clear hat0
  by_cases c1 : 2000 < xs.length
  · have d1 : decide (40 < (xs.length : Int)) = true := by simp; omega
    have d2 : decide ((xs.length : Int) ≤ 512) = false := by simp; omega
    go_enter Try.func4, Try.ntmps4
    go_wp2_with (go_at_call 6; refine hp0.mono ?_; rintro e w9 ⟨rfl, s9⟩)
    go_ret
    exact ⟨rfl, s9.below (Nat.le_refl _)⟩
  by_cases c2 : 40 < xs.length ∧ xs.length ≤ 512
  · obtain ⟨c2, c3⟩ := c2
    go_enter Try.func4, Try.ntmps4
    go_wp2_with (go_at_call 6; refine hp0.mono ?_; rintro e w9 ⟨rfl, s9⟩)
    go_ret
    exact ⟨rfl, s9.below (Nat.le_refl _)⟩
  clear hp0
  by_cases hgood : xs.length ≤ 40 ∧ 1 ≤ m ∧ m ≤ 17
  · obtain ⟨hs40, hm1, hm2⟩ := hgood
    obtain ⟨L, rfl⟩ : ∃ L : Nat, m = (L : Int) := ⟨m.toNat, by omega⟩
    have hL : 1 ≤ L ∧ L ≤ 17 := by omega
    have hlens : ∀ {w1 : World} {v1 : Value} {r : List Thing} (s1 : St w.heap.size w w1 (rowT 3 1 v1 xs.length (iVals xs) :: r)), Calls Try.prog 7 #[v1, .int .i64 (L : Int)] w1 (LengthsSt w.heap.size w (rowT 3 1 v1 xs.length (iVals xs) :: r) xs (L : Int)) := fun s1 => lengths_st s1 _ xs _ (intRow_of s1.row rfl HXB.out)
    obtain ⟨l, hl⟩ : ∃ l, lensAns xs (L : Int) = l := ⟨_, rfl⟩
    obtain ⟨er, her⟩ : ∃ er, errOf xs (L : Int) = er := ⟨_, rfl⟩
    have HLE := @hlens
    unfold LengthsSt at HLE
    rw [hl, her] at HLE
    have HL := Lib.hid hl
    have HE := Lib.hid her
    clear hlens hl her c1 c2
    go_enter Try.func4, Try.ntmps4
    go_wp2_with (at_builtin; refine wpList_copyInts rfl _ _ rfl (St.start w) H.out rfl rfl (by omega) ?_)
    intro v1 w1 s1
    obtain ⟨a1, c1, rfl⟩ := ownsRow_slice s1.row
    have hl := HLE s1
    clear HLE s1
    go_wp2_with (go_at_call 7; refine hl.mono ?_; rintro e w2 ⟨u, rfl, s2⟩; obtain ⟨au, cu, rfl⟩ := ownsRow_slice s2.row)
    clear hl
    go_loopw [8, 9, 10] (fun nv bv iv wr => ∃ k c : Nat, k ≤ xs.length ∧ iv = .int .i64 (k : Int) ∧ nv = .int .i64 (posI xs k : Int) ∧ bv = .bool (badTo xs false k) ∧ wr = w2.drewN c) (fun _ _ iv _ => xs.length - (intOf iv).toNat)
    case atStart => exact ⟨0, 0, Nat.zero_le _, rfl, rfl, congrArg Value.bool (by simp [badTo]; omega), rfl⟩
    case round =>
      obtain ⟨k, c, hk, rfl, rfl, rfl, rfl⟩ := hrel
      by_cases hlt : k < xs.length
      · obtain ⟨a0', cap0', e1, -, -, hat⟩ := H.out.below (s2.below (Nat.le_refl _)) (Nat.le_refl _)
        obtain ⟨-, b0, off0, rfl, x0⟩ := hat k hlt
        obtain ⟨rfl, -, rfl⟩ := Value.slice.inj e1
        obtain ⟨g, cap, e2, -⟩ := s2.swap.rowShape (by omega)
        obtain ⟨rfl, -, rfl⟩ := Value.slice.inj e2
        have x1 : w2.cell? ⟨g, k, none⟩ = some (.int .i64 xs[k]) := by rw [s2.swap.row.cellAt k (by omega), iVals_get _ _ hlt]
        have x0' : (w2.drewN c).cell? ⟨b0, off0 + k, none⟩ = some (.int .i64 xs[k]) := x0
        have x1' : (w2.drewN c).cell? ⟨g, k, none⟩ = some (.int .i64 xs[k]) := x1
        have S2 := Lib.hid s2
        have hh := fun h => posI_hit hlt h
        have hmm := fun h => posI_miss hlt h
        have hbb := badTo_succ (b0 := false) hlt
        have hpl := posI_le xs k
        clear hat e1 e2 x0 x1 s2
        generalize xs[k] = x at *
        generalize hpk : posI xs k = q at *
        generalize hbk : badTo xs false k = b at *
        have HH := Lib.hid hh
        have HM := Lib.hid hmm
        have HBB := Lib.hid hbb
        clear hh hmm hbb hpk hbk
        have x0b : (w2.drewN c).drew.cell? ⟨b0, off0 + k, none⟩ = some (.int .i64 x) := x0'
        have x1b : (w2.drewN c).drew.cell? ⟨g, k, none⟩ = some (.int .i64 x) := x1'
        have hdr : (w2.drewN c).drew = w2.drewN (c + 1) := by simp [World.drewN, World.drew, Nat.add_assoc]
        have HDR := Lib.hid hdr
        clear hdr
        generalize w2.drewN c = wq at *
        have hcases : (b = true ∧ 0 < x) ∨ (b = true ∧ ¬ 0 < x) ∨ (b = false ∧ x < 0) ∨ (b = false ∧ x = 0) ∨ (b = false ∧ 0 < x ∧ x ≤ 1099511627776) ∨ (b = false ∧ 1099511627776 < x) := by
          cases b <;> simp <;> omega
        rcases hcases with ⟨rfl, hx⟩ | ⟨rfl, hx⟩ | ⟨rfl, hx⟩ | ⟨rfl, rfl⟩ | ⟨rfl, hx, hx2⟩ | ⟨rfl, hx⟩
        · go_wp2
          go_region
          all_goals go_wp2
          go_roundw
          case rel => exact ⟨k + 1, c + 1, by omega, by go_num, by rw [HH.out hx]; go_num, by rw [HBB.out]; rfl, HDR.out⟩
          case measure => simp [intOf]; omega
        · go_wp2
          go_region
          all_goals go_wp2
          go_roundw
          case rel => exact ⟨k + 1, c + 1, by omega, by go_num, by rw [HM.out hx], by rw [HBB.out]; rfl, HDR.out⟩
          case measure => simp [intOf]; omega
        · have hx3 : ¬ 0 < x := by omega
          go_wp2
          go_region
          all_goals go_wp2
          go_roundw
          case rel => exact ⟨k + 1, c + 1, by omega, by go_num, by rw [HM.out (by omega)], by rw [HBB.out]; simp [hx], HDR.out⟩
          case measure => simp [intOf]; omega
        · go_wp2
          go_region
          all_goals go_wp2
          go_roundw
          case rel => exact ⟨k + 1, c + 1, by omega, by go_num, by rw [HM.out (by omega)], by rw [HBB.out]; rfl, HDR.out⟩
          case measure => simp [intOf]; omega
        · have hx3 : ¬ x < 0 := by omega
          have hx4 : ¬ 1099511627776 < x := by omega
          go_wp2
          go_region
          all_goals go_wp2
          go_roundw
          case rel => exact ⟨k + 1, c + 1, by omega, by go_num, by rw [HH.out hx]; go_num, by rw [HBB.out]; first | (simp; done) | (simp; omega), HDR.out⟩
          case measure => simp [intOf]; omega
        · have hx3 : ¬ x < 0 := by omega
          have hx4 : 0 < x := by omega
          go_wp2
          go_region
          all_goals go_wp2
          go_roundw
          case rel => exact ⟨k + 1, c + 1, by omega, by go_num, by rw [HH.out hx4]; go_num, by rw [HBB.out]; simp [hx], HDR.out⟩
          case measure => simp [intOf]; omega
      · obtain rfl : k = xs.length := by omega
        have hfb := badTo_all xs (L : Int) false (by simp; omega)
        have hpa := posI_all xs
        have sq := s2.drewN c
        generalize w2.drewN c = wq at *
        clear s2
        cases hb : badTo xs false xs.length with
        | true =>
          rw [hb] at hfb
          obtain ⟨he1, he2⟩ := err5 hfb
          have e1 : er = 5 := HE.out.symm.trans he1
          have e2 : l = [] := HL.out.symm.trans he2
          subst e1
          subst e2
          have hpk := picks_st sq
          clear hfb he1 he2 hb hpa
          generalize posI xs xs.length = p at *
          go_wp2_with (go_at_call 6; refine hpk.mono ?_; rintro e w9 ⟨rfl, s9⟩)
          go_ret
          exact ⟨rfl, s9.below (Nat.le_refl _)⟩
        | false =>
          rw [hb] at hfb
          obtain ⟨-, -, hxs⟩ := (fitsB_iff xs (L : Int)).1 hfb
          obtain ⟨F, hF⟩ : ∃ F, xs.map Int.toNat = F := ⟨_, rfl⟩
          have hN := H.out.nums (fun x hx => (hxs x hx).1)
          have hF2 := toNat_cast hxs
          have hFl : F.length = xs.length := by rw [← hF]; simp
          have he : errOf xs (L : Int) = if 2 ^ L < (pos F).length then 2 else 0 := by unfold errOf; rw [hfb, hF, rare_len]; rfl
          have hla : er = 0 → l = lengths F (rare F) L := fun e => by
            have := lensAns_ok (xs := xs) (L := (L : Int)) (HE.out.trans e)
            rw [hF, Int.toNat_natCast] at this
            rw [← HL.out, this]
          have hln : er ≠ 0 → l = [] := fun e => by
            rw [← HL.out]
            unfold lensAns
            rw [HE.out, if_neg e]
          rw [HE.out] at he
          rw [hF] at hN hF2 hpa
          rw [hpa]
          have hr := rare_is F
          have hpl : 2 ^ L ≤ 131072 := by
            have := Nat.pow_le_pow_right (n := 2) (by omega) (show L ≤ 17 by omega)
            simpa using this
          have hwp : wrap64 ((2 : Int) ^ L) = ((2 ^ L : Nat) : Int) := by
            have e : (2 : Int) ^ L = ((2 ^ L : Nat) : Int) := by simp
            rw [e]
            unfold wrap64
            have h0 : 0 < 2 ^ L := Nat.two_pow_pos L
            generalize 2 ^ L = q at *
            omega
          have hpf : (pos F).length ≤ 40 := Nat.le_trans (List.length_filter_le _ _) (by omega)
          by_cases hbig : 2 ^ L < (pos F).length
          · rw [if_pos hbig] at he
            have e2 := hln (by omega)
            subst he
            subst e2
            have hpk := picks_st sq
            obtain ⟨q, hq⟩ : ∃ q, 2 ^ L = q := ⟨_, rfl⟩
            rw [hq] at hwp hpl hbig
            generalize (pos F).length = p at *
            clear hq hla hln hfb hb hpa
            have hdb : decide ((q : Int) < (p : Int)) = true := by simp; omega
            have hdb2 : decide (q < p) = true := by simp; omega
            go_wp2_with (go_at_call 6; refine hpk.mono ?_; rintro e w9 ⟨rfl, s9⟩)
            go_ret
            exact ⟨rfl, s9.below (Nat.le_refl _)⟩
          · rw [if_neg hbig] at he
            have e2 := hla he
            subst he
            have hfew : (pos F).length ≤ 2 ^ L := by omega
            have hchoice := lengths_choice hr (L := L) (by omega) (by rw [pos_perm_length hr]; exact hfew)
            have hby := lengths_bytes F (rare F) L hr hL hfew
            have hll := lengths_length F (rare F) L
            have hleast := fun (wz : World) (hz : NumRow wz (.slice a0 xs.length cap0) F) (h2 : 2 ≤ (pos F).length) => least_any wz _ F L hz hF2 (by omega) hL h2 hfew
            rw [← e2] at hchoice hby hll hleast
            have hbr : ByteRow wq (.slice au l.length cu) l := byteRow_owns sq.row hby
            have hNq := hN.below (sq.below (Nat.le_refl _)) (Nat.le_refl _)
            have hch := choice_any wq _ _ F l L hNq hbr hL (by omega)
            have HCH := Lib.hid hchoice
            have HLE2 := Lib.hid hleast
            have HBR := Lib.hid hbr
            have HNQ := Lib.hid hNq
            have HF2 := Lib.hid hF2
            have HLL := Lib.hid hll
            have HSQ := Lib.hid sq
            obtain ⟨q, hq⟩ : ∃ q, 2 ^ L = q := ⟨_, rfl⟩
            rw [hq] at hwp hpl hbig
            obtain ⟨p, hp⟩ : ∃ p, (pos F).length = p := ⟨_, rfl⟩
            have HP := Lib.hid hp
            rw [hp] at hbig hpf ⊢
            clear hq hla hln hfb hb hpa hp hchoice hleast hbr hNq hF2 hll hby hfew e2 hr hN hF hxs sq
            have hdb : decide ((q : Int) < (p : Int)) = false := by simp; omega
            have hdb2 : decide (q < p) = false := by simp; omega
            by_cases hp2 : p < 2
            · go_wp2_with (first | (go_at_call 9; refine hch.mono ?_; rintro e w3 ⟨bc, rfl, hbc, n1, rfl⟩; obtain rfl : bc = true := hbc.2 HCH.out; clear hbc; have hpk := picks_st (HSQ.out.drewN n1)) | (go_at_call 6; refine hpk.mono ?_; rintro e w9 ⟨rfl, s9⟩))
              go_ret
              exact ⟨rfl, s9.below (Nat.le_refl _)⟩
            · go_wp2_with (go_at_call 9; refine hch.mono ?_; rintro e w3 ⟨bc, rfl, hbc, n1, rfl⟩; obtain rfl : bc = true := hbc.2 HCH.out; clear hbc)
              have dr : ∀ k, Below wq.heap.size wq (wq.drewN k) := fun k => ⟨rfl, rfl, rfl, Nat.le_refl _, fun _ _ => rfl⟩
              have hsum := sum_any (wq.drewN n1) _ _ F l (HNQ.out.below (dr n1) (Nat.le_refl _)) (HBR.out.below (dr n1) (Nat.le_refl _)) (fun f hf => by have := HF2.out f hf; omega) HLL.out (by omega)
              refine hsum.mono ?_
              rintro e w4 ⟨rfl, n2, rfl⟩
              have e1 : (wq.drewN n1).drewN n2 = wq.drewN (n1 + n2) := by simp [World.drewN, Nat.add_assoc]
              rw [e1]
              have hlea := HLE2.out (wq.drewN (n1 + n2)) (HNQ.out.below (dr _) (Nat.le_refl _)) (by rw [HP.out]; omega)
              have s4 := HSQ.out.drewN (n1 + n2)
              clear hsum e1 dr hch HLE2
              generalize cost F l = C at *
              generalize wq.drewN (n1 + n2) = w5 at *
              go_wp2_with fail
              refine hlea.mono ?_
              rintro e w6 ⟨rfl, b6⟩
              have s6 := s4.quiet b6
              go_wp2_with fail
              refine (picks_st s6).mono ?_
              rintro e w9 ⟨rfl, s9⟩
              go_wp2
              go_ret
              exact ⟨rfl, s9.below (Nat.le_refl _)⟩
  · have hfit : fitsB xs m = false := fitsB_not (fun hh => by omega)
    obtain ⟨he1, he2⟩ := err5 hfit
    have hbad : (xs.length ≤ 40 ∧ m < 1) ∨ (xs.length ≤ 40 ∧ 17 < m) ∨ (512 < xs.length ∧ xs.length ≤ 2000 ∧ m < 1) ∨ (512 < xs.length ∧ xs.length ≤ 2000 ∧ 17 < m) ∨ (512 < xs.length ∧ xs.length ≤ 2000 ∧ 1 ≤ m ∧ m ≤ 17) := by omega
    have hlens : ∀ {w1 : World} {v1 : Value} {r : List Thing} (s1 : St w.heap.size w w1 (rowT 3 1 v1 xs.length (iVals xs) :: r)), Calls Try.prog 7 #[v1, .int .i64 m] w1 fun e w' => ∃ u, e = .returned (.tuple #[u, .int .i64 5]) ∧ St w.heap.size w w' (rowT 5 1 u 0 [] :: rowT 3 1 v1 xs.length (iVals xs) :: r) := fun s1 => by
      have hl := lengths_st s1 _ xs m (intRow_of s1.row rfl HXB.out)
      unfold LengthsSt at hl
      rw [he1, he2] at hl
      exact hl
    have HLE := @hlens
    clear hgood hfit he1 he2 hlens c1 c2
    rcases hbad with ⟨z1, z2⟩ | ⟨z1, z2⟩ | ⟨z1, z3, z2⟩ | ⟨z1, z3, z2⟩ | ⟨z1, z3, z2, z4⟩
    all_goals
      go_enter Try.func4, Try.ntmps4
      go_wp2_with (at_builtin; refine wpList_copyInts rfl _ _ rfl (St.start w) H.out rfl rfl (by omega) ?_)
      intro v1 w1 s1
      obtain ⟨a1, c1, rfl⟩ := ownsRow_slice s1.row
      have hl := HLE s1
      clear HLE s1
      go_wp2_with (go_at_call 7; refine hl.mono ?_; rintro e w2 ⟨u, rfl, s2⟩; obtain ⟨au, cu, rfl⟩ := ownsRow_slice s2.row)
      clear hl
      go_loopw [8, 9, 10] (fun nv bv iv wr => ∃ k c q : Nat, k ≤ xs.length ∧ iv = .int .i64 (k : Int) ∧ q ≤ k ∧ nv = .int .i64 (q : Int) ∧ bv = .bool true ∧ wr = w2.drewN c) (fun _ _ iv _ => xs.length - (intOf iv).toNat)
      case atStart => exact ⟨0, 0, 0, Nat.zero_le _, rfl, Nat.le_refl _, rfl, rfl, rfl⟩
      case round =>
        obtain ⟨k, c, q, hk, rfl, hq, rfl, rfl, rfl⟩ := hrel
        by_cases hlt : k < xs.length
        · obtain ⟨a0', cap0', e1, -, -, hat⟩ := H.out.below (s2.below (Nat.le_refl _)) (Nat.le_refl _)
          obtain ⟨-, b0, off0, rfl, x0⟩ := hat k hlt
          obtain ⟨rfl, -, rfl⟩ := Value.slice.inj e1
          obtain ⟨g, cap, e2, -⟩ := s2.swap.rowShape (by omega)
          obtain ⟨rfl, -, rfl⟩ := Value.slice.inj e2
          have x1 : w2.cell? ⟨g, k, none⟩ = some (.int .i64 xs[k]) := by rw [s2.swap.row.cellAt k (by omega), iVals_get _ _ hlt]
          have x0' : (w2.drewN c).cell? ⟨b0, off0 + k, none⟩ = some (.int .i64 xs[k]) := x0
          have x1' : (w2.drewN c).cell? ⟨g, k, none⟩ = some (.int .i64 xs[k]) := x1
          have S2 := Lib.hid s2
          clear hat e1 e2 x0 x1 s2
          generalize xs[k] = x at *
          have x0b : (w2.drewN c).drew.cell? ⟨b0, off0 + k, none⟩ = some (.int .i64 x) := x0'
          have x1b : (w2.drewN c).drew.cell? ⟨g, k, none⟩ = some (.int .i64 x) := x1'
          have hdr : (w2.drewN c).drew = w2.drewN (c + 1) := by simp [World.drewN, World.drew, Nat.add_assoc]
          have HDR := Lib.hid hdr
          clear hdr
          generalize w2.drewN c = wq at *
          by_cases hx : 0 < x
          · go_wp2
            go_region
            all_goals go_wp2
            go_roundw
            case rel => exact ⟨k + 1, c + 1, q + 1, by omega, by go_num, by omega, by go_num, rfl, HDR.out⟩
            case measure => simp [intOf]; omega
          · go_wp2
            go_region
            all_goals go_wp2
            go_roundw
            case rel => exact ⟨k + 1, c + 1, q, by omega, by go_num, by omega, rfl, rfl, HDR.out⟩
            case measure => simp [intOf]; omega
        · obtain rfl : k = xs.length := by omega
          have hpk := picks_st (s2.drewN c)
          generalize w2.drewN c = wq at *
          go_wp2_with (go_at_call 6; refine hpk.mono ?_; rintro e w9 ⟨rfl, s9⟩)
          go_ret
          exact ⟨rfl, s9.below (Nat.le_refl _)⟩

end Go.Proofs.Ytpolbpjclklgbaa.limitAsks
