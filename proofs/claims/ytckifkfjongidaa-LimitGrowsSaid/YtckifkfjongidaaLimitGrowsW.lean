/-
  If a frequency grows, so does the cost: the walk of LimitGrows. No conditions.
-/
import Derived.Test.YtckifkfjongidaaLimN
import Derived.Test.YtckifkfjongidaaIntsA
namespace Go.Proofs.Ytckifkfjongidaa.limitGrows
open Go.RowKit Go.Proofs.Ytckifkfjongidaa.Limit
open Go.Proofs.Ytckifkfjongidaa.Kraft (sumTo sumTo_congr sumTo_add sumTo_single)

theorem nth_set (F : List Nat) (k f i : Nat) (hk : k < F.length) : nth (F.set k f) i = if i = k then f else nth F i := by
  by_cases hi : i < F.length
  · rw [nth_lt (by simpa using hi), List.getElem_set]
    by_cases e : k = i
    · subst e; simp
    · rw [if_neg e, if_neg (fun h => e h.symm), nth_lt hi]
  · rw [nth_ge (by simp; omega), if_neg (by omega), nth_ge (by omega)]

theorem cost_set (F O : List Nat) (k d : Nat) (hk : k < F.length) : cost (F.set k (nth F k + d)) O = cost F O + d * nth O k := by
  unfold cost
  rw [List.length_set]
  have e : sumTo (fun i => nth (F.set k (nth F k + d)) i * nth O i) F.length = sumTo (fun i => nth F i * nth O i + if i = k then d * nth O k else 0) F.length := sumTo_congr fun i hi => by
    rw [nth_set F k _ i hk]
    by_cases c : i = k
    · subst c; rw [if_pos rfl, if_pos rfl, Nat.add_mul]
    · rw [if_neg c, if_neg c, Nat.add_zero]
  rw [e, sumTo_add, sumTo_single, if_pos hk]

theorem choice_set {F O : List Nat} {L k f : Nat} (hk : k < F.length) (h0 : 0 < nth F k) (hf : 0 < f) : Choice (F.set k f) L O ↔ Choice F L O := by
  have hs : ∀ i, 0 < nth (F.set k f) i ↔ 0 < nth F i := fun i => by
    rw [nth_set F k f i hk]
    by_cases c : i = k
    · subst c; rw [if_pos rfl]; exact ⟨fun _ => h0, fun _ => hf⟩
    · rw [if_neg c]
  have hp : (pos (F.set k f)).length = (pos F).length := pos_length_eq (by simp) (fun i _ => hs i)
  have hl : (F.set k f).length = F.length := by simp
  constructor
  · intro h
    exact ⟨by rw [h.length, hl], fun i hi => (h.some i (by rw [hl]; exact hi)).trans (hs i), fun i hi => h.limit i (by rw [hl]; exact hi), fun h2 => h.full (by rw [hp]; exact h2), fun h2 i hi => h.one (by rw [hp]; exact h2) i (by rw [hl]; exact hi)⟩
  · intro h
    exact ⟨by rw [h.length, hl], fun i hi => (h.some i (by rw [hl] at hi; exact hi)).trans (hs i).symm, fun i hi => h.limit i (by rw [hl] at hi; exact hi), fun h2 => h.full (by rw [hp] at h2; exact h2), fun h2 i hi => h.one (by rw [hp] at h2; exact h2) i (by rw [hl] at hi; exact hi)⟩

theorem pos_set {F : List Nat} {k f : Nat} (hk : k < F.length) (h0 : 0 < nth F k) (hf : 0 < f) : (pos (F.set k f)).length = (pos F).length :=
  pos_length_eq (by simp) (fun i _ => by
    rw [nth_set F k f i hk]
    by_cases c : i = k
    · subst c; rw [if_pos rfl]; exact ⟨fun _ => h0, fun _ => hf⟩
    · rw [if_neg c])

theorem byteRow_of {w : World} {base n c : Nat} {a : Option Addr} {l : List Nat} (h : w.ownsRow base 5 1 (.slice a n c) n (u8s l)) (hl : l.length = n) (hb : ∀ x ∈ l, x < 256) : ByteRow w (.slice a n c) l := by
  subst hl; exact byteRow_owns h hb

theorem numRow_of {w : World} {base n c : Nat} {e : TypeId} {a : Option Addr} {l : List Nat} (h : w.ownsRow base e 1 (.slice a n c) n (i64s l)) (hl : l.length = n) : NumRow w (.slice a n c) l := by
  subst hl; exact numRow_owns h

theorem byteRow_cell {w : World} {n c : Nat} {a : Option Addr} {l : List Nat} (h : ByteRow w (.slice a n c) l) (q : Nat) (hq : q < l.length) : ∃ b off, a = some ⟨b, off, none⟩ ∧ w.cell? ⟨b, off + q, none⟩ = some (.int .u8 (nth l q : Int)) ∧ nth l q < 256 := by
  obtain ⟨a', cap', e', _, _, hat⟩ := h
  obtain ⟨hb, b0, off, e0, c0⟩ := hat q hq
  rw [← (Value.slice.inj e').1] at e0
  rw [nth_lt hq]
  exact ⟨b0, off, e0, c0, hb⟩

theorem cast_back (F : List Nat) : (F.map fun x : Nat => (x : Int)).map Int.toNat = F := by
  rw [List.map_map]
  conv => rhs; rw [← List.map_id F]
  exact List.map_congr_left fun x _ => by simp

/-- THE TWO BOUNDS. -/
theorem grows {F : List Nat} {L k d : Nat} (hL : 1 ≤ L) (hk : k < F.length) (h0 : 0 < nth F k) (hp : (pos F).length ≤ 2 ^ L) :
    cost F (lengths F (rare F) L) + d * nth (lengths (F.set k (nth F k + d)) (rare (F.set k (nth F k + d))) L) k ≤ cost (F.set k (nth F k + d)) (lengths (F.set k (nth F k + d)) (rare (F.set k (nth F k + d))) L) ∧
    cost (F.set k (nth F k + d)) (lengths (F.set k (nth F k + d)) (rare (F.set k (nth F k + d))) L) ≤ cost F (lengths F (rare F) L) + d * nth (lengths F (rare F) L) k := by
  have hf : 0 < nth F k + d := by omega
  have r1 := rare_is F
  have r2 := rare_is (F.set k (nth F k + d))
  have p2 := pos_set hk h0 hf
  have c1 := lengths_choice r1 hL (by rw [pos_perm_length r1]; exact hp)
  have c2 := lengths_choice r2 hL (by rw [pos_perm_length r2, p2]; exact hp)
  have b1 := lengths_best r1 hL (by rw [pos_perm_length r1]; exact hp) ((choice_set hk h0 hf).1 c2)
  have b2 := lengths_best r2 hL (by rw [pos_perm_length r2, p2]; exact hp) ((choice_set hk h0 hf).2 c1)
  rw [cost_set F _ k d hk] at b2
  rw [cost_set F _ k d hk] at b2 ⊢
  omega

theorem nat_of {k : IntKind} {M z : Int} (hm : k.min = 0) (hM : k.max = M) (h : (Lit.int k z).wf = true) : ∃ y : Nat, z = (y : Int) ∧ (y : Int) ≤ M := by
  simp only [Lit.wf, Bool.and_eq_true, decide_eq_true_eq] at h
  rw [hm, hM] at h
  exact ⟨z.toNat, by omega, by omega⟩

set_option maxRecDepth 100000 in
set_option maxHeartbeats 8000000 in
theorem walk (w : World) (v : Value) (xs : List Int) (h : IntRow w v xs) (m : Int) (hm : (Lit.int .i64 m).wf = true) (na : Int) (hna : (Lit.int .u16 na).wf = true) (nb : Int) (hnb : (Lit.int .u32 nb).wf = true) :
    Calls Try.prog 7 #[v, .int .i64 m, .int .u16 na, .int .u32 nb] w fun e w' => e = .returned (.bool true) ∧ Below w.heap.size w w' := by
  obtain ⟨at_, rfl, hat_⟩ := nat_of (M := 65535) rfl rfl hna
  obtain ⟨by_, rfl, hby_⟩ := nat_of (M := 4294967295) rfl rfl hnb
  clear hna hnb
  have HH := Lib.hid h
  have hp0 := picks_st (St.start w)
  obtain ⟨a, cap, rfl, hc, hnn, -⟩ := h
  go_enter Try.func7, Try.ntmps7
  by_cases h2 : 100 < xs.length ∨ xs.length = 0
  · rcases h2 with h2 | h2
    · go_wp2_with (go_at_call 10; refine hp0.mono ?_; rintro e w1 ⟨rfl, s1⟩)
      go_ret
      exact ⟨rfl, s1.below (Nat.le_refl _)⟩
    · have d1 : ((xs.length : Int) == 0) = true := by rw [h2]; rfl
      have d2 : decide (100 < (xs.length : Int)) = false := by rw [h2]; rfl
      go_wp2_with (go_at_call 10; refine hp0.mono ?_; rintro e w1 ⟨rfl, s1⟩)
      go_ret
      exact ⟨rfl, s1.below (Nat.le_refl _)⟩
  · have h3 : xs.length ≤ 100 ∧ 0 < xs.length := by omega
    clear h2
    have d1 : ((xs.length : Int) == 0) = false := beq_eq_false_iff_ne.2 (by omega)
    have d2 : decide (100 < (xs.length : Int)) = false := by simp; omega
    have d3 : ¬ (xs.length : Int) = 0 := by omega
    go_wp2
    go_loopw [9] (fun i wr => ∃ k : Nat, k ≤ xs.length ∧ i = .int .i64 (k : Int) ∧ (∀ j (hj : j < xs.length), j < k → xs[j] ≤ 549755813888) ∧ wr = w) (fun i _ => xs.length - (intOf i).toNat)
    case atStart => exact ⟨0, by omega, rfl, fun j _ hj => absurd hj (by omega), rfl⟩
    case round =>
      obtain ⟨k, hk, rfl, hall, hw⟩ := hrel
      have hw := hw.symm
      subst hw
      have HA := Lib.hid hall
      clear hall
      by_cases hlt : k < xs.length
      · obtain ⟨a', cap', e', _, _, hat⟩ := HH.out
        obtain ⟨rfl, -, rfl⟩ := Value.slice.inj e'
        obtain ⟨hx, b0, off, rfl, c0⟩ := hat k hlt
        have H2 : xs[k] ≤ 549755813888 → ∀ j (hj : j < xs.length), j < k + 1 → xs[j] ≤ 549755813888 := fun h j hj hjk => by
          by_cases e : j = k
          · subst e; exact h
          · exact HA.out j hj (by omega)
        have H2 := Lib.hid H2
        clear hat e'
        generalize xs[k] = x at *
        by_cases hx1 : 549755813888 < x
        · go_wp2_with (go_at_call 10; refine hp0.mono ?_; rintro e w1 ⟨rfl, s1⟩)
          go_ret
          exact ⟨rfl, s1.below (Nat.le_refl _)⟩
        · go_wp2
          go_roundw
          case rel => exact ⟨k + 1, by omega, by go_num, H2.out (by omega), trivial⟩
          case measure => simp [intOf]; omega
      · obtain rfl : k = xs.length := by omega
        have HXS := Lib.hid (show ∀ x ∈ xs, x ≤ 549755813888 from fun x hx => by
          obtain ⟨i, hi, rfl⟩ := List.getElem_of_mem hx
          exact HA.out i hi hi)
        clear HA hlt hk
        obtain ⟨q, hq⟩ : ∃ q, at_ % xs.length = q := ⟨_, rfl⟩
        have hql : q < xs.length := by rw [← hq]; exact Nat.mod_lt _ h3.2
        have hqi : (at_ : Int) % (xs.length : Int) = (q : Int) := by omega
        have hlen := lengths_st (St.start w) _ xs m HH.out
        have hef : errOf xs m = 0 → fitsB xs m = true ∧ (pos (xs.map Int.toNat)).length ≤ 2 ^ m.toNat := fun e => by
          unfold errOf at e
          rw [rare_len] at e
          cases hb : fitsB xs m with
          | false => rw [hb] at e; simp at e
          | true =>
            rw [hb, if_pos rfl] at e
            refine ⟨rfl, Nat.le_of_not_lt fun hlt => ?_⟩
            rw [if_pos hlt] at e
            omega
        have hla := fun e => lensAns_ok (xs := xs) (L := m) e
        have HE := Lib.hid hef
        have HL := Lib.hid hla
        clear hef hla hq
        unfold LengthsSt at hlen
        generalize lensAns xs m = l at *
        generalize errOf xs m = er at *
        by_cases her : er = 0
        · subst her
          obtain ⟨hb, hfew⟩ := HE.out rfl
          obtain ⟨⟨hL1, hL2⟩, -, hxs⟩ := (fitsB_iff xs m).1 hb
          obtain ⟨L, rfl⟩ : ∃ L : Nat, m = (L : Int) := ⟨m.toNat, by omega⟩
          have hl := HL.out rfl
          have eL : (Int.toNat (L : Int)) = L := by simp
          rw [eL] at hl hfew
          have hN := HH.out.nums (fun x hx => (hxs x hx).1)
          have hF2 := toNat_cast hxs
          have hFx : ∀ f ∈ xs.map Int.toNat, f ≤ 549755813888 := fun f hf => by
            obtain ⟨x, hx, rfl⟩ := List.mem_map.1 hf
            have := HXS.out x hx
            omega
          obtain ⟨F, hF⟩ : ∃ F, xs.map Int.toNat = F := ⟨_, rfl⟩
          have hFl : F.length = xs.length := by rw [← hF]; simp
          rw [hF] at hl hfew hN hF2 hFx
          clear hxs hb hF HL HE hm
          have hqF : q < F.length := by omega
          have hlr : l.length = xs.length := by rw [hl, lengths_length, hFl]
          rw [hlr] at hlen
          have hr := rare_is F
          have hlb := lengths_bytes F (rare F) L hr (by omega) hfew
          rw [← hl] at hlb
          have HLB := Lib.hid hlb
          have HFX := Lib.hid hFx
          have HF2 := Lib.hid hF2
          have HLR := Lib.hid hlr
          have HLL := Lib.hid hl
          have HN := Lib.hid hN
          have HFL := Lib.hid hFl
          have HQF := Lib.hid hqF
          have HFEW := Lib.hid hfew
          have hfq : nth F q = F[q] := nth_lt hqF
          have hfx : nth F q ≤ 549755813888 := by rw [hfq]; exact hFx _ (List.getElem_mem hqF)
          have HFLX := Lib.hid hFl
          clear hlb hFx hF2 hlr hl hN hr hfew hfq hFl hqF
          have hcell : ∀ W : World, Below w.heap.size w W → ∃ b0 off, a = some ⟨b0, off, none⟩ ∧ W.cell? ⟨b0, off + q, none⟩ = some (.int .i64 (nth F q : Int)) := fun W hW => by
            obtain ⟨a', cap', e', _, _, hat⟩ := HN.out.below hW (Nat.le_refl _)
            obtain ⟨b0, off, e0, c0⟩ := hat q HQF.out
            rw [← (Value.slice.inj e').1] at e0
            rw [nth_lt HQF.out]
            exact ⟨b0, off, e0, c0⟩
          have HG := Lib.hid (fun h0 => grows (F := F) (L := L) (k := q) (d := by_) (by omega) HQF.out h0 HFEW.out)
          have HP := Lib.hid (fun h0 => pos_set (F := F) (k := q) (f := nth F q + by_) HQF.out h0 (by omega))
          have HCELL := Lib.hid hcell
          clear hcell
          rw [← HLL.out] at HG
          obtain ⟨fq, hfq⟩ : ∃ f, nth F q = f := ⟨_, rfl⟩
          have HFQ := Lib.hid hfq
          rw [hfq] at HG HP HCELL hfx
          clear hfq
          by_cases h0 : fq = 0
          · subst h0
            go_wp2_with (first | (go_at_call 11; refine hlen.mono ?_; rintro e w1 ⟨u, rfl, s1⟩; obtain ⟨au, cu, rfl⟩ := ownsRow_slice s1.row; obtain ⟨b0, off, rfl, c0⟩ := HCELL.out w1 (s1.below (Nat.le_refl _)); have hp1 := picks_st s1) | (go_at_call 10; refine hp1.mono ?_; rintro e w2 ⟨rfl, s2⟩))
            go_ret
            exact ⟨rfl, s2.below (Nat.le_refl _)⟩
          · have d4 : ((fq : Int) == 0) = false := beq_eq_false_iff_ne.2 (by omega)
            have d5 : ¬ (fq : Int) = 0 := by omega
            go_wp2_with (first | (go_at_call 11; refine hlen.mono ?_; rintro e w1 ⟨u, rfl, s1⟩; obtain ⟨au, cu, rfl⟩ := ownsRow_slice s1.row; obtain ⟨b0, off, rfl, c0⟩ := HCELL.out w1 (s1.below (Nat.le_refl _)); have hN1 := HN.out.below (s1.below (Nat.le_refl _)) (Nat.le_refl _)) | (at_builtin; refine wpList_copyNums rfl _ _ rfl s1 hN1 rfl rfl (by have := HFL.out; omega) ?_))
            intro v2 w2 s2
            have hpos : 0 < fq := by omega
            obtain ⟨hg1, hg2⟩ := HG.out hpos
            have hpn := HP.out hpos
            rw [HFL.out] at s2
            obtain ⟨g, cap2, rfl, hcap2⟩ := s2.rowShape (by omega)
            have c2 : w2.cell? ⟨g, q, none⟩ = some (.int .i64 (fq : Int)) := by
              rw [s2.row.cellAt q (by omega), i64s_get _ _ HQF.out, ← nth_lt HQF.out, HFQ.out]
            have f2 := s2.row.frozenAt q
            have s3 := s2.stored q (.int .i64 ((fq + by_ : Nat) : Int))
            rw [← i64s_set, Int.natCast_add] at s3
            have hF'l : (F.set q (fq + by_)).length = xs.length := by rw [List.length_set, HFL.out]
            have hF'b : ∀ f ∈ F.set q (fq + by_), f ≤ 1099511627776 := fun f hf => by
              rcases List.mem_or_eq_of_mem_set hf with h | h
              · exact HF2.out f h
              · omega
            have hfew' : (pos (F.set q (fq + by_))).length ≤ 2 ^ L := by rw [hpn]; exact HFEW.out
            have hl' := lengths_length (F.set q (fq + by_)) (rare (F.set q (fq + by_))) L
            have hlb' := lengths_bytes _ _ L (rare_is (F.set q (fq + by_))) (by omega) hfew'
            generalize F.set q (fq + by_) = F' at *
            rw [hF'l] at hl'
            have hir : IntRow (w2.setCell ⟨g, q, none⟩ (.int .i64 ((fq : Int) + (by_ : Int)))) (.slice (some ⟨g, 0, none⟩) xs.length cap2) (F'.map fun x : Nat => (x : Int)) := by
              have := s3.row
              rw [← hF'l] at this
              have := (numRow_owns this).ints (fun x hx => by have := hF'b x hx; omega)
              rwa [hF'l] at this
            have hnr' : NumRow (w2.setCell ⟨g, q, none⟩ (.int .i64 ((fq : Int) + (by_ : Int)))) (.slice (some ⟨g, 0, none⟩) xs.length cap2) F' := by
              have := s3.row
              rw [← hF'l] at this
              have := numRow_owns this
              rwa [hF'l] at this
            have hlen2 := lengths_ok s3 _ _ L hir (fun x hx => by
              obtain ⟨f, hf, rfl⟩ := List.mem_map.1 hx
              have := hF'b f hf
              omega) (by rw [List.length_map]; omega) (by omega) (by rw [cast_back]; exact hfew')
            rw [cast_back, List.length_map, hF'l] at hlen2
            generalize lengths F' (rare F') L = l' at *
            have HNR := Lib.hid hnr'
            have HLB' := Lib.hid hlb'
            have HL' := Lib.hid hl'
            have HF'L := Lib.hid hF'l
            have HF'B := Lib.hid hF'b
            have HL2 := Lib.hid hlen2
            have HGG := Lib.hid (And.intro hg1 hg2)
            have b3 := Lib.hid (s3.below (Nat.le_refl _))
            clear hnr' hlb' hl' hF'l hF'b hlen2 hg1 hg2 hir hfew' hpn s3 s2 s1 hlen hp0 HG HP HCELL c0 hN1 HFQ
            go_wp2_with (go_at_call 11; refine HL2.out.mono ?_; rintro e w4 ⟨u4, rfl, s4⟩; obtain ⟨a4, c4, rfl⟩ := ownsRow_slice s4.row)
            have hr1 := byteRow_of s4.third.row HLR.out HLB.out
            have hr2 := byteRow_of s4.row HL'.out HLB'.out
            have hn1 := HN.out.below (s4.below (Nat.le_refl _)) (Nat.le_refl _)
            have hn2 := numRow_of s4.swap.row HF'L.out
            have dr : ∀ k, Below w4.heap.size w4 (w4.drewN k) := fun k => ⟨rfl, rfl, rfl, Nat.le_refl _, fun _ _ => rfl⟩
            have hs1 := Lib.hid (sum_any w4 _ _ F l hn1 hr1 (fun f hf => by have := HF2.out f hf; omega) (by rw [HLR.out, HFL.out]) (by have := HFL.out; omega))
            have hs2 := Lib.hid (fun k => sum_any (w4.drewN k) _ _ F' l' (hn2.below (dr k) (Nat.le_refl _)) (hr2.below (dr k) (Nat.le_refl _)) (fun f hf => by have := HF'B.out f hf; omega) (by rw [HL'.out, HF'L.out]) (by have := HF'L.out; omega))
            have hc1 : cost F l ≤ 56294995342131200 := by
              have h1 := cost_le F l (fun f hf => by have := HF2.out f hf; omega) HLB.out (by rw [HLR.out, HFL.out]) F.length (Nat.le_refl _)
              have h2 := HFL.out
              have h3 : cost F l ≤ F.length * 562949953421312 := h1
              omega
            obtain ⟨b1, o1, rfl, x1, y1⟩ := byteRow_cell hr1 q (by rw [HLR.out]; exact hql)
            obtain ⟨b2, o2, rfl, x2, y2⟩ := byteRow_cell hr2 q (by rw [HL'.out]; exact hql)
            obtain ⟨hg1, hg2⟩ := HGG.out
            clear hr1 hr2 hn1 hn2 dr
            generalize cost F l = A at *
            generalize cost F' l' = A' at *
            generalize nth l q = lk at *
            generalize nth l' q = mk at *
            have m1 : (by_ : Int) * (lk : Int) = ((by_ * lk : Nat) : Int) := by simp
            have m2 : (by_ : Int) * (mk : Int) = ((by_ * mk : Nat) : Int) := by simp
            have n1 : by_ * lk ≤ 1099511627776 := by
              have := Nat.mul_le_mul (show by_ ≤ 4294967296 by omega) (show lk ≤ 256 by omega)
              omega
            have n2 : by_ * mk ≤ 1099511627776 := by
              have := Nat.mul_le_mul (show by_ ≤ 4294967296 by omega) (show mk ≤ 256 by omega)
              omega
            generalize by_ * lk = p1 at *
            generalize by_ * mk = p2 at *
            have HPK := Lib.hid (fun k => picks_st (s4.drewN k))
            clear s4 HL2 HNR b3
            refine hs1.out.mono ?_
            rintro e w5 ⟨rfl, k1, rfl⟩
            go_wp2_with fail
            refine (hs2.out k1).mono ?_
            rintro e w5 ⟨rfl, k2, rfl⟩
            have e2 : (w4.drewN k1).drewN k2 = w4.drewN (k1 + k2) := by simp [World.drewN, Nat.add_assoc]
            rw [e2]
            have x1' : (w4.drewN (k1 + k2)).cell? ⟨b1, o1 + q, none⟩ = some (.int .u8 (lk : Int)) := x1
            have x2' : (w4.drewN (k1 + k2)).cell? ⟨b2, o2 + q, none⟩ = some (.int .u8 (mk : Int)) := x2
            have hpk := Lib.hid (HPK.out (k1 + k2))
            clear x1 x2 e2 hs1 hs2 HPK
            generalize w4.drewN (k1 + k2) = w6 at *
            go_wp2_with (go_at_call 10; refine hpk.out.mono ?_; rintro e w7 ⟨rfl, s7⟩)
            go_ret
            exact ⟨rfl, s7.below (Nat.le_refl _)⟩
        · have d1 : ((er : Int) == 0) = false := by simp; omega
          have d2 : ((er : Int) != 0) = true := by simp; omega
          go_wp2_with (first | (go_at_call 11; refine hlen.mono ?_; rintro e w1 ⟨u, rfl, s1⟩; have hp1 := picks_st s1) | (go_at_call 10; refine hp1.mono ?_; rintro e w2 ⟨rfl, s2⟩))
          go_ret
          exact ⟨rfl, s2.below (Nat.le_refl _)⟩

end Go.Proofs.Ytckifkfjongidaa.limitGrows
