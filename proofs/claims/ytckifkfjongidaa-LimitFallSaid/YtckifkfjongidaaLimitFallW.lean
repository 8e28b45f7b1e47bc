/-
  The more frequent symbol has no longer length; a symbol of frequency 0 that is put in changes no cost: the walk of LimitFall. No conditions.
-/
import Derived.Test.YtckifkfjongidaaLimN
import Derived.Test.YtckifkfjongidaaIntsA
namespace Go.Proofs.Ytckifkfjongidaa.limitFall
open Go.RowKit Go.Proofs.Ytckifkfjongidaa.Limit

/-- A 0 put in. -/
def put0 (F : List Nat) (k : Nat) : List Nat := F.take k ++ 0 :: F.drop k

theorem put0_length {F : List Nat} {k : Nat} (hk : k ≤ F.length) : (put0 F k).length = F.length + 1 := by
  unfold put0; rw [List.length_append, List.length_cons, List.length_take, List.length_drop]; omega

theorem put0_at {F : List Nat} {k : Nat} (hk : k ≤ F.length) : nth (put0 F k) k = 0 := by
  have h2 : (put0 F k)[k]? = some 0 := by
    unfold put0
    rw [List.getElem?_append_right (by rw [List.length_take]; omega), List.length_take, Nat.min_eq_left hk]
    simp
  obtain ⟨h3, h4⟩ := List.getElem?_eq_some_iff.1 h2
  rw [nth_lt h3, h4]

theorem put0_pos (F : List Nat) (k : Nat) : pos (put0 F k) = pos F := by
  unfold pos put0
  rw [List.filter_append, List.filter_cons_of_neg (by simp), ← List.filter_append, List.take_append_drop]

theorem put0_mem {F : List Nat} {k x : Nat} (h : x ∈ put0 F k) : x = 0 ∨ x ∈ F := by
  unfold put0 at h
  rcases List.mem_append.1 h with h | h
  · exact .inr (List.mem_of_mem_take h)
  · rcases List.mem_cons.1 h with h | h
    · exact .inl h
    · exact .inr (List.mem_of_mem_drop h)

theorem put0_cost (F : List Nat) (k L : Nat) : cost (put0 F k) (lengths (put0 F k) (rare (put0 F k)) L) = cost F (lengths F (rare F) L) :=
  (cost_one (rare_is F) (rare_is _) (by rw [put0_pos]) L).symm

theorem put0_len {F : List Nat} {k : Nat} (hk : k ≤ F.length) (L : Nat) : nth (lengths (put0 F k) (rare (put0 F k)) L) k = 0 :=
  lengths_zero (rare_is _) L k (by rw [put0_length hk]; omega) (put0_at hk)

theorem byteRow_of {w : World} {base n c : Nat} {a : Option Addr} {l : List Nat} (h : w.ownsRow base 5 1 (.slice a n c) n (u8s l)) (hl : l.length = n) (hb : ∀ x ∈ l, x < 256) : ByteRow w (.slice a n c) l := by
  subst hl; exact byteRow_owns h hb

theorem numRow_any {w : World} {base n : Nat} {e : TypeId} {v : Value} {l : List Nat} (h : w.ownsRow base e 1 v n (i64s l)) (hl : l.length = n) : NumRow w v l := by
  obtain ⟨a, c, rfl⟩ := ownsRow_slice h
  subst hl
  exact numRow_owns h

theorem byteRow_cell {w : World} {n c : Nat} {a : Option Addr} {l : List Nat} (h : ByteRow w (.slice a n c) l) (q : Nat) (hq : q < l.length) : ∃ b off, a = some ⟨b, off, none⟩ ∧ w.cell? ⟨b, off + q, none⟩ = some (.int .u8 (nth l q : Int)) ∧ nth l q < 256 := by
  obtain ⟨a', cap', e', _, _, hat⟩ := h
  obtain ⟨hb, b0, off, e0, c0⟩ := hat q hq
  rw [← (Value.slice.inj e').1] at e0
  rw [nth_lt hq]
  exact ⟨b0, off, e0, c0, hb⟩

theorem numRow_cell {w : World} {n c : Nat} {a : Option Addr} {l : List Nat} (h : NumRow w (.slice a n c) l) (q : Nat) (hq : q < l.length) : ∃ b off, a = some ⟨b, off, none⟩ ∧ w.cell? ⟨b, off + q, none⟩ = some (.int .i64 (nth l q : Int)) := by
  obtain ⟨a', cap', e', _, _, hat⟩ := h
  obtain ⟨b0, off, e0, c0⟩ := hat q hq
  rw [← (Value.slice.inj e').1] at e0
  rw [nth_lt hq]
  exact ⟨b0, off, e0, c0⟩

theorem numRow_take {w : World} {n cap q : Nat} {a : Option Addr} {F : List Nat} (h : NumRow w (.slice a n cap) F) (hq : q ≤ n) : NumRow w (sliced a 0 q cap 1) (F.take q) := by
  obtain ⟨a', cap', e, h2, h3, h4⟩ := h
  obtain ⟨rfl, hn, rfl⟩ := Value.slice.inj e
  have hl : (F.take q).length = q := by rw [List.length_take]; omega
  have hadd : (if cap = 0 then a else a.map (·.add (0 * 1))) = a := by
    split
    · rfl
    · cases a with
      | none => rfl
      | some x => simp [Addr.add]
  refine ⟨a, cap, by unfold sliced; rw [hadd, hl]; rfl, by omega, h3, fun i hi => ?_⟩
  rw [List.getElem_take]
  exact h4 i (by omega)

theorem numRow_drop {w : World} {n cap q : Nat} {a : Option Addr} {F : List Nat} (h : NumRow w (.slice a n cap) F) (hq : q ≤ n) : NumRow w (sliced a q n cap 1) (F.drop q) := by
  obtain ⟨a', cap', e, h2, h3, h4⟩ := h
  obtain ⟨rfl, hn, rfl⟩ := Value.slice.inj e
  have hl : (F.drop q).length = n - q := by rw [List.length_drop]; omega
  by_cases hc : cap = q
  · subst hc
    refine ⟨a, 0, by unfold sliced; rw [if_pos rfl, hl, Nat.sub_self], by omega, fun _ => rfl, fun i hi => ?_⟩
    rw [hl] at hi
    omega
  · refine ⟨a.map (·.add (q * 1)), cap - q, by unfold sliced; rw [if_neg hc, hl], by omega, fun e => ?_, fun i hi => ?_⟩
    · cases a with
      | none => have := h3 rfl; omega
      | some x => cases e
    · rw [List.getElem_drop]
      rw [hl] at hi
      obtain ⟨b, off, e0, c0⟩ := h4 (q + i) (by omega)
      refine ⟨b, off + q, by rw [e0]; simp [Addr.add], ?_⟩
      rw [Nat.add_assoc]
      exact c0

theorem ownsRow_litNums (w : World) (xs : List Nat) (h : xs.length ≤ maxLen) : (w.alloc (.cells (i64s xs).toArray 3)).ownsRow w.heap.size 3 1 (.slice (some ⟨w.heap.size, 0, none⟩) xs.length xs.length) xs.length (i64s xs) :=
  ⟨by rw [i64s_length]; omega, .inr ⟨w.heap.size, xs.length, (i64s xs).toArray, rfl, Nat.le_refl _, heap_alloc_new w _, Nat.le_refl _, h, by rw [List.size_toArray, i64s_length]; omega, by
    rw [Nat.mul_one, List.take_of_length_le]
    rw [i64s_length]
    exact Nat.le_refl _⟩⟩

theorem St.litNums {B : Nat} {w0 w : World} {r : List Thing} (st : St B w0 w r) (xs : List Nat) (h : xs.length ≤ maxLen) : St B w0 (w.alloc (.cells (i64s xs).toArray 3)) (rowT 3 1 (.slice (some ⟨w.heap.size, 0, none⟩) xs.length xs.length) xs.length (i64s xs) :: r) :=
  st.addRow (below_alloc w _) (ownsRow_litNums w xs h)

theorem sizeUp (w : World) (o : Obj) : (w.alloc o).heap.size = w.heap.size + 1 := by simp

theorem St.litNumsAt {B : Nat} {w0 w : World} {r : List Thing} (st : St B w0 w r) (xs : List Nat) (h : xs.length ≤ maxLen) (g : Nat) (hg : w.heap.size = g) : St B w0 (w.alloc (.cells (i64s xs).toArray 3)) (rowT 3 1 (.slice (some ⟨g, 0, none⟩) xs.length xs.length) xs.length (i64s xs) :: r) := by
  subst hg; exact Go.Proofs.Ytckifkfjongidaa.limitFall.St.litNums st xs h

theorem made0 {B : Nat} {w0 w : World} {r : List Thing} (st : St B w0 w r) : St B w0 (w.alloc (.cells #[] 3)) (rowT 3 1 (.slice (some ⟨w.heap.size, 0, none⟩) 0 0) 0 [] :: r) :=
  st.addRow (below_alloc w _) (World.ownsRow_made w #[] 0 (Nat.le_refl _) (by unfold maxLen; omega) rfl)

theorem made0At {B : Nat} {w0 w : World} {r : List Thing} (st : St B w0 w r) (g : Nat) (hg : w.heap.size = g) : St B w0 (w.alloc (.cells #[] 3)) (rowT 3 1 (.slice (some ⟨g, 0, none⟩) 0 0) 0 [] :: r) := by
  subst hg; exact made0 st

theorem three {B : Nat} {w0 w : World} {r : List Thing} {Z : Thing} {v : Value} {F : List Nat} {q n1 : Nat} (hq : q ≤ F.length) (h1 : F.length + 1 = n1)
    (s : St B w0 w (rowT 3 1 v (0 + (F.take q).length + [0].length + (F.drop q).length) ([] ++ i64s (F.take q) ++ i64s [0] ++ i64s (F.drop q)) :: Z :: r)) : St B w0 w (rowT 3 1 v n1 (i64s (put0 F q)) :: r) := by
  have e1 : 0 + (F.take q).length + [0].length + (F.drop q).length = n1 := by
    rw [List.length_take, List.length_drop]
    simp only [List.length_cons, List.length_nil]
    omega
  have e2 : [] ++ i64s (F.take q) ++ i64s [0] ++ i64s (F.drop q) = i64s (put0 F q) := by
    unfold put0
    rw [List.nil_append, List.append_assoc, ← i64s_append, ← i64s_append]
    rfl
  rw [e1, e2] at s
  exact s.swap.drop

theorem cast_back (F : List Nat) : (F.map fun x : Nat => (x : Int)).map Int.toNat = F := by
  rw [List.map_map]
  conv => rhs; rw [← List.map_id F]
  exact List.map_congr_left fun x _ => by simp

theorem nat_of16 {z : Int} (h : (Lit.int .u16 z).wf = true) : ∃ y : Nat, z = (y : Int) ∧ y < 65536 := by
  simp only [Lit.wf, Bool.and_eq_true, decide_eq_true_eq] at h
  have h1 : IntKind.u16.min = 0 := rfl
  have h2 : IntKind.u16.max = 65535 := rfl
  rw [h1, h2] at h
  exact ⟨z.toNat, by omega, by omega⟩

theorem drew_below (w : World) (n : Nat) : Below w.heap.size w (w.drewN n) := ⟨rfl, rfl, rfl, Nat.le_refl _, fun _ _ => rfl⟩

/-- What an error that is none tells. -/
theorem err_ok {xs : List Int} {m : Int} (e : errOf xs m = 0) : (1 ≤ m ∧ m ≤ 17) ∧ xs.length ≤ 512 ∧ (∀ x ∈ xs, 0 ≤ x ∧ x ≤ 1099511627776) ∧ (pos (xs.map Int.toNat)).length ≤ 2 ^ m.toNat := by
  unfold errOf at e
  rw [rare_len] at e
  cases hb : fitsB xs m with
  | false => rw [hb] at e; simp at e
  | true =>
    obtain ⟨h1, h2, h3⟩ := (fitsB_iff xs m).1 hb
    rw [hb, if_pos rfl] at e
    refine ⟨h1, h2, h3, Nat.le_of_not_lt fun hlt => ?_⟩
    rw [if_pos hlt] at e
    omega

set_option maxRecDepth 100000 in
set_option maxHeartbeats 8000000 in
theorem walk (w : World) (v : Value) (xs : List Int) (h : IntRow w v xs) (m : Int) (hm : (Lit.int .i64 m).wf = true) (na : Int) (hna : (Lit.int .u16 na).wf = true) :
    Calls Try.prog 6 #[v, .int .i64 m, .int .u16 na] w fun e w' => e = .returned (.bool true) ∧ Below w.heap.size w w' := by
  obtain ⟨at_, rfl, hat_⟩ := nat_of16 hna
  clear hna
  have HH := Lib.hid h
  have hlen := lengths_st (St.start w) _ xs m h
  obtain ⟨a, cap, rfl, hc, hnn, -⟩ := h
  have hno : errOf xs m ≠ 0 → lensAns xs m = [] := fun e => by unfold lensAns; rw [if_neg e]
  have hok : errOf xs m = 0 → _ := fun e => err_ok e
  have hla := fun e => lensAns_ok (xs := xs) (L := m) e
  have HNO := Lib.hid hno
  have HOK := Lib.hid hok
  have HLA := Lib.hid hla
  clear hno hok hla
  unfold LengthsSt at hlen
  generalize lensAns xs m = l at *
  generalize errOf xs m = er at *
  go_enter Try.func6, Try.ntmps6
  by_cases her : er = 0
  · subst her
    by_cases h100 : 100 < xs.length
    · have d0 : decide (100 < (xs.length : Int)) = true := by simp; omega
      go_wp2_with (first | (go_at_call 11; refine hlen.mono ?_; rintro e w1 ⟨u, rfl, s1⟩; obtain ⟨au, cu, rfl⟩ := ownsRow_slice s1.row; have hpk := picks_st s1) | (go_at_call 10; refine hpk.mono ?_; rintro e w2 ⟨rfl, s2⟩))
      go_ret
      exact ⟨rfl, s2.below (Nat.le_refl _)⟩
    · have d0 : decide (100 < (xs.length : Int)) = false := by simp; omega
      obtain ⟨⟨hL1, hL2⟩, -, hxs, hfew⟩ := HOK.out rfl
      obtain ⟨L, rfl⟩ : ∃ L : Nat, m = (L : Int) := ⟨m.toNat, by omega⟩
      have hl := HLA.out rfl
      have eL : (Int.toNat (L : Int)) = L := by simp
      rw [eL] at hl hfew
      have hN := HH.out.nums (fun x hx => (hxs x hx).1)
      have hF2 := toNat_cast hxs
      obtain ⟨F, hF⟩ : ∃ F, xs.map Int.toNat = F := ⟨_, rfl⟩
      obtain ⟨n, hn⟩ : ∃ n, xs.length = n := ⟨_, rfl⟩
      have hFl : F.length = n := by rw [← hF, ← hn]; simp
      rw [hF] at hl hfew hN hF2
      clear hxs hF hm HH HNO HOK HLA eL
      rw [hn] at hc d0 h100 hlen hN ⊢
      clear hn
      have hlr : l.length = n := by rw [hl, lengths_length, hFl]
      rw [hlr] at hlen
      have hr := rare_is F
      have hlb := lengths_bytes F (rare F) L hr (by omega) hfew
      have hfall : ∀ i k, i < n → k < n → 0 < nth F k → nth F k < nth F i → nth l i ≤ nth l k := fun i k hi hk h0 hlt => by
        rw [hl]; exact lengths_fall hr L (by omega) (by omega) h0 hlt
      rw [← hl] at hlb
      have HLB := Lib.hid hlb
      have HF2 := Lib.hid hF2
      have HLR := Lib.hid hlr
      have HLL := Lib.hid hl
      have HN := Lib.hid hN
      have HFL := Lib.hid hFl
      have HFEW := Lib.hid hfew
      have HFALL := Lib.hid hfall
      have HLEN := Lib.hid hlen
      clear hlb hF2 hlr hl hN hr hfew hFl hfall hlen
      go_wp2_with (go_at_call 11; refine HLEN.out.mono ?_; rintro e w1 ⟨u, rfl, s1⟩; obtain ⟨au, cu, rfl⟩ := ownsRow_slice s1.row)
      have HS1 := Lib.hid s1
      have b1 := s1.below (Nat.le_refl _)
      have hr1 := byteRow_of s1.row HLR.out HLB.out
      have hn1 := HN.out.below b1 (Nat.le_refl _)
      have HR1 := Lib.hid hr1
      have HN1 := Lib.hid hn1
      clear b1 hr1 hn1 s1 HLEN
      go_loopw [9, 10] (fun i _ wr => ∃ k c : Nat, k ≤ n ∧ i = .int .i64 (k : Int) ∧ wr = w1.drewN c) (fun i _ _ => n - (intOf i).toNat)
      case atStart => exact ⟨0, 0, by omega, rfl, rfl⟩
      case round =>
        obtain ⟨i, c, hi, rfl, rfl⟩ := hrel
        obtain ⟨wo, hwo⟩ : ∃ wo, w1.drewN c = wo := ⟨_, rfl⟩
        rw [hwo]
        have HWO := Lib.hid hwo
        clear hwo
        by_cases hin : i < n
        · go_wp2
          go_loopw [10] (fun i wr => ∃ k c : Nat, k ≤ n ∧ i = .int .i64 (k : Int) ∧ wr = w1.drewN c) (fun j _ => n - (intOf j).toNat)
          case atStart => exact ⟨0, c, by omega, rfl, HWO.out.symm⟩
          case round =>
            obtain ⟨k, c2, hk, rfl, rfl⟩ := hrel
            by_cases hki : k < i
            · obtain ⟨b0, o0, rfl, x0⟩ := numRow_cell HN1.out i (by rw [HFL.out]; exact hin)
              obtain ⟨b0', o0', e1, x1⟩ := numRow_cell HN1.out k (by rw [HFL.out]; omega)
              obtain ⟨rfl, rfl⟩ : b0 = b0' ∧ o0 = o0' := by simpa using e1
              obtain ⟨b2, o2, rfl, y0, -⟩ := byteRow_cell HR1.out i (by rw [HLR.out]; exact hin)
              obtain ⟨b2', o2', e2, y1, -⟩ := byteRow_cell HR1.out k (by rw [HLR.out]; omega)
              obtain ⟨rfl, rfl⟩ : b2 = b2' ∧ o2 = o2' := by simpa using e2
              have hf1 := HFALL.out i k hin (by omega)
              have hf2 := HFALL.out k i (by omega) hin
              have x0' : (w1.drewN c2).cell? ⟨b0, o0 + i, none⟩ = some (.int .i64 (nth F i : Int)) := x0
              have x1' : (w1.drewN c2).cell? ⟨b0, o0 + k, none⟩ = some (.int .i64 (nth F k : Int)) := x1
              have y0' : (w1.drewN c2).cell? ⟨b2, o2 + i, none⟩ = some (.int .u8 (nth l i : Int)) := y0
              have y1' : (w1.drewN c2).cell? ⟨b2, o2 + k, none⟩ = some (.int .u8 (nth l k : Int)) := y1
              clear e1 e2 x0 x1 y0 y1
              generalize nth F i = fi at hf1 hf2 x0' x1'
              generalize nth F k = fk at hf1 hf2 x0' x1'
              generalize nth l i = li at hf1 hf2 y0' y1'
              generalize nth l k = lk at hf1 hf2 y0' y1'
              obtain ⟨wq, hwq⟩ : ∃ wq, w1.drewN c2 = wq := ⟨_, rfl⟩
              rw [hwq] at x0' x1' y0' y1' ⊢
              have HQ := Lib.hid hwq
              clear hwq
              have hfin : fi = 0 ∨ (0 < fi ∧ fk = 0) ∨ (0 < fi ∧ 0 < fk ∧ fk < fi) ∨ (0 < fi ∧ 0 < fk ∧ fi < fk) ∨ (0 < fi ∧ fk = fi) := by omega
              rcases hfin with rfl | ⟨h0, rfl⟩ | ⟨h0, h1, h2⟩ | ⟨h0, h1, h2⟩ | ⟨h0, rfl⟩
              · go_wp2
                go_quiet (fail)
                go_wp2
                go_roundw
                case rel => exact ⟨k + 1, c2 + nq, by omega, by go_num, by rw [← HQ.out]; simp [World.drewN, Nat.add_assoc]⟩
                case measure => simp [intOf]; omega
              · have t1 : decide (0 < (fi : Int)) = true := by simp; omega
                have t2 : decide (0 < fi) = true := by simp; omega
                go_wp2
                go_quiet (fail)
                go_wp2
                go_roundw
                case rel => exact ⟨k + 1, c2 + nq, by omega, by go_num, by rw [← HQ.out]; simp [World.drewN, Nat.add_assoc]⟩
                case measure => simp [intOf]; omega
              · have h5 := hf1 h1 h2
                clear hf1 hf2
                have t1 : decide (0 < (fi : Int)) = true := by simp; omega
                have t2 : decide (0 < fi) = true := by simp; omega
                have t3 : decide (0 < (fk : Int)) = true := by simp; omega
                have t4 : decide (0 < fk) = true := by simp; omega
                have t5 : decide ((fk : Int) < (fi : Int)) = true := by simp; omega
                have t6 : decide (fk < fi) = true := by simp; omega
                have t7 : decide ((fi : Int) < (fk : Int)) = false := by simp; omega
                have t8 : decide (fi < fk) = false := by simp; omega
                have t9 : decide ((lk : Int) < (li : Int)) = false := by simp; omega
                have t10 : decide (lk < li) = false := by simp; omega
                go_wp2
                go_quiet (fail)
                go_wp2
                go_roundw
                case rel => exact ⟨k + 1, c2 + nq, by omega, by go_num, by rw [← HQ.out]; simp [World.drewN, Nat.add_assoc]⟩
                case measure => simp [intOf]; omega
              · have h5 := hf2 h0 h2
                clear hf1 hf2
                have t1 : decide (0 < (fi : Int)) = true := by simp; omega
                have t2 : decide (0 < fi) = true := by simp; omega
                have t3 : decide (0 < (fk : Int)) = true := by simp; omega
                have t4 : decide (0 < fk) = true := by simp; omega
                have t5 : decide ((fk : Int) < (fi : Int)) = false := by simp; omega
                have t6 : decide (fk < fi) = false := by simp; omega
                have t7 : decide ((fi : Int) < (fk : Int)) = true := by simp; omega
                have t8 : decide (fi < fk) = true := by simp; omega
                have t9 : decide ((li : Int) < (lk : Int)) = false := by simp; omega
                have t10 : decide (li < lk) = false := by simp; omega
                go_wp2
                go_quiet (fail)
                go_wp2
                go_roundw
                case rel => exact ⟨k + 1, c2 + nq, by omega, by go_num, by rw [← HQ.out]; simp [World.drewN, Nat.add_assoc]⟩
                case measure => simp [intOf]; omega
              · clear hf1 hf2
                have t1 : decide (0 < (fk : Int)) = true := by simp; omega
                have t2 : decide (0 < fk) = true := by simp; omega
                have t3 : decide ((fk : Int) < (fk : Int)) = false := by simp
                have t4 : decide (fk < fk) = false := by simp
                go_wp2
                go_quiet (fail)
                go_wp2
                go_roundw
                case rel => exact ⟨k + 1, c2 + nq, by omega, by go_num, by rw [← HQ.out]; simp [World.drewN, Nat.add_assoc]⟩
                case measure => simp [intOf]; omega
            · obtain ⟨wq, hwq⟩ : ∃ wq, w1.drewN c2 = wq := ⟨_, rfl⟩
              rw [hwq]
              have HQ := Lib.hid hwq
              clear hwq
              go_wp2
              refine ⟨⟨i + 1, c2, by omega, by go_num, HQ.out.symm⟩, by simp [intOf]; omega⟩
        · obtain rfl : i = n := by omega
          clear hi hin
          obtain ⟨n1, hn1⟩ : ∃ n1, i + 1 = n1 := ⟨_, rfl⟩
          have hn1i : (i : Int) + 1 = (n1 : Int) := by omega
          obtain ⟨q, hq⟩ : ∃ q, at_ % n1 = q := ⟨_, rfl⟩
          have hqi : (at_ : Int) % (n1 : Int) = (q : Int) := by omega
          have hqn : q ≤ i := by
            have := Nat.mod_lt at_ (show 0 < n1 by omega)
            omega
          have HN1E := Lib.hid hn1
          clear hq hn1
          go_wp2
          have hu1' := numRow_take HN.out hqn
          have hu2' := numRow_drop HN.out hqn
          obtain ⟨u1, hu1⟩ : ∃ u1, sliced a 0 q cap 1 = u1 := ⟨_, rfl⟩
          obtain ⟨u2, hu2⟩ : ∃ u2, sliced a q i cap 1 = u2 := ⟨_, rfl⟩
          rw [hu1] at hu1'
          rw [hu2] at hu2'
          have HU1 := Lib.hid hu1'
          have HU2 := Lib.hid hu2'
          have sd : St w.heap.size w wo.drew [rowT 5 1 (.slice au i cu) i (u8s l)] := by
            have := (HS1.out.drewN c).drew
            rwa [HWO.out] at this
          clear hu1' hu2' HN1 HR1 HWO HS1 HFALL
          refine region_seg (by kernel_rfl) [1, 2, 7, 8] 8 rfl (by kernel_rfl) (by kernel_rfl) (fun _ _ d _ _ h => by cases d <;> exact h) ?_
          generalize wo.drew = wd at *
          intro K hK
          simp only [pickL, List.getElem?_cons_zero, List.getElem?_cons_succ]
          go_wp2_with fail
          refine wpAny_take (i := 3) (v := u1) rfl (by kernel_rfl) (by kernel_rfl) (by kernel_rfl) (fun _ _ _ h => h) (.inl ⟨rfl, fun w => by rw [← hu1]; go_simp; try (intro hh; exfalso; omega)⟩) ?_
          refine wpAny_take (i := 9) (v := u2) rfl (by kernel_rfl) (by kernel_rfl) (by kernel_rfl) (fun _ _ _ h => h) (.inl ⟨rfl, fun w => by rw [← hu2]; go_simp; try (intro hh; exfalso; omega)⟩) ?_
          clear hu1 hu2
          refine mid_two 0 5 [] [] 5 _ _ (by kernel_rfl) rfl rfl rfl (by kernel_rfl) (by kernel_rfl) (by kernel_rfl) (by kernel_rfl) (fun _ _ d _ _ h => by cases d <;> exact h) ?_ ?_
          · intro K hK
            simp only [pickL, List.getElem?_cons_zero]
            go_wp2_with fail
            have sA := made0 sd
            refine mid_two 4 5 [5, 6, 10, 11] [4, 6, 10, 11] 0 _ _ (by kernel_rfl) rfl rfl rfl (by kernel_rfl) (by kernel_rfl) (by kernel_rfl) (by kernel_rfl) (fun _ _ d _ _ h => by cases d <;> exact h) ?_ ?_
            · intro K hK
              simp only [pickL, List.getElem?_cons_zero, List.getElem?_cons_succ]
              go_wp2_with (first | (at_builtin; refine wpList_append_nums rfl _ _ rfl sA (HU1.out.below (sA.below (Nat.le_refl _)) (Nat.le_refl _)) rfl rfl (by rw [List.length_take]; omega) ?_; intro v2 w2 sB _ _; have sC := (St.litNums sB [0] (by unfold maxLen; simp)).swap; clear sA) | (at_builtin; refine wpList_append_nums rfl _ _ rfl sC (numRow_any sC.swap.row rfl) rfl rfl (by rw [List.length_take]; simp only [List.length_cons, List.length_nil]; omega) ?_; intro v3 w3 sD _ _; clear sC sB) | (at_builtin; refine wpList_append_nums rfl _ _ rfl sD (HU2.out.below (sD.below (Nat.le_refl _)) (Nat.le_refl _)) rfl rfl (by have hf := HFL.out; rw [List.length_take, List.length_drop]; have hz : [0].length = 1 := rfl; omega) ?_; intro v4 w4 sE _ _; have s3 := three (n1 := n1) (by rw [HFL.out]; exact hqn) (by rw [HFL.out]; exact HN1E.out) sE; clear sE sD))
              refine wpAny_done (by kernel_rfl) ?_ 0
              clear HU1 HU2 sd
              obtain ⟨am, cm, rfl⟩ := ownsRow_slice s3.row
              have hml : (put0 F q).length = n1 := by rw [put0_length (by rw [HFL.out]; exact hqn), HFL.out]; exact HN1E.out
              have hnr := numRow_any s3.row hml
              have hmx : ∀ x ∈ put0 F q, x ≤ 1099511627776 := fun x hx => by
                rcases put0_mem hx with h | h
                · omega
                · exact HF2.out x h
              have hir := hnr.ints (fun x hx => by have := hmx x hx; omega)
              have hlen2 := lengths_ok s3 _ _ L hir (fun x hx => by
                obtain ⟨f, hf, rfl⟩ := List.mem_map.1 hx
                have := hmx f hf
                omega) (by rw [List.length_map, hml]; have := HN1E.out; omega) (by omega) (by rw [cast_back, put0_pos]; exact HFEW.out)
              rw [cast_back, List.length_map, hml] at hlen2
              have hz := put0_len (F := F) (k := q) (by rw [HFL.out]; exact hqn) L
              have hco := put0_cost F q L
              have hlb' := lengths_bytes (put0 F q) (rare (put0 F q)) L (rare_is _) (by omega) (by rw [put0_pos]; exact HFEW.out)
              have hl' := lengths_length (put0 F q) (rare (put0 F q)) L
              rw [hml] at hl'
              rw [← HLL.out] at hco
              generalize lengths (put0 F q) (rare (put0 F q)) L = l' at *
              generalize put0 F q = M at *
              have HML := Lib.hid hml
              have HMX := Lib.hid hmx
              have HL2 := Lib.hid hlen2
              have HZ := Lib.hid hz
              have HCO := Lib.hid hco
              have HLB' := Lib.hid hlb'
              have HL' := Lib.hid hl'
              have HQ1 := Lib.hid (show q < l'.length by rw [hl', ← HN1E.out]; omega)
              clear hml hmx hlen2 hz hco hlb' hl' hnr hir s3
              go_wp2_with (go_at_call 11; refine HL2.out.mono ?_; rintro e w5 ⟨u5, rfl, s5⟩; obtain ⟨a5, c5, rfl⟩ := ownsRow_slice s5.row; have hr2 := byteRow_of s5.row HL'.out HLB'.out; have hr1 := byteRow_of s5.third.row HLR.out HLB.out; have hn1' := HN.out.below (s5.below (Nat.le_refl _)) (Nat.le_refl _); have hn2 := numRow_any s5.swap.row HML.out; have hs2 := Lib.hid (sum_any w5 _ _ M l' hn2 hr2 (fun f hf => by have := HMX.out f hf; omega) (by rw [HL'.out, HML.out]) (by rw [HML.out, ← HN1E.out]; omega)); have hs1 := Lib.hid (fun k => sum_any (w5.drewN k) _ _ F l (hn1'.below (drew_below w5 k) (Nat.le_refl _)) (hr1.below (drew_below w5 k) (Nat.le_refl _)) (fun f hf => by have := HF2.out f hf; omega) (by rw [HLR.out, HFL.out]) (by rw [HFL.out]; omega)); have HPK := Lib.hid (fun k => picks_st (s5.drewN k)); obtain ⟨b2, o2, rfl, x2, -⟩ := byteRow_cell hr2 q HQ1.out; rw [HZ.out] at x2; rw [HCO.out] at hs2; have x3 : w5.cell? ⟨b2, o2 + q, none⟩ = some (.int .u8 0) := x2; clear x2 hr1 hr2 hn1' hn2 s5; generalize cost F l = A at hs1 hs2)
              refine hs2.out.mono ?_
              rintro e w6 ⟨rfl, k1, rfl⟩
              go_wp2_with fail
              refine (hs1.out k1).mono ?_
              rintro e w6 ⟨rfl, k2, rfl⟩
              have e2 : (w5.drewN k1).drewN k2 = w5.drewN (k1 + k2) := by simp [World.drewN, Nat.add_assoc]
              rw [e2]
              have hpk := Lib.hid (HPK.out (k1 + k2))
              clear e2 hs1 hs2 HPK x3
              generalize w5.drewN (k1 + k2) = w8 at *
              go_wp2_with (go_at_call 10; refine hpk.out.mono ?_; rintro e w7 ⟨rfl, s7⟩)
              go_ret
              exact ⟨rfl, s7.below (Nat.le_refl _)⟩
            · intro K hK
              simp only [pickL, List.getElem?_cons_zero, List.getElem?_cons_succ]
              have sC := (St.litNumsAt sA [0] (by unfold maxLen; simp) (wd.heap.size + 1) (sizeUp _ _)).swap
              go_wp2_with (first | (at_builtin; refine wpList_append_nums rfl _ _ rfl sC (HU1.out.below (sC.below (Nat.le_refl _)) (Nat.le_refl _)) rfl rfl (by rw [List.length_take]; omega) ?_; intro v2 w2 sB _ _; clear sA sC) | (at_builtin; refine wpList_append_nums rfl _ _ rfl sB (numRow_any sB.swap.row rfl) rfl rfl (by rw [List.length_take]; simp only [List.length_cons, List.length_nil]; omega) ?_; intro v3 w3 sD _ _; clear sB) | (at_builtin; refine wpList_append_nums rfl _ _ rfl sD (HU2.out.below (sD.below (Nat.le_refl _)) (Nat.le_refl _)) rfl rfl (by have hf := HFL.out; rw [List.length_take, List.length_drop]; have hz : [0].length = 1 := rfl; omega) ?_; intro v4 w4 sE _ _; have s3 := three (n1 := n1) (by rw [HFL.out]; exact hqn) (by rw [HFL.out]; exact HN1E.out) sE; clear sE sD))
              refine wpAny_done (by kernel_rfl) ?_ 0
              clear HU1 HU2 sd
              obtain ⟨am, cm, rfl⟩ := ownsRow_slice s3.row
              have hml : (put0 F q).length = n1 := by rw [put0_length (by rw [HFL.out]; exact hqn), HFL.out]; exact HN1E.out
              have hnr := numRow_any s3.row hml
              have hmx : ∀ x ∈ put0 F q, x ≤ 1099511627776 := fun x hx => by
                rcases put0_mem hx with h | h
                · omega
                · exact HF2.out x h
              have hir := hnr.ints (fun x hx => by have := hmx x hx; omega)
              have hlen2 := lengths_ok s3 _ _ L hir (fun x hx => by
                obtain ⟨f, hf, rfl⟩ := List.mem_map.1 hx
                have := hmx f hf
                omega) (by rw [List.length_map, hml]; have := HN1E.out; omega) (by omega) (by rw [cast_back, put0_pos]; exact HFEW.out)
              rw [cast_back, List.length_map, hml] at hlen2
              have hz := put0_len (F := F) (k := q) (by rw [HFL.out]; exact hqn) L
              have hco := put0_cost F q L
              have hlb' := lengths_bytes (put0 F q) (rare (put0 F q)) L (rare_is _) (by omega) (by rw [put0_pos]; exact HFEW.out)
              have hl' := lengths_length (put0 F q) (rare (put0 F q)) L
              rw [hml] at hl'
              rw [← HLL.out] at hco
              generalize lengths (put0 F q) (rare (put0 F q)) L = l' at *
              generalize put0 F q = M at *
              have HML := Lib.hid hml
              have HMX := Lib.hid hmx
              have HL2 := Lib.hid hlen2
              have HZ := Lib.hid hz
              have HCO := Lib.hid hco
              have HLB' := Lib.hid hlb'
              have HL' := Lib.hid hl'
              have HQ1 := Lib.hid (show q < l'.length by rw [hl', ← HN1E.out]; omega)
              clear hml hmx hlen2 hz hco hlb' hl' hnr hir s3
              go_wp2_with (go_at_call 11; refine HL2.out.mono ?_; rintro e w5 ⟨u5, rfl, s5⟩; obtain ⟨a5, c5, rfl⟩ := ownsRow_slice s5.row; have hr2 := byteRow_of s5.row HL'.out HLB'.out; have hr1 := byteRow_of s5.third.row HLR.out HLB.out; have hn1' := HN.out.below (s5.below (Nat.le_refl _)) (Nat.le_refl _); have hn2 := numRow_any s5.swap.row HML.out; have hs2 := Lib.hid (sum_any w5 _ _ M l' hn2 hr2 (fun f hf => by have := HMX.out f hf; omega) (by rw [HL'.out, HML.out]) (by rw [HML.out, ← HN1E.out]; omega)); have hs1 := Lib.hid (fun k => sum_any (w5.drewN k) _ _ F l (hn1'.below (drew_below w5 k) (Nat.le_refl _)) (hr1.below (drew_below w5 k) (Nat.le_refl _)) (fun f hf => by have := HF2.out f hf; omega) (by rw [HLR.out, HFL.out]) (by rw [HFL.out]; omega)); have HPK := Lib.hid (fun k => picks_st (s5.drewN k)); obtain ⟨b2, o2, rfl, x2, -⟩ := byteRow_cell hr2 q HQ1.out; rw [HZ.out] at x2; rw [HCO.out] at hs2; have x3 : w5.cell? ⟨b2, o2 + q, none⟩ = some (.int .u8 0) := x2; clear x2 hr1 hr2 hn1' hn2 s5; generalize cost F l = A at hs1 hs2)
              refine hs2.out.mono ?_
              rintro e w6 ⟨rfl, k1, rfl⟩
              go_wp2_with fail
              refine (hs1.out k1).mono ?_
              rintro e w6 ⟨rfl, k2, rfl⟩
              have e2 : (w5.drewN k1).drewN k2 = w5.drewN (k1 + k2) := by simp [World.drewN, Nat.add_assoc]
              rw [e2]
              have hpk := Lib.hid (HPK.out (k1 + k2))
              clear e2 hs1 hs2 HPK x3
              generalize w5.drewN (k1 + k2) = w8 at *
              go_wp2_with (go_at_call 10; refine hpk.out.mono ?_; rintro e w7 ⟨rfl, s7⟩)
              go_ret
              exact ⟨rfl, s7.below (Nat.le_refl _)⟩
          · intro K hK
            simp only [pickL, List.getElem?_cons_zero, List.getElem?_cons_succ]
            go_wp2_with fail
            have sZ := St.litNums sd [0] (by unfold maxLen; simp)
            have sC := made0At sZ (wd.heap.size + 1) (sizeUp _ _)
            refine mid_seg [0, 4, 6, 10, 11] 0 (by kernel_rfl) (by kernel_rfl) (fun _ _ d _ _ h => by cases d <;> exact h) ?_
            · intro K hK
              simp only [pickL, List.getElem?_cons_zero, List.getElem?_cons_succ]
              go_wp2_with (first | (at_builtin; refine wpList_append_nums rfl _ _ rfl sC (HU1.out.below (sC.below (Nat.le_refl _)) (Nat.le_refl _)) rfl rfl (by rw [List.length_take]; omega) ?_; intro v2 w2 sB _ _; clear sZ sC) | (at_builtin; refine wpList_append_nums rfl _ _ rfl sB (numRow_any sB.swap.row rfl) rfl rfl (by rw [List.length_take]; simp only [List.length_cons, List.length_nil]; omega) ?_; intro v3 w3 sD _ _; clear sB) | (at_builtin; refine wpList_append_nums rfl _ _ rfl sD (HU2.out.below (sD.below (Nat.le_refl _)) (Nat.le_refl _)) rfl rfl (by have hf := HFL.out; rw [List.length_take, List.length_drop]; have hz : [0].length = 1 := rfl; omega) ?_; intro v4 w4 sE _ _; have s3 := three (n1 := n1) (by rw [HFL.out]; exact hqn) (by rw [HFL.out]; exact HN1E.out) sE; clear sE sD))
              refine wpAny_done (by kernel_rfl) ?_ 0
              clear HU1 HU2 sd
              obtain ⟨am, cm, rfl⟩ := ownsRow_slice s3.row
              have hml : (put0 F q).length = n1 := by rw [put0_length (by rw [HFL.out]; exact hqn), HFL.out]; exact HN1E.out
              have hnr := numRow_any s3.row hml
              have hmx : ∀ x ∈ put0 F q, x ≤ 1099511627776 := fun x hx => by
                rcases put0_mem hx with h | h
                · omega
                · exact HF2.out x h
              have hir := hnr.ints (fun x hx => by have := hmx x hx; omega)
              have hlen2 := lengths_ok s3 _ _ L hir (fun x hx => by
                obtain ⟨f, hf, rfl⟩ := List.mem_map.1 hx
                have := hmx f hf
                omega) (by rw [List.length_map, hml]; have := HN1E.out; omega) (by omega) (by rw [cast_back, put0_pos]; exact HFEW.out)
              rw [cast_back, List.length_map, hml] at hlen2
              have hz := put0_len (F := F) (k := q) (by rw [HFL.out]; exact hqn) L
              have hco := put0_cost F q L
              have hlb' := lengths_bytes (put0 F q) (rare (put0 F q)) L (rare_is _) (by omega) (by rw [put0_pos]; exact HFEW.out)
              have hl' := lengths_length (put0 F q) (rare (put0 F q)) L
              rw [hml] at hl'
              rw [← HLL.out] at hco
              generalize lengths (put0 F q) (rare (put0 F q)) L = l' at *
              generalize put0 F q = M at *
              have HML := Lib.hid hml
              have HMX := Lib.hid hmx
              have HL2 := Lib.hid hlen2
              have HZ := Lib.hid hz
              have HCO := Lib.hid hco
              have HLB' := Lib.hid hlb'
              have HL' := Lib.hid hl'
              have HQ1 := Lib.hid (show q < l'.length by rw [hl', ← HN1E.out]; omega)
              clear hml hmx hlen2 hz hco hlb' hl' hnr hir s3
              go_wp2_with (go_at_call 11; refine HL2.out.mono ?_; rintro e w5 ⟨u5, rfl, s5⟩; obtain ⟨a5, c5, rfl⟩ := ownsRow_slice s5.row; have hr2 := byteRow_of s5.row HL'.out HLB'.out; have hr1 := byteRow_of s5.third.row HLR.out HLB.out; have hn1' := HN.out.below (s5.below (Nat.le_refl _)) (Nat.le_refl _); have hn2 := numRow_any s5.swap.row HML.out; have hs2 := Lib.hid (sum_any w5 _ _ M l' hn2 hr2 (fun f hf => by have := HMX.out f hf; omega) (by rw [HL'.out, HML.out]) (by rw [HML.out, ← HN1E.out]; omega)); have hs1 := Lib.hid (fun k => sum_any (w5.drewN k) _ _ F l (hn1'.below (drew_below w5 k) (Nat.le_refl _)) (hr1.below (drew_below w5 k) (Nat.le_refl _)) (fun f hf => by have := HF2.out f hf; omega) (by rw [HLR.out, HFL.out]) (by rw [HFL.out]; omega)); have HPK := Lib.hid (fun k => picks_st (s5.drewN k)); obtain ⟨b2, o2, rfl, x2, -⟩ := byteRow_cell hr2 q HQ1.out; rw [HZ.out] at x2; rw [HCO.out] at hs2; have x3 : w5.cell? ⟨b2, o2 + q, none⟩ = some (.int .u8 0) := x2; clear x2 hr1 hr2 hn1' hn2 s5; generalize cost F l = A at hs1 hs2)
              refine hs2.out.mono ?_
              rintro e w6 ⟨rfl, k1, rfl⟩
              go_wp2_with fail
              refine (hs1.out k1).mono ?_
              rintro e w6 ⟨rfl, k2, rfl⟩
              have e2 : (w5.drewN k1).drewN k2 = w5.drewN (k1 + k2) := by simp [World.drewN, Nat.add_assoc]
              rw [e2]
              have hpk := Lib.hid (HPK.out (k1 + k2))
              clear e2 hs1 hs2 HPK x3
              generalize w5.drewN (k1 + k2) = w8 at *
              go_wp2_with (go_at_call 10; refine hpk.out.mono ?_; rintro e w7 ⟨rfl, s7⟩)
              go_ret
              exact ⟨rfl, s7.below (Nat.le_refl _)⟩
  · have hl := HNO.out her
    subst hl
    have d1 : ((er : Int) == 0) = false := by simp; omega
    have d2 : ((er : Int) != 0) = true := by simp; omega
    have d3 : ¬ (er : Int) = 0 := by omega
    go_wp2_with (first | (go_at_call 11; refine hlen.mono ?_; rintro e w1 ⟨u, rfl, s1⟩; obtain ⟨au, cu, rfl⟩ := ownsRow_slice s1.row; have hpk := picks_st s1) | (go_at_call 10; refine hpk.mono ?_; rintro e w2 ⟨rfl, s2⟩))
    all_goals go_ret
    all_goals exact ⟨rfl, s2.below (Nat.le_refl _)⟩

end Go.Proofs.Ytckifkfjongidaa.limitFall
