/-
  What Ahead and Behind leave; the document's Ahead and Behind. No conditions but that rows are small.
-/
import Derived.Test.YtjchchinmggldaaNearP
import Derived.Test.YtjchchinmggldaaSufH
namespace Go.Proofs.Ytjchchinmggldaa.Near
open Go.RowKit Go.Proofs.Ytjchchinmggldaa.Suf

def behs (l : List Int) : List Int := (List.range l.length).map fun i => (beOf l i : Int)
theorem behs_length (l : List Int) : (behs l).length = l.length := by simp [behs]
theorem behs_at (l : List Int) (i : Nat) (h : i < l.length) : (behs l)[i]? = some (beOf l i : Int) := by simp [behs, h]

/-- What Ahead, Behind leave. -/
def AhSt (B : Nat) (w0 : World) (r : List Thing) (l : List Int) (en : Ending) (w' : World) : Prop := ∃ v, en = .returned v ∧ St B w0 w' (rowT 3 1 v l.length (iVals (aheads l)) :: r)
def BeSt (B : Nat) (w0 : World) (r : List Thing) (l : List Int) (en : Ending) (w' : World) : Prop := ∃ v, en = .returned v ∧ St B w0 w' (rowT 3 1 v l.length (iVals (behs l)) :: r)

theorem ah_small {l : List Int} {x : Int} (h : x ∈ aheads l) : -1 ≤ x ∧ x < l.length := by
  simp only [aheads, List.mem_map, List.mem_range] at h
  obtain ⟨i, hi, rfl⟩ := h
  have := ahOf_is l i
  unfold IsAh at this
  omega
theorem be_small {l : List Int} {x : Int} (h : x ∈ behs l) : 0 ≤ x ∧ x ≤ l.length := by
  simp only [behs, List.mem_map, List.mem_range] at h
  obtain ⟨i, hi, rfl⟩ := h
  have := beOf_is l i hi
  unfold IsBe at this
  omega

/-- A slice that reads as numbers, by the k-th. -/
theorem intNth {w : World} {v : Value} {l : List Int} (h : IntRow w v l) : ∃ a c, v = .slice a l.length c ∧ l.length ≤ c ∧ ∀ i, i < l.length → (-9223372036854775808 ≤ nthI l i ∧ nthI l i ≤ 9223372036854775807) ∧ ∃ b off, a = some ⟨b, off, none⟩ ∧ w.cell? ⟨b, off + i, none⟩ = some (.int .i64 (nthI l i)) := by
  obtain ⟨a, c, e, h1, _, hat⟩ := h
  exact ⟨a, c, e, h1, fun i hi => by rw [nthI_lt hi]; exact hat i hi⟩

theorem iVals_snoc (xs : List Int) (x : Int) : iVals (xs ++ [x]) = iVals xs ++ [.int .i64 x] := by simp [iVals]

/-- 'append(s, x)', s a slice of numbers of the call's own. -/
theorem wpList_append_int {ops : Array Oper} {rest : List Oper} {o : Oper} {a : Act} {Q : Exit → Act → World → Prop} (hg : o.guard = none) (s x : Operand)
    (ho : o.op = .call { callee := .builtin .append, args := #[s, x], argTypes := #[22, 22] })
    {B : Nat} {w0 w2 : World} {v : Value} {n : Nat} {xs : List Int} {r : List Thing} (y : Int) (st : St B w0 w2 (rowT 3 1 v n (iVals xs) :: r)) (hs : a.eval s = v) (hx : a.eval x = .slice (some ⟨w2.heap.size, 0, none⟩) 1 1) (hn : n ≤ 1000000)
    (K : ∀ v' w', St B w0 w' (rowT 3 1 v' (n + 1) (iVals (xs ++ [y])) :: r) → wpList Try.prog ops Q rest (a.put o.dst v') w') : wpList Try.prog ops Q (o :: rest) a (w2.alloc (.cells #[.int .i64 y] 3)) := by
  obtain ⟨i0, hi, hz0, hz1, hz2⟩ := info_parts infoI
  refine wpList_append_one (cs := [.int .i64 y]) hg s x 22 ho 3 i0 (.int .i64 0) 1 8 Try.underlying22 hi hz0 hz1 hz2 rfl (by decide) st hs hx rfl (by simp [Value.oneCell']) (by unfold maxLen; omega) (by omega) ?_
  intro v' w' s2
  refine K v' w' ?_
  rw [iVals_snoc]
  exact s2

theorem ah_take (l : List Int) (k : Nat) (h : k < l.length) : (aheads l).take (k + 1) = (aheads l).take k ++ [ahOf l k] := by
  have hk : k < (aheads l).length := by rw [aheads_length]; exact h
  rw [List.take_succ_eq_append_getElem hk]
  congr 2
  have := aheads_at l k h
  rw [List.getElem?_eq_getElem hk] at this
  exact Option.some.inj this
theorem be_take (l : List Int) (k : Nat) (h : k < l.length) : (behs l).take (k + 1) = (behs l).take k ++ [(beOf l k : Int)] := by
  have hk : k < (behs l).length := by rw [behs_length]; exact h
  rw [List.take_succ_eq_append_getElem hk]
  congr 2
  have := behs_at l k h
  rw [List.getElem?_eq_getElem hk] at this
  exact Option.some.inj this

section
variable {B : Nat} {w0 w : World} {r : List Thing}

set_option maxRecDepth 100000 in
set_option maxHeartbeats 4000000 in
/-- The document's Ahead. -/
theorem refAhead_st (st : St B w0 w r) (v : Value) (l : List Int) (hv : ∀ W, St B w0 W r → IntRow W v l) (hl : l.length ≤ 1000) : Calls Try.prog 11 #[v] w (AhSt B w0 r l) := by
  obtain ⟨va, vc, rfl⟩ : ∃ a c, v = .slice a l.length c := by obtain ⟨a, c, e, _⟩ := hv w st; exact ⟨a, c, e⟩
  obtain ⟨n, hn⟩ : ∃ n, l.length = n := ⟨_, rfl⟩
  have hR : ∀ W, St B w0 W r → ∀ i, i < n → (-9223372036854775808 ≤ nthI l i ∧ nthI l i ≤ 9223372036854775807) ∧ ∃ b off, va = some ⟨b, off, none⟩ ∧ W.cell? ⟨b, off + i, none⟩ = some (.int .i64 (nthI l i)) := fun W t i hi => by
    obtain ⟨a, c, e, _, h⟩ := intNth (hv W t)
    obtain ⟨rfl, -, -⟩ := Value.slice.inj e
    exact h i (by omega)
  have HR := Lib.hid hR
  have HN := Lib.hid hn
  rw [hn] at hl ⊢
  clear hv hR hn
  have s0 := st.addNil (e := 3) (size := 1)
  go_enter Try.func11, Try.ntmps11
  go_wp2
  go_loopw [3, 4] (fun ov iv wr => ∃ k : Nat, k ≤ n ∧ iv = .int .i64 (k : Int) ∧ St B w0 wr (rowT 3 1 ov k (iVals ((aheads l).take k)) :: r)) (fun _ iv _ => n - (intOf iv).toNat)
  case atStart => exact ⟨0, by omega, rfl, s0⟩
  case round =>
    clear s0 st
    obtain ⟨k, hk, rfl, s1⟩ := hrel
    by_cases hlt : k < n
    · have hnx := ah_take l k (by rw [HN.out]; exact hlt)
      have hah : seekUp l (nthI l k) k = ahOf l k := rfl
      obtain ⟨ov, hov⟩ : ∃ c, ahOf l k = c := ⟨_, rfl⟩
      rw [hov] at hnx hah
      have HX := Lib.hid hnx
      have HA := Lib.hid hah
      clear hnx hah hov
      have hk1 : (k : Int) < (n : Int) := by omega
      go_wp2
      go_loopw [5] (fun kv wi => ∃ (m : Nat) (j : Nat), m ≤ k ∧ kv = .int .i64 ((m : Int) - 1) ∧ Hid (seekUp l (nthI l k) m = ov) ∧ wi = wr.drewN j) (fun kv _ => (intOf kv + 1).toNat)
      case atStart => exact ⟨k, 0, by omega, rfl, HA, rfl⟩
      case round =>
        obtain ⟨m, j, hm, rfl, hs, rfl⟩ := hrel
        cases m with
        | zero =>
          have he : ov = -1 := by rw [← hs.out]; rfl
          have HE := Lib.hid he
          clear he
          have s2 := s1.drewN (j + 1)
          go_wp2
          go_region
          go_wp2_with (at_builtin; refine wpList_append_int rfl _ _ rfl (-1) s2 rfl rfl (by omega) ?_)
          intro v' w' s3
          rw [← HE.out, ← HX.out] at s3
          go_wp2
          exact ⟨⟨k + 1, by omega, by go_num, s3⟩, by simp [intOf]; omega⟩
        | succ m =>
          have hm1 : m < n := by omega
          have hm2 : (m : Int) < (n : Int) := by omega
          obtain ⟨b1, b, off, rfl, c0⟩ := HR.out wr s1.drop m hm1
          obtain ⟨b2, b', off', e1, c1⟩ := HR.out wr s1.drop k hlt
          obtain ⟨rfl, rfl⟩ : b = b' ∧ off = off' := by simpa using e1
          have hst := hs.out
          rw [seekUp] at hst
          clear e1
          generalize nthI l k = x at *
          generalize nthI l m = y at *
          by_cases hx : y < x
          · rw [if_pos hx] at hst
            have HE := Lib.hid hst
            clear hst
            have s2 := s1.drewN (j + 1)
            have hd : decide (x ≤ y) = false := by simp; omega
            go_wp2
            go_region
            go_wp2_with (at_builtin; refine wpList_append_int rfl _ _ rfl (m : Int) s2 rfl rfl (by omega) ?_)
            intro v' w' s3
            rw [HE.out, ← HX.out] at s3
            go_wp2
            exact ⟨⟨k + 1, by omega, by go_num, s3⟩, by simp [intOf]; omega⟩
          · rw [if_neg hx] at hst
            have HE := Lib.hid hst
            clear hst
            have hd : decide (x ≤ y) = true := by simp; omega
            go_wp2
            go_region
            go_wp2
            go_roundw
            case rel => exact ⟨m, j + 1, by omega, by go_num, HE, rfl⟩
            case measure => simp [intOf]
    · obtain rfl : n = k := by omega
      have hall : (aheads l).take n = aheads l := List.take_of_length_le (by rw [aheads_length, HN.out]; exact Nat.le_refl _)
      rw [hall] at s1
      have HS := Lib.hid s1
      clear s1 hall
      go_wp2
      go_ret
      exact ⟨_, rfl, by rw [HN.out]; exact HS.out⟩

set_option maxRecDepth 100000 in
set_option maxHeartbeats 4000000 in
/-- The document's Behind. -/
theorem refBehind_st (st : St B w0 w r) (v : Value) (l : List Int) (hv : ∀ W, St B w0 W r → IntRow W v l) (hl : l.length ≤ 1000) : Calls Try.prog 13 #[v] w (BeSt B w0 r l) := by
  obtain ⟨va, vc, rfl⟩ : ∃ a c, v = .slice a l.length c := by obtain ⟨a, c, e, _⟩ := hv w st; exact ⟨a, c, e⟩
  obtain ⟨n, hn⟩ : ∃ n, l.length = n := ⟨_, rfl⟩
  have hR : ∀ W, St B w0 W r → ∀ i, i < n → (-9223372036854775808 ≤ nthI l i ∧ nthI l i ≤ 9223372036854775807) ∧ ∃ b off, va = some ⟨b, off, none⟩ ∧ W.cell? ⟨b, off + i, none⟩ = some (.int .i64 (nthI l i)) := fun W t i hi => by
    obtain ⟨a, c, e, _, h⟩ := intNth (hv W t)
    obtain ⟨rfl, -, -⟩ := Value.slice.inj e
    exact h i (by omega)
  have HR := Lib.hid hR
  have HN := Lib.hid hn
  rw [hn] at hl ⊢
  clear hv hR hn
  have s0 := st.addNil (e := 3) (size := 1)
  go_enter Try.func13, Try.ntmps13
  go_wp2
  go_loopw [3, 4] (fun ov iv wr => ∃ k : Nat, k ≤ n ∧ iv = .int .i64 (k : Int) ∧ St B w0 wr (rowT 3 1 ov k (iVals ((behs l).take k)) :: r)) (fun _ iv _ => n - (intOf iv).toNat)
  case atStart => exact ⟨0, by omega, rfl, s0⟩
  case round =>
    clear s0 st
    obtain ⟨k, hk, rfl, s1⟩ := hrel
    by_cases hlt : k < n
    · have hnx := be_take l k (by rw [HN.out]; exact hlt)
      have hbe : k + 1 + lead (nthI l k) (l.drop (k + 1)) = beOf l k := rfl
      obtain ⟨ov, hov⟩ : ∃ c, beOf l k = c := ⟨_, rfl⟩
      rw [hov] at hnx hbe
      have HX := Lib.hid hnx
      have HA := Lib.hid hbe
      clear hnx hbe hov
      have hk1 : (k : Int) < (n : Int) := by omega
      go_wp2
      go_loopw [5] (fun kv wi => ∃ (m : Nat) (j : Nat), m ≤ n ∧ kv = .int .i64 (m : Int) ∧ Hid (m + lead (nthI l k) (l.drop m) = ov) ∧ wi = wr.drewN j) (fun kv _ => n - (intOf kv).toNat)
      case atStart => exact ⟨k + 1, 0, by omega, by go_num, HA, rfl⟩
      case round =>
        obtain ⟨m, j, hm, rfl, hs, rfl⟩ := hrel
        by_cases hm1 : m < n
        · have hm2 : (m : Int) < (n : Int) := by omega
          obtain ⟨b1, b, off, rfl, c0⟩ := HR.out wr s1.drop m hm1
          obtain ⟨b2, b', off', e1, c1⟩ := HR.out wr s1.drop k hlt
          obtain ⟨rfl, rfl⟩ : b = b' ∧ off = off' := by simpa using e1
          have hst := hs.out
          have hlm : m < l.length := by rw [HN.out]; exact hm1
          rw [List.drop_eq_getElem_cons hlm, lead, ← nthI_lt hlm] at hst
          clear e1 hlm
          generalize nthI l k = x at *
          generalize nthI l m = y at *
          by_cases hx : y < x
          · rw [if_pos hx, Nat.add_zero] at hst
            have HE := Lib.hid (show (m : Int) = (ov : Int) by omega)
            clear hst
            have s2 := s1.drewN (j + 1)
            have hd : decide (x ≤ y) = false := by simp; omega
            go_wp2
            go_region
            go_wp2_with (at_builtin; refine wpList_append_int rfl _ _ rfl (m : Int) s2 rfl rfl (by omega) ?_)
            intro v' w' s3
            rw [HE.out, ← HX.out] at s3
            go_wp2
            exact ⟨⟨k + 1, by omega, by go_num, s3⟩, by simp [intOf]; omega⟩
          · rw [if_neg hx] at hst
            have HE := Lib.hid (show m + 1 + lead x (l.drop (m + 1)) = ov by omega)
            clear hst
            have hd : decide (x ≤ y) = true := by simp; omega
            go_wp2
            go_region
            go_wp2
            go_roundw
            case rel => exact ⟨m + 1, j + 1, by omega, by go_num, HE, rfl⟩
            case measure => simp [intOf]; omega
        · have he : (m : Int) = (ov : Int) := by
            have h := hs.out
            rw [List.drop_of_length_le (by rw [HN.out]; omega)] at h
            simp only [lead] at h
            omega
          have HE := Lib.hid he
          clear he
          have s2 := s1.drewN (j + 1)
          go_wp2
          go_region
          go_wp2_with (at_builtin; refine wpList_append_int rfl _ _ rfl (m : Int) s2 rfl rfl (by omega) ?_)
          intro v' w' s3
          rw [HE.out, ← HX.out] at s3
          go_wp2
          exact ⟨⟨k + 1, by omega, by go_num, s3⟩, by simp [intOf]; omega⟩
    · obtain rfl : n = k := by omega
      have hall : (behs l).take n = behs l := List.take_of_length_le (by rw [behs_length, HN.out]; exact Nat.le_refl _)
      rw [hall] at s1
      have HS := Lib.hid s1
      clear s1 hall
      go_wp2
      go_ret
      exact ⟨_, rfl, by rw [HN.out]; exact HS.out⟩

end
end Go.Proofs.Ytjchchinmggldaa.Near
