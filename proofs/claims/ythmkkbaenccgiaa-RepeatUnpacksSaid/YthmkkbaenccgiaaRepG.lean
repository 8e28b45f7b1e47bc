/-
  Contracts of pressworkref07: Pack. No conditions but those of the call.
-/
import Derived.Test.YthmkkbaenccgiaaRepK
import Derived.Deep.Cut
namespace Go.Proofs.Ythmkkbaenccgiaa.Rep
open Go.RowKit

theorem infoRSign : (Try.prog.info? 32).map (fun i => (i.zero, i.size, i.bytes)) = some (some (.agg #[.int .u8 0, .int .u8 0]), 2, 2) := by kernel_rfl

theorem packOf_any {L : List Nat} (h : ∀ x ∈ L, x ≤ 15) : packErr L = 0 ∧ packOf L = pack L := by
  have e : (L.any fun x => decide (15 < x)) = false := by
    rw [List.any_eq_false]
    intro x hx
    have := h x hx
    simp
    omega
  unfold packErr packOf
  rw [e]
  exact ⟨rfl, rfl⟩

theorem packOf_bad {L : List Nat} (k : Nat) (hk : k < L.length) (h : 15 < L[k]) : packErr L = 5 ∧ packOf L = [] := by
  have e : (L.any fun x => decide (15 < x)) = true := by
    rw [List.any_eq_true]
    exact ⟨_, List.getElem_mem hk, by simp [h]⟩
  unfold packErr packOf
  rw [e]
  exact ⟨rfl, rfl⟩

/-- A row behind one more sign. -/
theorem signs_more {B : Nat} {w0 w : World} {e : TypeId} {v : Value} {l : List (Nat × Nat)} {c x : Nat} {r : List Thing} (st : St B w0 w (rowT e 2 v (l.length + 1) (sgn l ++ [.int .u8 (c : Int), .int .u8 (x : Int)]) :: r)) : St B w0 w (signT e v (l ++ [(c, x)]) :: r) := by
  have e6 : sgn l ++ [Value.int .u8 (c : Int), Value.int .u8 (x : Int)] = sgn (l ++ [(c, x)]) := by rw [sgn_append]; rfl
  have l6 : l.length + 1 = (l ++ [(c, x)]).length := by simp
  rw [e6, l6] at st
  exact st

theorem small_more {l : List (Nat × Nat)} (h : Small l) {c x : Nat} (hc : c < 256) (hx : x < 256) : Small (l ++ [(c, x)]) := by
  intro p hp
  rcases List.mem_append.1 hp with hp | hp
  · exact h p hp
  · obtain rfl : p = (c, x) := by simpa using hp
    exact ⟨hc, hx⟩

/-- What the document's Pack answers. -/
def RefPackSt (B : Nat) (w0 : World) (r : List Thing) (L : List Nat) (e : Ending) (w' : World) : Prop :=
  ∃ v', e = .returned (.tuple #[v', .int .i64 (packErr L : Int)]) ∧ St B w0 w' (signT 32 v' (packOf L) :: r)

set_option maxRecDepth 100000 in
set_option maxHeartbeats 8000000 in
/-- The document's Pack. -/
theorem refPack_st {B : Nat} {w0 w : World} {r : List Thing} (st : St B w0 w r) (v : Value) (L : List Nat) (h : ∀ W, St B w0 W r → ByteRow W v L) (hl : L.length ≤ 1000000) :
    Calls Try.prog 10 #[v] w (RefPackSt B w0 r L) := by
  have hrow := h
  obtain ⟨a, cap, rfl, -, -, -⟩ := h w st
  clear h
  obtain ⟨i0, hi, hz0, hz1, hz2⟩ := info_parts infoRSign
  go_enter Try.func10, Try.ntmps10
  go_wp2
  go_loopw [4] (fun i wr => ∃ k : Nat, k ≤ L.length ∧ i = .int .i64 (k : Int) ∧ Hid (∀ j (hj : j < L.length), j < k → L[j] ≤ 15) ∧ wr = w) (fun i _ => L.length - (intOf i).toNat)
  case atStart => exact ⟨0, Nat.zero_le _, rfl, Lib.hid (fun j _ hj => absurd hj (Nat.not_lt_zero _)), rfl⟩
  case round =>
    obtain ⟨k, hk, rfl, hb, hw⟩ := hrel
    have hw := hw.symm
    subst hw
    by_cases hlt : k < L.length
    · obtain ⟨a', cap', e1, _, _, hat⟩ := hrow _ st
      obtain ⟨rfl, -, rfl⟩ := Value.slice.inj e1
      obtain ⟨hy, b, off, rfl, hcell⟩ := hat k hlt
      obtain ⟨y, hy'⟩ : ∃ y, L[k] = y := ⟨_, rfl⟩
      rw [hy'] at hcell
      have HY := Lib.hid hy'
      clear hy' hat hrow e1
      by_cases c : 15 < y
      · go_wp2
        go_ret2
        obtain ⟨q1, q2⟩ := packOf_bad k hlt (by rw [HY.out]; exact c)
        refine ⟨_, by rw [q1]; rfl, ?_⟩
        rw [q2]
        exact st.addNil
      · go_wp2
        go_roundw
        case rel =>
          refine ⟨k + 1, by omega, by go_num, Lib.hid fun j hj hjk => ?_, trivial⟩
          by_cases e : j = k
          · subst e; rw [HY.out]; omega
          · exact hb.out j hj (by omega)
        case measure => simp [intOf]; omega
    · obtain rfl : k = L.length := by omega
      have hA : ∀ x ∈ L, x ≤ 15 := fun x hx => by
        obtain ⟨i, hi, rfl⟩ := List.getElem_of_mem hx
        exact hb.out i hi hi
      obtain ⟨q1, q2⟩ := packOf_any hA
      have Q1 := Lib.hid q1
      have Q2 := Lib.hid q2
      have HA := Lib.hid hA
      clear q1 q2 hA hb
      have s0 := st.addNil (e := 32) (size := 2)
      clear st
      go_wp2
      go_loopw [5, 6, 7, 8, 9] (fun vv iv _ _ _ wr => ∃ (p : Nat) (l : List (Nat × Nat)), p ≤ L.length ∧ iv = .int .i64 (p : Int) ∧ Hid (l ++ pack (L.drop p) = pack L) ∧ Hid (Small l) ∧ l.length ≤ p ∧ St B w0 wr (signT 32 vv l :: r)) (fun _ iv _ _ _ _ => L.length - (intOf iv).toNat)
      case atStart => exact ⟨0, [], Nat.zero_le _, rfl, Lib.hid rfl, Lib.hid (fun p hp => by cases hp), Nat.le_refl _, s0⟩
      case round =>
        clear s0
        obtain ⟨p, l, hp, rfl, hpk, hsm, hll, s1⟩ := hrel
        obtain ⟨va, vc, rfl⟩ := ownsRow_slice s1.row
        by_cases hlt : p < L.length
        · obtain ⟨a', cap', e1, _, _, hat⟩ := hrow _ s1.drop
          obtain ⟨rfl, -, rfl⟩ := Value.slice.inj e1
          obtain ⟨hy, b, off, rfl, hcell⟩ := hat p hlt
          have hcells : ∀ q (hq : q < L.length), wr.cell? ⟨b, off + q, none⟩ = some (.int .u8 (L[q] : Int)) := fun q hq => by
            obtain ⟨_, b', off', e2, hc⟩ := hat q hq
            obtain ⟨rfl, rfl⟩ : b = b' ∧ off = off' := by simpa using e2
            exact hc
          obtain ⟨y, hy'⟩ : ∃ y, L[p] = y := ⟨_, rfl⟩
          have hy15 : y ≤ 15 := by rw [← hy']; exact HA.out _ (List.getElem_mem hlt)
          rw [hy'] at hcell
          have HY := Lib.hid hy'
          have HCC := Lib.hid hcells
          clear hy' hat e1 hcells
          go_wp2
          go_loopw [6, 8] (fun iv nv wi => ∃ q m : Nat, p ≤ q ∧ q ≤ L.length ∧ m = q - p ∧ iv = .int .i64 (q : Int) ∧ nv = .int .i64 (m : Int) ∧ Hid (∀ m (hm : m < L.length), p ≤ m → m < q → L[m] = y) ∧ wi = wr) (fun iv _ _ => L.length - (intOf iv).toNat)
          case atStart => exact ⟨p, 0, Nat.le_refl _, hp, by omega, rfl, rfl, Lib.hid (fun m hm h1 h2 => by omega), rfl⟩
          case round =>
            obtain ⟨q, m, hpq, hq, hmq, rfl, rfl, hall, hw⟩ := hrel
            have HMQ := Lib.hid hmq
            have hmL : m ≤ L.length := by omega
            clear hmq
            have hw := hw.symm
            subst hw
            by_cases hex : ∃ h : q < L.length, L[q] = y
            · obtain ⟨hql, hz⟩ := hex
              have hcq := HCC.out q hql
              rw [hz] at hcq
              have HZ := Lib.hid hz
              have d1 : ((y : Int) == (y : Int)) = true := by simp
              clear hz
              go_wp2
              go_roundw
              case rel =>
                refine ⟨q + 1, m + 1, by omega, by omega, by have := HMQ.out; omega, by go_num, by go_num, Lib.hid fun x hx h1 h2 => ?_, trivial⟩
                by_cases e : x = q
                · subst e; exact HZ.out
                · exact hall.out x hx h1 (by omega)
              case measure => simp [intOf]; omega
            · have hne : ∀ h : q < L.length, L[q] ≠ y := fun h e => hex ⟨h, e⟩
              have hpq1 : p < q := by
                rcases Nat.lt_or_ge p q with c | c
                · exact c
                · obtain rfl : p = q := by omega
                  exact absurd HY.out (hne hlt)
              have hend := pack_from L p q y hpq1 hq hall.out hne
              obtain ⟨N, hN⟩ : ∃ N, N = m := ⟨_, rfl⟩
              have hmq := HMQ.out
              rw [← hmq, ← hN] at hend
              rw [← hN] at hmq ⊢
              have hN1 : 1 ≤ N := by omega
              have hNL : N ≤ L.length := by omega
              have hsl := (signs_length y N (by omega)).1
              have HEND := Lib.hid hend
              have hways : (q < L.length ∧ ∃ z : Nat, wr.cell? ⟨b, off + q, none⟩ = some (.int .u8 (z : Int)) ∧ ((z : Int) == (y : Int)) = false) ∨ ¬ q < L.length := by
                by_cases hql : q < L.length
                · refine .inl ⟨hql, L[q], HCC.out q hql, beq_eq_false_iff_ne.2 ?_⟩
                  have := hne hql
                  omega
                · exact .inr hql
              have HNQ : Hid (N = q - p) := Lib.hid hmq
              have hsq : l.length + (signs y N).length ≤ q := by omega
              have hlN : l.length + N ≤ L.length := by omega
              clear hend hex hne hmq HMQ hN
              rcases hways with ⟨hql, z, hcq, d1⟩ | hql
              all_goals
                go_upto_region 14 with (fail)
                clear hcell
                by_cases hy0 : y = 0
                case' pos =>
                  have hsg : signs y N = zeros N := by unfold signs; rw [if_pos hy0]
                  have d2 : ((y : Int) == 0) = true := by rw [hy0]; rfl
                  have HSG := Lib.hid hsg
                  have HY0 := Lib.hid hy0
                  clear hsg hy0
                  go_wp2
                  go_loopw [5, 8] (fun vv nv wi => ∃ (m : Nat) (l1 : List (Nat × Nat)), nv = .int .i64 (m : Int) ∧ m ≤ N ∧ Hid (l1 ++ zeros m = l ++ zeros N) ∧ Hid (Small l1) ∧ l1.length + m ≤ l.length + N ∧ St B w0 wi (signT 32 vv l1 :: r)) (fun _ nv _ => (intOf nv).toNat)
                  case atStart => exact ⟨N, l, rfl, Nat.le_refl _, Lib.hid rfl, hsm, Nat.le_refl _, s1⟩
                  case round =>
                    obtain ⟨m, l1, rfl, hmN, hzr, hs1, hlen1, s2⟩ := hrel
                    obtain ⟨xa, xc, rfl⟩ := ownsRow_slice s2.row
                    by_cases hm138 : 138 ≤ m
                    · obtain ⟨m', hm'⟩ : ∃ m', m = m' + 138 := ⟨m - 138, by omega⟩
                      have hmi : (m : Int) - 138 = (m' : Int) := by omega
                      have hzz : zeros m = (18, 127) :: zeros m' := by rw [zeros, if_pos hm138]; congr 2; omega
                      have HZZ := Lib.hid hzz
                      have HM' := Lib.hid hm'
                      clear hzz hm'
                      go_wp2_with (at_builtin; refine wpList_append_one rfl _ _ 27 rfl 32 i0 (.agg #[.int .u8 0, .int .u8 0]) 2 2 Try.underlying27 hi hz0 hz1 hz2 rfl (by decide) s2 rfl [.int .u8 18, .int .u8 127] rfl rfl (by simp [Value.oneCell']) (by unfold maxLen; omega) (by omega) ?_)
                      intro v7 w7 s7
                      have s8 := signs_more s7
                      have h8 := small_more hs1.out (c := 18) (x := 127) (by omega) (by omega)
                      have z8 : (l1 ++ [(18, 127)]).length = l1.length + 1 := by simp
                      obtain ⟨l4, hl4⟩ : ∃ l4, l4 = l1 ++ [(18, 127)] := ⟨_, rfl⟩
                      rw [← hl4] at s8 h8 z8
                      have H8 := Lib.hid h8
                      have HN8 := Lib.hid hl4
                      clear h8 hl4 s7
                      obtain ⟨xb, xd, rfl⟩ := ownsRow_slice s8.row
                      go_wp2
                      go_roundw
                      case rel => exact ⟨m', l4, rfl, by have := HM'.out; omega, Lib.hid (by rw [HN8.out, List.append_assoc, List.singleton_append, ← HZZ.out]; exact hzr.out), Lib.hid H8.out, by have := HM'.out; omega, s8⟩
                      case measure => simp [intOf]; have := HM'.out; omega
                    · by_cases hm11 : 11 ≤ m
                      · obtain ⟨m', hm'⟩ : ∃ m', m = m' + 11 := ⟨m - 11, by omega⟩
                        have hmi : (m : Int) - 11 = (m' : Int) := by omega
                        have hm8 : (m' : Int) % 256 = (m' : Int) := by omega
                        have hmb : m' < 256 := by omega
                        have hzz : zeros m = [(18, m')] := by rw [zeros, if_neg hm138, if_pos hm11]; congr 2; omega
                        have HZZ := Lib.hid hzz
                        have HM' := Lib.hid hm'
                        clear hzz hm'
                        go_wp2_with (at_builtin; refine wpList_append_one rfl _ _ 27 rfl 32 i0 (.agg #[.int .u8 0, .int .u8 0]) 2 2 Try.underlying27 hi hz0 hz1 hz2 rfl (by decide) s2 rfl [.int .u8 18, .int .u8 (m' : Int)] rfl rfl (by simp [Value.oneCell']) (by unfold maxLen; omega) (by omega) ?_)
                        intro v7 w7 s7
                        have s8 := signs_more s7
                        have h8 := small_more hs1.out (c := 18) (x := m') (by omega) (by omega)
                        have z8 : (l1 ++ [(18, m')]).length = l1.length + 1 := by simp
                        obtain ⟨l4, hl4⟩ : ∃ l4, l4 = l1 ++ [(18, m')] := ⟨_, rfl⟩
                        rw [← hl4] at s8 h8 z8
                        have H8 := Lib.hid h8
                        have HN8 := Lib.hid hl4
                        clear h8 hl4 s7
                        obtain ⟨xb, xd, rfl⟩ := ownsRow_slice s8.row
                        have e9 : l4 = l ++ signs y N := by rw [HN8.out, HSG.out, ← HZZ.out]; exact hzr.out
                        have E9 := Lib.hid e9
                        clear e9
                        go_wp2
                        generalize w7 = w9 at *
                        go_loopw [5, 9] (fun vv jv wi => vv = .slice xb l4.length xd ∧ jv = .int .i64 0 ∧ wi = w9) (fun _ _ _ => 0)
                        case atStart => exact ⟨rfl, rfl, rfl⟩
                        case round =>
                          obtain ⟨rfl, rfl, rfl⟩ := hrel
                          go_wp2
                          exact ⟨⟨q, l4, hq, rfl, Lib.hid (by rw [E9.out, List.append_assoc, ← HEND.out]; exact hpk.out), Lib.hid H8.out, by rw [E9.out, List.length_append]; omega, s8⟩, by simp only [intOf, Int.toNat_natCast]; omega⟩
                      · by_cases hm3 : 3 ≤ m
                        · obtain ⟨m', hm'⟩ : ∃ m', m = m' + 3 := ⟨m - 3, by omega⟩
                          have hmi : (m : Int) - 3 = (m' : Int) := by omega
                          have hm8 : (m' : Int) % 256 = (m' : Int) := by omega
                          have hmb : m' < 256 := by omega
                          have hzz : zeros m = [(17, m')] := by rw [zeros, if_neg hm138, if_neg hm11, if_pos hm3]; congr 2; omega
                          have HZZ := Lib.hid hzz
                          have HM' := Lib.hid hm'
                          clear hzz hm'
                          go_wp2_with (at_builtin; refine wpList_append_one rfl _ _ 27 rfl 32 i0 (.agg #[.int .u8 0, .int .u8 0]) 2 2 Try.underlying27 hi hz0 hz1 hz2 rfl (by decide) s2 rfl [.int .u8 17, .int .u8 (m' : Int)] rfl rfl (by simp [Value.oneCell']) (by unfold maxLen; omega) (by omega) ?_)
                          intro v7 w7 s7
                          have s8 := signs_more s7
                          have h8 := small_more hs1.out (c := 17) (x := m') (by omega) (by omega)
                          have z8 : (l1 ++ [(17, m')]).length = l1.length + 1 := by simp
                          obtain ⟨l4, hl4⟩ : ∃ l4, l4 = l1 ++ [(17, m')] := ⟨_, rfl⟩
                          rw [← hl4] at s8 h8 z8
                          have H8 := Lib.hid h8
                          have HN8 := Lib.hid hl4
                          clear h8 hl4 s7
                          obtain ⟨xb, xd, rfl⟩ := ownsRow_slice s8.row
                          have e9 : l4 = l ++ signs y N := by rw [HN8.out, HSG.out, ← HZZ.out]; exact hzr.out
                          have E9 := Lib.hid e9
                          clear e9
                          go_wp2
                          generalize w7 = w9 at *
                          go_loopw [5, 9] (fun vv jv wi => vv = .slice xb l4.length xd ∧ jv = .int .i64 0 ∧ wi = w9) (fun _ _ _ => 0)
                          case atStart => exact ⟨rfl, rfl, rfl⟩
                          case round =>
                            obtain ⟨rfl, rfl, rfl⟩ := hrel
                            go_wp2
                            exact ⟨⟨q, l4, hq, rfl, Lib.hid (by rw [E9.out, List.append_assoc, ← HEND.out]; exact hpk.out), Lib.hid H8.out, by rw [E9.out, List.length_append]; omega, s8⟩, by simp only [intOf, Int.toNat_natCast]; omega⟩
                        · have e9 : l1 ++ List.replicate m (y, 0) = l ++ signs y N := by
                            have h9 := hzr.out
                            rw [zeros_end m (by omega)] at h9
                            rw [HSG.out, HY0.out]
                            exact h9
                          have E9 := Lib.hid e9
                          clear e9
                          go_wp2
                          go_loopw [5, 9] (fun vv jv wi => ∃ (j : Nat) (l3 : List (Nat × Nat)), j ≤ m ∧ jv = .int .i64 (j : Int) ∧ Hid (l3 = l1 ++ List.replicate j (y, 0)) ∧ Hid (Small l3) ∧ Hid (l3.length = l1.length + j) ∧ St B w0 wi (signT 32 vv l3 :: r)) (fun _ jv _ => m - (intOf jv).toNat)
                          case atStart => exact ⟨0, l1, Nat.zero_le _, rfl, Lib.hid (by simp), hs1, Lib.hid rfl, s2⟩
                          case round =>
                            obtain ⟨j, l3, hj, rfl, hl3, hs3, hlen3, s5⟩ := hrel
                            obtain ⟨xa, xc, rfl⟩ := ownsRow_slice s5.row
                            have hb3 : l3.length ≤ 2000000 := by have := hlen3.out; omega
                            by_cases hjm : j < m
                            · go_wp2_with (at_builtin; refine wpList_append_one rfl _ _ 27 rfl 32 i0 (.agg #[.int .u8 0, .int .u8 0]) 2 2 Try.underlying27 hi hz0 hz1 hz2 rfl (by decide) s5 rfl [.int .u8 (y : Int), .int .u8 0] rfl rfl (by simp [Value.oneCell']) (by unfold maxLen; omega) (by omega) ?_)
                              intro v6 w6 s6
                              have s7 := signs_more s6
                              have e7 : l3 ++ [(y, 0)] = l1 ++ List.replicate (j + 1) (y, 0) := by rw [hl3.out, List.replicate_succ', List.append_assoc]
                              have h7 := small_more hs3.out (c := y) (x := 0) (by omega) (by omega)
                              have z7 : (l3 ++ [(y, 0)]).length = l1.length + (j + 1) := by have := hlen3.out; simp; omega
                              obtain ⟨l4, hl4⟩ : ∃ l4, l4 = l3 ++ [(y, 0)] := ⟨_, rfl⟩
                              rw [← hl4] at s7 e7 h7 z7
                              have H7 := Lib.hid (And.intro e7 (And.intro h7 z7))
                              clear hl4 e7 h7 z7 s6
                              go_wp2
                              go_roundw
                              case rel => exact ⟨j + 1, l4, by omega, by go_num, Lib.hid H7.out.1, Lib.hid H7.out.2.1, Lib.hid H7.out.2.2, s7⟩
                              case measure => simp [intOf]; omega
                            · obtain rfl : j = m := by omega
                              have e8 : l3 = l ++ signs y N := by rw [hl3.out]; exact E9.out
                              have E8 := Lib.hid e8
                              clear e8
                              go_wp2
                              exact ⟨⟨q, l3, hq, rfl, Lib.hid (by rw [E8.out, List.append_assoc, ← HEND.out]; exact hpk.out), hs3, by rw [E8.out, List.length_append]; omega, s5⟩, by simp only [intOf, Int.toNat_natCast]; omega⟩
                case' neg =>
                  have hsg : ∀ N1, N = N1 + 1 → signs y N = (y, 0) :: others y N1 := fun N1 h => by unfold signs; rw [if_neg hy0, h]; rfl
                  have d2 : ((y : Int) == 0) = false := beq_eq_false_iff_ne.2 (by omega)
                  have HSG := Lib.hid hsg
                  clear hsg hy0
                  go_wp2_with (at_builtin; refine wpList_append_one rfl _ _ 27 rfl 32 i0 (.agg #[.int .u8 0, .int .u8 0]) 2 2 Try.underlying27 hi hz0 hz1 hz2 rfl (by decide) s1 rfl [.int .u8 (y : Int), .int .u8 0] rfl rfl (by simp [Value.oneCell']) (by unfold maxLen; omega) (by omega) ?_)
                  intro v7 w7 s7
                  have s8 := signs_more s7
                  have h8 := small_more hsm.out (c := y) (x := 0) (by omega) (by omega)
                  have z8 : (l ++ [(y, 0)]).length = l.length + 1 := by simp
                  obtain ⟨l5, hl5⟩ : ∃ l4, l4 = l ++ [(y, 0)] := ⟨_, rfl⟩
                  rw [← hl5] at s8 h8 z8
                  have H8 := Lib.hid h8
                  have HN8 := Lib.hid hl5
                  clear h8 hl5 s7
                  obtain ⟨xb, xd, rfl⟩ := ownsRow_slice s8.row
                  obtain ⟨N1, hN1⟩ : ∃ N1, N = N1 + 1 := ⟨N - 1, by omega⟩
                  have hNi : (N : Int) - 1 = (N1 : Int) := by omega
                  have HSM5 := H8
                  have hlen5 : l5.length + N1 = l.length + N := by omega
                  have e5 : l5 ++ others y N1 = l ++ signs y N := by rw [HN8.out, List.append_assoc, List.singleton_append, HSG.out N1 hN1]
                  have E5 := Lib.hid e5
                  have s9 := s8
                  have HN1 := Lib.hid hN1
                  clear e5 H8 HN8 s8 hN1 z8
                  go_wp2
                  go_loopw [5, 8] (fun vv nv wi => ∃ (m : Nat) (l1 : List (Nat × Nat)), nv = .int .i64 (m : Int) ∧ m ≤ N1 ∧ Hid (l1 ++ others y m = l ++ signs y N) ∧ Hid (Small l1) ∧ l1.length + m ≤ l.length + N ∧ St B w0 wi (signT 32 vv l1 :: r)) (fun _ nv _ => (intOf nv).toNat)
                  case atStart => exact ⟨N1, l5, rfl, Nat.le_refl _, Lib.hid E5.out, Lib.hid HSM5.out, by omega, s9⟩
                  case round =>
                    clear s9
                    obtain ⟨m, l1, rfl, hmN, hzr, hs1, hlen1, s2⟩ := hrel
                    obtain ⟨xa, xc, rfl⟩ := ownsRow_slice s2.row
                    by_cases hm6 : 6 ≤ m
                    · obtain ⟨m', hm'⟩ : ∃ m', m = m' + 6 := ⟨m - 6, by omega⟩
                      have hmi : (m : Int) - 6 = (m' : Int) := by omega
                      have hzz : others y m = (16, 3) :: others y m' := by rw [others, if_pos hm6]; congr 2; omega
                      have HZZ := Lib.hid hzz
                      have HM' := Lib.hid hm'
                      clear hzz hm'
                      go_wp2_with (at_builtin; refine wpList_append_one rfl _ _ 27 rfl 32 i0 (.agg #[.int .u8 0, .int .u8 0]) 2 2 Try.underlying27 hi hz0 hz1 hz2 rfl (by decide) s2 rfl [.int .u8 16, .int .u8 3] rfl rfl (by simp [Value.oneCell']) (by unfold maxLen; omega) (by omega) ?_)
                      intro v7 w7 s7
                      have s8 := signs_more s7
                      have h8 := small_more hs1.out (c := 16) (x := 3) (by omega) (by omega)
                      have z8 : (l1 ++ [(16, 3)]).length = l1.length + 1 := by simp
                      obtain ⟨l4, hl4⟩ : ∃ l4, l4 = l1 ++ [(16, 3)] := ⟨_, rfl⟩
                      rw [← hl4] at s8 h8 z8
                      have H8 := Lib.hid h8
                      have HN8 := Lib.hid hl4
                      clear h8 hl4 s7
                      obtain ⟨xb, xd, rfl⟩ := ownsRow_slice s8.row
                      go_wp2
                      go_roundw
                      case rel => exact ⟨m', l4, rfl, by have := HM'.out; omega, Lib.hid (by rw [HN8.out, List.append_assoc, List.singleton_append, ← HZZ.out]; exact hzr.out), Lib.hid H8.out, by have := HM'.out; omega, s8⟩
                      case measure => simp [intOf]; have := HM'.out; omega
                    · by_cases hm3 : 3 ≤ m
                      · obtain ⟨m', hm'⟩ : ∃ m', m = m' + 3 := ⟨m - 3, by omega⟩
                        have hmi : (m : Int) - 3 = (m' : Int) := by omega
                        have hm8 : (m' : Int) % 256 = (m' : Int) := by omega
                        have hmb : m' < 256 := by omega
                        have hzz : others y m = [(16, m')] := by rw [others, if_neg hm6, if_pos hm3]; congr 2; omega
                        have HZZ := Lib.hid hzz
                        have HM' := Lib.hid hm'
                        clear hzz hm'
                        go_wp2_with (at_builtin; refine wpList_append_one rfl _ _ 27 rfl 32 i0 (.agg #[.int .u8 0, .int .u8 0]) 2 2 Try.underlying27 hi hz0 hz1 hz2 rfl (by decide) s2 rfl [.int .u8 16, .int .u8 (m' : Int)] rfl rfl (by simp [Value.oneCell']) (by unfold maxLen; omega) (by omega) ?_)
                        intro v7 w7 s7
                        have s8 := signs_more s7
                        have h8 := small_more hs1.out (c := 16) (x := m') (by omega) (by omega)
                        have z8 : (l1 ++ [(16, m')]).length = l1.length + 1 := by simp
                        obtain ⟨l4, hl4⟩ : ∃ l4, l4 = l1 ++ [(16, m')] := ⟨_, rfl⟩
                        rw [← hl4] at s8 h8 z8
                        have H8 := Lib.hid h8
                        have HN8 := Lib.hid hl4
                        clear h8 hl4 s7
                        obtain ⟨xb, xd, rfl⟩ := ownsRow_slice s8.row
                        have e9 : l4 = l ++ signs y N := by rw [HN8.out, ← HZZ.out]; exact hzr.out
                        have E9 := Lib.hid e9
                        clear e9
                        go_wp2
                        generalize w7 = w9 at *
                        go_loopw [5, 9] (fun vv jv wi => vv = .slice xb l4.length xd ∧ jv = .int .i64 0 ∧ wi = w9) (fun _ _ _ => 0)
                        case atStart => exact ⟨rfl, rfl, rfl⟩
                        case round =>
                          obtain ⟨rfl, rfl, rfl⟩ := hrel
                          go_wp2
                          exact ⟨⟨q, l4, hq, rfl, Lib.hid (by rw [E9.out, List.append_assoc, ← HEND.out]; exact hpk.out), Lib.hid H8.out, by rw [E9.out, List.length_append]; omega, s8⟩, by simp only [intOf, Int.toNat_natCast]; omega⟩
                      · have e9 : l1 ++ List.replicate m (y, 0) = l ++ signs y N := by
                          have h9 := hzr.out
                          rwa [others_end y m (by omega)] at h9
                        have E9 := Lib.hid e9
                        clear e9
                        go_wp2
                        go_loopw [5, 9] (fun vv jv wi => ∃ (j : Nat) (l3 : List (Nat × Nat)), j ≤ m ∧ jv = .int .i64 (j : Int) ∧ Hid (l3 = l1 ++ List.replicate j (y, 0)) ∧ Hid (Small l3) ∧ Hid (l3.length = l1.length + j) ∧ St B w0 wi (signT 32 vv l3 :: r)) (fun _ jv _ => m - (intOf jv).toNat)
                        case atStart => exact ⟨0, l1, Nat.zero_le _, rfl, Lib.hid (by simp), hs1, Lib.hid rfl, s2⟩
                        case round =>
                          obtain ⟨j, l3, hj, rfl, hl3, hs3, hlen3, s5⟩ := hrel
                          obtain ⟨xa, xc, rfl⟩ := ownsRow_slice s5.row
                          have hb3 : l3.length ≤ 2000000 := by have := hlen3.out; omega
                          by_cases hjm : j < m
                          · go_wp2_with (at_builtin; refine wpList_append_one rfl _ _ 27 rfl 32 i0 (.agg #[.int .u8 0, .int .u8 0]) 2 2 Try.underlying27 hi hz0 hz1 hz2 rfl (by decide) s5 rfl [.int .u8 (y : Int), .int .u8 0] rfl rfl (by simp [Value.oneCell']) (by unfold maxLen; omega) (by omega) ?_)
                            intro v6 w6 s6
                            have s7 := signs_more s6
                            have e7 : l3 ++ [(y, 0)] = l1 ++ List.replicate (j + 1) (y, 0) := by rw [hl3.out, List.replicate_succ', List.append_assoc]
                            have h7 := small_more hs3.out (c := y) (x := 0) (by omega) (by omega)
                            have z7 : (l3 ++ [(y, 0)]).length = l1.length + (j + 1) := by have := hlen3.out; simp; omega
                            obtain ⟨l4, hl4⟩ : ∃ l4, l4 = l3 ++ [(y, 0)] := ⟨_, rfl⟩
                            rw [← hl4] at s7 e7 h7 z7
                            have H7 := Lib.hid (And.intro e7 (And.intro h7 z7))
                            clear hl4 e7 h7 z7 s6
                            go_wp2
                            go_roundw
                            case rel => exact ⟨j + 1, l4, by omega, by go_num, Lib.hid H7.out.1, Lib.hid H7.out.2.1, Lib.hid H7.out.2.2, s7⟩
                            case measure => simp [intOf]; omega
                          · obtain rfl : j = m := by omega
                            have e8 : l3 = l ++ signs y N := by rw [hl3.out]; exact E9.out
                            have E8 := Lib.hid e8
                            clear e8
                            go_wp2
                            exact ⟨⟨q, l3, hq, rfl, Lib.hid (by rw [E8.out, List.append_assoc, ← HEND.out]; exact hpk.out), hs3, by rw [E8.out, List.length_append]; omega, s5⟩, by simp only [intOf, Int.toNat_natCast]; omega⟩
        · obtain rfl : p = L.length := by omega
          have hpk := hpk.out
          rw [List.drop_length, pack, List.append_nil] at hpk
          go_wp2
          go_ret2
          refine ⟨_, by rw [Q1.out]; rfl, ?_⟩
          rw [Q2.out, ← hpk]
          exact s1

end Go.Proofs.Ythmkkbaenccgiaa.Rep
