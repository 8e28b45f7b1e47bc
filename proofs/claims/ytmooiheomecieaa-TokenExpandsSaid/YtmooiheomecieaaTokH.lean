/-
  Contract of pressworkref08: Expand. No conditions but those of the calls.
-/
import Derived.Test.YtmooiheomecieaaTokE
import Derived.Test.YtmooiheomecieaaTokG
namespace Go.Proofs.Ytmooiheomecieaa.Tok
open Go.RowKit

theorem take_all {l : List Tk} {k : Nat} (hk : k < l.length) (h : (l.take k).all may = true) (hm : may l[k] = true) : (l.take (k + 1)).all may = true := by
  rw [List.take_succ_eq_append_getElem hk, List.all_append, h]
  simp [hm]

theorem some_not {l : List Tk} {k : Nat} (hk : k < l.length) (hm : may l[k] = false) : l.all may = false := by
  rw [List.all_eq_false]
  exact ⟨l[k], List.getElem_mem hk, by rw [hm]; simp⟩

set_option maxRecDepth 100000 in
set_option maxHeartbeats 8000000 in
/-- Expand. -/
theorem refExpand_st {B : Nat} {w0 w : World} {r : List Thing} (st : St B w0 w r) (v : Value) (l : List Tk) (h : ∀ W, St B w0 W r → TokRow W v l) (hl : l.length ≤ 100000) :
    Calls Try.prog 21 #[v] w (ExpandSt B w0 r l) := by
  have hrow := h
  obtain ⟨a, cap, rfl, hc, hmx, hnn, -⟩ := h w st
  clear h
  go_enter Try.func21, Try.ntmps21
  go_wp2
  go_loopw [4] (fun i wr => ∃ k : Nat, k ≤ l.length ∧ i = .int .i64 (k : Int) ∧ Hid ((l.take k).all may = true) ∧ St B w0 wr r) (fun i _ => l.length - (intOf i).toNat)
  case atStart => exact ⟨0, Nat.zero_le _, rfl, Lib.hid rfl, st⟩
  case round =>
    clear st
    obtain ⟨k, hk, rfl, hall, s1⟩ := hrel
    by_cases hlt : k < l.length
    · obtain ⟨a', cap', e1, _, _, _, hat⟩ := hrow _ s1
      obtain ⟨rfl, -, rfl⟩ := Value.slice.inj e1
      obtain ⟨hin, b, off, rfl, c0, c1, c2⟩ := hat k hlt
      obtain ⟨tl, td, ty, hs⟩ : ∃ tl td ty, l[k] = (tl, td, ty) := ⟨_, _, _, rfl⟩
      rw [hs] at c0 c1 c2 hin
      have HS := Lib.hid hs
      clear hs hat e1 hrow
      have hmay := fun W => refMay_any W (tl, td, ty)
      cases hm : may (tl, td, ty) with
      | true =>
        rw [hm] at hmay
        have HM := Lib.hid hm
        clear hm hin
        go_wp2_with (go_at_call 32; refine (hmay _).mono ?_; rintro e w3 ⟨rfl, hb3⟩; have s3 := s1.quiet hb3)
        go_roundw
        case rel => exact ⟨k + 1, by omega, by go_num, Lib.hid (take_all hlt hall.out (by rw [HS.out]; exact HM.out)), s3⟩
        case measure => simp [intOf]; omega
      | false =>
        rw [hm] at hmay
        have hE := ex_bad (some_not hlt (by rw [HS.out]; exact hm))
        have hE := fun W (s : St B w0 W r) => ExpandSt.none s hE
        clear hm hin
        go_wp2_with (go_at_call 32; refine (hmay _).mono ?_; rintro e w3 ⟨rfl, hb3⟩; have s3 := s1.quiet hb3)
        go_ret2
        exact hE _ s3
    · obtain rfl : k = l.length := by omega
      have HF : Hid (l.all may = true) := Lib.hid (by have := hall.out; rwa [List.take_length] at this)
      clear hall hk hlt
      have s0 := s1.addNil (e := 5) (size := 1)
      clear s1
      go_wp2
      go_loopw [5, 6, 7] (fun v i _ wr => ∃ (k : Nat) (out : List Nat), k ≤ l.length ∧ i = .int .i64 (k : Int) ∧ Hid (say [] (l.take k) = some out) ∧ out.length ≤ k * 258 ∧ St B w0 wr (rowT 5 1 v out.length (u8s out) :: r)) (fun _ i _ _ => l.length - (intOf i).toNat)
      case atStart => exact ⟨0, [], Nat.zero_le _, rfl, Lib.hid rfl, Nat.zero_le _, s0⟩
      case round =>
        clear s0
        obtain ⟨k, out, hk, rfl, hsay, hol, s1⟩ := hrel
        obtain ⟨va, vc, rfl⟩ := ownsRow_slice s1.row
        by_cases hlt : k < l.length
        · obtain ⟨tl, td, ty, hs⟩ : ∃ tl td ty, l[k] = (tl, td, ty) := ⟨_, _, _, rfl⟩
          have hcell : ∀ W, St B w0 W r → ∃ b off, a = some ⟨b, off, none⟩ ∧ W.cell? ⟨b, off + k * 3, none⟩ = some (.int .i64 tl) ∧ W.cell? ⟨b, off + k * 3 + 1, none⟩ = some (.int .i64 td) ∧ W.cell? ⟨b, off + k * 3 + 2, none⟩ = some (.int .u8 (ty : Int)) := fun W s => by
            obtain ⟨a', cap', e1, _, _, _, hat⟩ := hrow _ s
            obtain ⟨rfl, -, rfl⟩ := Value.slice.inj e1
            obtain ⟨hin, b, off, rfl, c0, c1, c2⟩ := hat k hlt
            rw [hs] at c0 c1 c2
            exact ⟨b, off, rfl, c0, c1, c2⟩
          obtain ⟨b, off, rfl, c0, c1, c2⟩ := hcell _ s1.drop
          have hmay : may (tl, td, ty) = true := by rw [← hs]; exact List.all_eq_true.1 HF.out _ (List.getElem_mem hlt)
          have HS := Lib.hid hs
          clear hs hrow
          cases hisb : isB (tl, td, ty) with
          | true =>
            have HB := Lib.hid hisb
            have hz := isB_iff.1 hisb
            simp only at hz
            obtain ⟨rfl, rfl⟩ := hz
            clear hisb hmay
            go_wp2_with (at_builtin; refine wpList_append_lit (m := 1) rfl _ _ rfl s1 rfl [.int .u8 (ty : Int)] rfl rfl (by simp [Value.oneCell']) (by omega) ?_; intro v4 w4 s4)
            go_loopw [5, 7] (fun v i wr => v = v4 ∧ i = .int .i64 0 ∧ wr = w4) (fun _ _ _ => 0)
            case atStart => exact ⟨rfl, rfl, rfl⟩
            case round =>
              obtain ⟨rfl, rfl, rfl⟩ := hrel
              obtain ⟨b, off, e5, d0, d1, d2⟩ := hcell _ s4.drop
              obtain ⟨rfl, rfl⟩ : _ ∧ _ := by injection e5 with e5; injection e5 with e5 e6; exact ⟨e5, e6⟩
              clear hcell e5 c0 c1 c2
              go_wp2
              exact ⟨⟨k + 1, out ++ [ty], by omega, by go_num, Lib.hid (by
                have h9 := say_byte k hlt out hsay.out (by rw [HS.out]; exact HB.out)
                rw [HS.out] at h9
                exact h9), by simp; omega, by rw [u8s_append, List.length_append]; exact s4⟩, by simp [intOf]; omega⟩
          | false =>
            have HB := Lib.hid hisb
            have hr : ty = 0 ∧ 3 ≤ tl ∧ tl ≤ 258 ∧ 1 ≤ td ∧ td ≤ 32768 := may_rep hmay hisb
            clear hisb hmay
            obtain ⟨-, hr1, hr2, hr3, hr4⟩ := hr
            obtain ⟨d, rfl⟩ : ∃ d : Nat, td = (d : Int) := ⟨td.toNat, by omega⟩
            obtain ⟨n, rfl⟩ : ∃ n : Nat, tl = (n : Int) := ⟨tl.toNat, by omega⟩
            have hnz : ((n : Int) == 0) = false := beq_eq_false_iff_ne.2 (by omega)
            have HE : Hid (out.length < d → exErr l = 2 ∧ exAns l = []) := Lib.hid fun hd => ex_none HF.out (say_none k hlt out hsay.out (by rw [HS.out]; exact HB.out) (by rw [HS.out]; exact Int.ofNat_lt.2 hd))
            go_wp2
            go_loopw [5, 7] (fun v i wr => ∃ (j : Nat) (L : List Nat), j ≤ n ∧ i = .int .i64 (j : Int) ∧ (j = 0 ∨ d ≤ out.length) ∧ Hid (L = rep d j out) ∧ St B w0 wr (rowT 5 1 v L.length (u8s L) :: r)) (fun _ i _ => n - (intOf i).toNat)
            case atStart => exact ⟨0, out, Nat.zero_le _, rfl, .inl rfl, Lib.hid rfl, s1⟩
            case round =>
              clear s1 c0 c1 c2
              obtain ⟨j, L, hj, rfl, hjd, hL, s1⟩ := hrel
              obtain ⟨va, vc, rfl⟩ := ownsRow_slice s1.row
              obtain ⟨b, off, e5, c0, c1, c2⟩ := hcell _ s1.drop
              obtain ⟨rfl, rfl⟩ : _ ∧ _ := by injection e5 with e5; injection e5 with e5 e6; exact ⟨e5, e6⟩
              clear hcell e5
              have hlen : L.length = out.length + j := by rw [hL.out, rep_length]
              by_cases hjn : j < n
              · by_cases hd : L.length < d
                · have hE := HE.out (by omega)
                  have hE := fun W (s : St B w0 W r) => ExpandSt.none s hE
                  go_wp2
                  go_ret2
                  exact hE _ s1.drop
                · have hLd : d ≤ out.length := by omega
                  obtain ⟨g, cap, e6, hcap⟩ := s1.rowShape (by omega)
                  obtain ⟨rfl, -, rfl⟩ := Value.slice.inj e6
                  obtain ⟨q, hq⟩ : ∃ q, L.length - d = q := ⟨_, rfl⟩
                  have hqi : (L.length : Int) - (d : Int) = (q : Int) := by omega
                  have hql : q < L.length := by omega
                  obtain ⟨y, hy⟩ : ∃ y, L[q]? = some y := ⟨_, List.getElem?_eq_getElem hql⟩
                  have hcl : wr.cell? ⟨g, q, none⟩ = some (.int .u8 (y : Int)) := by
                    rw [s1.row.cellAt q (by omega)]
                    obtain ⟨h1, h2⟩ := List.getElem?_eq_some_iff.1 hy
                    rw [u8s_get _ _ h1, h2]
                  have hbl : L.length ≤ 100001000 := by omega
                  have HLEN := Lib.hid hlen
                  have HQ := Lib.hid hq
                  have HY := Lib.hid hy
                  clear hlen hq hy e6 hjd
                  go_wp2_with (at_builtin; refine wpList_append_lit (m := 1) rfl _ _ rfl s1 rfl [.int .u8 (y : Int)] rfl rfl (by simp [Value.oneCell']) (by omega) ?_; intro v2 w2 s2)
                  exact ⟨⟨j + 1, L ++ [y], by omega, by go_num, .inr hLd, Lib.hid (by
                    rw [rep_more, ← hL.out]
                    exact (rep_get HQ.out HY.out).symm), by
                    rw [u8s_append, List.length_append]
                    exact s2⟩, by simp [intOf]; omega⟩
              · obtain rfl : j = n := by omega
                have hLd : d ≤ out.length := by omega
                have h9 : Hid (say [] (l.take (k + 1)) = some L) := Lib.hid (by
                  have h9 := say_rep k hlt out hsay.out (by rw [HS.out]; exact HB.out) (by rw [HS.out]; exact Int.not_lt.2 (Int.ofNat_le.2 (by omega)))
                  rw [HS.out] at h9
                  rw [hL.out]
                  exact h9)
                have hbl : L.length ≤ (k + 1) * 258 := by omega
                clear hlen
                go_wp2
                exact ⟨⟨k + 1, L, by omega, by go_num, h9, hbl, s1⟩, by simp [intOf]; omega⟩
        · obtain rfl : k = l.length := by omega
          have hE := ex_some HF.out (by have := hsay.out; rwa [List.take_length] at this)
          have hE := ExpandSt.some hE s1
          clear hrow
          go_wp2
          go_ret2
          exact hE

end Go.Proofs.Ytmooiheomecieaa.Tok
