/-
  Contracts of pressworkref07: Unpack. No conditions but those of the call. (Written by wip/gen_reph.py.)
-/
import Derived.Test.YtpinfihmageeoaaGreatGF
import Derived.Deep.Cut
namespace Go.Proofs.YtpinfihmageeoaaGreat.Rep
open Go.RowKit

theorem unErr_long {l : List (Nat × Nat)} (hf : l.all fits = true) (n : Int) (k : Nat) (out : List Nat) (h : say [] (l.take k) = some out) (ho : n < (out.length : Int)) : unErr l n = 2 ∧ unAns l n = [] := by
  have e := say_drop l k out h
  unfold unErr unAns
  rw [if_neg (by simp [hf]), if_neg (by simp [hf])]
  cases ho2 : say [] l with
  | none => exact ⟨rfl, rfl⟩
  | some o =>
    rw [ho2] at e
    have := say_longer _ _ _ e.symm
    have hne : ¬ (o.length : Int) = n := by omega
    simp [hne]

/-- The ways a sign may be, or not. -/
theorem ways (c x : Nat) : (fits (c, x) = false ∧ (18 < c ∨ (c < 16 ∧ 0 < x) ∨ (c = 16 ∧ 3 < x) ∨ (c = 17 ∧ 7 < x) ∨ (c = 18 ∧ 127 < x))) ∨ (fits (c, x) = true ∧ ((c < 16 ∧ x = 0) ∨ (c = 16 ∧ x ≤ 3) ∨ (c = 17 ∧ x ≤ 7) ∨ (c = 18 ∧ x ≤ 127))) := by
  have h16 : bitsOf' 16 = 2 := rfl
  have h17 : bitsOf' 17 = 3 := rfl
  have h18 : bitsOf' 18 = 7 := rfl
  have hb : c < 16 → bitsOf' c = 0 := fun h => by unfold bitsOf'; rw [if_neg (by omega), if_neg (by omega), if_neg (by omega)]
  unfold fits
  simp only [Bool.and_eq_true, Bool.and_eq_false_iff, decide_eq_true_eq, decide_eq_false_iff_not]
  by_cases c1 : c < 16
  · rw [hb c1]; omega
  · by_cases c2 : c = 16
    · subst c2; rw [h16]; omega
    · by_cases c3 : c = 17
      · subst c3; rw [h17]; omega
      · by_cases c4 : c = 18
        · subst c4; rw [h18]; omega
        · omega

set_option maxRecDepth 100000 in
set_option maxHeartbeats 8000000 in
/-- The document's Unpack. -/
theorem refUnpack_st {B : Nat} {w0 w : World} {r : List Thing} (st : St B w0 w r) (v : Value) (l : List (Nat × Nat)) (h : ∀ W, St B w0 W r → SignRow W v l) (hl : l.length ≤ 100000) (n : Int) (hn0 : -9223372036854775808 ≤ n) (hn1 : n ≤ 9223372036854775807) :
    Calls Tryz.prog 110 #[v, .int .i64 n] w (UnpackSt B w0 r l n) := by
  have hrow := h
  obtain ⟨a, cap, rfl, -, hmx, -, -⟩ := h w st
  clear h
  obtain ⟨i0, hi, hz0, hz1, hz2⟩ := info_parts info8
  go_enter Tryz.func110, Tryz.ntmps110
  go_wp2
  go_loopw [6, 7, 8] (fun i _ _ wr => ∃ k : Nat, k ≤ l.length ∧ i = .int .i64 (k : Int) ∧ Hid (∀ j (hj : j < l.length), j < k → fits l[j] = true) ∧ wr = w) (fun i _ _ _ => l.length - (intOf i).toNat)
  case atStart => exact ⟨0, Nat.zero_le _, rfl, Lib.hid (fun j _ hj => absurd hj (Nat.not_lt_zero _)), rfl⟩
  case round =>
    obtain ⟨k, hk, rfl, hb, hw⟩ := hrel
    have hw := hw.symm
    subst hw
    by_cases hlt : k < l.length
    · obtain ⟨a', cap', e1, _, _, _, hat⟩ := hrow _ st
      obtain ⟨rfl, -, rfl⟩ := Value.slice.inj e1
      obtain ⟨⟨hy0, hy1⟩, b, off, rfl, c0, c1⟩ := hat k hlt
      obtain ⟨c, x, hs⟩ : ∃ c x, l[k] = (c, x) := ⟨_, _, rfl⟩
      rw [hs] at c0 c1 hy0 hy1
      have HS := Lib.hid hs
      clear hs hat hrow e1
      rcases ways c x with ⟨hf, hway⟩ | ⟨hf, hway⟩
      · have hbad : l.all fits = false := by
          rw [List.all_eq_false]
          exact ⟨l[k], List.getElem_mem hlt, by rw [HS.out, hf]; simp⟩
        have hE := UnpackSt.none st (unErr_bad hbad n)
        clear hf hbad
        rcases hway with h1 | ⟨h1, h2⟩ | ⟨rfl, h2⟩ | ⟨rfl, h2⟩ | ⟨rfl, h2⟩
        all_goals
          go_wp2
          go_ret2
          exact hE
      · have HF := Lib.hid hf
        clear hf
        rcases hway with ⟨h1, rfl⟩ | ⟨rfl, h2⟩ | ⟨rfl, h2⟩ | ⟨rfl, h2⟩
        all_goals
          go_wp2
          go_roundw
          case rel =>
            refine ⟨k + 1, by omega, by go_num, Lib.hid fun j hj hjk => ?_, trivial⟩
            by_cases e : j = k
            · subst e; rw [HS.out]; exact HF.out
            · exact hb.out j hj (by omega)
          case measure => simp [intOf]; omega
    · obtain rfl : k = l.length := by omega
      have hA : l.all fits = true := by
        rw [List.all_eq_true]
        intro s hs
        obtain ⟨i, hi, rfl⟩ := List.getElem_of_mem hs
        exact hb.out i hi hi
      have HA := Lib.hid hA
      clear hA hb
      have s0 := st.addNil (e := 5) (size := 1)
      clear st
      go_wp2
      go_loopw [9, 10, 11, 12, 13] (fun vv iv _ _ _ wr => ∃ (k : Nat) (out : List Nat), k ≤ l.length ∧ iv = .int .i64 (k : Int) ∧ Hid (say [] (l.take k) = some out) ∧ out.length ≤ k * 138 ∧ Hid (∀ x ∈ out, x < 256) ∧ St B w0 wr (rowT 5 1 vv out.length (u8s out) :: r)) (fun _ iv _ _ _ _ => l.length - (intOf iv).toNat)
      case atStart => exact ⟨0, [], Nat.zero_le _, rfl, Lib.hid rfl, Nat.zero_le _, Lib.hid (fun x hx => by cases hx), s0⟩
      case round =>
        clear s0
        obtain ⟨k, out, hk, rfl, hsay, hol, hob, s1⟩ := hrel
        obtain ⟨va, vc, rfl⟩ := ownsRow_slice s1.row
        by_cases hgo : k < l.length ∧ (out.length : Int) ≤ n
        · obtain ⟨hlt, hon⟩ := hgo
          obtain ⟨a', cap', e1, _, _, _, hat⟩ := hrow _ s1.drop
          obtain ⟨rfl, -, rfl⟩ := Value.slice.inj e1
          obtain ⟨⟨hy0, hy1⟩, b, off, rfl, c0, c1⟩ := hat k hlt
          obtain ⟨c, x, hs⟩ : ∃ c x, l[k] = (c, x) := ⟨_, _, rfl⟩
          rw [hs] at c0 c1 hy0 hy1
          have hfit : fits (c, x) = true := by rw [← hs]; exact List.all_eq_true.1 HA.out _ (List.getElem_mem hlt)
          have HS := Lib.hid hs
          clear hs hat hrow e1
          have hlast : out ≠ [] → ∃ yl q : Nat, out.length = q + 1 ∧ out.getLastD 0 = yl ∧ wr.cell? ⟨(match va with | some a => a.block | none => 0), q, none⟩ = some (.int .u8 (yl : Int)) ∧ ∃ g, va = some ⟨g, 0, none⟩ := fun hne => by
            obtain ⟨g, cp, hv, hc⟩ := s1.rowShape (List.length_pos_iff.2 hne)
            obtain ⟨rfl, -, -⟩ := Value.slice.inj hv
            have hp := List.length_pos_iff.2 hne
            refine ⟨out[out.length - 1]'(by omega), out.length - 1, by omega, ?_, ?_, g, rfl⟩
            · rw [List.getLastD_eq_getLast?, List.getLast?_eq_getElem?, List.getElem?_eq_getElem (by omega)]; rfl
            · rw [s1.row.cellAt _ (by omega), u8s_get _ _ (by omega)]
          rcases (ways c x) with ⟨hf, _⟩ | ⟨_, hway⟩
          · rw [hfit] at hf; cases hf
          · rcases hway with ⟨h1, hx0⟩ | ⟨hc, h2⟩ | ⟨hc, h2⟩ | ⟨hc, h2⟩
            · skip
              obtain ⟨y, hyc⟩ : ∃ y, y = c := ⟨_, rfl⟩
              obtain ⟨T, hT⟩ : ∃ T, T = 1 := ⟨_, rfl⟩
              have hnx := say_next l k hlt out hsay.out (by rw [HS.out]; show ¬ (c = 16 ∧ out = []); omega)
              rw [HS.out] at hnx
              have ht : times (c, x) = T := by rw [hT, hx0]; unfold times least; rw [if_neg (by show ¬ (c = 16 ∨ c = 17); omega), if_neg (by show ¬ c = 18; omega)]; rfl
              have hyl : lengthOf (c, x) out = y := by rw [hyc]; unfold lengthOf; rw [if_neg (by show ¬ c = 16; omega), if_neg (by show ¬ (c = 17 ∨ c = 18); omega)]
              rw [ht, hyl] at hnx
              have HNX := Lib.hid hnx
              have hylt := lengthOf_lt (c, x) hy0 out hob.out
              rw [hyl] at hylt
              have HYL := Lib.hid hylt
              clear hnx ht hyl hylt
              have HX0 := Lib.hid hx0
              subst hyc
              subst hT
              clear hx0 hlast
              go_wp2
              go_loopw [9, 13] (fun vv jv wi => ∃ (j : Nat) (o3 : List Nat), j ≤ 1 ∧ jv = .int .i64 (j : Int) ∧ Hid (o3 = out ++ List.replicate j y) ∧ o3.length ≤ out.length + j ∧ St B w0 wi (rowT 5 1 vv o3.length (u8s o3) :: r)) (fun _ jv _ => 1 - (intOf jv).toNat)
              case atStart => exact ⟨0, out, Nat.zero_le _, rfl, Lib.hid (by simp), by omega, s1⟩
              case round =>
                clear s1
                obtain ⟨j, o3, hj, rfl, ho3, hlen3, s5⟩ := hrel
                obtain ⟨xa, xc, rfl⟩ := ownsRow_slice s5.row
                by_cases hjm : j < 1
                · go_wp2_with (at_builtin; refine wpList_append_one rfl _ _ 26 rfl 5 i0 (.int .u8 0) 1 1 Tryz.underlying26 hi hz0 hz1 hz2 rfl (by decide) s5 rfl [.int .u8 (y : Int)] rfl rfl (by simp [Value.oneCell']) (by unfold maxLen; omega) (by omega) ?_)
                  intro v6 w6 s6
                  have e6 : u8s o3 ++ [Value.int .u8 (y : Int)] = u8s (o3 ++ [y]) := by rw [u8s_append]; rfl
                  have l6 : o3.length + 1 = (o3 ++ [y]).length := by simp
                  have e7 : o3 ++ [y] = out ++ List.replicate (j + 1) y := by rw [ho3.out, List.replicate_succ', List.append_assoc]
                  rw [e6, l6] at s6
                  have z7 : (o3 ++ [y]).length ≤ out.length + (j + 1) := by simp; omega
                  obtain ⟨o4, ho4⟩ : ∃ o4, o4 = o3 ++ [y] := ⟨_, rfl⟩
                  rw [← ho4] at s6 e7 z7
                  have H7 := Lib.hid e7
                  clear ho4 e7 e6 l6
                  go_wp2
                  go_roundw
                  case rel => exact ⟨j + 1, o4, by omega, by go_num, H7, z7, s6⟩
                  case measure => simp [intOf]; omega
                · obtain rfl : j = 1 := by omega
                  go_wp2
                  exact ⟨⟨k + 1, o3, by omega, by go_num, Lib.hid (by rw [ho3.out]; exact HNX.out), by omega, Lib.hid (fun z hz => by
                    rw [ho3.out] at hz
                    rcases List.mem_append.1 hz with hz | hz
                    · exact hob.out z hz
                    · rw [(List.mem_replicate.1 hz).2]; exact HYL.out), s5⟩, by simp only [intOf]; omega⟩
            · skip
              have HC := Lib.hid hc
              by_cases hne : out = []
              · have hE := UnpackSt.none s1.drop (unErr_none HA.out n k hlt out hsay.out (by rw [HS.out]; exact ⟨hc, hne⟩))
                have hcb : ((c : Int) == 16) = true := by rw [hc]; rfl
                have HNE := Lib.hid hne
                have hle : ((out.length : Int) == 0) = true := by rw [hne]; rfl
                clear hne hc hlast
                go_wp2
                go_ret2
                exact hE
              · obtain ⟨y, q, hq, hyq, hcy, g, rfl⟩ := hlast hne
                obtain ⟨T, hT⟩ : ∃ T, T = 3 + x := ⟨_, rfl⟩
                have hnx := say_next l k hlt out hsay.out (by rw [HS.out]; show ¬ (c = 16 ∧ out = []); exact fun hh => hne hh.2)
                rw [HS.out] at hnx
                have ht : times (c, x) = T := by rw [hT]; unfold times least; rw [if_pos (by show c = 16 ∨ c = 17; omega)]
                have hyl : lengthOf (c, x) out = y := by unfold lengthOf; rw [if_pos (by show c = 16; exact hc)]; exact hyq
                rw [ht, hyl] at hnx
                have HNX := Lib.hid hnx
                have hylt := lengthOf_lt (c, x) hy0 out hob.out
                rw [hyl] at hylt
                have HYL := Lib.hid hylt
                clear hnx ht hyl hylt
                have hTi : 3 + (x : Int) = (T : Int) := by omega
                have hTb : T ≤ 6 := by omega
                have hcb : ((c : Int) == 16) = true := by rw [hc]; rfl
                have hle : ((out.length : Int) == 0) = false := beq_eq_false_iff_ne.2 (by omega)
                have hq2 : (out.length : Int) - 1 = (q : Int) := by omega
                have HQ := Lib.hid hq
                have hql : q < out.length := by omega
                have HT := Lib.hid hT
                clear hc hne hyq hq hT hlast
                go_wp2
                go_loopw [9, 13] (fun vv jv wi => ∃ (j : Nat) (o3 : List Nat), j ≤ T ∧ jv = .int .i64 (j : Int) ∧ Hid (o3 = out ++ List.replicate j y) ∧ o3.length ≤ out.length + j ∧ St B w0 wi (rowT 5 1 vv o3.length (u8s o3) :: r)) (fun _ jv _ => T - (intOf jv).toNat)
                case atStart => exact ⟨0, out, Nat.zero_le _, rfl, Lib.hid (by simp), by omega, s1⟩
                case round =>
                  clear s1
                  obtain ⟨j, o3, hj, rfl, ho3, hlen3, s5⟩ := hrel
                  obtain ⟨xa, xc, rfl⟩ := ownsRow_slice s5.row
                  by_cases hjm : j < T
                  · go_wp2_with (at_builtin; refine wpList_append_one rfl _ _ 26 rfl 5 i0 (.int .u8 0) 1 1 Tryz.underlying26 hi hz0 hz1 hz2 rfl (by decide) s5 rfl [.int .u8 (y : Int)] rfl rfl (by simp [Value.oneCell']) (by unfold maxLen; omega) (by omega) ?_)
                    intro v6 w6 s6
                    have e6 : u8s o3 ++ [Value.int .u8 (y : Int)] = u8s (o3 ++ [y]) := by rw [u8s_append]; rfl
                    have l6 : o3.length + 1 = (o3 ++ [y]).length := by simp
                    have e7 : o3 ++ [y] = out ++ List.replicate (j + 1) y := by rw [ho3.out, List.replicate_succ', List.append_assoc]
                    rw [e6, l6] at s6
                    have z7 : (o3 ++ [y]).length ≤ out.length + (j + 1) := by simp; omega
                    obtain ⟨o4, ho4⟩ : ∃ o4, o4 = o3 ++ [y] := ⟨_, rfl⟩
                    rw [← ho4] at s6 e7 z7
                    have H7 := Lib.hid e7
                    clear ho4 e7 e6 l6
                    go_wp2
                    go_roundw
                    case rel => exact ⟨j + 1, o4, by omega, by go_num, H7, z7, s6⟩
                    case measure => simp [intOf]; omega
                  · obtain rfl : j = T := by omega
                    go_wp2
                    exact ⟨⟨k + 1, o3, by omega, by go_num, Lib.hid (by rw [ho3.out]; exact HNX.out), by omega, Lib.hid (fun z hz => by
                      rw [ho3.out] at hz
                      rcases List.mem_append.1 hz with hz | hz
                      · exact hob.out z hz
                      · rw [(List.mem_replicate.1 hz).2]; exact HYL.out), s5⟩, by simp only [intOf]; omega⟩
            · skip
              obtain ⟨y, hy00⟩ : ∃ y : Nat, y = 0 := ⟨_, rfl⟩
              obtain ⟨T, hT⟩ : ∃ T, T = 3 + x := ⟨_, rfl⟩
              have hnx := say_next l k hlt out hsay.out (by rw [HS.out]; show ¬ (c = 16 ∧ out = []); omega)
              rw [HS.out] at hnx
              have ht : times (c, x) = T := by rw [hT]; unfold times least; rw [if_pos (by show c = 16 ∨ c = 17; omega)]
              have hyl : lengthOf (c, x) out = y := by rw [hy00]; unfold lengthOf; rw [if_neg (by show ¬ c = 16; omega), if_pos (by show c = 17 ∨ c = 18; omega)]
              rw [ht, hyl] at hnx
              have HNX := Lib.hid hnx
              have hylt := lengthOf_lt (c, x) hy0 out hob.out
              rw [hyl] at hylt
              have HYL := Lib.hid hylt
              clear hnx ht hyl hylt
              have hcb0 : ((c : Int) == 16) = false := by rw [hc]; rfl
              have hTi : 3 + (x : Int) = (T : Int) := by omega
              have hTb : T ≤ 10 := by omega
              have hcb : ((c : Int) == 17) = true := by rw [hc]; rfl
              have HY0 := Lib.hid hy00
              have HT := Lib.hid hT
              have HC := Lib.hid hc
              clear hc hT hy00 hlast
              go_wp2
              go_loopw [9, 13] (fun vv jv wi => ∃ (j : Nat) (o3 : List Nat), j ≤ T ∧ jv = .int .i64 (j : Int) ∧ Hid (o3 = out ++ List.replicate j y) ∧ o3.length ≤ out.length + j ∧ St B w0 wi (rowT 5 1 vv o3.length (u8s o3) :: r)) (fun _ jv _ => T - (intOf jv).toNat)
              case atStart => exact ⟨0, out, Nat.zero_le _, rfl, Lib.hid (by simp), by omega, s1⟩
              case round =>
                clear s1
                obtain ⟨j, o3, hj, rfl, ho3, hlen3, s5⟩ := hrel
                obtain ⟨xa, xc, rfl⟩ := ownsRow_slice s5.row
                by_cases hjm : j < T
                · go_wp2_with (at_builtin; refine wpList_append_one rfl _ _ 26 rfl 5 i0 (.int .u8 0) 1 1 Tryz.underlying26 hi hz0 hz1 hz2 rfl (by decide) s5 rfl [.int .u8 0] rfl rfl (by simp [Value.oneCell']) (by unfold maxLen; omega) (by omega) ?_)
                  intro v6 w6 s6
                  have e6 : u8s o3 ++ [Value.int .u8 0] = u8s (o3 ++ [y]) := by rw [u8s_append]; have := HY0.out; subst this; rfl
                  have l6 : o3.length + 1 = (o3 ++ [y]).length := by simp
                  have e7 : o3 ++ [y] = out ++ List.replicate (j + 1) y := by rw [ho3.out, List.replicate_succ', List.append_assoc]
                  rw [e6, l6] at s6
                  have z7 : (o3 ++ [y]).length ≤ out.length + (j + 1) := by simp; omega
                  obtain ⟨o4, ho4⟩ : ∃ o4, o4 = o3 ++ [y] := ⟨_, rfl⟩
                  rw [← ho4] at s6 e7 z7
                  have H7 := Lib.hid e7
                  clear ho4 e7 e6 l6
                  go_wp2
                  go_roundw
                  case rel => exact ⟨j + 1, o4, by omega, by go_num, H7, z7, s6⟩
                  case measure => simp [intOf]; omega
                · obtain rfl : j = T := by omega
                  go_wp2
                  exact ⟨⟨k + 1, o3, by omega, by go_num, Lib.hid (by rw [ho3.out]; exact HNX.out), by omega, Lib.hid (fun z hz => by
                    rw [ho3.out] at hz
                    rcases List.mem_append.1 hz with hz | hz
                    · exact hob.out z hz
                    · rw [(List.mem_replicate.1 hz).2]; exact HYL.out), s5⟩, by simp only [intOf]; omega⟩
            · skip
              obtain ⟨y, hy00⟩ : ∃ y : Nat, y = 0 := ⟨_, rfl⟩
              obtain ⟨T, hT⟩ : ∃ T, T = 11 + x := ⟨_, rfl⟩
              have hnx := say_next l k hlt out hsay.out (by rw [HS.out]; show ¬ (c = 16 ∧ out = []); omega)
              rw [HS.out] at hnx
              have ht : times (c, x) = T := by rw [hT]; unfold times least; rw [if_neg (by show ¬ (c = 16 ∨ c = 17); omega), if_pos (by show c = 18; omega)]
              have hyl : lengthOf (c, x) out = y := by rw [hy00]; unfold lengthOf; rw [if_neg (by show ¬ c = 16; omega), if_pos (by show c = 17 ∨ c = 18; omega)]
              rw [ht, hyl] at hnx
              have HNX := Lib.hid hnx
              have hylt := lengthOf_lt (c, x) hy0 out hob.out
              rw [hyl] at hylt
              have HYL := Lib.hid hylt
              clear hnx ht hyl hylt
              have hcb0 : ((c : Int) == 16) = false := by rw [hc]; rfl
              have hcb1 : ((c : Int) == 17) = false := by rw [hc]; rfl
              have hTi : 11 + (x : Int) = (T : Int) := by omega
              have hTb : T ≤ 138 := by omega
              have hcb : ((c : Int) == 18) = true := by rw [hc]; rfl
              have HY0 := Lib.hid hy00
              have HT := Lib.hid hT
              have HC := Lib.hid hc
              clear hc hT hy00 hlast
              go_wp2
              go_loopw [9, 13] (fun vv jv wi => ∃ (j : Nat) (o3 : List Nat), j ≤ T ∧ jv = .int .i64 (j : Int) ∧ Hid (o3 = out ++ List.replicate j y) ∧ o3.length ≤ out.length + j ∧ St B w0 wi (rowT 5 1 vv o3.length (u8s o3) :: r)) (fun _ jv _ => T - (intOf jv).toNat)
              case atStart => exact ⟨0, out, Nat.zero_le _, rfl, Lib.hid (by simp), by omega, s1⟩
              case round =>
                clear s1
                obtain ⟨j, o3, hj, rfl, ho3, hlen3, s5⟩ := hrel
                obtain ⟨xa, xc, rfl⟩ := ownsRow_slice s5.row
                by_cases hjm : j < T
                · go_wp2_with (at_builtin; refine wpList_append_one rfl _ _ 26 rfl 5 i0 (.int .u8 0) 1 1 Tryz.underlying26 hi hz0 hz1 hz2 rfl (by decide) s5 rfl [.int .u8 0] rfl rfl (by simp [Value.oneCell']) (by unfold maxLen; omega) (by omega) ?_)
                  intro v6 w6 s6
                  have e6 : u8s o3 ++ [Value.int .u8 0] = u8s (o3 ++ [y]) := by rw [u8s_append]; have := HY0.out; subst this; rfl
                  have l6 : o3.length + 1 = (o3 ++ [y]).length := by simp
                  have e7 : o3 ++ [y] = out ++ List.replicate (j + 1) y := by rw [ho3.out, List.replicate_succ', List.append_assoc]
                  rw [e6, l6] at s6
                  have z7 : (o3 ++ [y]).length ≤ out.length + (j + 1) := by simp; omega
                  obtain ⟨o4, ho4⟩ : ∃ o4, o4 = o3 ++ [y] := ⟨_, rfl⟩
                  rw [← ho4] at s6 e7 z7
                  have H7 := Lib.hid e7
                  clear ho4 e7 e6 l6
                  go_wp2
                  go_roundw
                  case rel => exact ⟨j + 1, o4, by omega, by go_num, H7, z7, s6⟩
                  case measure => simp [intOf]; omega
                · obtain rfl : j = T := by omega
                  go_wp2
                  exact ⟨⟨k + 1, o3, by omega, by go_num, Lib.hid (by rw [ho3.out]; exact HNX.out), by omega, Lib.hid (fun z hz => by
                    rw [ho3.out] at hz
                    rcases List.mem_append.1 hz with hz | hz
                    · exact hob.out z hz
                    · rw [(List.mem_replicate.1 hz).2]; exact HYL.out), s5⟩, by simp only [intOf]; omega⟩
        · by_cases hlt : k < l.length
          · have hon : ¬ (out.length : Int) ≤ n := fun h => hgo ⟨hlt, h⟩
            have hE := UnpackSt.none s1.drop (unErr_long HA.out n k out hsay.out (by omega))
            have hne : ¬ (out.length : Int) = n := by omega
            clear hgo
            go_wp2
            go_ret2
            exact hE
          · obtain rfl : k = l.length := by omega
            have hE := unErr_end HA.out n out (by have := hsay.out; rwa [List.take_length] at this)
            clear hrow hgo
            by_cases hn : (out.length : Int) = n
            · rw [if_pos hn, if_pos hn] at hE
              have HE := Lib.hid hE
              clear hE
              go_wp2
              go_ret2
              refine ⟨_, by rw [HE.out.1]; rfl, ?_⟩
              rw [HE.out.2]
              exact s1
            · rw [if_neg hn, if_neg hn] at hE
              have hE := UnpackSt.none s1.drop hE
              go_wp2
              go_ret2
              exact hE

end Go.Proofs.YtpinfihmageeoaaGreat.Rep
