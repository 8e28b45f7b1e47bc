/-
  Contracts of package token: repeated, Expand. No conditions but those of the calls.
-/
import Derived.Test.YtpcbhmkalofkmaaGreatGS
import Derived.Test.YtpcbhmkalofkmaaGreatGC
namespace Go.Proofs.YtpcbhmkalofkmaaGreat.Tok
open Go.RowKit

theorem rep_get {d q y : Nat} {L : List Nat} (hq : L.length - d = q) (hy : L[q]? = some y) : L ++ [L.getD (L.length - d) 0] = L ++ [y] := by
  rw [hq, List.getD_eq_getElem?_getD, hy]
  rfl

set_option maxRecDepth 100000 in
set_option maxHeartbeats 2000000 in
/-- A repetition's bytes behind those that stand. -/
theorem repeated_st {B : Nat} {w0 w : World} {r : List Thing} {v : Value} {out : List Nat} (d n : Nat) (hd1 : 1 ≤ d) (hd2 : d ≤ out.length) (hn : n ≤ 1000) (hl : out.length ≤ 100000000)
    (st : St B w0 w (rowT 5 1 v out.length (u8s out) :: r)) :
    Calls Tryz.prog 32 #[v, .int .i64 (n : Int), .int .i64 (d : Int)] w fun e w' => ∃ v', e = .returned v' ∧ St B w0 w' (rowT 5 1 v' (rep d n out).length (u8s (rep d n out)) :: r) := by
  go_enter Tryz.func32, Tryz.ntmps32
  go_wp2
  go_loopw [0, 8] (fun vv iv wr => ∃ (k : Nat) (L : List Nat), k ≤ n ∧ iv = .int .i64 (k : Int) ∧ Hid (L = rep d k out) ∧ St B w0 wr (rowT 5 1 vv L.length (u8s L) :: r)) (fun _ iv _ => n - (intOf iv).toNat)
  case atStart => exact ⟨0, out, Nat.zero_le _, rfl, Lib.hid rfl, st⟩
  case round =>
    clear st
    obtain ⟨k, L, hk, rfl, hL, s1⟩ := hrel
    by_cases hlt : k < n
    · have hlen : L.length = out.length + k := by rw [hL.out, rep_length]
      obtain ⟨g, cap, rfl, hcap⟩ := s1.rowShape (by omega)
      obtain ⟨q, hq⟩ : ∃ q, L.length - d = q := ⟨_, rfl⟩
      have hqi : (L.length : Int) - (d : Int) = (q : Int) := by omega
      have hql : q < L.length := by omega
      obtain ⟨y, hy⟩ : ∃ y, L[q]? = some y := ⟨_, List.getElem?_eq_getElem hql⟩
      have hcell : wr.cell? ⟨g, q, none⟩ = some (.int .u8 (y : Int)) := by
        rw [s1.row.cellAt q (by omega)]
        obtain ⟨h1, h2⟩ := List.getElem?_eq_some_iff.1 hy
        rw [u8s_get _ _ h1, h2]
      have hbl : L.length ≤ 100001000 := by omega
      have HLEN := Lib.hid hlen
      have HQ := Lib.hid hq
      have HY := Lib.hid hy
      clear hlen hq hy
      go_wp2_with (at_builtin; refine wpList_append_lit (m := 1) rfl _ _ rfl s1 rfl [.int .u8 (y : Int)] rfl rfl (by simp [Value.oneCell']) (by omega) ?_; intro v2 w2 s2)
      go_roundw
      case rel =>
        refine ⟨k + 1, L ++ [y], by omega, by go_num, Lib.hid ?_, ?_⟩
        · rw [rep_more, ← hL.out]
          exact (rep_get HQ.out HY.out).symm
        · rw [u8s_append, List.length_append]
          exact s2
      case measure => simp [intOf]; omega
    · obtain rfl : k = n := by omega
      go_wp2
      go_ret
      exact ⟨_, rfl, by rw [← hL.out]; exact s1⟩

/-- What Expand answers. -/
def ExpandSt (B : Nat) (w0 : World) (r : List Thing) (l : List Tk) (e : Ending) (w' : World) : Prop :=
  ∃ v', e = .returned (.tuple #[v', .int .i64 (exErr l : Int)]) ∧ St B w0 w' (rowT 5 1 v' (exAns l).length (u8s (exAns l)) :: r)

theorem ExpandSt.none {B : Nat} {w0 w : World} {r : List Thing} {l : List Tk} {k : Nat} (st : St B w0 w r) (h : exErr l = k ∧ exAns l = []) : ExpandSt B w0 r l (.returned (.tuple #[.slice none 0 0, .int .i64 (k : Int)])) w := by
  refine ⟨_, by rw [h.1], ?_⟩
  rw [h.2]
  exact st.addNil

theorem ExpandSt.some {B : Nat} {w0 w : World} {r : List Thing} {l : List Tk} {v : Value} {out : List Nat} (h : exErr l = 0 ∧ exAns l = out) (st : St B w0 w (rowT 5 1 v out.length (u8s out) :: r)) : ExpandSt B w0 r l (.returned (.tuple #[v, .int .i64 0])) w := by
  refine ⟨_, by rw [h.1]; rfl, ?_⟩
  rw [h.2]
  exact st

set_option maxRecDepth 100000 in
set_option maxHeartbeats 4000000 in
/-- Expand. -/
theorem expand_st {B : Nat} {w0 w : World} {r : List Thing} (st : St B w0 w r) (v : Value) (l : List Tk) (h : ∀ W, St B w0 W r → TokRow W v l) (hl : l.length ≤ 100000) :
    Calls Tryz.prog 10 #[v] w (ExpandSt B w0 r l) := by
  have hcon := containsT_any w v l (h w st) (by omega)
  have hrow := h
  obtain ⟨a, cap, rfl, hc, hmx, hnn, -⟩ := h w st
  clear h
  cases hf : l.all may with
  | false =>
    have hE := ex_bad hf
    rw [hf] at hcon
    have hE := fun W (s : St B w0 W r) => ExpandSt.none s hE
    clear hrow hc hmx hnn hf hl
    go_enter Tryz.func10, Tryz.ntmps10
    go_wp2_with (go_at_call 28; refine hcon.mono ?_; rintro e w1 ⟨rfl, hb⟩)
    go_ret2
    exact hE _ (st.quiet (by assumption))
  | true =>
    rw [hf] at hcon
    go_enter Tryz.func10, Tryz.ntmps10
    go_wp2_with (go_at_call 28; refine hcon.mono ?_; rintro e w1 ⟨rfl, hb⟩)
    have s0 := (st.quiet hb).addNil (e := 5) (size := 1)
    clear st hcon hb
    go_loopw [4, 6, 11, 21, 29] (fun v _ i _ _ wr => ∃ (k : Nat) (out : List Nat), k ≤ l.length ∧ i = .int .i64 (k : Int) ∧ Hid (say [] (l.take k) = some out) ∧ out.length ≤ k * 258 ∧ St B w0 wr (rowT 5 1 v out.length (u8s out) :: r)) (fun _ _ i _ _ _ => l.length - (intOf i).toNat)
    case atStart => exact ⟨0, [], Nat.zero_le _, rfl, Lib.hid rfl, Nat.zero_le _, s0⟩
    case round =>
      clear s0
      obtain ⟨k, out, hk, rfl, hsay, hol, s1⟩ := hrel
      obtain ⟨va, vc, rfl⟩ := ownsRow_slice s1.row
      have HF := Lib.hid hf
      clear hf
      by_cases hlt : k < l.length
      · obtain ⟨a', cap', e1, _, _, _, hat⟩ := hrow _ s1.drop
        obtain ⟨rfl, -, rfl⟩ := Value.slice.inj e1
        obtain ⟨hin, b, off, rfl, c0, c1, c2⟩ := hat k hlt
        obtain ⟨tl, td, ty, hs⟩ : ∃ tl td ty, l[k] = (tl, td, ty) := ⟨_, _, _, rfl⟩
        rw [hs] at c0 c1 c2 hin
        have hmay : may (tl, td, ty) = true := by rw [← hs]; exact List.all_eq_true.1 HF.out _ (List.getElem_mem hlt)
        have HS := Lib.hid hs
        clear hs hat e1 hrow
        have s2 := s1.newBox #[.int .i64 tl, .int .i64 td, .int .u8 (ty : Int)] 33
        have f0 := (s2.boxAt 0).1
        have f1 := (s2.boxAt 1).1
        have f2 := (s2.boxAt 2).1
        have hib := fun W => isByte_any W (tl, td, ty)
        cases hisb : isB (tl, td, ty) with
        | true =>
          rw [hisb] at hib
          have HB := Lib.hid hisb
          clear hisb hmay hin
          go_wp2_with (first | (go_at_call 30; refine (hib _).mono ?_; rintro e w3 ⟨rfl, hb3⟩; have s3 := s2.quiet hb3; have g2 := (s3.boxAt 2).1) | (at_builtin; refine wpList_append_lit (m := 1) rfl _ _ rfl s3.swap rfl [.int .u8 (ty : Int)] rfl rfl (by simp [Value.oneCell']) (by omega) ?_; intro v4 w4 s4))
          exact ⟨⟨k + 1, out ++ [ty], by omega, by go_num, Lib.hid (by
            have h9 := say_byte k hlt out hsay.out (by rw [HS.out]; exact HB.out)
            rw [HS.out] at h9
            exact h9), by simp; omega, by rw [u8s_append, List.length_append]; exact s4.swap.drop⟩, by simp [intOf]; omega⟩
        | false =>
          rw [hisb] at hib
          have HB := Lib.hid hisb
          have hr : ty = 0 ∧ 3 ≤ tl ∧ tl ≤ 258 ∧ 1 ≤ td ∧ td ≤ 32768 := may_rep hmay hisb
          clear hisb hmay hin
          obtain ⟨-, hr1, hr2, hr3, hr4⟩ := hr
          obtain ⟨d, rfl⟩ : ∃ d : Nat, td = (d : Int) := ⟨td.toNat, by omega⟩
          obtain ⟨n, rfl⟩ : ∃ n : Nat, tl = (n : Int) := ⟨tl.toNat, by omega⟩
          by_cases hd : out.length < d
          · have hE := ex_none HF.out (say_none k hlt out hsay.out (by rw [HS.out]; exact HB.out) (by rw [HS.out]; exact Int.ofNat_lt.2 hd))
            have hE2 := fun W (s : St B w0 W r) => ExpandSt.none s hE
            clear hE
            go_wp2_with (go_at_call 30; refine (hib _).mono ?_; rintro e w3 ⟨rfl, hb3⟩; have s3 := s2.quiet hb3; have g1 := (s3.boxAt 1).1)
            go_ret2
            exact hE2 _ s3.drop.drop
          · go_wp2_with (first | (go_at_call 30; refine (hib _).mono ?_; rintro e w3 ⟨rfl, hb3⟩; have s3 := s2.quiet hb3; have g0 := (s3.boxAt 0).1; have g1 := (s3.boxAt 1).1) | (go_at_call 32; refine (repeated_st d n (by omega) (by omega) (by omega) (by omega) s3.swap).mono ?_; rintro e w5 ⟨v5, rfl, s5⟩))
            exact ⟨⟨k + 1, rep d n out, by omega, by go_num, Lib.hid (by
              have h9 := say_rep k hlt out hsay.out (by rw [HS.out]; exact HB.out) (by rw [HS.out]; exact Int.not_lt.2 (Int.ofNat_le.2 (by omega)))
              rw [HS.out] at h9
              exact h9), by rw [rep_length]; omega, s5.swap.drop⟩, by simp [intOf]; omega⟩
      · obtain rfl : k = l.length := by omega
        have hE := ex_some HF.out (by have := hsay.out; rwa [List.take_length] at this)
        have hE := ExpandSt.some hE s1
        clear hrow
        go_wp2
        go_ret2
        exact hE

end Go.Proofs.YtpcbhmkalofkmaaGreat.Tok
