/-
  Contracts of package token: what begins where the one ahead ended, as a range over a function, and gathered. No conditions but those of the calls.
-/
import Derived.Test.YtmooiheomecieaaTokS
import Derived.Test.YtmooiheomecieaaBox
import Derived.Test.YtmooiheomecieaaHeld
import Derived.Test.YtmooiheomecieaaCount
import Derived.Test.YtmooiheomecieaaRegIn
import Derived.Sort.QuietTacIn
import Derived.Sort.BigQuietIn
namespace Go.Proofs.Ytmooiheomecieaa.Tok
open Go.RowKit Go.Shelf

attribute [local go_sem] Oper.semAt_some

set_option maxHeartbeats 1000000 in
/-- rising: the numbers are boxed; the function that comes back holds the boxes. -/
theorem rising_any (x y z : Int) (w : World) :
    Calls Try.prog 36 #[.int .i64 x, .int .i64 y, .int .i64 z] w fun e w' => e = .returned (.func (.func 38) #[] #[.pointer (some ⟨w.heap.size, 0, none⟩), .pointer (some ⟨w.heap.size + 1, 0, none⟩), .pointer (some ⟨w.heap.size + 2, 0, none⟩)]) ∧
      w' = ((w.alloc (.cells #[.int .i64 x] 3)).alloc (.cells #[.int .i64 y] 3)).alloc (.cells #[.int .i64 z] 3) := by
  have hmf : ∀ (fn : Fn) (first cap : Array Value) (w : World), (Instr.makeFunc fn first cap).run Try.prog w = .ok (.func fn first cap) w := fun _ _ _ _ => rfl
  go_enter Try.func36, Try.ntmps36
  go_wp2
  go_ret
  exact ⟨rfl, rfl⟩



def riseL (first each k : Nat) : Nat := rise first each k
def riseN (each k : Nat) : Nat := riseB each k
/-- The arguments of round k. -/
def riseArgs (first each k : Nat) : Array Value := #[.int .i64 (riseL first each k : Int), .int .i64 (riseN each k : Int)]

theorem riseL_next (first each k : Nat) : riseL first each (k + 1) = riseL first each k + 2 ^ riseN each k := rfl

set_option maxRecDepth 100000 in
set_option maxHeartbeats 2000000 in
/-- The function over them. -/
theorem rising_seq (F : Fence) (n : Nat) (h26 : F.fn 38) (hro : F.round = none) (hn : 1 ≤ n) (B1 n0 first num each : Nat) (w : World) (hB0 : B1 + 2 < n0) (hn0 : n0 ≤ w.heap.size) (hnum : num ≤ 1000) (he : 1 ≤ each) (hee : each ≤ 1000) (hsm : ∀ k, k ≤ num → riseL first each k ≤ 1000000 ∧ riseN each k ≤ 30)
    (hb1 : w.cell? ⟨B1, 0, none⟩ = some (.int .i64 (first : Int))) (hb2 : w.cell? ⟨B1 + 1, 0, none⟩ = some (.int .i64 (num : Int))) (hb3 : w.cell? ⟨B1 + 2, 0, none⟩ = some (.int .i64 (each : Int))) :
    SeqN F n Try.prog 38 #[.pointer (some ⟨B1, 0, none⟩), .pointer (some ⟨B1 + 1, 0, none⟩), .pointer (some ⟨B1 + 2, 0, none⟩)] (riseArgs first each) (Below n0) num w := by
  intro l J W hW hA hY h0
  refine callsIn_of_wp Try.func38 rfl h26 ?_ hro
  simp only [Try.ntmps38, List.size_toArray, List.length_cons, List.length_nil, Nat.reduceAdd, Nat.reduceSub, Array.replicate_succ, Array.replicate_zero, List.push_toArray, List.append_toArray, List.nil_append, List.cons_append]
  have c1 := (hW.cell (p := ⟨B1, 0, none⟩) (by simp only []; omega)).trans hb1
  have c2 := (hW.cell (p := ⟨B1 + 1, 0, none⟩) (by simp only []; omega)).trans hb2
  have c3 := (hW.cell (p := ⟨B1 + 2, 0, none⟩) (by simp only []; omega)).trans hb3
  have hW0 : Below n0 w W := hW.mono hn0
  have c30 := hb3
  clear hb1 hb2 hb3
  gi_wp2
  gi_loopw [5, 6, 7, 10] (fun lv _ _ iv wr => ∃ k : Nat, k ≤ num ∧ iv = .int .i64 (k : Int) ∧ lv = .int .i64 (riseL first each k : Int) ∧ J k wr ∧ Below n0 w wr)
    (fun _ _ _ iv _ => num - (intOf iv).toNat)
  case atStart => exact ⟨0, Nat.zero_le _, rfl, rfl, h0, hW0⟩
  case round =>
    obtain ⟨k, hk, rfl, rfl, hJ, hBl⟩ := hrel
    by_cases hlt : k < num
    · have d1 := (hBl.cell (p := ⟨B1 + 2, 0, none⟩) (by simp only []; omega)).trans c30
      obtain ⟨fn, tmps, assign, body, hy, hR⟩ := hY k wr hlt hJ
      have hq0 : (k : Int) / (each : Int) = ((k / each : Nat) : Int) := by simp
      have hqk : k / each ≤ k := Nat.div_le_self _ _
      have hN : riseN each k = k / each - 1 := rfl
      have hs1 := hsm k hk
      have hs2 := hsm (k + 1) hlt
      have hnx := riseL_next first each k
      unfold riseArgs at hy
      obtain ⟨lb, hlbE⟩ : ∃ lb, riseL first each (k + 1) = lb := ⟨_, rfl⟩
      rw [hlbE] at hs2 hnx
      have HLB := Lib.hid hlbE
      clear hlbE
      generalize riseL first each k = la at *
      rw [hN] at hy hs1 hnx
      clear hN hsm
      generalize k / each = q at *
      by_cases hq : q = 0
      · subst hq
        have hy : (Instr.yield l #[.int .i64 (la : Int), .int .i64 0]).run Try.prog wr = _ := hy
        have hlb : (la : Int) + 1 = (lb : Int) := by rw [hnx]; rfl
        have hlb2 : lb ≤ 1000000 := hs2.1
        have hla2 : la ≤ 1000000 := hs1.1
        clear hs1 hs2 hnx hqk
        gi_wp2
        refine hR.mono ?_
        rintro e W3 ⟨rfl, hJ3, hk3⟩
        clear hR hy
        gi_wp2
        exact ⟨⟨k + 1, by omega, by go_num, by rw [HLB.out], hJ3, hBl.trans hk3⟩, by simp only [intOf, Int.toNat_natCast]; omega⟩
      · obtain ⟨p, rfl⟩ : ∃ p, q = p + 1 := ⟨q - 1, by omega⟩
        rw [Nat.add_sub_cancel] at hy hs1 hnx
        obtain ⟨P, hP⟩ : ∃ P : Nat, 2 ^ p = P := ⟨_, rfl⟩
        rw [hP] at hnx
        have hP1 : (2 : Int) ^ p = (P : Int) := by rw [← hP]; simp
        have hlb : (la : Int) + (P : Int) = (lb : Int) := by omega
        have hlb2 : lb ≤ 1000000 := hs2.1
        have hla2 : la ≤ 1000000 := hs1.1
        have hp30 : p ≤ 30 := hs1.2
        have HP := Lib.hid hP
        clear hs1 hs2 hnx hqk hq hP
        gi_wp2
        refine hR.mono ?_
        rintro e W3 ⟨rfl, hJ3, hk3⟩
        clear hR hy
        gi_wp2
        exact ⟨⟨k + 1, by omega, by go_num, by rw [HLB.out], hJ3, hBl.trans hk3⟩, by simp only [intOf, Int.toNat_natCast]; omega⟩
    · obtain rfl : k = num := by omega
      gi_wp2
      go_end0
      exact ⟨⟨_, rfl⟩, hJ⟩

end Go.Proofs.Ytmooiheomecieaa.Tok
