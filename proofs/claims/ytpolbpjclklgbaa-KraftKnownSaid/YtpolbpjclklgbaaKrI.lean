/-
  Contracts of package kraft: inOrder goes through the symbols that have words in the words' order. No conditions but those of the calls.
-/
import Derived.Test.YtpolbpjclklgbaaKrQ
import Derived.RangeFuncNested
import Derived.RangeFuncBound
import Derived.RangeFuncCalls
import Derived.RangeFuncLeaves
import Derived.RangeFuncBox
import Derived.Shelf.Abstract
import Derived.Shelf.RegionOpen
import Derived.OwnWalkIn
import Derived.TacticsInMore
import Derived.LoopNIn
import Derived.LoopIn
namespace Go.Proofs.Ytpolbpjclklgbaa.Kraft
open Go.RowKit Go.Shelf

attribute [local go_sem] Oper.semAt_some

/-- What a round keeps: what lies below n0, and a box. -/
def Keep (n0 Bs : Nat) (A B : World) : Prop := Below n0 A B ∧ ∀ v, A.cell? ⟨Bs, 0, none⟩ = some v → B.cell? ⟨Bs, 0, none⟩ = some v

theorem Keep.trans {n0 Bs : Nat} {A B C : World} (h : Keep n0 Bs A B) (k : Keep n0 Bs B C) : Keep n0 Bs A C := ⟨h.1.trans k.1, fun v hv => k.2 v (h.2 v hv)⟩

theorem Keep.putObj {n0 Bs : Nat} {w : World} (hn : n0 ≤ w.heap.size) (W : World) (l : Nat) (o o' : Obj) (hl : w.heap.size ≤ l) (h : W.heap[l]? = some o) (h3 : o.isCells = false) (h4 : o.isWalk = false) : Keep n0 Bs W (W.putObj l o') :=
  ⟨belowK_b hn W l o o' hl h h3 h4, fun _ hv => cell_kept hv (grownBy_putObj' W l o') (fun r e => by cases e; exact ⟨o, h, h3⟩)⟩

theorem rowS_hit (L : List Nat) (n : Nat) (hn : n < 256) (i : Nat) (hi : i < L.length) (h : len L i = n) : rowS L n hn (i + 1) hi = rowS L n hn i (Nat.le_of_lt hi) ++ [⟨i, n, hi, hn⟩] := by
  rw [rowS, if_pos h]

theorem rowS_miss (L : List Nat) (n : Nat) (hn : n < 256) (i : Nat) (hi : i < L.length) (h : len L i ≠ n) : rowS L n hn (i + 1) hi = rowS L n hn i (Nat.le_of_lt hi) := by
  rw [rowS, if_neg h, List.append_nil]

set_option maxRecDepth 100000 in
set_option maxHeartbeats 2000000 in
/-- inOrder's function. -/
theorem inOrder1_in (F : Fence) (n : Nat) (h21 : F.fn 32) (hro : F.round = none) (hn : 1 ≤ n) (l Bs : Nat) (w : World) (a : Option Addr) (cap : Nat) (L : List Nat) (h : ByteRow w (.slice a L.length cap) L) (hl : L.length ≤ 512) (J Jx : List (Sym L) → World → Prop)
    (hY : ∀ pre x W, J pre W → pre.length < 20 * L.length → YieldAt F (n - 1) Try.prog l #[.int .i64 (x.i : Int), .int .u8 (x.n : Int)] W fun e W' =>
      (e = .returned (.bool true) ∧ J (pre ++ [x]) W' ∧ Keep w.heap.size Bs W W') ∨ (e = .returned (.bool false) ∧ Jx (pre ++ [x]) W'))
    (W : World) (hBs : W.cell? ⟨Bs, 0, none⟩ = some (.slice a L.length cap)) (hW : Below w.heap.size w W) (h0 : J [] W) :
    CallsIn F n Try.prog 32 #[.func (.yield l) #[] #[], .pointer (some ⟨Bs, 0, none⟩)] W fun e W' => (∃ v, e = .returned v) ∧
      ((∃ xs, xs = cameS L 20 (by omega) ∧ J xs W') ∨ (∃ pre, True ∧ Jx pre W')) := by
  refine callsIn_of_wp Try.func32 rfl h21 ?_ hro
  simp only [Try.ntmps32, List.size_toArray, List.length_cons, List.length_nil, Nat.reduceAdd, Nat.reduceSub, Array.replicate_succ, Array.replicate_zero, List.push_toArray, List.append_toArray, List.nil_append, List.cons_append]
  gi_wp2
  gi_loopw [3] (fun nv wr => ∃ (m : Nat) (hm : m < 256), m ≤ 20 ∧ nv = .int .u8 ((m : Int) + 1) ∧ J (cameS L m hm) wr ∧ wr.cell? ⟨Bs, 0, none⟩ = some (.slice a L.length cap) ∧ Below w.heap.size w wr)
    (fun nv _ => 21 - (intOf nv).toNat)
  case atStart => exact ⟨0, by omega, by omega, rfl, h0, hBs, hW⟩
  case round =>
    obtain ⟨m, hm, hm20, rfl, hJ, hB, hbel⟩ := hrel
    by_cases hlt : m < 20
    · have d1 : decide ((m : Int) + 1 ≤ 20) = true := by simp; omega
      have hlen := cameS_length L m hm
      gi_wp2
      gi_loopw [12] (fun iv wr2 => ∃ (k : Nat) (hk : k ≤ L.length), iv = .int .i64 (k : Int) ∧ J (cameS L m hm ++ rowS L (m + 1) (by omega) k hk) wr2 ∧ wr2.cell? ⟨Bs, 0, none⟩ = some (.slice a L.length cap) ∧ Below w.heap.size w wr2)
        (fun iv _ => L.length - (intOf iv).toNat)
      case atStart => exact ⟨0, Nat.zero_le _, rfl, by rw [rowS, List.append_nil]; exact hJ, hB, hbel⟩
      case round =>
        obtain ⟨k, hk, rfl, hJ2, hB2, hbel2⟩ := hrel
        by_cases hkl : k < L.length
        · obtain ⟨a', cap', e1, -, -, hat⟩ := h.below hbel2 (Nat.le_refl _)
          obtain ⟨rfl, -, rfl⟩ := Value.slice.inj e1
          obtain ⟨hx, b0, off, rfl, c0⟩ := hat k hkl
          have hlen2 := rowS_length L (m + 1) (by omega) k hk
          have hN : (cameS L m hm ++ rowS L (m + 1) (by omega) k hk).length < 20 * L.length := by
            rw [List.length_append]
            have := Nat.mul_le_mul_right L.length (show m + 1 ≤ 20 from hlt)
            rw [Nat.succ_mul] at this
            omega
          have hl0 := len_at L k hkl
          by_cases hown : L[k] = m + 1
          · obtain ⟨fn, tmps, assign, body, hy, hR⟩ := hY _ ⟨k, m + 1, hkl, by omega⟩ _ hJ2 hN
            dsimp only at hy
            rw [Int.natCast_add, Int.natCast_one] at hy
            rw [hown, Int.natCast_add, Int.natCast_one] at c0
            gi_wp2
            refine hR.mono ?_
            rintro e W3 (⟨rfl, hJ3, hk3⟩ | ⟨rfl, hJx3⟩)
            · gi_wp2
              go_roundw
              case rel => exact ⟨k + 1, hkl, by go_num, by rw [rowS_hit L _ _ k hkl (by omega), ← List.append_assoc]; exact hJ3, hk3.2 _ hB2, hbel2.trans hk3.1⟩
              case measure => simp [intOf]; omega
            · gi_wp2
              refine bodyPost_ret (results_none rfl _ _ _) rfl ?_
              exact ⟨⟨_, rfl⟩, .inr ⟨_, trivial, hJx3⟩⟩
          · have d2 : ¬ (L[k] : Int) = (m : Int) + 1 := by omega
            gi_wp2
            refine ⟨fun _ h => (by cases h), ?_⟩
            gi_wp2
            go_roundw
            case rel => exact ⟨k + 1, hkl, by go_num, by rw [rowS_miss L _ _ k hkl (by omega)]; exact hJ2, hB2, hbel2⟩
            case measure => simp [intOf]; omega
        · obtain rfl : k = L.length := by omega
          gi_wp2
          refine ⟨⟨m + 1, by omega, by omega, by go_num, by rw [cameS]; exact hJ2, hB2, hbel2⟩, by simp [intOf]; omega⟩
    · obtain rfl : m = 20 := by omega
      gi_wp2
      go_end0
      exact ⟨⟨_, rfl⟩, .inl ⟨_, rfl, hJ⟩⟩

set_option maxHeartbeats 1000000 in
/-- inOrder: the lengths are boxed; the function that comes back holds the box. -/
theorem inOrder_any (a : Option Addr) (len cap : Nat) (w : World) :
    Calls Try.prog 24 #[.slice a len cap] w fun e w' => e = .returned (.func (.func 32) #[] #[.pointer (some ⟨w.heap.size, 0, none⟩)]) ∧ w' = w.alloc (.cells #[.slice a len cap] 26) := by
  have hmf : ∀ (fn : Fn) (first cap : Array Value) (w : World), (Instr.makeFunc fn first cap).run Try.prog w = .ok (.func fn first cap) w := fun _ _ _ _ => rfl
  go_enter Try.func24, Try.ntmps24
  go_wp2
  go_ret
  exact ⟨rfl, rfl⟩

/-- What inOrder hands back goes through the symbols in the words' order. -/
theorem inOrder_stops (F : Fence) (n : Nat) (h21 : F.fn 32) (hro : F.round = none) (hn : 1 ≤ n) (Bs : Nat) (w : World) (a : Option Addr) (cap : Nat) (L : List Nat) (h : ByteRow w (.slice a L.length cap) L) (hl : L.length ≤ 512) (w1 : World) (hBs : Bs < w1.heap.size) (hs : w.heap.size ≤ w1.heap.size)
    (hc : w1.cell? ⟨Bs, 0, none⟩ = some (.slice a L.length cap)) (hw : Below w.heap.size w w1) :
    SeqStopsK F n Try.prog 32 #[.pointer (some ⟨Bs, 0, none⟩)] (fun x : Sym L => #[Value.int .i64 (x.i : Int), Value.int .u8 (x.n : Int)]) (Keep w.heap.size Bs) (fun xs => xs = cameS L 20 (by omega)) (fun _ => True) (20 * L.length) w1 :=
  fun l J Jx W hW _ _ hY h0 => inOrder1_in F n h21 hro hn l Bs w a cap L h hl J Jx hY W ((hW.cell (p := ⟨Bs, 0, none⟩) hBs).trans hc) (hw.trans (hW.mono hs)) h0

end Go.Proofs.Ytpolbpjclklgbaa.Kraft
