/-
  Contracts of package token: the search for what says a number. No conditions but those of the calls.
-/
import Derived.Test.YtmooiheomecieaaTokS
import Derived.Test.YtmooiheomecieaaBox
import Derived.Test.YtmooiheomecieaaHeld
namespace Go.Proofs.Ytmooiheomecieaa.Tok
open Go.RowKit

set_option maxRecDepth 100000 in
set_option maxHeartbeats 2000000 in
/-- The closure: does this one begin above n? -/
theorem above_any (w : World) (lb nb : Nat) (v : Value) (L : List (Nat × Nat)) (n k : Nat) (hrow : SpanRow w v L) (hl : w.cell? ⟨lb, 0, none⟩ = some v) (hn : w.cell? ⟨nb, 0, none⟩ = some (.int .i64 (n : Int))) (hk : k < L.length) :
    Calls Try.prog 34 #[.int .i64 (k : Int), .pointer (some ⟨lb, 0, none⟩), .pointer (some ⟨nb, 0, none⟩)] w fun e w' => e = .returned (.bool (decide (n < L[k].1))) ∧ Below w.heap.size w w' := by
  obtain ⟨b, cap, rfl, hcap, hat⟩ := hrow
  obtain ⟨c0, c1⟩ := hat k hk
  obtain ⟨y, hy⟩ : ∃ y, L[k].1 = y := ⟨_, rfl⟩
  rw [hy] at c0 ⊢
  clear hat c1 hy
  go_enter Try.func34, Try.ntmps34
  go_wp2
  go_quiet (fail)
  go_wp2
  go_ret
  exact ⟨by simp, below_drewN _⟩

set_option maxRecDepth 100000 in
set_option maxHeartbeats 2000000 in
/-- sort.Search: how many begin at or below n. -/
theorem search_any (w : World) (lb nb : Nat) (v : Value) (L : List (Nat × Nat)) (n : Nat) (hrow : SpanRow w v L) (hl : w.cell? ⟨lb, 0, none⟩ = some v) (hn : w.cell? ⟨nb, 0, none⟩ = some (.int .i64 (n : Int))) (hr : Rises L) (hlen : L.length ≤ 1000) :
    Calls Try.prog 33 #[.int .i64 (L.length : Int), .func (.func 34) #[] #[.pointer (some ⟨lb, 0, none⟩), .pointer (some ⟨nb, 0, none⟩)]] w fun e w' => e = .returned (.int .i64 (upTo L n : Int)) ∧ Below w.heap.size w w' := by
  have hu := upTo_iff L n hr
  have hul := upTo_le L n
  generalize upTo L n = u at *
  have HU := Lib.hid hu
  clear hu hr
  go_enter Try.func33, Try.ntmps33
  go_wp2
  go_loopw [5, 6, 7] (fun iv jv _ wr => ∃ i j : Nat, iv = .int .i64 (i : Int) ∧ jv = .int .i64 (j : Int) ∧ i ≤ u ∧ u ≤ j ∧ j ≤ L.length ∧ Below w.heap.size w wr) (fun iv jv _ _ => (intOf jv).toNat - (intOf iv).toNat)
  case atStart => exact ⟨0, L.length, rfl, rfl, Nat.zero_le _, hul, Nat.le_refl _, Below.refl _ _⟩
  case round =>
    obtain ⟨i, j, rfl, rfl, hi, hj, hjl, hB⟩ := hrel
    by_cases hij : i < j
    · obtain ⟨h, hh⟩ : ∃ h, (i + j) / 2 = h := ⟨_, rfl⟩
      have hh2 : ((i : Int) + (j : Int)) / 2 = (h : Int) := by omega
      have h1 : i ≤ h := by omega
      have h2 : h < j := by omega
      have ha := above_any wr lb nb v L n h (hrow.below hB (Nat.le_refl _)) ((hB.cell (World.block_lt_of_cell? w _ hl)).trans hl) ((hB.cell (World.block_lt_of_cell? w _ hn)).trans hn) (by omega)
      have hx := HU.out h (by omega)
      by_cases hc : h < u
      · rw [decide_eq_false (by omega)] at ha
        clear hx hh
        go_wp2_with (go_at_call 34; refine ha.mono ?_; rintro e w1 ⟨rfl, hb1⟩)
        go_roundw
        case rel => exact ⟨h + 1, j, by go_num, rfl, by omega, hj, hjl, hB.trans (hb1.mono hB.size)⟩
        case measure => simp [intOf]; omega
      · rw [decide_eq_true (by omega)] at ha
        clear hx hh
        go_wp2_with (go_at_call 34; refine ha.mono ?_; rintro e w1 ⟨rfl, hb1⟩)
        go_roundw
        case rel => exact ⟨i, h, rfl, by go_num, hi, by omega, by omega, hB.trans (hb1.mono hB.size)⟩
        case measure => simp [intOf]; omega
    · obtain rfl : i = u := by omega
      go_wp2
      go_ret
      exact ⟨rfl, hB⟩

end Go.Proofs.Ytmooiheomecieaa.Tok
