/-
  Facts for InflateKnown: what the chapter's examples say. No program. No conditions.
-/
import Derived.Test.YtpinfihmageeoaaGreatGR
namespace Go.Proofs.YtpinfihmageeoaaGreat.Inf
open Kraft Hd

theorem kn_ab : infl [1, 2, 0, 253, 255, 97, 98] = some (56, [97, 98]) := strm_end (by decide +kernel)
theorem kn_nil : infl [] = none := strm_none (by decide +kernel)
theorem kn_twice : infl [1, 2, 0, 253, 254, 97, 98] = none := strm_none (by decide +kernel)
theorem kn_short : infl [1, 2, 0, 253, 255, 97] = none := strm_none (by decide +kernel)
theorem kn_zero : infl [1, 0, 0, 255, 255] = some (40, []) := strm_end (by decide +kernel)
theorem kn_two : infl [0, 1, 0, 254, 255, 97, 1, 1, 0, 254, 255, 98] = some (96, [97, 98]) := by
  unfold infl
  rw [strm_on (q := 48) (o := [97]) (by decide +kernel)]
  exact strm_end (by decide +kernel)
theorem kn_open : infl [0, 1, 0, 254, 255, 97] = none := by
  unfold infl
  rw [strm_on (q := 48) (o := [97]) (by decide +kernel)]
  exact strm_none (by decide +kernel)
theorem kn_odd : infl [249, 1, 0, 254, 255, 97] = some (48, [97]) := strm_end (by decide +kernel)
theorem kn_head : infl [5, 0] = none := strm_none (by decide +kernel)

/-- A stream that begins with a last block of the fixed codes. -/
theorem infl_fix {xs : List Nat} (h : 1 ≤ xs.length) (h0 : nm (row xs) (0 + 1) 2 = 1) (h1 : nm (row xs) 0 1 = 1) : infl xs = syms fixP fixQ (row xs) 3 [] := by
  have hl : ¬ (row xs).length < 0 + 3 := by rw [row_length]; omega
  unfold infl
  cases hs : syms fixP fixQ (row xs) 3 [] with
  | none =>
    refine strm_none ?_
    unfold blockAt
    rw [if_neg hl, h0, hs]
    rfl
  | some y =>
    obtain ⟨q, o⟩ := y
    refine strm_end ?_
    unfold blockAt
    rw [if_neg hl, h0, h1, hs]
    rfl

theorem kn_a : infl [75, 4, 0] = some (18, [97]) := by
  rw [infl_fix (by decide) (by decide +kernel) (by decide +kernel), syms_on (p' := 11) (out' := [97]) (by rw [row_length]; decide) (step_lit (c := 97) (by decide +kernel) (by decide))]
  exact syms_end (by rw [row_length]; decide) (step_eob (by decide +kernel))
theorem kn_cut : infl [75, 4] = none := by
  rw [infl_fix (by decide) (by decide +kernel) (by decide +kernel), syms_on (p' := 11) (out' := [97]) (by rw [row_length]; decide) (step_lit (c := 97) (by decide +kernel) (by decide))]
  exact syms_none (step_bad (by decide +kernel))
theorem kn_three : infl [3] = none := by
  rw [infl_fix (by decide) (by decide +kernel) (by decide +kernel)]
  exact syms_none (step_bad (by decide +kernel))

theorem kn_far3 : infl [75, 76, 26, 69, 0] = none := by
  rw [infl_fix (by decide) (by decide +kernel) (by decide +kernel), syms_on (p' := 11) (out' := [97]) (by rw [row_length]; decide) (step_lit (c := 97) (by decide +kernel) (by decide)),
    syms_on (p' := 19) (out' := [97, 98]) (by rw [row_length]; decide) (step_lit (c := 98) (by decide +kernel) (by decide))]
  exact syms_none (by decide +kernel)
theorem kn_s284 : infl [27, 1, 0, 0] = none := by
  rw [infl_fix (by decide) (by decide +kernel) (by decide +kernel)]
  exact syms_none (by decide +kernel)
theorem kn_s285 : infl [27, 5, 0, 0] = none := by
  rw [infl_fix (by decide) (by decide +kernel) (by decide +kernel)]
  exact syms_none (by decide +kernel)
theorem kn_s286 : infl [27, 3, 0, 0] = none := by
  rw [infl_fix (by decide) (by decide +kernel) (by decide +kernel)]
  exact syms_none (by decide +kernel)
theorem kn_s287 : infl [27, 7, 0, 0] = none := by
  rw [infl_fix (by decide) (by decide +kernel) (by decide +kernel)]
  exact syms_none (by decide +kernel)

end Go.Proofs.YtpinfihmageeoaaGreat.Inf
