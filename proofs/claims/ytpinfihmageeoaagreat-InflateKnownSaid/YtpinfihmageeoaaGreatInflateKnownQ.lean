/-
  Facts for InflateKnown: the two streams that say a repetition of 258. No program. No conditions.
-/
import Derived.Test.YtpinfihmageeoaaGreatInflateKnownP
namespace Go.Proofs.YtpinfihmageeoaaGreat.Inf
open Kraft Hd

theorem step_copy {P Q : List Nat} {R : List Bool} {q q' q2 q3 c x f n : Nat} {o : List Nat} (h : symAt P R q = some (c, q')) (h1 : 256 < c) (h2 : c ≤ 285) (hx : numAt R q' (lenB c) = some (x, q2)) (hy : farAt Q R q2 = some (f, q3)) (hl : f ≤ o.length) (hn : lenL c + x = n) :
    step P Q R q o = some (false, q3, Tok.rep f n o) := by
  rw [step_len h h1 h2, hx]
  simp only [Option.bind_some]
  rw [hy]
  simp only [Option.bind_some]
  rw [if_neg (by omega), hn]

theorem kn_far1 : infl [75, 76, 26, 5, 0] = some (39, Tok.rep 1 258 [97, 98]) := by
  rw [infl_fix (by decide) (by decide +kernel) (by decide +kernel), syms_on (p' := 11) (out' := [97]) (by rw [row_length]; decide) (step_lit (c := 97) (by decide +kernel) (by decide)),
    syms_on (p' := 19) (out' := [97, 98]) (by rw [row_length]; decide) (step_lit (c := 98) (by decide +kernel) (by decide)),
    syms_on (p' := 32) (out' := Tok.rep 1 258 [97, 98]) (by rw [row_length]; decide) (step_copy (c := 285) (x := 0) (f := 1) (q' := 27) (q2 := 27) (by decide +kernel) (by decide) (by decide) (by decide +kernel) (by decide +kernel) (by decide) (by decide +kernel))]
  exact syms_end (by rw [row_length]; decide) (step_eob (by decide +kernel))

theorem kn_far2 : infl [75, 76, 26, 133, 0] = some (39, Tok.rep 2 258 [97, 98]) := by
  rw [infl_fix (by decide) (by decide +kernel) (by decide +kernel), syms_on (p' := 11) (out' := [97]) (by rw [row_length]; decide) (step_lit (c := 97) (by decide +kernel) (by decide)),
    syms_on (p' := 19) (out' := [97, 98]) (by rw [row_length]; decide) (step_lit (c := 98) (by decide +kernel) (by decide)),
    syms_on (p' := 32) (out' := Tok.rep 2 258 [97, 98]) (by rw [row_length]; decide) (step_copy (c := 285) (x := 0) (f := 2) (q' := 27) (q2 := 27) (by decide +kernel) (by decide) (by decide) (by decide +kernel) (by decide +kernel) (by decide) (by decide +kernel))]
  exact syms_end (by rw [row_length]; decide) (step_eob (by decide +kernel))

end Go.Proofs.YtpinfihmageeoaaGreat.Inf
