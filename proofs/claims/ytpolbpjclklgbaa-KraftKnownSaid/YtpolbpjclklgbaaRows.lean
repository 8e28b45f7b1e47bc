/-
  No cell of these rows narrows 'for every input' (looked for: loops, veiled, ifaces, maps, wideKeys, modest, calm, conditions, laid).
  DERIVED. THE GIVEN ROWS OF THIS SEAT. 3 by the template 'for every input the law returns true; each argument reads behind the call as it read before'; 0 by the template 'total and deterministic' (their statements: YtpolbpjclklgbaaTotals.lean).
  GIVEN WITH THE SEED: the statements are not yours to turn. If you find one false, say at which input.
  Laid BY PROGRAM, IN A SANDBOX (cutbox-rows.mjs): the forced cells as the released guide's own fill.sh prints them over the translation d8d2fdeecab9629e… (all of the seat's roots in one cut). By AI agents, Wed Nov 11 2026. No macro, syntax, notation, axiom, sorry.
-/
import Derived.Test.YtpolbpjclklgbaaChecked
import GoSem.Claim
import GoSem.ClaimJoined
import GoSem.ClaimMapViews
import Derived.JoinedTies
import Derived.KernelRfl
namespace Go.Proofs.Ytpolbpjclklgbaa
/- THE CELL 'sum', in the pinned program and in every row, IS THE sha256 OF THE DUMP (.gsa) THAT YtpolbpjclklgbaaProg.lean LOADS. Nothing in Lean hashes anything: it is a label: what it is worth is what the hold of that sum in a sandbox is worth. -/
noncomputable def Try.pinned : Pinned := { name := "ytpolbpjclklgbaa", sum := "d8d2fdeecab9629ec5a58ea0c594f7704409a4c41b64a7295bcc359e3420bc7d", checked := Try.checked }
namespace Rows
def none {H : Type} : Left H := { results := [], args := [] }

/-- 'pressworklaw05.LimitFree': WHATEVER THE INPUT: true; the input reads as it did. -/
def limitFreeSpec : ChangeSpec := { name := "limitFree", fn := fun _ => fun
  | [d] => { results := [.lit (.bool true)], args := [d] }
  | _ => none }
def limitFreeRow : OpenClaim := { program := "ytpolbpjclklgbaa", sum := "d8d2fdeecab9629ec5a58ea0c594f7704409a4c41b64a7295bcc359e3420bc7d", func := "presswork/pressworklaw05.LimitFree", spec := "limitFree", unfollowed := true, recurses := true, apart := false }
def LimitFreeSaid : Prop := limitFreeRow.holds Try.pinned (OpenSpec.ofChange limitFreeSpec)

/-- ITS FALSE NEIGHBOUR: 'it returns false'. Refute it at one input. -/
def limitFreeWrong : ChangeSpec := { name := "limitFree", fn := fun _ => fun
  | [d] => { results := [.lit (.bool false)], args := [d] }
  | _ => none }
def LimitFreeWrongFalsely : Prop := limitFreeRow.holds Try.pinned (OpenSpec.ofChange limitFreeWrong)

/-- 'pressworklaw05.LimitAsks': WHATEVER THE INPUT: true; the input reads as it did. -/
def limitAsksSpec : ChangeSpec := { name := "limitAsks", fn := fun _ => fun
  | [d1, d2] => { results := [.lit (.bool true)], args := [d1, d2] }
  | _ => none }
def limitAsksRow : OpenClaim := { program := "ytpolbpjclklgbaa", sum := "d8d2fdeecab9629ec5a58ea0c594f7704409a4c41b64a7295bcc359e3420bc7d", func := "presswork/pressworklaw05.LimitAsks", spec := "limitAsks", unfollowed := true, recurses := true, apart := false }
def LimitAsksSaid : Prop := limitAsksRow.holds Try.pinned (OpenSpec.ofChange limitAsksSpec)

/-- ITS FALSE NEIGHBOUR: 'it returns false'. Refute it at one input. -/
def limitAsksWrong : ChangeSpec := { name := "limitAsks", fn := fun _ => fun
  | [d1, d2] => { results := [.lit (.bool false)], args := [d1, d2] }
  | _ => none }
def LimitAsksWrongFalsely : Prop := limitAsksRow.holds Try.pinned (OpenSpec.ofChange limitAsksWrong)

/-- 'pressworklaw04.KraftKnown': WHATEVER THE INPUT: true; the input reads as it did. -/
def kraftKnownSpec : ChangeSpec := { name := "kraftKnown", fn := fun _ => fun
  | [] => { results := [.lit (.bool true)], args := [] }
  | _ => none }
def kraftKnownRow : OpenClaim := { program := "ytpolbpjclklgbaa", sum := "d8d2fdeecab9629ec5a58ea0c594f7704409a4c41b64a7295bcc359e3420bc7d", func := "presswork/pressworklaw04.KraftKnown", spec := "kraftKnown", unfollowed := true, recurses := true, apart := false }
def KraftKnownSaid : Prop := kraftKnownRow.holds Try.pinned (OpenSpec.ofChange kraftKnownSpec)

/-- ITS FALSE NEIGHBOUR: 'it returns false'. Refute it at one input. -/
def kraftKnownWrong : ChangeSpec := { name := "kraftKnown", fn := fun _ => fun
  | [] => { results := [.lit (.bool false)], args := [] }
  | _ => none }
def KraftKnownWrongFalsely : Prop := kraftKnownRow.holds Try.pinned (OpenSpec.ofChange kraftKnownWrong)

/- THE SECOND FORM. 'bulk': how many values and letters a reading holds, each counted each time it is reached (what is shared counts as often as it is met; a slice's spare places count too). A statement '..UptoSaid' is the law's where the arguments, and the package variables that the reading takes, are together of bulk at most 1048576: NARROWER than '..Said'. Prove '..Said' where nothing that the law and all that it calls make is longer than what came in: it says more and counts as full. Else prove '..UptoSaid'. A law counts once. -/
mutual
def uptoBulk {H : Type} : DataW H → Nat
  | .lit (.string bytes) => bytes.length + 1
  | .lit _ => 1
  | .nil => 1
  | .ptr d => uptoBulk d + 1
  | .slice elems spare => uptoBulkAll elems + uptoBulkAll spare + 1
  | .agg parts => uptoBulkAll parts + 1
  | .iface _ d => uptoBulk d + 1
  | .map entries => uptoBulkEntries entries + 1
  | .held _ => 1
def uptoBulkAll {H : Type} : List (DataW H) → Nat
  | [] => 0
  | d :: r => uptoBulk d + uptoBulkAll r
def uptoBulkEntries {H : Type} : List (Lit × DataW H) → Nat
  | [] => 0
  | x :: r => uptoBulkEntry x + uptoBulkEntries r
def uptoBulkEntry {H : Type} : Lit × DataW H → Nat
  | (.string bytes, d) => bytes.length + uptoBulk d + 1
  | (_, d) => uptoBulk d + 1
 end
def uptoSmall : (H : Type) → List (DataW H) → Bool := fun _ ds => decide (uptoBulkAll ds ≤ 1048576)
def OpenSpec.upto (s : _root_.Go.ChangeSpec) : _root_.Go.OpenSpec := { _root_.Go.OpenSpec.ofChange s with cond := some uptoSmall }

/-- 'pressworklaw05.LimitFree', WHERE WHAT IT READS IS OF BULK AT MOST 1048576: true; the input reads as it did. -/
def limitFreeUptoRow : OpenClaim := { program := "ytpolbpjclklgbaa", sum := "d8d2fdeecab9629ec5a58ea0c594f7704409a4c41b64a7295bcc359e3420bc7d", func := "presswork/pressworklaw05.LimitFree", spec := "limitFree", unfollowed := true, recurses := true, apart := false, narrowed := true }
def LimitFreeUptoSaid : Prop := limitFreeUptoRow.holds Try.pinned (OpenSpec.upto limitFreeSpec)

/-- 'pressworklaw05.LimitAsks', WHERE WHAT IT READS IS OF BULK AT MOST 1048576: true; the input reads as it did. -/
def limitAsksUptoRow : OpenClaim := { program := "ytpolbpjclklgbaa", sum := "d8d2fdeecab9629ec5a58ea0c594f7704409a4c41b64a7295bcc359e3420bc7d", func := "presswork/pressworklaw05.LimitAsks", spec := "limitAsks", unfollowed := true, recurses := true, apart := false, narrowed := true }
def LimitAsksUptoSaid : Prop := limitAsksUptoRow.holds Try.pinned (OpenSpec.upto limitAsksSpec)

/-- 'pressworklaw04.KraftKnown', WHERE WHAT IT READS IS OF BULK AT MOST 1048576: true; the input reads as it did. -/
def kraftKnownUptoRow : OpenClaim := { program := "ytpolbpjclklgbaa", sum := "d8d2fdeecab9629ec5a58ea0c594f7704409a4c41b64a7295bcc359e3420bc7d", func := "presswork/pressworklaw04.KraftKnown", spec := "kraftKnown", unfollowed := true, recurses := true, apart := false, narrowed := true }
def KraftKnownUptoSaid : Prop := kraftKnownUptoRow.holds Try.pinned (OpenSpec.upto kraftKnownSpec)

end Rows
end Go.Proofs.Ytpolbpjclklgbaa
