/-
  No cell of these rows narrows 'for every input' (looked for: loops, veiled, ifaces, maps, wideKeys, modest, calm, conditions, laid).
  DERIVED. THE GIVEN ROWS OF THIS SEAT. 6 by the template 'for every input the law returns true; each argument reads behind the call as it read before'; 0 by the template 'total and deterministic' (their statements: YthmkkbaenccgiaaTotals.lean).
  GIVEN WITH THE SEED: the statements are not yours to turn. If you find one false, say at which input.
  Laid BY PROGRAM, IN A SANDBOX (cutbox-rows.mjs): the forced cells as the released guide's own fill.sh prints them over the translation 1bf38c5ef900bc8d… (all of the seat's roots in one cut). By AI agents, Wed Nov 11 2026. No macro, syntax, notation, axiom, sorry.
-/
import Derived.Test.YthmkkbaenccgiaaChecked
import GoSem.Claim
import GoSem.ClaimJoined
import GoSem.ClaimMapViews
import Derived.JoinedTies
import Derived.KernelRfl
namespace Go.Proofs.Ythmkkbaenccgiaa
/- THE CELL 'sum', in the pinned program and in every row, IS THE sha256 OF THE DUMP (.gsa) THAT YthmkkbaenccgiaaProg.lean LOADS. Nothing in Lean hashes anything: it is a label: what it is worth is what the hold of that sum in a sandbox is worth. -/
noncomputable def Try.pinned : Pinned := { name := "ythmkkbaenccgiaa", sum := "1bf38c5ef900bc8d1beb2979cd791a7c35bcc3ad228af0fd8ccb9e4ae902bef9", checked := Try.checked }
namespace Rows
def none {H : Type} : Left H := { results := [], args := [] }

/-- 'pressworklaw07.RepeatPacks': WHATEVER THE INPUT: true; the input reads as it did. -/
def repeatPacksSpec : ChangeSpec := { name := "repeatPacks", fn := fun _ => fun
  | [d1, d2] => { results := [.lit (.bool true)], args := [d1, d2] }
  | _ => none }
def repeatPacksRow : OpenClaim := { program := "ythmkkbaenccgiaa", sum := "1bf38c5ef900bc8d1beb2979cd791a7c35bcc3ad228af0fd8ccb9e4ae902bef9", func := "presswork/pressworklaw07.RepeatPacks", spec := "repeatPacks", unfollowed := true, recurses := true, apart := false }
def RepeatPacksSaid : Prop := repeatPacksRow.holds Try.pinned (OpenSpec.ofChange repeatPacksSpec)

/-- ITS FALSE NEIGHBOUR: 'it returns false'. Refute it at one input. -/
def repeatPacksWrong : ChangeSpec := { name := "repeatPacks", fn := fun _ => fun
  | [d1, d2] => { results := [.lit (.bool false)], args := [d1, d2] }
  | _ => none }
def RepeatPacksWrongFalsely : Prop := repeatPacksRow.holds Try.pinned (OpenSpec.ofChange repeatPacksWrong)

/-- 'pressworklaw07.RepeatUnpacks': WHATEVER THE INPUT: true; the input reads as it did. -/
def repeatUnpacksSpec : ChangeSpec := { name := "repeatUnpacks", fn := fun _ => fun
  | [d1, d2] => { results := [.lit (.bool true)], args := [d1, d2] }
  | _ => none }
def repeatUnpacksRow : OpenClaim := { program := "ythmkkbaenccgiaa", sum := "1bf38c5ef900bc8d1beb2979cd791a7c35bcc3ad228af0fd8ccb9e4ae902bef9", func := "presswork/pressworklaw07.RepeatUnpacks", spec := "repeatUnpacks", unfollowed := true, recurses := true, apart := false }
def RepeatUnpacksSaid : Prop := repeatUnpacksRow.holds Try.pinned (OpenSpec.ofChange repeatUnpacksSpec)

/-- ITS FALSE NEIGHBOUR: 'it returns false'. Refute it at one input. -/
def repeatUnpacksWrong : ChangeSpec := { name := "repeatUnpacks", fn := fun _ => fun
  | [d1, d2] => { results := [.lit (.bool false)], args := [d1, d2] }
  | _ => none }
def RepeatUnpacksWrongFalsely : Prop := repeatUnpacksRow.holds Try.pinned (OpenSpec.ofChange repeatUnpacksWrong)

/-- 'pressworklaw07.RepeatBack': WHATEVER THE INPUT: true; the input reads as it did. -/
def repeatBackSpec : ChangeSpec := { name := "repeatBack", fn := fun _ => fun
  | [d1, d2] => { results := [.lit (.bool true)], args := [d1, d2] }
  | _ => none }
def repeatBackRow : OpenClaim := { program := "ythmkkbaenccgiaa", sum := "1bf38c5ef900bc8d1beb2979cd791a7c35bcc3ad228af0fd8ccb9e4ae902bef9", func := "presswork/pressworklaw07.RepeatBack", spec := "repeatBack", unfollowed := true, recurses := true, apart := false }
def RepeatBackSaid : Prop := repeatBackRow.holds Try.pinned (OpenSpec.ofChange repeatBackSpec)

/-- ITS FALSE NEIGHBOUR: 'it returns false'. Refute it at one input. -/
def repeatBackWrong : ChangeSpec := { name := "repeatBack", fn := fun _ => fun
  | [d1, d2] => { results := [.lit (.bool false)], args := [d1, d2] }
  | _ => none }
def RepeatBackWrongFalsely : Prop := repeatBackRow.holds Try.pinned (OpenSpec.ofChange repeatBackWrong)

/-- 'pressworklaw07.RepeatRuns': WHATEVER THE INPUT: true; the input reads as it did. -/
def repeatRunsSpec : ChangeSpec := { name := "repeatRuns", fn := fun _ => fun
  | [d1, d2] => { results := [.lit (.bool true)], args := [d1, d2] }
  | _ => none }
def repeatRunsRow : OpenClaim := { program := "ythmkkbaenccgiaa", sum := "1bf38c5ef900bc8d1beb2979cd791a7c35bcc3ad228af0fd8ccb9e4ae902bef9", func := "presswork/pressworklaw07.RepeatRuns", spec := "repeatRuns", unfollowed := true, recurses := true, apart := false }
def RepeatRunsSaid : Prop := repeatRunsRow.holds Try.pinned (OpenSpec.ofChange repeatRunsSpec)

/-- ITS FALSE NEIGHBOUR: 'it returns false'. Refute it at one input. -/
def repeatRunsWrong : ChangeSpec := { name := "repeatRuns", fn := fun _ => fun
  | [d1, d2] => { results := [.lit (.bool false)], args := [d1, d2] }
  | _ => none }
def RepeatRunsWrongFalsely : Prop := repeatRunsRow.holds Try.pinned (OpenSpec.ofChange repeatRunsWrong)

/-- 'pressworklaw07.RepeatJoins': WHATEVER THE INPUT: true; the input reads as it did. -/
def repeatJoinsSpec : ChangeSpec := { name := "repeatJoins", fn := fun _ => fun
  | [d1, d2] => { results := [.lit (.bool true)], args := [d1, d2] }
  | _ => none }
def repeatJoinsRow : OpenClaim := { program := "ythmkkbaenccgiaa", sum := "1bf38c5ef900bc8d1beb2979cd791a7c35bcc3ad228af0fd8ccb9e4ae902bef9", func := "presswork/pressworklaw07.RepeatJoins", spec := "repeatJoins", unfollowed := true, recurses := true, apart := false }
def RepeatJoinsSaid : Prop := repeatJoinsRow.holds Try.pinned (OpenSpec.ofChange repeatJoinsSpec)

/-- ITS FALSE NEIGHBOUR: 'it returns false'. Refute it at one input. -/
def repeatJoinsWrong : ChangeSpec := { name := "repeatJoins", fn := fun _ => fun
  | [d1, d2] => { results := [.lit (.bool false)], args := [d1, d2] }
  | _ => none }
def RepeatJoinsWrongFalsely : Prop := repeatJoinsRow.holds Try.pinned (OpenSpec.ofChange repeatJoinsWrong)

/-- 'pressworklaw07.RepeatKnown': WHATEVER THE INPUT: true; the input reads as it did. -/
def repeatKnownSpec : ChangeSpec := { name := "repeatKnown", fn := fun _ => fun
  | [] => { results := [.lit (.bool true)], args := [] }
  | _ => none }
def repeatKnownRow : OpenClaim := { program := "ythmkkbaenccgiaa", sum := "1bf38c5ef900bc8d1beb2979cd791a7c35bcc3ad228af0fd8ccb9e4ae902bef9", func := "presswork/pressworklaw07.RepeatKnown", spec := "repeatKnown", unfollowed := true, recurses := true, apart := false }
def RepeatKnownSaid : Prop := repeatKnownRow.holds Try.pinned (OpenSpec.ofChange repeatKnownSpec)

/-- ITS FALSE NEIGHBOUR: 'it returns false'. Refute it at one input. -/
def repeatKnownWrong : ChangeSpec := { name := "repeatKnown", fn := fun _ => fun
  | [] => { results := [.lit (.bool false)], args := [] }
  | _ => none }
def RepeatKnownWrongFalsely : Prop := repeatKnownRow.holds Try.pinned (OpenSpec.ofChange repeatKnownWrong)

/- THE SECOND FORM. 'bulk': how many values and letters a reading holds, each counted each time it is reached (what is shared counts as often as it is met; a slice's spare places count too). A statement '..UptoSaid' is the law's where the arguments, and the package variables that the reading takes, are together of bulk at most 1048576: NARROWER than '..Said'. Prove '..Said' where nothing that the law and all that it calls make is longer than what came in: it says more and counts as full. Else prove '..UptoSaid'. A law counts once. -/
mutual
def uptoBulk {H : Type} : DataW H → Nat
  | .lit (.string bytes) => bytes.length + 1
  | .lit _ => 1
  | .nil => 1
  | .ptr d => uptoBulk d + 1
  | .slice elems spare => uptoBulkAll elems + uptoBulkAll spare + 1
  | .agg parts => uptoBulkAll parts + 1
  | .iface _ d => uptoBulk d + 1
  | .map entries => uptoBulkEntries entries + 1
  | .held _ => 1
def uptoBulkAll {H : Type} : List (DataW H) → Nat
  | [] => 0
  | d :: r => uptoBulk d + uptoBulkAll r
def uptoBulkEntries {H : Type} : List (Lit × DataW H) → Nat
  | [] => 0
  | x :: r => uptoBulkEntry x + uptoBulkEntries r
def uptoBulkEntry {H : Type} : Lit × DataW H → Nat
  | (.string bytes, d) => bytes.length + uptoBulk d + 1
  | (_, d) => uptoBulk d + 1
 end
def uptoSmall : (H : Type) → List (DataW H) → Bool := fun _ ds => decide (uptoBulkAll ds ≤ 1048576)
def OpenSpec.upto (s : _root_.Go.ChangeSpec) : _root_.Go.OpenSpec := { _root_.Go.OpenSpec.ofChange s with cond := some uptoSmall }

/-- 'pressworklaw07.RepeatPacks', WHERE WHAT IT READS IS OF BULK AT MOST 1048576: true; the input reads as it did. -/
def repeatPacksUptoRow : OpenClaim := { program := "ythmkkbaenccgiaa", sum := "1bf38c5ef900bc8d1beb2979cd791a7c35bcc3ad228af0fd8ccb9e4ae902bef9", func := "presswork/pressworklaw07.RepeatPacks", spec := "repeatPacks", unfollowed := true, recurses := true, apart := false, narrowed := true }
def RepeatPacksUptoSaid : Prop := repeatPacksUptoRow.holds Try.pinned (OpenSpec.upto repeatPacksSpec)

/-- 'pressworklaw07.RepeatUnpacks', WHERE WHAT IT READS IS OF BULK AT MOST 1048576: true; the input reads as it did. -/
def repeatUnpacksUptoRow : OpenClaim := { program := "ythmkkbaenccgiaa", sum := "1bf38c5ef900bc8d1beb2979cd791a7c35bcc3ad228af0fd8ccb9e4ae902bef9", func := "presswork/pressworklaw07.RepeatUnpacks", spec := "repeatUnpacks", unfollowed := true, recurses := true, apart := false, narrowed := true }
def RepeatUnpacksUptoSaid : Prop := repeatUnpacksUptoRow.holds Try.pinned (OpenSpec.upto repeatUnpacksSpec)

/-- 'pressworklaw07.RepeatBack', WHERE WHAT IT READS IS OF BULK AT MOST 1048576: true; the input reads as it did. -/
def repeatBackUptoRow : OpenClaim := { program := "ythmkkbaenccgiaa", sum := "1bf38c5ef900bc8d1beb2979cd791a7c35bcc3ad228af0fd8ccb9e4ae902bef9", func := "presswork/pressworklaw07.RepeatBack", spec := "repeatBack", unfollowed := true, recurses := true, apart := false, narrowed := true }
def RepeatBackUptoSaid : Prop := repeatBackUptoRow.holds Try.pinned (OpenSpec.upto repeatBackSpec)

/-- 'pressworklaw07.RepeatRuns', WHERE WHAT IT READS IS OF BULK AT MOST 1048576: true; the input reads as it did. -/
def repeatRunsUptoRow : OpenClaim := { program := "ythmkkbaenccgiaa", sum := "1bf38c5ef900bc8d1beb2979cd791a7c35bcc3ad228af0fd8ccb9e4ae902bef9", func := "presswork/pressworklaw07.RepeatRuns", spec := "repeatRuns", unfollowed := true, recurses := true, apart := false, narrowed := true }
def RepeatRunsUptoSaid : Prop := repeatRunsUptoRow.holds Try.pinned (OpenSpec.upto repeatRunsSpec)

/-- 'pressworklaw07.RepeatJoins', WHERE WHAT IT READS IS OF BULK AT MOST 1048576: true; the input reads as it did. -/
def repeatJoinsUptoRow : OpenClaim := { program := "ythmkkbaenccgiaa", sum := "1bf38c5ef900bc8d1beb2979cd791a7c35bcc3ad228af0fd8ccb9e4ae902bef9", func := "presswork/pressworklaw07.RepeatJoins", spec := "repeatJoins", unfollowed := true, recurses := true, apart := false, narrowed := true }
def RepeatJoinsUptoSaid : Prop := repeatJoinsUptoRow.holds Try.pinned (OpenSpec.upto repeatJoinsSpec)

/-- 'pressworklaw07.RepeatKnown', WHERE WHAT IT READS IS OF BULK AT MOST 1048576: true; the input reads as it did. -/
def repeatKnownUptoRow : OpenClaim := { program := "ythmkkbaenccgiaa", sum := "1bf38c5ef900bc8d1beb2979cd791a7c35bcc3ad228af0fd8ccb9e4ae902bef9", func := "presswork/pressworklaw07.RepeatKnown", spec := "repeatKnown", unfollowed := true, recurses := true, apart := false, narrowed := true }
def RepeatKnownUptoSaid : Prop := repeatKnownUptoRow.holds Try.pinned (OpenSpec.upto repeatKnownSpec)

end Rows
end Go.Proofs.Ythmkkbaenccgiaa
