/-
  No cell of these rows narrows 'for every input' (looked for: loops, veiled, ifaces, maps, wideKeys, modest, calm, conditions, laid).
  DERIVED. THE GIVEN ROWS OF THIS SEAT. 6 by the template 'for every input the law returns true; each argument reads behind the call as it read before'; 0 by the template 'total and deterministic' (their statements: YtogghjkobgjkhaaTotals.lean).
  GIVEN WITH THE SEED: the statements are not yours to turn. If you find one false, say at which input.
  Laid BY PROGRAM, IN A SANDBOX (cutbox-rows.mjs): the forced cells as the released guide's own fill.sh prints them over the translation f7784957e5649bb4… (all of the seat's roots in one cut). By AI agents, Wed Nov 11 2026. No macro, syntax, notation, axiom, sorry.
-/
import Derived.Test.YtogghjkobgjkhaaChecked
import GoSem.Claim
import GoSem.ClaimJoined
import GoSem.ClaimMapViews
import Derived.JoinedTies
import Derived.KernelRfl
namespace Go.Proofs.Ytogghjkobgjkhaa
/- THE CELL 'sum', in the pinned program and in every row, IS THE sha256 OF THE DUMP (.gsa) THAT YtogghjkobgjkhaaProg.lean LOADS. Nothing in Lean hashes anything: it is a label: what it is worth is what the hold of that sum in a sandbox is worth. -/
noncomputable def Try.pinned : Pinned := { name := "ytogghjkobgjkhaa", sum := "f7784957e5649bb4c176f093cccd88bbd10a240028517bc58acf433c577ef087", checked := Try.checked }
namespace Rows
def none {H : Type} : Left H := { results := [], args := [] }

/-- 'pressworklaw04.KraftClasses': WHATEVER THE INPUT: true; the input reads as it did. -/
def kraftClassesSpec : ChangeSpec := { name := "kraftClasses", fn := fun _ => fun
  | [d] => { results := [.lit (.bool true)], args := [d] }
  | _ => none }
def kraftClassesRow : OpenClaim := { program := "ytogghjkobgjkhaa", sum := "f7784957e5649bb4c176f093cccd88bbd10a240028517bc58acf433c577ef087", func := "presswork/pressworklaw04.KraftClasses", spec := "kraftClasses", unfollowed := true, recurses := true, apart := false }
def KraftClassesSaid : Prop := kraftClassesRow.holds Try.pinned (OpenSpec.ofChange kraftClassesSpec)

/-- ITS FALSE NEIGHBOUR: 'it returns false'. Refute it at one input. -/
def kraftClassesWrong : ChangeSpec := { name := "kraftClasses", fn := fun _ => fun
  | [d] => { results := [.lit (.bool false)], args := [d] }
  | _ => none }
def KraftClassesWrongFalsely : Prop := kraftClassesRow.holds Try.pinned (OpenSpec.ofChange kraftClassesWrong)

/-- 'pressworklaw04.KraftWords': WHATEVER THE INPUT: true; the input reads as it did. -/
def kraftWordsSpec : ChangeSpec := { name := "kraftWords", fn := fun _ => fun
  | [d] => { results := [.lit (.bool true)], args := [d] }
  | _ => none }
def kraftWordsRow : OpenClaim := { program := "ytogghjkobgjkhaa", sum := "f7784957e5649bb4c176f093cccd88bbd10a240028517bc58acf433c577ef087", func := "presswork/pressworklaw04.KraftWords", spec := "kraftWords", unfollowed := true, recurses := true, apart := false }
def KraftWordsSaid : Prop := kraftWordsRow.holds Try.pinned (OpenSpec.ofChange kraftWordsSpec)

/-- ITS FALSE NEIGHBOUR: 'it returns false'. Refute it at one input. -/
def kraftWordsWrong : ChangeSpec := { name := "kraftWords", fn := fun _ => fun
  | [d] => { results := [.lit (.bool false)], args := [d] }
  | _ => none }
def KraftWordsWrongFalsely : Prop := kraftWordsRow.holds Try.pinned (OpenSpec.ofChange kraftWordsWrong)

/-- 'pressworklaw04.KraftFree': WHATEVER THE INPUT: true; the input reads as it did. -/
def kraftFreeSpec : ChangeSpec := { name := "kraftFree", fn := fun _ => fun
  | [d1, d2] => { results := [.lit (.bool true)], args := [d1, d2] }
  | _ => none }
def kraftFreeRow : OpenClaim := { program := "ytogghjkobgjkhaa", sum := "f7784957e5649bb4c176f093cccd88bbd10a240028517bc58acf433c577ef087", func := "presswork/pressworklaw04.KraftFree", spec := "kraftFree", unfollowed := true, recurses := true, apart := false }
def KraftFreeSaid : Prop := kraftFreeRow.holds Try.pinned (OpenSpec.ofChange kraftFreeSpec)

/-- ITS FALSE NEIGHBOUR: 'it returns false'. Refute it at one input. -/
def kraftFreeWrong : ChangeSpec := { name := "kraftFree", fn := fun _ => fun
  | [d1, d2] => { results := [.lit (.bool false)], args := [d1, d2] }
  | _ => none }
def KraftFreeWrongFalsely : Prop := kraftFreeRow.holds Try.pinned (OpenSpec.ofChange kraftFreeWrong)

/-- 'pressworklaw04.KraftRises': WHATEVER THE INPUT: true; the input reads as it did. -/
def kraftRisesSpec : ChangeSpec := { name := "kraftRises", fn := fun _ => fun
  | [d] => { results := [.lit (.bool true)], args := [d] }
  | _ => none }
def kraftRisesRow : OpenClaim := { program := "ytogghjkobgjkhaa", sum := "f7784957e5649bb4c176f093cccd88bbd10a240028517bc58acf433c577ef087", func := "presswork/pressworklaw04.KraftRises", spec := "kraftRises", unfollowed := true, recurses := true, apart := false }
def KraftRisesSaid : Prop := kraftRisesRow.holds Try.pinned (OpenSpec.ofChange kraftRisesSpec)

/-- ITS FALSE NEIGHBOUR: 'it returns false'. Refute it at one input. -/
def kraftRisesWrong : ChangeSpec := { name := "kraftRises", fn := fun _ => fun
  | [d] => { results := [.lit (.bool false)], args := [d] }
  | _ => none }
def KraftRisesWrongFalsely : Prop := kraftRisesRow.holds Try.pinned (OpenSpec.ofChange kraftRisesWrong)

/-- 'pressworklaw04.KraftOne': WHATEVER THE INPUT: true; the input reads as it did. -/
def kraftOneSpec : ChangeSpec := { name := "kraftOne", fn := fun _ => fun
  | [d1, d2] => { results := [.lit (.bool true)], args := [d1, d2] }
  | _ => none }
def kraftOneRow : OpenClaim := { program := "ytogghjkobgjkhaa", sum := "f7784957e5649bb4c176f093cccd88bbd10a240028517bc58acf433c577ef087", func := "presswork/pressworklaw04.KraftOne", spec := "kraftOne", unfollowed := true, recurses := true, apart := false }
def KraftOneSaid : Prop := kraftOneRow.holds Try.pinned (OpenSpec.ofChange kraftOneSpec)

/-- ITS FALSE NEIGHBOUR: 'it returns false'. Refute it at one input. -/
def kraftOneWrong : ChangeSpec := { name := "kraftOne", fn := fun _ => fun
  | [d1, d2] => { results := [.lit (.bool false)], args := [d1, d2] }
  | _ => none }
def KraftOneWrongFalsely : Prop := kraftOneRow.holds Try.pinned (OpenSpec.ofChange kraftOneWrong)

/-- 'pressworklaw04.KraftKnown': WHATEVER THE INPUT: true; the input reads as it did. -/
def kraftKnownSpec : ChangeSpec := { name := "kraftKnown", fn := fun _ => fun
  | [] => { results := [.lit (.bool true)], args := [] }
  | _ => none }
def kraftKnownRow : OpenClaim := { program := "ytogghjkobgjkhaa", sum := "f7784957e5649bb4c176f093cccd88bbd10a240028517bc58acf433c577ef087", func := "presswork/pressworklaw04.KraftKnown", spec := "kraftKnown", unfollowed := true, recurses := true, apart := false }
def KraftKnownSaid : Prop := kraftKnownRow.holds Try.pinned (OpenSpec.ofChange kraftKnownSpec)

/-- ITS FALSE NEIGHBOUR: 'it returns false'. Refute it at one input. -/
def kraftKnownWrong : ChangeSpec := { name := "kraftKnown", fn := fun _ => fun
  | [] => { results := [.lit (.bool false)], args := [] }
  | _ => none }
def KraftKnownWrongFalsely : Prop := kraftKnownRow.holds Try.pinned (OpenSpec.ofChange kraftKnownWrong)

/- THE SECOND FORM. 'bulk': how many values and letters a reading holds, each counted each time it is reached (what is shared counts as often as it is met; a slice's spare places count too). A statement '..UptoSaid' is the law's where the arguments, and the package variables that the reading takes, are together of bulk at most 1048576: NARROWER than '..Said'. Prove '..Said' where nothing that the law and all that it calls make is longer than what came in: it says more and counts as full. Else prove '..UptoSaid'. A law counts once. -/
mutual
def uptoBulk {H : Type} : DataW H → Nat
  | .lit (.string bytes) => bytes.length + 1
  | .lit _ => 1
  | .nil => 1
  | .ptr d => uptoBulk d + 1
  | .slice elems spare => uptoBulkAll elems + uptoBulkAll spare + 1
  | .agg parts => uptoBulkAll parts + 1
  | .iface _ d => uptoBulk d + 1
  | .map entries => uptoBulkEntries entries + 1
  | .held _ => 1
def uptoBulkAll {H : Type} : List (DataW H) → Nat
  | [] => 0
  | d :: r => uptoBulk d + uptoBulkAll r
def uptoBulkEntries {H : Type} : List (Lit × DataW H) → Nat
  | [] => 0
  | x :: r => uptoBulkEntry x + uptoBulkEntries r
def uptoBulkEntry {H : Type} : Lit × DataW H → Nat
  | (.string bytes, d) => bytes.length + uptoBulk d + 1
  | (_, d) => uptoBulk d + 1
 end
def uptoSmall : (H : Type) → List (DataW H) → Bool := fun _ ds => decide (uptoBulkAll ds ≤ 1048576)
def OpenSpec.upto (s : _root_.Go.ChangeSpec) : _root_.Go.OpenSpec := { _root_.Go.OpenSpec.ofChange s with cond := some uptoSmall }

/-- 'pressworklaw04.KraftClasses', WHERE WHAT IT READS IS OF BULK AT MOST 1048576: true; the input reads as it did. -/
def kraftClassesUptoRow : OpenClaim := { program := "ytogghjkobgjkhaa", sum := "f7784957e5649bb4c176f093cccd88bbd10a240028517bc58acf433c577ef087", func := "presswork/pressworklaw04.KraftClasses", spec := "kraftClasses", unfollowed := true, recurses := true, apart := false, narrowed := true }
def KraftClassesUptoSaid : Prop := kraftClassesUptoRow.holds Try.pinned (OpenSpec.upto kraftClassesSpec)

/-- 'pressworklaw04.KraftWords', WHERE WHAT IT READS IS OF BULK AT MOST 1048576: true; the input reads as it did. -/
def kraftWordsUptoRow : OpenClaim := { program := "ytogghjkobgjkhaa", sum := "f7784957e5649bb4c176f093cccd88bbd10a240028517bc58acf433c577ef087", func := "presswork/pressworklaw04.KraftWords", spec := "kraftWords", unfollowed := true, recurses := true, apart := false, narrowed := true }
def KraftWordsUptoSaid : Prop := kraftWordsUptoRow.holds Try.pinned (OpenSpec.upto kraftWordsSpec)

/-- 'pressworklaw04.KraftFree', WHERE WHAT IT READS IS OF BULK AT MOST 1048576: true; the input reads as it did. -/
def kraftFreeUptoRow : OpenClaim := { program := "ytogghjkobgjkhaa", sum := "f7784957e5649bb4c176f093cccd88bbd10a240028517bc58acf433c577ef087", func := "presswork/pressworklaw04.KraftFree", spec := "kraftFree", unfollowed := true, recurses := true, apart := false, narrowed := true }
def KraftFreeUptoSaid : Prop := kraftFreeUptoRow.holds Try.pinned (OpenSpec.upto kraftFreeSpec)

/-- 'pressworklaw04.KraftRises', WHERE WHAT IT READS IS OF BULK AT MOST 1048576: true; the input reads as it did. -/
def kraftRisesUptoRow : OpenClaim := { program := "ytogghjkobgjkhaa", sum := "f7784957e5649bb4c176f093cccd88bbd10a240028517bc58acf433c577ef087", func := "presswork/pressworklaw04.KraftRises", spec := "kraftRises", unfollowed := true, recurses := true, apart := false, narrowed := true }
def KraftRisesUptoSaid : Prop := kraftRisesUptoRow.holds Try.pinned (OpenSpec.upto kraftRisesSpec)

/-- 'pressworklaw04.KraftOne', WHERE WHAT IT READS IS OF BULK AT MOST 1048576: true; the input reads as it did. -/
def kraftOneUptoRow : OpenClaim := { program := "ytogghjkobgjkhaa", sum := "f7784957e5649bb4c176f093cccd88bbd10a240028517bc58acf433c577ef087", func := "presswork/pressworklaw04.KraftOne", spec := "kraftOne", unfollowed := true, recurses := true, apart := false, narrowed := true }
def KraftOneUptoSaid : Prop := kraftOneUptoRow.holds Try.pinned (OpenSpec.upto kraftOneSpec)

/-- 'pressworklaw04.KraftKnown', WHERE WHAT IT READS IS OF BULK AT MOST 1048576: true; the input reads as it did. -/
def kraftKnownUptoRow : OpenClaim := { program := "ytogghjkobgjkhaa", sum := "f7784957e5649bb4c176f093cccd88bbd10a240028517bc58acf433c577ef087", func := "presswork/pressworklaw04.KraftKnown", spec := "kraftKnown", unfollowed := true, recurses := true, apart := false, narrowed := true }
def KraftKnownUptoSaid : Prop := kraftKnownUptoRow.holds Try.pinned (OpenSpec.upto kraftKnownSpec)

end Rows
end Go.Proofs.Ytogghjkobgjkhaa
