/-
  No cell of these rows narrows 'for every input' (looked for: loops, veiled, ifaces, maps, wideKeys, modest, calm, conditions, laid).
  DERIVED. THE GIVEN ROWS OF THIS SEAT. 6 by the template 'for every input the law returns true; each argument reads behind the call as it read before'; 0 by the template 'total and deterministic' (their statements: YtjchchinmggldaaTotals.lean).
  GIVEN WITH THE SEED: the statements are not yours to turn. If you find one false, say at which input.
  Laid BY PROGRAM, IN A SANDBOX (cutbox-rows.mjs): the forced cells as the released guide's own fill.sh prints them over the translation ec4def4c992b1bd1… (all of the seat's roots in one cut). By AI agents, Wed Nov 11 2026. No macro, syntax, notation, axiom, sorry.
-/
import Derived.Test.YtjchchinmggldaaChecked
import GoSem.Claim
import GoSem.ClaimJoined
import GoSem.ClaimMapViews
import Derived.JoinedTies
import Derived.KernelRfl
namespace Go.Proofs.Ytjchchinmggldaa
/- THE CELL 'sum', in the pinned program and in every row, IS THE sha256 OF THE DUMP (.gsa) THAT YtjchchinmggldaaProg.lean LOADS. Nothing in Lean hashes anything: it is a label: what it is worth is what the hold of that sum in a sandbox is worth. -/
noncomputable def Try.pinned : Pinned := { name := "ytjchchinmggldaa", sum := "ec4def4c992b1bd1f387154ccd5122f96306ed2808f450a80bb6acd6479911ea", checked := Try.checked }
namespace Rows
def none {H : Type} : Left H := { results := [], args := [] }

/-- 'pressworklaw15.NearFinds': WHATEVER THE INPUT: true; the input reads as it did. -/
def nearFindsSpec : ChangeSpec := { name := "nearFinds", fn := fun _ => fun
  | [d] => { results := [.lit (.bool true)], args := [d] }
  | _ => none }
def nearFindsRow : OpenClaim := { program := "ytjchchinmggldaa", sum := "ec4def4c992b1bd1f387154ccd5122f96306ed2808f450a80bb6acd6479911ea", func := "presswork/pressworklaw15.NearFinds", spec := "nearFinds", unfollowed := true, recurses := true, apart := false }
def NearFindsSaid : Prop := nearFindsRow.holds Try.pinned (OpenSpec.ofChange nearFindsSpec)

/-- ITS FALSE NEIGHBOUR: 'it returns false'. Refute it at one input. -/
def nearFindsWrong : ChangeSpec := { name := "nearFinds", fn := fun _ => fun
  | [d] => { results := [.lit (.bool false)], args := [d] }
  | _ => none }
def NearFindsWrongFalsely : Prop := nearFindsRow.holds Try.pinned (OpenSpec.ofChange nearFindsWrong)

/-- 'pressworklaw15.NearLeast': WHATEVER THE INPUT: true; the input reads as it did. -/
def nearLeastSpec : ChangeSpec := { name := "nearLeast", fn := fun _ => fun
  | [d] => { results := [.lit (.bool true)], args := [d] }
  | _ => none }
def nearLeastRow : OpenClaim := { program := "ytjchchinmggldaa", sum := "ec4def4c992b1bd1f387154ccd5122f96306ed2808f450a80bb6acd6479911ea", func := "presswork/pressworklaw15.NearLeast", spec := "nearLeast", unfollowed := true, recurses := true, apart := false }
def NearLeastSaid : Prop := nearLeastRow.holds Try.pinned (OpenSpec.ofChange nearLeastSpec)

/-- ITS FALSE NEIGHBOUR: 'it returns false'. Refute it at one input. -/
def nearLeastWrong : ChangeSpec := { name := "nearLeast", fn := fun _ => fun
  | [d] => { results := [.lit (.bool false)], args := [d] }
  | _ => none }
def NearLeastWrongFalsely : Prop := nearLeastRow.holds Try.pinned (OpenSpec.ofChange nearLeastWrong)

/-- 'pressworklaw15.NearTurned': WHATEVER THE INPUT: true; the input reads as it did. -/
def nearTurnedSpec : ChangeSpec := { name := "nearTurned", fn := fun _ => fun
  | [d] => { results := [.lit (.bool true)], args := [d] }
  | _ => none }
def nearTurnedRow : OpenClaim := { program := "ytjchchinmggldaa", sum := "ec4def4c992b1bd1f387154ccd5122f96306ed2808f450a80bb6acd6479911ea", func := "presswork/pressworklaw15.NearTurned", spec := "nearTurned", unfollowed := true, recurses := true, apart := false }
def NearTurnedSaid : Prop := nearTurnedRow.holds Try.pinned (OpenSpec.ofChange nearTurnedSpec)

/-- ITS FALSE NEIGHBOUR: 'it returns false'. Refute it at one input. -/
def nearTurnedWrong : ChangeSpec := { name := "nearTurned", fn := fun _ => fun
  | [d] => { results := [.lit (.bool false)], args := [d] }
  | _ => none }
def NearTurnedWrongFalsely : Prop := nearTurnedRow.holds Try.pinned (OpenSpec.ofChange nearTurnedWrong)

/-- 'pressworklaw15.NearGrows': WHATEVER THE INPUT: true; the input reads as it did. -/
def nearGrowsSpec : ChangeSpec := { name := "nearGrows", fn := fun _ => fun
  | [d1, d2] => { results := [.lit (.bool true)], args := [d1, d2] }
  | _ => none }
def nearGrowsRow : OpenClaim := { program := "ytjchchinmggldaa", sum := "ec4def4c992b1bd1f387154ccd5122f96306ed2808f450a80bb6acd6479911ea", func := "presswork/pressworklaw15.NearGrows", spec := "nearGrows", unfollowed := true, recurses := true, apart := false }
def NearGrowsSaid : Prop := nearGrowsRow.holds Try.pinned (OpenSpec.ofChange nearGrowsSpec)

/-- ITS FALSE NEIGHBOUR: 'it returns false'. Refute it at one input. -/
def nearGrowsWrong : ChangeSpec := { name := "nearGrows", fn := fun _ => fun
  | [d1, d2] => { results := [.lit (.bool false)], args := [d1, d2] }
  | _ => none }
def NearGrowsWrongFalsely : Prop := nearGrowsRow.holds Try.pinned (OpenSpec.ofChange nearGrowsWrong)

/-- 'pressworklaw15.NearKnown': WHATEVER THE INPUT: true; the input reads as it did. -/
def nearKnownSpec : ChangeSpec := { name := "nearKnown", fn := fun _ => fun
  | [] => { results := [.lit (.bool true)], args := [] }
  | _ => none }
def nearKnownRow : OpenClaim := { program := "ytjchchinmggldaa", sum := "ec4def4c992b1bd1f387154ccd5122f96306ed2808f450a80bb6acd6479911ea", func := "presswork/pressworklaw15.NearKnown", spec := "nearKnown", unfollowed := true, recurses := true, apart := false }
def NearKnownSaid : Prop := nearKnownRow.holds Try.pinned (OpenSpec.ofChange nearKnownSpec)

/-- ITS FALSE NEIGHBOUR: 'it returns false'. Refute it at one input. -/
def nearKnownWrong : ChangeSpec := { name := "nearKnown", fn := fun _ => fun
  | [] => { results := [.lit (.bool false)], args := [] }
  | _ => none }
def NearKnownWrongFalsely : Prop := nearKnownRow.holds Try.pinned (OpenSpec.ofChange nearKnownWrong)

/-- 'pressworklaw15.NearChain': WHATEVER THE INPUT: true; the input reads as it did. -/
def nearChainSpec : ChangeSpec := { name := "nearChain", fn := fun _ => fun
  | [d1, d2] => { results := [.lit (.bool true)], args := [d1, d2] }
  | _ => none }
def nearChainRow : OpenClaim := { program := "ytjchchinmggldaa", sum := "ec4def4c992b1bd1f387154ccd5122f96306ed2808f450a80bb6acd6479911ea", func := "presswork/pressworklaw15.NearChain", spec := "nearChain", unfollowed := true, recurses := true, apart := false }
def NearChainSaid : Prop := nearChainRow.holds Try.pinned (OpenSpec.ofChange nearChainSpec)

/-- ITS FALSE NEIGHBOUR: 'it returns false'. Refute it at one input. -/
def nearChainWrong : ChangeSpec := { name := "nearChain", fn := fun _ => fun
  | [d1, d2] => { results := [.lit (.bool false)], args := [d1, d2] }
  | _ => none }
def NearChainWrongFalsely : Prop := nearChainRow.holds Try.pinned (OpenSpec.ofChange nearChainWrong)

/- THE SECOND FORM. 'bulk': how many values and letters a reading holds, each counted each time it is reached (what is shared counts as often as it is met; a slice's spare places count too). A statement '..UptoSaid' is the law's where the arguments, and the package variables that the reading takes, are together of bulk at most 1048576: NARROWER than '..Said'. Prove '..Said' where nothing that the law and all that it calls make is longer than what came in: it says more and counts as full. Else prove '..UptoSaid'. A law counts once. -/
mutual
def uptoBulk {H : Type} : DataW H → Nat
  | .lit (.string bytes) => bytes.length + 1
  | .lit _ => 1
  | .nil => 1
  | .ptr d => uptoBulk d + 1
  | .slice elems spare => uptoBulkAll elems + uptoBulkAll spare + 1
  | .agg parts => uptoBulkAll parts + 1
  | .iface _ d => uptoBulk d + 1
  | .map entries => uptoBulkEntries entries + 1
  | .held _ => 1
def uptoBulkAll {H : Type} : List (DataW H) → Nat
  | [] => 0
  | d :: r => uptoBulk d + uptoBulkAll r
def uptoBulkEntries {H : Type} : List (Lit × DataW H) → Nat
  | [] => 0
  | x :: r => uptoBulkEntry x + uptoBulkEntries r
def uptoBulkEntry {H : Type} : Lit × DataW H → Nat
  | (.string bytes, d) => bytes.length + uptoBulk d + 1
  | (_, d) => uptoBulk d + 1
 end
def uptoSmall : (H : Type) → List (DataW H) → Bool := fun _ ds => decide (uptoBulkAll ds ≤ 1048576)
def OpenSpec.upto (s : _root_.Go.ChangeSpec) : _root_.Go.OpenSpec := { _root_.Go.OpenSpec.ofChange s with cond := some uptoSmall }

/-- 'pressworklaw15.NearFinds', WHERE WHAT IT READS IS OF BULK AT MOST 1048576: true; the input reads as it did. -/
def nearFindsUptoRow : OpenClaim := { program := "ytjchchinmggldaa", sum := "ec4def4c992b1bd1f387154ccd5122f96306ed2808f450a80bb6acd6479911ea", func := "presswork/pressworklaw15.NearFinds", spec := "nearFinds", unfollowed := true, recurses := true, apart := false, narrowed := true }
def NearFindsUptoSaid : Prop := nearFindsUptoRow.holds Try.pinned (OpenSpec.upto nearFindsSpec)

/-- 'pressworklaw15.NearLeast', WHERE WHAT IT READS IS OF BULK AT MOST 1048576: true; the input reads as it did. -/
def nearLeastUptoRow : OpenClaim := { program := "ytjchchinmggldaa", sum := "ec4def4c992b1bd1f387154ccd5122f96306ed2808f450a80bb6acd6479911ea", func := "presswork/pressworklaw15.NearLeast", spec := "nearLeast", unfollowed := true, recurses := true, apart := false, narrowed := true }
def NearLeastUptoSaid : Prop := nearLeastUptoRow.holds Try.pinned (OpenSpec.upto nearLeastSpec)

/-- 'pressworklaw15.NearTurned', WHERE WHAT IT READS IS OF BULK AT MOST 1048576: true; the input reads as it did. -/
def nearTurnedUptoRow : OpenClaim := { program := "ytjchchinmggldaa", sum := "ec4def4c992b1bd1f387154ccd5122f96306ed2808f450a80bb6acd6479911ea", func := "presswork/pressworklaw15.NearTurned", spec := "nearTurned", unfollowed := true, recurses := true, apart := false, narrowed := true }
def NearTurnedUptoSaid : Prop := nearTurnedUptoRow.holds Try.pinned (OpenSpec.upto nearTurnedSpec)

/-- 'pressworklaw15.NearGrows', WHERE WHAT IT READS IS OF BULK AT MOST 1048576: true; the input reads as it did. -/
def nearGrowsUptoRow : OpenClaim := { program := "ytjchchinmggldaa", sum := "ec4def4c992b1bd1f387154ccd5122f96306ed2808f450a80bb6acd6479911ea", func := "presswork/pressworklaw15.NearGrows", spec := "nearGrows", unfollowed := true, recurses := true, apart := false, narrowed := true }
def NearGrowsUptoSaid : Prop := nearGrowsUptoRow.holds Try.pinned (OpenSpec.upto nearGrowsSpec)

/-- 'pressworklaw15.NearKnown', WHERE WHAT IT READS IS OF BULK AT MOST 1048576: true; the input reads as it did. -/
def nearKnownUptoRow : OpenClaim := { program := "ytjchchinmggldaa", sum := "ec4def4c992b1bd1f387154ccd5122f96306ed2808f450a80bb6acd6479911ea", func := "presswork/pressworklaw15.NearKnown", spec := "nearKnown", unfollowed := true, recurses := true, apart := false, narrowed := true }
def NearKnownUptoSaid : Prop := nearKnownUptoRow.holds Try.pinned (OpenSpec.upto nearKnownSpec)

/-- 'pressworklaw15.NearChain', WHERE WHAT IT READS IS OF BULK AT MOST 1048576: true; the input reads as it did. -/
def nearChainUptoRow : OpenClaim := { program := "ytjchchinmggldaa", sum := "ec4def4c992b1bd1f387154ccd5122f96306ed2808f450a80bb6acd6479911ea", func := "presswork/pressworklaw15.NearChain", spec := "nearChain", unfollowed := true, recurses := true, apart := false, narrowed := true }
def NearChainUptoSaid : Prop := nearChainUptoRow.holds Try.pinned (OpenSpec.upto nearChainSpec)

end Rows
end Go.Proofs.Ytjchchinmggldaa
