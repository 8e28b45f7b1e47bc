/-
  No cell of these rows narrows 'for every input' (looked for: loops, veiled, ifaces, maps, wideKeys, modest, calm, conditions, laid).
  DERIVED. THE GIVEN ROWS OF THIS SEAT. 7 by the template 'for every input the law returns true; each argument reads behind the call as it read before'; 0 by the template 'total and deterministic' (their statements: YtlhhoiimmalpgaaTotals.lean).
  GIVEN WITH THE SEED: the statements are not yours to turn. If you find one false, say at which input.
  Laid BY PROGRAM, IN A SANDBOX (cutbox-rows.mjs): the forced cells as the released guide's own fill.sh prints them over the translation d899acbdc449ff51… (all of the seat's roots in one cut). By AI agents, Wed Nov 11 2026. No macro, syntax, notation, axiom, sorry.
-/
import Derived.Test.YtlhhoiimmalpgaaChecked
import GoSem.Claim
import GoSem.ClaimJoined
import GoSem.ClaimMapViews
import Derived.JoinedTies
import Derived.KernelRfl
namespace Go.Proofs.Ytlhhoiimmalpgaa
/- THE CELL 'sum', in the pinned program and in every row, IS THE sha256 OF THE DUMP (.gsa) THAT YtlhhoiimmalpgaaProg.lean LOADS. Nothing in Lean hashes anything: it is a label: what it is worth is what the hold of that sum in a sandbox is worth. -/
noncomputable def Try.pinned : Pinned := { name := "ytlhhoiimmalpgaa", sum := "d899acbdc449ff51ec7c7a0b31c3fceef56027e9f2e52bbf26a72c49d02a8635", checked := Try.checked }
namespace Rows
def none {H : Type} : Left H := { results := [], args := [] }

/-- 'pressworklaw02.MsbWrites': WHATEVER THE INPUT: true; the input reads as it did. -/
def msbWritesSpec : ChangeSpec := { name := "msbWrites", fn := fun _ => fun
  | [d] => { results := [.lit (.bool true)], args := [d] }
  | _ => none }
def msbWritesRow : OpenClaim := { program := "ytlhhoiimmalpgaa", sum := "d899acbdc449ff51ec7c7a0b31c3fceef56027e9f2e52bbf26a72c49d02a8635", func := "presswork/pressworklaw02.MsbWrites", spec := "msbWrites", unfollowed := true, recurses := true, apart := false }
def MsbWritesSaid : Prop := msbWritesRow.holds Try.pinned (OpenSpec.ofChange msbWritesSpec)

/-- ITS FALSE NEIGHBOUR: 'it returns false'. Refute it at one input. -/
def msbWritesWrong : ChangeSpec := { name := "msbWrites", fn := fun _ => fun
  | [d] => { results := [.lit (.bool false)], args := [d] }
  | _ => none }
def MsbWritesWrongFalsely : Prop := msbWritesRow.holds Try.pinned (OpenSpec.ofChange msbWritesWrong)

/-- 'pressworklaw02.MsbReads': WHATEVER THE INPUT: true; the input reads as it did. -/
def msbReadsSpec : ChangeSpec := { name := "msbReads", fn := fun _ => fun
  | [d1, d2] => { results := [.lit (.bool true)], args := [d1, d2] }
  | _ => none }
def msbReadsRow : OpenClaim := { program := "ytlhhoiimmalpgaa", sum := "d899acbdc449ff51ec7c7a0b31c3fceef56027e9f2e52bbf26a72c49d02a8635", func := "presswork/pressworklaw02.MsbReads", spec := "msbReads", unfollowed := true, recurses := true, apart := false }
def MsbReadsSaid : Prop := msbReadsRow.holds Try.pinned (OpenSpec.ofChange msbReadsSpec)

/-- ITS FALSE NEIGHBOUR: 'it returns false'. Refute it at one input. -/
def msbReadsWrong : ChangeSpec := { name := "msbReads", fn := fun _ => fun
  | [d1, d2] => { results := [.lit (.bool false)], args := [d1, d2] }
  | _ => none }
def MsbReadsWrongFalsely : Prop := msbReadsRow.holds Try.pinned (OpenSpec.ofChange msbReadsWrong)

/-- 'pressworklaw02.MsbBack': WHATEVER THE INPUT: true; the input reads as it did. -/
def msbBackSpec : ChangeSpec := { name := "msbBack", fn := fun _ => fun
  | [d] => { results := [.lit (.bool true)], args := [d] }
  | _ => none }
def msbBackRow : OpenClaim := { program := "ytlhhoiimmalpgaa", sum := "d899acbdc449ff51ec7c7a0b31c3fceef56027e9f2e52bbf26a72c49d02a8635", func := "presswork/pressworklaw02.MsbBack", spec := "msbBack", unfollowed := true, recurses := true, apart := false }
def MsbBackSaid : Prop := msbBackRow.holds Try.pinned (OpenSpec.ofChange msbBackSpec)

/-- ITS FALSE NEIGHBOUR: 'it returns false'. Refute it at one input. -/
def msbBackWrong : ChangeSpec := { name := "msbBack", fn := fun _ => fun
  | [d] => { results := [.lit (.bool false)], args := [d] }
  | _ => none }
def MsbBackWrongFalsely : Prop := msbBackRow.holds Try.pinned (OpenSpec.ofChange msbBackWrong)

/-- 'pressworklaw02.MsbAdds': WHATEVER THE INPUT: true; the input reads as it did. -/
def msbAddsSpec : ChangeSpec := { name := "msbAdds", fn := fun _ => fun
  | [d1, d2] => { results := [.lit (.bool true)], args := [d1, d2] }
  | _ => none }
def msbAddsRow : OpenClaim := { program := "ytlhhoiimmalpgaa", sum := "d899acbdc449ff51ec7c7a0b31c3fceef56027e9f2e52bbf26a72c49d02a8635", func := "presswork/pressworklaw02.MsbAdds", spec := "msbAdds", unfollowed := true, recurses := true, apart := false }
def MsbAddsSaid : Prop := msbAddsRow.holds Try.pinned (OpenSpec.ofChange msbAddsSpec)

/-- ITS FALSE NEIGHBOUR: 'it returns false'. Refute it at one input. -/
def msbAddsWrong : ChangeSpec := { name := "msbAdds", fn := fun _ => fun
  | [d1, d2] => { results := [.lit (.bool false)], args := [d1, d2] }
  | _ => none }
def MsbAddsWrongFalsely : Prop := msbAddsRow.holds Try.pinned (OpenSpec.ofChange msbAddsWrong)

/-- 'pressworklaw02.MsbSplit': WHATEVER THE INPUT: true; the input reads as it did. -/
def msbSplitSpec : ChangeSpec := { name := "msbSplit", fn := fun _ => fun
  | [d1, d2, d3, d4] => { results := [.lit (.bool true)], args := [d1, d2, d3, d4] }
  | _ => none }
def msbSplitRow : OpenClaim := { program := "ytlhhoiimmalpgaa", sum := "d899acbdc449ff51ec7c7a0b31c3fceef56027e9f2e52bbf26a72c49d02a8635", func := "presswork/pressworklaw02.MsbSplit", spec := "msbSplit", unfollowed := true, recurses := true, apart := false }
def MsbSplitSaid : Prop := msbSplitRow.holds Try.pinned (OpenSpec.ofChange msbSplitSpec)

/-- ITS FALSE NEIGHBOUR: 'it returns false'. Refute it at one input. -/
def msbSplitWrong : ChangeSpec := { name := "msbSplit", fn := fun _ => fun
  | [d1, d2, d3, d4] => { results := [.lit (.bool false)], args := [d1, d2, d3, d4] }
  | _ => none }
def MsbSplitWrongFalsely : Prop := msbSplitRow.holds Try.pinned (OpenSpec.ofChange msbSplitWrong)

/-- 'pressworklaw02.MsbNil': WHATEVER THE INPUT: true; the input reads as it did. -/
def msbNilSpec : ChangeSpec := { name := "msbNil", fn := fun _ => fun
  | [d1, d2] => { results := [.lit (.bool true)], args := [d1, d2] }
  | _ => none }
def msbNilRow : OpenClaim := { program := "ytlhhoiimmalpgaa", sum := "d899acbdc449ff51ec7c7a0b31c3fceef56027e9f2e52bbf26a72c49d02a8635", func := "presswork/pressworklaw02.MsbNil", spec := "msbNil", unfollowed := true, recurses := true, apart := false }
def MsbNilSaid : Prop := msbNilRow.holds Try.pinned (OpenSpec.ofChange msbNilSpec)

/-- ITS FALSE NEIGHBOUR: 'it returns false'. Refute it at one input. -/
def msbNilWrong : ChangeSpec := { name := "msbNil", fn := fun _ => fun
  | [d1, d2] => { results := [.lit (.bool false)], args := [d1, d2] }
  | _ => none }
def MsbNilWrongFalsely : Prop := msbNilRow.holds Try.pinned (OpenSpec.ofChange msbNilWrong)

/-- 'pressworklaw02.MsbKnown': WHATEVER THE INPUT: true; the input reads as it did. -/
def msbKnownSpec : ChangeSpec := { name := "msbKnown", fn := fun _ => fun
  | [] => { results := [.lit (.bool true)], args := [] }
  | _ => none }
def msbKnownRow : OpenClaim := { program := "ytlhhoiimmalpgaa", sum := "d899acbdc449ff51ec7c7a0b31c3fceef56027e9f2e52bbf26a72c49d02a8635", func := "presswork/pressworklaw02.MsbKnown", spec := "msbKnown", unfollowed := true, recurses := true, apart := false }
def MsbKnownSaid : Prop := msbKnownRow.holds Try.pinned (OpenSpec.ofChange msbKnownSpec)

/-- ITS FALSE NEIGHBOUR: 'it returns false'. Refute it at one input. -/
def msbKnownWrong : ChangeSpec := { name := "msbKnown", fn := fun _ => fun
  | [] => { results := [.lit (.bool false)], args := [] }
  | _ => none }
def MsbKnownWrongFalsely : Prop := msbKnownRow.holds Try.pinned (OpenSpec.ofChange msbKnownWrong)

/- THE SECOND FORM. 'bulk': how many values and letters a reading holds, each counted each time it is reached (what is shared counts as often as it is met; a slice's spare places count too). A statement '..UptoSaid' is the law's where the arguments, and the package variables that the reading takes, are together of bulk at most 1048576: NARROWER than '..Said'. Prove '..Said' where nothing that the law and all that it calls make is longer than what came in: it says more and counts as full. Else prove '..UptoSaid'. A law counts once. -/
mutual
def uptoBulk {H : Type} : DataW H → Nat
  | .lit (.string bytes) => bytes.length + 1
  | .lit _ => 1
  | .nil => 1
  | .ptr d => uptoBulk d + 1
  | .slice elems spare => uptoBulkAll elems + uptoBulkAll spare + 1
  | .agg parts => uptoBulkAll parts + 1
  | .iface _ d => uptoBulk d + 1
  | .map entries => uptoBulkEntries entries + 1
  | .held _ => 1
def uptoBulkAll {H : Type} : List (DataW H) → Nat
  | [] => 0
  | d :: r => uptoBulk d + uptoBulkAll r
def uptoBulkEntries {H : Type} : List (Lit × DataW H) → Nat
  | [] => 0
  | x :: r => uptoBulkEntry x + uptoBulkEntries r
def uptoBulkEntry {H : Type} : Lit × DataW H → Nat
  | (.string bytes, d) => bytes.length + uptoBulk d + 1
  | (_, d) => uptoBulk d + 1
 end
def uptoSmall : (H : Type) → List (DataW H) → Bool := fun _ ds => decide (uptoBulkAll ds ≤ 1048576)
def OpenSpec.upto (s : _root_.Go.ChangeSpec) : _root_.Go.OpenSpec := { _root_.Go.OpenSpec.ofChange s with cond := some uptoSmall }

/-- 'pressworklaw02.MsbWrites', WHERE WHAT IT READS IS OF BULK AT MOST 1048576: true; the input reads as it did. -/
def msbWritesUptoRow : OpenClaim := { program := "ytlhhoiimmalpgaa", sum := "d899acbdc449ff51ec7c7a0b31c3fceef56027e9f2e52bbf26a72c49d02a8635", func := "presswork/pressworklaw02.MsbWrites", spec := "msbWrites", unfollowed := true, recurses := true, apart := false, narrowed := true }
def MsbWritesUptoSaid : Prop := msbWritesUptoRow.holds Try.pinned (OpenSpec.upto msbWritesSpec)

/-- 'pressworklaw02.MsbReads', WHERE WHAT IT READS IS OF BULK AT MOST 1048576: true; the input reads as it did. -/
def msbReadsUptoRow : OpenClaim := { program := "ytlhhoiimmalpgaa", sum := "d899acbdc449ff51ec7c7a0b31c3fceef56027e9f2e52bbf26a72c49d02a8635", func := "presswork/pressworklaw02.MsbReads", spec := "msbReads", unfollowed := true, recurses := true, apart := false, narrowed := true }
def MsbReadsUptoSaid : Prop := msbReadsUptoRow.holds Try.pinned (OpenSpec.upto msbReadsSpec)

/-- 'pressworklaw02.MsbBack', WHERE WHAT IT READS IS OF BULK AT MOST 1048576: true; the input reads as it did. -/
def msbBackUptoRow : OpenClaim := { program := "ytlhhoiimmalpgaa", sum := "d899acbdc449ff51ec7c7a0b31c3fceef56027e9f2e52bbf26a72c49d02a8635", func := "presswork/pressworklaw02.MsbBack", spec := "msbBack", unfollowed := true, recurses := true, apart := false, narrowed := true }
def MsbBackUptoSaid : Prop := msbBackUptoRow.holds Try.pinned (OpenSpec.upto msbBackSpec)

/-- 'pressworklaw02.MsbAdds', WHERE WHAT IT READS IS OF BULK AT MOST 1048576: true; the input reads as it did. -/
def msbAddsUptoRow : OpenClaim := { program := "ytlhhoiimmalpgaa", sum := "d899acbdc449ff51ec7c7a0b31c3fceef56027e9f2e52bbf26a72c49d02a8635", func := "presswork/pressworklaw02.MsbAdds", spec := "msbAdds", unfollowed := true, recurses := true, apart := false, narrowed := true }
def MsbAddsUptoSaid : Prop := msbAddsUptoRow.holds Try.pinned (OpenSpec.upto msbAddsSpec)

/-- 'pressworklaw02.MsbSplit', WHERE WHAT IT READS IS OF BULK AT MOST 1048576: true; the input reads as it did. -/
def msbSplitUptoRow : OpenClaim := { program := "ytlhhoiimmalpgaa", sum := "d899acbdc449ff51ec7c7a0b31c3fceef56027e9f2e52bbf26a72c49d02a8635", func := "presswork/pressworklaw02.MsbSplit", spec := "msbSplit", unfollowed := true, recurses := true, apart := false, narrowed := true }
def MsbSplitUptoSaid : Prop := msbSplitUptoRow.holds Try.pinned (OpenSpec.upto msbSplitSpec)

/-- 'pressworklaw02.MsbNil', WHERE WHAT IT READS IS OF BULK AT MOST 1048576: true; the input reads as it did. -/
def msbNilUptoRow : OpenClaim := { program := "ytlhhoiimmalpgaa", sum := "d899acbdc449ff51ec7c7a0b31c3fceef56027e9f2e52bbf26a72c49d02a8635", func := "presswork/pressworklaw02.MsbNil", spec := "msbNil", unfollowed := true, recurses := true, apart := false, narrowed := true }
def MsbNilUptoSaid : Prop := msbNilUptoRow.holds Try.pinned (OpenSpec.upto msbNilSpec)

/-- 'pressworklaw02.MsbKnown', WHERE WHAT IT READS IS OF BULK AT MOST 1048576: true; the input reads as it did. -/
def msbKnownUptoRow : OpenClaim := { program := "ytlhhoiimmalpgaa", sum := "d899acbdc449ff51ec7c7a0b31c3fceef56027e9f2e52bbf26a72c49d02a8635", func := "presswork/pressworklaw02.MsbKnown", spec := "msbKnown", unfollowed := true, recurses := true, apart := false, narrowed := true }
def MsbKnownUptoSaid : Prop := msbKnownUptoRow.holds Try.pinned (OpenSpec.upto msbKnownSpec)

end Rows
end Go.Proofs.Ytlhhoiimmalpgaa
