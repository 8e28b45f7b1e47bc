/-
  No cell of these rows narrows 'for every input' (looked for: loops, veiled, ifaces, maps, wideKeys, modest, calm, conditions, laid).
  DERIVED. THE GIVEN ROWS OF THIS SEAT. 7 by the template 'for every input the law returns true; each argument reads behind the call as it read before'; 0 by the template 'total and deterministic' (their statements: YtpaikaigglbkbaaTotals.lean).
  GIVEN WITH THE SEED: the statements are not yours to turn. If you find one false, say at which input.
  Laid BY PROGRAM, IN A SANDBOX (cutbox-rows.mjs): the forced cells as the released guide's own fill.sh prints them over the translation a9a94328cd59e0ad… (all of the seat's roots in one cut). By AI agents, Wed Nov 11 2026. No macro, syntax, notation, axiom, sorry.
-/
import Derived.Test.YtpaikaigglbkbaaChecked
import GoSem.Claim
import GoSem.ClaimJoined
import GoSem.ClaimMapViews
import Derived.JoinedTies
import Derived.KernelRfl
namespace Go.Proofs.Ytpaikaigglbkbaa
/- THE CELL 'sum', in the pinned program and in every row, IS THE sha256 OF THE DUMP (.gsa) THAT YtpaikaigglbkbaaProg.lean LOADS. Nothing in Lean hashes anything: it is a label: what it is worth is what the hold of that sum in a sandbox is worth. -/
noncomputable def Try.pinned : Pinned := { name := "ytpaikaigglbkbaa", sum := "a9a94328cd59e0ad1ec93ca202271ddc262317d1cace187e87e10b33ac0004cb", checked := Try.checked }
namespace Rows
def none {H : Type} : Left H := { results := [], args := [] }

/-- 'pressworklaw01.LsbWrites': WHATEVER THE INPUT: true; the input reads as it did. -/
def lsbWritesSpec : ChangeSpec := { name := "lsbWrites", fn := fun _ => fun
  | [d] => { results := [.lit (.bool true)], args := [d] }
  | _ => none }
def lsbWritesRow : OpenClaim := { program := "ytpaikaigglbkbaa", sum := "a9a94328cd59e0ad1ec93ca202271ddc262317d1cace187e87e10b33ac0004cb", func := "presswork/pressworklaw01.LsbWrites", spec := "lsbWrites", unfollowed := true, recurses := true, apart := false }
def LsbWritesSaid : Prop := lsbWritesRow.holds Try.pinned (OpenSpec.ofChange lsbWritesSpec)

/-- ITS FALSE NEIGHBOUR: 'it returns false'. Refute it at one input. -/
def lsbWritesWrong : ChangeSpec := { name := "lsbWrites", fn := fun _ => fun
  | [d] => { results := [.lit (.bool false)], args := [d] }
  | _ => none }
def LsbWritesWrongFalsely : Prop := lsbWritesRow.holds Try.pinned (OpenSpec.ofChange lsbWritesWrong)

/-- 'pressworklaw01.LsbReads': WHATEVER THE INPUT: true; the input reads as it did. -/
def lsbReadsSpec : ChangeSpec := { name := "lsbReads", fn := fun _ => fun
  | [d1, d2] => { results := [.lit (.bool true)], args := [d1, d2] }
  | _ => none }
def lsbReadsRow : OpenClaim := { program := "ytpaikaigglbkbaa", sum := "a9a94328cd59e0ad1ec93ca202271ddc262317d1cace187e87e10b33ac0004cb", func := "presswork/pressworklaw01.LsbReads", spec := "lsbReads", unfollowed := true, recurses := true, apart := false }
def LsbReadsSaid : Prop := lsbReadsRow.holds Try.pinned (OpenSpec.ofChange lsbReadsSpec)

/-- ITS FALSE NEIGHBOUR: 'it returns false'. Refute it at one input. -/
def lsbReadsWrong : ChangeSpec := { name := "lsbReads", fn := fun _ => fun
  | [d1, d2] => { results := [.lit (.bool false)], args := [d1, d2] }
  | _ => none }
def LsbReadsWrongFalsely : Prop := lsbReadsRow.holds Try.pinned (OpenSpec.ofChange lsbReadsWrong)

/-- 'pressworklaw01.LsbBack': WHATEVER THE INPUT: true; the input reads as it did. -/
def lsbBackSpec : ChangeSpec := { name := "lsbBack", fn := fun _ => fun
  | [d] => { results := [.lit (.bool true)], args := [d] }
  | _ => none }
def lsbBackRow : OpenClaim := { program := "ytpaikaigglbkbaa", sum := "a9a94328cd59e0ad1ec93ca202271ddc262317d1cace187e87e10b33ac0004cb", func := "presswork/pressworklaw01.LsbBack", spec := "lsbBack", unfollowed := true, recurses := true, apart := false }
def LsbBackSaid : Prop := lsbBackRow.holds Try.pinned (OpenSpec.ofChange lsbBackSpec)

/-- ITS FALSE NEIGHBOUR: 'it returns false'. Refute it at one input. -/
def lsbBackWrong : ChangeSpec := { name := "lsbBack", fn := fun _ => fun
  | [d] => { results := [.lit (.bool false)], args := [d] }
  | _ => none }
def LsbBackWrongFalsely : Prop := lsbBackRow.holds Try.pinned (OpenSpec.ofChange lsbBackWrong)

/-- 'pressworklaw01.LsbAdds': WHATEVER THE INPUT: true; the input reads as it did. -/
def lsbAddsSpec : ChangeSpec := { name := "lsbAdds", fn := fun _ => fun
  | [d1, d2] => { results := [.lit (.bool true)], args := [d1, d2] }
  | _ => none }
def lsbAddsRow : OpenClaim := { program := "ytpaikaigglbkbaa", sum := "a9a94328cd59e0ad1ec93ca202271ddc262317d1cace187e87e10b33ac0004cb", func := "presswork/pressworklaw01.LsbAdds", spec := "lsbAdds", unfollowed := true, recurses := true, apart := false }
def LsbAddsSaid : Prop := lsbAddsRow.holds Try.pinned (OpenSpec.ofChange lsbAddsSpec)

/-- ITS FALSE NEIGHBOUR: 'it returns false'. Refute it at one input. -/
def lsbAddsWrong : ChangeSpec := { name := "lsbAdds", fn := fun _ => fun
  | [d1, d2] => { results := [.lit (.bool false)], args := [d1, d2] }
  | _ => none }
def LsbAddsWrongFalsely : Prop := lsbAddsRow.holds Try.pinned (OpenSpec.ofChange lsbAddsWrong)

/-- 'pressworklaw01.LsbSplit': WHATEVER THE INPUT: true; the input reads as it did. -/
def lsbSplitSpec : ChangeSpec := { name := "lsbSplit", fn := fun _ => fun
  | [d1, d2, d3, d4] => { results := [.lit (.bool true)], args := [d1, d2, d3, d4] }
  | _ => none }
def lsbSplitRow : OpenClaim := { program := "ytpaikaigglbkbaa", sum := "a9a94328cd59e0ad1ec93ca202271ddc262317d1cace187e87e10b33ac0004cb", func := "presswork/pressworklaw01.LsbSplit", spec := "lsbSplit", unfollowed := true, recurses := true, apart := false }
def LsbSplitSaid : Prop := lsbSplitRow.holds Try.pinned (OpenSpec.ofChange lsbSplitSpec)

/-- ITS FALSE NEIGHBOUR: 'it returns false'. Refute it at one input. -/
def lsbSplitWrong : ChangeSpec := { name := "lsbSplit", fn := fun _ => fun
  | [d1, d2, d3, d4] => { results := [.lit (.bool false)], args := [d1, d2, d3, d4] }
  | _ => none }
def LsbSplitWrongFalsely : Prop := lsbSplitRow.holds Try.pinned (OpenSpec.ofChange lsbSplitWrong)

/-- 'pressworklaw01.LsbNil': WHATEVER THE INPUT: true; the input reads as it did. -/
def lsbNilSpec : ChangeSpec := { name := "lsbNil", fn := fun _ => fun
  | [d1, d2] => { results := [.lit (.bool true)], args := [d1, d2] }
  | _ => none }
def lsbNilRow : OpenClaim := { program := "ytpaikaigglbkbaa", sum := "a9a94328cd59e0ad1ec93ca202271ddc262317d1cace187e87e10b33ac0004cb", func := "presswork/pressworklaw01.LsbNil", spec := "lsbNil", unfollowed := true, recurses := true, apart := false }
def LsbNilSaid : Prop := lsbNilRow.holds Try.pinned (OpenSpec.ofChange lsbNilSpec)

/-- ITS FALSE NEIGHBOUR: 'it returns false'. Refute it at one input. -/
def lsbNilWrong : ChangeSpec := { name := "lsbNil", fn := fun _ => fun
  | [d1, d2] => { results := [.lit (.bool false)], args := [d1, d2] }
  | _ => none }
def LsbNilWrongFalsely : Prop := lsbNilRow.holds Try.pinned (OpenSpec.ofChange lsbNilWrong)

/-- 'pressworklaw01.LsbKnown': WHATEVER THE INPUT: true; the input reads as it did. -/
def lsbKnownSpec : ChangeSpec := { name := "lsbKnown", fn := fun _ => fun
  | [] => { results := [.lit (.bool true)], args := [] }
  | _ => none }
def lsbKnownRow : OpenClaim := { program := "ytpaikaigglbkbaa", sum := "a9a94328cd59e0ad1ec93ca202271ddc262317d1cace187e87e10b33ac0004cb", func := "presswork/pressworklaw01.LsbKnown", spec := "lsbKnown", unfollowed := true, recurses := true, apart := false }
def LsbKnownSaid : Prop := lsbKnownRow.holds Try.pinned (OpenSpec.ofChange lsbKnownSpec)

/-- ITS FALSE NEIGHBOUR: 'it returns false'. Refute it at one input. -/
def lsbKnownWrong : ChangeSpec := { name := "lsbKnown", fn := fun _ => fun
  | [] => { results := [.lit (.bool false)], args := [] }
  | _ => none }
def LsbKnownWrongFalsely : Prop := lsbKnownRow.holds Try.pinned (OpenSpec.ofChange lsbKnownWrong)

/- THE SECOND FORM. 'bulk': how many values and letters a reading holds, each counted each time it is reached (what is shared counts as often as it is met; a slice's spare places count too). A statement '..UptoSaid' is the law's where the arguments, and the package variables that the reading takes, are together of bulk at most 1048576: NARROWER than '..Said'. Prove '..Said' where nothing that the law and all that it calls make is longer than what came in: it says more and counts as full. Else prove '..UptoSaid'. A law counts once. -/
mutual
def uptoBulk {H : Type} : DataW H → Nat
  | .lit (.string bytes) => bytes.length + 1
  | .lit _ => 1
  | .nil => 1
  | .ptr d => uptoBulk d + 1
  | .slice elems spare => uptoBulkAll elems + uptoBulkAll spare + 1
  | .agg parts => uptoBulkAll parts + 1
  | .iface _ d => uptoBulk d + 1
  | .map entries => uptoBulkEntries entries + 1
  | .held _ => 1
def uptoBulkAll {H : Type} : List (DataW H) → Nat
  | [] => 0
  | d :: r => uptoBulk d + uptoBulkAll r
def uptoBulkEntries {H : Type} : List (Lit × DataW H) → Nat
  | [] => 0
  | x :: r => uptoBulkEntry x + uptoBulkEntries r
def uptoBulkEntry {H : Type} : Lit × DataW H → Nat
  | (.string bytes, d) => bytes.length + uptoBulk d + 1
  | (_, d) => uptoBulk d + 1
 end
def uptoSmall : (H : Type) → List (DataW H) → Bool := fun _ ds => decide (uptoBulkAll ds ≤ 1048576)
def OpenSpec.upto (s : _root_.Go.ChangeSpec) : _root_.Go.OpenSpec := { _root_.Go.OpenSpec.ofChange s with cond := some uptoSmall }

/-- 'pressworklaw01.LsbWrites', WHERE WHAT IT READS IS OF BULK AT MOST 1048576: true; the input reads as it did. -/
def lsbWritesUptoRow : OpenClaim := { program := "ytpaikaigglbkbaa", sum := "a9a94328cd59e0ad1ec93ca202271ddc262317d1cace187e87e10b33ac0004cb", func := "presswork/pressworklaw01.LsbWrites", spec := "lsbWrites", unfollowed := true, recurses := true, apart := false, narrowed := true }
def LsbWritesUptoSaid : Prop := lsbWritesUptoRow.holds Try.pinned (OpenSpec.upto lsbWritesSpec)

/-- 'pressworklaw01.LsbReads', WHERE WHAT IT READS IS OF BULK AT MOST 1048576: true; the input reads as it did. -/
def lsbReadsUptoRow : OpenClaim := { program := "ytpaikaigglbkbaa", sum := "a9a94328cd59e0ad1ec93ca202271ddc262317d1cace187e87e10b33ac0004cb", func := "presswork/pressworklaw01.LsbReads", spec := "lsbReads", unfollowed := true, recurses := true, apart := false, narrowed := true }
def LsbReadsUptoSaid : Prop := lsbReadsUptoRow.holds Try.pinned (OpenSpec.upto lsbReadsSpec)

/-- 'pressworklaw01.LsbBack', WHERE WHAT IT READS IS OF BULK AT MOST 1048576: true; the input reads as it did. -/
def lsbBackUptoRow : OpenClaim := { program := "ytpaikaigglbkbaa", sum := "a9a94328cd59e0ad1ec93ca202271ddc262317d1cace187e87e10b33ac0004cb", func := "presswork/pressworklaw01.LsbBack", spec := "lsbBack", unfollowed := true, recurses := true, apart := false, narrowed := true }
def LsbBackUptoSaid : Prop := lsbBackUptoRow.holds Try.pinned (OpenSpec.upto lsbBackSpec)

/-- 'pressworklaw01.LsbAdds', WHERE WHAT IT READS IS OF BULK AT MOST 1048576: true; the input reads as it did. -/
def lsbAddsUptoRow : OpenClaim := { program := "ytpaikaigglbkbaa", sum := "a9a94328cd59e0ad1ec93ca202271ddc262317d1cace187e87e10b33ac0004cb", func := "presswork/pressworklaw01.LsbAdds", spec := "lsbAdds", unfollowed := true, recurses := true, apart := false, narrowed := true }
def LsbAddsUptoSaid : Prop := lsbAddsUptoRow.holds Try.pinned (OpenSpec.upto lsbAddsSpec)

/-- 'pressworklaw01.LsbSplit', WHERE WHAT IT READS IS OF BULK AT MOST 1048576: true; the input reads as it did. -/
def lsbSplitUptoRow : OpenClaim := { program := "ytpaikaigglbkbaa", sum := "a9a94328cd59e0ad1ec93ca202271ddc262317d1cace187e87e10b33ac0004cb", func := "presswork/pressworklaw01.LsbSplit", spec := "lsbSplit", unfollowed := true, recurses := true, apart := false, narrowed := true }
def LsbSplitUptoSaid : Prop := lsbSplitUptoRow.holds Try.pinned (OpenSpec.upto lsbSplitSpec)

/-- 'pressworklaw01.LsbNil', WHERE WHAT IT READS IS OF BULK AT MOST 1048576: true; the input reads as it did. -/
def lsbNilUptoRow : OpenClaim := { program := "ytpaikaigglbkbaa", sum := "a9a94328cd59e0ad1ec93ca202271ddc262317d1cace187e87e10b33ac0004cb", func := "presswork/pressworklaw01.LsbNil", spec := "lsbNil", unfollowed := true, recurses := true, apart := false, narrowed := true }
def LsbNilUptoSaid : Prop := lsbNilUptoRow.holds Try.pinned (OpenSpec.upto lsbNilSpec)

/-- 'pressworklaw01.LsbKnown', WHERE WHAT IT READS IS OF BULK AT MOST 1048576: true; the input reads as it did. -/
def lsbKnownUptoRow : OpenClaim := { program := "ytpaikaigglbkbaa", sum := "a9a94328cd59e0ad1ec93ca202271ddc262317d1cace187e87e10b33ac0004cb", func := "presswork/pressworklaw01.LsbKnown", spec := "lsbKnown", unfollowed := true, recurses := true, apart := false, narrowed := true }
def LsbKnownUptoSaid : Prop := lsbKnownUptoRow.holds Try.pinned (OpenSpec.upto lsbKnownSpec)

end Rows
end Go.Proofs.Ytpaikaigglbkbaa
