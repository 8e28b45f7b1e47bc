/-
  No cell of these rows narrows 'for every input' (looked for: loops, veiled, ifaces, maps, wideKeys, modest, calm, conditions, laid).
  DERIVED. THE GIVEN ROWS OF THIS SEAT. 5 by the template 'for every input the law returns true; each argument reads behind the call as it read before'; 0 by the template 'total and deterministic' (their statements: YtfifkbadniekfaaTotals.lean).
  GIVEN WITH THE SEED: the statements are not yours to turn. If you find one false, say at which input.
  Laid BY PROGRAM, IN A SANDBOX (cutbox-rows.mjs): the forced cells as the released guide's own fill.sh prints them over the translation 4ff379106a08b817… (all of the seat's roots in one cut). By AI agents, Wed Nov 11 2026. No macro, syntax, notation, axiom, sorry.
-/
import Derived.Test.YtfifkbadniekfaaChecked
import GoSem.Claim
import GoSem.ClaimJoined
import GoSem.ClaimMapViews
import Derived.JoinedTies
import Derived.KernelRfl
namespace Go.Proofs.Ytfifkbadniekfaa
/- THE CELL 'sum', in the pinned program and in every row, IS THE sha256 OF THE DUMP (.gsa) THAT YtfifkbadniekfaaProg.lean LOADS. Nothing in Lean hashes anything: it is a label: what it is worth is what the hold of that sum in a sandbox is worth. -/
noncomputable def Try.pinned : Pinned := { name := "ytfifkbadniekfaa", sum := "4ff379106a08b817c866eb25720a5a78eb67683596529165dfe6054ddcd1ab85", checked := Try.checked }
namespace Rows
def none {H : Type} : Left H := { results := [], args := [] }

/-- 'pressworklaw14.LcpHeights': WHATEVER THE INPUT: true; the input reads as it did. -/
def lcpHeightsSpec : ChangeSpec := { name := "lcpHeights", fn := fun _ => fun
  | [d1, d2] => { results := [.lit (.bool true)], args := [d1, d2] }
  | _ => none }
def lcpHeightsRow : OpenClaim := { program := "ytfifkbadniekfaa", sum := "4ff379106a08b817c866eb25720a5a78eb67683596529165dfe6054ddcd1ab85", func := "presswork/pressworklaw14.LcpHeights", spec := "lcpHeights", unfollowed := true, recurses := true, apart := false }
def LcpHeightsSaid : Prop := lcpHeightsRow.holds Try.pinned (OpenSpec.ofChange lcpHeightsSpec)

/-- ITS FALSE NEIGHBOUR: 'it returns false'. Refute it at one input. -/
def lcpHeightsWrong : ChangeSpec := { name := "lcpHeights", fn := fun _ => fun
  | [d1, d2] => { results := [.lit (.bool false)], args := [d1, d2] }
  | _ => none }
def LcpHeightsWrongFalsely : Prop := lcpHeightsRow.holds Try.pinned (OpenSpec.ofChange lcpHeightsWrong)

/-- 'pressworklaw14.LcpCommon': WHATEVER THE INPUT: true; the input reads as it did. -/
def lcpCommonSpec : ChangeSpec := { name := "lcpCommon", fn := fun _ => fun
  | [d1, d2, d3] => { results := [.lit (.bool true)], args := [d1, d2, d3] }
  | _ => none }
def lcpCommonRow : OpenClaim := { program := "ytfifkbadniekfaa", sum := "4ff379106a08b817c866eb25720a5a78eb67683596529165dfe6054ddcd1ab85", func := "presswork/pressworklaw14.LcpCommon", spec := "lcpCommon", unfollowed := true, recurses := true, apart := false }
def LcpCommonSaid : Prop := lcpCommonRow.holds Try.pinned (OpenSpec.ofChange lcpCommonSpec)

/-- ITS FALSE NEIGHBOUR: 'it returns false'. Refute it at one input. -/
def lcpCommonWrong : ChangeSpec := { name := "lcpCommon", fn := fun _ => fun
  | [d1, d2, d3] => { results := [.lit (.bool false)], args := [d1, d2, d3] }
  | _ => none }
def LcpCommonWrongFalsely : Prop := lcpCommonRow.holds Try.pinned (OpenSpec.ofChange lcpCommonWrong)

/-- 'pressworklaw14.LcpText': WHATEVER THE INPUT: true; the input reads as it did. -/
def lcpTextSpec : ChangeSpec := { name := "lcpText", fn := fun _ => fun
  | [d1, d2, d3, d4] => { results := [.lit (.bool true)], args := [d1, d2, d3, d4] }
  | _ => none }
def lcpTextRow : OpenClaim := { program := "ytfifkbadniekfaa", sum := "4ff379106a08b817c866eb25720a5a78eb67683596529165dfe6054ddcd1ab85", func := "presswork/pressworklaw14.LcpText", spec := "lcpText", unfollowed := true, recurses := true, apart := false }
def LcpTextSaid : Prop := lcpTextRow.holds Try.pinned (OpenSpec.ofChange lcpTextSpec)

/-- ITS FALSE NEIGHBOUR: 'it returns false'. Refute it at one input. -/
def lcpTextWrong : ChangeSpec := { name := "lcpText", fn := fun _ => fun
  | [d1, d2, d3, d4] => { results := [.lit (.bool false)], args := [d1, d2, d3, d4] }
  | _ => none }
def LcpTextWrongFalsely : Prop := lcpTextRow.holds Try.pinned (OpenSpec.ofChange lcpTextWrong)

/-- 'pressworklaw14.LcpSum': WHATEVER THE INPUT: true; the input reads as it did. -/
def lcpSumSpec : ChangeSpec := { name := "lcpSum", fn := fun _ => fun
  | [d] => { results := [.lit (.bool true)], args := [d] }
  | _ => none }
def lcpSumRow : OpenClaim := { program := "ytfifkbadniekfaa", sum := "4ff379106a08b817c866eb25720a5a78eb67683596529165dfe6054ddcd1ab85", func := "presswork/pressworklaw14.LcpSum", spec := "lcpSum", unfollowed := true, recurses := true, apart := false }
def LcpSumSaid : Prop := lcpSumRow.holds Try.pinned (OpenSpec.ofChange lcpSumSpec)

/-- ITS FALSE NEIGHBOUR: 'it returns false'. Refute it at one input. -/
def lcpSumWrong : ChangeSpec := { name := "lcpSum", fn := fun _ => fun
  | [d] => { results := [.lit (.bool false)], args := [d] }
  | _ => none }
def LcpSumWrongFalsely : Prop := lcpSumRow.holds Try.pinned (OpenSpec.ofChange lcpSumWrong)

/-- 'pressworklaw14.LcpKnown': WHATEVER THE INPUT: true; the input reads as it did. -/
def lcpKnownSpec : ChangeSpec := { name := "lcpKnown", fn := fun _ => fun
  | [] => { results := [.lit (.bool true)], args := [] }
  | _ => none }
def lcpKnownRow : OpenClaim := { program := "ytfifkbadniekfaa", sum := "4ff379106a08b817c866eb25720a5a78eb67683596529165dfe6054ddcd1ab85", func := "presswork/pressworklaw14.LcpKnown", spec := "lcpKnown", unfollowed := true, recurses := true, apart := false }
def LcpKnownSaid : Prop := lcpKnownRow.holds Try.pinned (OpenSpec.ofChange lcpKnownSpec)

/-- ITS FALSE NEIGHBOUR: 'it returns false'. Refute it at one input. -/
def lcpKnownWrong : ChangeSpec := { name := "lcpKnown", fn := fun _ => fun
  | [] => { results := [.lit (.bool false)], args := [] }
  | _ => none }
def LcpKnownWrongFalsely : Prop := lcpKnownRow.holds Try.pinned (OpenSpec.ofChange lcpKnownWrong)

/- THE SECOND FORM. 'bulk': how many values and letters a reading holds, each counted each time it is reached (what is shared counts as often as it is met; a slice's spare places count too). A statement '..UptoSaid' is the law's where the arguments, and the package variables that the reading takes, are together of bulk at most 1048576: NARROWER than '..Said'. Prove '..Said' where nothing that the law and all that it calls make is longer than what came in: it says more and counts as full. Else prove '..UptoSaid'. A law counts once. -/
mutual
def uptoBulk {H : Type} : DataW H → Nat
  | .lit (.string bytes) => bytes.length + 1
  | .lit _ => 1
  | .nil => 1
  | .ptr d => uptoBulk d + 1
  | .slice elems spare => uptoBulkAll elems + uptoBulkAll spare + 1
  | .agg parts => uptoBulkAll parts + 1
  | .iface _ d => uptoBulk d + 1
  | .map entries => uptoBulkEntries entries + 1
  | .held _ => 1
def uptoBulkAll {H : Type} : List (DataW H) → Nat
  | [] => 0
  | d :: r => uptoBulk d + uptoBulkAll r
def uptoBulkEntries {H : Type} : List (Lit × DataW H) → Nat
  | [] => 0
  | x :: r => uptoBulkEntry x + uptoBulkEntries r
def uptoBulkEntry {H : Type} : Lit × DataW H → Nat
  | (.string bytes, d) => bytes.length + uptoBulk d + 1
  | (_, d) => uptoBulk d + 1
 end
def uptoSmall : (H : Type) → List (DataW H) → Bool := fun _ ds => decide (uptoBulkAll ds ≤ 1048576)
def OpenSpec.upto (s : _root_.Go.ChangeSpec) : _root_.Go.OpenSpec := { _root_.Go.OpenSpec.ofChange s with cond := some uptoSmall }

/-- 'pressworklaw14.LcpHeights', WHERE WHAT IT READS IS OF BULK AT MOST 1048576: true; the input reads as it did. -/
def lcpHeightsUptoRow : OpenClaim := { program := "ytfifkbadniekfaa", sum := "4ff379106a08b817c866eb25720a5a78eb67683596529165dfe6054ddcd1ab85", func := "presswork/pressworklaw14.LcpHeights", spec := "lcpHeights", unfollowed := true, recurses := true, apart := false, narrowed := true }
def LcpHeightsUptoSaid : Prop := lcpHeightsUptoRow.holds Try.pinned (OpenSpec.upto lcpHeightsSpec)

/-- 'pressworklaw14.LcpCommon', WHERE WHAT IT READS IS OF BULK AT MOST 1048576: true; the input reads as it did. -/
def lcpCommonUptoRow : OpenClaim := { program := "ytfifkbadniekfaa", sum := "4ff379106a08b817c866eb25720a5a78eb67683596529165dfe6054ddcd1ab85", func := "presswork/pressworklaw14.LcpCommon", spec := "lcpCommon", unfollowed := true, recurses := true, apart := false, narrowed := true }
def LcpCommonUptoSaid : Prop := lcpCommonUptoRow.holds Try.pinned (OpenSpec.upto lcpCommonSpec)

/-- 'pressworklaw14.LcpText', WHERE WHAT IT READS IS OF BULK AT MOST 1048576: true; the input reads as it did. -/
def lcpTextUptoRow : OpenClaim := { program := "ytfifkbadniekfaa", sum := "4ff379106a08b817c866eb25720a5a78eb67683596529165dfe6054ddcd1ab85", func := "presswork/pressworklaw14.LcpText", spec := "lcpText", unfollowed := true, recurses := true, apart := false, narrowed := true }
def LcpTextUptoSaid : Prop := lcpTextUptoRow.holds Try.pinned (OpenSpec.upto lcpTextSpec)

/-- 'pressworklaw14.LcpSum', WHERE WHAT IT READS IS OF BULK AT MOST 1048576: true; the input reads as it did. -/
def lcpSumUptoRow : OpenClaim := { program := "ytfifkbadniekfaa", sum := "4ff379106a08b817c866eb25720a5a78eb67683596529165dfe6054ddcd1ab85", func := "presswork/pressworklaw14.LcpSum", spec := "lcpSum", unfollowed := true, recurses := true, apart := false, narrowed := true }
def LcpSumUptoSaid : Prop := lcpSumUptoRow.holds Try.pinned (OpenSpec.upto lcpSumSpec)

/-- 'pressworklaw14.LcpKnown', WHERE WHAT IT READS IS OF BULK AT MOST 1048576: true; the input reads as it did. -/
def lcpKnownUptoRow : OpenClaim := { program := "ytfifkbadniekfaa", sum := "4ff379106a08b817c866eb25720a5a78eb67683596529165dfe6054ddcd1ab85", func := "presswork/pressworklaw14.LcpKnown", spec := "lcpKnown", unfollowed := true, recurses := true, apart := false, narrowed := true }
def LcpKnownUptoSaid : Prop := lcpKnownUptoRow.holds Try.pinned (OpenSpec.upto lcpKnownSpec)

end Rows
end Go.Proofs.Ytfifkbadniekfaa
