/-
  No cell of these rows narrows 'for every input' (looked for: loops, veiled, ifaces, maps, wideKeys, modest, calm, conditions, laid).
  DERIVED. THE GIVEN ROWS OF THIS SEAT. 6 by the template 'for every input the law returns true; each argument reads behind the call as it read before'; 0 by the template 'total and deterministic' (their statements: YtmooiheomecieaaTotals.lean).
  GIVEN WITH THE SEED: the statements are not yours to turn. If you find one false, say at which input.
  Laid BY PROGRAM, IN A SANDBOX (cutbox-rows.mjs): the forced cells as the released guide's own fill.sh prints them over the translation 0b6837eb235c01f1… (all of the seat's roots in one cut). By AI agents, Wed Nov 11 2026. No macro, syntax, notation, axiom, sorry.
-/
import Derived.Test.YtmooiheomecieaaChecked
import GoSem.Claim
import GoSem.ClaimJoined
import GoSem.ClaimMapViews
import Derived.JoinedTies
import Derived.KernelRfl
namespace Go.Proofs.Ytmooiheomecieaa
/- THE CELL 'sum', in the pinned program and in every row, IS THE sha256 OF THE DUMP (.gsa) THAT YtmooiheomecieaaProg.lean LOADS. Nothing in Lean hashes anything: it is a label: what it is worth is what the hold of that sum in a sandbox is worth. -/
noncomputable def Try.pinned : Pinned := { name := "ytmooiheomecieaa", sum := "0b6837eb235c01f1c3d032d3721065984669a6c975770570d218544a4da35e91", checked := Try.checked }
namespace Rows
def none {H : Type} : Left H := { results := [], args := [] }

/-- 'pressworklaw08.TokenSymbols': WHATEVER THE INPUT: true; the input reads as it did. -/
def tokenSymbolsSpec : ChangeSpec := { name := "tokenSymbols", fn := fun _ => fun
  | [d1, d2, d3] => { results := [.lit (.bool true)], args := [d1, d2, d3] }
  | _ => none }
def tokenSymbolsRow : OpenClaim := { program := "ytmooiheomecieaa", sum := "0b6837eb235c01f1c3d032d3721065984669a6c975770570d218544a4da35e91", func := "presswork/pressworklaw08.TokenSymbols", spec := "tokenSymbols", unfollowed := true, recurses := true, apart := false }
def TokenSymbolsSaid : Prop := tokenSymbolsRow.holds Try.pinned (OpenSpec.ofChange tokenSymbolsSpec)

/-- ITS FALSE NEIGHBOUR: 'it returns false'. Refute it at one input. -/
def tokenSymbolsWrong : ChangeSpec := { name := "tokenSymbols", fn := fun _ => fun
  | [d1, d2, d3] => { results := [.lit (.bool false)], args := [d1, d2, d3] }
  | _ => none }
def TokenSymbolsWrongFalsely : Prop := tokenSymbolsRow.holds Try.pinned (OpenSpec.ofChange tokenSymbolsWrong)

/-- 'pressworklaw08.TokenExpands': WHATEVER THE INPUT: true; the input reads as it did. -/
def tokenExpandsSpec : ChangeSpec := { name := "tokenExpands", fn := fun _ => fun
  | [d] => { results := [.lit (.bool true)], args := [d] }
  | _ => none }
def tokenExpandsRow : OpenClaim := { program := "ytmooiheomecieaa", sum := "0b6837eb235c01f1c3d032d3721065984669a6c975770570d218544a4da35e91", func := "presswork/pressworklaw08.TokenExpands", spec := "tokenExpands", unfollowed := true, recurses := true, apart := false }
def TokenExpandsSaid : Prop := tokenExpandsRow.holds Try.pinned (OpenSpec.ofChange tokenExpandsSpec)

/-- ITS FALSE NEIGHBOUR: 'it returns false'. Refute it at one input. -/
def tokenExpandsWrong : ChangeSpec := { name := "tokenExpands", fn := fun _ => fun
  | [d] => { results := [.lit (.bool false)], args := [d] }
  | _ => none }
def TokenExpandsWrongFalsely : Prop := tokenExpandsRow.holds Try.pinned (OpenSpec.ofChange tokenExpandsWrong)

/-- 'pressworklaw08.TokenSays': WHATEVER THE INPUT: true; the input reads as it did. -/
def tokenSaysSpec : ChangeSpec := { name := "tokenSays", fn := fun _ => fun
  | [d1, d2] => { results := [.lit (.bool true)], args := [d1, d2] }
  | _ => none }
def tokenSaysRow : OpenClaim := { program := "ytmooiheomecieaa", sum := "0b6837eb235c01f1c3d032d3721065984669a6c975770570d218544a4da35e91", func := "presswork/pressworklaw08.TokenSays", spec := "tokenSays", unfollowed := true, recurses := true, apart := false }
def TokenSaysSaid : Prop := tokenSaysRow.holds Try.pinned (OpenSpec.ofChange tokenSaysSpec)

/-- ITS FALSE NEIGHBOUR: 'it returns false'. Refute it at one input. -/
def tokenSaysWrong : ChangeSpec := { name := "tokenSays", fn := fun _ => fun
  | [d1, d2] => { results := [.lit (.bool false)], args := [d1, d2] }
  | _ => none }
def TokenSaysWrongFalsely : Prop := tokenSaysRow.holds Try.pinned (OpenSpec.ofChange tokenSaysWrong)

/-- 'pressworklaw08.TokenFills': WHATEVER THE INPUT: true; the input reads as it did. -/
def tokenFillsSpec : ChangeSpec := { name := "tokenFills", fn := fun _ => fun
  | [] => { results := [.lit (.bool true)], args := [] }
  | _ => none }
def tokenFillsRow : OpenClaim := { program := "ytmooiheomecieaa", sum := "0b6837eb235c01f1c3d032d3721065984669a6c975770570d218544a4da35e91", func := "presswork/pressworklaw08.TokenFills", spec := "tokenFills", unfollowed := true, recurses := true, apart := false }
def TokenFillsSaid : Prop := tokenFillsRow.holds Try.pinned (OpenSpec.ofChange tokenFillsSpec)

/-- ITS FALSE NEIGHBOUR: 'it returns false'. Refute it at one input. -/
def tokenFillsWrong : ChangeSpec := { name := "tokenFills", fn := fun _ => fun
  | [] => { results := [.lit (.bool false)], args := [] }
  | _ => none }
def TokenFillsWrongFalsely : Prop := tokenFillsRow.holds Try.pinned (OpenSpec.ofChange tokenFillsWrong)

/-- 'pressworklaw08.TokenRepeats': WHATEVER THE INPUT: true; the input reads as it did. -/
def tokenRepeatsSpec : ChangeSpec := { name := "tokenRepeats", fn := fun _ => fun
  | [d1, d2, d3] => { results := [.lit (.bool true)], args := [d1, d2, d3] }
  | _ => none }
def tokenRepeatsRow : OpenClaim := { program := "ytmooiheomecieaa", sum := "0b6837eb235c01f1c3d032d3721065984669a6c975770570d218544a4da35e91", func := "presswork/pressworklaw08.TokenRepeats", spec := "tokenRepeats", unfollowed := true, recurses := true, apart := false }
def TokenRepeatsSaid : Prop := tokenRepeatsRow.holds Try.pinned (OpenSpec.ofChange tokenRepeatsSpec)

/-- ITS FALSE NEIGHBOUR: 'it returns false'. Refute it at one input. -/
def tokenRepeatsWrong : ChangeSpec := { name := "tokenRepeats", fn := fun _ => fun
  | [d1, d2, d3] => { results := [.lit (.bool false)], args := [d1, d2, d3] }
  | _ => none }
def TokenRepeatsWrongFalsely : Prop := tokenRepeatsRow.holds Try.pinned (OpenSpec.ofChange tokenRepeatsWrong)

/-- 'pressworklaw08.TokenKnown': WHATEVER THE INPUT: true; the input reads as it did. -/
def tokenKnownSpec : ChangeSpec := { name := "tokenKnown", fn := fun _ => fun
  | [] => { results := [.lit (.bool true)], args := [] }
  | _ => none }
def tokenKnownRow : OpenClaim := { program := "ytmooiheomecieaa", sum := "0b6837eb235c01f1c3d032d3721065984669a6c975770570d218544a4da35e91", func := "presswork/pressworklaw08.TokenKnown", spec := "tokenKnown", unfollowed := true, recurses := true, apart := false }
def TokenKnownSaid : Prop := tokenKnownRow.holds Try.pinned (OpenSpec.ofChange tokenKnownSpec)

/-- ITS FALSE NEIGHBOUR: 'it returns false'. Refute it at one input. -/
def tokenKnownWrong : ChangeSpec := { name := "tokenKnown", fn := fun _ => fun
  | [] => { results := [.lit (.bool false)], args := [] }
  | _ => none }
def TokenKnownWrongFalsely : Prop := tokenKnownRow.holds Try.pinned (OpenSpec.ofChange tokenKnownWrong)

/- THE SECOND FORM. 'bulk': how many values and letters a reading holds, each counted each time it is reached (what is shared counts as often as it is met; a slice's spare places count too). A statement '..UptoSaid' is the law's where the arguments, and the package variables that the reading takes, are together of bulk at most 1048576: NARROWER than '..Said'. Prove '..Said' where nothing that the law and all that it calls make is longer than what came in: it says more and counts as full. Else prove '..UptoSaid'. A law counts once. -/
mutual
def uptoBulk {H : Type} : DataW H → Nat
  | .lit (.string bytes) => bytes.length + 1
  | .lit _ => 1
  | .nil => 1
  | .ptr d => uptoBulk d + 1
  | .slice elems spare => uptoBulkAll elems + uptoBulkAll spare + 1
  | .agg parts => uptoBulkAll parts + 1
  | .iface _ d => uptoBulk d + 1
  | .map entries => uptoBulkEntries entries + 1
  | .held _ => 1
def uptoBulkAll {H : Type} : List (DataW H) → Nat
  | [] => 0
  | d :: r => uptoBulk d + uptoBulkAll r
def uptoBulkEntries {H : Type} : List (Lit × DataW H) → Nat
  | [] => 0
  | x :: r => uptoBulkEntry x + uptoBulkEntries r
def uptoBulkEntry {H : Type} : Lit × DataW H → Nat
  | (.string bytes, d) => bytes.length + uptoBulk d + 1
  | (_, d) => uptoBulk d + 1
 end
def uptoSmall : (H : Type) → List (DataW H) → Bool := fun _ ds => decide (uptoBulkAll ds ≤ 1048576)
def OpenSpec.upto (s : _root_.Go.ChangeSpec) : _root_.Go.OpenSpec := { _root_.Go.OpenSpec.ofChange s with cond := some uptoSmall }

/-- 'pressworklaw08.TokenSymbols', WHERE WHAT IT READS IS OF BULK AT MOST 1048576: true; the input reads as it did. -/
def tokenSymbolsUptoRow : OpenClaim := { program := "ytmooiheomecieaa", sum := "0b6837eb235c01f1c3d032d3721065984669a6c975770570d218544a4da35e91", func := "presswork/pressworklaw08.TokenSymbols", spec := "tokenSymbols", unfollowed := true, recurses := true, apart := false, narrowed := true }
def TokenSymbolsUptoSaid : Prop := tokenSymbolsUptoRow.holds Try.pinned (OpenSpec.upto tokenSymbolsSpec)

/-- 'pressworklaw08.TokenExpands', WHERE WHAT IT READS IS OF BULK AT MOST 1048576: true; the input reads as it did. -/
def tokenExpandsUptoRow : OpenClaim := { program := "ytmooiheomecieaa", sum := "0b6837eb235c01f1c3d032d3721065984669a6c975770570d218544a4da35e91", func := "presswork/pressworklaw08.TokenExpands", spec := "tokenExpands", unfollowed := true, recurses := true, apart := false, narrowed := true }
def TokenExpandsUptoSaid : Prop := tokenExpandsUptoRow.holds Try.pinned (OpenSpec.upto tokenExpandsSpec)

/-- 'pressworklaw08.TokenSays', WHERE WHAT IT READS IS OF BULK AT MOST 1048576: true; the input reads as it did. -/
def tokenSaysUptoRow : OpenClaim := { program := "ytmooiheomecieaa", sum := "0b6837eb235c01f1c3d032d3721065984669a6c975770570d218544a4da35e91", func := "presswork/pressworklaw08.TokenSays", spec := "tokenSays", unfollowed := true, recurses := true, apart := false, narrowed := true }
def TokenSaysUptoSaid : Prop := tokenSaysUptoRow.holds Try.pinned (OpenSpec.upto tokenSaysSpec)

/-- 'pressworklaw08.TokenFills', WHERE WHAT IT READS IS OF BULK AT MOST 1048576: true; the input reads as it did. -/
def tokenFillsUptoRow : OpenClaim := { program := "ytmooiheomecieaa", sum := "0b6837eb235c01f1c3d032d3721065984669a6c975770570d218544a4da35e91", func := "presswork/pressworklaw08.TokenFills", spec := "tokenFills", unfollowed := true, recurses := true, apart := false, narrowed := true }
def TokenFillsUptoSaid : Prop := tokenFillsUptoRow.holds Try.pinned (OpenSpec.upto tokenFillsSpec)

/-- 'pressworklaw08.TokenRepeats', WHERE WHAT IT READS IS OF BULK AT MOST 1048576: true; the input reads as it did. -/
def tokenRepeatsUptoRow : OpenClaim := { program := "ytmooiheomecieaa", sum := "0b6837eb235c01f1c3d032d3721065984669a6c975770570d218544a4da35e91", func := "presswork/pressworklaw08.TokenRepeats", spec := "tokenRepeats", unfollowed := true, recurses := true, apart := false, narrowed := true }
def TokenRepeatsUptoSaid : Prop := tokenRepeatsUptoRow.holds Try.pinned (OpenSpec.upto tokenRepeatsSpec)

/-- 'pressworklaw08.TokenKnown', WHERE WHAT IT READS IS OF BULK AT MOST 1048576: true; the input reads as it did. -/
def tokenKnownUptoRow : OpenClaim := { program := "ytmooiheomecieaa", sum := "0b6837eb235c01f1c3d032d3721065984669a6c975770570d218544a4da35e91", func := "presswork/pressworklaw08.TokenKnown", spec := "tokenKnown", unfollowed := true, recurses := true, apart := false, narrowed := true }
def TokenKnownUptoSaid : Prop := tokenKnownUptoRow.holds Try.pinned (OpenSpec.upto tokenKnownSpec)

end Rows
end Go.Proofs.Ytmooiheomecieaa
