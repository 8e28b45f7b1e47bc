/-
  No cell of these rows narrows 'for every input' (looked for: loops, veiled, ifaces, maps, wideKeys, modest, calm, conditions, laid).
  DERIVED. THE GIVEN ROWS OF THIS SEAT. 6 by the template 'for every input the law returns true; each argument reads behind the call as it read before'; 0 by the template 'total and deterministic' (their statements: YtpkmojfjpnejdaaGreatTotals.lean).
  GIVEN WITH THE SEED: the statements are not yours to turn. If you find one false, say at which input.
  Laid BY PROGRAM, IN A SANDBOX (cutbox-rows.mjs): the forced cells as the released guide's own fill.sh prints them over the translation ddc656bdf65c58d6… (all of the seat's roots in one cut). By AI agents, Wed Nov 11 2026. No macro, syntax, notation, axiom, sorry.
-/
import Derived.Test.YtpkmojfjpnejdaaGreatChecked
import GoSem.Claim
import GoSem.ClaimJoined
import GoSem.ClaimMapViews
import Derived.JoinedTies
import Derived.KernelRfl
namespace Go.Proofs.YtpkmojfjpnejdaaGreat
/- THE CELL 'sum', in the pinned program and in every row, IS THE sha256 OF THE DUMP (.gsa) THAT YtpkmojfjpnejdaaGreatProg.lean LOADS. Nothing in Lean hashes anything: it is a label: what it is worth is what the hold of that sum in a sandbox is worth. -/
noncomputable def Tryz.pinned : Pinned := { name := "ytpkmojfjpnejdaagreat", sum := "ddc656bdf65c58d6c1f918caf735c2f048fe5145419b0d126b59b44dad5c82ff", checked := Tryz.checked }
namespace Rows
def none {H : Type} : Left H := { results := [], args := [] }

/-- 'pressworklaw09.HeaderGets': WHATEVER THE INPUT: true; the input reads as it did. -/
def headerGetsSpec : ChangeSpec := { name := "headerGets", fn := fun _ => fun
  | [d1, d2] => { results := [.lit (.bool true)], args := [d1, d2] }
  | _ => none }
def headerGetsRow : OpenClaim := { program := "ytpkmojfjpnejdaagreat", sum := "ddc656bdf65c58d6c1f918caf735c2f048fe5145419b0d126b59b44dad5c82ff", func := "presswork/pressworklaw09.HeaderGets", spec := "headerGets", unfollowed := true, recurses := true, plainKeys := false, apart := false }
def HeaderGetsSaid : Prop := headerGetsRow.holds Tryz.pinned (OpenSpec.ofChange headerGetsSpec)

/-- ITS FALSE NEIGHBOUR: 'it returns false'. Refute it at one input. -/
def headerGetsWrong : ChangeSpec := { name := "headerGets", fn := fun _ => fun
  | [d1, d2] => { results := [.lit (.bool false)], args := [d1, d2] }
  | _ => none }
def HeaderGetsWrongFalsely : Prop := headerGetsRow.holds Tryz.pinned (OpenSpec.ofChange headerGetsWrong)

/-- 'pressworklaw09.HeaderPuts': WHATEVER THE INPUT: true; the input reads as it did. -/
def headerPutsSpec : ChangeSpec := { name := "headerPuts", fn := fun _ => fun
  | [d1, d2, d3] => { results := [.lit (.bool true)], args := [d1, d2, d3] }
  | _ => none }
def headerPutsRow : OpenClaim := { program := "ytpkmojfjpnejdaagreat", sum := "ddc656bdf65c58d6c1f918caf735c2f048fe5145419b0d126b59b44dad5c82ff", func := "presswork/pressworklaw09.HeaderPuts", spec := "headerPuts", unfollowed := true, recurses := true, plainKeys := false, apart := false }
def HeaderPutsSaid : Prop := headerPutsRow.holds Tryz.pinned (OpenSpec.ofChange headerPutsSpec)

/-- ITS FALSE NEIGHBOUR: 'it returns false'. Refute it at one input. -/
def headerPutsWrong : ChangeSpec := { name := "headerPuts", fn := fun _ => fun
  | [d1, d2, d3] => { results := [.lit (.bool false)], args := [d1, d2, d3] }
  | _ => none }
def HeaderPutsWrongFalsely : Prop := headerPutsRow.holds Tryz.pinned (OpenSpec.ofChange headerPutsWrong)

/-- 'pressworklaw09.HeaderBack': WHATEVER THE INPUT: true; the input reads as it did. -/
def headerBackSpec : ChangeSpec := { name := "headerBack", fn := fun _ => fun
  | [d1, d2, d3, d4, d5] => { results := [.lit (.bool true)], args := [d1, d2, d3, d4, d5] }
  | _ => none }
def headerBackRow : OpenClaim := { program := "ytpkmojfjpnejdaagreat", sum := "ddc656bdf65c58d6c1f918caf735c2f048fe5145419b0d126b59b44dad5c82ff", func := "presswork/pressworklaw09.HeaderBack", spec := "headerBack", unfollowed := true, recurses := true, plainKeys := false, apart := false }
def HeaderBackSaid : Prop := headerBackRow.holds Tryz.pinned (OpenSpec.ofChange headerBackSpec)

/-- ITS FALSE NEIGHBOUR: 'it returns false'. Refute it at one input. -/
def headerBackWrong : ChangeSpec := { name := "headerBack", fn := fun _ => fun
  | [d1, d2, d3, d4, d5] => { results := [.lit (.bool false)], args := [d1, d2, d3, d4, d5] }
  | _ => none }
def HeaderBackWrongFalsely : Prop := headerBackRow.holds Tryz.pinned (OpenSpec.ofChange headerBackWrong)

/-- 'pressworklaw09.HeaderCut': WHATEVER THE INPUT: true; the input reads as it did. -/
def headerCutSpec : ChangeSpec := { name := "headerCut", fn := fun _ => fun
  | [d1, d2, d3] => { results := [.lit (.bool true)], args := [d1, d2, d3] }
  | _ => none }
def headerCutRow : OpenClaim := { program := "ytpkmojfjpnejdaagreat", sum := "ddc656bdf65c58d6c1f918caf735c2f048fe5145419b0d126b59b44dad5c82ff", func := "presswork/pressworklaw09.HeaderCut", spec := "headerCut", unfollowed := true, recurses := true, plainKeys := false, apart := false }
def HeaderCutSaid : Prop := headerCutRow.holds Tryz.pinned (OpenSpec.ofChange headerCutSpec)

/-- ITS FALSE NEIGHBOUR: 'it returns false'. Refute it at one input. -/
def headerCutWrong : ChangeSpec := { name := "headerCut", fn := fun _ => fun
  | [d1, d2, d3] => { results := [.lit (.bool false)], args := [d1, d2, d3] }
  | _ => none }
def HeaderCutWrongFalsely : Prop := headerCutRow.holds Tryz.pinned (OpenSpec.ofChange headerCutWrong)

/-- 'pressworklaw09.HeaderSame': WHATEVER THE INPUT: true; the input reads as it did. -/
def headerSameSpec : ChangeSpec := { name := "headerSame", fn := fun _ => fun
  | [d] => { results := [.lit (.bool true)], args := [d] }
  | _ => none }
def headerSameRow : OpenClaim := { program := "ytpkmojfjpnejdaagreat", sum := "ddc656bdf65c58d6c1f918caf735c2f048fe5145419b0d126b59b44dad5c82ff", func := "presswork/pressworklaw09.HeaderSame", spec := "headerSame", unfollowed := true, recurses := true, plainKeys := false, apart := false }
def HeaderSameSaid : Prop := headerSameRow.holds Tryz.pinned (OpenSpec.ofChange headerSameSpec)

/-- ITS FALSE NEIGHBOUR: 'it returns false'. Refute it at one input. -/
def headerSameWrong : ChangeSpec := { name := "headerSame", fn := fun _ => fun
  | [d] => { results := [.lit (.bool false)], args := [d] }
  | _ => none }
def HeaderSameWrongFalsely : Prop := headerSameRow.holds Tryz.pinned (OpenSpec.ofChange headerSameWrong)

/-- 'pressworklaw09.HeaderKnown': WHATEVER THE INPUT: true; the input reads as it did. -/
def headerKnownSpec : ChangeSpec := { name := "headerKnown", fn := fun _ => fun
  | [] => { results := [.lit (.bool true)], args := [] }
  | _ => none }
def headerKnownRow : OpenClaim := { program := "ytpkmojfjpnejdaagreat", sum := "ddc656bdf65c58d6c1f918caf735c2f048fe5145419b0d126b59b44dad5c82ff", func := "presswork/pressworklaw09.HeaderKnown", spec := "headerKnown", unfollowed := true, recurses := true, plainKeys := false, apart := false }
def HeaderKnownSaid : Prop := headerKnownRow.holds Tryz.pinned (OpenSpec.ofChange headerKnownSpec)

/-- ITS FALSE NEIGHBOUR: 'it returns false'. Refute it at one input. -/
def headerKnownWrong : ChangeSpec := { name := "headerKnown", fn := fun _ => fun
  | [] => { results := [.lit (.bool false)], args := [] }
  | _ => none }
def HeaderKnownWrongFalsely : Prop := headerKnownRow.holds Tryz.pinned (OpenSpec.ofChange headerKnownWrong)

/- THE SECOND FORM. 'bulk': how many values and letters a reading holds, each counted each time it is reached (what is shared counts as often as it is met; a slice's spare places count too). A statement '..UptoSaid' is the law's where the arguments, and the package variables that the reading takes, are together of bulk at most 1048576: NARROWER than '..Said'. Prove '..Said' where nothing that the law and all that it calls make is longer than what came in: it says more and counts as full. Else prove '..UptoSaid'. A law counts once. -/
mutual
def uptoBulk {H : Type} : DataW H → Nat
  | .lit (.string bytes) => bytes.length + 1
  | .lit _ => 1
  | .nil => 1
  | .ptr d => uptoBulk d + 1
  | .slice elems spare => uptoBulkAll elems + uptoBulkAll spare + 1
  | .agg parts => uptoBulkAll parts + 1
  | .iface _ d => uptoBulk d + 1
  | .map entries => uptoBulkEntries entries + 1
  | .held _ => 1
def uptoBulkAll {H : Type} : List (DataW H) → Nat
  | [] => 0
  | d :: r => uptoBulk d + uptoBulkAll r
def uptoBulkEntries {H : Type} : List (Lit × DataW H) → Nat
  | [] => 0
  | x :: r => uptoBulkEntry x + uptoBulkEntries r
def uptoBulkEntry {H : Type} : Lit × DataW H → Nat
  | (.string bytes, d) => bytes.length + uptoBulk d + 1
  | (_, d) => uptoBulk d + 1
 end
def uptoSmall : (H : Type) → List (DataW H) → Bool := fun _ ds => decide (uptoBulkAll ds ≤ 1048576)
def OpenSpec.upto (s : _root_.Go.ChangeSpec) : _root_.Go.OpenSpec := { _root_.Go.OpenSpec.ofChange s with cond := some uptoSmall }

/-- 'pressworklaw09.HeaderGets', WHERE WHAT IT READS IS OF BULK AT MOST 1048576: true; the input reads as it did. -/
def headerGetsUptoRow : OpenClaim := { program := "ytpkmojfjpnejdaagreat", sum := "ddc656bdf65c58d6c1f918caf735c2f048fe5145419b0d126b59b44dad5c82ff", func := "presswork/pressworklaw09.HeaderGets", spec := "headerGets", unfollowed := true, recurses := true, plainKeys := false, apart := false, narrowed := true }
def HeaderGetsUptoSaid : Prop := headerGetsUptoRow.holds Tryz.pinned (OpenSpec.upto headerGetsSpec)

/-- 'pressworklaw09.HeaderPuts', WHERE WHAT IT READS IS OF BULK AT MOST 1048576: true; the input reads as it did. -/
def headerPutsUptoRow : OpenClaim := { program := "ytpkmojfjpnejdaagreat", sum := "ddc656bdf65c58d6c1f918caf735c2f048fe5145419b0d126b59b44dad5c82ff", func := "presswork/pressworklaw09.HeaderPuts", spec := "headerPuts", unfollowed := true, recurses := true, plainKeys := false, apart := false, narrowed := true }
def HeaderPutsUptoSaid : Prop := headerPutsUptoRow.holds Tryz.pinned (OpenSpec.upto headerPutsSpec)

/-- 'pressworklaw09.HeaderBack', WHERE WHAT IT READS IS OF BULK AT MOST 1048576: true; the input reads as it did. -/
def headerBackUptoRow : OpenClaim := { program := "ytpkmojfjpnejdaagreat", sum := "ddc656bdf65c58d6c1f918caf735c2f048fe5145419b0d126b59b44dad5c82ff", func := "presswork/pressworklaw09.HeaderBack", spec := "headerBack", unfollowed := true, recurses := true, plainKeys := false, apart := false, narrowed := true }
def HeaderBackUptoSaid : Prop := headerBackUptoRow.holds Tryz.pinned (OpenSpec.upto headerBackSpec)

/-- 'pressworklaw09.HeaderCut', WHERE WHAT IT READS IS OF BULK AT MOST 1048576: true; the input reads as it did. -/
def headerCutUptoRow : OpenClaim := { program := "ytpkmojfjpnejdaagreat", sum := "ddc656bdf65c58d6c1f918caf735c2f048fe5145419b0d126b59b44dad5c82ff", func := "presswork/pressworklaw09.HeaderCut", spec := "headerCut", unfollowed := true, recurses := true, plainKeys := false, apart := false, narrowed := true }
def HeaderCutUptoSaid : Prop := headerCutUptoRow.holds Tryz.pinned (OpenSpec.upto headerCutSpec)

/-- 'pressworklaw09.HeaderSame', WHERE WHAT IT READS IS OF BULK AT MOST 1048576: true; the input reads as it did. -/
def headerSameUptoRow : OpenClaim := { program := "ytpkmojfjpnejdaagreat", sum := "ddc656bdf65c58d6c1f918caf735c2f048fe5145419b0d126b59b44dad5c82ff", func := "presswork/pressworklaw09.HeaderSame", spec := "headerSame", unfollowed := true, recurses := true, plainKeys := false, apart := false, narrowed := true }
def HeaderSameUptoSaid : Prop := headerSameUptoRow.holds Tryz.pinned (OpenSpec.upto headerSameSpec)

/-- 'pressworklaw09.HeaderKnown', WHERE WHAT IT READS IS OF BULK AT MOST 1048576: true; the input reads as it did. -/
def headerKnownUptoRow : OpenClaim := { program := "ytpkmojfjpnejdaagreat", sum := "ddc656bdf65c58d6c1f918caf735c2f048fe5145419b0d126b59b44dad5c82ff", func := "presswork/pressworklaw09.HeaderKnown", spec := "headerKnown", unfollowed := true, recurses := true, plainKeys := false, apart := false, narrowed := true }
def HeaderKnownUptoSaid : Prop := headerKnownUptoRow.holds Tryz.pinned (OpenSpec.upto headerKnownSpec)

end Rows
end Go.Proofs.YtpkmojfjpnejdaaGreat
