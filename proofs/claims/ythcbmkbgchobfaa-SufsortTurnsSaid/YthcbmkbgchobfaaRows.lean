/-
  No cell of these rows narrows 'for every input' (looked for: loops, veiled, ifaces, maps, wideKeys, modest, calm, conditions, laid).
  DERIVED. THE GIVEN ROWS OF THIS SEAT. 6 by the template 'for every input the law returns true; each argument reads behind the call as it read before'; 0 by the template 'total and deterministic' (their statements: YthcbmkbgchobfaaTotals.lean).
  GIVEN WITH THE SEED: the statements are not yours to turn. If you find one false, say at which input.
  Laid BY PROGRAM, IN A SANDBOX (cutbox-rows.mjs): the forced cells as the released guide's own fill.sh prints them over the translation 8e063439cc077c97… (all of the seat's roots in one cut). By AI agents, Wed Nov 11 2026. No macro, syntax, notation, axiom, sorry.
-/
import Derived.Test.YthcbmkbgchobfaaChecked
import GoSem.Claim
import GoSem.ClaimJoined
import GoSem.ClaimMapViews
import Derived.JoinedTies
import Derived.KernelRfl
namespace Go.Proofs.Ythcbmkbgchobfaa
/- THE CELL 'sum', in the pinned program and in every row, IS THE sha256 OF THE DUMP (.gsa) THAT YthcbmkbgchobfaaProg.lean LOADS. Nothing in Lean hashes anything: it is a label: what it is worth is what the hold of that sum in a sandbox is worth. -/
noncomputable def Try.pinned : Pinned := { name := "ythcbmkbgchobfaa", sum := "8e063439cc077c9767eded8c6935a597fadee4ab74ad5245386bac5572dd45e9", checked := Try.checked }
namespace Rows
def none {H : Type} : Left H := { results := [], args := [] }

/-- 'pressworklaw13.SufsortOrders': WHATEVER THE INPUT: true; the input reads as it did. -/
def sufsortOrdersSpec : ChangeSpec := { name := "sufsortOrders", fn := fun _ => fun
  | [d] => { results := [.lit (.bool true)], args := [d] }
  | _ => none }
def sufsortOrdersRow : OpenClaim := { program := "ythcbmkbgchobfaa", sum := "8e063439cc077c9767eded8c6935a597fadee4ab74ad5245386bac5572dd45e9", func := "presswork/pressworklaw13.SufsortOrders", spec := "sufsortOrders", unfollowed := true, recurses := true, apart := false }
def SufsortOrdersSaid : Prop := sufsortOrdersRow.holds Try.pinned (OpenSpec.ofChange sufsortOrdersSpec)

/-- ITS FALSE NEIGHBOUR: 'it returns false'. Refute it at one input. -/
def sufsortOrdersWrong : ChangeSpec := { name := "sufsortOrders", fn := fun _ => fun
  | [d] => { results := [.lit (.bool false)], args := [d] }
  | _ => none }
def SufsortOrdersWrongFalsely : Prop := sufsortOrdersRow.holds Try.pinned (OpenSpec.ofChange sufsortOrdersWrong)

/-- 'pressworklaw13.SufsortPlaces': WHATEVER THE INPUT: true; the input reads as it did. -/
def sufsortPlacesSpec : ChangeSpec := { name := "sufsortPlaces", fn := fun _ => fun
  | [d] => { results := [.lit (.bool true)], args := [d] }
  | _ => none }
def sufsortPlacesRow : OpenClaim := { program := "ythcbmkbgchobfaa", sum := "8e063439cc077c9767eded8c6935a597fadee4ab74ad5245386bac5572dd45e9", func := "presswork/pressworklaw13.SufsortPlaces", spec := "sufsortPlaces", unfollowed := true, recurses := true, apart := false }
def SufsortPlacesSaid : Prop := sufsortPlacesRow.holds Try.pinned (OpenSpec.ofChange sufsortPlacesSpec)

/-- ITS FALSE NEIGHBOUR: 'it returns false'. Refute it at one input. -/
def sufsortPlacesWrong : ChangeSpec := { name := "sufsortPlaces", fn := fun _ => fun
  | [d] => { results := [.lit (.bool false)], args := [d] }
  | _ => none }
def SufsortPlacesWrongFalsely : Prop := sufsortPlacesRow.holds Try.pinned (OpenSpec.ofChange sufsortPlacesWrong)

/-- 'pressworklaw13.SufsortRises': WHATEVER THE INPUT: true; the input reads as it did. -/
def sufsortRisesSpec : ChangeSpec := { name := "sufsortRises", fn := fun _ => fun
  | [d] => { results := [.lit (.bool true)], args := [d] }
  | _ => none }
def sufsortRisesRow : OpenClaim := { program := "ythcbmkbgchobfaa", sum := "8e063439cc077c9767eded8c6935a597fadee4ab74ad5245386bac5572dd45e9", func := "presswork/pressworklaw13.SufsortRises", spec := "sufsortRises", unfollowed := true, recurses := true, apart := false }
def SufsortRisesSaid : Prop := sufsortRisesRow.holds Try.pinned (OpenSpec.ofChange sufsortRisesSpec)

/-- ITS FALSE NEIGHBOUR: 'it returns false'. Refute it at one input. -/
def sufsortRisesWrong : ChangeSpec := { name := "sufsortRises", fn := fun _ => fun
  | [d] => { results := [.lit (.bool false)], args := [d] }
  | _ => none }
def SufsortRisesWrongFalsely : Prop := sufsortRisesRow.holds Try.pinned (OpenSpec.ofChange sufsortRisesWrong)

/-- 'pressworklaw13.SufsortTurns': WHATEVER THE INPUT: true; the input reads as it did. -/
def sufsortTurnsSpec : ChangeSpec := { name := "sufsortTurns", fn := fun _ => fun
  | [d1, d2, d3] => { results := [.lit (.bool true)], args := [d1, d2, d3] }
  | _ => none }
def sufsortTurnsRow : OpenClaim := { program := "ythcbmkbgchobfaa", sum := "8e063439cc077c9767eded8c6935a597fadee4ab74ad5245386bac5572dd45e9", func := "presswork/pressworklaw13.SufsortTurns", spec := "sufsortTurns", unfollowed := true, recurses := true, apart := false }
def SufsortTurnsSaid : Prop := sufsortTurnsRow.holds Try.pinned (OpenSpec.ofChange sufsortTurnsSpec)

/-- ITS FALSE NEIGHBOUR: 'it returns false'. Refute it at one input. -/
def sufsortTurnsWrong : ChangeSpec := { name := "sufsortTurns", fn := fun _ => fun
  | [d1, d2, d3] => { results := [.lit (.bool false)], args := [d1, d2, d3] }
  | _ => none }
def SufsortTurnsWrongFalsely : Prop := sufsortTurnsRow.holds Try.pinned (OpenSpec.ofChange sufsortTurnsWrong)

/-- 'pressworklaw13.SufsortBack': WHATEVER THE INPUT: true; the input reads as it did. -/
def sufsortBackSpec : ChangeSpec := { name := "sufsortBack", fn := fun _ => fun
  | [d] => { results := [.lit (.bool true)], args := [d] }
  | _ => none }
def sufsortBackRow : OpenClaim := { program := "ythcbmkbgchobfaa", sum := "8e063439cc077c9767eded8c6935a597fadee4ab74ad5245386bac5572dd45e9", func := "presswork/pressworklaw13.SufsortBack", spec := "sufsortBack", unfollowed := true, recurses := true, apart := false }
def SufsortBackSaid : Prop := sufsortBackRow.holds Try.pinned (OpenSpec.ofChange sufsortBackSpec)

/-- ITS FALSE NEIGHBOUR: 'it returns false'. Refute it at one input. -/
def sufsortBackWrong : ChangeSpec := { name := "sufsortBack", fn := fun _ => fun
  | [d] => { results := [.lit (.bool false)], args := [d] }
  | _ => none }
def SufsortBackWrongFalsely : Prop := sufsortBackRow.holds Try.pinned (OpenSpec.ofChange sufsortBackWrong)

/-- 'pressworklaw13.SufsortKnown': WHATEVER THE INPUT: true; the input reads as it did. -/
def sufsortKnownSpec : ChangeSpec := { name := "sufsortKnown", fn := fun _ => fun
  | [] => { results := [.lit (.bool true)], args := [] }
  | _ => none }
def sufsortKnownRow : OpenClaim := { program := "ythcbmkbgchobfaa", sum := "8e063439cc077c9767eded8c6935a597fadee4ab74ad5245386bac5572dd45e9", func := "presswork/pressworklaw13.SufsortKnown", spec := "sufsortKnown", unfollowed := true, recurses := true, apart := false }
def SufsortKnownSaid : Prop := sufsortKnownRow.holds Try.pinned (OpenSpec.ofChange sufsortKnownSpec)

/-- ITS FALSE NEIGHBOUR: 'it returns false'. Refute it at one input. -/
def sufsortKnownWrong : ChangeSpec := { name := "sufsortKnown", fn := fun _ => fun
  | [] => { results := [.lit (.bool false)], args := [] }
  | _ => none }
def SufsortKnownWrongFalsely : Prop := sufsortKnownRow.holds Try.pinned (OpenSpec.ofChange sufsortKnownWrong)

/- THE SECOND FORM. 'bulk': how many values and letters a reading holds, each counted each time it is reached (what is shared counts as often as it is met; a slice's spare places count too). A statement '..UptoSaid' is the law's where the arguments, and the package variables that the reading takes, are together of bulk at most 1048576: NARROWER than '..Said'. Prove '..Said' where nothing that the law and all that it calls make is longer than what came in: it says more and counts as full. Else prove '..UptoSaid'. A law counts once. -/
mutual
def uptoBulk {H : Type} : DataW H → Nat
  | .lit (.string bytes) => bytes.length + 1
  | .lit _ => 1
  | .nil => 1
  | .ptr d => uptoBulk d + 1
  | .slice elems spare => uptoBulkAll elems + uptoBulkAll spare + 1
  | .agg parts => uptoBulkAll parts + 1
  | .iface _ d => uptoBulk d + 1
  | .map entries => uptoBulkEntries entries + 1
  | .held _ => 1
def uptoBulkAll {H : Type} : List (DataW H) → Nat
  | [] => 0
  | d :: r => uptoBulk d + uptoBulkAll r
def uptoBulkEntries {H : Type} : List (Lit × DataW H) → Nat
  | [] => 0
  | x :: r => uptoBulkEntry x + uptoBulkEntries r
def uptoBulkEntry {H : Type} : Lit × DataW H → Nat
  | (.string bytes, d) => bytes.length + uptoBulk d + 1
  | (_, d) => uptoBulk d + 1
 end
def uptoSmall : (H : Type) → List (DataW H) → Bool := fun _ ds => decide (uptoBulkAll ds ≤ 1048576)
def OpenSpec.upto (s : _root_.Go.ChangeSpec) : _root_.Go.OpenSpec := { _root_.Go.OpenSpec.ofChange s with cond := some uptoSmall }

/-- 'pressworklaw13.SufsortOrders', WHERE WHAT IT READS IS OF BULK AT MOST 1048576: true; the input reads as it did. -/
def sufsortOrdersUptoRow : OpenClaim := { program := "ythcbmkbgchobfaa", sum := "8e063439cc077c9767eded8c6935a597fadee4ab74ad5245386bac5572dd45e9", func := "presswork/pressworklaw13.SufsortOrders", spec := "sufsortOrders", unfollowed := true, recurses := true, apart := false, narrowed := true }
def SufsortOrdersUptoSaid : Prop := sufsortOrdersUptoRow.holds Try.pinned (OpenSpec.upto sufsortOrdersSpec)

/-- 'pressworklaw13.SufsortPlaces', WHERE WHAT IT READS IS OF BULK AT MOST 1048576: true; the input reads as it did. -/
def sufsortPlacesUptoRow : OpenClaim := { program := "ythcbmkbgchobfaa", sum := "8e063439cc077c9767eded8c6935a597fadee4ab74ad5245386bac5572dd45e9", func := "presswork/pressworklaw13.SufsortPlaces", spec := "sufsortPlaces", unfollowed := true, recurses := true, apart := false, narrowed := true }
def SufsortPlacesUptoSaid : Prop := sufsortPlacesUptoRow.holds Try.pinned (OpenSpec.upto sufsortPlacesSpec)

/-- 'pressworklaw13.SufsortRises', WHERE WHAT IT READS IS OF BULK AT MOST 1048576: true; the input reads as it did. -/
def sufsortRisesUptoRow : OpenClaim := { program := "ythcbmkbgchobfaa", sum := "8e063439cc077c9767eded8c6935a597fadee4ab74ad5245386bac5572dd45e9", func := "presswork/pressworklaw13.SufsortRises", spec := "sufsortRises", unfollowed := true, recurses := true, apart := false, narrowed := true }
def SufsortRisesUptoSaid : Prop := sufsortRisesUptoRow.holds Try.pinned (OpenSpec.upto sufsortRisesSpec)

/-- 'pressworklaw13.SufsortTurns', WHERE WHAT IT READS IS OF BULK AT MOST 1048576: true; the input reads as it did. -/
def sufsortTurnsUptoRow : OpenClaim := { program := "ythcbmkbgchobfaa", sum := "8e063439cc077c9767eded8c6935a597fadee4ab74ad5245386bac5572dd45e9", func := "presswork/pressworklaw13.SufsortTurns", spec := "sufsortTurns", unfollowed := true, recurses := true, apart := false, narrowed := true }
def SufsortTurnsUptoSaid : Prop := sufsortTurnsUptoRow.holds Try.pinned (OpenSpec.upto sufsortTurnsSpec)

/-- 'pressworklaw13.SufsortBack', WHERE WHAT IT READS IS OF BULK AT MOST 1048576: true; the input reads as it did. -/
def sufsortBackUptoRow : OpenClaim := { program := "ythcbmkbgchobfaa", sum := "8e063439cc077c9767eded8c6935a597fadee4ab74ad5245386bac5572dd45e9", func := "presswork/pressworklaw13.SufsortBack", spec := "sufsortBack", unfollowed := true, recurses := true, apart := false, narrowed := true }
def SufsortBackUptoSaid : Prop := sufsortBackUptoRow.holds Try.pinned (OpenSpec.upto sufsortBackSpec)

/-- 'pressworklaw13.SufsortKnown', WHERE WHAT IT READS IS OF BULK AT MOST 1048576: true; the input reads as it did. -/
def sufsortKnownUptoRow : OpenClaim := { program := "ythcbmkbgchobfaa", sum := "8e063439cc077c9767eded8c6935a597fadee4ab74ad5245386bac5572dd45e9", func := "presswork/pressworklaw13.SufsortKnown", spec := "sufsortKnown", unfollowed := true, recurses := true, apart := false, narrowed := true }
def SufsortKnownUptoSaid : Prop := sufsortKnownUptoRow.holds Try.pinned (OpenSpec.upto sufsortKnownSpec)

end Rows
end Go.Proofs.Ythcbmkbgchobfaa
