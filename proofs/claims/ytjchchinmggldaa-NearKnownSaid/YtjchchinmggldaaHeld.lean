/-
  A region that draws its order, some of whose readings may come at any time: what is read is held of every world in between. No program. No conditions.
-/
import Derived.Test.YtjchchinmggldaaRegion
import Derived.OrdersHeld
namespace Go.Proofs.Ytjchchinmggldaa
open Go.RowKit

section
variable {P : Program} {ops : Array Oper} {Q : Exit → Act → World → Prop} {md : Region.Mode} {S : World → Prop}

/-- The one operation that may come up now; behind it what is held is shown anew. -/
theorem held_step {j : Nat} (oj : Oper) {fuel : Nat} {listed : Array Bool} {a : Act} {w : World} (hr : Region.ready md ops listed = [j]) (hj : ops[j]? = some oj)
    (h : ∀ N : Act → World → Prop, (∀ a w, S w → wpAnyH P md ops Q S fuel (listed.setIfInBounds j true) a w → N a w) → wpList P ops (Exit.then N Q) [oj] a w) : wpAnyH P md ops Q S (fuel + 1) listed a w :=
  wpAnyH_all hr (by simp) (fun i hi => by
    have e : i = j := by simpa using hi
    subst e
    exact wpOp_of_list hj (h (fun a' w' => S w' ∧ wpAnyH P md ops Q S fuel (listed.setIfInBounds i true) a' w') (fun _ _ h1 h2 => ⟨h1, h2⟩)) (fun _ _ h => h))

/-- Two may come up now: either one first. -/
theorem held_two {i j : Nat} (oi oj : Oper) {fuel : Nat} {listed : Array Bool} {a : Act} {w : World} (hr : Region.ready md ops listed = [i, j]) (hi : ops[i]? = some oi) (hj : ops[j]? = some oj)
    (h1 : ∀ N : Act → World → Prop, (∀ a w, S w → wpAnyH P md ops Q S fuel (listed.setIfInBounds i true) a w → N a w) → wpList P ops (Exit.then N Q) [oi] a w)
    (h2 : ∀ N : Act → World → Prop, (∀ a w, S w → wpAnyH P md ops Q S fuel (listed.setIfInBounds j true) a w → N a w) → wpList P ops (Exit.then N Q) [oj] a w) : wpAnyH P md ops Q S (fuel + 1) listed a w :=
  wpAnyH_all hr (by simp) (fun k hk => by
    have e : k = i ∨ k = j := by simpa using hk
    rcases e with e | e
    · subst e
      exact wpOp_of_list hi (h1 (fun a' w' => S w' ∧ wpAnyH P md ops Q S fuel (listed.setIfInBounds k true) a' w') (fun _ _ h1 h2 => ⟨h1, h2⟩)) (fun _ _ h => h)
    · subst e
      exact wpOp_of_list hj (h2 (fun a' w' => S w' ∧ wpAnyH P md ops Q S fuel (listed.setIfInBounds k true) a' w') (fun _ _ h1 h2 => ⟨h1, h2⟩)) (fun _ _ h => h))

end
end Go.Proofs.Ytjchchinmggldaa
