/-
  Plain facts about a region whose order Go leaves open, inside a fence (a loop's round too): three readings that may come up in any order come to one frame; then one operation at a time. No program. No conditions.
-/
import Derived.Test.YtjchchinmggldaaRegion
import Derived.OrdersIn
import Derived.TacticsInMore
namespace Go.Proofs.Ytjchchinmggldaa
open Go

section
variable {F : Fence} {n : Nat} {P : Program} {md : Region.Mode} {ops : Array Oper} {Q : Exit → Act → World → Prop}

theorem uponIn_then {o : Oper} {a : Act} {N N' : Act → World → Prop} {K : Act → World → Prop} {r : Result Next} (h : o.uponIn F n P a N (Exit.then K Q) r) (hN : ∀ a w, N a w → N' a w) : o.uponIn F n P a N' Q r := by
  cases r with
  | ok x w' =>
    cases x <;> simp only [Oper.uponIn] at h ⊢ <;>
      first
        | exact hN _ _ h
        | exact ⟨h.1, CallsIn.mono h.2 (fun e w'' he => by cases e <;> first | exact hN _ _ he | exact he)⟩
        | exact ⟨h.1, RowsIn.mono h.2 (fun _ _ he => hN _ _ he)⟩
        | exact ⟨h.1, RoundIn.mono h.2 (fun e w'' he => by cases e <;> first | exact hN _ _ he | exact he)⟩
  | halt x w' => cases x <;> simp only [Oper.uponIn] at h ⊢ <;> exact h

/-- One operation, as a list of one. -/
theorem wpOpIn_of_list {i : Nat} {o : Oper} (ho : ops[i]? = some o) {N : Act → World → Prop} {rest : List Oper} {K : Act → World → Prop} {a : Act} {w : World}
    (h : wpListIn F n P ops (Exit.then K Q) (o :: rest) a w) (hN : ∀ a w, wpListIn F n P ops (Exit.then K Q) rest a w → N a w) : wpOpIn F n P ops Q i N a w := by
  unfold wpOpIn
  simp only [ho]
  unfold wpListIn at h
  split
  · rename_i hw
    simp only [hw, if_true] at h
    exact ⟨h.1, uponIn_then h.2 hN⟩
  · rename_i hw
    simp only [hw] at h
    exact ⟨h.1, hN _ _ h.2⟩

theorem wpOpIn_step {i : Nat} {o : Oper} {N : Act → World → Prop} {a : Act} {w : World} (ho : ops[i]? = some o)
    (h : ∀ K : Act → World → Prop, (∀ a w, N a w → K a w) → wpListIn F n P ops (Exit.then K Q) [o] a w) : wpOpIn F n P ops Q i N a w :=
  wpOpIn_of_list (rest := []) ho (h N (fun _ _ h => h)) (fun _ _ h => h)

/-- Whichever way so many operations come up, it comes to this frame, in this world. -/
def wpUpto (F : Fence) (n : Nat) (P : Program) (md : Region.Mode) (ops : Array Oper) (Q : Exit → Act → World → Prop) (stop : Array Bool) (A : Act) (W : World) : Nat → Array Bool → Act → World → Prop
  | 0, listed, a, w => listed = stop ∧ a = A ∧ w = W
  | f + 1, listed, a, w => Region.ready md ops listed ≠ [] ∧ ∀ i ∈ Region.ready md ops listed, wpOpIn F n P ops Q i (wpUpto F n P md ops Q stop A W f (listed.setIfInBounds i true)) a w

theorem wpUpto_all {stop : Array Bool} {A : Act} {W : World} {rs : List Nat} {f : Nat} {listed : Array Bool} {a : Act} {w : World} (hr : Region.ready md ops listed = rs) (hne : rs ≠ [])
    (h : ∀ i ∈ rs, wpOpIn F n P ops Q i (wpUpto F n P md ops Q stop A W f (listed.setIfInBounds i true)) a w) : wpUpto F n P md ops Q stop A W (f + 1) listed a w :=
  ⟨fun h0 => absurd (hr ▸ h0) hne, hr ▸ h⟩

theorem wpAnyIn_upto {stop : Array Bool} {A : Act} {W : World} (g : Nat) (hm : wpAnyIn F n P md ops Q g stop A W) :
    ∀ (f : Nat) (listed : Array Bool) (a : Act) (w : World), wpUpto F n P md ops Q stop A W f listed a w → wpAnyIn F n P md ops Q (f + g) listed a w
  | 0, _, _, _, ⟨rfl, rfl, rfl⟩ => by rw [Nat.zero_add]; exact hm
  | f + 1, listed, a, w, ⟨h1, h2⟩ => by
    rw [show f + 1 + g = f + g + 1 from by omega]
    exact ⟨fun h0 => absurd h0 h1, fun i hi => wpOpIn_mono (fun a w h => wpAnyIn_upto g hm f _ a w h) (h2 i hi)⟩

/-- The region, its first operations whichever way they come up. -/
theorem region_upto {id : Nat} {l0 : List Oper} {a : Act} {w : World} (hm : P.follows .mixedOrders = true) (f g : Nat) (stop : Array Bool) (W : World) (puts : List (Tmp × Value)) (hg : l0.length = f + g)
    (h : wpUpto F n P .any l0.toArray Q stop (puts.foldl (fun a p => a.put (some p.1) p.2) a) W f (Array.replicate l0.length false) a w.drew) (hx : wpAnyIn F n P .any l0.toArray Q g stop (puts.foldl (fun a p => a.put (some p.1) p.2) a) W) : (Code.region id l0.toArray true).wpIn F n P Q a w := by
  refine wpIn_region_any hm ?_
  rw [show l0.toArray.size = f + g from by simpa using hg]
  have e : Array.replicate (f + g) false = Array.replicate l0.length false := by rw [hg]
  rw [e]
  exact wpAnyIn_upto g hx f _ a _ h

/-- At each moment just the next of these may come up. -/
def oneB (md : Region.Mode) (ops : Array Oper) (listed : Array Bool) : List Nat → Bool
  | [] => true
  | i :: r => (Region.ready md ops listed == [i]) && oneB md ops (listed.setIfInBounds i true) r

theorem wpAnyIn_one0 (K : Act → World → Prop) :
    ∀ (seg : List Nat) (l : List Oper) (g : Nat) (listed : Array Bool) (a : Act) (w : World), oneB md ops listed seg = true → seg.map (fun i => ops[i]?) = l.map some →
    (∀ a w, K a w → wpAnyIn F n P md ops Q g (lists listed seg) a w) → wpListIn F n P ops (Exit.then K Q) l a w → wpAnyIn F n P md ops Q (seg.length + g) listed a w
  | [], l, g, listed, a, w, _, hl, hK, h => by
    have : l = [] := by simpa using hl.symm
    subst this
    rw [List.length_nil, Nat.zero_add]
    exact hK _ _ h
  | i :: seg, l, g, listed, a, w, hs, hl, hK, h => by
    cases l with
    | nil => simp at hl
    | cons o l =>
      simp only [List.map_cons, List.cons.injEq] at hl
      obtain ⟨ho, hl⟩ := hl
      simp only [oneB, Bool.and_eq_true, beq_iff_eq] at hs
      obtain ⟨hs, hrest⟩ := hs
      rw [List.length_cons, show seg.length + 1 + g = seg.length + g + 1 from by omega]
      refine wpAnyIn_all hs (by simp) (fun j hj => ?_)
      have : j = i := by simpa using hj
      subst this
      exact wpOpIn_of_list ho h (fun a' w' h' => wpAnyIn_one0 K seg l g (listed.setIfInBounds j true) a' w' hrest hl hK h')

/-- A stretch in the one order that it has. -/
theorem wpAnyIn_one {l0 : List Oper} {listed : Array Bool} {a : Act} {w : World} (seg : List Nat) (g : Nat)
    (hs : oneB md l0.toArray listed seg = true) (hin : seg.all (fun i => decide (i < l0.length)) = true)
    (h : ∀ K : Act → World → Prop, (∀ a w, wpAnyIn F n P md l0.toArray Q g (lists listed seg) a w → K a w) → wpListIn F n P l0.toArray (Exit.then K Q) (pickL l0 seg) a w) :
    wpAnyIn F n P md l0.toArray Q (seg.length + g) listed a w :=
  wpAnyIn_one0 _ seg _ g listed a w hs (pickL_some seg hin) (fun _ _ h => h) (h _ (fun _ _ h => h))

end
end Go.Proofs.Ytjchchinmggldaa
