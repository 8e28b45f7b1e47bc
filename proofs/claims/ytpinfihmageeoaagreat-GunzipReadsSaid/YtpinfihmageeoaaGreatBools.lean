/-
  Slices of bits. No conditions.
-/
import Derived.Test.YtpinfihmageeoaaGreatGA
import Derived.Test.YtpinfihmageeoaaGreatChecked
namespace Go.Proofs.YtpinfihmageeoaaGreat
open Go.RowKit

theorem infoBool : (Tryz.prog.info? 4).map (fun i => (i.zero, i.size, i.bytes)) = some (some (.bool false), 1, 1) := by kernel_rfl

/-- A row of bits in new memory. -/
def NewRow (w : World) (l : List Bool) (e : Ending) (w' : World) : Prop := ∃ v', e = .returned v' ∧ w'.ownsRow w.heap.size 4 1 v' l.length (bools l) ∧ Below w.heap.size w w'

/-- A slice that reads as these bits. -/
def RowAt (w : World) (v : Value) (l : List Bool) : Prop := ∃ a cap, v = .slice a l.length cap ∧ l.length ≤ cap ∧ (a = none → cap = 0) ∧ ∀ (i : Nat) (h : i < l.length), ∃ b off, a = some ⟨b, off, none⟩ ∧ w.cell? ⟨b, off + i, none⟩ = some (.bool l[i])

theorem RowAt.of_owns {w : World} {base : Nat} {v : Value} {n : Nat} {l : List Bool} (h : w.ownsRow base 4 1 v n (bools l)) : RowAt w v l := by
  have h1 : l.length = n := by have := h.1; rw [bools_length] at this; omega
  subst h1
  rcases h.2 with ⟨rfl, h0⟩ | ⟨g, cap, cur, rfl, _, hg, hnc, _⟩
  · exact ⟨none, 0, by rw [h0], by omega, fun _ => rfl, fun i hi => absurd hi (by omega)⟩
  · refine ⟨_, cap, rfl, hnc, (fun e => by cases e), fun i hi => ⟨g, 0, rfl, ?_⟩⟩
    rw [Nat.zero_add, h.cellAt i (by omega), bools_get _ _ hi]

theorem rowAt_sub {w : World} {a : Option Addr} {cap p n : Nat} {l : List Bool} (hcap : l.length ≤ cap) (hnone : a = none → cap = 0)
    (hat : ∀ (i : Nat) (h : i < l.length), ∃ b off, a = some ⟨b, off, none⟩ ∧ w.cell? ⟨b, off + i, none⟩ = some (.bool l[i])) (hm : p + n ≤ l.length) :
    RowAt w (.slice (a.map (fun x => x.add p)) n (cap - p)) ((l.drop p).take n) := by
  have hlen : ((l.drop p).take n).length = n := by simp; omega
  refine ⟨_, cap - p, by rw [hlen], by rw [hlen]; omega, ?_, fun i hi => ?_⟩
  · intro e
    cases a with
    | none => have := hnone rfl; omega
    | some x => simp at e
  · rw [hlen] at hi
    obtain ⟨b, off, rfl, hc⟩ := hat (p + i) (by omega)
    refine ⟨b, off + p, by rw [Option.map_some, add_none], ?_⟩
    rw [Nat.add_assoc, hc]
    simp

/-- A row that reads as bits, as a source of an append. -/
theorem RowAt.src {w : World} {a : Option Addr} {n cap : Nat} {l : List Bool} (h : RowAt w (.slice a n cap) l) : n = l.length ∧ (a = none → l.length = 0 ∧ cap = 0) ∧ ∀ b, a = some b → ∀ j u, (bools l)[j]? = some u → w.cell? (b.add j) = some u := by
  obtain ⟨a', cap', e, hc, hn, hat⟩ := h
  obtain ⟨rfl, rfl, rfl⟩ := Value.slice.inj e
  refine ⟨rfl, fun e => ⟨by have := hn e; omega, hn e⟩, fun b e j u hu => ?_⟩
  have hj : j < l.length := by
    have := (List.getElem?_eq_some_iff.1 hu).1
    rwa [bools_length] at this
  obtain ⟨b', off, e', hcell⟩ := hat j hj
  rw [e] at e'
  obtain rfl := Option.some.inj e'
  rw [add_none, hcell, ← hu, bools_get _ _ hj]

theorem RowAt.slice {w : World} {v : Value} {l : List Bool} (h : RowAt w v l) : ∃ a cap, v = .slice a l.length cap := by
  obtain ⟨a, cap, e, _⟩ := h
  exact ⟨a, cap, e⟩

theorem RowAt.below {w w' : World} {B : Nat} {v : Value} {l : List Bool} (h : RowAt w v l) (hb : Below B w w') (hB : w.heap.size ≤ B) : RowAt w' v l := by
  obtain ⟨a, cap, h1, h2, h3, h4⟩ := h
  refine ⟨a, cap, h1, h2, h3, fun i hi => ?_⟩
  obtain ⟨b, off, e, hc⟩ := h4 i hi
  have lt := World.block_lt_of_cell? w _ hc
  exact ⟨b, off, e, (hb.cell (p := ⟨b, off + i, none⟩) (Nat.lt_of_lt_of_le lt hB)).trans hc⟩

end Go.Proofs.YtpinfihmageeoaaGreat
