/-
  Slices of slices of bytes that came in. No conditions.
-/
import Derived.Test.YtmcjbkfiipmgeaaGreatFrV
namespace Go.Proofs.YtmcjbkfiipmgeaaGreat.Gu
open Go.RowKit

/-- A slice of slices that reads as these rows of bytes. -/
def RowsIn (W : World) (v : Value) (l : List (List Nat)) : Prop :=
  ∃ a cap, v = .slice a l.length cap ∧ l.length ≤ cap ∧ (a = none → cap = 0) ∧ ∀ (i : Nat) (h : i < l.length), ∃ b off c, a = some ⟨b, off, none⟩ ∧ W.cell? ⟨b, off + i, none⟩ = some c ∧ ByteRow W c l[i]

theorem RowsIn.below {w w' : World} {B : Nat} {v : Value} {l : List (List Nat)} (h : RowsIn w v l) (hb : RowKit.Below B w w') (hB : w.heap.size ≤ B) : RowsIn w' v l := by
  obtain ⟨a, cap, e, h1, h2, hat⟩ := h
  refine ⟨a, cap, e, h1, h2, fun i hi => ?_⟩
  obtain ⟨b, off, c, e1, e2, e3⟩ := hat i hi
  exact ⟨b, off, c, e1, (hb.cell (p := ⟨b, off + i, none⟩) (Nat.lt_of_lt_of_le (World.block_lt_of_cell? w _ e2) hB)).trans e2, e3.below hb hB⟩

section
open Go.ChangeShapes Go.WideShapes Go.Deep
variable {H : Type} {enc : TypeId × Value → H} {W : World}

theorem cellsRow : Tryz.prog.cellsOf 26 = 1 := by kernel_rfl

theorem row_of {n : Nat} {cs : List Value} {x : DataW H × List MemPlace} (h : DataW.trod enc Tryz.prog W 0 (fun _ => true) true n 26 cs = some x) : ∃ c xs, cs = [c] ∧ ByteRow W c xs := by
  rcases open_ints Tryz.underlying26 Tryz.underlying5 (by kernel_rfl) h with ⟨hcs, _⟩ | ⟨y, l, cc, zs, hcs, rest⟩
  · exact ⟨.slice none 0 0, [], by simpa using hcs, byteRow_none W⟩
  · have e : cs = [.slice (some y) l cc] := by simpa using hcs
    subst e
    obtain ⟨xs, hx⟩ := open_bytes (d := x.1) (p := x.2) ⟨n, by simpa [Value.cells] using h⟩
    exact ⟨_, xs, rfl, hx⟩

theorem open_rows {a : Option Addr} {len cap : Nat} {d : DataW H} {p : List MemPlace} (h : DataW.Trod enc Tryz.prog W 0 (fun _ => true) true 50 (.slice a len cap) d p) : ∃ l, RowsIn W (.slice a len cap) l := by
  obtain ⟨fuel, hf⟩ := h
  rcases open_slice Tryz.underlying50 hf with ⟨hcs, _⟩ | ⟨x, len', cap', m, n, D, Pl, hcs, _, hl, hm, hmm, _, hi⟩
  · simp [Value.cells] at hcs
    obtain ⟨rfl, rfl, rfl⟩ := hcs
    exact ⟨[], none, 0, rfl, by simp, fun _ => rfl, fun i hi => absurd hi (by simp)⟩
  · simp [Value.cells] at hcs
    obtain ⟨rfl, rfl, rfl⟩ := hcs
    have hlm : len ≤ m := by rw [hmm]; simpa using hl
    rw [cellsRow] at hi
    by_cases h0 : len = 0
    · subst h0
      exact ⟨[], _, cap, rfl, by simp, (fun e => by cases e), fun i hi => absurd hi (by simp)⟩
    · have hx : x = ⟨x.block, x.off, none⟩ := by
        obtain ⟨cs, hc, ht⟩ := hi 0 (by omega)
        obtain ⟨y, _, rfl, _⟩ := row_of ht
        obtain ⟨_, _, hat⟩ := World.cells?_some hc
        have h1 := hat 0 (by omega)
        have h2 : x.spot = none := by
          have := World.cell?_spot (h1.trans rfl)
          simpa [Addr.add] using this
        obtain ⟨b, o, s⟩ := x
        simpa using h2
      obtain ⟨l, h1, h2⟩ := list_of (fun i (ys : List Nat) => ∃ c, W.cell? ⟨x.block, x.off + i, none⟩ = some c ∧ ByteRow W c ys) len (fun i hin => by
        obtain ⟨cs, hc, ht⟩ := hi i (by omega)
        obtain ⟨c, ys, rfl, hy⟩ := row_of ht
        obtain ⟨_, _, hat⟩ := World.cells?_some hc
        rw [hx, Nat.mul_one, add_none] at hat
        have c0 := hat 0 (by omega)
        rw [add_none] at c0
        exact ⟨ys, c, c0, hy⟩)
      exact ⟨l, some x, cap, by rw [h1], by omega, (fun e => by cases e), fun i hi => by
        obtain ⟨c, g1, g2⟩ := h2 i hi
        exact ⟨x.block, x.off, c, by rw [← hx], g1, g2⟩⟩
end
end Go.Proofs.YtmcjbkfiipmgeaaGreat.Gu
