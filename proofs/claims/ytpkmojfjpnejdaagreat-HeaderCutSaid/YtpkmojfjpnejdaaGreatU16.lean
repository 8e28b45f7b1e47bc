/-
  Slices of numbers of 16 bits that came in. No conditions.
-/
import Derived.Test.YtpkmojfjpnejdaaGreatGA
namespace Go.Proofs.YtpkmojfjpnejdaaGreat
open Go.RowKit

/-- A slice that reads as these numbers of 16 bits. -/
def U16Row (w : World) (v : Value) (xs : List Nat) : Prop := ∃ a cap, v = .slice a xs.length cap ∧ xs.length ≤ cap ∧ (a = none → cap = 0) ∧ ∀ (i : Nat) (h : i < xs.length), xs[i] < 65536 ∧ ∃ b off, a = some ⟨b, off, none⟩ ∧ w.cell? ⟨b, off + i, none⟩ = some (.int .u16 (xs[i] : Int))

theorem U16Row.below {w w' : World} {B : Nat} {v : Value} {xs : List Nat} (h : U16Row w v xs) (hb : RowKit.Below B w w') (hB : w.heap.size ≤ B) : U16Row w' v xs := by
  obtain ⟨a, cap, h1, h2, h3, h4⟩ := h
  refine ⟨a, cap, h1, h2, h3, fun i hi => ⟨(h4 i hi).1, ?_⟩⟩
  obtain ⟨_, b, off, e, hc⟩ := h4 i hi
  have lt := World.block_lt_of_cell? w _ hc
  exact ⟨b, off, e, (hb.cell (p := ⟨b, off + i, none⟩) (Nat.lt_of_lt_of_le lt hB)).trans hc⟩

section
open Go.ChangeShapes Go.WideShapes
variable {H : Type} {enc : TypeId × Value → H} {W : World}

theorem open_u16 {a : Option Addr} {len cap : Nat} {d : DataW H} {p : List MemPlace} (h : DataW.Trod enc Tryz.prog W 0 (fun _ => true) true 49 (.slice a len cap) d p) : ∃ xs, U16Row W (.slice a len cap) xs := by
  obtain ⟨fuel, hf⟩ := h
  rcases open_ints Tryz.underlying49 Tryz.underlying52 (by kernel_rfl) hf with ⟨hcs, _⟩ | ⟨x, l, c, zs, hcs, _, hl, hm, hz, _, hcell, hwz⟩
  · simp [Value.cells] at hcs
    obtain ⟨rfl, rfl, rfl⟩ := hcs
    exact ⟨[], none, 0, rfl, by simp, fun _ => rfl, fun i hi => absurd hi (by simp)⟩
  · simp [Value.cells] at hcs
    obtain ⟨rfl, rfl, rfl⟩ := hcs
    have hz' : zs.length = cap := by simpa using hz
    have hwf : ∀ i, i < len → ∃ y : Nat, zs.getD i 0 = (y : Int) ∧ y < 65536 := by
      intro i hi
      have hmem : zs.getD i 0 ∈ zs := by rw [getD_in _ _ (by omega)]; exact List.getElem_mem _
      have h1 := hwz _ hmem
      simp only [Lit.wf, Bool.and_eq_true, decide_eq_true_eq] at h1
      have e1 : IntKind.u16.min = 0 := rfl
      have e2 : IntKind.u16.max = 65535 := rfl
      rw [e1, e2] at h1
      exact ⟨(zs.getD i 0).toNat, by omega, by omega⟩
    obtain ⟨xs, h1, h2⟩ := list_of (fun i (y : Nat) => zs.getD i 0 = (y : Int) ∧ y < 65536) len hwf
    refine ⟨xs, some x, cap, by rw [h1], by omega, (fun e => by cases e), fun i hi => ⟨(h2 i hi).2, ?_⟩⟩
    have hx : x = ⟨x.block, x.off, none⟩ := by
      have h3 := hcell 0 (by omega)
      have h4 : x.spot = none := by
        have := World.cell?_spot h3
        simpa [Addr.add] using this
      obtain ⟨b, o, s⟩ := x
      simpa using h4
    refine ⟨x.block, x.off, by rw [← hx], ?_⟩
    have h5 := hcell i (by omega)
    rw [hx, add_none] at h5
    rw [h5, (h2 i hi).1]
end

end Go.Proofs.YtpkmojfjpnejdaaGreat
