/-
  Heads that came in; the document's May and Same. No conditions but that rows are small.
-/
import Derived.Test.YtpinfihmageeoaaGreatFrU
import Derived.Deep.Slices
import Derived.ProofKit
namespace Go.Proofs.YtpinfihmageeoaaGreat.Fr
open Go.RowKit Crc

/-- A struct's value that reads as this head. -/
def HeadIn (w : World) (v : Value) (h : Gz) : Prop := ∃ ev, v = .agg (headC h ev) ∧ ByteRow w ev h.extra ∧ Fits h

section
open Go.ChangeShapes Go.WideShapes Go.Deep
variable {H : Type} {enc : TypeId × Value → H} {W : World}

theorem u8_wf {v : Int} (hv : (Lit.int .u8 v).wf = true) : ∃ x : Nat, v = (x : Int) ∧ x < 256 := by
  simp only [Lit.wf, Bool.and_eq_true, decide_eq_true_eq] at hv
  have h1 : IntKind.u8.min = 0 := rfl
  have h2 : IntKind.u8.max = 255 := rfl
  rw [h1, h2] at hv
  exact ⟨v.toNat, by omega, by omega⟩

theorem cellsHead : Tryz.prog.cellsOf 80 = 9 := by kernel_rfl

theorem open_row {fuel : Nat} {c : Value} {x : DataW H × List MemPlace} (h : DataW.trod enc Tryz.prog W 0 (fun _ => true) true fuel 26 [c] = some x) : ∃ xs, ByteRow W c xs := by
  rcases open_ints Tryz.underlying26 Tryz.underlying5 (by kernel_rfl) h with ⟨hcs, _⟩ | ⟨y, l, cc, zs, hcs, rest⟩
  · obtain rfl : c = .slice none 0 0 := by simpa using hcs
    exact ⟨[], byteRow_none W⟩
  · obtain rfl : c = .slice (some y) l cc := by simpa using hcs
    exact open_bytes (d := x.1) (p := x.2) ⟨fuel, by simpa [Value.cells] using h⟩

set_option maxRecDepth 100000 in
theorem open_head {v : Value} {d : DataW H} {p : List MemPlace} (hw : ∃ cs, v = .agg cs) (h : DataW.Trod enc Tryz.prog W 0 (fun _ => true) true 80 v d p) : ∃ g, HeadIn W v g := by
  obtain ⟨cs, rfl⟩ := hw
  obtain ⟨fuel, hf⟩ := h
  obtain ⟨ys, n', _, _, hlen, hxl, hg⟩ := DataW.trod_struct Tryz.underlying80 hf
  rw [cellsHead] at hlen
  have hcs : (Value.agg cs).cells = cs := rfl
  rw [hcs] at hlen hg
  obtain ⟨l, rfl⟩ : ∃ l : List Value, cs = l.toArray := ⟨cs.toList, by simp⟩
  simp only [] at hlen hg
  match l, hlen with
  | [c0, c1, c2, c3, c4, c5, c6, c7, c8], _ =>
    match ys, hxl with
    | [x0, x1, x2, x3, x4, x5, x6, x7, x8], _ =>
      have g0 : DataW.trod enc Tryz.prog W 0 (fun _ => true) true n' 4 (([c0, c1, c2, c3, c4, c5, c6, c7, c8].drop 0).take (Tryz.prog.cellsOf 4)) = some x0 := hg 0 _ rfl
      have g1 : DataW.trod enc Tryz.prog W 0 (fun _ => true) true n' 36 (([c0, c1, c2, c3, c4, c5, c6, c7, c8].drop 1).take (Tryz.prog.cellsOf 36)) = some x1 := hg 1 _ rfl
      have g2 : DataW.trod enc Tryz.prog W 0 (fun _ => true) true n' 5 (([c0, c1, c2, c3, c4, c5, c6, c7, c8].drop 2).take (Tryz.prog.cellsOf 5)) = some x2 := hg 2 _ rfl
      have g3 : DataW.trod enc Tryz.prog W 0 (fun _ => true) true n' 5 (([c0, c1, c2, c3, c4, c5, c6, c7, c8].drop 3).take (Tryz.prog.cellsOf 5)) = some x3 := hg 3 _ rfl
      have g4 : DataW.trod enc Tryz.prog W 0 (fun _ => true) true n' 26 (([c0, c1, c2, c3, c4, c5, c6, c7, c8].drop 4).take (Tryz.prog.cellsOf 26)) = some x4 := hg 4 _ rfl
      have g5 : DataW.trod enc Tryz.prog W 0 (fun _ => true) true n' 9 (([c0, c1, c2, c3, c4, c5, c6, c7, c8].drop 5).take (Tryz.prog.cellsOf 9)) = some x5 := hg 5 _ rfl
      have g6 : DataW.trod enc Tryz.prog W 0 (fun _ => true) true n' 9 (([c0, c1, c2, c3, c4, c5, c6, c7, c8].drop 6).take (Tryz.prog.cellsOf 9)) = some x6 := hg 6 _ rfl
      have g7 : DataW.trod enc Tryz.prog W 0 (fun _ => true) true n' 5 (([c0, c1, c2, c3, c4, c5, c6, c7, c8].drop 7).take (Tryz.prog.cellsOf 5)) = some x7 := hg 7 _ rfl
      have g8 : DataW.trod enc Tryz.prog W 0 (fun _ => true) true n' 4 (([c0, c1, c2, c3, c4, c5, c6, c7, c8].drop 8).take (Tryz.prog.cellsOf 4)) = some x8 := hg 8 _ rfl
      rw [show Tryz.prog.cellsOf 4 = 1 from by kernel_rfl] at g0 g8
      rw [show Tryz.prog.cellsOf 36 = 1 from by kernel_rfl] at g1
      rw [show Tryz.prog.cellsOf 5 = 1 from by kernel_rfl] at g2 g3 g7
      rw [show Tryz.prog.cellsOf 26 = 1 from by kernel_rfl] at g4
      rw [show Tryz.prog.cellsOf 9 = 1 from by kernel_rfl] at g5 g6
      obtain ⟨a1, e1, _, k1⟩ := DataW.trod_int Tryz.underlying36 g1
      obtain ⟨a2, e2, _, k2⟩ := DataW.trod_int Tryz.underlying5 g2
      obtain ⟨a3, e3, _, k3⟩ := DataW.trod_int Tryz.underlying5 g3
      obtain ⟨a7, e7, _, k7⟩ := DataW.trod_int Tryz.underlying5 g7
      obtain ⟨b0, e0, _⟩ := DataW.trod_bool Tryz.underlying4 g0
      obtain ⟨b8, e8, _⟩ := DataW.trod_bool Tryz.underlying4 g8
      obtain ⟨t5, e5, _⟩ := DataW.trod_string Tryz.underlying9 g5
      obtain ⟨t6, e6, _⟩ := DataW.trod_string Tryz.underlying9 g6
      obtain ⟨xs, hrow⟩ := open_row (c := c4) g4
      simp at e0 e1 e2 e3 e5 e6 e7 e8
      subst e0 e1 e2 e3 e5 e6 e7 e8
      obtain ⟨y1, rfl, f1⟩ := nat_of_u32 k1
      obtain ⟨y2, rfl, f2⟩ := u8_wf k2
      obtain ⟨y3, rfl, f3⟩ := u8_wf k3
      obtain ⟨y7, rfl, f7⟩ := u8_wf k7
      obtain ⟨n5, rfl, h5⟩ := str_bytes t5
      obtain ⟨n6, rfl, h6⟩ := str_bytes t6
      exact ⟨⟨b0, y1, y2, y3, xs, n5, n6, y7, b8⟩, c4, rfl, hrow, ⟨f1, f2, f3, f7, hrow.byte, h5, h6⟩⟩
end

theorem HeadIn.below {w w' : World} {B : Nat} {v : Value} {h : Gz} (hd : HeadIn w v h) (hb : RowKit.Below B w w') (hB : w.heap.size ≤ B) : HeadIn w' v h := by
  obtain ⟨ev, e, h1, h2⟩ := hd
  exact ⟨ev, e, h1.below hb hB, h2⟩

theorem may_words (h : Gz) : may h = (decide (h.has < 8) && (decide (h.extra.length ≤ 65535) && (decide (0 ∉ h.name) && (decide (0 ∉ h.comment) &&
    ((decide (h.has % 2 = 1) || decide (h.extra.length = 0)) && ((decide (h.has / 2 % 2 = 1) || decide ((strOf h.name).toList = (⟨#[]⟩ : ByteArray).toList)) && (decide (h.has / 4 = 1) || decide ((strOf h.comment).toList = (⟨#[]⟩ : ByteArray).toList)))))))) := by
  have e1 : decide (h.extra = []) = decide (h.extra.length = 0) := decide_eq_decide.2 List.length_eq_zero_iff.symm
  have e2 : decide ((strOf h.name).toList = (⟨#[]⟩ : ByteArray).toList) = decide (h.name = []) := decide_eq_decide.2 (strOf_nil _)
  have e3 : decide ((strOf h.comment).toList = (⟨#[]⟩ : ByteArray).toList) = decide (h.comment = []) := decide_eq_decide.2 (strOf_nil _)
  rw [e2, e3, ← e1]
  unfold may
  by_cases c : h.has < 8
  · have e4 : decide (h.has / 4 = 1) = decide (h.has / 4 % 2 = 1) := decide_eq_decide.2 (by omega)
    rw [e4, decide_eq_true c]
    generalize decide (h.extra.length ≤ 65535) = a1
    generalize decide (0 ∉ h.name) = a2
    generalize decide (0 ∉ h.comment) = a3
    generalize (decide (h.has % 2 = 1) || decide (h.extra = [])) = a4
    generalize (decide (h.has / 2 % 2 = 1) || decide (h.name = [])) = a5
    generalize (decide (h.has / 4 % 2 = 1) || decide (h.comment = [])) = a6
    cases a1 <;> cases a2 <;> cases a3 <;> cases a4 <;> cases a5 <;> cases a6 <;> rfl
  · rw [decide_eq_false c]
    simp

end Go.Proofs.YtpinfihmageeoaaGreat.Fr
