/-
  Rows of signs: pairs of bytes. No conditions.
-/
import Derived.Test.YthmkkbaenccgiaaRowB
import Derived.Test.YthmkkbaenccgiaaRepP
import Derived.Deep.Slices
import Derived.Deep.Fields
import Derived.ProofKit
namespace Go.Proofs.Ythmkkbaenccgiaa.Rep
open Go.RowKit Go.ChangeShapes Go.WideShapes Go.Deep

/-- A sign as a value. -/
abbrev signV (c x : Nat) : Value := .agg #[.int .u8 (c : Int), .int .u8 (x : Int)]

/-- A row of signs as cells. -/
def sgn (l : List (Nat × Nat)) : List Value := l.flatMap fun p => [.int .u8 (p.1 : Int), .int .u8 (p.2 : Int)]

theorem sgn_length (l : List (Nat × Nat)) : (sgn l).length = l.length * 2 := by
  induction l with
  | nil => rfl
  | cons p r ih =>
    show (_ ++ sgn r).length = _
    rw [List.length_append, ih, List.length_cons]
    simp
    omega

theorem sgn_append (l m : List (Nat × Nat)) : sgn (l ++ m) = sgn l ++ sgn m := by simp [sgn]

theorem sgn_get : ∀ (l : List (Nat × Nat)) (i : Nat) (h : i < l.length), (sgn l)[i * 2]? = some (.int .u8 (l[i].1 : Int)) ∧ (sgn l)[i * 2 + 1]? = some (.int .u8 (l[i].2 : Int))
  | [], i, h => absurd h (by simp)
  | p :: r, 0, _ => ⟨rfl, rfl⟩
  | p :: r, i + 1, h => by
    have ih := sgn_get r i (by simpa using h)
    rw [show (i + 1) * 2 = i * 2 + 2 from by omega]
    exact ih

theorem sgn_one (l : List (Nat × Nat)) : ∀ u ∈ sgn l, u.oneCell' = true := by
  intro u hu
  simp only [sgn, List.mem_flatMap] at hu
  obtain ⟨p, _, hp⟩ := hu
  simp at hp
  rcases hp with rfl | rfl <;> rfl

/-- Numbers that a sign may hold. -/
def Small (l : List (Nat × Nat)) : Prop := ∀ p ∈ l, p.1 < 256 ∧ p.2 < 256

/-- A slice that reads as these signs. -/
def SignRow (w : World) (v : Value) (l : List (Nat × Nat)) : Prop := ∃ a cap, v = .slice a l.length cap ∧ l.length ≤ cap ∧ l.length ≤ maxLen ∧ (a = none → cap = 0) ∧
  ∀ (i : Nat) (h : i < l.length), (l[i].1 < 256 ∧ l[i].2 < 256) ∧ ∃ b off, a = some ⟨b, off, none⟩ ∧ w.cell? ⟨b, off + i * 2, none⟩ = some (.int .u8 (l[i].1 : Int)) ∧ w.cell? ⟨b, off + i * 2 + 1, none⟩ = some (.int .u8 (l[i].2 : Int))

theorem SignRow.below {w w' : World} {B : Nat} {v : Value} {l : List (Nat × Nat)} (h : SignRow w v l) (hb : RowKit.Below B w w') (hB : w.heap.size ≤ B) : SignRow w' v l := by
  obtain ⟨a, cap, h1, h2, h0, h3, h4⟩ := h
  refine ⟨a, cap, h1, h2, h0, h3, fun i hi => ?_⟩
  obtain ⟨g, b, off, e, c1, c2⟩ := h4 i hi
  have l1 := World.block_lt_of_cell? w _ c1
  exact ⟨g, b, off, e, (hb.cell (p := ⟨b, off + i * 2, none⟩) (Nat.lt_of_lt_of_le l1 hB)).trans c1, (hb.cell (p := ⟨b, off + i * 2 + 1, none⟩) (Nat.lt_of_lt_of_le l1 hB)).trans c2⟩

theorem SignRow.small {w : World} {v : Value} {l : List (Nat × Nat)} (h : SignRow w v l) : Small l := by
  obtain ⟨a, cap, rfl, hc, _, hn, hat⟩ := h
  intro x hx
  obtain ⟨i, hi, rfl⟩ := List.getElem_of_mem hx
  exact (hat i hi).1

theorem signRow_owns {w : World} {base e : Nat} {v : Value} {l : List (Nat × Nat)} (h : w.ownsRow base e 2 v l.length (sgn l)) (hs : Small l) : SignRow w v l := by
  rcases h.2 with ⟨rfl, h0⟩ | ⟨g, cap, cur, rfl, _, hg, hnc, hm, _⟩
  · obtain rfl : l = [] := List.eq_nil_of_length_eq_zero h0
    exact ⟨none, 0, rfl, Nat.le_refl _, Nat.zero_le _, fun _ => rfl, fun i hi => absurd hi (by simp)⟩
  · refine ⟨_, cap, rfl, hnc, by omega, (fun e => by cases e), fun i hi => ⟨hs _ (List.getElem_mem hi), g, 0, rfl, ?_, ?_⟩⟩
    · rw [Nat.zero_add, h.cellAt _ (by omega), (sgn_get _ _ hi).1]
    · rw [Nat.zero_add, h.cellAt _ (by omega), (sgn_get _ _ hi).2]

theorem signRow_none (w : World) : SignRow w (.slice none 0 0) [] := ⟨none, 0, rfl, Nat.le_refl _, Nat.zero_le _, fun _ => rfl, fun i hi => absurd hi (by simp)⟩

/-- A row of signs of the call's own. -/
abbrev signT (e : TypeId) (v : Value) (l : List (Nat × Nat)) : Thing := rowT e 2 v l.length (sgn l)

section
variable {B : Nat} {w0 w : World} {r : List Thing}

theorem _root_.Go.Proofs.Ythmkkbaenccgiaa.St.signs {e : TypeId} {v : Value} {l : List (Nat × Nat)} (h : St B w0 w (signT e v l :: r)) (hs : Small l) : SignRow w v l := signRow_owns h.row hs
end

/-- A row of signs written out in the text. -/
theorem signRow_lit (w : World) (l : List (Nat × Nat)) (e : TypeId) (fr : Nat × Nat) (hs : Small l) (hl : l.length ≤ maxLen) : SignRow (w.alloc (.cells (sgn l).toArray e fr)) (.slice (some ⟨w.heap.size, 0, none⟩) l.length l.length) l := by
  refine ⟨_, l.length, rfl, Nat.le_refl _, hl, (fun e => by cases e), fun i hi => ⟨hs _ (List.getElem_mem hi), w.heap.size, 0, rfl, ?_, ?_⟩⟩
  · rw [Nat.zero_add, cell_of_row _ w.heap.size _ (sgn l).toArray e fr (heap_alloc_new w _)]
    simpa using (sgn_get l i hi).1
  · rw [Nat.zero_add, cell_of_row _ w.heap.size _ (sgn l).toArray e fr (heap_alloc_new w _)]
    simpa using (sgn_get l i hi).2

section
variable {H : Type} {enc : TypeId × Value → H} {W : World}

theorem cellsSign : Try.prog.cellsOf 31 = 2 := by kernel_rfl

theorem byte_wf {v : Int} (hv : (Lit.int .u8 v).wf = true) : ∃ x : Nat, v = (x : Int) ∧ x < 256 := by
  simp only [Lit.wf, Bool.and_eq_true, decide_eq_true_eq] at hv
  have h1 : IntKind.u8.min = 0 := rfl
  have h2 : IntKind.u8.max = 255 := rfl
  rw [h1, h2] at hv
  exact ⟨v.toNat, by omega, by omega⟩

/-- The two cells of a sign, out of its reading. -/
theorem sign_of {n : Nat} {cs : List Value} {x : DataW H × List MemPlace} (h : DataW.trod enc Try.prog W 0 (fun _ => true) true n 31 cs = some x) :
    ∃ y : Nat × Nat, (y.1 < 256 ∧ y.2 < 256) ∧ cs = [.int .u8 (y.1 : Int), .int .u8 (y.2 : Int)] := by
  obtain ⟨xs, n', _, _, hlen, hxl, hg⟩ := DataW.trod_struct Try.underlying31 h
  rw [cellsSign] at hlen
  match cs, hlen with
  | [c0, c1], _ =>
    match xs, hxl with
    | [x0, x1], _ =>
      have g0 : DataW.trod enc Try.prog W 0 (fun _ => true) true n' 5 (([c0, c1].drop 0).take (Try.prog.cellsOf 5)) = some x0 := hg 0 _ rfl
      have g1 : DataW.trod enc Try.prog W 0 (fun _ => true) true n' 5 (([c0, c1].drop 1).take (Try.prog.cellsOf 5)) = some x1 := hg 1 _ rfl
      rw [show Try.prog.cellsOf 5 = 1 from by kernel_rfl] at g0 g1
      obtain ⟨a0, e0, _, k0⟩ := DataW.trod_int Try.underlying5 g0
      obtain ⟨a1, e1, _, k1⟩ := DataW.trod_int Try.underlying5 g1
      simp at e0 e1
      subst e0 e1
      obtain ⟨y0, rfl, f0⟩ := byte_wf k0
      obtain ⟨y1, rfl, f1⟩ := byte_wf k1
      exact ⟨(y0, y1), ⟨f0, f1⟩, rfl⟩

theorem open_signs {a : Option Addr} {len cap : Nat} {d : DataW H} {p : List MemPlace} (h : DataW.Trod enc Try.prog W 0 (fun _ => true) true 23 (.slice a len cap) d p) : ∃ l, SignRow W (.slice a len cap) l := by
  obtain ⟨fuel, hf⟩ := h
  rcases open_slice Try.underlying23 hf with ⟨hcs, _⟩ | ⟨x, len', cap', m, n, D, Pl, hcs, _, hl, hm, hmm, _, hi⟩
  · simp [Value.cells] at hcs
    obtain ⟨rfl, rfl, rfl⟩ := hcs
    exact ⟨[], signRow_none W⟩
  · simp [Value.cells] at hcs
    obtain ⟨rfl, rfl, rfl⟩ := hcs
    have hlm : len ≤ m := by rw [hmm]; simpa using hl
    rw [cellsSign] at hi
    by_cases h0 : len = 0
    · subst h0
      exact ⟨[], _, cap, rfl, by simp, by simp, (fun e => by cases e), fun i hi => absurd hi (by simp)⟩
    · have hx : x = ⟨x.block, x.off, none⟩ := by
        obtain ⟨cs, hc, ht⟩ := hi 0 (by omega)
        obtain ⟨y, _, rfl⟩ := sign_of ht
        obtain ⟨_, _, hat⟩ := World.cells?_some hc
        have h1 := hat 0 (by omega)
        have h2 : x.spot = none := by
          have := World.cell?_spot (h1.trans rfl)
          simpa [Addr.add] using this
        obtain ⟨b, o, s⟩ := x
        simpa using h2
      obtain ⟨l, h1, h2⟩ := list_of (fun i (y : Nat × Nat) => (y.1 < 256 ∧ y.2 < 256) ∧ W.cell? ⟨x.block, x.off + i * 2, none⟩ = some (.int .u8 (y.1 : Int)) ∧ W.cell? ⟨x.block, x.off + i * 2 + 1, none⟩ = some (.int .u8 (y.2 : Int))) len (fun i hin => by
        obtain ⟨cs, hc, ht⟩ := hi i (by omega)
        obtain ⟨y, hy, rfl⟩ := sign_of ht
        obtain ⟨_, _, hat⟩ := World.cells?_some hc
        rw [hx, add_none] at hat
        have c0 := hat 0 (by omega)
        have c1 := hat 1 (by omega)
        rw [add_none] at c0 c1
        exact ⟨y, hy, c0, c1⟩)
      exact ⟨l, some x, cap, by rw [h1], by omega, by omega, (fun e => by cases e), fun i hi => by
        obtain ⟨f, g1, g2⟩ := h2 i hi
        exact ⟨f, x.block, x.off, by rw [← hx], g1, g2⟩⟩
end
end Go.Proofs.Ythmkkbaenccgiaa.Rep
