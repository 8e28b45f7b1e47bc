/-
  What a slice of acts that came in holds: each act's four cells. No conditions.
-/
import Derived.Test.YtlhhoiimmalpgaaGen
import Derived.Test.YtlhhoiimmalpgaaChecked
import Derived.Deep.Slices
import Derived.Deep.Fields
import Derived.ProofKit
namespace Go.Proofs.Ytlhhoiimmalpgaa.Msb
open Go.RowKit Go.ChangeShapes Go.WideShapes Go.Deep

/-- An act, as numbers. -/
structure ActV where
  v : Nat
  n : Int
  al : Bool
  ad : Bool

/-- The act at an address. -/
def ActAt (w : World) (b o : Nat) (x : ActV) : Prop :=
  w.cell? ⟨b, o, none⟩ = some (.int .u32 (x.v : Int)) ∧ w.cell? ⟨b, o + 1, none⟩ = some (.int .i64 x.n) ∧ w.cell? ⟨b, o + 2, none⟩ = some (.bool x.al) ∧ w.cell? ⟨b, o + 3, none⟩ = some (.bool x.ad)

/-- An act's numbers are of their kinds. -/
def ActV.fits (x : ActV) : Prop := x.v < 4294967296 ∧ -9223372036854775808 ≤ x.n ∧ x.n ≤ 9223372036854775807

/-- A slice of acts. -/
def Acts (w : World) (s : Value) (l : List ActV) : Prop := ∃ a cap, s = .slice a l.length cap ∧ l.length ≤ maxLen ∧
  ∀ (i : Nat) (h : i < l.length), l[i].fits ∧ ∃ b off, a = some ⟨b, off, none⟩ ∧ ActAt w b (off + i * 4) l[i]

theorem ActAt.below {w w' : World} {B b o : Nat} {x : ActV} (h : ActAt w b o x) (hb : Below B w w') (hB : w.heap.size ≤ B) : ActAt w' b o x := by
  have lt := World.block_lt_of_cell? w _ h.1
  have e : ∀ p : Nat, w'.cell? ⟨b, p, none⟩ = w.cell? ⟨b, p, none⟩ := fun p => hb.cell (p := ⟨b, p, none⟩) (by simp at lt; show b < B; omega)
  exact ⟨(e _).trans h.1, (e _).trans h.2.1, (e _).trans h.2.2.1, (e _).trans h.2.2.2⟩

theorem Acts.below {w w' : World} {B : Nat} {s : Value} {l : List ActV} (h : Acts w s l) (hb : Below B w w') (hB : w.heap.size ≤ B) : Acts w' s l := by
  obtain ⟨a, cap, h1, h2, h3⟩ := h
  refine ⟨a, cap, h1, h2, fun i hi => ?_⟩
  obtain ⟨f, b, off, e, ha⟩ := h3 i hi
  exact ⟨f, b, off, e, ha.below hb hB⟩

section
variable {H : Type} {enc : TypeId × Value → H} {W : World}

theorem act_fits {v n : Int} (hv : (Lit.int .u32 v).wf = true) (hn : (Lit.int .i64 n).wf = true) : ∃ x : Nat, v = (x : Int) ∧ x < 4294967296 ∧ -9223372036854775808 ≤ n ∧ n ≤ 9223372036854775807 := by
  simp only [Lit.wf, Bool.and_eq_true, decide_eq_true_eq] at hv hn
  have h1 : IntKind.u32.min = 0 := rfl
  have h2 : IntKind.u32.max = 4294967295 := rfl
  have h3 : IntKind.i64.min = -9223372036854775808 := rfl
  have h4 : IntKind.i64.max = 9223372036854775807 := rfl
  rw [h1, h2] at hv
  rw [h3, h4] at hn
  exact ⟨v.toNat, by omega, by omega, hn.1, hn.2⟩

theorem cellsAct : Try.prog.cellsOf 30 = 4 := by kernel_rfl

/-- The four cells of an act, out of its reading. -/
theorem act_of {n : Nat} {cs : List Value} {x : DataW H × List MemPlace} (h : DataW.trod enc Try.prog W 0 (fun _ => true) true n 30 cs = some x) :
    ∃ y : ActV, y.fits ∧ cs = [.int .u32 (y.v : Int), .int .i64 y.n, .bool y.al, .bool y.ad] := by
  obtain ⟨xs, n', _, _, hlen, hxl, hg⟩ := DataW.trod_struct Try.underlying30 h
  rw [cellsAct] at hlen
  match cs, hlen with
  | [c0, c1, c2, c3], _ =>
    match xs, hxl with
    | [x0, x1, x2, x3], _ =>
      have g0 : DataW.trod enc Try.prog W 0 (fun _ => true) true n' 28 (([c0, c1, c2, c3].drop 0).take (Try.prog.cellsOf 28)) = some x0 := hg 0 _ rfl
      have g1 : DataW.trod enc Try.prog W 0 (fun _ => true) true n' 3 (([c0, c1, c2, c3].drop 1).take (Try.prog.cellsOf 3)) = some x1 := hg 1 _ rfl
      have g2 : DataW.trod enc Try.prog W 0 (fun _ => true) true n' 4 (([c0, c1, c2, c3].drop 2).take (Try.prog.cellsOf 4)) = some x2 := hg 2 _ rfl
      have g3 : DataW.trod enc Try.prog W 0 (fun _ => true) true n' 4 (([c0, c1, c2, c3].drop 3).take (Try.prog.cellsOf 4)) = some x3 := hg 3 _ rfl
      rw [show Try.prog.cellsOf 28 = 1 from by kernel_rfl] at g0
      rw [show Try.prog.cellsOf 3 = 1 from by kernel_rfl] at g1
      rw [show Try.prog.cellsOf 4 = 1 from by kernel_rfl] at g2 g3
      obtain ⟨a0, e0, _, k0⟩ := DataW.trod_int Try.underlying28 g0
      obtain ⟨a1, e1, _, k1⟩ := DataW.trod_int Try.underlying3 g1
      obtain ⟨a2, e2, _⟩ := DataW.trod_bool Try.underlying4 g2
      obtain ⟨a3, e3, _⟩ := DataW.trod_bool Try.underlying4 g3
      simp at e0 e1 e2 e3
      subst e0 e1 e2 e3
      obtain ⟨y, rfl, f1, f2, f3⟩ := act_fits k0 k1
      exact ⟨⟨y, a1, a2, a3⟩, ⟨f1, f2, f3⟩, rfl⟩

theorem open_acts {a : Option Addr} {len cap : Nat} {d : DataW H} {p : List MemPlace} (h : DataW.Trod enc Try.prog W 0 (fun _ => true) true 22 (.slice a len cap) d p) : ∃ l, Acts W (.slice a len cap) l := by
  obtain ⟨fuel, hf⟩ := h
  rcases open_slice Try.underlying22 hf with ⟨hcs, _⟩ | ⟨x, len', cap', m, n, D, Pl, hcs, _, hl, hm, hmm, _, hi⟩
  · simp [Value.cells] at hcs
    obtain ⟨rfl, rfl, rfl⟩ := hcs
    exact ⟨[], none, 0, rfl, by simp, fun i hi => absurd hi (by simp)⟩
  · simp [Value.cells] at hcs
    obtain ⟨rfl, rfl, rfl⟩ := hcs
    have hlm : len ≤ m := by rw [hmm]; simpa using hl
    rw [cellsAct] at hi
    by_cases h0 : len = 0
    · subst h0
      exact ⟨[], _, cap, rfl, by simp, fun i hi => absurd hi (by simp)⟩
    · have hx : x = ⟨x.block, x.off, none⟩ := by
        obtain ⟨cs, hc, ht⟩ := hi 0 (by omega)
        obtain ⟨y, _, rfl⟩ := act_of ht
        obtain ⟨_, _, hat⟩ := World.cells?_some hc
        have h1 := hat 0 (by omega)
        have h2 : x.spot = none := by
          have := World.cell?_spot (h1.trans rfl)
          simpa [Addr.add] using this
        obtain ⟨b, o, s⟩ := x
        simpa using h2
      obtain ⟨l, h1, h2⟩ := list_of (fun i (y : ActV) => y.fits ∧ ActAt W x.block (x.off + i * 4) y) len (fun i hin => by
        obtain ⟨cs, hc, ht⟩ := hi i (by omega)
        obtain ⟨y, hy, rfl⟩ := act_of ht
        obtain ⟨_, _, hat⟩ := World.cells?_some hc
        rw [hx, add_none] at hat
        have c0 := hat 0 (by omega)
        have c1 := hat 1 (by omega)
        have c2 := hat 2 (by omega)
        have c3 := hat 3 (by omega)
        rw [add_none] at c0 c1 c2 c3
        exact ⟨y, hy, c0, c1, c2, c3⟩)
      exact ⟨l, some x, cap, by rw [h1], by omega, fun i hi => by
        obtain ⟨f, g⟩ := h2 i hi
        exact ⟨f, x.block, x.off, by rw [← hx], g⟩⟩
end
end Go.Proofs.Ytlhhoiimmalpgaa.Msb
