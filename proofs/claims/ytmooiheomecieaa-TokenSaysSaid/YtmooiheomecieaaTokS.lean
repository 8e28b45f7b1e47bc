/-
  Rows of spans (pairs of numbers) and of tokens (two numbers and a byte). No conditions.
-/
import Derived.Test.YtmooiheomecieaaRowB
import Derived.Test.YtmooiheomecieaaTokP
import Derived.Deep.Slices
import Derived.Deep.Fields
import Derived.ProofKit
namespace Go.Proofs.Ytmooiheomecieaa.Tok
open Go.RowKit Go.ChangeShapes Go.WideShapes Go.Deep

/-! Spans. -/

abbrev spanV (p : Nat × Nat) : Value := .agg #[.int .i64 (p.1 : Int), .int .i64 (p.2 : Int)]

/-- A row of spans as cells. -/
def spn (l : List (Nat × Nat)) : List Value := l.flatMap fun p => [.int .i64 (p.1 : Int), .int .i64 (p.2 : Int)]

theorem spn_length (l : List (Nat × Nat)) : (spn l).length = l.length * 2 := by
  induction l with
  | nil => rfl
  | cons p r ih =>
    show (_ ++ spn r).length = _
    rw [List.length_append, ih, List.length_cons]
    simp
    omega

theorem spn_append (l m : List (Nat × Nat)) : spn (l ++ m) = spn l ++ spn m := by simp [spn]

theorem spn_get : ∀ (l : List (Nat × Nat)) (i : Nat) (h : i < l.length), (spn l)[i * 2]? = some (.int .i64 (l[i].1 : Int)) ∧ (spn l)[i * 2 + 1]? = some (.int .i64 (l[i].2 : Int))
  | [], i, h => absurd h (by simp)
  | p :: r, 0, _ => ⟨rfl, rfl⟩
  | p :: r, i + 1, h => by
    have ih := spn_get r i (by simpa using h)
    rw [show (i + 1) * 2 = i * 2 + 2 from by omega]
    exact ih

theorem spn_one (l : List (Nat × Nat)) : ∀ u ∈ spn l, u.oneCell' = true := by
  intro u hu
  simp only [spn, List.mem_flatMap] at hu
  obtain ⟨p, _, hp⟩ := hu
  simp at hp
  rcases hp with rfl | rfl <;> rfl

/-- A slice that reads as these spans. -/
def SpanRow (w : World) (v : Value) (l : List (Nat × Nat)) : Prop := ∃ b cap, v = .slice (some ⟨b, 0, none⟩) l.length cap ∧ l.length ≤ cap ∧
  ∀ (i : Nat) (h : i < l.length), w.cell? ⟨b, i * 2, none⟩ = some (.int .i64 (l[i].1 : Int)) ∧ w.cell? ⟨b, i * 2 + 1, none⟩ = some (.int .i64 (l[i].2 : Int))

theorem SpanRow.below {w w' : World} {B : Nat} {v : Value} {l : List (Nat × Nat)} (h : SpanRow w v l) (hb : RowKit.Below B w w') (hB : w.heap.size ≤ B) : SpanRow w' v l := by
  obtain ⟨b, cap, h1, h2, h4⟩ := h
  refine ⟨b, cap, h1, h2, fun i hi => ?_⟩
  obtain ⟨c1, c2⟩ := h4 i hi
  have l1 := World.block_lt_of_cell? w _ c1
  exact ⟨(hb.cell (p := ⟨b, i * 2, none⟩) (Nat.lt_of_lt_of_le l1 hB)).trans c1, (hb.cell (p := ⟨b, i * 2 + 1, none⟩) (Nat.lt_of_lt_of_le l1 hB)).trans c2⟩

theorem spanRow_owns {w : World} {base e : Nat} {v : Value} {l : List (Nat × Nat)} (h : w.ownsRow base e 2 v l.length (spn l)) (h0 : 0 < l.length) : SpanRow w v l := by
  rcases h.2 with ⟨rfl, h1⟩ | ⟨g, cap, cur, rfl, _, hg, hnc, hm, _⟩
  · omega
  · refine ⟨g, cap, rfl, hnc, fun i hi => ⟨?_, ?_⟩⟩
    · rw [h.cellAt _ (by omega), (spn_get _ _ hi).1]
    · rw [h.cellAt _ (by omega), (spn_get _ _ hi).2]

theorem infoSpan : (Try.prog.info? 53).map (fun i => (i.zero, i.size, i.bytes)) = some (some (.agg #[.int .i64 0, .int .i64 0]), 2, 16) := by kernel_rfl

/-! Tokens. -/

abbrev tkV (t : Tk) : Value := .agg #[.int .i64 t.1, .int .i64 t.2.1, .int .u8 (t.2.2 : Int)]
abbrev tk3 (t : Tk) : List Value := [.int .i64 t.1, .int .i64 t.2.1, .int .u8 (t.2.2 : Int)]

/-- A row of tokens as cells. -/
def tks (l : List Tk) : List Value := l.flatMap tk3

theorem tks_length (l : List Tk) : (tks l).length = l.length * 3 := by
  induction l with
  | nil => rfl
  | cons p r ih =>
    show (_ ++ tks r).length = _
    rw [List.length_append, ih, List.length_cons]
    simp
    omega

theorem tks_append (l m : List Tk) : tks (l ++ m) = tks l ++ tks m := by simp [tks]

theorem tks_get : ∀ (l : List Tk) (i : Nat) (h : i < l.length), (tks l)[i * 3]? = some (.int .i64 l[i].1) ∧ (tks l)[i * 3 + 1]? = some (.int .i64 l[i].2.1) ∧ (tks l)[i * 3 + 2]? = some (.int .u8 (l[i].2.2 : Int))
  | [], i, h => absurd h (by simp)
  | p :: r, 0, _ => ⟨rfl, rfl, rfl⟩
  | p :: r, i + 1, h => by
    have ih := tks_get r i (by simpa using h)
    rw [show (i + 1) * 3 = i * 3 + 3 from by omega]
    exact ih

theorem tks_one (l : List Tk) : ∀ u ∈ tks l, u.oneCell' = true := by
  intro u hu
  simp only [tks, List.mem_flatMap] at hu
  obtain ⟨p, _, hp⟩ := hu
  simp at hp
  rcases hp with rfl | rfl | rfl <;> rfl

/-- Numbers that a token may hold. -/
def InT (t : Tk) : Prop := (-9223372036854775808 ≤ t.1 ∧ t.1 ≤ 9223372036854775807) ∧ (-9223372036854775808 ≤ t.2.1 ∧ t.2.1 ≤ 9223372036854775807) ∧ t.2.2 < 256
def Fits (l : List Tk) : Prop := ∀ t ∈ l, InT t

/-- A slice that reads as these tokens. -/
def TokRow (w : World) (v : Value) (l : List Tk) : Prop := ∃ a cap, v = .slice a l.length cap ∧ l.length ≤ cap ∧ l.length ≤ maxLen ∧ (a = none → cap = 0) ∧
  ∀ (i : Nat) (h : i < l.length), InT l[i] ∧ ∃ b off, a = some ⟨b, off, none⟩ ∧ w.cell? ⟨b, off + i * 3, none⟩ = some (.int .i64 l[i].1) ∧ w.cell? ⟨b, off + i * 3 + 1, none⟩ = some (.int .i64 l[i].2.1) ∧ w.cell? ⟨b, off + i * 3 + 2, none⟩ = some (.int .u8 (l[i].2.2 : Int))

theorem TokRow.below {w w' : World} {B : Nat} {v : Value} {l : List Tk} (h : TokRow w v l) (hb : RowKit.Below B w w') (hB : w.heap.size ≤ B) : TokRow w' v l := by
  obtain ⟨a, cap, h1, h2, h0, h3, h4⟩ := h
  refine ⟨a, cap, h1, h2, h0, h3, fun i hi => ?_⟩
  obtain ⟨g, b, off, e, c1, c2, c3⟩ := h4 i hi
  have l1 := World.block_lt_of_cell? w _ c1
  exact ⟨g, b, off, e, (hb.cell (p := ⟨b, off + i * 3, none⟩) (Nat.lt_of_lt_of_le l1 hB)).trans c1, (hb.cell (p := ⟨b, off + i * 3 + 1, none⟩) (Nat.lt_of_lt_of_le l1 hB)).trans c2, (hb.cell (p := ⟨b, off + i * 3 + 2, none⟩) (Nat.lt_of_lt_of_le l1 hB)).trans c3⟩

theorem TokRow.fits {w : World} {v : Value} {l : List Tk} (h : TokRow w v l) : Fits l := by
  obtain ⟨a, cap, rfl, hc, _, hn, hat⟩ := h
  intro x hx
  obtain ⟨i, hi, rfl⟩ := List.getElem_of_mem hx
  exact (hat i hi).1

theorem tokRow_owns {w : World} {base e : Nat} {v : Value} {l : List Tk} (h : w.ownsRow base e 3 v l.length (tks l)) (hs : Fits l) : TokRow w v l := by
  rcases h.2 with ⟨rfl, h0⟩ | ⟨g, cap, cur, rfl, _, hg, hnc, hm, _⟩
  · obtain rfl : l = [] := List.eq_nil_of_length_eq_zero h0
    exact ⟨none, 0, rfl, Nat.le_refl _, Nat.zero_le _, fun _ => rfl, fun i hi => absurd hi (by simp)⟩
  · refine ⟨_, cap, rfl, hnc, by omega, (fun e => by cases e), fun i hi => ⟨hs _ (List.getElem_mem hi), g, 0, rfl, ?_, ?_, ?_⟩⟩
    · rw [Nat.zero_add, h.cellAt _ (by omega), (tks_get _ _ hi).1]
    · rw [Nat.zero_add, h.cellAt _ (by omega), (tks_get _ _ hi).2.1]
    · rw [Nat.zero_add, h.cellAt _ (by omega), (tks_get _ _ hi).2.2]

theorem tokRow_none (w : World) : TokRow w (.slice none 0 0) [] := ⟨none, 0, rfl, Nat.le_refl _, Nat.zero_le _, fun _ => rfl, fun i hi => absurd hi (by simp)⟩

/-- A row of tokens of the call's own. -/
abbrev tokT (v : Value) (l : List Tk) : Thing := rowT 37 3 v l.length (tks l)

section
variable {B : Nat} {w0 w : World} {r : List Thing}

theorem _root_.Go.Proofs.Ytmooiheomecieaa.St.toks {v : Value} {l : List Tk} (h : St B w0 w (tokT v l :: r)) (hs : Fits l) : TokRow w v l := tokRow_owns h.row hs
end

/-- A row of tokens written out in the text. -/
theorem tokRow_box {w : World} {b : Nat} {l : List Tk} {e : TypeId} (h : w.heap[b]? = some (.cells (tks l).toArray e (0, 0))) (hs : Fits l) (hl : l.length ≤ maxLen) : TokRow w (.slice (some ⟨b, 0, none⟩) l.length l.length) l := by
  refine ⟨_, l.length, rfl, Nat.le_refl _, hl, (fun e => by cases e), fun i hi => ⟨hs _ (List.getElem_mem hi), b, 0, rfl, ?_, ?_, ?_⟩⟩
  · rw [Nat.zero_add, cell_of_row _ b _ (tks l).toArray e (0, 0) h]
    simpa using (tks_get l i hi).1
  · rw [Nat.zero_add, cell_of_row _ b _ (tks l).toArray e (0, 0) h]
    simpa using (tks_get l i hi).2.1
  · rw [Nat.zero_add, cell_of_row _ b _ (tks l).toArray e (0, 0) h]
    simpa using (tks_get l i hi).2.2

theorem infoTok : (Try.prog.info? 37).map (fun i => (i.zero, i.size, i.bytes)) = some (some (.agg #[.int .i64 0, .int .i64 0, .int .u8 0]), 3, 24) := by kernel_rfl

theorem TokRow.reads {w : World} {v : Value} {l : List Tk} (h : TokRow w v l) : ∀ a m c, v = .slice a m c → (a = none → m = 0 ∧ c = 0) ∧ ∀ b, a = some b → ∀ j u, (tks l)[j]? = some u → w.cell? (b.add j) = some u := by
  obtain ⟨a, cap, rfl, hc, _, hn, hat⟩ := h
  rintro a' m c e
  obtain ⟨rfl, rfl, rfl⟩ := Value.slice.inj e
  refine ⟨fun e => ?_, fun b hb j u hu => ?_⟩
  · have := hn e
    exact ⟨by omega, this⟩
  · subst hb
    have hj : j < l.length * 3 := by
      have := (List.getElem?_eq_some_iff.1 hu).1
      rwa [tks_length] at this
    have hi : j / 3 < l.length := by omega
    obtain ⟨_, b', off, e2, c1, c2, c3⟩ := hat (j / 3) hi
    obtain rfl := Option.some.inj e2
    obtain ⟨g1, g2, g3⟩ := tks_get l (j / 3) hi
    rw [add_none]
    have h3 : j % 3 = 0 ∨ j % 3 = 1 ∨ j % 3 = 2 := by omega
    rcases h3 with h3 | h3 | h3
    · have e3 : j / 3 * 3 = j := by omega
      rw [e3] at g1 c1
      rw [c1, ← hu, g1]
    · have e3 : j / 3 * 3 + 1 = j := by omega
      rw [e3] at g2
      rw [Nat.add_assoc, e3] at c2
      rw [c2, ← hu, g2]
    · have e3 : j / 3 * 3 + 2 = j := by omega
      rw [e3] at g3
      rw [Nat.add_assoc, e3] at c3
      rw [c3, ← hu, g3]

section
variable {H : Type} {enc : TypeId × Value → H} {W : World}

theorem cellsTok : Try.prog.cellsOf 37 = 3 := by kernel_rfl

theorem byte_wf {v : Int} (hv : (Lit.int .u8 v).wf = true) : ∃ x : Nat, v = (x : Int) ∧ x < 256 := by
  simp only [Lit.wf, Bool.and_eq_true, decide_eq_true_eq] at hv
  have h1 : IntKind.u8.min = 0 := rfl
  have h2 : IntKind.u8.max = 255 := rfl
  rw [h1, h2] at hv
  exact ⟨v.toNat, by omega, by omega⟩

theorem int_wf {v : Int} (hv : (Lit.int .i64 v).wf = true) : -9223372036854775808 ≤ v ∧ v ≤ 9223372036854775807 := by
  simp only [Lit.wf, Bool.and_eq_true, decide_eq_true_eq] at hv
  have e1 : IntKind.i64.min = -9223372036854775808 := rfl
  have e2 : IntKind.i64.max = 9223372036854775807 := rfl
  rw [e1, e2] at hv
  exact hv

/-- The three cells of a token, out of its reading. -/
theorem tok_of {n : Nat} {cs : List Value} {x : DataW H × List MemPlace} (h : DataW.trod enc Try.prog W 0 (fun _ => true) true n 37 cs = some x) :
    ∃ y : Tk, InT y ∧ cs = tk3 y := by
  obtain ⟨xs, n', _, _, hlen, hxl, hg⟩ := DataW.trod_struct Try.underlying37 h
  rw [cellsTok] at hlen
  match cs, hlen with
  | [c0, c1, c2], _ =>
    match xs, hxl with
    | [x0, x1, x2], _ =>
      have g0 : DataW.trod enc Try.prog W 0 (fun _ => true) true n' 3 (([c0, c1, c2].drop 0).take (Try.prog.cellsOf 3)) = some x0 := hg 0 _ rfl
      have g1 : DataW.trod enc Try.prog W 0 (fun _ => true) true n' 3 (([c0, c1, c2].drop 1).take (Try.prog.cellsOf 3)) = some x1 := hg 1 _ rfl
      have g2 : DataW.trod enc Try.prog W 0 (fun _ => true) true n' 5 (([c0, c1, c2].drop 2).take (Try.prog.cellsOf 5)) = some x2 := hg 2 _ rfl
      rw [show Try.prog.cellsOf 3 = 1 from by kernel_rfl] at g0 g1
      rw [show Try.prog.cellsOf 5 = 1 from by kernel_rfl] at g2
      obtain ⟨a0, e0, _, k0⟩ := DataW.trod_int Try.underlying3 g0
      obtain ⟨a1, e1, _, k1⟩ := DataW.trod_int Try.underlying3 g1
      obtain ⟨a2, e2, _, k2⟩ := DataW.trod_int Try.underlying5 g2
      simp at e0 e1 e2
      subst e0 e1 e2
      obtain ⟨y2, rfl, f2⟩ := byte_wf k2
      exact ⟨(a0, a1, y2), ⟨int_wf k0, int_wf k1, f2⟩, rfl⟩

theorem open_toks {a : Option Addr} {len cap : Nat} {d : DataW H} {p : List MemPlace} (h : DataW.Trod enc Try.prog W 0 (fun _ => true) true 32 (.slice a len cap) d p) : ∃ l, TokRow W (.slice a len cap) l := by
  obtain ⟨fuel, hf⟩ := h
  rcases open_slice Try.underlying32 hf with ⟨hcs, _⟩ | ⟨x, len', cap', m, n, D, Pl, hcs, _, hl, hm, hmm, _, hi⟩
  · simp [Value.cells] at hcs
    obtain ⟨rfl, rfl, rfl⟩ := hcs
    exact ⟨[], tokRow_none W⟩
  · simp [Value.cells] at hcs
    obtain ⟨rfl, rfl, rfl⟩ := hcs
    have hlm : len ≤ m := by rw [hmm]; simpa using hl
    rw [cellsTok] at hi
    by_cases h0 : len = 0
    · subst h0
      exact ⟨[], _, cap, rfl, by simp, by simp, (fun e => by cases e), fun i hi => absurd hi (by simp)⟩
    · have hx : x = ⟨x.block, x.off, none⟩ := by
        obtain ⟨cs, hc, ht⟩ := hi 0 (by omega)
        obtain ⟨y, _, rfl⟩ := tok_of ht
        obtain ⟨_, _, hat⟩ := World.cells?_some hc
        have h1 := hat 0 (by omega)
        have h2 : x.spot = none := by
          have := World.cell?_spot (h1.trans rfl)
          simpa [Addr.add] using this
        obtain ⟨b, o, s⟩ := x
        simpa using h2
      obtain ⟨l, h1, h2⟩ := list_of (fun i (y : Tk) => InT y ∧ W.cell? ⟨x.block, x.off + i * 3, none⟩ = some (.int .i64 y.1) ∧ W.cell? ⟨x.block, x.off + i * 3 + 1, none⟩ = some (.int .i64 y.2.1) ∧ W.cell? ⟨x.block, x.off + i * 3 + 2, none⟩ = some (.int .u8 (y.2.2 : Int))) len (fun i hin => by
        obtain ⟨cs, hc, ht⟩ := hi i (by omega)
        obtain ⟨y, hy, rfl⟩ := tok_of ht
        obtain ⟨_, _, hat⟩ := World.cells?_some hc
        rw [hx, add_none] at hat
        have c0 := hat 0 (by omega)
        have c1 := hat 1 (by omega)
        have c2 := hat 2 (by omega)
        rw [add_none] at c0 c1 c2
        exact ⟨y, hy, c0, c1, c2⟩)
      exact ⟨l, some x, cap, by rw [h1], by omega, by omega, (fun e => by cases e), fun i hi => by
        obtain ⟨f, g1, g2, g3⟩ := h2 i hi
        exact ⟨f, x.block, x.off, by rw [← hx], g1, g2, g3⟩⟩
end
end Go.Proofs.Ytmooiheomecieaa.Tok
