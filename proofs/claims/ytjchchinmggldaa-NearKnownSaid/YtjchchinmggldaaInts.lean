/-
  What layers share, besides: slices of int and int64: those that came in, those of the call's own. No conditions.
-/
import Derived.Test.YtjchchinmggldaaRowB
namespace Go.Proofs.Ytjchchinmggldaa
open Go.RowKit Go.ChangeShapes Go.WideShapes Go.Deep

/-- A slice that reads as these numbers. -/
def IntRow (w : World) (v : Value) (xs : List Int) : Prop := ∃ a cap, v = .slice a xs.length cap ∧ xs.length ≤ cap ∧ (a = none → cap = 0) ∧ ∀ (i : Nat) (h : i < xs.length), (-9223372036854775808 ≤ xs[i] ∧ xs[i] ≤ 9223372036854775807) ∧ ∃ b off, a = some ⟨b, off, none⟩ ∧ w.cell? ⟨b, off + i, none⟩ = some (.int .i64 xs[i])

/-- .. that are not below 0. -/
def NumRow (w : World) (v : Value) (xs : List Nat) : Prop := ∃ a cap, v = .slice a xs.length cap ∧ xs.length ≤ cap ∧ (a = none → cap = 0) ∧ ∀ (i : Nat) (_ : i < xs.length), ∃ b off, a = some ⟨b, off, none⟩ ∧ w.cell? ⟨b, off + i, none⟩ = some (.int .i64 (xs[i] : Int))

theorem IntRow.below {w w' : World} {B : Nat} {v : Value} {xs : List Int} (h : IntRow w v xs) (hb : RowKit.Below B w w') (hB : w.heap.size ≤ B) : IntRow w' v xs := by
  obtain ⟨a, cap, h1, h2, h3, h4⟩ := h
  refine ⟨a, cap, h1, h2, h3, fun i hi => ⟨(h4 i hi).1, ?_⟩⟩
  obtain ⟨_, b, off, e, hc⟩ := h4 i hi
  have lt := World.block_lt_of_cell? w _ hc
  exact ⟨b, off, e, (hb.cell (p := ⟨b, off + i, none⟩) (Nat.lt_of_lt_of_le lt hB)).trans hc⟩

theorem NumRow.below {w w' : World} {B : Nat} {v : Value} {xs : List Nat} (h : NumRow w v xs) (hb : RowKit.Below B w w') (hB : w.heap.size ≤ B) : NumRow w' v xs := by
  obtain ⟨a, cap, h1, h2, h3, h4⟩ := h
  refine ⟨a, cap, h1, h2, h3, fun i hi => ?_⟩
  obtain ⟨b, off, e, hc⟩ := h4 i hi
  have lt := World.block_lt_of_cell? w _ hc
  exact ⟨b, off, e, (hb.cell (p := ⟨b, off + i, none⟩) (Nat.lt_of_lt_of_le lt hB)).trans hc⟩

theorem NumRow.ints {w : World} {v : Value} {xs : List Nat} (h : NumRow w v xs) (hx : ∀ x ∈ xs, x < 9223372036854775808) : IntRow w v (xs.map fun x : Nat => (x : Int)) := by
  obtain ⟨a, cap, h1, h2, h3, h4⟩ := h
  refine ⟨a, cap, by simpa using h1, by simpa using h2, h3, fun i hi => ?_⟩
  have hi' : i < xs.length := by simpa using hi
  have := hx _ (List.getElem_mem hi')
  simp only [List.getElem_map]
  exact ⟨⟨by omega, by omega⟩, h4 i hi'⟩

theorem IntRow.nums {w : World} {v : Value} {xs : List Int} (h : IntRow w v xs) (hx : ∀ x ∈ xs, 0 ≤ x) : NumRow w v (xs.map Int.toNat) := by
  obtain ⟨a, cap, h1, h2, h3, h4⟩ := h
  refine ⟨a, cap, by simpa using h1, by simpa using h2, h3, fun i hi => ?_⟩
  have hi' : i < xs.length := by simpa using hi
  have := hx _ (List.getElem_mem hi')
  obtain ⟨_, b, off, e, hc⟩ := h4 i hi'
  refine ⟨b, off, e, ?_⟩
  simp only [List.getElem_map]
  rw [hc, Int.toNat_of_nonneg this]

theorem nums_ints {xs : List Int} (hx : ∀ x ∈ xs, 0 ≤ x) : (xs.map Int.toNat).map (fun x : Nat => (x : Int)) = xs := by
  rw [List.map_map]
  conv => rhs; rw [← List.map_id xs]
  exact List.map_congr_left fun x h => by have := hx x h; simp; omega

/-- Numbers as values. -/
def i64s (xs : List Nat) : List Value := xs.map fun (x : Nat) => Value.int .i64 (x : Int)
theorem i64s_length (xs : List Nat) : (i64s xs).length = xs.length := by simp [i64s]
theorem i64s_get (xs : List Nat) (i : Nat) (h : i < xs.length) : (i64s xs)[i]? = some (.int .i64 (xs[i] : Int)) := by simp [i64s, h]
theorem i64s_set (xs : List Nat) (i x : Nat) : i64s (xs.set i x) = (i64s xs).set i (.int .i64 (x : Int)) := by simp [i64s, List.map_set]
theorem i64s_append (xs ys : List Nat) : i64s (xs ++ ys) = i64s xs ++ i64s ys := by simp [i64s]
theorem i64s_one (xs : List Nat) : ∀ u ∈ i64s xs, u.oneCell' = true := by
  intro u hu
  simp only [i64s, List.mem_map] at hu
  obtain ⟨x, _, rfl⟩ := hu
  rfl

theorem numRow_owns {w : World} {base : Nat} {e : TypeId} {v : Value} {xs : List Nat} (h : w.ownsRow base e 1 v xs.length (i64s xs)) : NumRow w v xs := by
  rcases h.2 with ⟨rfl, h0⟩ | ⟨g, cap, cur, rfl, _, hg, hnc, _⟩
  · obtain rfl : xs = [] := List.eq_nil_of_length_eq_zero h0
    exact ⟨none, 0, rfl, Nat.le_refl _, fun _ => rfl, fun i hi => absurd hi (by simp)⟩
  · refine ⟨_, cap, rfl, hnc, (fun e => by cases e), fun i hi => ⟨g, 0, rfl, ?_⟩⟩
    rw [Nat.zero_add, h.cellAt i (by omega), i64s_get _ _ hi]

theorem numRow_none (w : World) : NumRow w (.slice none 0 0) [] := ⟨none, 0, rfl, Nat.le_refl _, fun _ => rfl, fun i hi => absurd hi (by simp)⟩

/-- A row of numbers written out in the text. -/
theorem numRow_lit (w : World) (xs : List Nat) (e : TypeId) (fr : Nat × Nat) : NumRow (w.alloc (.cells (i64s xs).toArray e fr)) (.slice (some ⟨w.heap.size, 0, none⟩) xs.length xs.length) xs := by
  refine ⟨_, xs.length, rfl, Nat.le_refl _, (fun e => by cases e), fun i hi => ⟨w.heap.size, 0, rfl, ?_⟩⟩
  rw [Nat.zero_add, cell_of_row _ w.heap.size i (i64s xs).toArray e fr (heap_alloc_new w _)]
  simp [i64s, hi]

/-- A row of the call's own at block g, of n numbers. -/
abbrev numsT (e : TypeId) (g n : Nat) (xs : List Nat) : Thing := rowT e 1 (.slice (some ⟨g, 0, none⟩) n n) n (i64s xs)

theorem St.numCell {B : Nat} {w0 w : World} {e : TypeId} {g n : Nat} {xs : List Nat} {r : List Thing} (h : St B w0 w (numsT e g n xs :: r)) (i : Nat) (hl : xs.length = n) (hi : i < n) :
    w.cell? ⟨g, i, none⟩ = some (.int .i64 (xs[i]'(by omega) : Int)) ∧ w.frozen? ⟨g, i, none⟩ = false := by
  refine ⟨?_, h.row.frozenAt i⟩
  rw [h.row.cellAt i (by omega), i64s_get _ _ (by omega)]

/-- A store of a number. -/
theorem St.putNum {B : Nat} {w0 w : World} {e : TypeId} {g n : Nat} {xs : List Nat} {r : List Thing} (h : St B w0 w (numsT e g n xs :: r)) (i x : Nat) : St B w0 (w.setCell ⟨g, i, none⟩ (.int .i64 (x : Int))) (numsT e g n (xs.set i x) :: r) := by
  have := h.stored i (.int .i64 (x : Int))
  rwa [← i64s_set] at this

/-- 'make([]int, n)'. -/
theorem St.madeNums {B : Nat} {w0 w w' : World} {e : TypeId} {r : List Thing} {n : Nat} (h : St B w0 w r) (hown : w'.ownsRow w.heap.size e 1 (.slice (some ⟨w.heap.size, 0, none⟩) n n) n (madeCells #[Value.int .i64 0] n).toList) (hg : w.grownBy w' none) :
    St B w0 w' (numsT e w.heap.size n (List.replicate n 0) :: r) := by
  rw [toList_madeCells_one, show List.replicate n (Value.int .i64 0) = i64s (List.replicate n 0) from by simp [i64s]] at hown
  exact h.addRow ((Below.refl w.heap.size w).grown hg (Nat.le_refl _) (by simp)) hown

theorem St.numRow {B : Nat} {w0 w : World} {e : TypeId} {r : List Thing} {v : Value} {xs : List Nat} (h : St B w0 w (rowT e 1 v xs.length (i64s xs) :: r)) : NumRow w v xs := numRow_owns h.row

/-- Behind a store, or a growth, elsewhere. -/
theorem NumRow.kept {w w' : World} {v : Value} {xs : List Nat} {T : Nat → Prop} (h : NumRow w v xs) (ho : Only T w w') (hT : ∀ b off c m, v = .slice (some ⟨b, off, none⟩) m c → ¬ T b) : NumRow w' v xs := by
  obtain ⟨a, cap, rfl, h2, h3, h4⟩ := h
  refine ⟨a, cap, rfl, h2, h3, fun i hi => ?_⟩
  obtain ⟨b, off, rfl, hc⟩ := h4 i hi
  refine ⟨b, off, rfl, ?_⟩
  have lt := World.block_lt_of_cell? w _ hc
  exact (World.cell?_of_block (w := w) (ho.block b lt (hT b off _ _ rfl))).trans hc

section
variable {H : Type} {enc : TypeId × Value → H} {W : World}

theorem open_nums {a : Option Addr} {len cap : Nat} {d : DataW H} {p : List MemPlace} (h : DataW.Trod enc Try.prog W 0 (fun _ => true) true 22 (.slice a len cap) d p) : ∃ xs, IntRow W (.slice a len cap) xs := by
  obtain ⟨fuel, hf⟩ := h
  rcases open_ints Try.underlying22 Try.underlying3 (by kernel_rfl) hf with ⟨hcs, _⟩ | ⟨x, l, c, zs, hcs, _, hl, hm, hz, _, hcell, hwz⟩
  · simp [Value.cells] at hcs
    obtain ⟨rfl, rfl, rfl⟩ := hcs
    exact ⟨[], none, 0, rfl, by simp, fun _ => rfl, fun i hi => absurd hi (by simp)⟩
  · simp [Value.cells] at hcs
    obtain ⟨rfl, rfl, rfl⟩ := hcs
    have hz' : zs.length = cap := by simpa using hz
    have hwf : ∀ i, i < len → ∃ y : Int, zs.getD i 0 = y ∧ (-9223372036854775808 ≤ y ∧ y ≤ 9223372036854775807) := by
      intro i hi
      have hmem : zs.getD i 0 ∈ zs := by rw [getD_in _ _ (by omega)]; exact List.getElem_mem _
      have h1 := hwz _ hmem
      simp only [Lit.wf, Bool.and_eq_true, decide_eq_true_eq] at h1
      have e1 : IntKind.i64.min = -9223372036854775808 := rfl
      have e2 : IntKind.i64.max = 9223372036854775807 := rfl
      rw [e1, e2] at h1
      exact ⟨_, rfl, h1⟩
    obtain ⟨xs, h1, h2⟩ := list_of (fun i (y : Int) => zs.getD i 0 = y ∧ (-9223372036854775808 ≤ y ∧ y ≤ 9223372036854775807)) len hwf
    refine ⟨xs, some x, cap, by rw [h1], by omega, (fun e => by cases e), fun i hi => ⟨(h2 i hi).2, ?_⟩⟩
    have hx : x = ⟨x.block, x.off, none⟩ := by
      have h3 := hcell 0 (by omega)
      have h4 : x.spot = none := by
        have := World.cell?_spot h3
        simpa [Addr.add] using this
      obtain ⟨b, o, s⟩ := x
      simpa using h4
    refine ⟨x.block, x.off, by rw [← hx], ?_⟩
    have h5 := hcell i (by omega)
    rw [hx, add_none] at h5
    rw [h5, (h2 i hi).1]
end

end Go.Proofs.Ytjchchinmggldaa
