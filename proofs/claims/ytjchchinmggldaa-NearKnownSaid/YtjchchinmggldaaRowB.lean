/-
  What layers share, besides: slices of bytes that are copied, written out in the text, appended to, filled; rows of numbers of 32 bits. No conditions.
-/
import Derived.Test.YtjchchinmggldaaBytes
import Derived.Test.YtjchchinmggldaaRegion
namespace Go.Proofs.Ytjchchinmggldaa
open Go.RowKit

theorem byteRow_owns {w : World} {base : Nat} {v : Value} {xs : List Nat} (h : w.ownsRow base 5 1 v xs.length (u8s xs)) (hb : ∀ x ∈ xs, x < 256) : ByteRow w v xs := by
  rcases h.2 with ⟨rfl, h0⟩ | ⟨g, cap, cur, rfl, _, hg, hnc, _⟩
  · obtain rfl : xs = [] := List.eq_nil_of_length_eq_zero h0
    exact ⟨none, 0, rfl, Nat.le_refl _, fun _ => rfl, fun i hi => absurd hi (by simp)⟩
  · refine ⟨_, cap, rfl, hnc, (fun e => by cases e), fun i hi => ⟨hb _ (List.getElem_mem hi), g, 0, rfl, ?_⟩⟩
    rw [Nat.zero_add, h.cellAt i (by omega), u8s_get _ _ hi]

/-- A row of bytes written out in the text. -/
theorem byteRow_lit (w : World) (xs : List Nat) (fr : Nat × Nat) (hb : ∀ x ∈ xs, x < 256) : ByteRow (w.alloc (.cells (u8s xs).toArray 5 fr)) (.slice (some ⟨w.heap.size, 0, none⟩) xs.length xs.length) xs := by
  refine ⟨_, xs.length, rfl, Nat.le_refl _, (fun e => by cases e), fun i hi => ⟨hb _ (List.getElem_mem hi), w.heap.size, 0, rfl, ?_⟩⟩
  rw [Nat.zero_add, cell_of_row _ w.heap.size i (u8s xs).toArray 5 fr (heap_alloc_new w _)]
  simp [u8s, hi]

theorem byteRow_none (w : World) : ByteRow w (.slice none 0 0) [] := ⟨none, 0, rfl, Nat.le_refl _, fun _ => rfl, fun i hi => absurd hi (by simp)⟩

theorem St.bytesRow {B : Nat} {w0 w : World} {r : List Thing} {v : Value} {xs : List Nat} (h : St B w0 w (rowT 5 1 v xs.length (u8s xs) :: r)) (hb : ∀ x ∈ xs, x < 256) : ByteRow w v xs := byteRow_owns h.row hb

/-- An append to a slice of the call's own, where it is wanted. -/
theorem wpList_append_mineW {P : Program} (w : World) {ops : Array Oper} {rest : List Oper} {o : Oper} {a : Act} {Q : Exit → Act → World → Prop} (hw : Region.wanted o (yielded ops a.tmps) = true) (s x : Operand) (t : TypeId)
    (ho : o.op = .call { callee := .builtin .append, args := #[s, x], argTypes := #[t, t] })
    (e : TypeId) (i : TypeInfo) (z : Value) (size bytes : Nat) (ht : P.underlying t = some (.slice e)) (hi : P.info? e = some i) (hz : i.zero = some z)
    (hsize : i.size = size) (hby : i.bytes = bytes) (hzs : z.cells.size = size) (hsz : 0 < size)
    (v : Value) (n : Nat) (xs : List Value) (hs : a.eval s = v) (hown : w.ownsRow 0 e size v n xs)
    (ad : Option Addr) (m c : Nat) (news : List Value) (hx : a.eval x = .slice ad m c) (hnone : ad = none → m = 0 ∧ c = 0) (hl : news.length = m * size) (hnews : ∀ b, ad = some b → ∀ j u, news[j]? = some u → w.cell? (b.add j) = some u) (h1 : ∀ u ∈ news, u.oneCell' = true)
    (h63 : n + m ≤ maxLen) (hbytes : (n + m) * bytes ≤ 140737488355328)
    (h : ∀ v' w', w'.ownsRow 0 e size v' (n + m) (xs ++ news) → w.grownBy w' v.ownBlock → Fresh w v v' → wpList P ops Q rest (a.put o.dst v') w') : wpList P ops Q (o :: rest) a w := by
  refine BigFrame.wpList_want hw fun K hK => ?_
  obtain ⟨v', w', hr, h2, h3, h4⟩ := run_append_mine (P := P) w t o.type e i z size bytes ht hi hz hsize hby hzs hsz v n xs hown ad m c news hnone hl hnews h1 h63 hbytes
  unfold Oper.wp execOp
  simp only [ho, resolve, invoke, builtin, Sem.run_bind, Sem.run_pure, Result.andThen_ok, List.map_toArray, List.map_cons, List.map_nil, hs, hx, hr]
  exact hK _ _ (h v' w' h2 h3 h4)

/-- A row of the call's own at block g, of n bytes. -/
abbrev bytesT (g n : Nat) (xs : List Nat) : Thing := rowT 5 1 (.slice (some ⟨g, 0, none⟩) n n) n (u8s xs)

theorem St.rowCell {B : Nat} {w0 w : World} {g n : Nat} {xs : List Nat} {r : List Thing} (h : St B w0 w (bytesT g n xs :: r)) (i : Nat) (hl : xs.length = n) (hi : i < n) :
    w.cell? ⟨g, i, none⟩ = some (.int .u8 (xs[i]'(by omega) : Int)) ∧ w.frozen? ⟨g, i, none⟩ = false := by
  refine ⟨?_, h.row.frozenAt i⟩
  rw [h.row.cellAt i (by omega), u8s_get _ _ (by omega)]

/-- A store of a byte. -/
theorem St.put {B : Nat} {w0 w : World} {g n : Nat} {xs : List Nat} {r : List Thing} (h : St B w0 w (bytesT g n xs :: r)) (i x : Nat) : St B w0 (w.setCell ⟨g, i, none⟩ (.int .u8 (x : Int))) (bytesT g n (xs.set i x) :: r) := by
  have := h.stored i (.int .u8 (x : Int))
  rwa [← u8s_set] at this

theorem St.inB {B : Nat} {w0 w : World} {g n : Nat} {xs : List Nat} {r : List Thing} (h : St B w0 w (bytesT g n xs :: r)) : B ≤ g := by
  obtain ⟨S1, h1, h2, _⟩ := h.sep
  exact h2 g ((h1.2 g).2 rfl)

/-- Rows lie apart. -/
theorem St.apart {B : Nat} {w0 w : World} {g1 n1 g2 n2 : Nat} {xs ys : List Nat} {r : List Thing} (h : St B w0 w (bytesT g1 n1 xs :: bytesT g2 n2 ys :: r)) : g1 ≠ g2 := by
  obtain ⟨S1, h1, _, S2, h3, h4, _⟩ := h.sep
  intro e
  subst e
  exact (h4 g1 ((h3.2 g1).2 rfl)).2 ((h1.2 g1).2 rfl)

/-- 'make([]byte, n)'. -/
theorem St.made {B : Nat} {w0 w w' : World} {r : List Thing} {n : Nat} (h : St B w0 w r) (hown : w'.ownsRow w.heap.size 5 1 (.slice (some ⟨w.heap.size, 0, none⟩) n n) n (madeCells #[Value.int .u8 0] n).toList) (hg : w.grownBy w' none) :
    St B w0 w' (bytesT w.heap.size n (List.replicate n 0) :: r) := by
  rw [toList_madeCells_one, show List.replicate n (Value.int .u8 0) = u8s (List.replicate n 0) from by simp [u8s]] at hown
  exact h.addRow ((Below.refl w.heap.size w).grown hg (Nat.le_refl _) (by simp)) hown

/-- Numbers of 32 bits as values. -/
def u32s (xs : List Nat) : List Value := xs.map fun (x : Nat) => Value.int .u32 (x : Int)
theorem u32s_length (xs : List Nat) : (u32s xs).length = xs.length := by simp [u32s]
theorem u32s_get (xs : List Nat) (i : Nat) (h : i < xs.length) : (u32s xs)[i]? = some (.int .u32 (xs[i] : Int)) := by simp [u32s, h]
theorem u32s_set (xs : List Nat) (i x : Nat) : u32s (xs.set i x) = (u32s xs).set i (.int .u32 (x : Int)) := by simp [u32s, List.map_set]
theorem u32s_append (xs ys : List Nat) : u32s (xs ++ ys) = u32s xs ++ u32s ys := by simp [u32s]
theorem u32s_one (xs : List Nat) : ∀ u ∈ u32s xs, u.oneCell' = true := by
  intro u hu
  simp only [u32s, List.mem_map] at hu
  obtain ⟨x, _, rfl⟩ := hu
  rfl

end Go.Proofs.Ytjchchinmggldaa
