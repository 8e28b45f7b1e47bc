/-
  Steps of a region of open order over slices of bytes: written out, made, appended to. No conditions.
-/
import Derived.Test.YtpolbpjclklgbaaOpen
import Derived.Test.YtpolbpjclklgbaaRowB
namespace Go.Proofs.Ytpolbpjclklgbaa
open Go Go.RowKit

theorem ownsRow_lit (w : World) (xs : List Nat) (h : xs.length ≤ maxLen) : (w.alloc (.cells (u8s xs).toArray 5)).ownsRow w.heap.size 5 1 (.slice (some ⟨w.heap.size, 0, none⟩) xs.length xs.length) xs.length (u8s xs) :=
  ⟨by simp [u8s], .inr ⟨w.heap.size, xs.length, (u8s xs).toArray, rfl, Nat.le_refl _, heap_alloc_new w _, Nat.le_refl _, h, by simp [u8s], by
    rw [Nat.mul_one, List.take_of_length_le]
    rw [u8s_length]
    exact Nat.le_refl _⟩⟩

theorem St.lit {B : Nat} {w0 w : World} {r : List Thing} (st : St B w0 w r) (xs : List Nat) (h : xs.length ≤ maxLen) : St B w0 (w.alloc (.cells (u8s xs).toArray 5)) (rowT 5 1 (.slice (some ⟨w.heap.size, 0, none⟩) xs.length xs.length) xs.length (u8s xs) :: r) :=
  st.addRow (below_alloc w _) (ownsRow_lit w xs h)

theorem make_step {B : Nat} {w0 w : World} {r : List Thing} (st : St B w0 w r) {o : Oper} {a : Act} {l c : Operand} (ho : o.op = .makeSlice 26 l c) (n : Nat) (hl : a.eval l = .int .i64 (n : Int)) (hc : a.eval c = .int .i64 (n : Int)) (h1 : n ≤ 140737488355328) :
    ∃ w', (execOp a.eval o).run Try.prog w = .ok (.value (.slice (some ⟨w.heap.size, 0, none⟩) n n)) w' ∧ St B w0 w' (rowT 5 1 (.slice (some ⟨w.heap.size, 0, none⟩) n n) n (u8s (List.replicate n 0)) :: r) := by
  obtain ⟨i0, hi, hz0, hz1, hz2⟩ := info_parts info8
  obtain ⟨w', hrun, r1, r2⟩ := run_make_full (P := Try.prog) w w.heap.size 26 5 i0 (.int .u8 0) 1 Try.underlying26 hi hz0 hz1 .i64 .i64 n (by rw [hz2]; omega) (by unfold maxLen; omega) (Nat.le_refl _)
  rw [Nat.mul_one] at r1
  refine ⟨w', ?_, st.made r1 r2⟩
  simp [execOp, ho, hl, hc, hrun, Result.andThen]

theorem append_step {B : Nat} {w0 w : World} {r : List Thing} {v : Value} {n : Nat} {xs : List Value} (st : St B w0 w (rowT 5 1 v n xs :: r)) {o : Oper} {a : Act} {s x : Operand}
    (ho : o.op = .call { callee := .builtin .append, args := #[s, x], argTypes := #[26, 26] }) (hs : a.eval s = v) (g m c : Nat) (hx : a.eval x = .slice (some ⟨g, 0, none⟩) m c)
    (ys : List Nat) (hl : ys.length = m) (hc : ∀ j u, (u8s ys)[j]? = some u → w.cell? ((⟨g, 0, none⟩ : Addr).add j) = some u) (h1 : n + m ≤ 140737488355328) :
    ∃ v' w', (execOp a.eval o).run Try.prog w = .ok (.value v') w' ∧ St B w0 w' (rowT 5 1 v' (n + m) (xs ++ u8s ys) :: r) := by
  obtain ⟨i0, hi, hz0, hz1, hz2⟩ := info_parts info8
  obtain ⟨v', w', hr, h2, h3, h4⟩ := run_append_mine (P := Try.prog) w 26 o.type 5 i0 (.int .u8 0) 1 1 Try.underlying26 hi hz0 hz1 hz2 rfl (by decide) v n xs st.row (some ⟨g, 0, none⟩) m c (u8s ys) (fun e => by cases e) (by rw [u8s_length]; omega)
    (fun ad e j u hu => by
      obtain rfl := Option.some.inj e
      exact hc j u hu) (u8s_one ys) (by unfold maxLen; omega) (by omega)
  exact ⟨v', w', exec_append ho hs hx hr, st.grown h2 h3 h4⟩

end Go.Proofs.Ytpolbpjclklgbaa
