/-
  What the chapter's examples say. No conditions.
-/
import Derived.Test.YtpinfihmageeoaaGreatFrZ
import Derived.Lib.ConvBytes
namespace Go.Proofs.YtpinfihmageeoaaGreat.Fr
open Go.RowKit Crc

def hKa : Gz := ⟨false, 0, 0, 255, [], [], [], 0, false⟩
def hKb : Gz := ⟨true, 16909060, 5, 6, [120, 121], [110], [99, 99], 7, true⟩
def hKc : Gz := ⟨false, 0, 0, 1, [], [], [], 7, false⟩
theorem hKa_fits : Fits hKa := ⟨by decide, by decide, by decide, by decide, by decide, by decide, by decide⟩
theorem hKb_fits : Fits hKb := ⟨by decide, by decide, by decide, by decide, by decide, by decide, by decide⟩
theorem hKc_fits : Fits hKc := ⟨by decide, by decide, by decide, by decide, by decide, by decide, by decide⟩
theorem hKa_may : may hKa = true := by decide
theorem hKb_may : may hKb = true := by decide
theorem hKc_may : may hKc = true := by decide
theorem hKa_bytes : bytesOf hKa = [31, 139, 8, 0, 0, 0, 0, 0, 0, 255] := by decide +kernel
theorem hKc_bytes : bytesOf hKc = [31, 139, 8, 28, 0, 0, 0, 0, 0, 1, 0, 0, 0, 0] := by decide +kernel
theorem hKb_bytes : ∃ x y, x < 256 ∧ y < 256 ∧ bytesOf hKb = [31, 139, 8, 31, 4, 3, 2, 1, 5, 6, 2, 0, 120, 121, 110, 0, 99, 99, 0, x, y] := by
  have h8 : laid hKb 8 = [31, 139, 8, 31, 4, 3, 2, 1, 5, 6, 2, 0, 120, 121, 110, 0, 99, 99, 0] := by decide +kernel
  refine ⟨lowSum (laid hKb 8) % 256, lowSum (laid hKb 8) / 256 % 256, by omega, by omega, ?_⟩
  rw [bytes_sum rfl, h8]
  rfl
theorem strKa : strOf [31, 139, 8, 0, 0, 0, 0, 0, 0, 255] = ⟨#[31, 139, 8, 0, 0, 0, 0, 0, 0, 255]⟩ := by decide
theorem strKc : strOf [31, 139, 8, 28, 0, 0, 0, 0, 0, 1, 0, 0, 0, 0] = ⟨#[31, 139, 8, 28, 0, 0, 0, 0, 0, 1, 0, 0, 0, 0]⟩ := by decide

theorem strOf_append (a b : List Nat) : strOf (a ++ b) = strOf a ++ strOf b := by
  apply ByteArray.ext
  rw [ByteArray.data_append, strOf_data, strOf_data, strOf_data, List.map_append]
  simp

theorem strKb (x : Nat) : strOf [31, 139, 8, 31, 4, 3, 2, 1, 5, 6, 2, 0, 120, 121, 110, 0, 99, 99, 0, x] = ⟨#[31, 139, 8, 31, 4, 3, 2, 1, 5, 6, 2, 0, 120, 121, 110, 0, 99, 99, 0]⟩ ++ strOf [x] := by
  rw [show (⟨#[31, 139, 8, 31, 4, 3, 2, 1, 5, 6, 2, 0, 120, 121, 110, 0, 99, 99, 0]⟩ : ByteArray) = strOf [31, 139, 8, 31, 4, 3, 2, 1, 5, 6, 2, 0, 120, 121, 110, 0, 99, 99, 0] from by decide, ← strOf_append]
  rfl

/-- The heads that may not be. -/
def hBad : Nat → Gz
  | 0 => ⟨false, 0, 0, 0, [], [], [], 8, false⟩
  | 1 => ⟨false, 0, 0, 0, [120], [], [], 0, false⟩
  | 2 => ⟨false, 0, 0, 0, [], [120], [], 0, false⟩
  | 3 => ⟨false, 0, 0, 0, [], [], [120], 0, false⟩
  | 4 => ⟨false, 0, 0, 0, [], [97, 0], [], 2, false⟩
  | 5 => ⟨false, 0, 0, 0, [], [], [0], 4, false⟩
  | _ => ⟨false, 0, 0, 0, List.replicate 65536 0, [], [], 1, false⟩

theorem bad_big : Fits ⟨false, 0, 0, 0, List.replicate 65536 0, [], [], 1, false⟩ ∧ may ⟨false, 0, 0, 0, List.replicate 65536 0, [], [], 1, false⟩ = false := by
  refine ⟨⟨by decide, by decide, by decide, by decide, fun x hx => by rw [List.eq_of_mem_replicate hx]; omega, by decide, by decide⟩, ?_⟩
  cases h : may ⟨false, 0, 0, 0, List.replicate 65536 0, [], [], 1, false⟩ with
  | false => rfl
  | true =>
    have := ((may_iff _).1 h).2.1
    simp only [List.length_replicate] at this
    omega

def hFull : Gz := ⟨false, 0, 0, 0, List.replicate 65535 0, [], [], 1, false⟩
theorem full_fits : Fits hFull := ⟨by decide, by decide, by decide, by decide, fun x hx => by rw [List.eq_of_mem_replicate hx]; omega, by decide, by decide⟩
theorem full_may : may hFull = true := by
  refine (may_iff _).2 ⟨by decide, ?_, .inl (by decide), ⟨by decide, .inr rfl⟩, by decide, .inr rfl⟩
  show (List.replicate 65535 0).length ≤ 65535
  rw [List.length_replicate]
  exact Nat.le_refl _
theorem full_len : (bytesOf hFull).length = 65547 := by
  have e : bytesOf hFull = [31, 139, 8] ++ [flagsOf hFull] ++ le 4 0 ++ [0] ++ [0] ++ (le 2 (List.replicate 65535 0).length ++ List.replicate 65535 0) ++ [] ++ [] ++ [] := rfl
  rw [e]
  simp only [List.length_append, le_length, List.length_replicate, List.length_cons, List.length_nil]

/-- Bytes that begin with no head. -/
def noL : Nat → List Nat
  | 0 => []
  | 1 => [31, 139, 8, 32, 0, 0, 0, 0, 0, 0]
  | 2 => [31, 139, 7, 0, 0, 0, 0, 0, 0, 0]
  | 3 => [30, 139, 8, 0, 0, 0, 0, 0, 0, 0]
  | 4 => [31, 139, 8, 0, 0, 0, 0, 0, 0]
  | 5 => [31, 139, 8, 4, 0, 0, 0, 0, 0, 0, 1]
  | 6 => [31, 139, 8, 4, 0, 0, 0, 0, 0, 0, 1, 0]
  | 7 => [31, 139, 8, 8, 0, 0, 0, 0, 0, 0, 97]
  | 8 => [31, 139, 8, 2, 0, 0, 0, 0, 0, 0, 97]
  | _ => [31, 139, 8, 128, 0, 0, 0, 0, 0, 0]
theorem noL_none : ∀ k, k < 10 → get (noL k) = none := by decide +kernel
theorem noL_byte : ∀ k, k < 10 → ∀ x ∈ noL k, x < 256 := by decide
theorem noL_len : ∀ k, k < 10 → (noL k).length ≤ 1000 := by decide

theorem zero_tail : tailOf [] = List.replicate 8 0 := by decide +kernel

section
variable {B : Nat} {w0 w : World} {r : List Thing}

theorem made11 {w' : World} {n : Nat} (h : St B w0 w r) (hown : w'.ownsRow w.heap.size 5 1 (.slice (some ⟨w.heap.size, 0, none⟩) n n) n (madeCells #[Value.int .u8 0] n).toList) (hg : w.grownBy w' none) :
    St B w0 w' (bytesT w.heap.size n (List.replicate n 0) :: r) := by
  rw [toList_madeCells_one, show List.replicate n (Value.int .u8 0) = u8s (List.replicate n 0) from by simp [u8s]] at hown
  exact h.addRow ((Below.refl w.heap.size w).grown hg (Nat.le_refl _) (by simp)) hown

/-- 'make([]byte, n)' where it is wanted. -/
theorem wpList_make11 {ops : Array Oper} {rest : List Oper} {o : Oper} {a : Act} {Q : Exit → Act → World → Prop} (hw : Region.wanted o (yielded ops a.tmps) = true) (n : Nat)
    (hop : o.op = Op.makeSlice 26 (.const (.int .i64 (n : Int))) (.const (.int .i64 (n : Int)))) (hn : n ≤ 100000) {zs : List Nat} (hzs : Hid (zs = List.replicate n 0))
    (st : St B w0 w r)
    (h : ∀ w', St B w0 w' (bytesT w.heap.size n zs :: r) → wpList Tryz.prog ops Q rest (a.put o.dst (.slice (some ⟨w.heap.size, 0, none⟩) n n)) w') : wpList Tryz.prog ops Q (o :: rest) a w := by
  rw [hzs.out] at h
  obtain ⟨i0, hi, hz0, hz1, hz2⟩ := info_parts info8
  refine BigFrame.wpList_want hw fun K hK => ?_
  obtain ⟨w', hrun, r1, r2⟩ := run_make_full (P := Tryz.prog) w w.heap.size 26 5 i0 (.int .u8 0) 1 Tryz.underlying26 hi hz0 hz1 .i64 .i64 n (by rw [hz2]; omega) (by unfold maxLen; omega) (Nat.le_refl _)
  rw [Nat.mul_one] at r1
  have s := made11 (n := n) st r1 r2
  unfold Oper.wp
  simp [execOp, hop, Act.eval, hrun, Result.andThen]
  exact hK _ _ (h w' s)
end

end Go.Proofs.YtpinfihmageeoaaGreat.Fr
