/-
  The table of KraftKnown: what its region makes, whichever part comes first (written by wip/gen_open.py). No conditions.
-/
import Derived.Test.YtpolbpjclklgbaaKrC
import Derived.Test.YtpolbpjclklgbaaOpenB
namespace Go.Proofs.Ytpolbpjclklgbaa.kraftKnown
open Go Go.RowKit Go.Proofs.Ytpolbpjclklgbaa.Kraft

/-- Twenty, as far as it is laid. -/
def twTo (k : Nat) : List Nat := 20 :: (List.range k).map (· + 1)

theorem twTo_succ (k : Nat) : twTo (k + 1) = twTo k ++ [k + 1] := by simp [twTo, List.range_succ]
theorem twTo_length (k : Nat) : (twTo k).length = k + 1 := by simp [twTo]

/-- The cells of a struct. -/
def partsOf : Value → Array Value
  | .agg cs => cs
  | v => #[v]

/-- What the table's region makes. -/
def plan (gt cap : Nat) : Plan where
  fact i g := match i with
    | 0 => ∃ b, g 22 = .slice (some ⟨b, 0, none⟩) 2 2
    | 1 => g 23 = .agg #[g 22, .int .u8 0, .int .i64 0]
    | 2 => g 24 = .agg #[.slice none 0 0, .int .u8 0, .int .i64 0]
    | 3 => ∃ b, g 25 = .slice (some ⟨b, 0, none⟩) 1 1
    | 4 => g 26 = .agg #[g 25, .int .u8 1, .int .i64 0]
    | 5 => ∃ b, g 27 = .slice (some ⟨b, 0, none⟩) 2 2
    | 6 => g 28 = .agg #[g 27, .int .u8 2, .int .i64 0]
    | 7 => ∃ b, g 29 = .slice (some ⟨b, 0, none⟩) 3 3
    | 8 => g 30 = .agg #[g 29, .int .u8 3, .int .i64 0]
    | 9 => ∃ b, g 31 = .slice (some ⟨b, 0, none⟩) 1 1
    | 10 => g 32 = .agg #[g 31, .int .u8 0, .int .i64 5]
    | 11 => ∃ b, g 33 = .slice (some ⟨b, 0, none⟩) 513 513
    | 12 => g 34 = .agg #[g 33, .int .u8 0, .int .i64 5]
    | 13 => ∃ b, g 35 = .slice (some ⟨b, 0, none⟩) 512 512
    | 14 => g 36 = .agg #[g 35, .int .u8 0, .int .i64 0]
    | 15 => g 37 = .slice (some ⟨gt, 0, none⟩) 21 cap
    | 16 => g 38 = .agg #[g 37, .int .u8 2, .int .i64 0]
    | 17 => ∃ b, g 39 = .slice (some ⟨b, 0, none⟩) 0 0
    | 18 => g 40 = .slice (some ⟨gt, 0, none⟩) 21 cap
    | 19 => ∃ b c, g 41 = .slice (some ⟨b, 0, none⟩) 21 c
    | 20 => ∃ b, g 42 = .slice (some ⟨b, 0, none⟩) 1 1
    | 21 => ∃ b c, g 43 = .slice (some ⟨b, 0, none⟩) 22 c
    | 22 => g 44 = .agg #[g 43, .int .u8 3, .int .i64 0]
    | 23 => g 45 = .slice (some ⟨gt, 0, none⟩) 21 cap
    | 24 => g 46 = .slice (some ⟨gt, 1, none⟩) 20 (cap - 1)
    | 25 => g 47 = .agg #[g 46, .int .u8 1, .int .i64 0]
    | 26 => ∃ b, g 48 = .slice (some ⟨b, 0, none⟩) 11 11
    | 27 => g 3 = g 48
    | _ => True
  thing i g := match i with
    | 0 => rowT 5 1 (g 22) 2 (u8s [0, 0])
    | 3 => rowT 5 1 (g 25) 1 (u8s [1])
    | 5 => rowT 5 1 (g 27) 2 (u8s [1, 1])
    | 7 => rowT 5 1 (g 29) 3 (u8s [1, 1, 1])
    | 9 => rowT 5 1 (g 31) 1 (u8s [21])
    | 11 => rowT 5 1 (g 33) 513 (u8s (List.replicate 513 0))
    | 13 => rowT 5 1 (g 35) 512 (u8s (List.replicate 512 0))
    | 17 => rowT 5 1 (g 39) 0 (u8s [])
    | 19 => rowT 5 1 (g 41) 21 (u8s [] ++ u8s (twTo 20))
    | 20 => rowT 5 1 (g 42) 1 (u8s [20])
    | 21 => rowT 5 1 (g 43) 22 ((u8s [] ++ u8s (twTo 20)) ++ u8s [20])
    | 26 => blockT (g 48) 11 (partsOf (g 23) ++ partsOf (g 24) ++ partsOf (g 26) ++ partsOf (g 28) ++ partsOf (g 30) ++ partsOf (g 32) ++ partsOf (g 34) ++ partsOf (g 36) ++ partsOf (g 38) ++ partsOf (g 44) ++ partsOf (g 47)) 37
    | _ => factT True
  reads i := match i with
    | 0 => [22]
    | 1 => [23, 22]
    | 2 => [24]
    | 3 => [25]
    | 4 => [26, 25]
    | 5 => [27]
    | 6 => [28, 27]
    | 7 => [29]
    | 8 => [30, 29]
    | 9 => [31]
    | 10 => [32, 31]
    | 11 => [33]
    | 12 => [34, 33]
    | 13 => [35]
    | 14 => [36, 35]
    | 15 => [37]
    | 16 => [38, 37]
    | 17 => [39]
    | 18 => [40]
    | 19 => [41]
    | 20 => [42]
    | 21 => [43]
    | 22 => [44, 43]
    | 23 => [45]
    | 24 => [46]
    | 25 => [47, 46]
    | 26 => [48, 23, 24, 26, 28, 30, 32, 34, 36, 38, 44, 47]
    | 27 => [3, 48]
    | _ => []
  eats i := match i with
    | 19 => [17]
    | 21 => [19, 20]
    | _ => []

theorem plan_fact (gt cap : Nat) : ∀ i g g', (∀ t ∈ (plan gt cap).reads i, g t = g' t) → (plan gt cap).fact i g → (plan gt cap).fact i g'
  | 0, g, g', h, hf => by
    show ∃ b, g' 22 = .slice (some ⟨b, 0, none⟩) 2 2
    rw [← h 22 (show 22 ∈ ([22] : List Nat) by simp)]
    exact hf
  | 1, g, g', h, hf => by
    show g' 23 = .agg #[g' 22, .int .u8 0, .int .i64 0]
    rw [← h 23 (show 23 ∈ ([23, 22] : List Nat) by simp), ← h 22 (show 22 ∈ ([23, 22] : List Nat) by simp)]
    exact hf
  | 2, g, g', h, hf => by
    show g' 24 = .agg #[.slice none 0 0, .int .u8 0, .int .i64 0]
    rw [← h 24 (show 24 ∈ ([24] : List Nat) by simp)]
    exact hf
  | 3, g, g', h, hf => by
    show ∃ b, g' 25 = .slice (some ⟨b, 0, none⟩) 1 1
    rw [← h 25 (show 25 ∈ ([25] : List Nat) by simp)]
    exact hf
  | 4, g, g', h, hf => by
    show g' 26 = .agg #[g' 25, .int .u8 1, .int .i64 0]
    rw [← h 26 (show 26 ∈ ([26, 25] : List Nat) by simp), ← h 25 (show 25 ∈ ([26, 25] : List Nat) by simp)]
    exact hf
  | 5, g, g', h, hf => by
    show ∃ b, g' 27 = .slice (some ⟨b, 0, none⟩) 2 2
    rw [← h 27 (show 27 ∈ ([27] : List Nat) by simp)]
    exact hf
  | 6, g, g', h, hf => by
    show g' 28 = .agg #[g' 27, .int .u8 2, .int .i64 0]
    rw [← h 28 (show 28 ∈ ([28, 27] : List Nat) by simp), ← h 27 (show 27 ∈ ([28, 27] : List Nat) by simp)]
    exact hf
  | 7, g, g', h, hf => by
    show ∃ b, g' 29 = .slice (some ⟨b, 0, none⟩) 3 3
    rw [← h 29 (show 29 ∈ ([29] : List Nat) by simp)]
    exact hf
  | 8, g, g', h, hf => by
    show g' 30 = .agg #[g' 29, .int .u8 3, .int .i64 0]
    rw [← h 30 (show 30 ∈ ([30, 29] : List Nat) by simp), ← h 29 (show 29 ∈ ([30, 29] : List Nat) by simp)]
    exact hf
  | 9, g, g', h, hf => by
    show ∃ b, g' 31 = .slice (some ⟨b, 0, none⟩) 1 1
    rw [← h 31 (show 31 ∈ ([31] : List Nat) by simp)]
    exact hf
  | 10, g, g', h, hf => by
    show g' 32 = .agg #[g' 31, .int .u8 0, .int .i64 5]
    rw [← h 32 (show 32 ∈ ([32, 31] : List Nat) by simp), ← h 31 (show 31 ∈ ([32, 31] : List Nat) by simp)]
    exact hf
  | 11, g, g', h, hf => by
    show ∃ b, g' 33 = .slice (some ⟨b, 0, none⟩) 513 513
    rw [← h 33 (show 33 ∈ ([33] : List Nat) by simp)]
    exact hf
  | 12, g, g', h, hf => by
    show g' 34 = .agg #[g' 33, .int .u8 0, .int .i64 5]
    rw [← h 34 (show 34 ∈ ([34, 33] : List Nat) by simp), ← h 33 (show 33 ∈ ([34, 33] : List Nat) by simp)]
    exact hf
  | 13, g, g', h, hf => by
    show ∃ b, g' 35 = .slice (some ⟨b, 0, none⟩) 512 512
    rw [← h 35 (show 35 ∈ ([35] : List Nat) by simp)]
    exact hf
  | 14, g, g', h, hf => by
    show g' 36 = .agg #[g' 35, .int .u8 0, .int .i64 0]
    rw [← h 36 (show 36 ∈ ([36, 35] : List Nat) by simp), ← h 35 (show 35 ∈ ([36, 35] : List Nat) by simp)]
    exact hf
  | 15, g, g', h, hf => by
    show g' 37 = .slice (some ⟨gt, 0, none⟩) 21 cap
    rw [← h 37 (show 37 ∈ ([37] : List Nat) by simp)]
    exact hf
  | 16, g, g', h, hf => by
    show g' 38 = .agg #[g' 37, .int .u8 2, .int .i64 0]
    rw [← h 38 (show 38 ∈ ([38, 37] : List Nat) by simp), ← h 37 (show 37 ∈ ([38, 37] : List Nat) by simp)]
    exact hf
  | 17, g, g', h, hf => by
    show ∃ b, g' 39 = .slice (some ⟨b, 0, none⟩) 0 0
    rw [← h 39 (show 39 ∈ ([39] : List Nat) by simp)]
    exact hf
  | 18, g, g', h, hf => by
    show g' 40 = .slice (some ⟨gt, 0, none⟩) 21 cap
    rw [← h 40 (show 40 ∈ ([40] : List Nat) by simp)]
    exact hf
  | 19, g, g', h, hf => by
    show ∃ b c, g' 41 = .slice (some ⟨b, 0, none⟩) 21 c
    rw [← h 41 (show 41 ∈ ([41] : List Nat) by simp)]
    exact hf
  | 20, g, g', h, hf => by
    show ∃ b, g' 42 = .slice (some ⟨b, 0, none⟩) 1 1
    rw [← h 42 (show 42 ∈ ([42] : List Nat) by simp)]
    exact hf
  | 21, g, g', h, hf => by
    show ∃ b c, g' 43 = .slice (some ⟨b, 0, none⟩) 22 c
    rw [← h 43 (show 43 ∈ ([43] : List Nat) by simp)]
    exact hf
  | 22, g, g', h, hf => by
    show g' 44 = .agg #[g' 43, .int .u8 3, .int .i64 0]
    rw [← h 44 (show 44 ∈ ([44, 43] : List Nat) by simp), ← h 43 (show 43 ∈ ([44, 43] : List Nat) by simp)]
    exact hf
  | 23, g, g', h, hf => by
    show g' 45 = .slice (some ⟨gt, 0, none⟩) 21 cap
    rw [← h 45 (show 45 ∈ ([45] : List Nat) by simp)]
    exact hf
  | 24, g, g', h, hf => by
    show g' 46 = .slice (some ⟨gt, 1, none⟩) 20 (cap - 1)
    rw [← h 46 (show 46 ∈ ([46] : List Nat) by simp)]
    exact hf
  | 25, g, g', h, hf => by
    show g' 47 = .agg #[g' 46, .int .u8 1, .int .i64 0]
    rw [← h 47 (show 47 ∈ ([47, 46] : List Nat) by simp), ← h 46 (show 46 ∈ ([47, 46] : List Nat) by simp)]
    exact hf
  | 26, g, g', h, hf => by
    show ∃ b, g' 48 = .slice (some ⟨b, 0, none⟩) 11 11
    rw [← h 48 (show 48 ∈ ([48, 23, 24, 26, 28, 30, 32, 34, 36, 38, 44, 47] : List Nat) by simp)]
    exact hf
  | 27, g, g', h, hf => by
    show g' 3 = g' 48
    rw [← h 3 (show 3 ∈ ([3, 48] : List Nat) by simp), ← h 48 (show 48 ∈ ([3, 48] : List Nat) by simp)]
    exact hf
  | _ + 28, _, _, _, _ => trivial

theorem plan_thing (gt cap : Nat) : ∀ i g g', (∀ t ∈ (plan gt cap).reads i, g t = g' t) → (plan gt cap).thing i g = (plan gt cap).thing i g'
  | 0, g, g', h => by
    show rowT 5 1 (g 22) 2 (u8s [0, 0]) = rowT 5 1 (g' 22) 2 (u8s [0, 0])
    rw [h 22 (show 22 ∈ ([22] : List Nat) by simp)]
  | 1, g, g', h => rfl
  | 2, g, g', h => rfl
  | 3, g, g', h => by
    show rowT 5 1 (g 25) 1 (u8s [1]) = rowT 5 1 (g' 25) 1 (u8s [1])
    rw [h 25 (show 25 ∈ ([25] : List Nat) by simp)]
  | 4, g, g', h => rfl
  | 5, g, g', h => by
    show rowT 5 1 (g 27) 2 (u8s [1, 1]) = rowT 5 1 (g' 27) 2 (u8s [1, 1])
    rw [h 27 (show 27 ∈ ([27] : List Nat) by simp)]
  | 6, g, g', h => rfl
  | 7, g, g', h => by
    show rowT 5 1 (g 29) 3 (u8s [1, 1, 1]) = rowT 5 1 (g' 29) 3 (u8s [1, 1, 1])
    rw [h 29 (show 29 ∈ ([29] : List Nat) by simp)]
  | 8, g, g', h => rfl
  | 9, g, g', h => by
    show rowT 5 1 (g 31) 1 (u8s [21]) = rowT 5 1 (g' 31) 1 (u8s [21])
    rw [h 31 (show 31 ∈ ([31] : List Nat) by simp)]
  | 10, g, g', h => rfl
  | 11, g, g', h => by
    show rowT 5 1 (g 33) 513 (u8s (List.replicate 513 0)) = rowT 5 1 (g' 33) 513 (u8s (List.replicate 513 0))
    rw [h 33 (show 33 ∈ ([33] : List Nat) by simp)]
  | 12, g, g', h => rfl
  | 13, g, g', h => by
    show rowT 5 1 (g 35) 512 (u8s (List.replicate 512 0)) = rowT 5 1 (g' 35) 512 (u8s (List.replicate 512 0))
    rw [h 35 (show 35 ∈ ([35] : List Nat) by simp)]
  | 14, g, g', h => rfl
  | 15, g, g', h => rfl
  | 16, g, g', h => rfl
  | 17, g, g', h => by
    show rowT 5 1 (g 39) 0 (u8s []) = rowT 5 1 (g' 39) 0 (u8s [])
    rw [h 39 (show 39 ∈ ([39] : List Nat) by simp)]
  | 18, g, g', h => rfl
  | 19, g, g', h => by
    show rowT 5 1 (g 41) 21 (u8s [] ++ u8s (twTo 20)) = rowT 5 1 (g' 41) 21 (u8s [] ++ u8s (twTo 20))
    rw [h 41 (show 41 ∈ ([41] : List Nat) by simp)]
  | 20, g, g', h => by
    show rowT 5 1 (g 42) 1 (u8s [20]) = rowT 5 1 (g' 42) 1 (u8s [20])
    rw [h 42 (show 42 ∈ ([42] : List Nat) by simp)]
  | 21, g, g', h => by
    show rowT 5 1 (g 43) 22 ((u8s [] ++ u8s (twTo 20)) ++ u8s [20]) = rowT 5 1 (g' 43) 22 ((u8s [] ++ u8s (twTo 20)) ++ u8s [20])
    rw [h 43 (show 43 ∈ ([43] : List Nat) by simp)]
  | 22, g, g', h => rfl
  | 23, g, g', h => rfl
  | 24, g, g', h => rfl
  | 25, g, g', h => rfl
  | 26, g, g', h => by
    show blockT (g 48) 11 (partsOf (g 23) ++ partsOf (g 24) ++ partsOf (g 26) ++ partsOf (g 28) ++ partsOf (g 30) ++ partsOf (g 32) ++ partsOf (g 34) ++ partsOf (g 36) ++ partsOf (g 38) ++ partsOf (g 44) ++ partsOf (g 47)) 37 = blockT (g' 48) 11 (partsOf (g' 23) ++ partsOf (g' 24) ++ partsOf (g' 26) ++ partsOf (g' 28) ++ partsOf (g' 30) ++ partsOf (g' 32) ++ partsOf (g' 34) ++ partsOf (g' 36) ++ partsOf (g' 38) ++ partsOf (g' 44) ++ partsOf (g' 47)) 37
    rw [h 48 (show 48 ∈ ([48, 23, 24, 26, 28, 30, 32, 34, 36, 38, 44, 47] : List Nat) by simp), h 23 (show 23 ∈ ([48, 23, 24, 26, 28, 30, 32, 34, 36, 38, 44, 47] : List Nat) by simp), h 24 (show 24 ∈ ([48, 23, 24, 26, 28, 30, 32, 34, 36, 38, 44, 47] : List Nat) by simp), h 26 (show 26 ∈ ([48, 23, 24, 26, 28, 30, 32, 34, 36, 38, 44, 47] : List Nat) by simp), h 28 (show 28 ∈ ([48, 23, 24, 26, 28, 30, 32, 34, 36, 38, 44, 47] : List Nat) by simp), h 30 (show 30 ∈ ([48, 23, 24, 26, 28, 30, 32, 34, 36, 38, 44, 47] : List Nat) by simp), h 32 (show 32 ∈ ([48, 23, 24, 26, 28, 30, 32, 34, 36, 38, 44, 47] : List Nat) by simp), h 34 (show 34 ∈ ([48, 23, 24, 26, 28, 30, 32, 34, 36, 38, 44, 47] : List Nat) by simp), h 36 (show 36 ∈ ([48, 23, 24, 26, 28, 30, 32, 34, 36, 38, 44, 47] : List Nat) by simp), h 38 (show 38 ∈ ([48, 23, 24, 26, 28, 30, 32, 34, 36, 38, 44, 47] : List Nat) by simp), h 44 (show 44 ∈ ([48, 23, 24, 26, 28, 30, 32, 34, 36, 38, 44, 47] : List Nat) by simp), h 47 (show 47 ∈ ([48, 23, 24, 26, 28, 30, 32, 34, 36, 38, 44, 47] : List Nat) by simp)]
  | 27, g, g', h => rfl
  | _ + 28, _, _, _ => rfl

theorem slot_of {a : Act} {t : Nat} {v : Value} (h : slotsOf a t = v) : a.tmps[t]?.getD undef = v := by
  rw [← Array.getD_eq_getD_getElem?]
  exact h

theorem step0 (gt cap : Nat) {B : Nat} {w0 w : World} {a : Act} {rest : List Thing} {o : Oper} {ops : Array Oper} {Q : Exit → Act → World → Prop} (ho : ops[0]? = some o) (hop : o.op = .buildSlice 26 2 #[(0, .const (.int .u8 0)), (1, .const (.int .u8 0))]) (hg : o.guard = none) (hd : o.dst = some 22)
    (st : St B w0 w ((rowT 5 1 (.slice (some ⟨gt, 0, none⟩) 21 cap) 21 (u8s (twTo 20)) :: rest))) : wpOp Try.prog ops Q 0 (fun a' w' => ∃ v, a' = a.put (some 22) v ∧ (plan gt cap).fact 0 ((slotsOf a).put 22 v) ∧ St B w0 w' ((plan gt cap).thing 0 ((slotsOf a).put 22 v) :: (rowT 5 1 (.slice (some ⟨gt, 0, none⟩) 21 cap) 21 (u8s (twTo 20)) :: rest))) a w := by
  have hc : ∀ v, a.eval (.const v) = v := fun _ => rfl
  refine wpOp_value ho hg (v := .slice (some ⟨w.heap.size, 0, none⟩) 2 2) (w' := w.alloc (.cells #[.int .u8 0, .int .u8 0] 5)) (by unfold execOp; rw [hop]; go_simp) ?_
  rw [hd]
  exact ⟨_, rfl, ⟨w.heap.size, rfl⟩, St.lit st [0, 0] (by unfold maxLen; decide)⟩

theorem step1 (gt cap : Nat) {B : Nat} {w0 w : World} {a : Act} {rest : List Thing} {o : Oper} {ops : Array Oper} {Q : Exit → Act → World → Prop} (ho : ops[1]? = some o) (hop : o.op = .build 37 #[(0, .tmp 22), (1, .const (.int .u8 0)), (2, .const (.int .i64 0))]) (hg : o.guard = none) (hd : o.dst = some 23) (f0 : ∃ b, slotsOf a 22 = .slice (some ⟨b, 0, none⟩) 2 2)
    (st : St B w0 w ((rowT 5 1 (.slice (some ⟨gt, 0, none⟩) 21 cap) 21 (u8s (twTo 20)) :: rest))) : wpOp Try.prog ops Q 1 (fun a' w' => ∃ v, a' = a.put (some 23) v ∧ (plan gt cap).fact 1 ((slotsOf a).put 23 v) ∧ St B w0 w' ((plan gt cap).thing 1 ((slotsOf a).put 23 v) :: (rowT 5 1 (.slice (some ⟨gt, 0, none⟩) 21 cap) 21 (u8s (twTo 20)) :: rest))) a w := by
  have hc : ∀ v, a.eval (.const v) = v := fun _ => rfl
  obtain ⟨b, f0⟩ := f0
  have e0 := slot_of f0
  refine wpOp_value ho hg (v := .agg #[.slice (some ⟨b, 0, none⟩) 2 2, .int .u8 0, .int .i64 0]) (w' := w) (by unfold execOp; rw [hop]; go_simp) ?_
  rw [hd]
  refine ⟨_, rfl, ?_, st.addFact trivial⟩
  show Value.agg _ = Value.agg #[slotsOf a 22, _, _]
  rw [f0]

theorem step2 (gt cap : Nat) {B : Nat} {w0 w : World} {a : Act} {rest : List Thing} {o : Oper} {ops : Array Oper} {Q : Exit → Act → World → Prop} (ho : ops[2]? = some o) (hop : o.op = .build 37 #[(0, .const (.slice none 0 0)), (1, .const (.int .u8 0)), (2, .const (.int .i64 0))]) (hg : o.guard = none) (hd : o.dst = some 24)
    (st : St B w0 w ((rowT 5 1 (.slice (some ⟨gt, 0, none⟩) 21 cap) 21 (u8s (twTo 20)) :: rest))) : wpOp Try.prog ops Q 2 (fun a' w' => ∃ v, a' = a.put (some 24) v ∧ (plan gt cap).fact 2 ((slotsOf a).put 24 v) ∧ St B w0 w' ((plan gt cap).thing 2 ((slotsOf a).put 24 v) :: (rowT 5 1 (.slice (some ⟨gt, 0, none⟩) 21 cap) 21 (u8s (twTo 20)) :: rest))) a w := by
  have hc : ∀ v, a.eval (.const v) = v := fun _ => rfl
  refine wpOp_value ho hg (v := .agg #[.slice none 0 0, .int .u8 0, .int .i64 0]) (w' := w) (by unfold execOp; rw [hop]; go_simp) ?_
  rw [hd]
  exact ⟨_, rfl, rfl, st.addFact trivial⟩

theorem step3 (gt cap : Nat) {B : Nat} {w0 w : World} {a : Act} {rest : List Thing} {o : Oper} {ops : Array Oper} {Q : Exit → Act → World → Prop} (ho : ops[3]? = some o) (hop : o.op = .buildSlice 26 1 #[(0, .const (.int .u8 1))]) (hg : o.guard = none) (hd : o.dst = some 25)
    (st : St B w0 w ((rowT 5 1 (.slice (some ⟨gt, 0, none⟩) 21 cap) 21 (u8s (twTo 20)) :: rest))) : wpOp Try.prog ops Q 3 (fun a' w' => ∃ v, a' = a.put (some 25) v ∧ (plan gt cap).fact 3 ((slotsOf a).put 25 v) ∧ St B w0 w' ((plan gt cap).thing 3 ((slotsOf a).put 25 v) :: (rowT 5 1 (.slice (some ⟨gt, 0, none⟩) 21 cap) 21 (u8s (twTo 20)) :: rest))) a w := by
  have hc : ∀ v, a.eval (.const v) = v := fun _ => rfl
  refine wpOp_value ho hg (v := .slice (some ⟨w.heap.size, 0, none⟩) 1 1) (w' := w.alloc (.cells #[.int .u8 1] 5)) (by unfold execOp; rw [hop]; go_simp) ?_
  rw [hd]
  exact ⟨_, rfl, ⟨w.heap.size, rfl⟩, St.lit st [1] (by unfold maxLen; decide)⟩

theorem step4 (gt cap : Nat) {B : Nat} {w0 w : World} {a : Act} {rest : List Thing} {o : Oper} {ops : Array Oper} {Q : Exit → Act → World → Prop} (ho : ops[4]? = some o) (hop : o.op = .build 37 #[(0, .tmp 25), (1, .const (.int .u8 1)), (2, .const (.int .i64 0))]) (hg : o.guard = none) (hd : o.dst = some 26) (f3 : ∃ b, slotsOf a 25 = .slice (some ⟨b, 0, none⟩) 1 1)
    (st : St B w0 w ((rowT 5 1 (.slice (some ⟨gt, 0, none⟩) 21 cap) 21 (u8s (twTo 20)) :: rest))) : wpOp Try.prog ops Q 4 (fun a' w' => ∃ v, a' = a.put (some 26) v ∧ (plan gt cap).fact 4 ((slotsOf a).put 26 v) ∧ St B w0 w' ((plan gt cap).thing 4 ((slotsOf a).put 26 v) :: (rowT 5 1 (.slice (some ⟨gt, 0, none⟩) 21 cap) 21 (u8s (twTo 20)) :: rest))) a w := by
  have hc : ∀ v, a.eval (.const v) = v := fun _ => rfl
  obtain ⟨b, f3⟩ := f3
  have e3 := slot_of f3
  refine wpOp_value ho hg (v := .agg #[.slice (some ⟨b, 0, none⟩) 1 1, .int .u8 1, .int .i64 0]) (w' := w) (by unfold execOp; rw [hop]; go_simp) ?_
  rw [hd]
  refine ⟨_, rfl, ?_, st.addFact trivial⟩
  show Value.agg _ = Value.agg #[slotsOf a 25, _, _]
  rw [f3]

theorem step5 (gt cap : Nat) {B : Nat} {w0 w : World} {a : Act} {rest : List Thing} {o : Oper} {ops : Array Oper} {Q : Exit → Act → World → Prop} (ho : ops[5]? = some o) (hop : o.op = .buildSlice 26 2 #[(0, .const (.int .u8 1)), (1, .const (.int .u8 1))]) (hg : o.guard = none) (hd : o.dst = some 27)
    (st : St B w0 w ((rowT 5 1 (.slice (some ⟨gt, 0, none⟩) 21 cap) 21 (u8s (twTo 20)) :: rest))) : wpOp Try.prog ops Q 5 (fun a' w' => ∃ v, a' = a.put (some 27) v ∧ (plan gt cap).fact 5 ((slotsOf a).put 27 v) ∧ St B w0 w' ((plan gt cap).thing 5 ((slotsOf a).put 27 v) :: (rowT 5 1 (.slice (some ⟨gt, 0, none⟩) 21 cap) 21 (u8s (twTo 20)) :: rest))) a w := by
  have hc : ∀ v, a.eval (.const v) = v := fun _ => rfl
  refine wpOp_value ho hg (v := .slice (some ⟨w.heap.size, 0, none⟩) 2 2) (w' := w.alloc (.cells #[.int .u8 1, .int .u8 1] 5)) (by unfold execOp; rw [hop]; go_simp) ?_
  rw [hd]
  exact ⟨_, rfl, ⟨w.heap.size, rfl⟩, St.lit st [1, 1] (by unfold maxLen; decide)⟩

theorem step6 (gt cap : Nat) {B : Nat} {w0 w : World} {a : Act} {rest : List Thing} {o : Oper} {ops : Array Oper} {Q : Exit → Act → World → Prop} (ho : ops[6]? = some o) (hop : o.op = .build 37 #[(0, .tmp 27), (1, .const (.int .u8 2)), (2, .const (.int .i64 0))]) (hg : o.guard = none) (hd : o.dst = some 28) (f5 : ∃ b, slotsOf a 27 = .slice (some ⟨b, 0, none⟩) 2 2)
    (st : St B w0 w ((rowT 5 1 (.slice (some ⟨gt, 0, none⟩) 21 cap) 21 (u8s (twTo 20)) :: rest))) : wpOp Try.prog ops Q 6 (fun a' w' => ∃ v, a' = a.put (some 28) v ∧ (plan gt cap).fact 6 ((slotsOf a).put 28 v) ∧ St B w0 w' ((plan gt cap).thing 6 ((slotsOf a).put 28 v) :: (rowT 5 1 (.slice (some ⟨gt, 0, none⟩) 21 cap) 21 (u8s (twTo 20)) :: rest))) a w := by
  have hc : ∀ v, a.eval (.const v) = v := fun _ => rfl
  obtain ⟨b, f5⟩ := f5
  have e5 := slot_of f5
  refine wpOp_value ho hg (v := .agg #[.slice (some ⟨b, 0, none⟩) 2 2, .int .u8 2, .int .i64 0]) (w' := w) (by unfold execOp; rw [hop]; go_simp) ?_
  rw [hd]
  refine ⟨_, rfl, ?_, st.addFact trivial⟩
  show Value.agg _ = Value.agg #[slotsOf a 27, _, _]
  rw [f5]

theorem step7 (gt cap : Nat) {B : Nat} {w0 w : World} {a : Act} {rest : List Thing} {o : Oper} {ops : Array Oper} {Q : Exit → Act → World → Prop} (ho : ops[7]? = some o) (hop : o.op = .buildSlice 26 3 #[(0, .const (.int .u8 1)), (1, .const (.int .u8 1)), (2, .const (.int .u8 1))]) (hg : o.guard = none) (hd : o.dst = some 29)
    (st : St B w0 w ((rowT 5 1 (.slice (some ⟨gt, 0, none⟩) 21 cap) 21 (u8s (twTo 20)) :: rest))) : wpOp Try.prog ops Q 7 (fun a' w' => ∃ v, a' = a.put (some 29) v ∧ (plan gt cap).fact 7 ((slotsOf a).put 29 v) ∧ St B w0 w' ((plan gt cap).thing 7 ((slotsOf a).put 29 v) :: (rowT 5 1 (.slice (some ⟨gt, 0, none⟩) 21 cap) 21 (u8s (twTo 20)) :: rest))) a w := by
  have hc : ∀ v, a.eval (.const v) = v := fun _ => rfl
  refine wpOp_value ho hg (v := .slice (some ⟨w.heap.size, 0, none⟩) 3 3) (w' := w.alloc (.cells #[.int .u8 1, .int .u8 1, .int .u8 1] 5)) (by unfold execOp; rw [hop]; go_simp) ?_
  rw [hd]
  exact ⟨_, rfl, ⟨w.heap.size, rfl⟩, St.lit st [1, 1, 1] (by unfold maxLen; decide)⟩

theorem step8 (gt cap : Nat) {B : Nat} {w0 w : World} {a : Act} {rest : List Thing} {o : Oper} {ops : Array Oper} {Q : Exit → Act → World → Prop} (ho : ops[8]? = some o) (hop : o.op = .build 37 #[(0, .tmp 29), (1, .const (.int .u8 3)), (2, .const (.int .i64 0))]) (hg : o.guard = none) (hd : o.dst = some 30) (f7 : ∃ b, slotsOf a 29 = .slice (some ⟨b, 0, none⟩) 3 3)
    (st : St B w0 w ((rowT 5 1 (.slice (some ⟨gt, 0, none⟩) 21 cap) 21 (u8s (twTo 20)) :: rest))) : wpOp Try.prog ops Q 8 (fun a' w' => ∃ v, a' = a.put (some 30) v ∧ (plan gt cap).fact 8 ((slotsOf a).put 30 v) ∧ St B w0 w' ((plan gt cap).thing 8 ((slotsOf a).put 30 v) :: (rowT 5 1 (.slice (some ⟨gt, 0, none⟩) 21 cap) 21 (u8s (twTo 20)) :: rest))) a w := by
  have hc : ∀ v, a.eval (.const v) = v := fun _ => rfl
  obtain ⟨b, f7⟩ := f7
  have e7 := slot_of f7
  refine wpOp_value ho hg (v := .agg #[.slice (some ⟨b, 0, none⟩) 3 3, .int .u8 3, .int .i64 0]) (w' := w) (by unfold execOp; rw [hop]; go_simp) ?_
  rw [hd]
  refine ⟨_, rfl, ?_, st.addFact trivial⟩
  show Value.agg _ = Value.agg #[slotsOf a 29, _, _]
  rw [f7]

theorem step9 (gt cap : Nat) {B : Nat} {w0 w : World} {a : Act} {rest : List Thing} {o : Oper} {ops : Array Oper} {Q : Exit → Act → World → Prop} (ho : ops[9]? = some o) (hop : o.op = .buildSlice 26 1 #[(0, .const (.int .u8 21))]) (hg : o.guard = none) (hd : o.dst = some 31)
    (st : St B w0 w ((rowT 5 1 (.slice (some ⟨gt, 0, none⟩) 21 cap) 21 (u8s (twTo 20)) :: rest))) : wpOp Try.prog ops Q 9 (fun a' w' => ∃ v, a' = a.put (some 31) v ∧ (plan gt cap).fact 9 ((slotsOf a).put 31 v) ∧ St B w0 w' ((plan gt cap).thing 9 ((slotsOf a).put 31 v) :: (rowT 5 1 (.slice (some ⟨gt, 0, none⟩) 21 cap) 21 (u8s (twTo 20)) :: rest))) a w := by
  have hc : ∀ v, a.eval (.const v) = v := fun _ => rfl
  refine wpOp_value ho hg (v := .slice (some ⟨w.heap.size, 0, none⟩) 1 1) (w' := w.alloc (.cells #[.int .u8 21] 5)) (by unfold execOp; rw [hop]; go_simp) ?_
  rw [hd]
  exact ⟨_, rfl, ⟨w.heap.size, rfl⟩, St.lit st [21] (by unfold maxLen; decide)⟩

theorem step10 (gt cap : Nat) {B : Nat} {w0 w : World} {a : Act} {rest : List Thing} {o : Oper} {ops : Array Oper} {Q : Exit → Act → World → Prop} (ho : ops[10]? = some o) (hop : o.op = .build 37 #[(0, .tmp 31), (1, .const (.int .u8 0)), (2, .const (.int .i64 5))]) (hg : o.guard = none) (hd : o.dst = some 32) (f9 : ∃ b, slotsOf a 31 = .slice (some ⟨b, 0, none⟩) 1 1)
    (st : St B w0 w ((rowT 5 1 (.slice (some ⟨gt, 0, none⟩) 21 cap) 21 (u8s (twTo 20)) :: rest))) : wpOp Try.prog ops Q 10 (fun a' w' => ∃ v, a' = a.put (some 32) v ∧ (plan gt cap).fact 10 ((slotsOf a).put 32 v) ∧ St B w0 w' ((plan gt cap).thing 10 ((slotsOf a).put 32 v) :: (rowT 5 1 (.slice (some ⟨gt, 0, none⟩) 21 cap) 21 (u8s (twTo 20)) :: rest))) a w := by
  have hc : ∀ v, a.eval (.const v) = v := fun _ => rfl
  obtain ⟨b, f9⟩ := f9
  have e9 := slot_of f9
  refine wpOp_value ho hg (v := .agg #[.slice (some ⟨b, 0, none⟩) 1 1, .int .u8 0, .int .i64 5]) (w' := w) (by unfold execOp; rw [hop]; go_simp) ?_
  rw [hd]
  refine ⟨_, rfl, ?_, st.addFact trivial⟩
  show Value.agg _ = Value.agg #[slotsOf a 31, _, _]
  rw [f9]

theorem step11 (gt cap : Nat) {B : Nat} {w0 w : World} {a : Act} {rest : List Thing} {o : Oper} {ops : Array Oper} {Q : Exit → Act → World → Prop} (ho : ops[11]? = some o) (hop : o.op = .makeSlice 26 (.const (.int .i64 513)) (.const (.int .i64 513))) (hg : o.guard = none) (hd : o.dst = some 33)
    (st : St B w0 w ((rowT 5 1 (.slice (some ⟨gt, 0, none⟩) 21 cap) 21 (u8s (twTo 20)) :: rest))) : wpOp Try.prog ops Q 11 (fun a' w' => ∃ v, a' = a.put (some 33) v ∧ (plan gt cap).fact 11 ((slotsOf a).put 33 v) ∧ St B w0 w' ((plan gt cap).thing 11 ((slotsOf a).put 33 v) :: (rowT 5 1 (.slice (some ⟨gt, 0, none⟩) 21 cap) 21 (u8s (twTo 20)) :: rest))) a w := by
  have hc : ∀ v, a.eval (.const v) = v := fun _ => rfl
  obtain ⟨w', hr, s1⟩ := make_step st hop 513 (hc _) (hc _) (by omega)
  refine wpOp_value ho hg hr ?_
  rw [hd]
  exact ⟨_, rfl, ⟨w.heap.size, rfl⟩, s1⟩

theorem step12 (gt cap : Nat) {B : Nat} {w0 w : World} {a : Act} {rest : List Thing} {o : Oper} {ops : Array Oper} {Q : Exit → Act → World → Prop} (ho : ops[12]? = some o) (hop : o.op = .build 37 #[(0, .tmp 33), (1, .const (.int .u8 0)), (2, .const (.int .i64 5))]) (hg : o.guard = none) (hd : o.dst = some 34) (f11 : ∃ b, slotsOf a 33 = .slice (some ⟨b, 0, none⟩) 513 513)
    (st : St B w0 w ((rowT 5 1 (.slice (some ⟨gt, 0, none⟩) 21 cap) 21 (u8s (twTo 20)) :: rest))) : wpOp Try.prog ops Q 12 (fun a' w' => ∃ v, a' = a.put (some 34) v ∧ (plan gt cap).fact 12 ((slotsOf a).put 34 v) ∧ St B w0 w' ((plan gt cap).thing 12 ((slotsOf a).put 34 v) :: (rowT 5 1 (.slice (some ⟨gt, 0, none⟩) 21 cap) 21 (u8s (twTo 20)) :: rest))) a w := by
  have hc : ∀ v, a.eval (.const v) = v := fun _ => rfl
  obtain ⟨b, f11⟩ := f11
  have e11 := slot_of f11
  refine wpOp_value ho hg (v := .agg #[.slice (some ⟨b, 0, none⟩) 513 513, .int .u8 0, .int .i64 5]) (w' := w) (by unfold execOp; rw [hop]; go_simp) ?_
  rw [hd]
  refine ⟨_, rfl, ?_, st.addFact trivial⟩
  show Value.agg _ = Value.agg #[slotsOf a 33, _, _]
  rw [f11]

theorem step13 (gt cap : Nat) {B : Nat} {w0 w : World} {a : Act} {rest : List Thing} {o : Oper} {ops : Array Oper} {Q : Exit → Act → World → Prop} (ho : ops[13]? = some o) (hop : o.op = .makeSlice 26 (.const (.int .i64 512)) (.const (.int .i64 512))) (hg : o.guard = none) (hd : o.dst = some 35)
    (st : St B w0 w ((rowT 5 1 (.slice (some ⟨gt, 0, none⟩) 21 cap) 21 (u8s (twTo 20)) :: rest))) : wpOp Try.prog ops Q 13 (fun a' w' => ∃ v, a' = a.put (some 35) v ∧ (plan gt cap).fact 13 ((slotsOf a).put 35 v) ∧ St B w0 w' ((plan gt cap).thing 13 ((slotsOf a).put 35 v) :: (rowT 5 1 (.slice (some ⟨gt, 0, none⟩) 21 cap) 21 (u8s (twTo 20)) :: rest))) a w := by
  have hc : ∀ v, a.eval (.const v) = v := fun _ => rfl
  obtain ⟨w', hr, s1⟩ := make_step st hop 512 (hc _) (hc _) (by omega)
  refine wpOp_value ho hg hr ?_
  rw [hd]
  exact ⟨_, rfl, ⟨w.heap.size, rfl⟩, s1⟩

theorem step14 (gt cap : Nat) {B : Nat} {w0 w : World} {a : Act} {rest : List Thing} {o : Oper} {ops : Array Oper} {Q : Exit → Act → World → Prop} (ho : ops[14]? = some o) (hop : o.op = .build 37 #[(0, .tmp 35), (1, .const (.int .u8 0)), (2, .const (.int .i64 0))]) (hg : o.guard = none) (hd : o.dst = some 36) (f13 : ∃ b, slotsOf a 35 = .slice (some ⟨b, 0, none⟩) 512 512)
    (st : St B w0 w ((rowT 5 1 (.slice (some ⟨gt, 0, none⟩) 21 cap) 21 (u8s (twTo 20)) :: rest))) : wpOp Try.prog ops Q 14 (fun a' w' => ∃ v, a' = a.put (some 36) v ∧ (plan gt cap).fact 14 ((slotsOf a).put 36 v) ∧ St B w0 w' ((plan gt cap).thing 14 ((slotsOf a).put 36 v) :: (rowT 5 1 (.slice (some ⟨gt, 0, none⟩) 21 cap) 21 (u8s (twTo 20)) :: rest))) a w := by
  have hc : ∀ v, a.eval (.const v) = v := fun _ => rfl
  obtain ⟨b, f13⟩ := f13
  have e13 := slot_of f13
  refine wpOp_value ho hg (v := .agg #[.slice (some ⟨b, 0, none⟩) 512 512, .int .u8 0, .int .i64 0]) (w' := w) (by unfold execOp; rw [hop]; go_simp) ?_
  rw [hd]
  refine ⟨_, rfl, ?_, st.addFact trivial⟩
  show Value.agg _ = Value.agg #[slotsOf a 35, _, _]
  rw [f13]

theorem step15 (gt cap : Nat) {B : Nat} {w0 w : World} {a : Act} {rest : List Thing} {o : Oper} {ops : Array Oper} {Q : Exit → Act → World → Prop} (ho : ops[15]? = some o) (hop : o.op = .move (.tmp 1)) (hg : o.guard = none) (hd : o.dst = some 37) (h1 : slotsOf a 1 = .slice (some ⟨gt, 0, none⟩) 21 cap)
    (st : St B w0 w ((rowT 5 1 (.slice (some ⟨gt, 0, none⟩) 21 cap) 21 (u8s (twTo 20)) :: rest))) : wpOp Try.prog ops Q 15 (fun a' w' => ∃ v, a' = a.put (some 37) v ∧ (plan gt cap).fact 15 ((slotsOf a).put 37 v) ∧ St B w0 w' ((plan gt cap).thing 15 ((slotsOf a).put 37 v) :: (rowT 5 1 (.slice (some ⟨gt, 0, none⟩) 21 cap) 21 (u8s (twTo 20)) :: rest))) a w := by
  refine wpOp_value ho hg (v := slotsOf a 1) (w' := w) (by unfold execOp; rw [hop]; rfl) ?_
  rw [hd]
  exact ⟨_, rfl, h1, st.addFact trivial⟩

theorem step16 (gt cap : Nat) {B : Nat} {w0 w : World} {a : Act} {rest : List Thing} {o : Oper} {ops : Array Oper} {Q : Exit → Act → World → Prop} (ho : ops[16]? = some o) (hop : o.op = .build 37 #[(0, .tmp 37), (1, .const (.int .u8 2)), (2, .const (.int .i64 0))]) (hg : o.guard = none) (hd : o.dst = some 38) (f15 : slotsOf a 37 = .slice (some ⟨gt, 0, none⟩) 21 cap)
    (st : St B w0 w ((rowT 5 1 (.slice (some ⟨gt, 0, none⟩) 21 cap) 21 (u8s (twTo 20)) :: rest))) : wpOp Try.prog ops Q 16 (fun a' w' => ∃ v, a' = a.put (some 38) v ∧ (plan gt cap).fact 16 ((slotsOf a).put 38 v) ∧ St B w0 w' ((plan gt cap).thing 16 ((slotsOf a).put 38 v) :: (rowT 5 1 (.slice (some ⟨gt, 0, none⟩) 21 cap) 21 (u8s (twTo 20)) :: rest))) a w := by
  have hc : ∀ v, a.eval (.const v) = v := fun _ => rfl
  have e15 := slot_of f15
  refine wpOp_value ho hg (v := .agg #[.slice (some ⟨gt, 0, none⟩) 21 cap, .int .u8 2, .int .i64 0]) (w' := w) (by unfold execOp; rw [hop]; go_simp) ?_
  rw [hd]
  refine ⟨_, rfl, ?_, st.addFact trivial⟩
  show Value.agg _ = Value.agg #[slotsOf a 37, _, _]
  rw [f15]

theorem step17 (gt cap : Nat) {B : Nat} {w0 w : World} {a : Act} {rest : List Thing} {o : Oper} {ops : Array Oper} {Q : Exit → Act → World → Prop} (ho : ops[17]? = some o) (hop : o.op = .buildSlice 26 0 #[]) (hg : o.guard = none) (hd : o.dst = some 39)
    (st : St B w0 w ((rowT 5 1 (.slice (some ⟨gt, 0, none⟩) 21 cap) 21 (u8s (twTo 20)) :: rest))) : wpOp Try.prog ops Q 17 (fun a' w' => ∃ v, a' = a.put (some 39) v ∧ (plan gt cap).fact 17 ((slotsOf a).put 39 v) ∧ St B w0 w' ((plan gt cap).thing 17 ((slotsOf a).put 39 v) :: (rowT 5 1 (.slice (some ⟨gt, 0, none⟩) 21 cap) 21 (u8s (twTo 20)) :: rest))) a w := by
  have hc : ∀ v, a.eval (.const v) = v := fun _ => rfl
  refine wpOp_value ho hg (v := .slice (some ⟨w.heap.size, 0, none⟩) 0 0) (w' := w.alloc (.cells #[] 5)) (by unfold execOp; rw [hop]; go_simp) ?_
  rw [hd]
  exact ⟨_, rfl, ⟨w.heap.size, rfl⟩, St.lit st [] (by unfold maxLen; decide)⟩

theorem step18 (gt cap : Nat) {B : Nat} {w0 w : World} {a : Act} {rest : List Thing} {o : Oper} {ops : Array Oper} {Q : Exit → Act → World → Prop} (ho : ops[18]? = some o) (hop : o.op = .move (.tmp 1)) (hg : o.guard = none) (hd : o.dst = some 40) (h1 : slotsOf a 1 = .slice (some ⟨gt, 0, none⟩) 21 cap)
    (st : St B w0 w ((rowT 5 1 (.slice (some ⟨gt, 0, none⟩) 21 cap) 21 (u8s (twTo 20)) :: rest))) : wpOp Try.prog ops Q 18 (fun a' w' => ∃ v, a' = a.put (some 40) v ∧ (plan gt cap).fact 18 ((slotsOf a).put 40 v) ∧ St B w0 w' ((plan gt cap).thing 18 ((slotsOf a).put 40 v) :: (rowT 5 1 (.slice (some ⟨gt, 0, none⟩) 21 cap) 21 (u8s (twTo 20)) :: rest))) a w := by
  refine wpOp_value ho hg (v := slotsOf a 1) (w' := w) (by unfold execOp; rw [hop]; rfl) ?_
  rw [hd]
  exact ⟨_, rfl, h1, st.addFact trivial⟩

theorem step19 (gt cap : Nat) {B : Nat} {w0 w : World} {a : Act} {rest : List Thing} {o : Oper} {ops : Array Oper} {Q : Exit → Act → World → Prop} (ho : ops[19]? = some o) (hop : o.op = .call { callee := .builtin .append, args := #[.tmp 39, .tmp 40], argTypes := #[26, 26] }) (hg : o.guard = none) (hd : o.dst = some 41) (f18 : slotsOf a 40 = .slice (some ⟨gt, 0, none⟩) 21 cap)
    (st : St B w0 w (rowT 5 1 (slotsOf a 39) 0 (u8s []) :: (rowT 5 1 (.slice (some ⟨gt, 0, none⟩) 21 cap) 21 (u8s (twTo 20)) :: rest))) : wpOp Try.prog ops Q 19 (fun a' w' => ∃ v, a' = a.put (some 41) v ∧ (plan gt cap).fact 19 ((slotsOf a).put 41 v) ∧ St B w0 w' ((plan gt cap).thing 19 ((slotsOf a).put 41 v) :: (rowT 5 1 (.slice (some ⟨gt, 0, none⟩) 21 cap) 21 (u8s (twTo 20)) :: rest))) a w := by
  obtain ⟨v', w', hr, s1⟩ := append_step st hop rfl gt 21 cap f18 (twTo 20) rfl (st.swap.row.cells (g := gt) rfl) (by omega)
  refine wpOp_value ho hg hr ?_
  rw [hd]
  obtain ⟨b, c, e, -⟩ := s1.rowShape (by omega)
  exact ⟨_, rfl, ⟨b, c, e⟩, s1⟩

theorem step20 (gt cap : Nat) {B : Nat} {w0 w : World} {a : Act} {rest : List Thing} {o : Oper} {ops : Array Oper} {Q : Exit → Act → World → Prop} (ho : ops[20]? = some o) (hop : o.op = .buildSlice 26 1 #[(0, .const (.int .u8 20))]) (hg : o.guard = none) (hd : o.dst = some 42)
    (st : St B w0 w ((rowT 5 1 (.slice (some ⟨gt, 0, none⟩) 21 cap) 21 (u8s (twTo 20)) :: rest))) : wpOp Try.prog ops Q 20 (fun a' w' => ∃ v, a' = a.put (some 42) v ∧ (plan gt cap).fact 20 ((slotsOf a).put 42 v) ∧ St B w0 w' ((plan gt cap).thing 20 ((slotsOf a).put 42 v) :: (rowT 5 1 (.slice (some ⟨gt, 0, none⟩) 21 cap) 21 (u8s (twTo 20)) :: rest))) a w := by
  have hc : ∀ v, a.eval (.const v) = v := fun _ => rfl
  refine wpOp_value ho hg (v := .slice (some ⟨w.heap.size, 0, none⟩) 1 1) (w' := w.alloc (.cells #[.int .u8 20] 5)) (by unfold execOp; rw [hop]; go_simp) ?_
  rw [hd]
  exact ⟨_, rfl, ⟨w.heap.size, rfl⟩, St.lit st [20] (by unfold maxLen; decide)⟩

theorem step21 (gt cap : Nat) {B : Nat} {w0 w : World} {a : Act} {rest : List Thing} {o : Oper} {ops : Array Oper} {Q : Exit → Act → World → Prop} (ho : ops[21]? = some o) (hop : o.op = .call { callee := .builtin .append, args := #[.tmp 41, .tmp 42], argTypes := #[26, 26] }) (hg : o.guard = none) (hd : o.dst = some 43) (f20 : ∃ b, slotsOf a 42 = .slice (some ⟨b, 0, none⟩) 1 1)
    (st : St B w0 w (rowT 5 1 (slotsOf a 41) 21 (u8s [] ++ u8s (twTo 20)) :: rowT 5 1 (slotsOf a 42) 1 (u8s [20]) :: (rowT 5 1 (.slice (some ⟨gt, 0, none⟩) 21 cap) 21 (u8s (twTo 20)) :: rest))) : wpOp Try.prog ops Q 21 (fun a' w' => ∃ v, a' = a.put (some 43) v ∧ (plan gt cap).fact 21 ((slotsOf a).put 43 v) ∧ St B w0 w' ((plan gt cap).thing 21 ((slotsOf a).put 43 v) :: (rowT 5 1 (.slice (some ⟨gt, 0, none⟩) 21 cap) 21 (u8s (twTo 20)) :: rest))) a w := by
  obtain ⟨b, f20⟩ := f20
  have st2 := st
  rw [f20] at st2
  obtain ⟨v', w', hr, s1⟩ := append_step st2 hop rfl b 1 1 f20 [20] rfl (st2.swap.row.cells (g := b) rfl) (by omega)
  refine wpOp_value ho hg hr ?_
  rw [hd]
  obtain ⟨b2, c, e, -⟩ := s1.rowShape (by omega)
  exact ⟨_, rfl, ⟨b2, c, e⟩, s1.swap.drop⟩

theorem step22 (gt cap : Nat) {B : Nat} {w0 w : World} {a : Act} {rest : List Thing} {o : Oper} {ops : Array Oper} {Q : Exit → Act → World → Prop} (ho : ops[22]? = some o) (hop : o.op = .build 37 #[(0, .tmp 43), (1, .const (.int .u8 3)), (2, .const (.int .i64 0))]) (hg : o.guard = none) (hd : o.dst = some 44) (f21 : ∃ b c, slotsOf a 43 = .slice (some ⟨b, 0, none⟩) 22 c)
    (st : St B w0 w ((rowT 5 1 (.slice (some ⟨gt, 0, none⟩) 21 cap) 21 (u8s (twTo 20)) :: rest))) : wpOp Try.prog ops Q 22 (fun a' w' => ∃ v, a' = a.put (some 44) v ∧ (plan gt cap).fact 22 ((slotsOf a).put 44 v) ∧ St B w0 w' ((plan gt cap).thing 22 ((slotsOf a).put 44 v) :: (rowT 5 1 (.slice (some ⟨gt, 0, none⟩) 21 cap) 21 (u8s (twTo 20)) :: rest))) a w := by
  have hc : ∀ v, a.eval (.const v) = v := fun _ => rfl
  obtain ⟨b, c, f21⟩ := f21
  have e21 := slot_of f21
  refine wpOp_value ho hg (v := .agg #[.slice (some ⟨b, 0, none⟩) 22 c, .int .u8 3, .int .i64 0]) (w' := w) (by unfold execOp; rw [hop]; go_simp) ?_
  rw [hd]
  refine ⟨_, rfl, ?_, st.addFact trivial⟩
  show Value.agg _ = Value.agg #[slotsOf a 43, _, _]
  rw [f21]

theorem step23 (gt cap : Nat) {B : Nat} {w0 w : World} {a : Act} {rest : List Thing} {o : Oper} {ops : Array Oper} {Q : Exit → Act → World → Prop} (ho : ops[23]? = some o) (hop : o.op = .move (.tmp 1)) (hg : o.guard = none) (hd : o.dst = some 45) (h1 : slotsOf a 1 = .slice (some ⟨gt, 0, none⟩) 21 cap)
    (st : St B w0 w ((rowT 5 1 (.slice (some ⟨gt, 0, none⟩) 21 cap) 21 (u8s (twTo 20)) :: rest))) : wpOp Try.prog ops Q 23 (fun a' w' => ∃ v, a' = a.put (some 45) v ∧ (plan gt cap).fact 23 ((slotsOf a).put 45 v) ∧ St B w0 w' ((plan gt cap).thing 23 ((slotsOf a).put 45 v) :: (rowT 5 1 (.slice (some ⟨gt, 0, none⟩) 21 cap) 21 (u8s (twTo 20)) :: rest))) a w := by
  refine wpOp_value ho hg (v := slotsOf a 1) (w' := w) (by unfold execOp; rw [hop]; rfl) ?_
  rw [hd]
  exact ⟨_, rfl, h1, st.addFact trivial⟩

theorem step24 (gt cap : Nat) {B : Nat} {w0 w : World} {a : Act} {rest : List Thing} {o : Oper} {ops : Array Oper} {Q : Exit → Act → World → Prop} (ho : ops[24]? = some o) (hop : o.op = .slice 26 (.tmp 45) (some (.const (.int .i64 1))) none none) (hg : o.guard = none) (hd : o.dst = some 46) (f23 : slotsOf a 45 = .slice (some ⟨gt, 0, none⟩) 21 cap) (hcap : 21 ≤ cap)
    (st : St B w0 w ((rowT 5 1 (.slice (some ⟨gt, 0, none⟩) 21 cap) 21 (u8s (twTo 20)) :: rest))) : wpOp Try.prog ops Q 24 (fun a' w' => ∃ v, a' = a.put (some 46) v ∧ (plan gt cap).fact 24 ((slotsOf a).put 46 v) ∧ St B w0 w' ((plan gt cap).thing 24 ((slotsOf a).put 46 v) :: (rowT 5 1 (.slice (some ⟨gt, 0, none⟩) 21 cap) 21 (u8s (twTo 20)) :: rest))) a w := by
  have hc : ∀ v, a.eval (.const v) = v := fun _ => rfl
  have e23 := slot_of f23
  have hcap1 : ¬ cap = 1 := by omega
  refine wpOp_value ho hg (v := .slice (some ⟨gt, 1, none⟩) 20 (cap - 1)) (w' := w) (by unfold execOp; rw [hop]; go_simp) ?_
  rw [hd]
  exact ⟨_, rfl, rfl, st.addFact trivial⟩

theorem step25 (gt cap : Nat) {B : Nat} {w0 w : World} {a : Act} {rest : List Thing} {o : Oper} {ops : Array Oper} {Q : Exit → Act → World → Prop} (ho : ops[25]? = some o) (hop : o.op = .build 37 #[(0, .tmp 46), (1, .const (.int .u8 1)), (2, .const (.int .i64 0))]) (hg : o.guard = none) (hd : o.dst = some 47) (f24 : slotsOf a 46 = .slice (some ⟨gt, 1, none⟩) 20 (cap - 1))
    (st : St B w0 w ((rowT 5 1 (.slice (some ⟨gt, 0, none⟩) 21 cap) 21 (u8s (twTo 20)) :: rest))) : wpOp Try.prog ops Q 25 (fun a' w' => ∃ v, a' = a.put (some 47) v ∧ (plan gt cap).fact 25 ((slotsOf a).put 47 v) ∧ St B w0 w' ((plan gt cap).thing 25 ((slotsOf a).put 47 v) :: (rowT 5 1 (.slice (some ⟨gt, 0, none⟩) 21 cap) 21 (u8s (twTo 20)) :: rest))) a w := by
  have hc : ∀ v, a.eval (.const v) = v := fun _ => rfl
  have e24 := slot_of f24
  refine wpOp_value ho hg (v := .agg #[.slice (some ⟨gt, 1, none⟩) 20 (cap - 1), .int .u8 1, .int .i64 0]) (w' := w) (by unfold execOp; rw [hop]; go_simp) ?_
  rw [hd]
  refine ⟨_, rfl, ?_, st.addFact trivial⟩
  show Value.agg _ = Value.agg #[slotsOf a 46, _, _]
  rw [f24]

set_option maxRecDepth 100000 in
theorem ev (x0 x1 x2 x3 x4 x5 x6 x7 x8 x9 x10 : Value) (w : World) : (Instr.buildSlice 38 11 #[(0, .agg #[x0, .int .u8 0, .int .i64 0]), (1, .agg #[x1, .int .u8 0, .int .i64 0]), (2, .agg #[x2, .int .u8 1, .int .i64 0]), (3, .agg #[x3, .int .u8 2, .int .i64 0]), (4, .agg #[x4, .int .u8 3, .int .i64 0]), (5, .agg #[x5, .int .u8 0, .int .i64 5]), (6, .agg #[x6, .int .u8 0, .int .i64 5]), (7, .agg #[x7, .int .u8 0, .int .i64 0]), (8, .agg #[x8, .int .u8 2, .int .i64 0]), (9, .agg #[x9, .int .u8 3, .int .i64 0]), (10, .agg #[x10, .int .u8 1, .int .i64 0])]).run Try.prog w = .ok (.slice (some ⟨w.heap.size, 0, none⟩) 11 11) (w.alloc (.cells #[x0, .int .u8 0, .int .i64 0, x1, .int .u8 0, .int .i64 0, x2, .int .u8 1, .int .i64 0, x3, .int .u8 2, .int .i64 0, x4, .int .u8 3, .int .i64 0, x5, .int .u8 0, .int .i64 5, x6, .int .u8 0, .int .i64 5, x7, .int .u8 0, .int .i64 0, x8, .int .u8 2, .int .i64 0, x9, .int .u8 3, .int .i64 0, x10, .int .u8 1, .int .i64 0] 37)) := by
  kernel_rfl

set_option maxRecDepth 100000 in
set_option maxHeartbeats 4000000 in
theorem step26 (gt cap : Nat) {B : Nat} {w0 w : World} {a : Act} {rest : List Thing} {o : Oper} {ops : Array Oper} {Q : Exit → Act → World → Prop} (ho : ops[26]? = some o) (hop : o.op = .buildSlice 38 11 #[(0, .tmp 23), (1, .tmp 24), (2, .tmp 26), (3, .tmp 28), (4, .tmp 30), (5, .tmp 32), (6, .tmp 34), (7, .tmp 36), (8, .tmp 38), (9, .tmp 44), (10, .tmp 47)]) (hg : o.guard = none) (hd : o.dst = some 48) (f1 : slotsOf a 23 = .agg #[slotsOf a 22, .int .u8 0, .int .i64 0]) (f2 : slotsOf a 24 = .agg #[.slice none 0 0, .int .u8 0, .int .i64 0]) (f4 : slotsOf a 26 = .agg #[slotsOf a 25, .int .u8 1, .int .i64 0]) (f6 : slotsOf a 28 = .agg #[slotsOf a 27, .int .u8 2, .int .i64 0]) (f8 : slotsOf a 30 = .agg #[slotsOf a 29, .int .u8 3, .int .i64 0]) (f10 : slotsOf a 32 = .agg #[slotsOf a 31, .int .u8 0, .int .i64 5]) (f12 : slotsOf a 34 = .agg #[slotsOf a 33, .int .u8 0, .int .i64 5]) (f14 : slotsOf a 36 = .agg #[slotsOf a 35, .int .u8 0, .int .i64 0]) (f16 : slotsOf a 38 = .agg #[slotsOf a 37, .int .u8 2, .int .i64 0]) (f22 : slotsOf a 44 = .agg #[slotsOf a 43, .int .u8 3, .int .i64 0]) (f25 : slotsOf a 47 = .agg #[slotsOf a 46, .int .u8 1, .int .i64 0])
    (st : St B w0 w ((rowT 5 1 (.slice (some ⟨gt, 0, none⟩) 21 cap) 21 (u8s (twTo 20)) :: rest))) : wpOp Try.prog ops Q 26 (fun a' w' => ∃ v, a' = a.put (some 48) v ∧ (plan gt cap).fact 26 ((slotsOf a).put 48 v) ∧ St B w0 w' ((plan gt cap).thing 26 ((slotsOf a).put 48 v) :: (rowT 5 1 (.slice (some ⟨gt, 0, none⟩) 21 cap) 21 (u8s (twTo 20)) :: rest))) a w := by
  have e := ev (slotsOf a 22) (.slice none 0 0) (slotsOf a 25) (slotsOf a 27) (slotsOf a 29) (slotsOf a 31) (slotsOf a 33) (slotsOf a 35) (slotsOf a 37) (slotsOf a 43) (slotsOf a 46) w
  refine wpOp_value ho hg (v := .slice (some ⟨w.heap.size, 0, none⟩) 11 11) (w' := w.alloc (.cells #[slotsOf a 22, .int .u8 0, .int .i64 0, .slice none 0 0, .int .u8 0, .int .i64 0, slotsOf a 25, .int .u8 1, .int .i64 0, slotsOf a 27, .int .u8 2, .int .i64 0, slotsOf a 29, .int .u8 3, .int .i64 0, slotsOf a 31, .int .u8 0, .int .i64 5, slotsOf a 33, .int .u8 0, .int .i64 5, slotsOf a 35, .int .u8 0, .int .i64 0, slotsOf a 37, .int .u8 2, .int .i64 0, slotsOf a 43, .int .u8 3, .int .i64 0, slotsOf a 46, .int .u8 1, .int .i64 0] 37)) ?run ?_
  case run =>
    unfold execOp
    rw [hop]
    simp only [List.map_toArray, List.map_cons, List.map_nil, show a.eval (.tmp 23) = _ from f1, show a.eval (.tmp 24) = _ from f2, show a.eval (.tmp 26) = _ from f4, show a.eval (.tmp 28) = _ from f6, show a.eval (.tmp 30) = _ from f8, show a.eval (.tmp 32) = _ from f10, show a.eval (.tmp 34) = _ from f12, show a.eval (.tmp 36) = _ from f14, show a.eval (.tmp 38) = _ from f16, show a.eval (.tmp 44) = _ from f22, show a.eval (.tmp 47) = _ from f25, Sem.run_bind, e, Result.andThen_ok, Sem.run_pure]
  rw [hd]
  refine ⟨_, rfl, ⟨w.heap.size, rfl⟩, ?_⟩
  have hcs : partsOf (slotsOf a 23) ++ partsOf (slotsOf a 24) ++ partsOf (slotsOf a 26) ++ partsOf (slotsOf a 28) ++ partsOf (slotsOf a 30) ++ partsOf (slotsOf a 32) ++ partsOf (slotsOf a 34) ++ partsOf (slotsOf a 36) ++ partsOf (slotsOf a 38) ++ partsOf (slotsOf a 44) ++ partsOf (slotsOf a 47) = #[slotsOf a 22, .int .u8 0, .int .i64 0, .slice none 0 0, .int .u8 0, .int .i64 0, slotsOf a 25, .int .u8 1, .int .i64 0, slotsOf a 27, .int .u8 2, .int .i64 0, slotsOf a 29, .int .u8 3, .int .i64 0, slotsOf a 31, .int .u8 0, .int .i64 5, slotsOf a 33, .int .u8 0, .int .i64 5, slotsOf a 35, .int .u8 0, .int .i64 0, slotsOf a 37, .int .u8 2, .int .i64 0, slotsOf a 43, .int .u8 3, .int .i64 0, slotsOf a 46, .int .u8 1, .int .i64 0] := by simp only [f1, f2, f4, f6, f8, f10, f12, f14, f16, f22, f25, partsOf, List.append_toArray, List.cons_append, List.nil_append]
  show St B w0 _ (blockT _ 11 (partsOf (slotsOf a 23) ++ partsOf (slotsOf a 24) ++ partsOf (slotsOf a 26) ++ partsOf (slotsOf a 28) ++ partsOf (slotsOf a 30) ++ partsOf (slotsOf a 32) ++ partsOf (slotsOf a 34) ++ partsOf (slotsOf a 36) ++ partsOf (slotsOf a 38) ++ partsOf (slotsOf a 44) ++ partsOf (slotsOf a 47)) _ :: _)
  rw [hcs]
  exact st.addBlock 11 _ _

theorem step27 (gt cap : Nat) {B : Nat} {w0 w : World} {a : Act} {rest : List Thing} {o : Oper} {ops : Array Oper} {Q : Exit → Act → World → Prop} (ho : ops[27]? = some o) (hop : o.op = .assign (.tmp 48)) (hg : o.guard = none) (hd : o.dst = some 3)
    (st : St B w0 w ((rowT 5 1 (.slice (some ⟨gt, 0, none⟩) 21 cap) 21 (u8s (twTo 20)) :: rest))) : wpOp Try.prog ops Q 27 (fun a' w' => ∃ v, a' = a.put (some 3) v ∧ (plan gt cap).fact 27 ((slotsOf a).put 3 v) ∧ St B w0 w' ((plan gt cap).thing 27 ((slotsOf a).put 3 v) :: (rowT 5 1 (.slice (some ⟨gt, 0, none⟩) 21 cap) 21 (u8s (twTo 20)) :: rest))) a w := by
  refine wpOp_value ho hg (v := slotsOf a 48) (w' := w) (by unfold execOp; rw [hop]; rfl) ?_
  rw [hd]
  exact ⟨_, rfl, rfl, st.addFact trivial⟩


end Go.Proofs.Ytpolbpjclklgbaa.kraftKnown
