/-
  KraftKnown: what its calls of Words and Single answer, plain facts; its frame behind the table. No conditions.
-/
import Derived.Test.YtpolbpjclklgbaaKraftKnownT
namespace Go.Proofs.Ytpolbpjclklgbaa.kraftKnown
open Go Go.RowKit Go.Proofs.Ytpolbpjclklgbaa.Kraft

theorem dropAll {B : Nat} {w0 w : World} {r : List Thing} : ∀ {l : List Thing}, St B w0 w (l ++ r) → St B w0 w r
  | [], h => h
  | _ :: _, h => dropAll (St.drop h)

theorem err_111 : wordsErr [1, 1, 1] = 2 := by decide +kernel
theorem err_21 : wordsErr [21] = 5 := by decide +kernel
theorem err_20 : wordsErr (twTo 20) = 0 := by decide +kernel
theorem at_1 : word (twTo 20) 1 = 0 := by decide +kernel
theorem at_20 : word (twTo 20) 20 = 1048575 := by decide +kernel
theorem at_0 : word (twTo 20) 0 = 1048574 := by decide +kernel
theorem one_0 : single [] = false := by decide +kernel
theorem one_2 : single [1, 1] = false := by decide +kernel
theorem one_1 : single [1] = true := by decide +kernel

theorem words_bad {B : Nat} {w0 w : World} {r : List Thing} (st : St B w0 w r) (L : List Nat) (n : Nat) (he : wordsErr L = n) (hb : ∀ x ∈ L, x < 256) (hl : L.length ≤ 1000) :
    Calls Try.prog 12 #[.slice (some ⟨w.heap.size, 0, none⟩) L.length L.length] (w.alloc (.cells (u8s L).toArray 5)) fun e w' => ∃ v', e = .returned (.tuple #[v', .int .i64 (n : Int)]) ∧ St B w0 w' r := by
  refine (words_st (st.alloc (.cells (u8s L).toArray 5)) _ L (byteRow_lit w L (0, 0) hb) (by omega)).mono ?_
  rintro e w' ⟨v', h1, h2⟩
  rw [he] at h1
  exact ⟨v', h1, h2.drop⟩

theorem words_twenty {B : Nat} {w0 w : World} {r : List Thing} {v : Value} (st : St B w0 w (rowT 5 1 v 21 (u8s (twTo 20)) :: r)) :
    Calls Try.prog 12 #[v] w fun e w' => ∃ g c, e = .returned (.tuple #[.slice (some ⟨g, 0, none⟩) 21 c, .int .i64 0]) ∧ w'.cell? ⟨g, 1, none⟩ = some (.int .u32 0) ∧ w'.cell? ⟨g, 20, none⟩ = some (.int .u32 1048575) ∧ w'.cell? ⟨g, 0, none⟩ = some (.int .u32 1048574) ∧ St B w0 w' r := by
  refine (words_st st v (twTo 20) (byteRow_n st.row (twTo_length 20) twTo_byte) (by rw [twTo_length]; omega)).mono ?_
  rintro e w' ⟨v', h1, h2⟩
  have e0 : wordsOf (twTo 20) = words (twTo 20) := by unfold wordsOf; rw [if_pos err_20]
  have e1 : (words (twTo 20)).length = 21 := by rw [words_length, twTo_length]
  rw [err_20] at h1
  rw [e0, e1] at h2
  obtain ⟨g, c, rfl, -⟩ := h2.rowShape (by omega)
  refine ⟨g, c, h1, ?_, ?_, ?_, h2.drop.drop⟩
  · rw [h2.row.cellAt 1 (by omega), u32s_get _ _ (by omega), words_at, at_1]; rfl
  · rw [h2.row.cellAt 20 (by omega), u32s_get _ _ (by omega), words_at, at_20]; rfl
  · rw [h2.row.cellAt 0 (by omega), u32s_get _ _ (by omega), words_at, at_0]; rfl

theorem act_range {a : Act} {n : Nat} (h : a.tmps.size = n) : a.tmps = ((List.range n).map (slotsOf a)).toArray := by
  refine Array.ext (by simp [h]) fun i h1 h2 => ?_
  simp [slotsOf, Array.getD, h1]

theorem act_lit {a : Act} (h : a.tmps.size = 139) (hd : a.defers = []) (f : Slots) (hf : slotsOf a = f) : a = { tmps := (f 0 :: f 1 :: f 2 :: f 3 :: f 4 :: f 5 :: f 6 :: f 7 :: f 8 :: f 9 :: f 10 :: f 11 :: f 12 :: f 13 :: f 14 :: f 15 :: f 16 :: f 17 :: f 18 :: f 19 :: f 20 :: f 21 :: f 22 :: f 23 :: f 24 :: f 25 :: f 26 :: f 27 :: f 28 :: f 29 :: f 30 :: f 31 :: f 32 :: f 33 :: f 34 :: f 35 :: f 36 :: f 37 :: f 38 :: f 39 :: f 40 :: f 41 :: f 42 :: f 43 :: f 44 :: f 45 :: f 46 :: f 47 :: f 48 :: f 49 :: f 50 :: f 51 :: f 52 :: f 53 :: f 54 :: f 55 :: f 56 :: f 57 :: f 58 :: f 59 :: f 60 :: f 61 :: f 62 :: f 63 :: f 64 :: f 65 :: f 66 :: f 67 :: f 68 :: f 69 :: f 70 :: f 71 :: f 72 :: f 73 :: f 74 :: f 75 :: f 76 :: f 77 :: f 78 :: f 79 :: f 80 :: f 81 :: f 82 :: f 83 :: f 84 :: f 85 :: f 86 :: f 87 :: f 88 :: f 89 :: f 90 :: f 91 :: f 92 :: f 93 :: f 94 :: f 95 :: f 96 :: f 97 :: f 98 :: f 99 :: f 100 :: f 101 :: f 102 :: f 103 :: f 104 :: f 105 :: f 106 :: f 107 :: f 108 :: f 109 :: f 110 :: f 111 :: f 112 :: f 113 :: f 114 :: f 115 :: f 116 :: f 117 :: f 118 :: f 119 :: f 120 :: f 121 :: f 122 :: f 123 :: f 124 :: f 125 :: f 126 :: f 127 :: f 128 :: f 129 :: f 130 :: f 131 :: f 132 :: f 133 :: f 134 :: f 135 :: f 136 :: f 137 :: f 138 :: []).toArray, defers := [] } := by
  obtain ⟨t, d⟩ := a
  subst hd
  have e := act_range h
  rw [hf] at e
  have e2 : t = ((List.range 139).map f).toArray := e
  rw [e2]
  rfl

end Go.Proofs.Ytpolbpjclklgbaa.kraftKnown
