/-
  The eleven examples of KraftKnown, plain facts; and: what a state holds, each of its things holds. No conditions.
-/
import Derived.Test.YtpolbpjclklgbaaKraftKnownP
namespace Go.Proofs.Ytpolbpjclklgbaa.kraftKnown
open Go Go.RowKit Go.Proofs.Ytpolbpjclklgbaa.Kraft

/-- Each thing of a state is there. -/
theorem sep_has {w : World} {A : Thing} : ∀ {l : List Thing} {S : Nat → Prop}, Sep w l S → A ∈ l → ∃ S', A.holds w S'
  | [], _, _, hm => absurd hm (by simp)
  | _ :: _, _, h, hm => by
    obtain ⟨S1, h1, h2, h3⟩ := h
    rcases List.mem_cons.1 hm with rfl | hm
    · exact ⟨S1, h1⟩
    · exact sep_has h3 hm

theorem has {B : Nat} {w0 w : World} {l : List Thing} {A : Thing} (st : St B w0 w l) (hm : A ∈ l) : ∃ S, A.holds w S := sep_has st.sep hm

theorem hasRow {B : Nat} {w0 w : World} {l : List Thing} {e : TypeId} {size n : Nat} {v : Value} {xs : List Value} (st : St B w0 w l) (hm : rowT e size v n xs ∈ l) : w.ownsRow 0 e size v n xs := by
  obtain ⟨S, h⟩ := has st hm
  exact h.1

/-- The examples: lengths, class, error. -/
def examples : List (List Nat × Int × Int) := [([0, 0], 0, 0), ([], 0, 0), ([1], 1, 0), ([1, 1], 2, 0), ([1, 1, 1], 3, 0), ([21], 0, 5), (List.replicate 513 0, 0, 5), (List.replicate 512 0, 0, 0), (twTo 20, 2, 0), (twTo 20 ++ [20], 3, 0), ((twTo 20).drop 1, 1, 0)]

theorem examples_length : examples.length = 11 := rfl

theorem examples_class : ∀ x ∈ examples, classAns x.1 = .tuple #[.int .u8 x.2.1, .int .i64 x.2.2] := by
  intro x hx
  simp only [examples, List.mem_cons, List.not_mem_nil, or_false] at hx
  rcases hx with rfl | rfl | rfl | rfl | rfl | rfl | rfl | rfl | rfl | rfl | rfl <;> kernel_rfl

theorem byteRow_n {w : World} {base n : Nat} {v : Value} {xs : List Nat} (h : w.ownsRow base 5 1 v n (u8s xs)) (hn : xs.length = n) (hb : ∀ x ∈ xs, x < 256) : ByteRow w v xs := by
  subst hn; exact byteRow_owns h hb

theorem byteRow_tail {w : World} {g cap : Nat} {xs : List Nat} {n : Nat} (hn : xs.length = n + 1) (h : ByteRow w (.slice (some ⟨g, 0, none⟩) (n + 1) cap) xs) : ByteRow w (.slice (some ⟨g, 1, none⟩) n (cap - 1)) (xs.drop 1) := by
  obtain ⟨a, c, e, h1, h2, h3⟩ := h
  obtain ⟨rfl, e2, rfl⟩ := Value.slice.inj e
  have hl : (xs.drop 1).length = n := by rw [List.length_drop]; omega
  refine ⟨some ⟨g, 1, none⟩, cap - 1, by rw [hl], by omega, (fun e => by cases e), fun i hi => ?_⟩
  rw [List.getElem_drop]
  obtain ⟨hb, b, off, e3, hc⟩ := h3 (1 + i) (by omega)
  obtain ⟨rfl, rfl, -⟩ := Addr.mk.inj (Option.some.inj e3)
  refine ⟨hb, g, 1, rfl, ?_⟩
  rw [Nat.zero_add] at hc
  exact hc

theorem twTo_byte : ∀ x ∈ twTo 20, x < 256 := by decide

/-- What the table reads as. -/
theorem table_of {B gt cap : Nat} {w0 w2 : World} {l : List Thing} (f : Slots) (hf : ∀ j, j < 28 → (plan gt cap).fact j f) (st : St B w0 w2 l)
    (hth : ∀ j ∈ [0, 3, 5, 7, 9, 11, 13, 21, 26], (plan gt cap).thing j f ∈ l) (ht : rowT 5 1 (.slice (some ⟨gt, 0, none⟩) 21 cap) 21 (u8s (twTo 20)) ∈ l) :
    ∃ b, f 3 = .slice (some ⟨b, 0, none⟩) 11 11 ∧ ∀ (k : Nat) (h : k < 11), ∃ u, w2.cell? ⟨b, 3 * k, none⟩ = some u ∧ ByteRow w2 u (examples[k]'h).1 ∧
      w2.cell? ⟨b, 3 * k + 1, none⟩ = some (.int .u8 (examples[k]'h).2.1) ∧ w2.cell? ⟨b, 3 * k + 2, none⟩ = some (.int .i64 (examples[k]'h).2.2) := by
  have e23 : f 23 = .agg #[f 22, .int .u8 0, .int .i64 0] := hf 1 (by omega)
  have e24 : f 24 = .agg #[.slice none 0 0, .int .u8 0, .int .i64 0] := hf 2 (by omega)
  have e26 : f 26 = .agg #[f 25, .int .u8 1, .int .i64 0] := hf 4 (by omega)
  have e28 : f 28 = .agg #[f 27, .int .u8 2, .int .i64 0] := hf 6 (by omega)
  have e30 : f 30 = .agg #[f 29, .int .u8 3, .int .i64 0] := hf 8 (by omega)
  have e32 : f 32 = .agg #[f 31, .int .u8 0, .int .i64 5] := hf 10 (by omega)
  have e34 : f 34 = .agg #[f 33, .int .u8 0, .int .i64 5] := hf 12 (by omega)
  have e36 : f 36 = .agg #[f 35, .int .u8 0, .int .i64 0] := hf 14 (by omega)
  have e37 : f 37 = .slice (some ⟨gt, 0, none⟩) 21 cap := hf 15 (by omega)
  have e38 : f 38 = .agg #[f 37, .int .u8 2, .int .i64 0] := hf 16 (by omega)
  have e44 : f 44 = .agg #[f 43, .int .u8 3, .int .i64 0] := hf 22 (by omega)
  have e46 : f 46 = .slice (some ⟨gt, 1, none⟩) 20 (cap - 1) := hf 24 (by omega)
  have e47 : f 47 = .agg #[f 46, .int .u8 1, .int .i64 0] := hf 25 (by omega)
  have e3 : f 3 = f 48 := hf 27 (by omega)
  have r0 : ByteRow w2 (f 22) [0, 0] := byteRow_n (hasRow st (hth 0 (by simp))) rfl (by decide)
  have r2 : ByteRow w2 (f 25) [1] := byteRow_n (hasRow st (hth 3 (by simp))) rfl (by decide)
  have r3 : ByteRow w2 (f 27) [1, 1] := byteRow_n (hasRow st (hth 5 (by simp))) rfl (by decide)
  have r4 : ByteRow w2 (f 29) [1, 1, 1] := byteRow_n (hasRow st (hth 7 (by simp))) rfl (by decide)
  have r5 : ByteRow w2 (f 31) [21] := byteRow_n (hasRow st (hth 9 (by simp))) rfl (by decide)
  have r6 : ByteRow w2 (f 33) (List.replicate 513 0) := byteRow_n (hasRow st (hth 11 (by simp))) List.length_replicate (fun x hx => by rw [(List.mem_replicate.1 hx).2]; omega)
  have r7 : ByteRow w2 (f 35) (List.replicate 512 0) := byteRow_n (hasRow st (hth 13 (by simp))) List.length_replicate (fun x hx => by rw [(List.mem_replicate.1 hx).2]; omega)
  have r8 : ByteRow w2 (f 37) (twTo 20) := by rw [e37]; exact byteRow_n (hasRow st ht) (twTo_length 20) twTo_byte
  have r9 : ByteRow w2 (f 43) (twTo 20 ++ [20]) := byteRow_n (xs := twTo 20 ++ [20]) (by
    have := hasRow st (e := 5) (size := 1) (n := 22) (v := f 43) (xs := (u8s [] ++ u8s (twTo 20)) ++ u8s [20]) (hth 21 (by simp))
    rw [u8s_append]
    exact this) rfl (by decide)
  have r10 : ByteRow w2 (f 46) ((twTo 20).drop 1) := by
    rw [e46]
    rw [e37] at r8
    exact byteRow_tail (twTo_length 20) r8
  have r1 : ByteRow w2 (.slice none 0 0) [] := ⟨none, 0, rfl, Nat.le_refl _, fun _ => rfl, fun i hi => absurd hi (by simp)⟩
  have hS : ∃ S, (blockT (f 48) 11 (partsOf (f 23) ++ partsOf (f 24) ++ partsOf (f 26) ++ partsOf (f 28) ++ partsOf (f 30) ++ partsOf (f 32) ++ partsOf (f 34) ++ partsOf (f 36) ++ partsOf (f 38) ++ partsOf (f 44) ++ partsOf (f 47)) 37).holds w2 S := has st (hth 26 (by simp))
  obtain ⟨S, b, h1, h2, -⟩ := hS
  have hcs : partsOf (f 23) ++ partsOf (f 24) ++ partsOf (f 26) ++ partsOf (f 28) ++ partsOf (f 30) ++ partsOf (f 32) ++ partsOf (f 34) ++ partsOf (f 36) ++ partsOf (f 38) ++ partsOf (f 44) ++ partsOf (f 47) = #[f 22, .int .u8 0, .int .i64 0, .slice none 0 0, .int .u8 0, .int .i64 0, f 25, .int .u8 1, .int .i64 0, f 27, .int .u8 2, .int .i64 0, f 29, .int .u8 3, .int .i64 0, f 31, .int .u8 0, .int .i64 5, f 33, .int .u8 0, .int .i64 5, f 35, .int .u8 0, .int .i64 0, f 37, .int .u8 2, .int .i64 0, f 43, .int .u8 3, .int .i64 0, f 46, .int .u8 1, .int .i64 0] := by
    rw [e23, e24, e26, e28, e30, e32, e34, e36, e38, e44, e47]
    simp [partsOf]
  rw [hcs] at h2
  have hc : ∀ i, w2.cell? ⟨b, i, none⟩ = (#[f 22, .int .u8 0, .int .i64 0, .slice none 0 0, .int .u8 0, .int .i64 0, f 25, .int .u8 1, .int .i64 0, f 27, .int .u8 2, .int .i64 0, f 29, .int .u8 3, .int .i64 0, f 31, .int .u8 0, .int .i64 5, f 33, .int .u8 0, .int .i64 5, f 35, .int .u8 0, .int .i64 0, f 37, .int .u8 2, .int .i64 0, f 43, .int .u8 3, .int .i64 0, f 46, .int .u8 1, .int .i64 0] : Array Value)[i]? := fun i => cell_of_row w2 b i _ _ _ h2
  clear h2 hcs
  refine ⟨b, e3.trans h1, fun k hk => ?_⟩
  match k, hk with
  | 0, _ => exact ⟨f 22, hc 0, r0, hc 1, hc 2⟩
  | 1, _ => exact ⟨.slice none 0 0, hc 3, r1, hc 4, hc 5⟩
  | 2, _ => exact ⟨f 25, hc 6, r2, hc 7, hc 8⟩
  | 3, _ => exact ⟨f 27, hc 9, r3, hc 10, hc 11⟩
  | 4, _ => exact ⟨f 29, hc 12, r4, hc 13, hc 14⟩
  | 5, _ => exact ⟨f 31, hc 15, r5, hc 16, hc 17⟩
  | 6, _ => exact ⟨f 33, hc 18, r6, hc 19, hc 20⟩
  | 7, _ => exact ⟨f 35, hc 21, r7, hc 22, hc 23⟩
  | 8, _ => exact ⟨f 37, hc 24, r8, hc 25, hc 26⟩
  | 9, _ => exact ⟨f 43, hc 27, r9, hc 28, hc 29⟩
  | 10, _ => exact ⟨f 46, hc 30, r10, hc 31, hc 32⟩
  | n + 11, hk => exact absurd hk (by omega)

end Go.Proofs.Ytpolbpjclklgbaa.kraftKnown
