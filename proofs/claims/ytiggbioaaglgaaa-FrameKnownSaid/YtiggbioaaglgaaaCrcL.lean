/-
  What the laws of layer 3 share: examples of package crc, and its calls over the things that a law has made. No conditions.
-/
import Derived.Test.YtiggbioaaglgaaaCrcR
namespace Go.Proofs.Ytiggbioaaglgaaa.Crc
open Go.RowKit

theorem modify_last (a : Array Obj) (x : Obj) (f : Obj → Obj) : (a.push x).modify a.size f = a.push (f x) := by
  apply Array.ext_getElem?
  intro i
  rw [Array.getElem?_modify, Array.getElem?_push, Array.getElem?_push]
  by_cases h : a.size = i
  · subst h; simp
  · rw [if_neg h, if_neg (fun e => h e.symm), if_neg (fun e => h e.symm)]

/-- '[]byte' of a text's own bytes: the row's end is marked. -/
theorem run_convert_lit (w : World) (C : Array Value) (n c : Nat) : (convert 23 23 (.slice (some ⟨w.heap.size, 0, none⟩) n c)).run Try.prog (w.alloc (.cells C 5)) = .ok (.slice (some ⟨w.heap.size, 0, none⟩) n c) (w.alloc (.cells C 5 (C.size, C.size + 1))) := by
  have hsh : (w.alloc (.cells C 5)).shape? w.heap.size = some (5, C.size) := by
    unfold World.shape?
    rw [heap_alloc_new]
  have hfr : (w.alloc (.cells C 5)).freeze ⟨w.heap.size, C.size, none⟩ 1 = w.alloc (.cells C 5 (C.size, C.size + 1)) := by
    unfold World.freeze
    rw [if_neg (by decide)]
    show ({ w.alloc (.cells C 5) with heap := (w.heap.push (.cells C 5)).modify w.heap.size _ } : World) = _
    rw [modify_last]
    rfl
  simp [convert, run_underlying Try.underlying23, run_underlying Try.underlying5, markStringish, hsh, hfr]

/-- A row of bytes written out in the text. -/
theorem byteRow_lit (w : World) (xs : List Nat) (fr : Nat × Nat) (hb : ∀ x ∈ xs, x < 256) : ByteRow (w.alloc (.cells (u8s xs).toArray 5 fr)) (.slice (some ⟨w.heap.size, 0, none⟩) xs.length xs.length) xs := by
  refine ⟨_, xs.length, rfl, Nat.le_refl _, (fun e => by cases e), fun i hi => ⟨hb _ (List.getElem_mem hi), w.heap.size, 0, rfl, ?_⟩⟩
  rw [Nat.zero_add, cell_of_row _ w.heap.size i (u8s xs).toArray 5 fr (heap_alloc_new w _)]
  simp [u8s, hi]

theorem byteRow_none (w : World) : ByteRow w (.slice none 0 0) [] := ⟨none, 0, rfl, Nat.le_refl _, fun _ => rfl, fun i hi => absurd hi (by simp)⟩

theorem St.bytesRow {B : Nat} {w0 w : World} {r : List Thing} {v : Value} {xs : List Nat} (h : St B w0 w (rowT 5 1 v xs.length (u8s xs) :: r)) (hb : ∀ x ∈ xs, x < 256) : ByteRow w v xs := byteRow_owns h.row hb

theorem low_st {B : Nat} {w0 w : World} {r : List Thing} (st : St B w0 w r) {v : Value} {xs : List Nat} (h : ByteRow w v xs) (hl : xs.length ≤ 140737488355328) :
    Calls Try.prog 46 #[v] w fun e w' => e = .returned (.int .u32 (lowSum xs : Int)) ∧ St B w0 w' r ∧ Below w.heap.size w w' :=
  (low_any w v xs h hl).mono fun _ _ ⟨h1, h2⟩ => ⟨h1, st.quiet h2, h2⟩

theorem low_digits : lowSum [49, 50, 51, 52, 53, 54, 55, 56, 57] = 3421780262 := by decide +kernel
theorem high_digits : highSum [49, 50, 51, 52, 53, 54, 55, 56, 57] = 4236843288 := by decide +kernel
theorem fold_two : fold 2147483649 1 = 2 := by decide

/-- 'append([]byte{}, b...)': new memory, the same bytes. -/
theorem wpList_copy {ops : Array Oper} {rest : List Oper} {o : Oper} {a : Act} {Q : Exit → Act → World → Prop} (hgd : o.guard = none) (s x : Operand)
    (ho : o.op = .call { callee := .builtin .append, args := #[s, x], argTypes := #[23, 23] })
    {B : Nat} {w0 w2 : World} {r : List Thing} (st : St B w0 w2 r) {v : Value} {xs : List Nat} (h : ByteRow w2 v xs) (hs : a.eval s = .slice (some ⟨w2.heap.size, 0, none⟩) 0 0) (hx : a.eval x = v) (hl : xs.length ≤ 140737488355328)
    (K : ∀ v' w', St B w0 w' (rowT 5 1 v' xs.length (u8s xs) :: r) → wpList Try.prog ops Q rest (a.put o.dst v') w') : wpList Try.prog ops Q (o :: rest) a (w2.alloc (.cells #[] 5)) := by
  obtain ⟨i0, hi, hz0, hz1, hz2⟩ := info_parts info8
  have s1 : St B w0 (w2.alloc (.cells #[] 5)) (rowT 5 1 (.slice (some ⟨w2.heap.size, 0, none⟩) 0 0) 0 [] :: r) :=
    st.addRow (below_alloc w2 _) (World.ownsRow_made w2 #[] 0 (Nat.le_refl _) (by unfold maxLen; omega) rfl)
  have h2 := h.below (below_alloc w2 (.cells #[] 5)) (Nat.le_refl _)
  have hr := h2.reads
  obtain ⟨ad, cap, rfl, hc, hn, hat⟩ := h2
  refine wpList_append_mine _ hgd s x 23 ho 5 i0 (.int .u8 0) 1 1 Try.underlying23 hi hz0 hz1 hz2 rfl (by decide) _ 0 [] hs s1.row ad xs.length cap (u8s xs) hx ?_ (by rw [u8s_length]; omega) ?_ (u8s_one xs) (by unfold maxLen; omega) (by omega) ?_
  · intro e1
    have := hn e1
    exact ⟨by omega, this⟩
  · intro b hb j u hu
    rcases hr with ⟨e1, e2⟩ | ⟨a', cap', e1, e2⟩
    · rw [e2] at hu; simp at hu
    · have e3 : ad = some a' := (Value.slice.inj e1).1
      rw [hb] at e3
      obtain rfl := Option.some.inj e3
      exact e2 j u hu
  · intro v' w' g1 g2 g3
    rw [Nat.zero_add, List.nil_append] at g1
    exact K v' w' (s1.grown g1 g2 g3)

theorem nat_of_u32 {z : Int} (hz : (Lit.int .u32 z).wf = true) : ∃ y : Nat, z = (y : Int) ∧ y < 4294967296 := by
  simp only [Lit.wf, Bool.and_eq_true, decide_eq_true_eq] at hz
  have h1 : IntKind.u32.min = 0 := rfl
  have h2 : IntKind.u32.max = 4294967295 := rfl
  rw [h1, h2] at hz
  exact ⟨z.toNat, by omega, by omega⟩

end Go.Proofs.Ytiggbioaaglgaaa.Crc
