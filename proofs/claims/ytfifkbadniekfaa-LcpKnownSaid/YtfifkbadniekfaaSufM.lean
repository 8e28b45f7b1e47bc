/-
  Texts of the chapter's examples; pressworklaw13.sorts. No conditions.
-/
import Derived.Test.YtfifkbadniekfaaSufK
namespace Go.Proofs.Ytfifkbadniekfaa.Suf
open Go.RowKit

theorem modify_last (a : Array Obj) (x : Obj) (f : Obj → Obj) : (a.push x).modify a.size f = a.push (f x) := by
  apply Array.ext_getElem?
  intro i
  rw [Array.getElem?_modify, Array.getElem?_push, Array.getElem?_push]
  by_cases h : a.size = i
  · subst h; simp
  · rw [if_neg h, if_neg (fun e => h e.symm), if_neg (fun e => h e.symm)]

/-- '[]byte' of a text's own bytes: the row's end is marked. -/
theorem run_convert_lit (w : World) (C : Array Value) (n c : Nat) : (convert 22 22 (.slice (some ⟨w.heap.size, 0, none⟩) n c)).run Try.prog (w.alloc (.cells C 5)) = .ok (.slice (some ⟨w.heap.size, 0, none⟩) n c) (w.alloc (.cells C 5 (C.size, C.size + 1))) := by
  have hsh : (w.alloc (.cells C 5)).shape? w.heap.size = some (5, C.size) := by
    unfold World.shape?
    rw [heap_alloc_new]
  have hfr : (w.alloc (.cells C 5)).freeze ⟨w.heap.size, C.size, none⟩ 1 = w.alloc (.cells C 5 (C.size, C.size + 1)) := by
    unfold World.freeze
    rw [if_neg (by decide)]
    show ({ w.alloc (.cells C 5) with heap := (w.heap.push (.cells C 5)).modify w.heap.size _ } : World) = _
    rw [modify_last]
    rfl
  simp [convert, run_underlying Try.underlying22, run_underlying Try.underlying5, markStringish, hsh, hfr]

theorem litRow {B : Nat} {w0 w : World} {r : List Thing} (st : St B w0 w r) (xs : List Nat) (hl : xs.length ≤ 1000) :
    St B w0 (w.alloc (.cells (u8s xs).toArray 5)) (rowT 5 1 (.slice (some ⟨w.heap.size, 0, none⟩) xs.length xs.length) xs.length (u8s xs) :: r) := by
  have h := World.ownsRow_lit (base := w.heap.size) (e := 5) (size := 1) w (u8s xs).toArray xs.length (Nat.le_refl _) (by unfold maxLen; omega) (by simp [u8s])
  exact st.addRow (below_alloc w _) (by simpa using h)

theorem litNums {B : Nat} {w0 w : World} {r : List Thing} (st : St B w0 w r) (xs : List Nat) (hl : xs.length ≤ 1000) :
    St B w0 (w.alloc (.cells (i64s xs).toArray 3)) (numsT 3 w.heap.size xs.length xs :: r) := by
  have h := World.ownsRow_lit (base := w.heap.size) (e := 3) (size := 1) w (i64s xs).toArray xs.length (Nat.le_refl _) (by unfold maxLen; omega) (by simp [i64s])
  exact st.addRow (below_alloc w _) (by simpa using h)

theorem byteRow_own {B : Nat} {w0 w : World} {g n : Nat} {xs : List Nat} {r : List Thing} (h : St B w0 w (rowT 5 1 (.slice (some ⟨g, 0, none⟩) n n) n (u8s xs) :: r)) (hl : xs.length = n) (hb : ∀ x ∈ xs, x < 256) : ByteRow w (.slice (some ⟨g, 0, none⟩) n n) xs := by
  subst hl
  refine ⟨_, xs.length, rfl, Nat.le_refl _, (fun e => by cases e), fun i hi => ⟨hb _ (List.getElem_mem _), g, 0, rfl, ?_⟩⟩
  rw [Nat.zero_add, h.row.cellAt i (by omega), u8s_get _ _ hi]

/-- A row that stands in order is the one. -/
instance (u v : Nat → Nat) (d : Nat) : Decidable (Like u v d) := inferInstanceAs (Decidable (∀ i, i < d → u i = v i))
def lessB (u v : Nat → Nat) : Nat → Nat → Bool
  | _, 0 => false
  | j, d + 1 => decide (u j < v j) || decide (u j = v j) && lessB u v (j + 1) d
theorem lessB_less (u v : Nat → Nat) : ∀ (d j : Nat), (∀ i, i < j → u i = v i) → lessB u v j d = true → Less u v (j + d)
  | 0, _, _, h => by simp [lessB] at h
  | d + 1, j, hj, h => by
    simp only [lessB, Bool.or_eq_true, Bool.and_eq_true, decide_eq_true_eq] at h
    rcases h with h | ⟨h, h'⟩
    · exact ⟨j, by omega, hj, h⟩
    · have := lessB_less u v d (j + 1) (fun i hi => by
        by_cases e : i = j
        · subst e; exact h
        · exact hj i (by omega)) h'
      rwa [show j + (d + 1) = j + 1 + d by omega]
def likeB (u v : Nat → Nat) (d : Nat) : Bool := (List.range d).all fun i => u i == v i
theorem likeB_like {u v : Nat → Nat} {d : Nat} (h : likeB u v d = true) : Like u v d := fun i hi => by
  have := List.all_eq_true.1 h i (List.mem_range.2 hi)
  simpa using this
def aheadB (rot : Bool) (b : List Nat) (p q : Nat) : Bool := lessB (val rot b p) (val rot b q) 0 b.length || likeB (val rot b p) (val rot b q) b.length && decide (p < q)
theorem aheadB_ahead {rot : Bool} {b : List Nat} {p q : Nat} (h : aheadB rot b p q = true) : Ahead rot b p q := by
  simp only [aheadB, Bool.or_eq_true, Bool.and_eq_true, decide_eq_true_eq] at h
  rcases h with h | ⟨h, h'⟩
  · have := lessB_less _ _ b.length 0 (fun i hi => absurd hi (by omega)) h
    rw [Nat.zero_add] at this
    exact .inl this
  · exact .inr ⟨likeB_like h, h'⟩
def pairsB (rot : Bool) (b : List Nat) : List Nat → Bool
  | [] => true
  | p :: l => l.all (aheadB rot b p) && pairsB rot b l
theorem pairsB_pairwise {rot : Bool} {b : List Nat} : ∀ {l : List Nat}, pairsB rot b l = true → l.Pairwise (Ahead rot b)
  | [], _ => .nil
  | p :: l, h => by
    simp only [pairsB, Bool.and_eq_true] at h
    exact List.pairwise_cons.2 ⟨fun q hq => aheadB_ahead (List.all_eq_true.1 h.1 q hq), pairsB_pairwise h.2⟩
def wholeB (rot : Bool) (b O : List Nat) : Bool := (O.length == b.length) && O.all (fun x => decide (x < b.length)) && pairsB rot b O
theorem whole_of {rot : Bool} {b O : List Nat} (h : wholeB rot b O = true) : Whole b.length (Ahead rot b) O := by
  simp only [wholeB, Bool.and_eq_true, beq_iff_eq] at h
  exact ⟨h.1.1, fun x hx => by have := List.all_eq_true.1 h.1.2 x hx; simpa using this, pairsB_pairwise h.2⟩
theorem order_is {rot : Bool} {b O L : List Nat} (h : Whole b.length (Ahead rot b) O) (hL : wholeB rot b L = true) : O = L :=
  Whole.one (fun _ _ h h' => h.asymm h') h (whole_of hL)

theorem banana_ends : wholeB false [98, 97, 110, 97, 110, 97] [5, 3, 1, 0, 4, 2] = true := by decide +kernel
theorem banana_rots : wholeB true [98, 97, 110, 97, 110, 97] [5, 3, 1, 0, 4, 2] = true := by decide +kernel
theorem abab_rots : wholeB true [97, 98, 97, 98] [0, 2, 1, 3] = true := by decide +kernel

section
variable {B : Nat} {w0 w : World} {r : List Thing}

/-- Same of two rows of numbers, as a contract over things. -/
theorem same_st (st : St B w0 w r) (u v : Value) (xs ys : List Nat) (hu : NumRow w u xs) (hv : NumRow w v ys) (hx : xs.length ≤ 1000000) (hxm : ∀ x ∈ xs, x ≤ 1000000) (hym : ∀ y ∈ ys, y ≤ 1000000) :
    Calls Try.prog 11 #[u, v] w fun e w' => e = .returned (.bool (decide (xs = ys))) ∧ St B w0 w' r := by
  refine (same_any w u v _ _ (NumRow.intRow hu hxm) (NumRow.intRow hv hym) (by simpa using hx)).mono ?_
  rintro e w' ⟨rfl, k, rfl⟩
  refine ⟨?_, st.drewN k⟩
  congr 2
  have : (xs.map fun x : Nat => (x : Int)) = (ys.map fun x : Nat => (x : Int)) ↔ xs = ys := by
    constructor
    · intro h
      have := congrArg (List.map Int.toNat) h
      simpa [List.map_map, Function.comp_def] using this
    · rintro rfl; rfl
  exact decide_eq_decide.2 this

end

end Go.Proofs.Ytfifkbadniekfaa.Suf
