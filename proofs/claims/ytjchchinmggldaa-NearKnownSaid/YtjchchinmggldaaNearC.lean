/-
  Contracts of package near: nearest, Ahead and Behind. No conditions but that rows are small.
-/
import Derived.Test.YtjchchinmggldaaNearB
namespace Go.Proofs.Ytjchchinmggldaa.Near
open Go.RowKit Go.Shelf Go.Proofs.Ytjchchinmggldaa.Suf

attribute [local go_sem] Oper.semAt_some

/-- The places that were gone by, the last one first. -/
def vis (p : Nat → Nat) : Nat → List Nat
  | 0 => []
  | k + 1 => p k :: vis p k

/-- The first of these at which a number below x stands; else z. -/
def pickZ (l : List Int) (z x : Int) (V : List Nat) : Int := match V.find? fun j => decide (nthI l j < x) with
  | some j => (j : Int)
  | none => z

/-- What the answer's row holds after k rounds. -/
def fillR (l : List Int) (p : Nat → Nat) (z : Int) : Nat → List Int
  | 0 => List.replicate l.length 0
  | k + 1 => (fillR l p z k).set (p k) (pickZ l z (nthI l (p k)) (vis p k))

theorem fillR_length (l : List Int) (p : Nat → Nat) (z : Int) : ∀ k, (fillR l p z k).length = l.length
  | 0 => by simp [fillR]
  | k + 1 => by rw [fillR, List.length_set, fillR_length l p z k]

/-- A stack's top, what lies below it, and all of it. -/
def topOf (z : Int) : List Nat → Int
  | [] => z
  | t :: _ => (t : Int)
def allOf (z : Int) (T : List Nat) : List Int := z :: T.reverse.map fun j : Nat => (j : Int)
def restOf (z : Int) : List Nat → List Int
  | [] => []
  | _ :: T => allOf z T
theorem rest_top (z : Int) : ∀ T : List Nat, allOf z T = restOf z T ++ [topOf z T]
  | [] => rfl
  | t :: T => by simp [allOf, restOf, topOf]
theorem all_push (z : Int) (i : Nat) (T : List Nat) : restOf z T ++ [topOf z T] ++ [(i : Int)] = allOf z (i :: T) := by
  rw [← rest_top]
  simp [allOf]
theorem allOf_length (z : Int) (T : List Nat) : (allOf z T).length = T.length + 1 := by simp [allOf]
theorem restOf_length (z : Int) (T : List Nat) : (restOf z T).length = T.length := by cases T <;> simp [restOf, allOf_length]

theorem vis_length (p : Nat → Nat) : ∀ k, (vis p k).length = k
  | 0 => rfl
  | k + 1 => by simp [vis, vis_length p k]
theorem vis_lt {p : Nat → Nat} {N : Nat} (hp : ∀ k, k < N → p k < N) : ∀ k, k ≤ N → ∀ j ∈ vis p k, j < N
  | 0, _, j, h => by simp [vis] at h
  | k + 1, hk, j, h => by
    rw [vis, List.mem_cons] at h
    rcases h with rfl | h
    · exact hp k (by omega)
    · exact vis_lt hp k (by omega) j h
theorem drop_mem {q : Nat → Bool} {a : Nat} : ∀ {l : List Nat}, a ∈ l.dropWhile q → a ∈ l
  | [], h => by simp at h
  | b :: l, h => by
    by_cases hb : q b = true
    · rw [List.dropWhile_cons_of_pos hb] at h; exact List.mem_cons_of_mem _ (drop_mem h)
    · rw [List.dropWhile_cons_of_neg hb] at h; exact h
theorem drop_len {q : Nat → Bool} : ∀ l : List Nat, (l.dropWhile q).length ≤ l.length
  | [] => by simp
  | b :: l => by
    by_cases hb : q b = true
    · rw [List.dropWhile_cons_of_pos hb]; have := drop_len (q := q) l; simp; omega
    · rw [List.dropWhile_cons_of_neg hb]; omega
theorem stack_mem (l : List Int) {a : Nat} : ∀ {V : List Nat}, a ∈ stackOf l V → a ∈ V
  | [], h => by simp [stackOf] at h
  | i :: V, h => by
    rw [stackOf, List.mem_cons] at h
    rcases h with rfl | h
    · exact List.mem_cons_self
    · exact List.mem_cons_of_mem _ (stack_mem l (drop_mem h))
theorem stack_len (l : List Int) : ∀ V : List Nat, (stackOf l V).length ≤ V.length
  | [] => by simp [stackOf]
  | i :: V => by
    rw [stackOf, List.length_cons, List.length_cons]
    have := drop_len (q := fun j => decide (nthI l i ≤ nthI l j)) (stackOf l V)
    have := stack_len l V
    omega

/-- What is found on a stack. -/
theorem pick_top (l : List Int) (z x : Int) (V T : List Nat) (h : (stackOf l V).dropWhile (fun j => decide (x ≤ nthI l j)) = T) : pickZ l z x V = topOf z T := by
  unfold pickZ
  rw [← stack_find l x V, h]
  cases T <;> rfl

/-- The loop's stack: T is what stands on it of S, above which all are no less than x. -/
structure Down (l : List Int) (N k : Nat) (x : Int) (S T : List Nat) : Prop where
  same : T.dropWhile (fun j => decide (x ≤ nthI l j)) = S.dropWhile fun j => decide (x ≤ nthI l j)
  small : ∀ t ∈ T, t < N
  len : T.length ≤ k

theorem Down.start {l : List Int} {p : Nat → Nat} {N k : Nat} (x : Int) (hp : ∀ k, k < N → p k < N) (hk : k ≤ N) : Down l N k x (stackOf l (vis p k)) (stackOf l (vis p k)) :=
  ⟨rfl, fun t ht => vis_lt hp k hk t (stack_mem l ht), by have := stack_len l (vis p k); rw [vis_length] at this; exact this⟩
theorem Down.next {l : List Int} {N k : Nat} {x : Int} {S T : List Nat} {t : Nat} (h : Down l N k x S (t :: T)) (hx : x ≤ nthI l t) : Down l N k x S T :=
  ⟨by rw [← h.same, List.dropWhile_cons_of_pos (by simpa using hx)], fun u hu => h.small u (List.mem_cons_of_mem _ hu), by have := h.len; simp at this; omega⟩
theorem Down.stop {l : List Int} {N k : Nat} {x : Int} {S T : List Nat} (h : Down l N k x S T) (ht : ∀ t T', T = t :: T' → nthI l t < x) : S.dropWhile (fun j => decide (x ≤ nthI l j)) = T := by
  rw [← h.same]
  cases T with
  | nil => rfl
  | cons t T' => exact List.dropWhile_cons_of_neg (by have := ht t T' rfl; simpa using this)

/-- The other things of nearest: the answer's row, and five variables. -/
def rest (n0 m N : Nat) (v : Value) (z : Int) (ys : List Int) : List Thing :=
  [intsT (n0 + 1 + 1 + 1 + 1 + 1) N ys, boxT n0 #[v] 22, boxT (n0 + 1) #[.int .i64 z] 3,
    boxT (n0 + 1 + 1 + 1) #[.func (.func 18) #[.pointer (some ⟨n0 + 1 + 1, 0, none⟩)] #[]] 35,
    boxT (n0 + 1 + 1 + 1 + 1) #[.func (.func 19) #[.pointer (some ⟨n0 + 1 + 1, 0, none⟩)] #[]] 36,
    boxT (m) #[.slice (some ⟨n0 + 1 + 1 + 1 + 1 + 1, 0, none⟩) N N] 22]

/-- What the five variables hold. -/
structure Has (n0 m N : Nat) (v : Value) (z : Int) (W : World) : Prop where
  l : W.cell? ⟨n0, 0, none⟩ = some v
  z : W.cell? ⟨n0 + 1, 0, none⟩ = some (.int .i64 z)
  push : W.cell? ⟨n0 + 1 + 1 + 1, 0, none⟩ = some (.func (.func 18) #[.pointer (some ⟨n0 + 1 + 1, 0, none⟩)] #[])
  pop : W.cell? ⟨n0 + 1 + 1 + 1 + 1, 0, none⟩ = some (.func (.func 19) #[.pointer (some ⟨n0 + 1 + 1, 0, none⟩)] #[])
  near : W.cell? ⟨m, 0, none⟩ = some (.slice (some ⟨n0 + 1 + 1 + 1 + 1 + 1, 0, none⟩) N N)

section
variable {B : Nat} {w0 w : World} {r : List Thing}

theorem rest_has {n0 m N : Nat} {v : Value} {z : Int} {ys : List Int} (st : St B w0 w (rest n0 m N v z ys)) : Has n0 m N v z w := by
  unfold rest at st
  exact ⟨by simpa using (st.drop.boxAt 0).1, by simpa using (st.drop.drop.boxAt 0).1, by simpa using (st.drop.drop.drop.boxAt 0).1, by simpa using (st.drop.drop.drop.drop.boxAt 0).1, by simpa using (st.drop.drop.drop.drop.drop.boxAt 0).1⟩

theorem Stk.has {F : List Thing} {n0 m N sb : Nat} {v : Value} {z : Int} {xs ys : List Int} (h : Stk B w0 w (F ++ rest n0 m N v z ys) sb xs) : Has n0 m N v z w := by
  obtain ⟨_, st⟩ := h
  have h1 := st.drop.drop
  clear st
  induction F with
  | nil => exact rest_has h1
  | cons A F ih => exact ih h1.drop

theorem Stk.put {F : Thing} {sb g N : Nat} {xs ys : List Int} (h : Stk B w0 w (F :: intsT g N ys :: r) sb xs) (i : Nat) (x : Int) : Stk B w0 (w.setCell ⟨g, i, none⟩ (.int .i64 x)) (F :: intsT g N (ys.set i x) :: r) sb xs := by
  obtain ⟨v, st⟩ := h
  exact ⟨v, (putInt st.fourth i x).swap.swap.swap.front 0 |> fun s => by
    have s1 := putInt st.fourth i x
    have s2 : St B w0 (w.setCell ⟨g, i, none⟩ (.int .i64 x)) (boxT sb #[v] 34 :: intsT g N (ys.set i x) :: rowT 3 1 v xs.length (iVals xs) :: F :: r) := s1.swap
    exact ⟨s2.only, s2.size, Sep.under (fun _ h => (Sep.under (fun _ => Sep.swap) (Sep.swap h))) s2.sep⟩⟩

theorem Stk.cell {F : Thing} {sb g N : Nat} {xs ys : List Int} (h : Stk B w0 w (F :: intsT g N ys :: r) sb xs) (i : Nat) (hl : ys.length = N) (hi : i < N) : w.cell? ⟨g, i, none⟩ = some (.int .i64 (ys[i]'(by omega))) ∧ w.frozen? ⟨g, i, none⟩ = false := by
  obtain ⟨v, st⟩ := h
  exact intCell st.fourth i hl hi

end
end Go.Proofs.Ytjchchinmggldaa.Near
