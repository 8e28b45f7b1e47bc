/-
  Contracts of package near: Ahead and Behind. No conditions but that rows are small.
-/
import Derived.Test.YtjchchinmggldaaNearD
namespace Go.Proofs.Ytjchchinmggldaa.Near
open Go.RowKit Go.Shelf Go.Proofs.Ytjchchinmggldaa.Suf

theorem vis_down : ∀ k, vis (fun k => k) k = downTo k
  | 0 => rfl
  | k + 1 => by rw [vis, vis_down k, downTo_succ]

theorem vis_up (N : Nat) : ∀ k, k ≤ N → vis (fun k => N - 1 - k) k = upFrom (N - k) N
  | 0, _ => by rw [vis, upFrom_nil (by omega)]
  | k + 1, h => by
    rw [vis, vis_up N k (by omega), upFrom_cons (show N - (k + 1) < N by omega)]
    congr 1
    · omega
    · rw [show N - (k + 1) + 1 = N - k by omega]

/-- A row that is filled place by place. -/
theorem fillR_at (l : List Int) (p : Nat → Nat) (z : Int) (f : Nat → Int) (hp : ∀ k, k < l.length → p k < l.length) (hf : ∀ k, k < l.length → pickZ l z (nthI l (p k)) (vis p k) = f (p k)) :
    ∀ (k : Nat), k ≤ l.length → ∀ i, i < l.length → (∃ j, j < k ∧ p j = i) → (fillR l p z k)[i]? = some (f i)
  | 0, _, i, _, ⟨j, h, _⟩ => by omega
  | k + 1, hk, i, hi, ⟨j, hj, e⟩ => by
    rw [fillR, hf k (by omega)]
    by_cases h : p k = i
    · rw [h, List.getElem?_set_self (by rw [fillR_length]; exact hi)]
    · rw [List.getElem?_set_ne h]
      refine fillR_at l p z f hp hf k (by omega) i hi ⟨j, ?_, e⟩
      rcases Nat.lt_or_ge j k with h1 | h1
      · exact h1
      · obtain rfl : j = k := by omega
        exact absurd e h

theorem fillR_all (l : List Int) (p : Nat → Nat) (z : Int) (f : Nat → Int) (hp : ∀ k, k < l.length → p k < l.length) (hf : ∀ k, k < l.length → pickZ l z (nthI l (p k)) (vis p k) = f (p k)) (hs : ∀ i, i < l.length → ∃ j, j < l.length ∧ p j = i) :
    fillR l p z l.length = (List.range l.length).map f := by
  apply List.ext_getElem?
  intro i
  by_cases hi : i < l.length
  · rw [fillR_at l p z f hp hf l.length (Nat.le_refl _) i hi (hs i hi)]
    simp [hi]
  · rw [List.getElem?_eq_none (by rw [fillR_length]; omega), List.getElem?_eq_none (by simp; omega)]

theorem fill_ahead (l : List Int) : fillR l (fun k => k) (-1) l.length = aheads l :=
  fillR_all l (fun k => k) (-1) (ahOf l) (fun k hk => hk) (fun k hk => by
    unfold ahOf pickZ
    rw [vis_down, seek_find]; rfl) (fun i hi => ⟨i, hi, rfl⟩)

theorem fill_behind (l : List Int) : fillR l (fun k => l.length - 1 - k) (l.length : Int) l.length = behs l :=
  fillR_all l (fun k => l.length - 1 - k) (l.length : Int) (fun i => (beOf l i : Int)) (fun k hk => by omega) (fun k hk => by
    unfold beOf pickZ
    rw [vis_up l.length k (by omega), show l.length - 1 - k + 1 = l.length - k by omega, lead_find l (nthI l (l.length - 1 - k)) _ (l.length - k) rfl (by omega)]
    cases (upFrom (l.length - k) l.length).find? fun j => decide (nthI l j < nthI l (l.length - 1 - k)) <;> rfl) (fun i hi => ⟨l.length - 1 - i, by omega, by omega⟩)

section
variable {B : Nat} {w0 w : World} {r : List Thing}

theorem rowBelow {v : Value} {l : List Int} (hv : ∀ W, St B w0 W r → IntRow W v l) {w1 : World} (s1 : St B w0 w1 r) : ∀ W, Below w1.heap.size w1 W → IntRow W v l := fun W hW => hv W (s1.quiet hW)

set_option maxRecDepth 100000 in
set_option maxHeartbeats 4000000 in
/-- Ahead. -/
theorem ahead_st (st : St B w0 w r) (v : Value) (l : List Int) (hv : ∀ W, St B w0 W r → IntRow W v l) (hl : l.length ≤ 400000) : Calls Try.prog 10 #[v] w (AhSt B w0 r l) := by
  obtain ⟨va, vc, rfl⟩ : ∃ a c, v = .slice a l.length c := by obtain ⟨a, c, e, _⟩ := hv w st; exact ⟨a, c, e⟩
  have s1 := st.alloc (.cells #[.slice va l.length vc] 22)
  have hb : (w.alloc (.cells #[.slice va l.length vc] 22)).cell? ⟨w.heap.size, 0, none⟩ = some (.slice va l.length vc) := by
    rw [cell_of_row _ w.heap.size 0 #[.slice va l.length vc] 22 (0, 0) (heap_alloc_new w _)]
    rfl
  have hsz : w.heap.size < (w.alloc (.cells #[.slice va l.length vc] 22)).heap.size := by simp
  have hne := nearest_st s1 va vc l (rowBelow hv s1) hl 20 #[.pointer (some ⟨w.heap.size, 0, none⟩)] (enters_of Try.func20 (by kernel_rfl) rfl) trivial (fun k => k) (fun k hk => hk) (-1) (fun i _ => by omega)
    (all_seq 2 (by omega) w.heap.size _ va vc l _ hsz (Nat.le_refl _) (by omega) hb (rowBelow hv s1))
  rw [fill_ahead] at hne
  unfold AhSt
  generalize aheads l = A at *
  generalize l.length = n at *
  clear hv hsz hb s1
  go_enter Try.func10, Try.ntmps10
  go_wp2_with (go_at_call 16; refine (all_any va n vc w).mono ?_; rintro e w1 ⟨rfl, rfl⟩)
  go_wp2_with (go_at_call 15; refine hne.mono ?_; rintro e w2 ⟨v2, rfl, s2⟩)
  go_ret
  exact ⟨v2, rfl, s2⟩

set_option maxRecDepth 100000 in
set_option maxHeartbeats 4000000 in
/-- Behind. -/
theorem behind_st (st : St B w0 w r) (v : Value) (l : List Int) (hv : ∀ W, St B w0 W r → IntRow W v l) (hl : l.length ≤ 400000) : Calls Try.prog 12 #[v] w (BeSt B w0 r l) := by
  obtain ⟨va, vc, rfl⟩ : ∃ a c, v = .slice a l.length c := by obtain ⟨a, c, e, _⟩ := hv w st; exact ⟨a, c, e⟩
  have s1 := st.alloc (.cells #[.slice va l.length vc] 22)
  have hb : (w.alloc (.cells #[.slice va l.length vc] 22)).cell? ⟨w.heap.size, 0, none⟩ = some (.slice va l.length vc) := by
    rw [cell_of_row _ w.heap.size 0 #[.slice va l.length vc] 22 (0, 0) (heap_alloc_new w _)]
    rfl
  have hsz : w.heap.size < (w.alloc (.cells #[.slice va l.length vc] 22)).heap.size := by simp
  have hne := nearest_st s1 va vc l (rowBelow hv s1) hl 21 #[.pointer (some ⟨w.heap.size, 0, none⟩)] (enters_of Try.func21 (by kernel_rfl) rfl) trivial (fun k => l.length - 1 - k) (fun k hk => by omega) (l.length : Int) (fun i _ => by omega)
    (back_seq 2 (by omega) w.heap.size _ va vc l _ hsz (Nat.le_refl _) (by omega) hb (rowBelow hv s1))
  rw [fill_behind] at hne
  unfold BeSt
  generalize behs l = A at *
  generalize l.length = n at *
  clear hv hsz hb s1
  go_enter Try.func12, Try.ntmps12
  go_wp2_with (go_at_call 17; refine (back_any va n vc w).mono ?_; rintro e w1 ⟨rfl, rfl⟩)
  go_wp2_with (go_at_call 15; refine hne.mono ?_; rintro e w2 ⟨v2, rfl, s2⟩)
  go_ret
  exact ⟨v2, rfl, s2⟩

end
end Go.Proofs.Ytjchchinmggldaa.Near
