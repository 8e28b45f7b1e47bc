/-
  Contracts of package sufsort: numbers that rise; places in order of their ranks, by counting. No conditions but that rows are small.
-/
import Derived.Test.YtjchchinmggldaaSufQ
import Derived.Test.YtjchchinmggldaaIntsA
import Derived.Test.YtjchchinmggldaaFront
import Derived.Test.YtjchchinmggldaaHeld
import Derived.Lib.Hide
namespace Go.Proofs.Ytjchchinmggldaa.Suf
open Go.RowKit

/-- The i-th, or 0. -/
def nth (X : List Nat) (i : Nat) : Nat := X.getD i 0
theorem nth_lt {X : List Nat} {i : Nat} (h : i < X.length) : nth X i = X[i] := by unfold nth; rw [List.getD_eq_getElem?_getD, List.getElem?_eq_getElem h]; rfl

/-- n numbers, told place by place. -/
def tab (n : Nat) (f : Nat → Nat) : List Nat := (List.range n).map f
theorem tab_length (n : Nat) (f : Nat → Nat) : (tab n f).length = n := by simp [tab]
theorem tab_get (n : Nat) (f : Nat → Nat) (i : Nat) (h : i < (tab n f).length) : (tab n f)[i] = f i := by simp [tab]
theorem tab_set (n : Nat) (f g : Nat → Nat) (i x : Nat) (h1 : g i = x) (h2 : ∀ v, v < n → v ≠ i → g v = f v) : (tab n f).set i x = tab n g := by
  refine List.ext_getElem (by simp [tab]) (fun j h3 h4 => ?_)
  rw [List.getElem_set, tab_get n g j h4]
  split
  · rename_i e; subst e; exact h1.symm
  · rename_i e
    rw [tab_get]
    exact (h2 j (by simpa [tab] using h4) (fun e' => e e'.symm)).symm
theorem tab_same (n : Nat) (f g : Nat → Nat) (h : ∀ v, v < n → f v = g v) : tab n f = tab n g := List.map_congr_left fun v hv => h v (List.mem_range.1 hv)

/-- The first k of a row, and zeros. -/
def laid (xs : List Nat) (k : Nat) : List Nat := tab xs.length fun i => if i < k then nth xs i else 0
theorem laid_all (xs : List Nat) : laid xs xs.length = xs := by
  refine List.ext_getElem (by simp [laid, tab]) (fun j h3 h4 => ?_)
  exact (tab_get xs.length (fun i => if i < xs.length then nth xs i else 0) j h3).trans (by rw [if_pos h4, nth_lt h4])
theorem tab_zeros (n : Nat) (f : Nat → Nat) (h : ∀ v, v < n → f v = 0) : List.replicate n 0 = tab n f := by
  refine List.ext_getElem (by simp [tab]) (fun j h3 h4 => ?_)
  rw [tab_get, List.getElem_replicate, h j (by simpa [tab] using h4)]

/-- A new row of numbers. -/
def NumsNew (B : Nat) (w0 : World) (r : List Thing) (xs : List Nat) (en : Ending) (w' : World) : Prop := ∃ g, en = .returned (.slice (some ⟨g, 0, none⟩) xs.length xs.length) ∧ St B w0 w' (numsT 3 g xs.length xs :: r)

section
variable {B : Nat} {w0 w : World} {r : List Thing}

theorem kin_take (P : List Nat) (f : Nat → Nat) (k v : Nat) (h : k < P.length) : kin (P.take (k + 1)) f v = kin (P.take k) f v + if f P[k] = v then 1 else 0 := by
  unfold kin
  rw [List.take_succ_eq_append_getElem h, List.filter_append, List.length_append]
  congr 1
  by_cases e : f P[k] = v <;> simp [e]

theorem kin_at (P : List Nat) (f : Nat → Nat) (k : Nat) (h : k < P.length) : kin (P.take k) f (f P[k]) < kin P f (f P[k]) ∧ (P.filter fun p => f p = f P[k])[kin (P.take k) f (f P[k])]? = some P[k] := by
  have e : P = P.take k ++ P[k] :: P.drop (k + 1) := by rw [← List.drop_eq_getElem_cons h, List.take_append_drop]
  generalize P[k] = x at *
  have e2 : P.filter (fun p => f p = f x) = (P.take k).filter (fun p => f p = f x) ++ x :: (P.drop (k + 1)).filter (fun p => f p = f x) := by
    conv => lhs; rw [e]
    rw [List.filter_append, List.filter_cons]
    simp
  constructor
  · unfold kin
    rw [e2, List.length_append, List.length_cons]
    omega
  · rw [e2, List.getElem?_append_right (by unfold kin; omega)]
    simp [kin]

theorem kin_le (P : List Nat) (f : Nat → Nat) (v : Nat) : kin P f v ≤ P.length := List.length_filter_le ..
theorem low_le (P : List Nat) (f : Nat → Nat) (v : Nat) : low P f v ≤ P.length := List.length_filter_le ..

/-- The spots of unlike kinds are apart. -/
theorem spots (P : List Nat) (f : Nat → Nat) (v v' j j' : Nat) (hj : j < kin P f v) (hj' : j' < kin P f v') (e : low P f v + j = low P f v' + j') : v = v' ∧ j = j' := by
  have h1 := low_succ P f v
  have h2 := low_succ P f v'
  rcases Nat.lt_trichotomy v v' with h | h | h
  · have := low_mono P f (show v + 1 ≤ v' by omega)
    omega
  · subst h
    exact ⟨rfl, by omega⟩
  · have := low_mono P f (show v' + 1 ≤ v by omega)
    omega

/-- The order as far as k places have been laid. -/
def Laid (P : List Nat) (f : Nat → Nat) (m k : Nat) (L : List Nat) : Prop := L.length = P.length ∧ ∀ v j, v ≤ m → j < kin (P.take k) f v → L[low P f v + j]? = (P.filter fun p => f p = v)[j]?

theorem laid_step {P : List Nat} {f : Nat → Nat} {m k : Nat} {L : List Nat} (h : Laid P f m k L) (hk : k < P.length) : Laid P f m (k + 1) (L.set (low P f (f P[k]) + kin (P.take k) f (f P[k])) P[k]) := by
  obtain ⟨hl, h⟩ := h
  have h1 := kin_at P f k hk
  refine ⟨by simpa using hl, fun v j hv hj => ?_⟩
  rw [kin_take P f k v hk] at hj
  have hle : kin (P.take (k + 1)) f v ≤ kin P f v := by
    unfold kin
    conv => rhs; rw [← List.take_append_drop (k + 1) P]
    rw [List.filter_append, List.length_append]; omega
  rw [kin_take P f k v hk] at hle
  by_cases e : low P f (f P[k]) + kin (P.take k) f (f P[k]) = low P f v + j
  · obtain ⟨rfl, rfl⟩ := spots P f _ _ _ _ h1.1 (by omega) e
    rw [List.getElem?_set_self, h1.2]
    have h2 := low_succ P f (f P[k])
    have h3 := low_le P f (f P[k] + 1)
    omega
  · rw [List.getElem?_set_ne e]
    refine h v j hv ?_
    by_cases e2 : f P[k] = v
    · subst e2
      simp only [if_true] at hj
      by_cases e3 : j = kin (P.take k) f (f P[k])
      · subst e3; exact absurd rfl e
      · omega
    · simpa [e2] using hj

theorem laid_end {P : List Nat} {f : Nat → Nat} {m : Nat} {L : List Nat} (h : Laid P f m P.length L) (hm : ∀ p ∈ P, f p ≤ m) : L = bucket P f m := by
  obtain ⟨hl, h⟩ := h
  have hb : (bucket P f m).length = P.length := by rw [bucket_length, low_all]; exact fun p hp => by have := hm p hp; omega
  refine List.ext_getElem? fun i => ?_
  by_cases hi : i < P.length
  · rw [← hb, bucket_length] at hi
    obtain ⟨v, j, h1, h2, rfl⟩ := bucket_spot P f m i hi
    rw [bucket_at P f v j h2 m h1, h v j h1 (by rw [List.take_length]; exact h2)]
  · rw [List.getElem?_eq_none (by omega), List.getElem?_eq_none (by omega)]

end
end Go.Proofs.Ytjchchinmggldaa.Suf
