/-
  Ends and rotations as texts: how strings of them compare; pressworkref13.End and Rotation. No conditions but that rows are small.
-/
import Derived.Test.YtfifkbadniekfaaSufJ
import Derived.Test.YtfifkbadniekfaaStr
import Derived.Laws.Concat
import Derived.Laws.Cover1
namespace Go.Proofs.Ytfifkbadniekfaa.Suf
open Go.RowKit

/-- What stands at a place of a text: 0, where it is over. -/
def dig (xs : List Nat) (j : Nat) : Nat := match xs[j]? with
  | none => 0
  | some x => 1 + x

theorem dig_lt {xs : List Nat} {j : Nat} (h : j < xs.length) : dig xs j = 1 + xs[j] := by unfold dig; rw [List.getElem?_eq_getElem h]
theorem dig_ge {xs : List Nat} {j : Nat} (h : xs.length ≤ j) : dig xs j = 0 := by unfold dig; rw [List.getElem?_eq_none h]
theorem dig_inj {xs ys : List Nat} {j : Nat} (h : dig xs j = dig ys j) : xs[j]? = ys[j]? := by
  unfold dig at h
  cases e : xs[j]? <;> cases e' : ys[j]? <;> rw [e, e'] at h <;> simp at h ⊢
  · omega
  · omega

theorem less_cons {x y : Nat} {xs ys : List Nat} : (∃ d, Less (dig (x :: xs)) (dig (y :: ys)) d) ↔ x < y ∨ x = y ∧ ∃ d, Less (dig xs) (dig ys) d := by
  have h0 : ∀ (z : Nat) (zs : List Nat), dig (z :: zs) 0 = 1 + z := fun _ _ => rfl
  have hs : ∀ (z : Nat) (zs : List Nat) (j : Nat), dig (z :: zs) (j + 1) = dig zs j := fun _ _ _ => by simp [dig]
  constructor
  · rintro ⟨d, j, h1, h2, h3⟩
    cases j with
    | zero => rw [h0, h0] at h3; exact .inl (by omega)
    | succ j =>
      have h4 := h2 0 (by omega)
      rw [h0, h0] at h4
      rw [hs, hs] at h3
      refine .inr ⟨by omega, d, j, by omega, fun i hi => ?_, h3⟩
      have := h2 (i + 1) (by omega)
      rwa [hs, hs] at this
  · rintro (h | ⟨rfl, d, j, h1, h2, h3⟩)
    · exact ⟨1, 0, by omega, fun i hi => absurd hi (by omega), by rw [h0, h0]; omega⟩
    · refine ⟨d + 1, j + 1, by omega, fun i hi => ?_, by rw [hs, hs]; exact h3⟩
      cases i with
      | zero => rw [h0, h0]
      | succ i => rw [hs, hs]; exact h2 i (by omega)

theorem bytesLess_dig : ∀ (xs ys : List Nat), (∀ x ∈ xs, x < 256) → (∀ y ∈ ys, y < 256) → (Op.bytesLess (xs.map UInt8.ofNat) (ys.map UInt8.ofNat) = true ↔ ∃ d, Less (dig xs) (dig ys) d)
  | xs, [], _, _ => by
    constructor
    · intro h; cases xs <;> simp [Op.bytesLess] at h
    · rintro ⟨d, j, _, _, h⟩; simp [dig] at h
  | [], y :: ys, _, _ => by
    simp only [List.map_nil, List.map_cons, Op.bytesLess, true_iff]
    exact ⟨1, 0, by omega, fun i hi => absurd hi (by omega), by simp [dig]; omega⟩
  | x :: xs, y :: ys, hx, hy => by
    have h1 := hx x (List.mem_cons_self ..)
    have h2 := hy y (List.mem_cons_self ..)
    have ih := bytesLess_dig xs ys (fun z hz => hx z (List.mem_cons_of_mem _ hz)) (fun z hz => hy z (List.mem_cons_of_mem _ hz))
    rw [less_cons, ← ih]
    have e1 : (UInt8.ofNat x).toNat = x := by rw [UInt8.toNat_ofNat']; exact Nat.mod_eq_of_lt h1
    have e2 : (UInt8.ofNat y).toNat = y := by rw [UInt8.toNat_ofNat']; exact Nat.mod_eq_of_lt h2
    have e3 : (UInt8.ofNat x < UInt8.ofNat y) ↔ x < y := by rw [UInt8.lt_iff_toNat_lt, e1, e2]
    have e4 : (UInt8.ofNat x = UInt8.ofNat y) ↔ x = y := ⟨fun h => by rw [← e1, ← e2, h], fun h => by rw [h]⟩
    simp only [List.map_cons, Op.bytesLess, Bool.or_eq_true, Bool.and_eq_true, decide_eq_true_eq, beq_iff_eq, e3, e4]

theorem strOf_list (xs : List Nat) : (strOf xs).toList = xs.map UInt8.ofNat := by rw [ByteArray.toList_eq, strOf_data]

theorem strLess {xs ys : List Nat} (hx : ∀ x ∈ xs, x < 256) (hy : ∀ y ∈ ys, y < 256) : Op.bytesLess (strOf xs).toList (strOf ys).toList = true ↔ ∃ d, Less (dig xs) (dig ys) d := by
  rw [strOf_list, strOf_list]; exact bytesLess_dig xs ys hx hy

theorem map_inj : ∀ (xs ys : List Nat), (∀ x ∈ xs, x < 256) → (∀ y ∈ ys, y < 256) → xs.map UInt8.ofNat = ys.map UInt8.ofNat → xs = ys
  | [], [], _, _, _ => rfl
  | [], _ :: _, _, _, h => by simp at h
  | _ :: _, [], _, _, h => by simp at h
  | x :: xs, y :: ys, hx, hy, h => by
    simp only [List.map_cons, List.cons.injEq] at h
    have h1 := hx x (List.mem_cons_self ..)
    have h2 := hy y (List.mem_cons_self ..)
    have e1 : (UInt8.ofNat x).toNat = x := by rw [UInt8.toNat_ofNat']; exact Nat.mod_eq_of_lt h1
    have e2 : (UInt8.ofNat y).toNat = y := by rw [UInt8.toNat_ofNat']; exact Nat.mod_eq_of_lt h2
    rw [map_inj xs ys (fun z hz => hx z (List.mem_cons_of_mem _ hz)) (fun z hz => hy z (List.mem_cons_of_mem _ hz)) h.2, ← e1, ← e2, h.1]

theorem strSame {xs ys : List Nat} (hx : ∀ x ∈ xs, x < 256) (hy : ∀ y ∈ ys, y < 256) : (strOf xs).toList = (strOf ys).toList ↔ xs = ys := by
  rw [strOf_list, strOf_list]
  exact ⟨map_inj xs ys hx hy, fun h => by rw [h]⟩

/-- The end, or the rotation, from a place on. -/
def text (rot : Bool) (b : List Nat) (p : Nat) : List Nat := if rot then b.drop p ++ b.take p else b.drop p

theorem text_byte {rot : Bool} {b : List Nat} (hb : ∀ x ∈ b, x < 256) (p : Nat) : ∀ x ∈ text rot b p, x < 256 := by
  intro x hx
  unfold text at hx
  split at hx
  · rcases List.mem_append.1 hx with h | h
    · exact hb x (List.mem_of_mem_drop h)
    · exact hb x (List.mem_of_mem_take h)
  · exact hb x (List.mem_of_mem_drop hx)

theorem text_le (rot : Bool) (b : List Nat) (p : Nat) : (text rot b p).length ≤ b.length := by
  unfold text
  split
  · rw [List.length_append, List.length_drop, List.length_take]; omega
  · rw [List.length_drop]; omega

theorem dig_text (rot : Bool) (b : List Nat) (p j : Nat) (hp : p < b.length) (hj : j < b.length) : dig (text rot b p) j = val rot b p j := by
  cases rot
  · simp only [text, val, Bool.false_eq_true, if_false]
    by_cases h : p + j < b.length
    · rw [dig_lt (by rw [List.length_drop]; omega), List.getElem_drop, if_pos h, List.getD_eq_getElem?_getD, List.getElem?_eq_getElem h]; rfl
    · rw [dig_ge (by rw [List.length_drop]; omega), if_neg h]
  · simp only [text, val, if_true]
    rw [if_pos hp, dig_lt (by rw [List.length_append, List.length_drop, List.length_take]; omega)]
    congr 1
    rw [List.getD_eq_getElem?_getD, List.getElem?_eq_getElem (Nat.mod_lt _ (by omega)), Option.getD_some]
    by_cases h : p + j < b.length
    · rw [List.getElem_append_left (by rw [List.length_drop]; omega), List.getElem_drop]
      congr 1
      exact (Nat.mod_eq_of_lt h).symm
    · rw [List.getElem_append_right (by rw [List.length_drop]; omega), List.getElem_take]
      congr 1
      rw [List.length_drop]
      have : (p + j) % b.length = p + j - b.length := by
        rw [Nat.mod_eq_sub_mod (by omega), Nat.mod_eq_of_lt (by omega)]
      omega

theorem less_text {rot : Bool} {b : List Nat} {p q : Nat} (hp : p < b.length) (hq : q < b.length) : (∃ d, Less (dig (text rot b p)) (dig (text rot b q)) d) ↔ Less (val rot b p) (val rot b q) b.length := by
  constructor
  · rintro ⟨d, j, h1, h2, h3⟩
    have hj : j < b.length := by
      apply Nat.lt_of_not_le
      intro h
      rw [dig_ge (xs := text rot b q) (Nat.le_trans (text_le ..) h)] at h3
      omega
    refine ⟨j, hj, fun i hi => ?_, ?_⟩
    · rw [← dig_text rot b p i hp (by omega), ← dig_text rot b q i hq (by omega)]; exact h2 i hi
    · rw [← dig_text rot b p j hp hj, ← dig_text rot b q j hq hj]; exact h3
  · rintro ⟨j, h1, h2, h3⟩
    refine ⟨b.length, j, h1, fun i hi => ?_, ?_⟩
    · rw [dig_text rot b p i hp (by omega), dig_text rot b q i hq (by omega)]; exact h2 i hi
    · rw [dig_text rot b p j hp h1, dig_text rot b q j hq h1]; exact h3

theorem same_text {rot : Bool} {b : List Nat} {p q : Nat} (hp : p < b.length) (hq : q < b.length) : text rot b p = text rot b q ↔ Like (val rot b p) (val rot b q) b.length := by
  constructor
  · intro h i hi
    rw [← dig_text rot b p i hp hi, ← dig_text rot b q i hq hi, h]
  · intro h
    refine List.ext_getElem? fun i => dig_inj ?_
    by_cases hi : i < b.length
    · rw [dig_text rot b p i hp hi, dig_text rot b q i hq hi]; exact h i hi
    · rw [dig_ge (Nat.le_trans (text_le ..) (by omega)), dig_ge (Nat.le_trans (text_le ..) (by omega))]

/-- p's text is less, as strings are compared; is the same. -/
theorem str_less {rot : Bool} {b : List Nat} (hb : ∀ x ∈ b, x < 256) {p q : Nat} (hp : p < b.length) (hq : q < b.length) : Op.bytesLess (strOf (text rot b p)).toList (strOf (text rot b q)).toList = true ↔ Less (val rot b p) (val rot b q) b.length := by
  rw [strLess (text_byte hb p) (text_byte hb q), less_text hp hq]

theorem str_same {rot : Bool} {b : List Nat} (hb : ∀ x ∈ b, x < 256) {p q : Nat} (hp : p < b.length) (hq : q < b.length) : (strOf (text rot b p)).toList = (strOf (text rot b q)).toList ↔ Like (val rot b p) (val rot b q) b.length := by
  rw [strSame (text_byte hb p) (text_byte hb q), same_text hp hq]

theorem ends_apart {b : List Nat} {p q : Nat} (hq : q < b.length) (h : Ahead false b p q) : Less (val false b p) (val false b q) b.length := by
  rcases h with h | ⟨h, l⟩
  · exact h
  · exfalso
    have := h (b.length - q) (by omega)
    simp only [val, Bool.false_eq_true, if_false] at this
    rw [if_pos (by omega), if_neg (by omega)] at this
    omega

theorem rowSub {w : World} {a : Option Addr} {len cap : Nat} {xs : List Nat} (h : ByteRow w (.slice a len cap) xs) (p n : Nat) (hp : p + n ≤ xs.length) : ByteRow w (.slice (if cap = p then a else a.map (·.add p)) n (cap - p)) ((xs.drop p).take n) := by
  obtain ⟨a', cap', e, hc, hn, hat⟩ := h
  obtain ⟨rfl, rfl, rfl⟩ := Value.slice.inj e
  have hl : ((xs.drop p).take n).length = n := by rw [List.length_take, List.length_drop]; omega
  refine ⟨_, cap - p, by rw [hl], by omega, ?_, fun i hi => ?_⟩
  · intro e1
    by_cases c : cap = p
    · omega
    · rw [if_neg c] at e1
      cases a with
      | none => have := hn rfl; omega
      | some x => simp at e1
  · rw [hl] at hi
    obtain ⟨hb, b, off, rfl, c0⟩ := hat (p + i) (by omega)
    have hg : ((xs.drop p).take n)[i]'(by omega) = xs[p + i]'(by omega) := by simp
    refine ⟨by rw [hg]; exact hb, b, off + p, ?_, by rw [hg, Nat.add_assoc]; exact c0⟩
    rw [if_neg (by omega), Option.map_some, add_none]

theorem rowDrop {w : World} {a : Option Addr} {len cap : Nat} {xs : List Nat} (h : ByteRow w (.slice a len cap) xs) (p : Nat) (hp : p ≤ xs.length) : ByteRow w (.slice (if cap = p then a else a.map (·.add p)) (xs.length - p) (cap - p)) (xs.drop p) := by
  have := rowSub h p (xs.length - p) (by omega)
  rwa [List.take_of_length_le (by rw [List.length_drop]; omega)] at this

theorem rowTake {w : World} {a : Option Addr} {len cap : Nat} {xs : List Nat} (h : ByteRow w (.slice a len cap) xs) (n : Nat) (hn : n ≤ xs.length) : ByteRow w (.slice a n cap) (xs.take n) := by
  obtain ⟨a', cap', e, hc, h0, hat⟩ := h
  obtain ⟨rfl, rfl, rfl⟩ := Value.slice.inj e
  have hl : (xs.take n).length = n := by rw [List.length_take]; omega
  refine ⟨_, cap, by rw [hl], by omega, h0, fun i hi => ?_⟩
  rw [hl] at hi
  have hg : (xs.take n)[i]'(by omega) = xs[i]'(by omega) := by simp
  rw [hg]
  exact hat i (by omega)

set_option maxRecDepth 100000 in
set_option maxHeartbeats 1000000 in
/-- End: as a string. -/
theorem end_any (w : World) (v : Value) (b : List Nat) (h : ByteRow w v b) (i : Nat) (hi : i ≤ b.length) :
    Calls Try.prog 17 #[v, .int .i64 (i : Int)] w fun e w' => e = .returned (.string (strOf (text false b i))) ∧ w' = w := by
  obtain ⟨va, vc, rfl⟩ : ∃ a c, v = .slice a b.length c := by obtain ⟨a, c, e, _⟩ := h; exact ⟨a, c, e⟩
  have hc : b.length ≤ vc := by obtain ⟨a, c, e, h1, _⟩ := h; obtain ⟨-, -, rfl⟩ := Value.slice.inj e; exact h1
  have hs := run_string w _ _ (rowDrop h i hi).reads
  rw [show b.drop i = text false b i from rfl] at hs
  generalize strOf (text false b i) = s at *
  clear h
  generalize b.length = n at *
  obtain ⟨m, hm⟩ : ∃ m, n - i = m := ⟨_, rfl⟩
  rw [hm] at hs
  go_enter Try.func17, Try.ntmps17
  by_cases hv : vc = i
  · subst hv
    simp only [if_true, Nat.sub_self] at hs
    go_wp2_with fail
    go_ret
    exact ⟨rfl, rfl⟩
  · rw [if_neg hv] at hs
    go_wp2_with fail
    go_ret
    exact ⟨rfl, rfl⟩

set_option maxRecDepth 100000 in
set_option maxHeartbeats 1000000 in
/-- Rotation: as a string. -/
theorem rot_any (w : World) (v : Value) (b : List Nat) (h : ByteRow w v b) (hb : b.length ≤ 1000000) (i : Nat) (hi : i ≤ b.length) :
    Calls Try.prog 18 #[v, .int .i64 (i : Int)] w fun e w' => e = .returned (.string (strOf (text true b i))) ∧ w' = w.drew := by
  obtain ⟨va, vc, rfl⟩ : ∃ a c, v = .slice a b.length c := by obtain ⟨a, c, e, _⟩ := h; exact ⟨a, c, e⟩
  have hc : b.length ≤ vc := by obtain ⟨a, c, e, h1, _⟩ := h; obtain ⟨-, -, rfl⟩ := Value.slice.inj e; exact h1
  have h' : ByteRow w.drew (.slice va b.length vc) b := h.below (Below.refl w.heap.size w).drew (Nat.le_refl _)
  have hs := run_string w.drew _ _ (rowDrop h' i hi).reads
  have ht := run_string w.drew _ _ (rowTake h' i hi).reads
  have hl1 : (strOf (b.drop i)).size = b.length - i := by
    show (strOf (b.drop i)).data.size = _
    rw [strOf_data]; simp
  have hl2 : (strOf (b.take i)).size = i := by
    show (strOf (b.take i)).data.size = _
    rw [strOf_data]; simp; omega
  have ha : (Op.stringOp .add (strOf (b.drop i)) (strOf (b.take i))).run Try.prog w.drew = .ok (.string (strOf (text true b i))) w.drew := by
    rw [run_string_add_sum _ _ _ (by omega)]
    congr 2
    apply ByteArray.ext
    rw [ByteArray.data_append, strOf_data, strOf_data, strOf_data, text, if_pos rfl, List.map_append]
    simp
  generalize strOf (text true b i) = s at *
  generalize strOf (b.drop i) = s1 at *
  generalize strOf (b.take i) = s2 at *
  clear h h' hl1 hl2
  generalize b.length = n at *
  obtain ⟨m, hm⟩ : ∃ m, n - i = m := ⟨_, rfl⟩
  rw [hm] at hs
  go_enter Try.func18, Try.ntmps18
  by_cases hv : vc = i
  · subst hv
    simp only [if_true, Nat.sub_self] at hs
    go_wp2_with fail
    go_region
    go_wp2_with fail
    go_ret
    exact ⟨rfl, rfl⟩
  · rw [if_neg hv] at hs
    go_wp2_with fail
    go_region
    go_wp2_with fail
    go_ret
    exact ⟨rfl, rfl⟩

end Go.Proofs.Ytfifkbadniekfaa.Suf
