/-
  Plain facts about heads of gzip's members as rows of numbers: how they are laid, how they are read. No program. No conditions.
-/
import Derived.Test.YtiggbioaaglgaaaCrcS
namespace Go.Proofs.Ytiggbioaaglgaaa.Fr
open Crc

/-- A head. -/
structure Gz where
  text : Bool
  time : Nat
  xfl : Nat
  os : Nat
  extra : List Nat
  name : List Nat
  comment : List Nat
  has : Nat
  sum : Bool

def Gz.nil : Gz := ⟨false, 0, 0, 0, [], [], [], 0, false⟩

/-- n bytes of a number, the lowest first. -/
def le : Nat → Nat → List Nat
  | 0, _ => []
  | n + 1, v => v % 256 :: le n (v / 256)

/-- The number that bytes are, the lowest first. -/
def val : List Nat → Nat
  | [] => 0
  | x :: l => x + 256 * val l

theorem le_length (n v : Nat) : (le n v).length = n := by
  induction n generalizing v with
  | zero => rfl
  | succ n ih => simp [le, ih]

theorem le_byte (n v : Nat) : ∀ x ∈ le n v, x < 256 := by
  induction n generalizing v with
  | zero => simp [le]
  | succ n ih =>
    intro x hx
    rcases List.mem_cons.1 hx with rfl | hx
    · omega
    · exact ih _ x hx

theorem le_snoc (n v : Nat) : le (n + 1) v = le n v ++ [v / 256 ^ n % 256] := by
  induction n generalizing v with
  | zero => simp [le]
  | succ n ih =>
    show v % 256 :: le (n + 1) (v / 256) = (v % 256 :: le n (v / 256)) ++ _
    rw [ih, Nat.div_div_eq_div_mul, Nat.pow_succ, Nat.mul_comm (256 ^ n)]
    rfl

theorem val_le (n v : Nat) : val (le n v) = v % 256 ^ n := by
  induction n generalizing v with
  | zero => simp [le, val, Nat.mod_one]
  | succ n ih =>
    show v % 256 + 256 * val (le n (v / 256)) = _
    rw [ih, Nat.pow_succ, Nat.mul_comm (256 ^ n), Nat.mod_mul]

theorem val_append (a b : List Nat) : val (a ++ b) = val a + 256 ^ a.length * val b := by
  induction a with
  | nil => simp [val]
  | cons x a ih =>
    show x + 256 * val (a ++ b) = x + 256 * val a + 256 ^ (a.length + 1) * val b
    rw [ih, Nat.pow_succ, Nat.mul_add, Nat.mul_comm (256 ^ a.length) 256, Nat.mul_assoc]
    omega

theorem val_lt {l : List Nat} (h : ∀ x ∈ l, x < 256) : val l < 256 ^ l.length := by
  induction l with
  | nil => simp [val]
  | cons x l ih =>
    have h1 := ih (fun y hy => h y (List.mem_cons_of_mem _ hy))
    have h2 := h x List.mem_cons_self
    show x + 256 * val l < 256 ^ (l.length + 1)
    rw [Nat.pow_succ, Nat.mul_comm]
    omega

theorem le_val {l : List Nat} (h : ∀ x ∈ l, x < 256) : le l.length (val l) = l := by
  induction l with
  | nil => rfl
  | cons x l ih =>
    have h1 := ih (fun y hy => h y (List.mem_cons_of_mem _ hy))
    have h2 := h x List.mem_cons_self
    show (x + 256 * val l) % 256 :: le l.length ((x + 256 * val l) / 256) = _
    rw [show (x + 256 * val l) % 256 = x from by omega, show (x + 256 * val l) / 256 = val l from by omega, h1]

/-! What may be, and how it is laid. -/

def may (h : Gz) : Bool := decide (h.has < 8) && decide (h.extra.length ≤ 65535) && (decide (h.has % 2 = 1) || decide (h.extra = [])) && (decide (0 ∉ h.name) && (decide (h.has / 2 % 2 = 1) || decide (h.name = []))) && (decide (0 ∉ h.comment) && (decide (h.has / 4 % 2 = 1) || decide (h.comment = [])))

theorem may_iff (h : Gz) : may h = true ↔ h.has < 8 ∧ h.extra.length ≤ 65535 ∧ (h.has % 2 = 1 ∨ h.extra = []) ∧ (0 ∉ h.name ∧ (h.has / 2 % 2 = 1 ∨ h.name = [])) ∧ (0 ∉ h.comment ∧ (h.has / 4 % 2 = 1 ∨ h.comment = [])) := by
  unfold may
  simp only [Bool.and_eq_true, Bool.or_eq_true, decide_eq_true_eq, and_assoc]

def flagsOf (h : Gz) : Nat := h.has * 4 + h.text.toNat + 2 * h.sum.toNat

/-- What the field number k lays behind these bytes. -/
def part (h : Gz) (k : Nat) (acc : List Nat) : List Nat :=
  match k with
  | 0 => [31, 139, 8]
  | 1 => [flagsOf h]
  | 2 => le 4 h.time
  | 3 => [h.xfl]
  | 4 => [h.os]
  | 5 => if h.has % 2 = 1 then le 2 h.extra.length ++ h.extra else []
  | 6 => if h.has / 2 % 2 = 1 then h.name ++ [0] else []
  | 7 => if h.has / 4 % 2 = 1 then h.comment ++ [0] else []
  | _ => if h.sum then le 2 (lowSum acc) else []

def laid (h : Gz) : Nat → List Nat
  | 0 => []
  | k + 1 => laid h k ++ part h k (laid h k)

/-- A head's bytes. -/
def bytesOf (h : Gz) : List Nat := laid h 9

/-- Numbers that a head may hold. -/
structure Fits (h : Gz) : Prop where
  time : h.time < 4294967296
  xfl : h.xfl < 256
  os : h.os < 256
  has : h.has < 256
  extra : ∀ x ∈ h.extra, x < 256
  name : ∀ x ∈ h.name, x < 256
  comment : ∀ x ∈ h.comment, x < 256

theorem bool_le (b : Bool) : b.toNat ≤ 1 := by cases b <;> decide

theorem flagsOf_lt {h : Gz} (hm : h.has < 8) : flagsOf h < 32 := by
  unfold flagsOf
  have := bool_le h.text
  have := bool_le h.sum
  omega

theorem part_byte {h : Gz} (hf : Fits h) (hm : h.has < 8) (k : Nat) (acc : List Nat) : ∀ x ∈ part h k acc, x < 256 := by
  unfold part
  split
  · decide
  · intro x hx
    obtain rfl := List.mem_singleton.1 hx
    have := flagsOf_lt hm
    omega
  · exact le_byte _ _
  · intro x hx; obtain rfl := List.mem_singleton.1 hx; exact hf.xfl
  · intro x hx; obtain rfl := List.mem_singleton.1 hx; exact hf.os
  · split
    · intro x hx
      rcases List.mem_append.1 hx with hx | hx
      · exact le_byte _ _ x hx
      · exact hf.extra x hx
    · simp
  · split
    · intro x hx
      rcases List.mem_append.1 hx with hx | hx
      · exact hf.name x hx
      · obtain rfl := List.mem_singleton.1 hx; decide
    · simp
  · split
    · intro x hx
      rcases List.mem_append.1 hx with hx | hx
      · exact hf.comment x hx
      · obtain rfl := List.mem_singleton.1 hx; decide
    · simp
  · split
    · exact le_byte _ _
    · simp

theorem laid_byte {h : Gz} (hf : Fits h) (hm : h.has < 8) (k : Nat) : ∀ x ∈ laid h k, x < 256 := by
  induction k with
  | zero => simp [laid]
  | succ k ih =>
    intro x hx
    rcases List.mem_append.1 hx with hx | hx
    · exact ih x hx
    · exact part_byte hf hm _ _ x hx

theorem part_len (h : Gz) (k : Nat) (acc : List Nat) : (part h k acc).length ≤ 4 + h.extra.length + h.name.length + h.comment.length := by
  unfold part
  split <;> (try split) <;> simp only [List.length_append, List.length_cons, List.length_nil, le_length] <;> omega

theorem laid_len (h : Gz) (k : Nat) : (laid h k).length ≤ k * (4 + h.extra.length + h.name.length + h.comment.length) := by
  induction k with
  | zero => simp [laid]
  | succ k ih =>
    have := part_len h k (laid h k)
    show (laid h k ++ part h k (laid h k)).length ≤ _
    rw [List.length_append, Nat.succ_mul]
    omega

/-! How it is read. -/

/-- What a reader holds: its place, the fields that it has read, whether the sum was another one. -/
structure Rs where
  p : Nat
  h : Gz
  wrong : Bool

def sl (xs : List Nat) (p n : Nat) : List Nat := (xs.drop p).take n

theorem sl_length {xs : List Nat} {p n : Nat} (h : p + n ≤ xs.length) : (sl xs p n).length = n := by
  unfold sl
  rw [List.length_take, List.length_drop]
  omega

theorem sl_byte {xs : List Nat} (hb : ∀ x ∈ xs, x < 256) (p n : Nat) : ∀ x ∈ sl xs p n, x < 256 :=
  fun x hx => hb x (List.mem_of_mem_drop (List.mem_of_mem_take hx))

theorem take_sl (xs : List Nat) (p n : Nat) : xs.take (p + n) = xs.take p ++ sl xs p n := by
  unfold sl
  rw [List.take_add]

theorem sl_val {xs : List Nat} (hb : ∀ x ∈ xs, x < 256) {p n : Nat} (h : p + n ≤ xs.length) : val (sl xs p n) < 256 ^ n := by
  have := val_lt (sl_byte hb p n)
  rwa [sl_length h] at this

/-- The place of the first byte 0. -/
def zeroAt : List Nat → Option Nat
  | [] => none
  | x :: l => if x = 0 then some 0 else (zeroAt l).map (· + 1)

theorem zeroAt_some : ∀ {l : List Nat} {z : Nat}, zeroAt l = some z → z < l.length ∧ l[z]? = some 0 ∧ 0 ∉ l.take z
  | [], z, h => by simp [zeroAt] at h
  | x :: l, z, h => by
    unfold zeroAt at h
    split at h
    · rename_i hx
      obtain rfl := Option.some.inj h
      exact ⟨by simp, by simp [hx], by simp⟩
    · rename_i hx
      cases h1 : zeroAt l with
      | none => rw [h1] at h; simp at h
      | some y =>
        rw [h1] at h
        obtain rfl : y + 1 = z := by simpa using h
        obtain ⟨g1, g2, g3⟩ := zeroAt_some h1
        refine ⟨by simpa using g1, by simpa using g2, ?_⟩
        rw [List.take_succ_cons, List.mem_cons]
        rintro (e | e)
        · exact hx e.symm
        · exact g3 e

theorem zeroAt_put (t l : List Nat) (ht : 0 ∉ t) : zeroAt (t ++ 0 :: l) = some t.length := by
  induction t with
  | nil => simp [zeroAt]
  | cons x t ih =>
    rw [List.cons_append, zeroAt, if_neg (fun e => ht (by rw [e]; exact List.mem_cons_self)), ih (fun e => ht (List.mem_cons_of_mem _ e))]
    rfl

theorem zeroAt_none {l : List Nat} (h : zeroAt l = none) : 0 ∉ l := by
  induction l with
  | nil => simp
  | cons x l ih =>
    unfold zeroAt at h
    split at h
    · cases h
    · rename_i hx
      rw [List.mem_cons]
      rintro (e | e)
      · exact hx e.symm
      · exact ih (by simpa using h) e

def textR (xs : List Nat) (bit : Nat) (s : Rs) : Option (Nat × List Nat) :=
  if s.h.has / bit % 2 = 1 then (zeroAt (xs.drop s.p)).map fun z => (s.p + z + 1, sl xs s.p z) else some (s.p, [])

/-- What the field number k reads. -/
def rdStep (xs : List Nat) (k : Nat) (s : Rs) : Option Rs :=
  match k with
  | 0 => if s.p + 3 ≤ xs.length ∧ sl xs s.p 3 = [31, 139, 8] then some { s with p := s.p + 3 } else none
  | 1 => if s.p + 1 ≤ xs.length ∧ val (sl xs s.p 1) < 32 then some { s with p := s.p + 1, h := { s.h with text := val (sl xs s.p 1) % 2 == 1, sum := val (sl xs s.p 1) / 2 % 2 == 1, has := val (sl xs s.p 1) / 4 } } else none
  | 2 => if s.p + 4 ≤ xs.length then some { s with p := s.p + 4, h := { s.h with time := val (sl xs s.p 4) } } else none
  | 3 => if s.p + 1 ≤ xs.length then some { s with p := s.p + 1, h := { s.h with xfl := val (sl xs s.p 1) } } else none
  | 4 => if s.p + 1 ≤ xs.length then some { s with p := s.p + 1, h := { s.h with os := val (sl xs s.p 1) } } else none
  | 5 => if s.h.has % 2 = 1 then (if s.p + 2 ≤ xs.length ∧ s.p + 2 + val (sl xs s.p 2) ≤ xs.length then some { s with p := s.p + 2 + val (sl xs s.p 2), h := { s.h with extra := sl xs (s.p + 2) (val (sl xs s.p 2)) } } else none) else some s
  | 6 => (textR xs 2 s).map fun y => { s with p := y.1, h := { s.h with name := y.2 } }
  | 7 => (textR xs 4 s).map fun y => { s with p := y.1, h := { s.h with comment := y.2 } }
  | _ => if s.h.sum then (if s.p + 2 ≤ xs.length then some { s with p := s.p + 2, wrong := val (sl xs s.p 2) != lowSum (xs.take s.p) % 65536 } else none) else some s

def after (xs : List Nat) : Nat → Option Rs
  | 0 => some ⟨0, Gz.nil, false⟩
  | k + 1 => (after xs k).bind (rdStep xs k)

/-- The head with which bytes begin. -/
def get (xs : List Nat) : Option Rs := after xs 9

theorem after_none {xs : List Nat} {k : Nat} (h : after xs k = none) : ∀ j, after xs (k + j) = none
  | 0 => h
  | j + 1 => by
    show (after xs (k + j)).bind _ = none
    rw [after_none h j]
    rfl

theorem get_none {xs : List Nat} {k : Nat} (hk : k ≤ 9) (h : after xs k = none) : get xs = none := by
  have := after_none h (9 - k)
  rwa [show k + (9 - k) = 9 from by omega] at this

/-- What holds of a reader behind k fields. -/
structure Good (xs : List Nat) (k : Nat) (s : Rs) : Prop where
  here : s.p ≤ xs.length
  same : k ≤ 8 → xs.take s.p = laid s.h k
  has : s.h.has < 8
  time : s.h.time < 4294967296
  xfl : s.h.xfl < 256
  os : s.h.os < 256
  extra : s.h.extra.length ≤ 65535 ∧ (∀ x ∈ s.h.extra, x < 256) ∧ (s.h.has % 2 = 1 ∨ s.h.extra = [])
  name : 0 ∉ s.h.name ∧ (∀ x ∈ s.h.name, x < 256) ∧ (s.h.has / 2 % 2 = 1 ∨ s.h.name = [])
  comment : 0 ∉ s.h.comment ∧ (∀ x ∈ s.h.comment, x < 256) ∧ (s.h.has / 4 % 2 = 1 ∨ s.h.comment = [])
  blank : (k ≤ 1 → s.h.has = 0) ∧ (k ≤ 5 → s.h.extra = []) ∧ (k ≤ 6 → s.h.name = []) ∧ (k ≤ 7 → s.h.comment = []) ∧ (k ≤ 8 → s.wrong = false)

/-- The first k fields' bytes hang on these fields alone. -/
theorem laid_same {h g : Gz} : ∀ (k : Nat), (∀ j, j < k → ∀ acc, part h j acc = part g j acc) → laid h k = laid g k
  | 0, _ => rfl
  | k + 1, f => by
    show laid h k ++ _ = laid g k ++ _
    rw [laid_same k (fun j hj => f j (by omega)), f k (by omega)]

theorem one_val {xs : List Nat} {p : Nat} (h : p + 1 ≤ xs.length) : sl xs p 1 = [val (sl xs p 1)] := by
  have hl := sl_length h
  match hs : sl xs p 1, hl with
  | [x], _ => simp [val]

theorem flags_back (v : Nat) : v / 4 * 4 + (v % 2 == 1).toNat + 2 * (v / 2 % 2 == 1).toNat = v := by
  have h1 : (v % 2 == 1).toNat = v % 2 := by rcases Nat.mod_two_eq_zero_or_one v with e | e <;> simp [e]
  have h2 : (v / 2 % 2 == 1).toNat = v / 2 % 2 := by rcases Nat.mod_two_eq_zero_or_one (v / 2) with e | e <;> simp [e]
  rw [h1, h2]
  omega

theorem text_good {xs : List Nat} (hb : ∀ x ∈ xs, x < 256) {bit : Nat} {s : Rs} (hp : s.p ≤ xs.length) {q : Nat} {t : List Nat} (h : textR xs bit s = some (q, t)) :
    q ≤ xs.length ∧ xs.take q = xs.take s.p ++ (if s.h.has / bit % 2 = 1 then t ++ [0] else []) ∧ 0 ∉ t ∧ (∀ x ∈ t, x < 256) ∧ (s.h.has / bit % 2 = 1 ∨ t = []) := by
  unfold textR at h
  by_cases hc : s.h.has / bit % 2 = 1
  · rw [if_pos hc] at h ⊢
    cases hz : zeroAt (xs.drop s.p) with
    | none => rw [hz] at h; simp at h
    | some z =>
      rw [hz] at h
      obtain ⟨g1, g2, g3⟩ := zeroAt_some hz
      rw [List.length_drop] at g1
      simp only [Option.map_some, Option.some.injEq, Prod.mk.injEq] at h
      obtain ⟨rfl, rfl⟩ := h
      refine ⟨by omega, ?_, g3, sl_byte hb _ _, .inl hc⟩
      rw [Nat.add_assoc, take_sl]
      congr 1
      unfold sl
      rw [List.take_add_one, g2]
      rfl
  · rw [if_neg hc] at h ⊢
    simp only [Option.some.injEq, Prod.mk.injEq] at h
    obtain ⟨rfl, rfl⟩ := h
    exact ⟨hp, by simp, by simp, by simp, .inr rfl⟩

theorem good_start (xs : List Nat) : Good xs 0 ⟨0, Gz.nil, false⟩ :=
  ⟨Nat.zero_le _, fun _ => rfl, by decide, by decide, by decide, by decide, ⟨by decide, by simp [Gz.nil], .inr rfl⟩, ⟨by simp [Gz.nil], by simp [Gz.nil], .inr rfl⟩, ⟨by simp [Gz.nil], by simp [Gz.nil], .inr rfl⟩, ⟨fun _ => rfl, fun _ => rfl, fun _ => rfl, fun _ => rfl, fun _ => rfl⟩⟩

/-- What is taken behind a step: the fields' bytes. -/
theorem good_step {xs : List Nat} (hb : ∀ x ∈ xs, x < 256) {k : Nat} (hk : k < 9) {s s' : Rs} (g : Good xs k s) (h : rdStep xs k s = some s') : Good xs (k + 1) s' := by
  obtain ⟨p, g0, wr⟩ := s
  obtain ⟨g1, g2, g3, g4, g5, g6, g7, g8, g9, b1, b2, b3, b4, b5⟩ := g
  have hkk : k = 0 ∨ k = 1 ∨ k = 2 ∨ k = 3 ∨ k = 4 ∨ k = 5 ∨ k = 6 ∨ k = 7 ∨ k = 8 := by omega
  simp only at g1 g2 g3 g4 g5 g6 g7 g8 g9 b1 b2 b3 b4 b5
  rcases hkk with rfl | rfl | rfl | rfl | rfl | rfl | rfl | rfl | rfl
  · unfold rdStep at h
    simp only at h
    split at h
    · rename_i hc
      obtain rfl := Option.some.inj h
      refine ⟨hc.1, fun _ => ?_, g3, g4, g5, g6, g7, g8, g9, fun _ => b1 (by omega), fun _ => b2 (by omega), fun _ => b3 (by omega), fun _ => b4 (by omega), fun _ => b5 (by omega)⟩
      show xs.take (p + 3) = _
      rw [take_sl, hc.2, g2 (by omega)]
      rfl
    · cases h
  · unfold rdStep at h
    simp only at h
    split at h
    · rename_i hc
      obtain rfl := Option.some.inj h
      obtain ⟨hc1, hc2⟩ := hc
      refine ⟨hc1, fun _ => ?_, by show _ / 4 < 8; omega, g4, g5, g6, ⟨g7.1, g7.2.1, .inr (b2 (by omega))⟩, ⟨g8.1, g8.2.1, .inr (b3 (by omega))⟩, ⟨g9.1, g9.2.1, .inr (b4 (by omega))⟩, fun _ => absurd ‹1 + 1 ≤ 1› (by omega), fun _ => b2 (by omega), fun _ => b3 (by omega), fun _ => b4 (by omega), fun _ => b5 (by omega)⟩
      show xs.take (p + 1) = _
      rw [take_sl, g2 (by omega)]
      show [31, 139, 8] ++ sl xs p 1 = [31, 139, 8] ++ [flagsOf _]
      congr 1
      conv => lhs; rw [one_val hc1]
      unfold flagsOf
      simp only
      rw [flags_back]
    · cases h
  · unfold rdStep at h
    simp only at h
    split at h
    · rename_i hc
      obtain rfl := Option.some.inj h
      refine ⟨hc, fun _ => ?_, g3, sl_val hb hc, g5, g6, g7, g8, g9, fun _ => absurd ‹2 + 1 ≤ 1› (by omega), fun _ => b2 (by omega), fun _ => b3 (by omega), fun _ => b4 (by omega), fun _ => b5 (by omega)⟩
      show xs.take (p + 4) = _
      rw [take_sl, g2 (by omega)]
      show [31, 139, 8] ++ [flagsOf g0] ++ sl xs p 4 = [31, 139, 8] ++ [flagsOf _] ++ le 4 (val (sl xs p 4))
      have := le_val (sl_byte hb p 4)
      rw [sl_length hc] at this
      rw [this]
      rfl
    · cases h
  · unfold rdStep at h
    simp only at h
    split at h
    · rename_i hc
      obtain rfl := Option.some.inj h
      refine ⟨hc, fun _ => ?_, g3, g4, sl_val hb hc, g6, g7, g8, g9, fun _ => absurd ‹3 + 1 ≤ 1› (by omega), fun _ => b2 (by omega), fun _ => b3 (by omega), fun _ => b4 (by omega), fun _ => b5 (by omega)⟩
      show xs.take (p + 1) = _
      rw [take_sl, g2 (by omega)]
      show [31, 139, 8] ++ [flagsOf g0] ++ le 4 g0.time ++ sl xs p 1 = [31, 139, 8] ++ [flagsOf _] ++ le 4 g0.time ++ [val (sl xs p 1)]
      conv => lhs; rw [one_val hc]
      rfl
    · cases h
  · unfold rdStep at h
    simp only at h
    split at h
    · rename_i hc
      obtain rfl := Option.some.inj h
      refine ⟨hc, fun _ => ?_, g3, g4, g5, sl_val hb hc, g7, g8, g9, fun _ => absurd ‹4 + 1 ≤ 1› (by omega), fun _ => b2 (by omega), fun _ => b3 (by omega), fun _ => b4 (by omega), fun _ => b5 (by omega)⟩
      show xs.take (p + 1) = _
      rw [take_sl, g2 (by omega)]
      show [31, 139, 8] ++ [flagsOf g0] ++ le 4 g0.time ++ [g0.xfl] ++ sl xs p 1 = [31, 139, 8] ++ [flagsOf _] ++ le 4 g0.time ++ [g0.xfl] ++ [val (sl xs p 1)]
      conv => lhs; rw [one_val hc]
      rfl
    · cases h
  · unfold rdStep at h
    simp only at h
    split at h
    · rename_i hh
      split at h
      · rename_i hc
        obtain rfl := Option.some.inj h
        obtain ⟨hc1, hc2⟩ := hc
        have hv := sl_val hb hc1
        refine ⟨hc2, fun _ => ?_, g3, g4, g5, g6, ⟨?_, sl_byte hb _ _, .inl hh⟩, g8, g9, fun _ => absurd ‹5 + 1 ≤ 1› (by omega), fun _ => absurd ‹5 + 1 ≤ 5› (by omega), fun _ => b3 (by omega), fun _ => b4 (by omega), fun _ => b5 (by omega)⟩
        · show xs.take (p + 2 + val (sl xs p 2)) = _
          rw [take_sl, take_sl, g2 (by omega)]
          show laid g0 5 ++ sl xs p 2 ++ sl xs (p + 2) _ = laid _ 5 ++ (if g0.has % 2 = 1 then le 2 (sl xs (p + 2) (val (sl xs p 2))).length ++ sl xs (p + 2) (val (sl xs p 2)) else [])
          rw [if_pos hh, sl_length hc2]
          have := le_val (sl_byte hb p 2)
          rw [sl_length hc1] at this
          rw [this, List.append_assoc]
          rfl
        · rw [sl_length hc2]; omega
      · cases h
    · rename_i hh
      obtain rfl := Option.some.inj h
      refine ⟨g1, fun _ => ?_, g3, g4, g5, g6, g7, g8, g9, fun _ => absurd ‹5 + 1 ≤ 1› (by omega), fun _ => absurd ‹5 + 1 ≤ 5› (by omega), fun _ => b3 (by omega), fun _ => b4 (by omega), fun _ => b5 (by omega)⟩
      show _ = laid g0 5 ++ (if g0.has % 2 = 1 then _ else [])
      rw [g2 (by omega), if_neg hh, List.append_nil]
  · unfold rdStep at h
    simp only at h
    cases ht : textR xs 2 ⟨p, g0, wr⟩ with
    | none => rw [ht] at h; simp at h
    | some y =>
      obtain ⟨q, t⟩ := y
      rw [ht] at h
      obtain rfl := Option.some.inj h
      obtain ⟨k1, k2, k3⟩ := text_good hb g1 ht
      refine ⟨k1, fun _ => ?_, g3, g4, g5, g6, g7, k3, g9, fun _ => absurd ‹6 + 1 ≤ 1› (by omega), fun _ => absurd ‹6 + 1 ≤ 5› (by omega), fun _ => absurd ‹6 + 1 ≤ 6› (by omega), fun _ => b4 (by omega), fun _ => b5 (by omega)⟩
      show xs.take q = _
      rw [k2]
      show xs.take p ++ _ = _
      rw [g2 (by omega)]
      rfl
  · unfold rdStep at h
    simp only at h
    cases ht : textR xs 4 ⟨p, g0, wr⟩ with
    | none => rw [ht] at h; simp at h
    | some y =>
      obtain ⟨q, t⟩ := y
      rw [ht] at h
      obtain rfl := Option.some.inj h
      obtain ⟨k1, k2, k3⟩ := text_good hb g1 ht
      refine ⟨k1, fun _ => ?_, g3, g4, g5, g6, g7, g8, k3, fun _ => absurd ‹7 + 1 ≤ 1› (by omega), fun _ => absurd ‹7 + 1 ≤ 5› (by omega), fun _ => absurd ‹7 + 1 ≤ 6› (by omega), fun _ => absurd ‹7 + 1 ≤ 7› (by omega), fun _ => b5 (by omega)⟩
      show xs.take q = _
      rw [k2]
      show xs.take p ++ _ = _
      rw [g2 (by omega)]
      rfl
  · unfold rdStep at h
    simp only at h
    split at h
    · split at h
      · rename_i hc
        obtain rfl := Option.some.inj h
        exact ⟨hc, fun _ => absurd ‹8 + 1 ≤ 8› (by omega), g3, g4, g5, g6, g7, g8, g9, fun _ => absurd ‹8 + 1 ≤ 1› (by omega), fun _ => absurd ‹8 + 1 ≤ 5› (by omega), fun _ => absurd ‹8 + 1 ≤ 6› (by omega), fun _ => absurd ‹8 + 1 ≤ 7› (by omega), fun _ => absurd ‹8 + 1 ≤ 8› (by omega)⟩
      · cases h
    · obtain rfl := Option.some.inj h
      exact ⟨g1, fun _ => absurd ‹8 + 1 ≤ 8› (by omega), g3, g4, g5, g6, g7, g8, g9, fun _ => absurd ‹8 + 1 ≤ 1› (by omega), fun _ => absurd ‹8 + 1 ≤ 5› (by omega), fun _ => absurd ‹8 + 1 ≤ 6› (by omega), fun _ => absurd ‹8 + 1 ≤ 7› (by omega), fun _ => absurd ‹8 + 1 ≤ 8› (by omega)⟩

theorem good_after {xs : List Nat} (hb : ∀ x ∈ xs, x < 256) : ∀ {k : Nat} {s : Rs}, k ≤ 9 → after xs k = some s → Good xs k s
  | 0, s, _, h => by obtain rfl := Option.some.inj h; exact good_start xs
  | k + 1, s, hk, h => by
    cases h1 : after xs k with
    | none =>
      have : after xs (k + 1) = none := by show (after xs k).bind _ = none; rw [h1]; rfl
      rw [this] at h
      cases h
    | some t =>
      have h2 : after xs (k + 1) = rdStep xs k t := by show (after xs k).bind _ = _; rw [h1]; rfl
      rw [h2] at h
      exact good_step hb (by omega) (good_after hb (by omega) h1) h

end Go.Proofs.Ytiggbioaaglgaaa.Fr
