/-
  FrP FrQ, one behind the other (merged by wip/merge.py). No conditions but those that each states.
-/
import Derived.Test.YtpinfihmageeoaaGreatGY

namespace Go.Proofs.YtpinfihmageeoaaGreat.Fr
open Crc

structure Gz where
  text : Bool
  time : Nat
  xfl : Nat
  os : Nat
  extra : List Nat
  name : List Nat
  comment : List Nat
  has : Nat
  sum : Bool

def Gz.nil : Gz := ⟨false, 0, 0, 0, [], [], [], 0, false⟩

def le : Nat → Nat → List Nat
  | 0, _ => []
  | n + 1, v => v % 256 :: le n (v / 256)

def val : List Nat → Nat
  | [] => 0
  | x :: l => x + 256 * val l

theorem le_length (n v : Nat) : (le n v).length = n := by
  induction n generalizing v with
  | zero => rfl
  | succ n ih => simp [le, ih]

theorem le_byte (n v : Nat) : ∀ x ∈ le n v, x < 256 := by
  induction n generalizing v with
  | zero => simp [le]
  | succ n ih =>
    intro x hx
    rcases List.mem_cons.1 hx with rfl | hx
    · omega
    · exact ih _ x hx

theorem le_snoc (n v : Nat) : le (n + 1) v = le n v ++ [v / 256 ^ n % 256] := by
  induction n generalizing v with
  | zero => simp [le]
  | succ n ih =>
    show v % 256 :: le (n + 1) (v / 256) = (v % 256 :: le n (v / 256)) ++ _
    rw [ih, Nat.div_div_eq_div_mul, Nat.pow_succ, Nat.mul_comm (256 ^ n)]
    rfl

theorem val_le (n v : Nat) : val (le n v) = v % 256 ^ n := by
  induction n generalizing v with
  | zero => simp [le, val, Nat.mod_one]
  | succ n ih =>
    show v % 256 + 256 * val (le n (v / 256)) = _
    rw [ih, Nat.pow_succ, Nat.mul_comm (256 ^ n), Nat.mod_mul]

theorem val_append (a b : List Nat) : val (a ++ b) = val a + 256 ^ a.length * val b := by
  induction a with
  | nil => simp [val]
  | cons x a ih =>
    show x + 256 * val (a ++ b) = x + 256 * val a + 256 ^ (a.length + 1) * val b
    rw [ih, Nat.pow_succ, Nat.mul_add, Nat.mul_comm (256 ^ a.length) 256, Nat.mul_assoc]
    omega

theorem val_lt {l : List Nat} (h : ∀ x ∈ l, x < 256) : val l < 256 ^ l.length := by
  induction l with
  | nil => simp [val]
  | cons x l ih =>
    have h1 := ih (fun y hy => h y (List.mem_cons_of_mem _ hy))
    have h2 := h x List.mem_cons_self
    show x + 256 * val l < 256 ^ (l.length + 1)
    rw [Nat.pow_succ, Nat.mul_comm]
    omega

theorem le_val {l : List Nat} (h : ∀ x ∈ l, x < 256) : le l.length (val l) = l := by
  induction l with
  | nil => rfl
  | cons x l ih =>
    have h1 := ih (fun y hy => h y (List.mem_cons_of_mem _ hy))
    have h2 := h x List.mem_cons_self
    show (x + 256 * val l) % 256 :: le l.length ((x + 256 * val l) / 256) = _
    rw [show (x + 256 * val l) % 256 = x from by omega, show (x + 256 * val l) / 256 = val l from by omega, h1]


def may (h : Gz) : Bool := decide (h.has < 8) && decide (h.extra.length ≤ 65535) && (decide (h.has % 2 = 1) || decide (h.extra = [])) && (decide (0 ∉ h.name) && (decide (h.has / 2 % 2 = 1) || decide (h.name = []))) && (decide (0 ∉ h.comment) && (decide (h.has / 4 % 2 = 1) || decide (h.comment = [])))

theorem may_iff (h : Gz) : may h = true ↔ h.has < 8 ∧ h.extra.length ≤ 65535 ∧ (h.has % 2 = 1 ∨ h.extra = []) ∧ (0 ∉ h.name ∧ (h.has / 2 % 2 = 1 ∨ h.name = [])) ∧ (0 ∉ h.comment ∧ (h.has / 4 % 2 = 1 ∨ h.comment = [])) := by
  unfold may
  simp only [Bool.and_eq_true, Bool.or_eq_true, decide_eq_true_eq, and_assoc]

def flagsOf (h : Gz) : Nat := h.has * 4 + h.text.toNat + 2 * h.sum.toNat

def part (h : Gz) (k : Nat) (acc : List Nat) : List Nat :=
  match k with
  | 0 => [31, 139, 8]
  | 1 => [flagsOf h]
  | 2 => le 4 h.time
  | 3 => [h.xfl]
  | 4 => [h.os]
  | 5 => if h.has % 2 = 1 then le 2 h.extra.length ++ h.extra else []
  | 6 => if h.has / 2 % 2 = 1 then h.name ++ [0] else []
  | 7 => if h.has / 4 % 2 = 1 then h.comment ++ [0] else []
  | _ => if h.sum then le 2 (lowSum acc) else []

def laid (h : Gz) : Nat → List Nat
  | 0 => []
  | k + 1 => laid h k ++ part h k (laid h k)

def bytesOf (h : Gz) : List Nat := laid h 9

structure Fits (h : Gz) : Prop where
  time : h.time < 4294967296
  xfl : h.xfl < 256
  os : h.os < 256
  has : h.has < 256
  extra : ∀ x ∈ h.extra, x < 256
  name : ∀ x ∈ h.name, x < 256
  comment : ∀ x ∈ h.comment, x < 256

theorem bool_le (b : Bool) : b.toNat ≤ 1 := by cases b <;> decide

theorem flagsOf_lt {h : Gz} (hm : h.has < 8) : flagsOf h < 32 := by
  unfold flagsOf
  have := bool_le h.text
  have := bool_le h.sum
  omega

theorem part_byte {h : Gz} (hf : Fits h) (hm : h.has < 8) (k : Nat) (acc : List Nat) : ∀ x ∈ part h k acc, x < 256 := by
  unfold part
  split
  · decide
  · intro x hx
    obtain rfl := List.mem_singleton.1 hx
    have := flagsOf_lt hm
    omega
  · exact le_byte _ _
  · intro x hx; obtain rfl := List.mem_singleton.1 hx; exact hf.xfl
  · intro x hx; obtain rfl := List.mem_singleton.1 hx; exact hf.os
  · split
    · intro x hx
      rcases List.mem_append.1 hx with hx | hx
      · exact le_byte _ _ x hx
      · exact hf.extra x hx
    · simp
  · split
    · intro x hx
      rcases List.mem_append.1 hx with hx | hx
      · exact hf.name x hx
      · obtain rfl := List.mem_singleton.1 hx; decide
    · simp
  · split
    · intro x hx
      rcases List.mem_append.1 hx with hx | hx
      · exact hf.comment x hx
      · obtain rfl := List.mem_singleton.1 hx; decide
    · simp
  · split
    · exact le_byte _ _
    · simp

theorem laid_byte {h : Gz} (hf : Fits h) (hm : h.has < 8) (k : Nat) : ∀ x ∈ laid h k, x < 256 := by
  induction k with
  | zero => simp [laid]
  | succ k ih =>
    intro x hx
    rcases List.mem_append.1 hx with hx | hx
    · exact ih x hx
    · exact part_byte hf hm _ _ x hx

theorem part_len (h : Gz) (k : Nat) (acc : List Nat) : (part h k acc).length ≤ 4 + h.extra.length + h.name.length + h.comment.length := by
  unfold part
  split <;> (try split) <;> simp only [List.length_append, List.length_cons, List.length_nil, le_length] <;> omega

theorem laid_len (h : Gz) (k : Nat) : (laid h k).length ≤ k * (4 + h.extra.length + h.name.length + h.comment.length) := by
  induction k with
  | zero => simp [laid]
  | succ k ih =>
    have := part_len h k (laid h k)
    show (laid h k ++ part h k (laid h k)).length ≤ _
    rw [List.length_append, Nat.succ_mul]
    omega


structure Rs where
  p : Nat
  h : Gz
  wrong : Bool

def sl (xs : List Nat) (p n : Nat) : List Nat := (xs.drop p).take n

theorem sl_length {xs : List Nat} {p n : Nat} (h : p + n ≤ xs.length) : (sl xs p n).length = n := by
  unfold sl
  rw [List.length_take, List.length_drop]
  omega

theorem sl_byte {xs : List Nat} (hb : ∀ x ∈ xs, x < 256) (p n : Nat) : ∀ x ∈ sl xs p n, x < 256 :=
  fun x hx => hb x (List.mem_of_mem_drop (List.mem_of_mem_take hx))

theorem take_sl (xs : List Nat) (p n : Nat) : xs.take (p + n) = xs.take p ++ sl xs p n := by
  unfold sl
  rw [List.take_add]

theorem sl_val {xs : List Nat} (hb : ∀ x ∈ xs, x < 256) {p n : Nat} (h : p + n ≤ xs.length) : val (sl xs p n) < 256 ^ n := by
  have := val_lt (sl_byte hb p n)
  rwa [sl_length h] at this

def zeroAt : List Nat → Option Nat
  | [] => none
  | x :: l => if x = 0 then some 0 else (zeroAt l).map (· + 1)

theorem zeroAt_some : ∀ {l : List Nat} {z : Nat}, zeroAt l = some z → z < l.length ∧ l[z]? = some 0 ∧ 0 ∉ l.take z
  | [], z, h => by simp [zeroAt] at h
  | x :: l, z, h => by
    unfold zeroAt at h
    split at h
    · rename_i hx
      obtain rfl := Option.some.inj h
      exact ⟨by simp, by simp [hx], by simp⟩
    · rename_i hx
      cases h1 : zeroAt l with
      | none => rw [h1] at h; simp at h
      | some y =>
        rw [h1] at h
        obtain rfl : y + 1 = z := by simpa using h
        obtain ⟨g1, g2, g3⟩ := zeroAt_some h1
        refine ⟨by simpa using g1, by simpa using g2, ?_⟩
        rw [List.take_succ_cons, List.mem_cons]
        rintro (e | e)
        · exact hx e.symm
        · exact g3 e

theorem zeroAt_put (t l : List Nat) (ht : 0 ∉ t) : zeroAt (t ++ 0 :: l) = some t.length := by
  induction t with
  | nil => simp [zeroAt]
  | cons x t ih =>
    rw [List.cons_append, zeroAt, if_neg (fun e => ht (by rw [e]; exact List.mem_cons_self)), ih (fun e => ht (List.mem_cons_of_mem _ e))]
    rfl

theorem zeroAt_none {l : List Nat} (h : zeroAt l = none) : 0 ∉ l := by
  induction l with
  | nil => simp
  | cons x l ih =>
    unfold zeroAt at h
    split at h
    · cases h
    · rename_i hx
      rw [List.mem_cons]
      rintro (e | e)
      · exact hx e.symm
      · exact ih (by simpa using h) e

def textR (xs : List Nat) (bit : Nat) (s : Rs) : Option (Nat × List Nat) :=
  if s.h.has / bit % 2 = 1 then (zeroAt (xs.drop s.p)).map fun z => (s.p + z + 1, sl xs s.p z) else some (s.p, [])

def rdStep (xs : List Nat) (k : Nat) (s : Rs) : Option Rs :=
  match k with
  | 0 => if s.p + 3 ≤ xs.length ∧ sl xs s.p 3 = [31, 139, 8] then some { s with p := s.p + 3 } else none
  | 1 => if s.p + 1 ≤ xs.length ∧ val (sl xs s.p 1) < 32 then some { s with p := s.p + 1, h := { s.h with text := val (sl xs s.p 1) % 2 == 1, sum := val (sl xs s.p 1) / 2 % 2 == 1, has := val (sl xs s.p 1) / 4 } } else none
  | 2 => if s.p + 4 ≤ xs.length then some { s with p := s.p + 4, h := { s.h with time := val (sl xs s.p 4) } } else none
  | 3 => if s.p + 1 ≤ xs.length then some { s with p := s.p + 1, h := { s.h with xfl := val (sl xs s.p 1) } } else none
  | 4 => if s.p + 1 ≤ xs.length then some { s with p := s.p + 1, h := { s.h with os := val (sl xs s.p 1) } } else none
  | 5 => if s.h.has % 2 = 1 then (if s.p + 2 ≤ xs.length ∧ s.p + 2 + val (sl xs s.p 2) ≤ xs.length then some { s with p := s.p + 2 + val (sl xs s.p 2), h := { s.h with extra := sl xs (s.p + 2) (val (sl xs s.p 2)) } } else none) else some s
  | 6 => (textR xs 2 s).map fun y => { s with p := y.1, h := { s.h with name := y.2 } }
  | 7 => (textR xs 4 s).map fun y => { s with p := y.1, h := { s.h with comment := y.2 } }
  | _ => if s.h.sum then (if s.p + 2 ≤ xs.length then some { s with p := s.p + 2, wrong := val (sl xs s.p 2) != lowSum (xs.take s.p) % 65536 } else none) else some s

def after (xs : List Nat) : Nat → Option Rs
  | 0 => some ⟨0, Gz.nil, false⟩
  | k + 1 => (after xs k).bind (rdStep xs k)

def get (xs : List Nat) : Option Rs := after xs 9

theorem after_none {xs : List Nat} {k : Nat} (h : after xs k = none) : ∀ j, after xs (k + j) = none
  | 0 => h
  | j + 1 => by
    show (after xs (k + j)).bind _ = none
    rw [after_none h j]
    rfl

theorem get_none {xs : List Nat} {k : Nat} (hk : k ≤ 9) (h : after xs k = none) : get xs = none := by
  have := after_none h (9 - k)
  rwa [show k + (9 - k) = 9 from by omega] at this

structure Good (xs : List Nat) (k : Nat) (s : Rs) : Prop where
  here : s.p ≤ xs.length
  same : k ≤ 8 → xs.take s.p = laid s.h k
  has : s.h.has < 8
  time : s.h.time < 4294967296
  xfl : s.h.xfl < 256
  os : s.h.os < 256
  extra : s.h.extra.length ≤ 65535 ∧ (∀ x ∈ s.h.extra, x < 256) ∧ (s.h.has % 2 = 1 ∨ s.h.extra = [])
  name : 0 ∉ s.h.name ∧ (∀ x ∈ s.h.name, x < 256) ∧ (s.h.has / 2 % 2 = 1 ∨ s.h.name = [])
  comment : 0 ∉ s.h.comment ∧ (∀ x ∈ s.h.comment, x < 256) ∧ (s.h.has / 4 % 2 = 1 ∨ s.h.comment = [])
  blank : (k ≤ 1 → s.h.has = 0) ∧ (k ≤ 5 → s.h.extra = []) ∧ (k ≤ 6 → s.h.name = []) ∧ (k ≤ 7 → s.h.comment = []) ∧ (k ≤ 8 → s.wrong = false)

theorem laid_same {h g : Gz} : ∀ (k : Nat), (∀ j, j < k → ∀ acc, part h j acc = part g j acc) → laid h k = laid g k
  | 0, _ => rfl
  | k + 1, f => by
    show laid h k ++ _ = laid g k ++ _
    rw [laid_same k (fun j hj => f j (by omega)), f k (by omega)]

theorem one_val {xs : List Nat} {p : Nat} (h : p + 1 ≤ xs.length) : sl xs p 1 = [val (sl xs p 1)] := by
  have hl := sl_length h
  match hs : sl xs p 1, hl with
  | [x], _ => simp [val]

theorem flags_back (v : Nat) : v / 4 * 4 + (v % 2 == 1).toNat + 2 * (v / 2 % 2 == 1).toNat = v := by
  have h1 : (v % 2 == 1).toNat = v % 2 := by rcases Nat.mod_two_eq_zero_or_one v with e | e <;> simp [e]
  have h2 : (v / 2 % 2 == 1).toNat = v / 2 % 2 := by rcases Nat.mod_two_eq_zero_or_one (v / 2) with e | e <;> simp [e]
  rw [h1, h2]
  omega

theorem text_good {xs : List Nat} (hb : ∀ x ∈ xs, x < 256) {bit : Nat} {s : Rs} (hp : s.p ≤ xs.length) {q : Nat} {t : List Nat} (h : textR xs bit s = some (q, t)) :
    q ≤ xs.length ∧ xs.take q = xs.take s.p ++ (if s.h.has / bit % 2 = 1 then t ++ [0] else []) ∧ 0 ∉ t ∧ (∀ x ∈ t, x < 256) ∧ (s.h.has / bit % 2 = 1 ∨ t = []) := by
  unfold textR at h
  by_cases hc : s.h.has / bit % 2 = 1
  · rw [if_pos hc] at h ⊢
    cases hz : zeroAt (xs.drop s.p) with
    | none => rw [hz] at h; simp at h
    | some z =>
      rw [hz] at h
      obtain ⟨g1, g2, g3⟩ := zeroAt_some hz
      rw [List.length_drop] at g1
      simp only [Option.map_some, Option.some.injEq, Prod.mk.injEq] at h
      obtain ⟨rfl, rfl⟩ := h
      refine ⟨by omega, ?_, g3, sl_byte hb _ _, .inl hc⟩
      rw [Nat.add_assoc, take_sl]
      congr 1
      unfold sl
      rw [List.take_add_one, g2]
      rfl
  · rw [if_neg hc] at h ⊢
    simp only [Option.some.injEq, Prod.mk.injEq] at h
    obtain ⟨rfl, rfl⟩ := h
    exact ⟨hp, by simp, by simp, by simp, .inr rfl⟩

theorem good_start (xs : List Nat) : Good xs 0 ⟨0, Gz.nil, false⟩ :=
  ⟨Nat.zero_le _, fun _ => rfl, by decide, by decide, by decide, by decide, ⟨by decide, by simp [Gz.nil], .inr rfl⟩, ⟨by simp [Gz.nil], by simp [Gz.nil], .inr rfl⟩, ⟨by simp [Gz.nil], by simp [Gz.nil], .inr rfl⟩, ⟨fun _ => rfl, fun _ => rfl, fun _ => rfl, fun _ => rfl, fun _ => rfl⟩⟩

theorem good_step {xs : List Nat} (hb : ∀ x ∈ xs, x < 256) {k : Nat} (hk : k < 9) {s s' : Rs} (g : Good xs k s) (h : rdStep xs k s = some s') : Good xs (k + 1) s' := by
  obtain ⟨p, g0, wr⟩ := s
  obtain ⟨g1, g2, g3, g4, g5, g6, g7, g8, g9, b1, b2, b3, b4, b5⟩ := g
  have hkk : k = 0 ∨ k = 1 ∨ k = 2 ∨ k = 3 ∨ k = 4 ∨ k = 5 ∨ k = 6 ∨ k = 7 ∨ k = 8 := by omega
  simp only at g1 g2 g3 g4 g5 g6 g7 g8 g9 b1 b2 b3 b4 b5
  rcases hkk with rfl | rfl | rfl | rfl | rfl | rfl | rfl | rfl | rfl
  · unfold rdStep at h
    simp only at h
    split at h
    · rename_i hc
      obtain rfl := Option.some.inj h
      refine ⟨hc.1, fun _ => ?_, g3, g4, g5, g6, g7, g8, g9, fun _ => b1 (by omega), fun _ => b2 (by omega), fun _ => b3 (by omega), fun _ => b4 (by omega), fun _ => b5 (by omega)⟩
      show xs.take (p + 3) = _
      rw [take_sl, hc.2, g2 (by omega)]
      rfl
    · cases h
  · unfold rdStep at h
    simp only at h
    split at h
    · rename_i hc
      obtain rfl := Option.some.inj h
      obtain ⟨hc1, hc2⟩ := hc
      refine ⟨hc1, fun _ => ?_, by show _ / 4 < 8; omega, g4, g5, g6, ⟨g7.1, g7.2.1, .inr (b2 (by omega))⟩, ⟨g8.1, g8.2.1, .inr (b3 (by omega))⟩, ⟨g9.1, g9.2.1, .inr (b4 (by omega))⟩, fun _ => absurd ‹1 + 1 ≤ 1› (by omega), fun _ => b2 (by omega), fun _ => b3 (by omega), fun _ => b4 (by omega), fun _ => b5 (by omega)⟩
      show xs.take (p + 1) = _
      rw [take_sl, g2 (by omega)]
      show [31, 139, 8] ++ sl xs p 1 = [31, 139, 8] ++ [flagsOf _]
      congr 1
      conv => lhs; rw [one_val hc1]
      unfold flagsOf
      simp only
      rw [flags_back]
    · cases h
  · unfold rdStep at h
    simp only at h
    split at h
    · rename_i hc
      obtain rfl := Option.some.inj h
      refine ⟨hc, fun _ => ?_, g3, sl_val hb hc, g5, g6, g7, g8, g9, fun _ => absurd ‹2 + 1 ≤ 1› (by omega), fun _ => b2 (by omega), fun _ => b3 (by omega), fun _ => b4 (by omega), fun _ => b5 (by omega)⟩
      show xs.take (p + 4) = _
      rw [take_sl, g2 (by omega)]
      show [31, 139, 8] ++ [flagsOf g0] ++ sl xs p 4 = [31, 139, 8] ++ [flagsOf _] ++ le 4 (val (sl xs p 4))
      have := le_val (sl_byte hb p 4)
      rw [sl_length hc] at this
      rw [this]
      rfl
    · cases h
  · unfold rdStep at h
    simp only at h
    split at h
    · rename_i hc
      obtain rfl := Option.some.inj h
      refine ⟨hc, fun _ => ?_, g3, g4, sl_val hb hc, g6, g7, g8, g9, fun _ => absurd ‹3 + 1 ≤ 1› (by omega), fun _ => b2 (by omega), fun _ => b3 (by omega), fun _ => b4 (by omega), fun _ => b5 (by omega)⟩
      show xs.take (p + 1) = _
      rw [take_sl, g2 (by omega)]
      show [31, 139, 8] ++ [flagsOf g0] ++ le 4 g0.time ++ sl xs p 1 = [31, 139, 8] ++ [flagsOf _] ++ le 4 g0.time ++ [val (sl xs p 1)]
      conv => lhs; rw [one_val hc]
      rfl
    · cases h
  · unfold rdStep at h
    simp only at h
    split at h
    · rename_i hc
      obtain rfl := Option.some.inj h
      refine ⟨hc, fun _ => ?_, g3, g4, g5, sl_val hb hc, g7, g8, g9, fun _ => absurd ‹4 + 1 ≤ 1› (by omega), fun _ => b2 (by omega), fun _ => b3 (by omega), fun _ => b4 (by omega), fun _ => b5 (by omega)⟩
      show xs.take (p + 1) = _
      rw [take_sl, g2 (by omega)]
      show [31, 139, 8] ++ [flagsOf g0] ++ le 4 g0.time ++ [g0.xfl] ++ sl xs p 1 = [31, 139, 8] ++ [flagsOf _] ++ le 4 g0.time ++ [g0.xfl] ++ [val (sl xs p 1)]
      conv => lhs; rw [one_val hc]
      rfl
    · cases h
  · unfold rdStep at h
    simp only at h
    split at h
    · rename_i hh
      split at h
      · rename_i hc
        obtain rfl := Option.some.inj h
        obtain ⟨hc1, hc2⟩ := hc
        have hv := sl_val hb hc1
        refine ⟨hc2, fun _ => ?_, g3, g4, g5, g6, ⟨?_, sl_byte hb _ _, .inl hh⟩, g8, g9, fun _ => absurd ‹5 + 1 ≤ 1› (by omega), fun _ => absurd ‹5 + 1 ≤ 5› (by omega), fun _ => b3 (by omega), fun _ => b4 (by omega), fun _ => b5 (by omega)⟩
        · show xs.take (p + 2 + val (sl xs p 2)) = _
          rw [take_sl, take_sl, g2 (by omega)]
          show laid g0 5 ++ sl xs p 2 ++ sl xs (p + 2) _ = laid _ 5 ++ (if g0.has % 2 = 1 then le 2 (sl xs (p + 2) (val (sl xs p 2))).length ++ sl xs (p + 2) (val (sl xs p 2)) else [])
          rw [if_pos hh, sl_length hc2]
          have := le_val (sl_byte hb p 2)
          rw [sl_length hc1] at this
          rw [this, List.append_assoc]
          rfl
        · rw [sl_length hc2]; omega
      · cases h
    · rename_i hh
      obtain rfl := Option.some.inj h
      refine ⟨g1, fun _ => ?_, g3, g4, g5, g6, g7, g8, g9, fun _ => absurd ‹5 + 1 ≤ 1› (by omega), fun _ => absurd ‹5 + 1 ≤ 5› (by omega), fun _ => b3 (by omega), fun _ => b4 (by omega), fun _ => b5 (by omega)⟩
      show _ = laid g0 5 ++ (if g0.has % 2 = 1 then _ else [])
      rw [g2 (by omega), if_neg hh, List.append_nil]
  · unfold rdStep at h
    simp only at h
    cases ht : textR xs 2 ⟨p, g0, wr⟩ with
    | none => rw [ht] at h; simp at h
    | some y =>
      obtain ⟨q, t⟩ := y
      rw [ht] at h
      obtain rfl := Option.some.inj h
      obtain ⟨k1, k2, k3⟩ := text_good hb g1 ht
      refine ⟨k1, fun _ => ?_, g3, g4, g5, g6, g7, k3, g9, fun _ => absurd ‹6 + 1 ≤ 1› (by omega), fun _ => absurd ‹6 + 1 ≤ 5› (by omega), fun _ => absurd ‹6 + 1 ≤ 6› (by omega), fun _ => b4 (by omega), fun _ => b5 (by omega)⟩
      show xs.take q = _
      rw [k2]
      show xs.take p ++ _ = _
      rw [g2 (by omega)]
      rfl
  · unfold rdStep at h
    simp only at h
    cases ht : textR xs 4 ⟨p, g0, wr⟩ with
    | none => rw [ht] at h; simp at h
    | some y =>
      obtain ⟨q, t⟩ := y
      rw [ht] at h
      obtain rfl := Option.some.inj h
      obtain ⟨k1, k2, k3⟩ := text_good hb g1 ht
      refine ⟨k1, fun _ => ?_, g3, g4, g5, g6, g7, g8, k3, fun _ => absurd ‹7 + 1 ≤ 1› (by omega), fun _ => absurd ‹7 + 1 ≤ 5› (by omega), fun _ => absurd ‹7 + 1 ≤ 6› (by omega), fun _ => absurd ‹7 + 1 ≤ 7› (by omega), fun _ => b5 (by omega)⟩
      show xs.take q = _
      rw [k2]
      show xs.take p ++ _ = _
      rw [g2 (by omega)]
      rfl
  · unfold rdStep at h
    simp only at h
    split at h
    · split at h
      · rename_i hc
        obtain rfl := Option.some.inj h
        exact ⟨hc, fun _ => absurd ‹8 + 1 ≤ 8› (by omega), g3, g4, g5, g6, g7, g8, g9, fun _ => absurd ‹8 + 1 ≤ 1› (by omega), fun _ => absurd ‹8 + 1 ≤ 5› (by omega), fun _ => absurd ‹8 + 1 ≤ 6› (by omega), fun _ => absurd ‹8 + 1 ≤ 7› (by omega), fun _ => absurd ‹8 + 1 ≤ 8› (by omega)⟩
      · cases h
    · obtain rfl := Option.some.inj h
      exact ⟨g1, fun _ => absurd ‹8 + 1 ≤ 8› (by omega), g3, g4, g5, g6, g7, g8, g9, fun _ => absurd ‹8 + 1 ≤ 1› (by omega), fun _ => absurd ‹8 + 1 ≤ 5› (by omega), fun _ => absurd ‹8 + 1 ≤ 6› (by omega), fun _ => absurd ‹8 + 1 ≤ 7› (by omega), fun _ => absurd ‹8 + 1 ≤ 8› (by omega)⟩

theorem good_after {xs : List Nat} (hb : ∀ x ∈ xs, x < 256) : ∀ {k : Nat} {s : Rs}, k ≤ 9 → after xs k = some s → Good xs k s
  | 0, s, _, h => by obtain rfl := Option.some.inj h; exact good_start xs
  | k + 1, s, hk, h => by
    cases h1 : after xs k with
    | none =>
      have : after xs (k + 1) = none := by show (after xs k).bind _ = none; rw [h1]; rfl
      rw [this] at h
      cases h
    | some t =>
      have h2 : after xs (k + 1) = rdStep xs k t := by show (after xs k).bind _ = _; rw [h1]; rfl
      rw [h2] at h
      exact good_step hb (by omega) (good_after hb (by omega) h1) h

end Go.Proofs.YtpinfihmageeoaaGreat.Fr

namespace Go.Proofs.YtpinfihmageeoaaGreat.Fr
open Crc

theorem sl_at (A B C : List Nat) : sl (A ++ (B ++ C)) A.length B.length = B := by
  unfold sl
  rw [List.drop_left, List.take_left]

theorem sl_at' {xs A B C : List Nat} {p n : Nat} (h : xs = A ++ (B ++ C)) (hp : A.length = p) (hn : B.length = n) : sl xs p n = B := by
  subst h hp hn
  exact sl_at A B C

theorem laid_split (h : Gz) (R : List Nat) : ∀ (j k : Nat), k + j = 8 → 0 < j → ∃ C, laid h 8 ++ R = laid h k ++ (part h k (laid h k) ++ C)
  | 0, _, _, h0 => absurd h0 (by omega)
  | 1, k, e, _ => by
    obtain rfl : k = 7 := by omega
    exact ⟨R, by show (laid h 7 ++ _) ++ R = _; rw [List.append_assoc]⟩
  | j + 2, k, e, _ => by
    obtain ⟨C, hC⟩ := laid_split h R (j + 1) (k + 1) (by omega) (by omega)
    exact ⟨_, by rw [hC]; show (laid h k ++ _) ++ _ = _; rw [List.append_assoc]⟩

def upto (h : Gz) (k : Nat) : Gz :=
  ⟨if 2 ≤ k then h.text else false, if 3 ≤ k then h.time else 0, if 4 ≤ k then h.xfl else 0, if 5 ≤ k then h.os else 0, if 6 ≤ k then h.extra else [], if 7 ≤ k then h.name else [], if 8 ≤ k then h.comment else [], if 2 ≤ k then h.has else 0, if 2 ≤ k then h.sum else false⟩

theorem flags_parts (h : Gz) : (flagsOf h % 2 == 1) = h.text ∧ (flagsOf h / 2 % 2 == 1) = h.sum ∧ flagsOf h / 4 = h.has := by
  unfold flagsOf
  have h1 := bool_le h.text
  have h2 := bool_le h.sum
  refine ⟨?_, ?_, by omega⟩
  · have : (h.has * 4 + h.text.toNat + 2 * h.sum.toNat) % 2 = h.text.toNat := by omega
    rw [this]; cases h.text <;> rfl
  · have : (h.has * 4 + h.text.toNat + 2 * h.sum.toNat) / 2 % 2 = h.sum.toNat := by omega
    rw [this]; cases h.sum <;> rfl

theorem text_put {h : Gz} {xs A C t : List Nat} {bit : Nat} {s : Rs} (hh : s.h.has = h.has) (hp : s.p = A.length) (hx : xs = A ++ ((if h.has / bit % 2 = 1 then t ++ [0] else []) ++ C)) (ht : 0 ∉ t) (h0 : h.has / bit % 2 = 1 ∨ t = []) :
    textR xs bit s = some (A.length + (if h.has / bit % 2 = 1 then t ++ [0] else []).length, t) := by
  subst hx
  unfold textR
  rw [hh, hp]
  by_cases c : h.has / bit % 2 = 1
  · rw [if_pos c, if_pos c, List.drop_left, List.append_assoc, List.singleton_append, zeroAt_put _ _ ht]
    simp only [Option.map_some, Option.some.injEq, Prod.mk.injEq]
    refine ⟨by simp; omega, ?_⟩
    exact sl_at A t (0 :: C)
  · rw [if_neg c, if_neg c]
    rcases h0 with e | e
    · exact absurd e c
    · subst e; simp

theorem after_put {h : Gz} (hf : Fits h) (hm : may h = true) (R : List Nat) : ∀ (k : Nat), k ≤ 8 → after (laid h 8 ++ R) k = some ⟨(laid h k).length, upto h k, false⟩ := by
  obtain ⟨m1, m2, m3, ⟨m4, m5⟩, m6, m7⟩ := (may_iff h).1 hm
  have step : ∀ k, k < 8 → rdStep (laid h 8 ++ R) k ⟨(laid h k).length, upto h k, false⟩ = some ⟨(laid h (k + 1)).length, upto h (k + 1), false⟩ := by
    intro k hk
    obtain ⟨C, hC⟩ := laid_split h R (8 - k) k (by omega) (by omega)
    have hlen : (laid h (k + 1)).length = (laid h k).length + (part h k (laid h k)).length := by show (laid h k ++ _).length = _; rw [List.length_append]
    have hle : (laid h k).length + (part h k (laid h k)).length ≤ (laid h 8 ++ R).length := by rw [hC]; simp only [List.length_append]; omega
    have hs := sl_at (laid h k) (part h k (laid h k)) C
    rw [← hC] at hs
    rw [hlen]
    generalize laid h 8 ++ R = xs at *
    generalize hA : laid h k = A at *
    have hkk : k = 0 ∨ k = 1 ∨ k = 2 ∨ k = 3 ∨ k = 4 ∨ k = 5 ∨ k = 6 ∨ k = 7 := by omega
    rcases hkk with rfl | rfl | rfl | rfl | rfl | rfl | rfl | rfl
    · have e : part h 0 A = [31, 139, 8] := rfl
      rw [e] at hs hle ⊢
      unfold rdStep
      rw [if_pos ⟨hle, hs⟩]
      rfl
    · have e : part h 1 A = [flagsOf h] := rfl
      rw [e] at hs hle ⊢
      unfold rdStep
      simp only [List.length_singleton] at hs hle ⊢
      obtain ⟨f1, f2, f3⟩ := flags_parts h
      have hv : val [flagsOf h] = flagsOf h := by simp [val]
      rw [hs, hv, if_pos ⟨hle, flagsOf_lt m1⟩, f1, f2, f3]
      rfl
    · have e : part h 2 A = le 4 h.time := rfl
      rw [e] at hs hle ⊢
      unfold rdStep
      rw [le_length] at hs hle ⊢
      simp only
      rw [hs, if_pos hle, val_le, Nat.mod_eq_of_lt hf.time]
      rfl
    · have e : part h 3 A = [h.xfl] := rfl
      rw [e] at hs hle ⊢
      unfold rdStep
      simp only [List.length_singleton] at hs hle ⊢
      have hv : val [h.xfl] = h.xfl := by simp [val]
      rw [hs, hv, if_pos hle]
      rfl
    · have e : part h 4 A = [h.os] := rfl
      rw [e] at hs hle ⊢
      unfold rdStep
      simp only [List.length_singleton] at hs hle ⊢
      have hv : val [h.os] = h.os := by simp [val]
      rw [hs, hv, if_pos hle]
      rfl
    · have hhas : (upto h 5).has = h.has := rfl
      unfold rdStep
      simp only
      rw [hhas]
      by_cases c : h.has % 2 = 1
      · have e : part h 5 A = le 2 h.extra.length ++ h.extra := if_pos c
        rw [e] at hC hle ⊢
        rw [List.length_append, le_length] at hle ⊢
        rw [List.append_assoc] at hC
        have g1 := sl_at' hC (p := A.length) (n := 2) rfl (le_length _ _)
        have g2 := sl_at' (xs := xs) (A := A ++ le 2 h.extra.length) (B := h.extra) (C := C) (by rw [hC]; simp only [List.append_assoc]) (p := A.length + 2) (n := h.extra.length) (by rw [List.length_append, le_length]) rfl
        have hv : val (le 2 h.extra.length) = h.extra.length := by rw [val_le, Nat.mod_eq_of_lt (by omega)]
        rw [if_pos c, g1, hv, g2, if_pos ⟨by omega, by omega⟩]
        rw [Nat.add_assoc]
        rfl
      · have e : part h 5 A = [] := if_neg c
        rw [e, if_neg c]
        rcases m3 with m3 | m3
        · exact absurd m3 c
        · unfold upto
          rw [m3]
          rfl
    · unfold rdStep
      simp only
      have ht := text_put (h := h) (s := ⟨A.length, upto h 6, false⟩) (bit := 2) rfl rfl hC m4 m5
      rw [ht]
      rfl
    · unfold rdStep
      simp only
      have ht := text_put (h := h) (s := ⟨A.length, upto h 7, false⟩) (bit := 4) rfl rfl hC m6 m7
      rw [ht]
      rfl
  intro k
  induction k with
  | zero => intro _; rfl
  | succ k ih =>
    intro hk
    show (after _ k).bind _ = _
    rw [ih (by omega)]
    exact step k (by omega)

theorem upto_all (h : Gz) : upto h 8 = h := rfl

theorem get_plain {h : Gz} (hf : Fits h) (hm : may h = true) (hs : h.sum = false) (R : List Nat) : get (laid h 8 ++ R) = some ⟨(laid h 8).length, h, false⟩ := by
  show (after _ 8).bind _ = _
  rw [after_put hf hm R 8 (Nat.le_refl _), upto_all]
  show (if h.sum then _ else _) = _
  rw [hs]
  rfl

theorem get_sum {h : Gz} (hf : Fits h) (hm : may h = true) (hs : h.sum = true) (t R : List Nat) (ht : t.length = 2) : get (laid h 8 ++ (t ++ R)) = some ⟨(laid h 8).length + 2, h, val t != lowSum (laid h 8) % 65536⟩ := by
  show (after _ 8).bind _ = _
  rw [after_put hf hm (t ++ R) 8 (Nat.le_refl _), upto_all]
  show (if h.sum then _ else _) = _
  rw [hs, if_pos rfl]
  simp only
  rw [sl_at' (xs := laid h 8 ++ (t ++ R)) rfl rfl ht, List.take_left, if_pos (by simp only [List.length_append]; omega)]

theorem bytes_plain {h : Gz} (hs : h.sum = false) : bytesOf h = laid h 8 := by
  show laid h 8 ++ (if h.sum then _ else _) = _
  rw [hs]
  simp

theorem bytes_sum {h : Gz} (hs : h.sum = true) : bytesOf h = laid h 8 ++ le 2 (lowSum (laid h 8)) := by
  show laid h 8 ++ (if h.sum then _ else _) = _
  rw [hs, if_pos rfl]

theorem get_put {h : Gz} (hf : Fits h) (hm : may h = true) (R : List Nat) : get (bytesOf h ++ R) = some ⟨(bytesOf h).length, h, false⟩ := by
  cases hs : h.sum with
  | false => rw [bytes_plain hs]; exact get_plain hf hm hs R
  | true =>
    rw [bytes_sum hs, List.append_assoc, get_sum hf hm hs _ R (le_length _ _), val_le, List.length_append, le_length]
    simp

theorem got {xs : List Nat} (hb : ∀ x ∈ xs, x < 256) {s : Rs} (h : get xs = some s) :
    may s.h = true ∧ Fits s.h ∧ s.p ≤ xs.length ∧ (s.h.sum = false → s.wrong = false ∧ xs.take s.p = laid s.h 8) ∧
    (s.h.sum = true → s.p = (laid s.h 8).length + 2 ∧ xs.take s.p = laid s.h 8 ++ sl xs (laid s.h 8).length 2 ∧ s.wrong = (val (sl xs (laid s.h 8).length 2) != lowSum (laid s.h 8) % 65536)) := by
  have g9 := good_after hb (Nat.le_refl 9) h
  obtain ⟨t, h8⟩ : ∃ t, after xs 8 = some t := by
    cases h1 : after xs 8 with
    | none =>
      have : get xs = none := by show (after xs 8).bind _ = none; rw [h1]; rfl
      rw [this] at h; cases h
    | some t => exact ⟨t, rfl⟩
  have g8 := good_after hb (by omega) h8
  have hstep : rdStep xs 8 t = some s := by rw [← h]; show _ = (after xs 8).bind _; rw [h8]; rfl
  have hsame := g8.same (Nat.le_refl _)
  have hlen : (laid t.h 8).length = t.p := by rw [← hsame, List.length_take]; have := g8.here; omega
  have hmay : may s.h = true := (may_iff _).2 ⟨g9.has, g9.extra.1, g9.extra.2.2, ⟨g9.name.1, g9.name.2.2⟩, g9.comment.1, g9.comment.2.2⟩
  have hfit : Fits s.h := ⟨g9.time, g9.xfl, g9.os, by have := g9.has; omega, g9.extra.2.1, g9.name.2.1, g9.comment.2.1⟩
  refine ⟨hmay, hfit, g9.here, ?_, ?_⟩
  · intro hs
    unfold rdStep at hstep
    simp only at hstep
    split at hstep
    · rename_i hc
      split at hstep
      · obtain rfl := Option.some.inj hstep
        rw [hc] at hs; cases hs
      · cases hstep
    · obtain rfl := Option.some.inj hstep
      exact ⟨g8.blank.2.2.2.2 (Nat.le_refl _), hsame⟩
  · intro hs
    unfold rdStep at hstep
    simp only at hstep
    split at hstep
    · rename_i hc
      split at hstep
      · rename_i hl
        obtain rfl := Option.some.inj hstep
        simp only at hs ⊢
        refine ⟨by omega, ?_, ?_⟩
        · rw [take_sl, hsame, hlen]
        · rw [hlen, hsame]
      · cases hstep
    · rename_i hc
      obtain rfl := Option.some.inj hstep
      rw [hs] at hc; exact absurd rfl hc

theorem got_len {xs : List Nat} (hb : ∀ x ∈ xs, x < 256) {s : Rs} (h : get xs = some s) : (bytesOf s.h).length = s.p := by
  obtain ⟨_, _, h1, h2, h3⟩ := got hb h
  cases hs : s.h.sum with
  | false =>
    obtain ⟨_, e⟩ := h2 hs
    rw [bytes_plain hs, ← e, List.length_take]
    omega
  | true =>
    obtain ⟨e, _⟩ := h3 hs
    rw [bytes_sum hs, List.length_append, le_length, e]

theorem got_sum {xs : List Nat} (hb : ∀ x ∈ xs, x < 256) {s : Rs} (h : get xs = some s) (hs : s.h.sum = true) : 2 ≤ s.p ∧ (bytesOf s.h).take (s.p - 2) = xs.take (s.p - 2) ∧ (bytesOf s.h = xs.take s.p ↔ s.wrong = false) := by
  obtain ⟨_, _, h1, _, h3⟩ := got hb h
  obtain ⟨e1, e2, e3⟩ := h3 hs
  rw [bytes_sum hs]
  have hl : (laid s.h 8).length + 2 ≤ xs.length := by omega
  have hsl := sl_length hl
  refine ⟨by omega, ?_, ?_⟩
  · rw [show s.p - 2 = (laid s.h 8).length from by omega, List.take_left]
    have h4 : (xs.take s.p).take (laid s.h 8).length = laid s.h 8 := by rw [e2, List.take_left]
    rw [List.take_take, Nat.min_eq_left (by omega)] at h4
    exact h4.symm
  · rw [e2, e3]
    constructor
    · intro h5
      have h6 := List.append_cancel_left h5
      rw [← h6, val_le]
      simp
    · intro h5
      have h6 : val (sl xs (laid s.h 8).length 2) = lowSum (laid s.h 8) % 65536 := by simpa using h5
      congr 1
      have h7 := le_val (sl_byte hb (laid s.h 8).length 2)
      rw [hsl] at h7
      rw [← h7, h6]
      simp only [le]
      congr 1
      · omega
      · congr 1
        omega

theorem get_cut {h : Gz} (hf : Fits h) (hm : may h = true) (j : Nat) (hj : j < (bytesOf h).length) : get ((bytesOf h).take j) = none := by
  have hb : ∀ x ∈ bytesOf h, x < 256 := laid_byte hf ((may_iff h).1 hm).1 9
  have hb2 : ∀ x ∈ (bytesOf h).take j, x < 256 := fun x hx => hb x (List.mem_of_mem_take hx)
  cases hg : get ((bytesOf h).take j) with
  | none => rfl
  | some s =>
    exfalso
    obtain ⟨g1, g2, g3, g4, g5⟩ := got hb2 hg
    have hwhole := get_put hf hm []
    rw [List.append_nil] at hwhole
    rw [List.length_take] at g3
    have hsplit : bytesOf h = (bytesOf h).take s.p ++ (bytesOf h).drop s.p := (List.take_append_drop _ _).symm
    have htk : ((bytesOf h).take j).take s.p = (bytesOf h).take s.p := by rw [List.take_take, Nat.min_eq_left (by omega)]
    cases hs : s.h.sum with
    | false =>
      obtain ⟨_, e⟩ := g4 hs
      rw [htk] at e
      rw [hsplit, e, get_plain g2 g1 hs] at hwhole
      have := congrArg Rs.p (Option.some.inj hwhole)
      simp only at this
      have h2 := congrArg List.length e
      rw [List.length_take] at h2
      rw [← e, List.length_append, List.length_take, List.length_drop] at this
      omega
    | true =>
      obtain ⟨e0, e, _⟩ := g5 hs
      rw [htk] at e
      have hl2 : (sl ((bytesOf h).take j) (laid s.h 8).length 2).length = 2 := sl_length (by rw [List.length_take]; omega)
      rw [hsplit, e, List.append_assoc, get_sum g2 g1 hs _ _ hl2] at hwhole
      have := congrArg Rs.p (Option.some.inj hwhole)
      simp only at this
      rw [List.length_append, List.length_append, hl2, List.length_drop] at this
      omega

theorem get_turned {h : Gz} (hf : Fits h) (hm : may h = true) (hs : h.sum = true) (j e : Nat) (hj : j < 2) (he : e < 8) :
    get ((bytesOf h).set ((bytesOf h).length - 1 - j) ((bytesOf h).getD ((bytesOf h).length - 1 - j) 0 ^^^ 2 ^ e)) = some ⟨(bytesOf h).length, h, true⟩ := by
  have hbs := bytes_sum hs
  have hlen : (bytesOf h).length = (laid h 8).length + 2 := by rw [hbs, List.length_append, le_length]
  generalize hS : lowSum (laid h 8) = S at hbs
  have hx : ∀ x, x < 256 → x ^^^ 2 ^ e ≠ x ∧ x ^^^ 2 ^ e < 256 := by
    intro x hx
    refine ⟨fun h1 => ?_, Nat.xor_lt_two_pow (n := 8) hx (Nat.pow_lt_pow_right (by omega) he)⟩
    have h2 : (x ^^^ 2 ^ e).testBit e = x.testBit e := by rw [h1]
    rw [Nat.testBit_xor, Nat.testBit_two_pow_self] at h2
    cases hb : x.testBit e <;> rw [hb] at h2 <;> simp at h2
  have hle : le 2 S = [S % 256, S / 256 % 256] := rfl
  rw [hle] at hbs
  have hj2 : j = 0 ∨ j = 1 := by omega
  rcases hj2 with rfl | rfl
  · have h1 := hx (S / 256 % 256) (by omega)
    have hget : (bytesOf h).getD ((bytesOf h).length - 1 - 0) 0 = S / 256 % 256 := by
      rw [hlen, hbs, List.getD_eq_getElem?_getD, List.getElem?_append_right (by omega)]
      rw [show (laid h 8).length + 2 - 1 - 0 - (laid h 8).length = 1 from by omega]
      rfl
    rw [hget, hlen, hbs, List.set_append_right _ _ (by omega), show (laid h 8).length + 2 - 1 - 0 - (laid h 8).length = 1 from by omega]
    have g := get_sum hf hm hs [S % 256, S / 256 % 256 ^^^ 2 ^ e] [] rfl
    rw [List.append_nil] at g
    show get (laid h 8 ++ [S % 256, S / 256 % 256 ^^^ 2 ^ e]) = _
    rw [g, hS]
    have hv : val [S % 256, S / 256 % 256 ^^^ 2 ^ e] ≠ S % 65536 := by
      simp only [val]
      generalize S / 256 % 256 ^^^ 2 ^ e = y at h1 ⊢
      omega
    have hw : (val [S % 256, S / 256 % 256 ^^^ 2 ^ e] != S % 65536) = true := by simpa using hv
    rw [hw]
  · have h1 := hx (S % 256) (by omega)
    have hget : (bytesOf h).getD ((bytesOf h).length - 1 - 1) 0 = S % 256 := by
      rw [hlen, hbs, List.getD_eq_getElem?_getD, List.getElem?_append_right (by omega)]
      rw [show (laid h 8).length + 2 - 1 - 1 - (laid h 8).length = 0 from by omega]
      rfl
    rw [hget, hlen, hbs, List.set_append_right _ _ (by omega), show (laid h 8).length + 2 - 1 - 1 - (laid h 8).length = 0 from by omega]
    have g := get_sum hf hm hs [S % 256 ^^^ 2 ^ e, S / 256 % 256] [] rfl
    rw [List.append_nil] at g
    show get (laid h 8 ++ [S % 256 ^^^ 2 ^ e, S / 256 % 256]) = _
    rw [g, hS]
    have hv : val [S % 256 ^^^ 2 ^ e, S / 256 % 256] ≠ S % 65536 := by
      simp only [val]
      generalize S % 256 ^^^ 2 ^ e = y at h1 ⊢
      omega
    have hw : (val [S % 256 ^^^ 2 ^ e, S / 256 % 256] != S % 65536) = true := by simpa using hv
    rw [hw]

theorem after_five (xs : List Nat) : after xs 5 = if 10 ≤ xs.length ∧ sl xs 0 3 = [31, 139, 8] ∧ val (sl xs 3 1) < 32 then
    some ⟨10, ⟨val (sl xs 3 1) % 2 == 1, val (sl xs 4 4), val (sl xs 8 1), val (sl xs 9 1), [], [], [], val (sl xs 3 1) / 4, val (sl xs 3 1) / 2 % 2 == 1⟩, false⟩ else none := by
  have e5 : after xs 5 = ((((rdStep xs 0 ⟨0, Gz.nil, false⟩).bind (rdStep xs 1)).bind (rdStep xs 2)).bind (rdStep xs 3)).bind (rdStep xs 4) := rfl
  rw [e5]
  by_cases c1 : sl xs 0 3 = [31, 139, 8]
  · by_cases c2 : val (sl xs 3 1) < 32
    · by_cases c3 : 10 ≤ xs.length
      · rw [if_pos ⟨c3, c1, c2⟩]
        unfold rdStep
        simp only [Nat.zero_add, Option.bind_some, c1, c2, show 3 ≤ xs.length from by omega, show 3 + 1 ≤ xs.length from by omega, show 3 + 1 + 4 ≤ xs.length from by omega, show 3 + 1 + 4 + 1 ≤ xs.length from by omega, show 3 + 1 + 4 + 1 + 1 ≤ xs.length from by omega, and_self, if_true]
        rfl
      · rw [if_neg (fun h => c3 h.1)]
        unfold rdStep
        simp only [Nat.zero_add]
        by_cases d1 : 3 ≤ xs.length <;> simp only [d1, c1, and_self, if_true, Option.bind_some, Option.bind_none, and_true, if_false]
        by_cases d2 : 3 + 1 ≤ xs.length <;> simp only [d2, c2, and_self, if_true, Option.bind_some, Option.bind_none, and_true, if_false]
        by_cases d3 : 3 + 1 + 4 ≤ xs.length <;> simp only [d3, if_true, Option.bind_some, Option.bind_none, if_false]
        by_cases d4 : 3 + 1 + 4 + 1 ≤ xs.length <;> simp only [d4, if_true, Option.bind_some, Option.bind_none, if_false]
        rw [if_neg (by omega)]
    · rw [if_neg (fun h => c2 h.2.2)]
      unfold rdStep
      simp only [Nat.zero_add]
      by_cases d1 : 3 ≤ xs.length <;> simp [d1, c1, c2]
  · rw [if_neg (fun h => c1 h.2.1)]
    unfold rdStep
    simp [c1]

end Go.Proofs.YtpinfihmageeoaaGreat.Fr
