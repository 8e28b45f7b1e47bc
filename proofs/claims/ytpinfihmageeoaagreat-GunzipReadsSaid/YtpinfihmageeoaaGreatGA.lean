/-
  Bits Mem Sep Gen Bytes Clone Str Box Front, one behind the other (merged by wip/merge.py). No conditions but those that each states.
-/
import Derived.Laws.BitsAll
import Derived.Laws.Bits128
import Derived.WalkKit
import Derived.Below
import Derived.OwnWalk
import Derived.ArgAppend
import Derived.Laws.AppendOwnNone
import Derived.Lib.Hide
import Derived.Deep.QuietTactic
import Derived.BigQuiet
import Derived.Outline
import Derived.RegionTactic
import Derived.BigRegion
import Derived.ChangeAlike
import Derived.WalkSpells
import Derived.Deep.RegionWith
import Derived.IntWalk
import Derived.Test.YtpinfihmageeoaaGreatChecked
import Derived.Deep.Slices
import Derived.ProofKit
import Derived.Laws.BytesString

namespace Go.Proofs.YtpinfihmageeoaaGreat

theorem getD_in {α : Type} (l : List α) (d : α) {i : Nat} (h : i < l.length) : l.getD i d = l[i] := by simp [List.getD_eq_getElem?_getD, h]
theorem getD_out {α : Type} (l : List α) (d : α) {i : Nat} (h : l.length ≤ i) : l.getD i d = d := by simp [List.getD_eq_getElem?_getD, h]

def num : List Bool → Nat
  | [] => 0
  | b :: l => b.toNat + 2 * num l

def bitsOf (v : Nat) : Nat → List Bool
  | 0 => []
  | n + 1 => (v % 2 == 1) :: bitsOf (v / 2) n

theorem num_lt (l : List Bool) : num l < 2 ^ l.length := by
  induction l with
  | nil => simp [num]
  | cons b l ih => cases b <;> simp [num, Nat.pow_succ] <;> omega

theorem num_snoc (l : List Bool) (b : Bool) : num (l ++ [b]) = num l + b.toNat * 2 ^ l.length := by
  induction l with
  | nil => simp [num]
  | cons c l ih =>
    simp only [List.cons_append, num, ih, List.length_cons, Nat.pow_succ]
    have h : b.toNat * (2 ^ l.length * 2) = 2 * (b.toNat * 2 ^ l.length) := by rw [← Nat.mul_assoc]; exact Nat.mul_comm _ _
    omega

theorem num_append (l m : List Bool) : num (l ++ m) = num l + num m * 2 ^ l.length := by
  induction l with
  | nil => simp [num]
  | cons c l ih =>
    simp only [List.cons_append, num, ih, List.length_cons, Nat.pow_succ]
    have h : num m * (2 ^ l.length * 2) = 2 * (num m * 2 ^ l.length) := by rw [← Nat.mul_assoc]; exact Nat.mul_comm _ _
    omega

theorem bitsOf_length (v n : Nat) : (bitsOf v n).length = n := by
  induction n generalizing v with
  | zero => rfl
  | succ n ih => simp [bitsOf, ih]

theorem num_bitsOf (v n : Nat) : num (bitsOf v n) = v % 2 ^ n := by
  induction n generalizing v with
  | zero => simp [bitsOf, num, Nat.mod_one]
  | succ n ih =>
    simp only [bitsOf, num, ih]
    rw [Nat.pow_succ, Nat.mul_comm (2 ^ n) 2, Nat.mod_mul]
    rcases Nat.mod_two_eq_zero_or_one v with h | h <;> simp [h]

theorem num_bitsOf_lt {v n : Nat} (h : v < 2 ^ n) : num (bitsOf v n) = v := by rw [num_bitsOf, Nat.mod_eq_of_lt h]

theorem bitsOf_snoc (v n : Nat) : bitsOf v (n + 1) = bitsOf v n ++ [v / 2 ^ n % 2 == 1] := by
  induction n generalizing v with
  | zero => simp [bitsOf]
  | succ n ih =>
    rw [bitsOf, ih (v / 2), bitsOf]
    simp [Nat.pow_succ, Nat.div_div_eq_div_mul, Nat.mul_comm]

theorem bitsOf_num (l : List Bool) : bitsOf (num l) l.length = l := by
  induction l with
  | nil => rfl
  | cons b l ih =>
    have h1 : (b.toNat + 2 * num l) / 2 = num l := by cases b <;> simp <;> omega
    have h2 : (b.toNat + 2 * num l) % 2 = b.toNat := by cases b <;> simp <;> omega
    simp only [num, List.length_cons, bitsOf, h1, h2, ih]
    cases b <;> rfl

theorem num_bit (l : List Bool) (j : Nat) : num l / 2 ^ j % 2 = (l.getD j false).toNat := by
  induction l generalizing j with
  | nil => simp [num]
  | cons b l ih =>
    cases j with
    | zero => cases b <;> simp [num] <;> omega
    | succ j =>
      have h1 : (b.toNat + 2 * num l) / 2 = num l := by cases b <;> simp <;> omega
      rw [num, Nat.pow_succ, Nat.mul_comm (2 ^ j) 2, ← Nat.div_div_eq_div_mul, h1, ih]
      simp

def pk (l : List Bool) : List Nat := (List.range ((l.length + 7) / 8)).map fun i => num ((l.drop (8 * i)).take 8)

theorem pk_length (l : List Bool) : (pk l).length = (l.length + 7) / 8 := by simp [pk]

theorem pk_nil : pk [] = [] := rfl

theorem pk_get (l : List Bool) (i : Nat) (h : i < (pk l).length) : (pk l)[i] = num ((l.drop (8 * i)).take 8) := by simp [pk]

theorem pk_lt (l : List Bool) : ∀ x ∈ pk l, x < 256 := by
  intro x hx
  simp only [pk, List.mem_map] at hx
  obtain ⟨i, _, rfl⟩ := hx
  refine Nat.lt_of_lt_of_le (num_lt _) (Nat.le_trans (Nat.pow_le_pow_right (by omega) (List.length_take_le 8 _)) (by decide))

def layRow (xs : List Nat) (n : Nat) (b : Bool) : List Nat :=
  if n % 8 = 0 then xs ++ [b.toNat] else xs.set (n / 8) (xs.getD (n / 8) 0 + b.toNat * 2 ^ (n % 8))

theorem layRow_pk (l : List Bool) (b : Bool) : layRow (pk l) l.length b = pk (l ++ [b]) := by
  unfold layRow
  split
  · rename_i h0
    apply List.ext_getElem
    · simp [pk_length]; omega
    · intro i h1 h2
      rw [pk_get]
      rw [List.length_append, pk_length, List.length_singleton] at h1
      by_cases hi : i < (pk l).length
      · rw [List.getElem_append_left hi, pk_get]
        rw [pk_length] at hi
        rw [List.drop_append_of_le_length (by omega), List.take_append_of_le_length (by simp; omega)]
      · rw [pk_length] at hi
        have : i = (l.length + 7) / 8 := by omega
        have e8 : 8 * i = l.length := by omega
        rw [List.getElem_append_right (by rw [pk_length]; omega)]
        simp [e8, num]
  · rename_i h0
    apply List.ext_getElem
    · simp [pk_length]; omega
    · intro i h1 h2
      rw [pk_get]
      rw [List.length_set, pk_length] at h1
      rw [List.getElem_set]
      split
      · rename_i hi
        subst hi
        have h3 : l.length / 8 < (pk l).length := by rw [pk_length]; omega
        rw [getD_in _ _ h3, pk_get]
        rw [List.drop_append_of_le_length (by omega)]
        rw [List.take_of_length_le (by simp; omega), List.take_of_length_le (by simp; omega), num_snoc]
        simp only [List.length_drop]
        rw [show l.length % 8 = l.length - 8 * (l.length / 8) from by omega]
      · rename_i hi
        rw [pk_get, List.drop_append_of_le_length (by omega), List.take_append_of_le_length (by simp; omega)]

def bitAt (xs : List Nat) (p : Nat) : Bool := xs.getD (p / 8) 0 / 2 ^ (p % 8) % 2 == 1

theorem bitAt_pk (l : List Bool) (p : Nat) : bitAt (pk l) p = l.getD p false := by
  unfold bitAt
  by_cases h : p / 8 < (pk l).length
  · rw [getD_in _ _ h, pk_get, num_bit]
    have e : ((l.drop (8 * (p / 8))).take 8).getD (p % 8) false = l.getD p false := by
      rw [List.getD_eq_getElem?_getD, List.getD_eq_getElem?_getD, List.getElem?_take, if_pos (by omega), List.getElem?_drop]
      congr 2
      omega
    rw [e]
    cases l.getD p false <;> rfl
  · rw [getD_out _ _ (by omega)]
    rw [pk_length] at h
    rw [getD_out _ _ (by omega)]
    simp

def bitsAt (xs : List Nat) (p : Nat) : Nat → List Bool
  | 0 => []
  | n + 1 => bitsAt xs p n ++ [bitAt xs (p + n)]

theorem bitsAt_length (xs : List Nat) (p n : Nat) : (bitsAt xs p n).length = n := by
  induction n with
  | zero => rfl
  | succ n ih => simp [bitsAt, ih]

theorem bitsAt_pk (l : List Bool) (p n : Nat) (h : p + n ≤ l.length) : bitsAt (pk l) p n = (l.drop p).take n := by
  induction n with
  | zero => simp [bitsAt]
  | succ n ih =>
    rw [bitsAt, ih (by omega), bitAt_pk, getD_in _ _ (by omega), List.take_succ_eq_append_getElem (by simp; omega)]
    simp

theorem num_bitsAt_succ (xs : List Nat) (p n : Nat) : num (bitsAt xs p (n + 1)) = num (bitsAt xs p n) + (bitAt xs (p + n)).toNat * 2 ^ n := by
  rw [bitsAt, num_snoc, bitsAt_length]

theorem num_bitsAt_lt (xs : List Nat) (p n : Nat) : num (bitsAt xs p n) < 2 ^ n := by
  have := num_lt (bitsAt xs p n)
  rwa [bitsAt_length] at this

theorem and7 (n : Int) : bits .and .i64 n 7 = n % 8 := by
  have h7 : (BitVec.ofInt 64 7).toNat = 2 ^ 3 - 1 := by decide
  have key : (BitVec.ofInt 64 n &&& BitVec.ofInt 64 7).toNat = (n % ((2 ^ 64 : Nat) : Int)).toNat % 2 ^ 3 := by
    rw [BitVec.toNat_and, BitVec.toNat_ofInt, h7, Nat.and_two_pow_sub_one_eq_mod]
  show IntKind.i64.wrap ((BitVec.ofInt 64 n &&& BitVec.ofInt 64 7).toNat : Nat) = n % 8
  rw [key, IntKind.wrap_i64]
  omega

theorem and1_u8 (n : Int) (h0 : 0 ≤ n) (h1 : n < 256) : bits .and .u8 n 1 = n % 2 := by
  rw [u8_and n 1 h0 h1 (by omega) (by omega)]
  obtain ⟨k, rfl⟩ := Int.eq_ofNat_of_zero_le h0
  simp

theorem or_free_u8 (x y k : Nat) (hx : x < 2 ^ k) (hy : y ≤ 1) (hk : k < 8) : bits .or .u8 (x : Int) ((y * 2 ^ k : Nat) : Int) = ((x + y * 2 ^ k : Nat) : Int) := by
  have h2 : 2 ^ (k + 1) ≤ 2 ^ 8 := Nat.pow_le_pow_right (by omega) (by omega)
  rw [Nat.pow_succ] at h2
  have h3 : y * 2 ^ k ≤ 1 * 2 ^ k := Nat.mul_le_mul_right _ hy
  rw [u8_or_nat _ _ (by omega) (by omega)]
  congr 1
  rw [Nat.or_comm, Nat.mul_comm, ← Nat.two_pow_add_eq_or_of_lt hx]
  exact Nat.add_comm _ _

theorem or_free_u32 (x y k : Nat) (hx : x < 2 ^ k) (hy : y ≤ 1) (hk : k < 32) : bits .or .u32 (x : Int) ((y * 2 ^ k : Nat) : Int) = ((x + y * 2 ^ k : Nat) : Int) := by
  have h2 : 2 ^ (k + 1) ≤ 2 ^ 32 := Nat.pow_le_pow_right (by omega) (by omega)
  rw [Nat.pow_succ] at h2
  have h3 : y * 2 ^ k ≤ 1 * 2 ^ k := Nat.mul_le_mul_right _ hy
  rw [u32_or_nat _ _ (by omega) (by omega)]
  congr 1
  rw [Nat.or_comm, Nat.mul_comm, ← Nat.two_pow_add_eq_or_of_lt hx]
  exact Nat.add_comm _ _

end Go.Proofs.YtpinfihmageeoaaGreat

namespace Go.Proofs.YtpinfihmageeoaaGreat
open Go.RowKit

structure Only (S : Nat → Prop) (w w' : World) : Prop where
  os : w'.os = w.os
  tape : w'.tape = w.tape
  output : w'.output = w.output
  size : w.heap.size ≤ w'.heap.size
  block : ∀ k, k < w.heap.size → ¬ S k → w'.heap[k]? = w.heap[k]?

theorem Only.refl (S : Nat → Prop) (w : World) : Only S w w := ⟨rfl, rfl, rfl, Nat.le_refl _, fun _ _ _ => rfl⟩

theorem Only.trans {S T : Nat → Prop} {a b c : World} (h : Only S a b) (k : Only T b c) (hT : ∀ i, i < a.heap.size → T i → S i) : Only S a c :=
  ⟨k.os.trans h.os, k.tape.trans h.tape, k.output.trans h.output, Nat.le_trans h.size k.size,
   fun i hi hs => (k.block i (Nat.lt_of_lt_of_le hi h.size) (fun t => hs (hT i hi t))).trans (h.block i hi hs)⟩

theorem Only.mono {S T : Nat → Prop} {a b : World} (h : Only S a b) (hT : ∀ i, i < a.heap.size → S i → T i) : Only T a b :=
  ⟨h.os, h.tape, h.output, h.size, fun i hi hs => h.block i hi (fun t => hs (hT i hi t))⟩

theorem Only.drew {S : Nat → Prop} {a b : World} (h : Only S a b) : Only S a b.drew := ⟨h.os, h.tape, h.output, h.size, h.block⟩
theorem Only.drewN {S : Nat → Prop} {a b : World} (h : Only S a b) (n : Nat) : Only S a (b.drewN n) := ⟨h.os, h.tape, h.output, h.size, h.block⟩

theorem Only.alloc {S : Nat → Prop} {a b : World} (h : Only S a b) (o : Obj) : Only S a (b.alloc o) :=
  h.trans (T := fun _ => False) ⟨rfl, rfl, rfl, by simp, fun k hk _ => Below.heap_alloc _ _ _ hk⟩ (fun _ _ f => f.elim)

theorem Only.setCell {S : Nat → Prop} {a b : World} (h : Only S a b) {p : Addr} (hp : p.block < a.heap.size → S p.block) (u : Value) : Only S a (b.setCell p u) :=
  h.trans (T := fun k => k = p.block) ⟨rfl, rfl, rfl, by simp [World.setCell], fun k _ hk => Below.heap_setCell _ _ _ _ hk⟩ (fun i hi e => by subst e; exact hp hi)

theorem Only.grown {S : Nat → Prop} {a b c : World} {row : Option Nat} (h : Only S a b) (hg : b.grownBy c row) (hr : ∀ k, row = some k → k < a.heap.size → S k) : Only S a c :=
  h.trans (T := fun k => some k = row) ⟨hg.os, hg.tape, hg.output, hg.size, fun k hk hn => hg.block k hk hn⟩ (fun i hi e => hr i e.symm hi)

theorem Only.of_below {B : Nat} {w w' : World} (h : Below B w w') {S : Nat → Prop} (hS : ∀ k, k < w.heap.size → B ≤ k → S k) : Only S w w' :=
  ⟨h.os, h.tape, h.output, h.size, fun k hk hn => h.block k (by cases Nat.lt_or_ge k B with | inl g => exact g | inr g => exact absurd (hS k hk g) hn)⟩

theorem Only.below {S : Nat → Prop} {w w' : World} (h : Only S w w') {B : Nat} (hB : B ≤ w.heap.size) (hS : ∀ k, k < B → ¬ S k) : Below B w w' :=
  ⟨h.os, h.tape, h.output, h.size, fun k hk => h.block k (by omega) (hS k hk)⟩

theorem Only.at {S : Nat → Prop} {w w' : World} (h : Only S w w') {k : Nat} {o : Obj} (hk : w.heap[k]? = some o) (hn : ¬ S k) : w'.heap[k]? = some o := by
  rw [h.block k (Array.getElem?_eq_some_iff.1 hk).1 hn, hk]

theorem lt_of_block {w : World} {k : Nat} {o : Obj} (hk : w.heap[k]? = some o) : k < w.heap.size := (Array.getElem?_eq_some_iff.1 hk).1

theorem ownsRow_only {S : Nat → Prop} {w w' : World} {base : Nat} {e : TypeId} {size : Nat} {v : Value} {n : Nat} {xs : List Value} (h : w.ownsRow base e size v n xs) (ho : Only S w w') (hn : ∀ g, v.ownBlock = some g → ¬ S g) : w'.ownsRow base e size v n xs := by
  refine ⟨h.1, ?_⟩
  rcases h.2 with hv | ⟨g, cap, cur, rfl, hb, hg, rest⟩
  · exact .inl hv
  · exact .inr ⟨g, cap, cur, rfl, hb, ho.at hg (hn g rfl), rest⟩

def Fresh (w : World) (v v' : Value) : Prop := v'.ownBlock = v.ownBlock ∨ ∀ g, v'.ownBlock = some g → w.heap.size ≤ g

theorem Fresh.refl (w : World) (v : Value) : Fresh w v v := .inl rfl

theorem Fresh.trans {w w1 : World} {v v1 v2 : Value} (hs : w.heap.size ≤ w1.heap.size) (h : Fresh w v v1) (k : Fresh w1 v1 v2) : Fresh w v v2 := by
  rcases k with k | k
  · rcases h with h | h
    · exact .inl (k.trans h)
    · exact .inr fun g hg => h g (by rw [← k]; exact hg)
  · exact .inr fun g hg => Nat.le_trans hs (k g hg)

theorem Fresh.of {w : World} {v v' : Value} {g : Nat} (h : Fresh w v v') (hg : v'.ownBlock = some g) (hlt : g < w.heap.size) : v.ownBlock = some g := by
  rcases h with h | h
  · rw [← h, hg]
  · exact absurd (h g hg) (by omega)

theorem ownsRow_base {w : World} {base : Nat} {e : TypeId} {size : Nat} {v : Value} {n : Nat} {xs : List Value} (h : w.ownsRow base e size v n xs) : w.ownsRow 0 e size v n xs :=
  ⟨h.1, h.2.imp id fun ⟨g, cap, cur, h1, _, h3⟩ => ⟨g, cap, cur, h1, Nat.zero_le _, h3⟩⟩

section
variable {P : Program} (w : World)

theorem run_append_mine (t ty e : TypeId) (i : TypeInfo) (z : Value) (size bytes : Nat) (ht : P.underlying t = some (.slice e)) (hi : P.info? e = some i) (hz : i.zero = some z)
    (hsize : i.size = size) (hby : i.bytes = bytes) (hzs : z.cells.size = size) (hsz : 0 < size)
    (v : Value) (n : Nat) (xs : List Value) (hown : w.ownsRow 0 e size v n xs)
    (a : Option Addr) (m c : Nat) (news : List Value) (hnone : a = none → m = 0 ∧ c = 0) (hl : news.length = m * size) (hnews : ∀ ad, a = some ad → ∀ j u, news[j]? = some u → w.cell? (ad.add j) = some u) (h1 : ∀ u ∈ news, u.oneCell' = true)
    (h63 : n + m ≤ maxLen) (hbytes : (n + m) * bytes ≤ 140737488355328) :
    ∃ v' w', (Builtin.append_ #[t, t] ty #[v, .slice a m c]).run P w = .ok v' w' ∧ w'.ownsRow 0 e size v' (n + m) (xs ++ news) ∧ w.grownBy w' v.ownBlock ∧ Fresh w v v' := by
  cases a with
  | none =>
    obtain ⟨rfl, rfl⟩ := hnone rfl
    obtain rfl : news = [] := List.eq_nil_of_length_eq_zero (by simpa using hl)
    refine ⟨v, w, run_append_owned_none w 0 t ty e i size ht hi v n xs hown, by simpa using hown, ⟨rfl, rfl, rfl, Nat.le_refl _, fun _ _ _ => rfl⟩, .inl rfl⟩
  | some ad =>
    have hnews' := hnews ad rfl
    rcases hown.2 with ⟨rfl, rfl⟩ | ⟨g, cap, cur, rfl, hbg, hg, hnc, hcm, hcs, htake⟩
    · obtain rfl : xs = [] := List.eq_nil_of_length_eq_zero (by simpa using hown.1)
      obtain ⟨v', w', hr, h2, h3, _⟩ := run_append_own (P := P) w w.heap.size t ty e i z size bytes ht hi hz hsize hby hzs hsz (.slice none 0 0) 0 [] (World.ownsRow_nil w _ e size) ad m c news hl hnews' h1 h63 hbytes (Nat.le_refl _)
      exact ⟨v', w', hr, ownsRow_base h2, h3, .inr fun g hg => (h2.lt g hg).1⟩
    · by_cases hroom : n + m ≤ cap
      · obtain ⟨w', hr, h2, h3⟩ := run_append_fits (P := P) w 0 t ty e i size ht hi hsize g n cap xs hown ad m c news hl hnews' h1 hroom
        exact ⟨_, w', hr, h2, h3, .inl rfl⟩
      · obtain ⟨v', w', hr, h2, h3⟩ := run_append_arg_grows (P := P) w t ty e i z size bytes ht hi hz hsize hby hzs hsz ⟨g, 0, none⟩ n cap xs hown.1 (hown.cells (g := g) rfl) ad m c news hl hnews' (by omega) h63 hbytes
        exact ⟨v', w', hr, ownsRow_base h2, ⟨h3.os, h3.tape, h3.output, h3.size, fun k hk _ => h3.block k hk (by simp)⟩, .inr fun g' hg' => (h2.lt g' hg').1⟩

theorem wpList_append_mine {ops : Array Oper} {rest : List Oper} {o : Oper} {a : Act} {Q : Exit → Act → World → Prop} (hgd : o.guard = none) (s x : Operand) (t : TypeId)
    (ho : o.op = .call { callee := .builtin .append, args := #[s, x], argTypes := #[t, t] })
    (e : TypeId) (i : TypeInfo) (z : Value) (size bytes : Nat) (ht : P.underlying t = some (.slice e)) (hi : P.info? e = some i) (hz : i.zero = some z)
    (hsize : i.size = size) (hby : i.bytes = bytes) (hzs : z.cells.size = size) (hsz : 0 < size)
    (v : Value) (n : Nat) (xs : List Value) (hs : a.eval s = v) (hown : w.ownsRow 0 e size v n xs)
    (ad : Option Addr) (m c : Nat) (news : List Value) (hx : a.eval x = .slice ad m c) (hnone : ad = none → m = 0 ∧ c = 0) (hl : news.length = m * size) (hnews : ∀ b, ad = some b → ∀ j u, news[j]? = some u → w.cell? (b.add j) = some u) (h1 : ∀ u ∈ news, u.oneCell' = true)
    (h63 : n + m ≤ maxLen) (hbytes : (n + m) * bytes ≤ 140737488355328)
    (h : ∀ v' w', w'.ownsRow 0 e size v' (n + m) (xs ++ news) → w.grownBy w' v.ownBlock → Fresh w v v' → wpList P ops Q rest (a.put o.dst v') w') : wpList P ops Q (o :: rest) a w := by
  refine wpList_plain hgd fun K hK => ?_
  obtain ⟨v', w', hr, h2, h3, h4⟩ := run_append_mine (P := P) w t o.type e i z size bytes ht hi hz hsize hby hzs hsz v n xs hown ad m c news hnone hl hnews h1 h63 hbytes
  unfold Oper.wp execOp
  simp only [ho, resolve, invoke, builtin, Sem.run_bind, Sem.run_pure, Result.andThen_ok, List.map_toArray, List.map_cons, List.map_nil, hs, hx, hr]
  exact hK _ _ (h v' w' h2 h3 h4)
end

theorem cell_alloc {w : World} {a : Addr} {u : Value} (h : w.cell? a = some u) (o : Obj) : (w.alloc o).cell? a = some u :=
  (World.cell?_of_block (Below.heap_alloc w o _ (World.block_lt_of_cell? w a h))).trans h

theorem cell_two {w : World} {b : Nat} {x y : Value} {t : TypeId} (h : w.heap[b]? = some (.cells #[x, y] t (0, 0))) :
    w.cell? ⟨b, 0, none⟩ = some x ∧ w.cell? ⟨b, 1, none⟩ = some y ∧ w.frozen? ⟨b, 0, none⟩ = false ∧ w.frozen? ⟨b, 1, none⟩ = false := by
  refine ⟨?_, ?_, ?_, ?_⟩ <;> simp [World.cell?, World.frozen?, h]

theorem two_set0 {w : World} {b : Nat} {x y : Value} {t : TypeId} (h : w.heap[b]? = some (.cells #[x, y] t (0, 0))) (u : Value) :
    (w.setCell ⟨b, 0, none⟩ u).heap[b]? = some (.cells #[u, y] t (0, 0)) := by
  have e := heap_setCell_same w b 0 #[x, y] t u h
  simpa using e

theorem two_set1 {w : World} {b : Nat} {x y : Value} {t : TypeId} (h : w.heap[b]? = some (.cells #[x, y] t (0, 0))) (u : Value) :
    (w.setCell ⟨b, 1, none⟩ u).heap[b]? = some (.cells #[x, u] t (0, 0)) := by
  have e := heap_setCell_same w b 1 #[x, y] t u h
  simpa using e

def u8s (xs : List Nat) : List Value := xs.map fun (x : Nat) => Value.int .u8 (x : Int)
theorem u8s_length (xs : List Nat) : (u8s xs).length = xs.length := by simp [u8s]
theorem u8s_append (xs ys : List Nat) : u8s (xs ++ ys) = u8s xs ++ u8s ys := by simp [u8s]
theorem u8s_set (xs : List Nat) (i x : Nat) : u8s (xs.set i x) = (u8s xs).set i (.int .u8 (x : Int)) := by simp [u8s, List.map_set]
theorem u8s_get (xs : List Nat) (i : Nat) (h : i < xs.length) : (u8s xs)[i]? = some (.int .u8 (xs[i] : Int)) := by simp [u8s, h]
theorem u8s_one (xs : List Nat) : ∀ u ∈ u8s xs, u.oneCell' = true := by
  intro u hu
  simp only [u8s, List.mem_map] at hu
  obtain ⟨x, _, rfl⟩ := hu
  rfl

end Go.Proofs.YtpinfihmageeoaaGreat

namespace Go.Proofs.YtpinfihmageeoaaGreat
open Go.RowKit

def From (B : Nat) (k : Nat) : Prop := B ≤ k

structure Thing where
  holds : World → (Nat → Prop) → Prop
  keep : ∀ {w w' : World} {S T : Nat → Prop}, holds w S → Only T w w' → (∀ k, S k → ¬ T k) → holds w' S
  lt : ∀ {w : World} {S : Nat → Prop} {k : Nat}, holds w S → S k → k < w.heap.size

def Sep (w : World) : List Thing → (Nat → Prop) → Prop
  | [], _ => True
  | A :: r, S => ∃ S1, A.holds w S1 ∧ (∀ k, S1 k → S k) ∧ Sep w r (fun k => S k ∧ ¬ S1 k)

theorem Sep.mono {w : World} : ∀ {l : List Thing} {S S' : Nat → Prop}, Sep w l S → (∀ k, k < w.heap.size → S k → S' k) → Sep w l S'
  | [], _, _, _, _ => trivial
  | A :: r, _, _, ⟨S1, h1, h2, h3⟩, hm =>
    ⟨S1, h1, fun k hk => hm k (A.lt h1 hk) (h2 k hk), Sep.mono (l := r) h3 (fun k hk hs => ⟨hm k hk hs.1, hs.2⟩)⟩

theorem Sep.keep {w w' : World} {T : Nat → Prop} (ho : Only T w w') : ∀ {l : List Thing} {S : Nat → Prop}, Sep w l S → (∀ k, S k → ¬ T k) → Sep w' l S
  | [], _, _, _ => trivial
  | A :: r, _, ⟨S1, h1, h2, h3⟩, hT =>
    ⟨S1, A.keep h1 ho (fun k hk => hT k (h2 k hk)), h2, Sep.keep ho (l := r) h3 (fun k hk => hT k hk.1)⟩

theorem Sep.swap {w : World} {A C : Thing} {r : List Thing} {S : Nat → Prop} (h : Sep w (A :: C :: r) S) : Sep w (C :: A :: r) S := by
  obtain ⟨S1, h1, h2, S2, h3, h4, h5⟩ := h
  refine ⟨S2, h3, fun k hk => (h4 k hk).1, S1, h1, fun k hk => ⟨h2 k hk, fun h => (h4 k h).2 hk⟩, ?_⟩
  exact Sep.mono h5 (fun k _ hk => ⟨⟨hk.1.1, hk.2⟩, hk.1.2⟩)

structure St (B : Nat) (w0 w : World) (l : List Thing) : Prop where
  only : Only (From B) w0 w
  size : B ≤ w.heap.size
  sep : Sep w l (From B)

theorem St.start (w : World) : St w.heap.size w w [] := ⟨Only.refl _ _, Nat.le_refl _, trivial⟩

theorem St.below {B : Nat} {w0 w : World} {l : List Thing} (h : St B w0 w l) (hB : B ≤ w0.heap.size) : Below B w0 w :=
  h.only.below hB (fun k hk f => by unfold From at f; omega)

theorem St.swap {B : Nat} {w0 w : World} {A C : Thing} {r : List Thing} (h : St B w0 w (A :: C :: r)) : St B w0 w (C :: A :: r) := ⟨h.only, h.size, h.sep.swap⟩

theorem Sep.under {w : World} {A : Thing} {l m : List Thing} (f : ∀ S, Sep w l S → Sep w m S) {S : Nat → Prop} (h : Sep w (A :: l) S) : Sep w (A :: m) S := by
  obtain ⟨S1, h1, h2, h3⟩ := h
  exact ⟨S1, h1, h2, f _ h3⟩

theorem St.third {B : Nat} {w0 w : World} {A C D : Thing} {r : List Thing} (h : St B w0 w (A :: C :: D :: r)) : St B w0 w (D :: A :: C :: r) :=
  ⟨h.only, h.size, (Sep.under (fun _ => Sep.swap) h.sep).swap⟩

theorem St.fourth {B : Nat} {w0 w : World} {A C D E : Thing} {r : List Thing} (h : St B w0 w (A :: C :: D :: E :: r)) : St B w0 w (E :: A :: C :: D :: r) :=
  ⟨h.only, h.size, (Sep.under (fun _ h => (Sep.under (fun _ => Sep.swap) h).swap) h.sep).swap⟩

theorem St.drop {B : Nat} {w0 w : World} {A : Thing} {r : List Thing} (h : St B w0 w (A :: r)) : St B w0 w r := by
  obtain ⟨S1, _, _, h3⟩ := h.sep
  exact ⟨h.only, h.size, Sep.mono h3 (fun k _ hk => hk.1)⟩

theorem St.step {B : Nat} {w0 w w' : World} {A A' : Thing} {r : List Thing} (h : St B w0 w (A :: r))
    (f : ∀ S, A.holds w S → ∃ S', A'.holds w' S' ∧ Only S w w' ∧ ∀ k, S' k → S k ∨ w.heap.size ≤ k) : St B w0 w' (A' :: r) := by
  obtain ⟨S1, h1, h2, h3⟩ := h.sep
  obtain ⟨S1', g1, g2, g3⟩ := f S1 h1
  refine ⟨h.only.trans g2 (fun i _ hi => h2 i hi), Nat.le_trans h.size g2.size, S1', g1, ?_, ?_⟩
  · intro k hk
    rcases g3 k hk with a | a
    · exact h2 k a
    · exact Nat.le_trans h.size a
  · have e1 : Sep w r (fun k => (From B k ∧ ¬ S1 k) ∧ ¬ S1' k) := Sep.mono h3 (fun k hk hs => ⟨hs, fun h' => by
      rcases g3 k h' with a | a
      · exact hs.2 a
      · omega⟩)
    exact Sep.mono (Sep.keep g2 e1 (fun k hk => hk.1.2)) (fun k _ hk => ⟨hk.1.1, hk.2⟩)

theorem St.add {B : Nat} {w0 w w' : World} {A : Thing} {r : List Thing} (h : St B w0 w r) (hb : Below w.heap.size w w') {S : Nat → Prop} (hA : A.holds w' S) (hS : ∀ k, S k → w.heap.size ≤ k) : St B w0 w' (A :: r) := by
  have ho : Only (fun _ => False) w w' := Only.of_below hb (fun k hk hk' => absurd hk (by omega))
  refine ⟨h.only.trans ho (fun _ _ f => f.elim), Nat.le_trans h.size hb.size, S, hA, fun k hk => Nat.le_trans h.size (hS k hk), ?_⟩
  have e1 : Sep w r (fun k => From B k ∧ ¬ S k) := Sep.mono h.sep (fun k hk hs => ⟨hs, fun h' => by have := hS k h'; omega⟩)
  exact Sep.keep ho e1 (fun _ _ f => f)

theorem St.quiet {B : Nat} {w0 w w' : World} {r : List Thing} (h : St B w0 w r) (hb : Below w.heap.size w w') : St B w0 w' r := by
  have ho : Only (fun _ => False) w w' := Only.of_below hb (fun k hk hk' => absurd hk (by omega))
  exact ⟨h.only.trans ho (fun _ _ f => f.elim), Nat.le_trans h.size hb.size, Sep.keep ho h.sep (fun _ _ f => f)⟩

theorem below_drewN {w : World} (n : Nat) : Below w.heap.size w (w.drewN n) := ⟨rfl, rfl, rfl, Nat.le_refl _, fun _ _ => rfl⟩
theorem below_alloc (w : World) (o : Obj) : Below w.heap.size w (w.alloc o) := (Below.refl _ _).alloc (Nat.le_refl _) _

theorem St.drewN {B : Nat} {w0 w : World} {r : List Thing} (h : St B w0 w r) (n : Nat) : St B w0 (w.drewN n) r := h.quiet (below_drewN n)
theorem St.drew {B : Nat} {w0 w : World} {r : List Thing} (h : St B w0 w r) : St B w0 w.drew r := h.quiet (Below.refl _ _).drew
theorem St.alloc {B : Nat} {w0 w : World} {r : List Thing} (h : St B w0 w r) (o : Obj) : St B w0 (w.alloc o) r := h.quiet (below_alloc w o)

def rowT (e : TypeId) (size : Nat) (v : Value) (n : Nat) (xs : List Value) : Thing where
  holds w S := w.ownsRow 0 e size v n xs ∧ ∀ k, S k ↔ v.ownBlock = some k
  keep h ho hd := ⟨ownsRow_only h.1 ho (fun g hg => hd g ((h.2 g).2 hg)), h.2⟩
  lt h hk := (h.1.lt _ ((h.2 _).1 hk)).2

theorem St.row {B : Nat} {w0 w : World} {e : TypeId} {size : Nat} {v : Value} {n : Nat} {xs : List Value} {r : List Thing} (h : St B w0 w (rowT e size v n xs :: r)) : w.ownsRow 0 e size v n xs := by
  obtain ⟨S1, h1, _⟩ := h.sep
  exact h1.1

theorem St.rowFrom {B : Nat} {w0 w : World} {e : TypeId} {size : Nat} {v : Value} {n : Nat} {xs : List Value} {r : List Thing} (h : St B w0 w (rowT e size v n xs :: r)) : w.ownsRow B e size v n xs := by
  obtain ⟨S1, h1, h2, _⟩ := h.sep
  refine ⟨h1.1.1, ?_⟩
  rcases h1.1.2 with a | ⟨g, cap, cur, hv, _, rest⟩
  · exact .inl a
  · exact .inr ⟨g, cap, cur, hv, h2 g ((h1.2 g).2 (by rw [hv]; rfl)), rest⟩

theorem St.addRow {B : Nat} {w0 w w' : World} {e : TypeId} {size : Nat} {v : Value} {n : Nat} {xs : List Value} {r : List Thing} (h : St B w0 w r) (hb : Below w.heap.size w w') (ho : w'.ownsRow w.heap.size e size v n xs) : St B w0 w' (rowT e size v n xs :: r) :=
  h.add (S := fun k => v.ownBlock = some k) hb ⟨ownsRow_base ho, fun _ => Iff.rfl⟩ (fun k hk => (ho.lt k hk).1)

theorem St.addNil {B : Nat} {w0 w : World} {e : TypeId} {size : Nat} {r : List Thing} (h : St B w0 w r) : St B w0 w (rowT e size (.slice none 0 0) 0 [] :: r) :=
  h.add (S := fun k => Value.ownBlock (.slice none 0 0) = some k) (Below.refl _ _) ⟨World.ownsRow_nil _ _ _ _, fun _ => Iff.rfl⟩ (fun k hk => by simp [Value.ownBlock] at hk)

theorem St.grown {B : Nat} {w0 w w' : World} {e : TypeId} {size : Nat} {v v' : Value} {n n' : Nat} {xs xs' : List Value} {r : List Thing} (h : St B w0 w (rowT e size v n xs :: r))
    (ho : w'.ownsRow 0 e size v' n' xs') (hg : w.grownBy w' v.ownBlock) (hf : Fresh w v v') : St B w0 w' (rowT e size v' n' xs' :: r) :=
  h.step fun S hS => ⟨fun k => v'.ownBlock = some k, ⟨ho, fun _ => Iff.rfl⟩, ⟨hg.os, hg.tape, hg.output, hg.size, fun k hk hn => hg.block k hk (fun e => hn ((hS.2 k).2 e.symm))⟩, fun k hk => by
    rcases hf with a | a
    · exact .inl ((hS.2 k).2 (by rw [← a]; exact hk))
    · exact .inr (a k hk)⟩

theorem St.rowShape {B : Nat} {w0 w : World} {e : TypeId} {size : Nat} {v : Value} {n : Nat} {xs : List Value} {r : List Thing} (h : St B w0 w (rowT e size v n xs :: r)) (hn : 0 < n) :
    ∃ g cap, v = .slice (some ⟨g, 0, none⟩) n cap ∧ n ≤ cap := by
  rcases h.row.2 with ⟨_, h0⟩ | ⟨g, cap, cur, hv, _, _, hnc, _⟩
  · omega
  · exact ⟨g, cap, hv, hnc⟩

theorem St.stored {B : Nat} {w0 w : World} {e : TypeId} {size g n cap : Nat} {xs : List Value} {r : List Thing} (h : St B w0 w (rowT e size (.slice (some ⟨g, 0, none⟩) n cap) n xs :: r)) (j : Nat) (u : Value) :
    St B w0 (w.setCell ⟨g, j, none⟩ u) (rowT e size (.slice (some ⟨g, 0, none⟩) n cap) n (xs.set j u) :: r) :=
  h.grown (h.row.stored j u).1 (h.row.stored j u).2 (Fresh.refl _ _)

theorem wpList_append_one {P : Program} {ops : Array Oper} {rest : List Oper} {o : Oper} {a : Act} {Q : Exit → Act → World → Prop} (hgd : o.guard = none) (s x : Operand) (t : TypeId)
    (ho : o.op = .call { callee := .builtin .append, args := #[s, x], argTypes := #[t, t] })
    (e : TypeId) (i : TypeInfo) (z : Value) (size bytes : Nat) (ht : P.underlying t = some (.slice e)) (hi : P.info? e = some i) (hz : i.zero = some z)
    (hsize : i.size = size) (hby : i.bytes = bytes) (hzs : z.cells.size = size) (hsz : 0 < size)
    {B : Nat} {w0 w2 : World} {v : Value} {n : Nat} {xs : List Value} {r : List Thing} (st : St B w0 w2 (rowT e size v n xs :: r)) (hs : a.eval s = v)
    (cs : List Value) (hx : a.eval x = .slice (some ⟨w2.heap.size, 0, none⟩) 1 1) (hcs : cs.length = size) (h1 : ∀ u ∈ cs, u.oneCell' = true)
    (h63 : n + 1 ≤ maxLen) (hbytes : (n + 1) * bytes ≤ 140737488355328)
    (h : ∀ v' w', St B w0 w' (rowT e size v' (n + 1) (xs ++ cs) :: r) → wpList P ops Q rest (a.put o.dst v') w') : wpList P ops Q (o :: rest) a (w2.alloc (.cells cs.toArray e)) := by
  have st1 := st.alloc (.cells cs.toArray e)
  refine wpList_append_mine _ hgd s x t ho e i z size bytes ht hi hz hsize hby hzs hsz v n xs hs st1.row (some ⟨w2.heap.size, 0, none⟩) 1 1 cs hx (fun e => by cases e) (by omega) ?_ h1 h63 hbytes ?_
  · intro b hb j u hu
    obtain rfl := Option.some.inj hb
    have hadd : (⟨w2.heap.size, 0, none⟩ : Addr).add j = ⟨w2.heap.size, j, none⟩ := by unfold Addr.add; split <;> simp_all
    rw [hadd, cell_of_row _ w2.heap.size j cs.toArray e (0, 0) (heap_alloc_new w2 _)]
    simpa using hu
  · intro v' w' g1 g2 g3
    exact h v' w' (st1.grown g1 g2 g3)

theorem wpList_append_row {P : Program} {ops : Array Oper} {rest : List Oper} {o : Oper} {a : Act} {Q : Exit → Act → World → Prop} (hgd : o.guard = none) (s x : Operand) (t : TypeId)
    (ho : o.op = .call { callee := .builtin .append, args := #[s, x], argTypes := #[t, t] })
    (e : TypeId) (i : TypeInfo) (z : Value) (bytes : Nat) (ht : P.underlying t = some (.slice e)) (hi : P.info? e = some i) (hz : i.zero = some z)
    (hsize : i.size = 1) (hby : i.bytes = bytes) (hzs : z.cells.size = 1)
    {B : Nat} {w0 w : World} {v : Value} {n : Nat} {xs : List Value} {ad : Option Addr} {m c : Nat} {ys : List Value} {r : List Thing}
    (st : St B w0 w (rowT e 1 v n xs :: rowT e 1 (.slice ad m c) m ys :: r)) (hs : a.eval s = v) (hx : a.eval x = .slice ad m c) (h1 : ∀ u ∈ ys, u.oneCell' = true)
    (h63 : n + m ≤ maxLen) (hbytes : (n + m) * bytes ≤ 140737488355328)
    (h : ∀ v' w', St B w0 w' (rowT e 1 v' (n + m) (xs ++ ys) :: rowT e 1 (.slice ad m c) m ys :: r) → wpList P ops Q rest (a.put o.dst v') w') : wpList P ops Q (o :: rest) a w := by
  have hy := st.swap.row
  refine wpList_append_mine _ hgd s x t ho e i z 1 bytes ht hi hz hsize hby hzs (by decide) v n xs hs st.row ad m c ys hx ?_ hy.1 ?_ h1 h63 hbytes ?_
  · intro e1
    subst e1
    rcases hy.2 with ⟨e2, e3⟩ | ⟨g, cap, cur, e2, _⟩
    · have := Value.slice.inj e2; exact ⟨e3, this.2.2⟩
    · cases e2
  · intro b hb j u hu
    subst hb
    rcases hy.2 with ⟨e2, e3⟩ | ⟨g, cap, cur, e2, _⟩
    · cases e2
    · have e4 : b = ⟨g, 0, none⟩ := Option.some.inj (Value.slice.inj e2).1
      rw [e4]
      exact hy.cells (g := g) (by rw [e4]; rfl) j u hu
  · intro v' w' g1 g2 g3
    exact h v' w' (st.grown g1 g2 g3)

end Go.Proofs.YtpinfihmageeoaaGreat

namespace Go.Proofs.YtpinfihmageeoaaGreat
open Go.RowKit

def Mine (pb : Nat) (v : Value) (k : Nat) : Prop := k = pb ∨ v.ownBlock = some k

theorem Mine.of_fresh {w : World} {pb : Nat} {v v' : Value} (h : Fresh w v v') {k : Nat} (hk : k < w.heap.size) (hm : Mine pb v' k) : Mine pb v k := by
  rcases hm with hm | hm
  · exact .inl hm
  · exact .inr (h.of hm hk)

theorem bit_and (b : Bool) : bits .and .u8 (b.toNat : Int) 1 = (b.toNat : Int) := by cases b <;> decide

def padOf (n : Nat) : Nat := (8 - n % 8) % 8

theorem padOf_lt (n : Nat) : padOf n < 8 := by unfold padOf; omega

def Reads (w : World) (v : Value) (xs : List Value) : Prop := (v = .slice none 0 0 ∧ xs = []) ∨ ∃ a cap, v = .slice (some a) xs.length cap ∧ ∀ j u, xs[j]? = some u → w.cell? (a.add j) = some u

theorem Reads.of_owns {w : World} {base : Nat} {e : TypeId} {v : Value} {n : Nat} {xs : List Value} (h : w.ownsRow base e 1 v n xs) : Reads w v xs := by
  have h1 : xs.length = n := by simpa using h.1
  subst h1
  rcases h.2 with ⟨rfl, h0⟩ | ⟨g, cap, cur, rfl, hb, hg, rest⟩
  · exact .inl ⟨rfl, List.eq_nil_of_length_eq_zero h0⟩
  · exact .inr ⟨_, cap, rfl, h.cells rfl⟩

theorem mod_two_bit (y : Nat) : (y : Int) % 2 = (((y % 2 == 1 : Bool).toNat : Nat) : Int) := by
  rcases Nat.mod_two_eq_zero_or_one y with h | h <;> simp [h] <;> omega

theorem byte_bit (y k : Nat) (hy : y < 256) : bits .and .u8 ((y : Int) / 2 ^ k) 1 = (((y / 2 ^ k % 2 == 1 : Bool).toNat : Nat) : Int) := by
  have e : (y : Int) / 2 ^ k = ((y / 2 ^ k : Nat) : Int) := by simp
  have hz : y / 2 ^ k < 256 := Nat.lt_of_le_of_lt (Nat.div_le_self _ _) hy
  rw [e]
  generalize y / 2 ^ k = q at hz
  rw [and1_u8 _ (by omega) (by omega)]
  exact mod_two_bit _

theorem ret_int {k : IntKind} {a b : Int} (h : a = b) : Ending.returned (.int k a) = .returned (.int k b) := by rw [h]

theorem ownsRow_slice {w : World} {base : Nat} {e : TypeId} {size : Nat} {v : Value} {n : Nat} {xs : List Value} (h : w.ownsRow base e size v n xs) : ∃ a c, v = .slice a n c := by
  rcases h.2 with ⟨rfl, rfl⟩ | ⟨g, cap, cur, rfl, _⟩
  · exact ⟨_, _, rfl⟩
  · exact ⟨_, _, rfl⟩

def strOf (xs : List Nat) : ByteArray := xs.foldl (fun r n => r.push (UInt8.ofNat n)) ByteArray.empty

theorem foldl_cast (xs : List Nat) (s : ByteArray) : (xs.map fun (x : Nat) => (x : Int)).foldl (fun r n => r.push (UInt8.ofNat n.toNat)) s = xs.foldl (fun r n => r.push (UInt8.ofNat n)) s := by
  induction xs generalizing s with
  | nil => rfl
  | cons x xs ih => simp only [List.map_cons, List.foldl_cons, ih, Int.toNat_natCast]

theorem foldl_push_data (xs : List Nat) (s : ByteArray) : (xs.foldl (fun r n => r.push (UInt8.ofNat n)) s).data = s.data ++ (xs.map UInt8.ofNat).toArray := by
  induction xs generalizing s with
  | nil => simp
  | cons x xs ih => rw [List.foldl_cons, ih]; simp

theorem strOf_data (xs : List Nat) : (strOf xs).data = (xs.map UInt8.ofNat).toArray := by unfold strOf; rw [foldl_push_data, show ByteArray.empty.data = #[] from rfl]; simp

theorem Below.only {B : Nat} {w w' : World} (h : Below B w w') (hB : w.heap.size ≤ B) (S : Nat → Prop) : Only S w w' :=
  Only.of_below h (fun k hk hb => absurd hk (by omega))

theorem only_from {S : Nat → Prop} {B : Nat} {a b c : World} (h : Only (From B) a b) (k : Only S b c) (hS : ∀ i, S i → B ≤ i) : Only (From B) a c := h.trans k (fun i _ t => hS i t)

theorem mine_new {w : World} {o : Obj} {v1 : Value} (hf : Fresh (w.alloc o) (.slice none 0 0) v1) : ∀ k, Mine w.heap.size v1 k → w.heap.size ≤ k := by
  intro k hk
  rcases hk with rfl | hk
  · exact Nat.le_refl _
  · rcases hf with e1 | e1
    · rw [hk] at e1; simp [Value.ownBlock] at e1
    · have := e1 k hk; simp at this; omega

theorem only_new {w w1 : World} {o : Obj} (ho : Only (Mine w.heap.size (.slice none 0 0)) (w.alloc o) w1) : Only (From w.heap.size) w w1 :=
  only_from ((Only.refl _ _).alloc _) ho (fun i hi => by
    rcases hi with rfl | hi
    · exact Nat.le_refl _
    · simp [Value.ownBlock] at hi)

def bools (l : List Bool) : List Value := l.map Value.bool
theorem bools_length (l : List Bool) : (bools l).length = l.length := by simp [bools]
theorem bools_append (l m : List Bool) : bools (l ++ m) = bools l ++ bools m := by simp [bools]
theorem bools_set (l : List Bool) (i : Nat) (b : Bool) : bools (l.set i b) = (bools l).set i (.bool b) := by simp [bools, List.map_set]
theorem bools_get (l : List Bool) (i : Nat) (h : i < l.length) : (bools l)[i]? = some (.bool l[i]) := by simp [bools, h]
theorem bools_one (l : List Bool) : ∀ u ∈ bools l, u.oneCell' = true := by
  intro u hu
  simp only [bools, List.mem_map] at hu
  obtain ⟨x, _, rfl⟩ := hu
  rfl

theorem div_small (x n : Nat) : (((x / 2 ^ n : Nat) : Int) == 0) = decide (x < 2 ^ n) := by
  rw [Bool.eq_iff_iff]
  simp only [beq_iff_eq, decide_eq_true_eq]
  have h := Nat.div_eq_zero_iff_lt (x := x) (Nat.two_pow_pos n)
  omega

def lenOf : Value → Nat
  | .slice _ n _ => n
  | _ => 0

theorem list_of {α : Type} (p : Nat → α → Prop) : ∀ n : Nat, (∀ i, i < n → ∃ x, p i x) → ∃ l : List α, l.length = n ∧ ∀ (i : Nat) (h : i < l.length), p i l[i]
  | 0, _ => ⟨[], rfl, fun i h => absurd h (by simp)⟩
  | n + 1, f => by
    obtain ⟨l, h1, h2⟩ := list_of p n (fun i hi => f i (by omega))
    obtain ⟨x, hx⟩ := f n (by omega)
    refine ⟨l ++ [x], by simp [h1], fun i hi => ?_⟩
    by_cases h : i < l.length
    · rw [List.getElem_append_left h]; exact h2 i h
    · have : i = n := by simp at hi; omega
      subst this
      rw [List.getElem_append_right (by omega)]
      simpa using hx

theorem add_none (b o i : Nat) : (⟨b, o, none⟩ : Addr).add i = ⟨b, o + i, none⟩ := by unfold Addr.add; split <;> simp_all

end Go.Proofs.YtpinfihmageeoaaGreat

namespace Go.Proofs.YtpinfihmageeoaaGreat
open Go.RowKit Go.ChangeShapes Go.WideShapes Go.Deep

theorem info8 : (Tryz.prog.info? 5).map (fun i => (i.zero, i.size, i.bytes)) = some (some (.int .u8 0), 1, 1) := by kernel_rfl

def NewBytes (w : World) (xs : List Nat) (e : Ending) (w' : World) : Prop := ∃ v', e = .returned v' ∧ w'.ownsRow w.heap.size 5 1 v' xs.length (u8s xs) ∧ Below w.heap.size w w'

theorem reads_lit (w : World) (xs : List Nat) : Reads (w.alloc (.cells (u8s xs).toArray 5)) (.slice (some ⟨w.heap.size, 0, none⟩) xs.length xs.length) (u8s xs) := by
  refine .inr ⟨_, xs.length, by rw [u8s_length], ?_⟩
  intro j u hu
  have hadd : (⟨w.heap.size, 0, none⟩ : Addr).add j = ⟨w.heap.size, j, none⟩ := by unfold Addr.add; split <;> simp_all
  rw [hadd, cell_of_row _ w.heap.size j (u8s xs).toArray 5 (0, 0) (heap_alloc_new w _)]
  simpa using hu

def BytesSt (B : Nat) (w0 : World) (r : List Thing) (xs : List Nat) (e : Ending) (w' : World) : Prop := ∃ v', e = .returned v' ∧ St B w0 w' (rowT 5 1 v' xs.length (u8s xs) :: r)

def ByteRow (w : World) (v : Value) (xs : List Nat) : Prop := ∃ a cap, v = .slice a xs.length cap ∧ xs.length ≤ cap ∧ (a = none → cap = 0) ∧ ∀ (i : Nat) (h : i < xs.length), xs[i] < 256 ∧ ∃ b off, a = some ⟨b, off, none⟩ ∧ w.cell? ⟨b, off + i, none⟩ = some (.int .u8 (xs[i] : Int))

theorem ByteRow.reads {w : World} {v : Value} {xs : List Nat} (h : ByteRow w v xs) : Reads w v (u8s xs) := by
  obtain ⟨a, cap, rfl, hc, hn, hat⟩ := h
  cases a with
  | none =>
    have := hn rfl
    have h0 : xs = [] := List.eq_nil_of_length_eq_zero (by omega)
    subst h0 this
    exact .inl ⟨rfl, rfl⟩
  | some a =>
    refine .inr ⟨a, cap, by rw [u8s_length], fun j u hu => ?_⟩
    have hj : j < xs.length := by
      have := (List.getElem?_eq_some_iff.1 hu).1
      rwa [u8s_length] at this
    obtain ⟨_, b, off, e, hcell⟩ := hat j hj
    obtain rfl := Option.some.inj e
    rw [add_none, hcell, ← hu, u8s_get _ _ hj]

theorem ByteRow.byte {w : World} {v : Value} {xs : List Nat} (h : ByteRow w v xs) : ∀ x ∈ xs, x < 256 := by
  obtain ⟨a, cap, rfl, hc, hn, hat⟩ := h
  intro x hx
  obtain ⟨i, hi, rfl⟩ := List.getElem_of_mem hx
  exact (hat i hi).1

theorem ByteRow.below {w w' : World} {B : Nat} {v : Value} {xs : List Nat} (h : ByteRow w v xs) (hb : RowKit.Below B w w') (hB : w.heap.size ≤ B) : ByteRow w' v xs := by
  obtain ⟨a, cap, h1, h2, h3, h4⟩ := h
  refine ⟨a, cap, h1, h2, h3, fun i hi => ⟨(h4 i hi).1, ?_⟩⟩
  obtain ⟨_, b, off, e, hc⟩ := h4 i hi
  have lt := World.block_lt_of_cell? w _ hc
  exact ⟨b, off, e, (hb.cell (p := ⟨b, off + i, none⟩) (Nat.lt_of_lt_of_le lt hB)).trans hc⟩

section
open Go.ChangeShapes Go.WideShapes
variable {H : Type} {enc : TypeId × Value → H} {W : World}

theorem open_bytes {a : Option Addr} {len cap : Nat} {d : DataW H} {p : List MemPlace} (h : DataW.Trod enc Tryz.prog W 0 (fun _ => true) true 26 (.slice a len cap) d p) : ∃ xs, ByteRow W (.slice a len cap) xs := by
  obtain ⟨fuel, hf⟩ := h
  rcases open_ints Tryz.underlying26 Tryz.underlying5 (by kernel_rfl) hf with ⟨hcs, _⟩ | ⟨x, l, c, zs, hcs, _, hl, hm, hz, _, hcell, hwz⟩
  · simp [Value.cells] at hcs
    obtain ⟨rfl, rfl, rfl⟩ := hcs
    exact ⟨[], none, 0, rfl, by simp, fun _ => rfl, fun i hi => absurd hi (by simp)⟩
  · simp [Value.cells] at hcs
    obtain ⟨rfl, rfl, rfl⟩ := hcs
    have hz' : zs.length = cap := by simpa using hz
    have hwf : ∀ i, i < len → ∃ y : Nat, zs.getD i 0 = (y : Int) ∧ y < 256 := by
      intro i hi
      have hmem : zs.getD i 0 ∈ zs := by rw [getD_in _ _ (by omega)]; exact List.getElem_mem _
      have h1 := hwz _ hmem
      simp only [Lit.wf, Bool.and_eq_true, decide_eq_true_eq] at h1
      have e1 : IntKind.u8.min = 0 := rfl
      have e2 : IntKind.u8.max = 255 := rfl
      rw [e1, e2] at h1
      exact ⟨(zs.getD i 0).toNat, by omega, by omega⟩
    obtain ⟨xs, h1, h2⟩ := list_of (fun i (y : Nat) => zs.getD i 0 = (y : Int) ∧ y < 256) len hwf
    refine ⟨xs, some x, cap, by rw [h1], by omega, (fun e => by cases e), fun i hi => ⟨(h2 i hi).2, ?_⟩⟩
    have hx : x = ⟨x.block, x.off, none⟩ := by
      have h3 := hcell 0 (by omega)
      have h4 : x.spot = none := by
        have := World.cell?_spot h3
        simpa [Addr.add] using this
      obtain ⟨b, o, s⟩ := x
      simpa using h4
    refine ⟨x.block, x.off, by rw [← hx], ?_⟩
    have h5 := hcell i (by omega)
    rw [hx, add_none] at h5
    rw [h5, (h2 i hi).1]
end

end Go.Proofs.YtpinfihmageeoaaGreat

namespace Go.Proofs.YtpinfihmageeoaaGreat
open Go.RowKit

theorem clone_any (w : World) (v : Value) (xs : List Nat) (h : Reads w v (u8s xs)) (hl : xs.length ≤ 140737488355328) :
    Calls Tryz.prog 26 #[v] w fun e w' => ∃ v', e = .returned v' ∧ w'.ownsRow w.heap.size 5 1 v' xs.length (u8s xs) ∧ Below w.heap.size w w' := by
  obtain ⟨i0, hi, hz0, hz1, hz2⟩ := info_parts info8
  have hnil := fun (w : World) (a : Option Addr) (n c : Nat) => Lib.run_eql_slice_nil (P := Tryz.prog) w 26 5 a n c 0 0 Tryz.underlying26
  rcases h with ⟨rfl, h0⟩ | ⟨a, cap, rfl, hcell⟩
  · go_enter Tryz.func26, Tryz.ntmps26
    go_wp2
    go_ret
    have : xs = [] := by simpa [u8s] using h0
    subst this
    exact ⟨_, rfl, World.ownsRow_nil _ _ _ _, Below.refl _ _⟩
  · rw [u8s_length]
    go_enter Tryz.func26, Tryz.ntmps26
    have hc2 : ∀ j u, (u8s xs)[j]? = some u → (w.alloc (.cells #[] 5)).cell? (a.add j) = some u := fun j u hu => cell_alloc (hcell j u hu) _
    have H2 := Lib.hid hc2
    have H3 := Lib.hid hcell
    clear hc2 hcell
    go_wp2_with ((at_builtin; refine wpList_append_own _ rfl _ _ 26 rfl w.heap.size 5 i0 (.int .u8 0) 1 1 Tryz.underlying26 hi hz0 hz1 hz2 rfl (by decide) _ _ _ rfl (World.ownsRow_made w #[] 0 (Nat.le_refl _) (by unfold maxLen; omega) rfl) a xs.length cap (u8s xs) rfl ?c0 H2.out (u8s_one xs) ?c3 ?c4 ?c5 ?_))
    case c0 => rw [u8s_length]; omega
    case c3 => unfold maxLen; omega
    case c4 => omega
    case c5 => simp
    intro v1 w1 hown1 hgrow1 _
    clear hi hz0 hz1 hz2 hnil
    go_wp2
    go_ret
    refine ⟨_, rfl, ?_, ?_⟩
    · simpa using hown1
    · exact ((Below.refl _ _).alloc (Nat.le_refl _) _).grown hgrow1 (by simp) (fun k hk => by simp [Value.ownBlock] at hk; omega)

end Go.Proofs.YtpinfihmageeoaaGreat

namespace Go.Proofs.YtpinfihmageeoaaGreat
open Go.RowKit

theorem run_string (w : World) (v : Value) (xs : List Nat) (h : Reads w v (u8s xs)) : (convert 26 9 v).run Tryz.prog w = .ok (.string (strOf xs)) w := by
  rcases h with ⟨rfl, h0⟩ | ⟨a, cap, rfl, hc⟩
  · have : xs = [] := by simpa [u8s] using h0
    subst this
    rw [run_convert_bytes_string w 26 9 5 _ _ _ Tryz.underlying26 Tryz.underlying5 Tryz.underlying9]
    simp [Conv.bytesToString, Sem.run_pure, strOf]
  · rw [run_convert_bytes_string w 26 9 5 _ _ _ Tryz.underlying26 Tryz.underlying5 Tryz.underlying9]
    have hl := run_loadCells_list (P := Tryz.prog) w a (u8s xs) hc
    have e1 : u8s xs = (xs.map fun (x : Nat) => (x : Int)).map (Value.int .u8) := by simp [u8s]
    rw [run_bytesToString w a _ cap (xs.map fun (x : Nat) => (x : Int)) (by rw [hl, e1]), foldl_cast]
    rfl

theorem St.string {B : Nat} {w0 w : World} {r : List Thing} {v : Value} {xs : List Nat} (h : St B w0 w (rowT 5 1 v xs.length (u8s xs) :: r)) : (convert 26 9 v).run Tryz.prog w = .ok (.string (strOf xs)) w :=
  run_string w v xs (Reads.of_owns h.row)

end Go.Proofs.YtpinfihmageeoaaGreat

namespace Go.Proofs.YtpinfihmageeoaaGreat
open Go.RowKit

def boxT (b : Nat) (cs : Array Value) (t : TypeId) : Thing where
  holds w S := w.heap[b]? = some (.cells cs t (0, 0)) ∧ ∀ k, S k ↔ k = b
  keep := by
    rintro w w' S T ⟨h1, h2⟩ ho hd
    exact ⟨ho.at h1 (hd b ((h2 b).2 rfl)), h2⟩
  lt := by
    rintro w S k ⟨h1, h2⟩ hk
    obtain rfl := (h2 k).1 hk
    exact lt_of_block h1

section
variable {B : Nat} {w0 w : World} {r : List Thing}

theorem St.newBox (st : St B w0 w r) (cs : Array Value) (t : TypeId) : St B w0 (w.alloc (.cells cs t)) (boxT w.heap.size cs t :: r) :=
  st.add (S := fun k => k = w.heap.size) (below_alloc _ _) ⟨heap_alloc_new w _, fun _ => Iff.rfl⟩ (fun k hk => by omega)

theorem St.box {b : Nat} {cs : Array Value} {t : TypeId} (st : St B w0 w (boxT b cs t :: r)) : w.heap[b]? = some (.cells cs t (0, 0)) := by
  obtain ⟨S1, h1, _⟩ := st.sep
  exact h1.1

theorem St.boxAt {b : Nat} {cs : Array Value} {t : TypeId} (st : St B w0 w (boxT b cs t :: r)) (j : Nat) : w.cell? ⟨b, j, none⟩ = cs[j]? ∧ w.frozen? ⟨b, j, none⟩ = false := by
  refine ⟨cell_of_row _ b j cs t (0, 0) st.box, ?_⟩
  simp [World.frozen?, st.box]

theorem St.setBox {b : Nat} {u : Value} {t : TypeId} (st : St B w0 w (boxT b #[u] t :: r)) (u' : Value) : St B w0 (w.setCell ⟨b, 0, none⟩ u') (boxT b #[u'] t :: r) := by
  refine st.step fun S hS => ⟨S, ⟨?_, hS.2⟩, ?_, fun k hk => .inl hk⟩
  · exact heap_setCell_same _ b 0 _ t _ hS.1
  · have hg : S b := (hS.2 b).2 rfl
    exact (Only.refl _ _).setCell (fun _ => hg) _

end
end Go.Proofs.YtpinfihmageeoaaGreat

namespace Go.Proofs.YtpinfihmageeoaaGreat
open Go.RowKit

def toFront : Nat → List Thing → List Thing
  | 0, l => l
  | _, [] => []
  | n + 1, A :: r => match toFront n r with
    | [] => [A]
    | C :: r' => C :: A :: r'

theorem Sep.front {w : World} : ∀ (n : Nat) (l : List Thing) (S : Nat → Prop), Sep w l S → Sep w (toFront n l) S
  | 0, _, _, h => h
  | n + 1, [], _, h => h
  | n + 1, A :: r, S, h => by
    have h1 : Sep w (A :: toFront n r) S := Sep.under (fun S' h' => Sep.front n r S' h') h
    unfold toFront
    cases e : toFront n r with
    | nil => rw [e] at h1; exact h1
    | cons C r' => rw [e] at h1; exact h1.swap

theorem St.front {B : Nat} {w0 w : World} {l : List Thing} (n : Nat) (h : St B w0 w l) : St B w0 w (toFront n l) := ⟨h.only, h.size, Sep.front n l _ h.sep⟩

theorem St.setBoxAt {B : Nat} {w0 w : World} {r : List Thing} {b : Nat} {cs : Array Value} {t : TypeId} (st : St B w0 w (boxT b cs t :: r)) (j : Nat) (u : Value) : St B w0 (w.setCell ⟨b, j, none⟩ u) (boxT b (cs.setIfInBounds j u) t :: r) := by
  refine st.step fun S hS => ⟨S, ⟨heap_setCell_same _ b j _ t _ hS.1, hS.2⟩, ?_, fun k hk => .inl hk⟩
  have hg : S b := (hS.2 b).2 rfl
  exact (Only.refl _ _).setCell (fun _ => hg) _

end Go.Proofs.YtpinfihmageeoaaGreat
