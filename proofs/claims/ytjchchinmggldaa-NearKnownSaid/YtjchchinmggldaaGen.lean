/-
  Plain facts about values, slices and bits that more than one layer uses. No program. No conditions.
-/
import Derived.Test.YtjchchinmggldaaBits
import Derived.Test.YtjchchinmggldaaSep
import Derived.Outline
import Derived.RegionTactic
import Derived.BigRegion
import Derived.ChangeAlike
import Derived.WalkSpells
import Derived.Deep.RegionWith
import Derived.IntWalk
namespace Go.Proofs.Ytjchchinmggldaa
open Go.RowKit

/-- The blocks of a writer. -/
def Mine (pb : Nat) (v : Value) (k : Nat) : Prop := k = pb ∨ v.ownBlock = some k

theorem Mine.of_fresh {w : World} {pb : Nat} {v v' : Value} (h : Fresh w v v') {k : Nat} (hk : k < w.heap.size) (hm : Mine pb v' k) : Mine pb v k := by
  rcases hm with hm | hm
  · exact .inl hm
  · exact .inr (h.of hm hk)

theorem bit_and (b : Bool) : bits .and .u8 (b.toNat : Int) 1 = (b.toNat : Int) := by cases b <;> decide

/-- How many bits are missing up to a byte's end. -/
def padOf (n : Nat) : Nat := (8 - n % 8) % 8

theorem padOf_lt (n : Nat) : padOf n < 8 := by unfold padOf; omega

/-- A slice reads as these values. -/
def Reads (w : World) (v : Value) (xs : List Value) : Prop := (v = .slice none 0 0 ∧ xs = []) ∨ ∃ a cap, v = .slice (some a) xs.length cap ∧ ∀ j u, xs[j]? = some u → w.cell? (a.add j) = some u

theorem Reads.of_owns {w : World} {base : Nat} {e : TypeId} {v : Value} {n : Nat} {xs : List Value} (h : w.ownsRow base e 1 v n xs) : Reads w v xs := by
  have h1 : xs.length = n := by simpa using h.1
  subst h1
  rcases h.2 with ⟨rfl, h0⟩ | ⟨g, cap, cur, rfl, hb, hg, rest⟩
  · exact .inl ⟨rfl, List.eq_nil_of_length_eq_zero h0⟩
  · exact .inr ⟨_, cap, rfl, h.cells rfl⟩

theorem mod_two_bit (y : Nat) : (y : Int) % 2 = (((y % 2 == 1 : Bool).toNat : Nat) : Int) := by
  rcases Nat.mod_two_eq_zero_or_one y with h | h <;> simp [h] <;> omega

theorem byte_bit (y k : Nat) (hy : y < 256) : bits .and .u8 ((y : Int) / 2 ^ k) 1 = (((y / 2 ^ k % 2 == 1 : Bool).toNat : Nat) : Int) := by
  have e : (y : Int) / 2 ^ k = ((y / 2 ^ k : Nat) : Int) := by simp
  have hz : y / 2 ^ k < 256 := Nat.lt_of_le_of_lt (Nat.div_le_self _ _) hy
  rw [e]
  generalize y / 2 ^ k = q at hz
  rw [and1_u8 _ (by omega) (by omega)]
  exact mod_two_bit _

theorem ret_int {k : IntKind} {a b : Int} (h : a = b) : Ending.returned (.int k a) = .returned (.int k b) := by rw [h]

theorem ownsRow_slice {w : World} {base : Nat} {e : TypeId} {size : Nat} {v : Value} {n : Nat} {xs : List Value} (h : w.ownsRow base e size v n xs) : ∃ a c, v = .slice a n c := by
  rcases h.2 with ⟨rfl, rfl⟩ | ⟨g, cap, cur, rfl, _⟩
  · exact ⟨_, _, rfl⟩
  · exact ⟨_, _, rfl⟩

/-- Bytes as a string. -/
def strOf (xs : List Nat) : ByteArray := xs.foldl (fun r n => r.push (UInt8.ofNat n)) ByteArray.empty

theorem foldl_cast (xs : List Nat) (s : ByteArray) : (xs.map fun (x : Nat) => (x : Int)).foldl (fun r n => r.push (UInt8.ofNat n.toNat)) s = xs.foldl (fun r n => r.push (UInt8.ofNat n)) s := by
  induction xs generalizing s with
  | nil => rfl
  | cons x xs ih => simp only [List.map_cons, List.foldl_cons, ih, Int.toNat_natCast]

theorem foldl_push_data (xs : List Nat) (s : ByteArray) : (xs.foldl (fun r n => r.push (UInt8.ofNat n)) s).data = s.data ++ (xs.map UInt8.ofNat).toArray := by
  induction xs generalizing s with
  | nil => simp
  | cons x xs ih => rw [List.foldl_cons, ih]; simp

theorem strOf_data (xs : List Nat) : (strOf xs).data = (xs.map UInt8.ofNat).toArray := by unfold strOf; rw [foldl_push_data, show ByteArray.empty.data = #[] from rfl]; simp

theorem Below.only {B : Nat} {w w' : World} (h : Below B w w') (hB : w.heap.size ≤ B) (S : Nat → Prop) : Only S w w' :=
  Only.of_below h (fun k hk hb => absurd hk (by omega))

theorem only_from {S : Nat → Prop} {B : Nat} {a b c : World} (h : Only (From B) a b) (k : Only S b c) (hS : ∀ i, S i → B ≤ i) : Only (From B) a c := h.trans k (fun i _ t => hS i t)

theorem mine_new {w : World} {o : Obj} {v1 : Value} (hf : Fresh (w.alloc o) (.slice none 0 0) v1) : ∀ k, Mine w.heap.size v1 k → w.heap.size ≤ k := by
  intro k hk
  rcases hk with rfl | hk
  · exact Nat.le_refl _
  · rcases hf with e1 | e1
    · rw [hk] at e1; simp [Value.ownBlock] at e1
    · have := e1 k hk; simp at this; omega

theorem only_new {w w1 : World} {o : Obj} (ho : Only (Mine w.heap.size (.slice none 0 0)) (w.alloc o) w1) : Only (From w.heap.size) w w1 :=
  only_from ((Only.refl _ _).alloc _) ho (fun i hi => by
    rcases hi with rfl | hi
    · exact Nat.le_refl _
    · simp [Value.ownBlock] at hi)

/-- Bits as values. -/
def bools (l : List Bool) : List Value := l.map Value.bool
theorem bools_length (l : List Bool) : (bools l).length = l.length := by simp [bools]
theorem bools_append (l m : List Bool) : bools (l ++ m) = bools l ++ bools m := by simp [bools]
theorem bools_set (l : List Bool) (i : Nat) (b : Bool) : bools (l.set i b) = (bools l).set i (.bool b) := by simp [bools, List.map_set]
theorem bools_get (l : List Bool) (i : Nat) (h : i < l.length) : (bools l)[i]? = some (.bool l[i]) := by simp [bools, h]
theorem bools_one (l : List Bool) : ∀ u ∈ bools l, u.oneCell' = true := by
  intro u hu
  simp only [bools, List.mem_map] at hu
  obtain ⟨x, _, rfl⟩ := hu
  rfl

theorem div_small (x n : Nat) : (((x / 2 ^ n : Nat) : Int) == 0) = decide (x < 2 ^ n) := by
  rw [Bool.eq_iff_iff]
  simp only [beq_iff_eq, decide_eq_true_eq]
  have h := Nat.div_eq_zero_iff_lt (x := x) (Nat.two_pow_pos n)
  omega

/-- How many elements a slice has. -/
def lenOf : Value → Nat
  | .slice _ n _ => n
  | _ => 0

/-- Of each place of a row something is known: so a list is. -/
theorem list_of {α : Type} (p : Nat → α → Prop) : ∀ n : Nat, (∀ i, i < n → ∃ x, p i x) → ∃ l : List α, l.length = n ∧ ∀ (i : Nat) (h : i < l.length), p i l[i]
  | 0, _ => ⟨[], rfl, fun i h => absurd h (by simp)⟩
  | n + 1, f => by
    obtain ⟨l, h1, h2⟩ := list_of p n (fun i hi => f i (by omega))
    obtain ⟨x, hx⟩ := f n (by omega)
    refine ⟨l ++ [x], by simp [h1], fun i hi => ?_⟩
    by_cases h : i < l.length
    · rw [List.getElem_append_left h]; exact h2 i h
    · have : i = n := by simp at hi; omega
      subst this
      rw [List.getElem_append_right (by omega)]
      simpa using hx

theorem add_none (b o i : Nat) : (⟨b, o, none⟩ : Addr).add i = ⟨b, o + i, none⟩ := by unfold Addr.add; split <;> simp_all

end Go.Proofs.Ytjchchinmggldaa
