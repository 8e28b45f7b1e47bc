/-
  LsbW LsbP LsbR LsbA LsbS LsbAdd LsbT, one behind the other (merged by wip/merge.py). No conditions but those that each states.
-/
import Derived.Test.YtpcbhmkalofkmaaChecked
import Derived.Test.YtpcbhmkalofkmaaGA
import Derived.Outline
import Derived.RegionTactic
import Derived.BigRegion
import Derived.ChangeAlike
import Derived.WalkSpells
import Derived.Deep.RegionWith
import Derived.IntWalk

/-
  Contracts of the writer of package lsb: what each call does to a row of bits. No conditions but that rows stay below 2^50 bits.
-/
namespace Go.Proofs.Ytpcbhmkalofkmaa
open Go.RowKit

theorem lay_byte (x k : Nat) (b : Bool) (hx : x < 2 ^ k) (hk : k < 8) : bits .or .u8 (x : Int) (bits .and .u8 (b.toNat : Int) 1 * 2 ^ k % 256) = ((x + b.toNat * 2 ^ k : Nat) : Int) := by
  have hb : b.toNat ≤ 1 := by cases b <;> simp
  have h2 : 2 ^ (k + 1) ≤ 2 ^ 8 := Nat.pow_le_pow_right (by omega) (by omega)
  rw [Nat.pow_succ] at h2
  have h3 : b.toNat * 2 ^ k ≤ 1 * 2 ^ k := Nat.mul_le_mul_right _ hb
  have e : (b.toNat : Int) * 2 ^ k % 256 = ((b.toNat * 2 ^ k : Nat) : Int) := by
    rw [show (b.toNat : Int) * 2 ^ k = ((b.toNat * 2 ^ k : Nat) : Int) from by simp]
    omega
  rw [bit_and, e]
  exact or_free_u8 x b.toNat k hx hb hk

theorem last_lt (l : List Bool) (h : l.length / 8 < (pk l).length) : (pk l)[l.length / 8] < 2 ^ (l.length % 8) := by
  rw [pk_get]
  refine Nat.lt_of_lt_of_le (num_lt _) (Nat.pow_le_pow_right (by omega) ?_)
  simp
  omega

end Go.Proofs.Ytpcbhmkalofkmaa

/-
  Contracts of the calls of package lsb's writer. No conditions but that rows stay below 2^50 bits.
-/
namespace Go.Proofs.Ytpcbhmkalofkmaa
open Go.RowKit

theorem spread_bit (x : Nat) (k : Nat) : bits .and .u8 ((x : Int) / 2 ^ k % 256) 1 = (((x / 2 ^ k % 2 == 1 : Bool).toNat : Nat) : Int) := by
  have e : (x : Int) / 2 ^ k = ((x / 2 ^ k : Nat) : Int) := by simp
  rw [e, and1_u8 _ (by omega) (by omega)]
  generalize x / 2 ^ k = y
  rcases Nat.mod_two_eq_zero_or_one y with h | h <;> simp [h] <;> omega

theorem pad_any (n : Nat) (w : World) (h1 : n < 1125899906842624) :
    Calls Try.prog 17 #[.int .i64 (n : Int)] w fun e w' => e = .returned (.int .i64 (padOf n : Int)) ∧ w = w' := by
  go_enter Try.func17, Try.ntmps17
  go_wp2
  go_ret
  refine ⟨?_, rfl⟩
  have e : bits .and .i64 (-(n : Int)) 7 = (padOf n : Int) := by rw [and7]; unfold padOf; omega
  rw [← e]
  rfl

end Go.Proofs.Ytpcbhmkalofkmaa

/-
  Contracts of the reader of package lsb: what each call reads of a row of bytes, and where it stands behind it. No conditions but that rows are of at most 2^46 bytes.
-/
namespace Go.Proofs.Ytpcbhmkalofkmaa
open Go.RowKit

/-- The reader at block qb reads the bytes xs, which lie in the slice v, and stands at the bit p. -/
structure Rd (w : World) (qb : Nat) (v : Value) (xs : List Nat) (p : Nat) : Prop where
  head : w.heap[qb]? = some (.cells #[v, .int .i64 (p : Int)] 45 (0, 0))
  row : w.ownsRow 0 5 1 v xs.length (u8s xs)
  apart : v.ownBlock ≠ some qb
  byte : ∀ x ∈ xs, x < 256
  small : xs.length ≤ 70368744177664
  place : p ≤ 8 * xs.length

def RdTo (w : World) (qb : Nat) (v : Value) (xs : List Nat) (p' : Nat) (w' : World) : Prop := Rd w' qb v xs p' ∧ Only (fun k => k = qb) w w'

theorem Rd.only {S : Nat → Prop} {w w' : World} {qb : Nat} {v : Value} {xs : List Nat} {p : Nat} (h : Rd w qb v xs p) (ho : Only S w w') (hn : ∀ k, Mine qb v k → ¬ S k) : Rd w' qb v xs p :=
  ⟨ho.at h.head (hn qb (.inl rfl)), ownsRow_only h.row ho (fun g hg => hn g (.inr hg)), h.apart, h.byte, h.small, h.place⟩

/-- Where the reader is moved. -/
theorem Rd.moved {w : World} {qb : Nat} {v : Value} {xs : List Nat} {p : Nat} (h : Rd w qb v xs p) (p' : Nat) (hp : p' ≤ 8 * xs.length) (n : Nat) : RdTo w qb v xs p' ((w.drewN n).setCell ⟨qb, 1, none⟩ (.int .i64 (p' : Int))) := by
  have ho : Only (fun k => k = qb) w ((w.drewN n).setCell ⟨qb, 1, none⟩ (.int .i64 (p' : Int))) :=
    ((Only.refl (fun k => k = qb) w).drewN n).setCell (p := ⟨qb, 1, none⟩) (fun _ => rfl) _
  refine ⟨⟨two_set1 (w := w.drewN n) h.head _, ownsRow_only h.row ho (fun g hg e => h.apart (by rw [hg, e])), h.apart, h.byte, h.small, hp⟩, ho⟩

theorem Rd.moved1 {w : World} {qb : Nat} {v : Value} {xs : List Nat} {p : Nat} (h : Rd w qb v xs p) (p' : Nat) (hp : p' ≤ 8 * xs.length) : RdTo w qb v xs p' (w.setCell ⟨qb, 1, none⟩ (.int .i64 (p' : Int))).drew := by
  have ho : Only (fun k => k = qb) w (w.setCell ⟨qb, 1, none⟩ (.int .i64 (p' : Int))).drew :=
    ((Only.refl (fun k => k = qb) w).setCell (p := ⟨qb, 1, none⟩) (fun _ => rfl) _).drew
  refine ⟨⟨two_set1 (w := w) h.head _, ownsRow_only h.row ho (fun g hg e => h.apart (by rw [hg, e])), h.apart, h.byte, h.small, hp⟩, ho⟩

theorem bit_get (xs : List Nat) (p : Nat) (h : p / 8 < xs.length) (hb : ∀ x ∈ xs, x < 256) : bits .and .u8 ((xs[p / 8] : Int) / 2 ^ (p % 8)) 1 = ((bitAt xs p).toNat : Int) := by
  rw [byte_bit _ _ (hb _ (List.getElem_mem h))]
  unfold bitAt
  rw [getD_in _ _ h]

/-- One bit. -/
theorem next_any (w : World) (qb : Nat) (v : Value) (xs : List Nat) (p : Nat) (h : Rd w qb v xs p) (hp : p < 8 * xs.length) :
    Calls Try.prog 26 #[.pointer (some ⟨qb, 0, none⟩)] w fun e w' => e = .returned (.int .u8 ((bitAt xs p).toNat : Int)) ∧ RdTo w qb v xs (p + 1) w' := by
  obtain ⟨hc0, hc1, hf0, hf1⟩ := cell_two h.head
  have hrow := h.row
  have hsm := h.small
  obtain ⟨g, cap, cur, rfl, _, hg, hnc, hcm, hcs, htake⟩ := h.row.2.resolve_left (by rintro ⟨_, h0⟩; omega)
  have hlt : p / 8 < xs.length := by omega
  have hx : w.cell? ⟨g, p / 8, none⟩ = some (.int .u8 (xs[p / 8] : Int)) := by
    rw [hrow.cellAt _ (by omega), u8s_get _ _ hlt]
  have e7 : bits .and .i64 (p : Int) 7 = ((p % 8 : Nat) : Int) := by rw [and7]; omega
  have hxb := h.byte _ (List.getElem_mem hlt)
  clear hcs htake hg hcm hrow
  go_enter Try.func26, Try.ntmps26
  go_wp2
  go_quiet (fail)
  go_wp2
  go_ret
  have e1 := bit_get xs p hlt h.byte
  have e2 := h.moved (p + 1) (by omega) nq
  exact ⟨by rw [← e1]; rfl, e2⟩

theorem left_any (w : World) (qb : Nat) (v : Value) (xs : List Nat) (p : Nat) (h : Rd w qb v xs p) :
    Calls Try.prog 24 #[.pointer (some ⟨qb, 0, none⟩)] w fun e w' => e = .returned (.int .i64 ((8 * xs.length - p : Nat) : Int)) ∧ ∃ n, w' = w.drewN n := by
  obtain ⟨hc0, hc1, hf0, hf1⟩ := cell_two h.head
  have hsm := h.small
  have hpl := h.place
  rcases h.row.2 with ⟨rfl, h0⟩ | ⟨g, cap, cur, rfl, _, hg, hnc, hcm, hcs, htake⟩
  · go_enter Try.func24, Try.ntmps24
    go_wp2
    go_quiet (fail)
    go_wp2
    go_ret
    exact ⟨ret_int (by omega), _, rfl⟩
  · go_enter Try.func24, Try.ntmps24
    go_wp2
    go_quiet (fail)
    go_wp2
    go_ret
    exact ⟨ret_int (by omega), _, rfl⟩

theorem at_any (w : World) (qb : Nat) (v : Value) (xs : List Nat) (p : Nat) (h : Rd w qb v xs p) :
    Calls Try.prog 13 #[.pointer (some ⟨qb, 0, none⟩)] w fun e w' => e = .returned (.int .i64 (p : Int)) ∧ w = w' := by
  obtain ⟨hc0, hc1, hf0, hf1⟩ := cell_two h.head
  go_enter Try.func13, Try.ntmps13
  go_wp2
  go_ret
  exact ⟨rfl, rfl⟩

theorem ralign_any (w : World) (qb : Nat) (v : Value) (xs : List Nat) (p : Nat) (h : Rd w qb v xs p) :
    Calls Try.prog 12 #[.pointer (some ⟨qb, 0, none⟩)] w fun e w' => e = .returned (.tuple #[]) ∧ RdTo w qb v xs (p + padOf p) w' := by
  obtain ⟨hc0, hc1, hf0, hf1⟩ := cell_two h.head
  have hsm := h.small
  have hpl := h.place
  have hp8 : padOf p < 8 := by unfold padOf; omega
  have hp9 : p + padOf p ≤ 8 * xs.length := by unfold padOf; omega
  go_enter Try.func12, Try.ntmps12
  go_wp2
  go_region_with ((go_at_call 17; refine (pad_any p _ (by omega)).mono ?_; rintro e w1 ⟨rfl, rfl⟩))
  all_goals go_end0
  all_goals
    rw [IntWalk.i64_in _ (by omega)]
    have e2 := h.moved1 (p + padOf p) hp9
    rw [Int.natCast_add] at e2
    exact ⟨rfl, e2⟩

theorem gather_bit (a k : Nat) (b : Bool) (ha : a < 2 ^ k) (hk : k < 32) : bits .or .u32 (a : Int) ((b.toNat : Int) % 4294967296 * 2 ^ k % 4294967296) = ((a + b.toNat * 2 ^ k : Nat) : Int) := by
  have hb : b.toNat ≤ 1 := by cases b <;> simp
  have h2 : 2 ^ (k + 1) ≤ 2 ^ 32 := Nat.pow_le_pow_right (by omega) (by omega)
  rw [Nat.pow_succ] at h2
  have h3 : b.toNat * 2 ^ k ≤ 1 * 2 ^ k := Nat.mul_le_mul_right _ hb
  have e : (b.toNat : Int) % 4294967296 * 2 ^ k % 4294967296 = ((b.toNat * 2 ^ k : Nat) : Int) := by
    rw [show (b.toNat : Int) % 4294967296 = (b.toNat : Int) from by omega]
    rw [show (b.toNat : Int) * 2 ^ k = ((b.toNat * 2 ^ k : Nat) : Int) from by simp]
    omega
  rw [e]
  exact or_free_u32 a b.toNat k ha hb hk

/-- gather: the number of the next n bits. -/
theorem gather_any (w : World) (qb : Nat) (v : Value) (xs : List Nat) (p n : Nat) (h : Rd w qb v xs p) (hn : n ≤ 32) (hp : p + n ≤ 8 * xs.length) :
    Calls Try.prog 25 #[.int .i64 (n : Int), .func (.func 26) #[.pointer (some ⟨qb, 0, none⟩)] #[]] w fun e w' => e = .returned (.int .u32 (num (bitsAt xs p n) : Int)) ∧ RdTo w qb v xs (p + n) w' := by
  go_enter Try.func25, Try.ntmps25
  go_wp2
  go_loopw [5, 6, 8] (fun a _ i wr => ∃ k : Nat, k ≤ n ∧ i = .int .i64 (k : Int) ∧ a = .int .u32 (num (bitsAt xs p k) : Int) ∧ RdTo w qb v xs (p + k) wr) (fun _ _ i _ => n - (intOf i).toNat)
  case atStart => exact ⟨0, Nat.zero_le _, rfl, rfl, h, Only.refl _ _⟩
  case round =>
    obtain ⟨k, hk, rfl, rfl, hto⟩ := hrel
    have hb := num_bitsAt_lt xs p k
    by_cases hlt : k < n
    · go_wp2_with fail
      refine (next_any wr qb v xs (p + k) hto.1 (by omega)).mono ?_
      rintro e w2 ⟨rfl, hto2⟩
      have hto3 : RdTo w qb v xs (p + (k + 1)) w2 := ⟨hto2.1, hto.2.trans hto2.2 (fun _ _ t => t)⟩
      clear hto2 hto
      go_wp2
      go_roundw
      case rel => exact ⟨k + 1, by omega, by go_num, by rw [gather_bit _ _ _ hb (by omega), num_bitsAt_succ], hto3⟩
      case measure => simp [intOf]; omega
    · go_wp2
      go_ret
      obtain rfl : k = n := by omega
      exact ⟨rfl, hto⟩

/-- Get: what there is. -/
theorem get_ok (w : World) (qb : Nat) (v : Value) (xs : List Nat) (p n : Nat) (h : Rd w qb v xs p) (hn : n ≤ 32) (hp : p + n ≤ 8 * xs.length) :
    Calls Try.prog 18 #[.pointer (some ⟨qb, 0, none⟩), .int .i64 (n : Int)] w fun e w' => e = .returned (.tuple #[.int .u32 (num (bitsAt xs p n) : Int), .int .i64 0]) ∧ RdTo w qb v xs (p + n) w' := by
  have d1 : decide ((n : Int) < 0) = false := by simp
  have d2 : decide ((32 : Int) < (n : Int)) = false := by simp; omega
  have d3 : decide (8 * xs.length - p < n) = false := by simp; omega
  have d4 : decide (((8 * xs.length - p : Nat) : Int) < (n : Int)) = false := by simp; omega
  go_enter Try.func18, Try.ntmps18
  go_wp2_with fail
  refine (left_any w qb v xs p h).mono ?_
  rintro e w1 ⟨rfl, nq, rfl⟩
  go_wp2_with fail
  have h1 : Rd (w.drewN nq) qb v xs p := h.only ((Only.refl (fun _ => False) w).drewN nq) (fun _ _ f => f)
  refine (gather_any _ qb v xs p n h1 hn hp).mono ?_
  rintro e w2 ⟨rfl, hto⟩
  go_wp2
  go_ret2
  exact ⟨rfl, hto.1, ((Only.refl (fun k => k = qb) w).drewN nq).trans hto.2 (fun _ _ t => t)⟩

/-- Get: fewer bits are left. -/
theorem get_form (w : World) (qb : Nat) (v : Value) (xs : List Nat) (p n : Nat) (h : Rd w qb v xs p) (hn : n ≤ 32) (hp : 8 * xs.length < p + n) :
    Calls Try.prog 18 #[.pointer (some ⟨qb, 0, none⟩), .int .i64 (n : Int)] w fun e w' => e = .returned (.tuple #[.int .u32 0, .int .i64 2]) ∧ RdTo w qb v xs p w' := by
  have d1 : decide ((n : Int) < 0) = false := by simp
  have d2 : decide ((32 : Int) < (n : Int)) = false := by simp; omega
  have hpl := h.place
  have d3 : decide (8 * xs.length - p < n) = true := by simp; omega
  have d4 : decide (((8 * xs.length - p : Nat) : Int) < (n : Int)) = true := by simp; omega
  go_enter Try.func18, Try.ntmps18
  go_wp2_with fail
  refine (left_any w qb v xs p h).mono ?_
  rintro e w1 ⟨rfl, nq, rfl⟩
  go_wp2
  go_ret2
  exact ⟨rfl, h.only ((Only.refl (fun _ => False) w).drewN nq) (fun _ _ f => f), (Only.refl (fun k => k = qb) w).drewN nq⟩

/-- Get: an n that may not be. -/
theorem get_arg (w : World) (qb : Nat) (n : Int) (hn : n < 0 ∨ 32 < n) :
    Calls Try.prog 18 #[.pointer (some ⟨qb, 0, none⟩), .int .i64 n] w fun e w' => e = .returned (.tuple #[.int .u32 0, .int .i64 5]) ∧ w = w' := by
  by_cases c1 : n < 0
  · go_enter Try.func18, Try.ntmps18
    go_wp2
    go_ret2
    exact ⟨rfl, rfl⟩
  · have c2 : 32 < n := by omega
    go_enter Try.func18, Try.ntmps18
    go_wp2
    go_ret2
    exact ⟨rfl, rfl⟩

/-- A new reader of these bytes, at the place 0. -/
def NewRd (w : World) (xs : List Nat) (e : Ending) (w' : World) : Prop := ∃ qb v', e = .returned (.pointer (some ⟨qb, 0, none⟩)) ∧ Rd w' qb v' xs 0 ∧ Below w.heap.size w w' ∧ ∀ k, Mine qb v' k → w.heap.size ≤ k

/-- New. -/
theorem new_any (w : World) (v : Value) (xs : List Nat) (h : Reads w v (u8s xs)) (hb : ∀ x ∈ xs, x < 256) (hl : xs.length ≤ 70368744177664) :
    Calls Try.prog 10 #[v] w (NewRd w xs) := by
  go_enter Try.func10, Try.ntmps10
  go_wp2_with fail
  refine (clone_any w v xs h (by omega)).mono ?_
  rintro e w1 ⟨v', rfl, hown, hbel⟩
  obtain ⟨a, c, rfl⟩ := ownsRow_slice hown
  go_wp2
  go_ret
  have hlt := hown.lt
  refine ⟨w1.heap.size, _, rfl, ⟨heap_alloc_new w1 _, ?_, ?_, hb, hl, by omega⟩, hbel.alloc (by have := hbel.size; omega) _, ?_⟩
  · exact ownsRow_base (hown.alloc _)
  · intro e1
    have := (hlt _ e1).2
    omega
  · intro k hk
    have := hbel.size
    rcases hk with rfl | hk
    · omega
    · exact (hlt _ hk).1

end Go.Proofs.Ytpcbhmkalofkmaa

/-
  Contracts of the writer's Bytes and Add of package lsb, bytes as a string, and the example that every statement of the layer asks. No conditions but that rows are small.
-/
namespace Go.Proofs.Ytpcbhmkalofkmaa
open Go.RowKit

theorem Rd.lt {w : World} {qb : Nat} {v : Value} {xs : List Nat} {p : Nat} (h : Rd w qb v xs p) {k : Nat} (hk : Mine qb v k) : k < w.heap.size := by
  rcases hk with rfl | hk
  · exact lt_of_block h.head
  · exact (h.row.lt k hk).2

end Go.Proofs.Ytpcbhmkalofkmaa

/-
  Contracts of package lsb over things that lie apart in memory. No conditions but that rows are small.
-/
namespace Go.Proofs.Ytpcbhmkalofkmaa
open Go.RowKit

/-- A reader. -/
def rdT (qb : Nat) (xs : List Nat) (p : Nat) : Thing where
  holds w S := ∃ v, Rd w qb v xs p ∧ ∀ k, S k ↔ Mine qb v k
  keep h ho hd := by
    obtain ⟨v, h1, h2⟩ := h
    exact ⟨v, h1.only ho (fun k hk => hd k ((h2 k).2 hk)), h2⟩
  lt h hk := by
    obtain ⟨v, h1, h2⟩ := h
    exact h1.lt ((h2 _).1 hk)

section
variable {B : Nat} {w0 w : World} {r : List Thing}

theorem St.rd {qb : Nat} {xs : List Nat} {p : Nat} (h : St B w0 w (rdT qb xs p :: r)) : ∃ v, Rd w qb v xs p := by
  obtain ⟨S1, ⟨v, h1, _⟩, _⟩ := h.sep
  exact ⟨v, h1⟩

end
end Go.Proofs.Ytpcbhmkalofkmaa

/-
  The contract of the writer's Add of package lsb. No conditions but that rows are small.
-/
namespace Go.Proofs.Ytpcbhmkalofkmaa
open Go.RowKit

theorem chunk (lx : List Bool) (k : Nat) (hk : k < (pk lx).length) : lx.take (8 * k) ++ bitsOf (pk lx)[k] (min (lx.length - 8 * k) 8) = lx.take (8 * (k + 1)) := by
  have e : min (lx.length - 8 * k) 8 = ((lx.drop (8 * k)).take 8).length := by simp; omega
  rw [pk_get, e, bitsOf_num, show 8 * (k + 1) = 8 * k + 8 from by omega, List.take_add]

end Go.Proofs.Ytpcbhmkalofkmaa

/-
  The calls of package lsb over things that lie apart in memory. No conditions but that rows are small.
-/
namespace Go.Proofs.Ytpcbhmkalofkmaa
open Go.RowKit

section
variable {B : Nat} {w0 w : World} {r : List Thing}

/-- New: a new reader. -/
def NewSt (B : Nat) (w0 : World) (r : List Thing) (xs : List Nat) (e : Ending) (w' : World) : Prop := ∃ qb, e = .returned (.pointer (some ⟨qb, 0, none⟩)) ∧ St B w0 w' (rdT qb xs 0 :: r)

theorem new_st {v : Value} {xs : List Nat} (h : St B w0 w r) (hv : Reads w v (u8s xs)) (hb : ∀ x ∈ xs, x < 256) (hl : xs.length ≤ 70368744177664) :
    Calls Try.prog 10 #[v] w (NewSt B w0 r xs) := by
  refine (new_any w v xs hv hb hl).mono ?_
  rintro e w' ⟨qb, v', rfl, h1, h2, h3⟩
  exact ⟨qb, rfl, h.add (S := Mine qb v') h2 ⟨v', h1, fun _ => Iff.rfl⟩ h3⟩

/-- A contract of a reader's call, over a state. -/
theorem rd_calls {f : FuncId} {args : Array Value} {qb : Nat} {xs : List Nat} {p p' : Nat} {x : Ending} (h : St B w0 w (rdT qb xs p :: r))
    (c : ∀ v, Rd w qb v xs p → Calls Try.prog f args w fun e w' => e = x ∧ RdTo w qb v xs p' w') : Calls Try.prog f args w fun e w' => e = x ∧ St B w0 w' (rdT qb xs p' :: r) := by
  obtain ⟨S1, ⟨v, h1, h2⟩, h3, h4⟩ := h.sep
  refine (c v h1).mono ?_
  rintro e w' ⟨he, g1, g2⟩
  have hq : S1 qb := (h2 qb).2 (.inl rfl)
  refine ⟨he, h.only.trans g2 (fun i _ hi => by subst hi; exact h3 i hq), Nat.le_trans h.size g2.size, S1, ⟨v, g1, h2⟩, h3, ?_⟩
  exact Sep.keep g2 h4 (fun k hk e => hk.2 (by subst e; exact hq))

theorem get_st {qb : Nat} {xs : List Nat} {p : Nat} (h : St B w0 w (rdT qb xs p :: r)) (n : Nat) (hn : n ≤ 32) (hp : p + n ≤ 8 * xs.length) :
    Calls Try.prog 18 #[.pointer (some ⟨qb, 0, none⟩), .int .i64 (n : Int)] w fun e w' => e = .returned (.tuple #[.int .u32 (num (bitsAt xs p n) : Int), .int .i64 0]) ∧ St B w0 w' (rdT qb xs (p + n) :: r) :=
  rd_calls h fun v hv => get_ok w qb v xs p n hv hn hp

theorem getform_st {qb : Nat} {xs : List Nat} {p : Nat} (h : St B w0 w (rdT qb xs p :: r)) (n : Nat) (hn : n ≤ 32) (hp : 8 * xs.length < p + n) :
    Calls Try.prog 18 #[.pointer (some ⟨qb, 0, none⟩), .int .i64 (n : Int)] w fun e w' => e = .returned (.tuple #[.int .u32 0, .int .i64 2]) ∧ St B w0 w' (rdT qb xs p :: r) :=
  rd_calls h fun v hv => get_form w qb v xs p n hv hn hp

/-- Align (by the function 17). -/
theorem ralign_st {qb : Nat} {xs : List Nat} {p : Nat} (h : St B w0 w (rdT qb xs p :: r)) :
    Calls Try.prog 12 #[.pointer (some ⟨qb, 0, none⟩)] w fun e w' => e = .returned (.tuple #[]) ∧ St B w0 w' (rdT qb xs (p + padOf p) :: r) :=
  rd_calls h fun v hv => ralign_any w qb v xs p hv

theorem at_st {qb : Nat} {xs : List Nat} {p : Nat} (h : St B w0 w (rdT qb xs p :: r)) :
    Calls Try.prog 13 #[.pointer (some ⟨qb, 0, none⟩)] w fun e w' => e = .returned (.int .i64 (p : Int)) ∧ w = w' := by
  obtain ⟨v, hv⟩ := h.rd
  exact at_any w qb v xs p hv

theorem left_st {qb : Nat} {xs : List Nat} {p : Nat} (h : St B w0 w (rdT qb xs p :: r)) :
    Calls Try.prog 24 #[.pointer (some ⟨qb, 0, none⟩)] w fun e w' => e = .returned (.int .i64 ((8 * xs.length - p : Nat) : Int)) ∧ St B w0 w' (rdT qb xs p :: r) := by
  obtain ⟨v, hv⟩ := h.rd
  refine (left_any w qb v xs p hv).mono ?_
  rintro e w' ⟨rfl, n, rfl⟩
  exact ⟨rfl, h.drewN n⟩

end
end Go.Proofs.Ytpcbhmkalofkmaa
