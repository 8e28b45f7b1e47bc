/-
  Contracts of the reader of package msb: what each call reads of a row of bytes, and where it stands behind it. No conditions but that rows are of at most 2^46 bytes.
-/
import Derived.Test.YtakkfdibiboofaaMsbP
import Derived.Deep.RegionWith
import Derived.IntWalk
namespace Go.Proofs.Ytakkfdibiboofaa.Msb
open Go.RowKit

/-- The reader at block qb reads the bytes xs, which lie in the slice v, and stands at the bit p. -/
structure Rd (w : World) (qb : Nat) (v : Value) (xs : List Nat) (p : Nat) : Prop where
  head : w.heap[qb]? = some (.cells #[v, .int .i64 (p : Int)] 78 (0, 0))
  row : w.ownsRow 0 5 1 v xs.length (u8s xs)
  apart : v.ownBlock ≠ some qb
  byte : ∀ x ∈ xs, x < 256
  small : xs.length ≤ 70368744177664
  place : p ≤ 8 * xs.length

def RdTo (w : World) (qb : Nat) (v : Value) (xs : List Nat) (p' : Nat) (w' : World) : Prop := Rd w' qb v xs p' ∧ Only (fun k => k = qb) w w'

theorem Rd.only {S : Nat → Prop} {w w' : World} {qb : Nat} {v : Value} {xs : List Nat} {p : Nat} (h : Rd w qb v xs p) (ho : Only S w w') (hn : ∀ k, Mine qb v k → ¬ S k) : Rd w' qb v xs p :=
  ⟨ho.at h.head (hn qb (.inl rfl)), ownsRow_only h.row ho (fun g hg => hn g (.inr hg)), h.apart, h.byte, h.small, h.place⟩

/-- Where the reader is moved. -/
theorem Rd.moved {w : World} {qb : Nat} {v : Value} {xs : List Nat} {p : Nat} (h : Rd w qb v xs p) (p' : Nat) (hp : p' ≤ 8 * xs.length) (n : Nat) : RdTo w qb v xs p' ((w.drewN n).setCell ⟨qb, 1, none⟩ (.int .i64 (p' : Int))) := by
  have ho : Only (fun k => k = qb) w ((w.drewN n).setCell ⟨qb, 1, none⟩ (.int .i64 (p' : Int))) :=
    ((Only.refl (fun k => k = qb) w).drewN n).setCell (p := ⟨qb, 1, none⟩) (fun _ => rfl) _
  refine ⟨⟨two_set1 (w := w.drewN n) h.head _, ownsRow_only h.row ho (fun g hg e => h.apart (by rw [hg, e])), h.apart, h.byte, h.small, hp⟩, ho⟩

theorem Rd.moved1 {w : World} {qb : Nat} {v : Value} {xs : List Nat} {p : Nat} (h : Rd w qb v xs p) (p' : Nat) (hp : p' ≤ 8 * xs.length) : RdTo w qb v xs p' (w.setCell ⟨qb, 1, none⟩ (.int .i64 (p' : Int))).drew := by
  have ho : Only (fun k => k = qb) w (w.setCell ⟨qb, 1, none⟩ (.int .i64 (p' : Int))).drew :=
    ((Only.refl (fun k => k = qb) w).setCell (p := ⟨qb, 1, none⟩) (fun _ => rfl) _).drew
  refine ⟨⟨two_set1 (w := w) h.head _, ownsRow_only h.row ho (fun g hg e => h.apart (by rw [hg, e])), h.apart, h.byte, h.small, hp⟩, ho⟩

theorem bit_get (xs : List Nat) (p : Nat) (h : p / 8 < xs.length) (hb : ∀ x ∈ xs, x < 256) : bits .and .u8 ((xs[p / 8] : Int) / 2 ^ (7 - p % 8)) 1 = ((bitAt xs p).toNat : Int) := by
  rw [byte_bit _ _ (hb _ (List.getElem_mem h))]
  unfold bitAt
  rw [getD_in _ _ h]

/-- One bit. -/
theorem next_any (w : World) (qb : Nat) (v : Value) (xs : List Nat) (p : Nat) (h : Rd w qb v xs p) (hp : p < 8 * xs.length) :
    Calls Try.prog 57 #[.pointer (some ⟨qb, 0, none⟩)] w fun e w' => e = .returned (.int .u8 ((bitAt xs p).toNat : Int)) ∧ RdTo w qb v xs (p + 1) w' := by
  obtain ⟨hc0, hc1, hf0, hf1⟩ := cell_two h.head
  have hrow := h.row
  have hsm := h.small
  obtain ⟨g, cap, cur, rfl, _, hg, hnc, hcm, hcs, htake⟩ := h.row.2.resolve_left (by rintro ⟨_, h0⟩; omega)
  have hlt : p / 8 < xs.length := by omega
  have hx : w.cell? ⟨g, p / 8, none⟩ = some (.int .u8 (xs[p / 8] : Int)) := by
    rw [hrow.cellAt _ (by omega), u8s_get _ _ hlt]
  have e7 : bits .and .i64 (p : Int) 7 = ((p % 8 : Nat) : Int) := by rw [and7]; omega
  have hxb := h.byte _ (List.getElem_mem hlt)
  clear hcs htake hg hcm hrow
  go_enter Try.func57, Try.ntmps57
  go_wp2
  go_quiet (fail)
  go_wp2
  go_ret
  have e1 := bit_get xs p hlt h.byte
  have e2 := h.moved (p + 1) (by omega) nq
  exact ⟨by rw [← e1]; rfl, e2⟩

theorem left_any (w : World) (qb : Nat) (v : Value) (xs : List Nat) (p : Nat) (h : Rd w qb v xs p) :
    Calls Try.prog 55 #[.pointer (some ⟨qb, 0, none⟩)] w fun e w' => e = .returned (.int .i64 ((8 * xs.length - p : Nat) : Int)) ∧ ∃ n, w' = w.drewN n := by
  obtain ⟨hc0, hc1, hf0, hf1⟩ := cell_two h.head
  have hsm := h.small
  have hpl := h.place
  rcases h.row.2 with ⟨rfl, h0⟩ | ⟨g, cap, cur, rfl, _, hg, hnc, hcm, hcs, htake⟩
  · go_enter Try.func55, Try.ntmps55
    go_wp2
    go_quiet (fail)
    go_wp2
    go_ret
    exact ⟨ret_int (by omega), _, rfl⟩
  · go_enter Try.func55, Try.ntmps55
    go_wp2
    go_quiet (fail)
    go_wp2
    go_ret
    exact ⟨ret_int (by omega), _, rfl⟩

theorem at_any (w : World) (qb : Nat) (v : Value) (xs : List Nat) (p : Nat) (h : Rd w qb v xs p) :
    Calls Try.prog 19 #[.pointer (some ⟨qb, 0, none⟩)] w fun e w' => e = .returned (.int .i64 (p : Int)) ∧ w = w' := by
  obtain ⟨hc0, hc1, hf0, hf1⟩ := cell_two h.head
  go_enter Try.func19, Try.ntmps19
  go_wp2
  go_ret
  exact ⟨rfl, rfl⟩

theorem gather_bit (a k : Nat) (b : Bool) (ha : a < 2 ^ k) (hk : k < 32) : bits .or .u32 ((a : Int) * 2 % 4294967296) ((b.toNat : Int) % 4294967296) = ((2 * a + b.toNat : Nat) : Int) := by
  have hb : b.toNat ≤ 1 := by cases b <;> simp
  have h2 : 2 ^ (k + 1) ≤ 2 ^ 32 := Nat.pow_le_pow_right (by omega) (by omega)
  rw [Nat.pow_succ] at h2
  rw [show (a : Int) * 2 % 4294967296 = ((2 * a : Nat) : Int) from by omega, show (b.toNat : Int) % 4294967296 = (b.toNat : Int) from by omega, u32_or_nat _ _ (by omega) (by omega)]
  congr 1
  exact (Nat.two_pow_add_eq_or_of_lt (i := 1) (by omega) a).symm

/-- gather: the number of the next n bits. -/
theorem gather_any (w : World) (qb : Nat) (v : Value) (xs : List Nat) (p n : Nat) (h : Rd w qb v xs p) (hn : n ≤ 32) (hp : p + n ≤ 8 * xs.length) :
    Calls Try.prog 56 #[.int .i64 (n : Int), .func (.func 57) #[.pointer (some ⟨qb, 0, none⟩)] #[]] w fun e w' => e = .returned (.int .u32 (num (bitsAt xs p n) : Int)) ∧ RdTo w qb v xs (p + n) w' := by
  go_enter Try.func56, Try.ntmps56
  go_wp2
  go_loopw [5, 7] (fun a i wr => ∃ k : Nat, k ≤ n ∧ i = .int .i64 (k : Int) ∧ a = .int .u32 (num (bitsAt xs p k) : Int) ∧ RdTo w qb v xs (p + k) wr) (fun _ i _ => n - (intOf i).toNat)
  case atStart => exact ⟨0, Nat.zero_le _, rfl, rfl, h, Only.refl _ _⟩
  case round =>
    obtain ⟨k, hk, rfl, rfl, hto⟩ := hrel
    have hb := num_bitsAt_lt xs p k
    by_cases hlt : k < n
    · go_wp2_with fail
      refine (next_any wr qb v xs (p + k) hto.1 (by omega)).mono ?_
      rintro e w2 ⟨rfl, hto2⟩
      have hto3 : RdTo w qb v xs (p + (k + 1)) w2 := ⟨hto2.1, hto.2.trans hto2.2 (fun _ _ t => t)⟩
      clear hto2 hto
      go_wp2
      go_roundw
      case rel => exact ⟨k + 1, by omega, by go_num, by rw [gather_bit _ _ _ hb (by omega), num_bitsAt_succ], hto3⟩
      case measure => simp [intOf]; omega
    · go_wp2
      go_ret
      obtain rfl : k = n := by omega
      exact ⟨rfl, hto⟩

/-- Get: what there is. -/
theorem get_ok (w : World) (qb : Nat) (v : Value) (xs : List Nat) (p n : Nat) (h : Rd w qb v xs p) (hn : n ≤ 32) (hp : p + n ≤ 8 * xs.length) :
    Calls Try.prog 37 #[.pointer (some ⟨qb, 0, none⟩), .int .i64 (n : Int)] w fun e w' => e = .returned (.tuple #[.int .u32 (num (bitsAt xs p n) : Int), .int .i64 0]) ∧ RdTo w qb v xs (p + n) w' := by
  have d1 : decide ((n : Int) < 0) = false := by simp
  have d2 : decide ((32 : Int) < (n : Int)) = false := by simp; omega
  have d3 : decide (8 * xs.length - p < n) = false := by simp; omega
  have d4 : decide (((8 * xs.length - p : Nat) : Int) < (n : Int)) = false := by simp; omega
  go_enter Try.func37, Try.ntmps37
  go_wp2_with fail
  refine (left_any w qb v xs p h).mono ?_
  rintro e w1 ⟨rfl, nq, rfl⟩
  go_wp2_with fail
  have h1 : Rd (w.drewN nq) qb v xs p := h.only ((Only.refl (fun _ => False) w).drewN nq) (fun _ _ f => f)
  refine (gather_any _ qb v xs p n h1 hn hp).mono ?_
  rintro e w2 ⟨rfl, hto⟩
  go_wp2
  go_ret2
  exact ⟨rfl, hto.1, ((Only.refl (fun k => k = qb) w).drewN nq).trans hto.2 (fun _ _ t => t)⟩

/-- Get: fewer bits are left. -/
theorem get_form (w : World) (qb : Nat) (v : Value) (xs : List Nat) (p n : Nat) (h : Rd w qb v xs p) (hn : n ≤ 32) (hp : 8 * xs.length < p + n) :
    Calls Try.prog 37 #[.pointer (some ⟨qb, 0, none⟩), .int .i64 (n : Int)] w fun e w' => e = .returned (.tuple #[.int .u32 0, .int .i64 2]) ∧ RdTo w qb v xs p w' := by
  have d1 : decide ((n : Int) < 0) = false := by simp
  have d2 : decide ((32 : Int) < (n : Int)) = false := by simp; omega
  have hpl := h.place
  have d3 : decide (8 * xs.length - p < n) = true := by simp; omega
  have d4 : decide (((8 * xs.length - p : Nat) : Int) < (n : Int)) = true := by simp; omega
  go_enter Try.func37, Try.ntmps37
  go_wp2_with fail
  refine (left_any w qb v xs p h).mono ?_
  rintro e w1 ⟨rfl, nq, rfl⟩
  go_wp2
  go_ret2
  exact ⟨rfl, h.only ((Only.refl (fun _ => False) w).drewN nq) (fun _ _ f => f), (Only.refl (fun k => k = qb) w).drewN nq⟩

/-- Get: an n that may not be. -/
theorem get_arg (w : World) (qb : Nat) (n : Int) (hn : n < 0 ∨ 32 < n) :
    Calls Try.prog 37 #[.pointer (some ⟨qb, 0, none⟩), .int .i64 n] w fun e w' => e = .returned (.tuple #[.int .u32 0, .int .i64 5]) ∧ w = w' := by
  by_cases c1 : n < 0
  · go_enter Try.func37, Try.ntmps37
    go_wp2
    go_ret2
    exact ⟨rfl, rfl⟩
  · have c2 : 32 < n := by omega
    go_enter Try.func37, Try.ntmps37
    go_wp2
    go_ret2
    exact ⟨rfl, rfl⟩

/-- A new reader of these bytes, at the place 0. -/
def NewRd (w : World) (xs : List Nat) (e : Ending) (w' : World) : Prop := ∃ qb v', e = .returned (.pointer (some ⟨qb, 0, none⟩)) ∧ Rd w' qb v' xs 0 ∧ Below w.heap.size w w' ∧ ∀ k, Mine qb v' k → w.heap.size ≤ k

/-- New. -/
theorem new_any (w : World) (v : Value) (xs : List Nat) (h : Reads w v (u8s xs)) (hb : ∀ x ∈ xs, x < 256) (hl : xs.length ≤ 70368744177664) :
    Calls Try.prog 13 #[v] w (NewRd w xs) := by
  go_enter Try.func13, Try.ntmps13
  go_wp2_with fail
  refine (clone_any w v xs h (by omega)).mono ?_
  rintro e w1 ⟨v', rfl, hown, hbel⟩
  obtain ⟨a, c, rfl⟩ := ownsRow_slice hown
  go_wp2
  go_ret
  have hlt := hown.lt
  refine ⟨w1.heap.size, _, rfl, ⟨heap_alloc_new w1 _, ?_, ?_, hb, hl, by omega⟩, hbel.alloc (by have := hbel.size; omega) _, ?_⟩
  · exact ownsRow_base (hown.alloc _)
  · intro e1
    have := (hlt _ e1).2
    omega
  · intro k hk
    have := hbel.size
    rcases hk with rfl | hk
    · omega
    · exact (hlt _ hk).1

end Go.Proofs.Ytakkfdibiboofaa.Msb
