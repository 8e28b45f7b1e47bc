/-
  The calls of package lsb over things that lie apart in memory. No conditions but that rows are small.
-/
import Derived.Test.YtakkfdibiboofaaLsbAdd
namespace Go.Proofs.Ytakkfdibiboofaa
open Go.RowKit

section
variable {B : Nat} {w0 w : World} {r : List Thing}

theorem put_st {pb : Nat} {l : List Bool} (h : St B w0 w (wrT pb l :: r)) (x n : Nat) (hl : l.length + n < 1125899906842000) (hn : n ≤ 32) (hx : x < 2 ^ n) :
    Calls Try.prog 39 #[.pointer (some ⟨pb, 0, none⟩), .int .u32 (x : Int), .int .i64 (n : Int)] w fun e w' => e = .returned (.int .i64 0) ∧ St B w0 w' (wrT pb (l ++ bitsOf x n) :: r) :=
  wr_calls h fun v hv => put_ok w pb v l x n hv hl hn hx

theorem len_st {pb : Nat} {l : List Bool} (h : St B w0 w (wrT pb l :: r)) :
    Calls Try.prog 25 #[.pointer (some ⟨pb, 0, none⟩)] w fun e w' => e = .returned (.int .i64 (l.length : Int)) ∧ w = w' := by
  obtain ⟨v, hv⟩ := h.wr
  exact len_any w pb v l hv

theorem bytes_st {pb : Nat} {l : List Bool} (h : St B w0 w (wrT pb l :: r)) (hl : l.length < 1125899906842000) :
    Calls Try.prog 23 #[.pointer (some ⟨pb, 0, none⟩)] w (BytesSt B w0 (wrT pb l :: r) (pk l)) := by
  obtain ⟨v, hv⟩ := h.wr
  refine (bytes_any w pb v l hv hl).mono ?_
  rintro e w' ⟨v', rfl, hown, hbel⟩
  exact ⟨v', rfl, h.addRow hbel hown⟩

/-- New: a new reader. -/
def NewSt (B : Nat) (w0 : World) (r : List Thing) (xs : List Nat) (e : Ending) (w' : World) : Prop := ∃ qb, e = .returned (.pointer (some ⟨qb, 0, none⟩)) ∧ St B w0 w' (rdT qb xs 0 :: r)

theorem new_st {v : Value} {xs : List Nat} (h : St B w0 w r) (hv : Reads w v (u8s xs)) (hb : ∀ x ∈ xs, x < 256) (hl : xs.length ≤ 70368744177664) :
    Calls Try.prog 12 #[v] w (NewSt B w0 r xs) := by
  refine (new_any w v xs hv hb hl).mono ?_
  rintro e w' ⟨qb, v', rfl, h1, h2, h3⟩
  exact ⟨qb, rfl, h.add (S := Mine qb v') h2 ⟨v', h1, fun _ => Iff.rfl⟩ h3⟩

/-- A contract of a reader's call, over a state. -/
theorem rd_calls {f : FuncId} {args : Array Value} {qb : Nat} {xs : List Nat} {p p' : Nat} {x : Ending} (h : St B w0 w (rdT qb xs p :: r))
    (c : ∀ v, Rd w qb v xs p → Calls Try.prog f args w fun e w' => e = x ∧ RdTo w qb v xs p' w') : Calls Try.prog f args w fun e w' => e = x ∧ St B w0 w' (rdT qb xs p' :: r) := by
  obtain ⟨S1, ⟨v, h1, h2⟩, h3, h4⟩ := h.sep
  refine (c v h1).mono ?_
  rintro e w' ⟨he, g1, g2⟩
  have hq : S1 qb := (h2 qb).2 (.inl rfl)
  refine ⟨he, h.only.trans g2 (fun i _ hi => by subst hi; exact h3 i hq), Nat.le_trans h.size g2.size, S1, ⟨v, g1, h2⟩, h3, ?_⟩
  exact Sep.keep g2 h4 (fun k hk e => hk.2 (by subst e; exact hq))

theorem get_st {qb : Nat} {xs : List Nat} {p : Nat} (h : St B w0 w (rdT qb xs p :: r)) (n : Nat) (hn : n ≤ 32) (hp : p + n ≤ 8 * xs.length) :
    Calls Try.prog 34 #[.pointer (some ⟨qb, 0, none⟩), .int .i64 (n : Int)] w fun e w' => e = .returned (.tuple #[.int .u32 (num (bitsAt xs p n) : Int), .int .i64 0]) ∧ St B w0 w' (rdT qb xs (p + n) :: r) :=
  rd_calls h fun v hv => get_ok w qb v xs p n hv hn hp

theorem getform_st {qb : Nat} {xs : List Nat} {p : Nat} (h : St B w0 w (rdT qb xs p :: r)) (n : Nat) (hn : n ≤ 32) (hp : 8 * xs.length < p + n) :
    Calls Try.prog 34 #[.pointer (some ⟨qb, 0, none⟩), .int .i64 (n : Int)] w fun e w' => e = .returned (.tuple #[.int .u32 0, .int .i64 2]) ∧ St B w0 w' (rdT qb xs p :: r) :=
  rd_calls h fun v hv => get_form w qb v xs p n hv hn hp

theorem at_st {qb : Nat} {xs : List Nat} {p : Nat} (h : St B w0 w (rdT qb xs p :: r)) :
    Calls Try.prog 17 #[.pointer (some ⟨qb, 0, none⟩)] w fun e w' => e = .returned (.int .i64 (p : Int)) ∧ w = w' := by
  obtain ⟨v, hv⟩ := h.rd
  exact at_any w qb v xs p hv

theorem left_st {qb : Nat} {xs : List Nat} {p : Nat} (h : St B w0 w (rdT qb xs p :: r)) :
    Calls Try.prog 52 #[.pointer (some ⟨qb, 0, none⟩)] w fun e w' => e = .returned (.int .i64 ((8 * xs.length - p : Nat) : Int)) ∧ St B w0 w' (rdT qb xs p :: r) := by
  obtain ⟨v, hv⟩ := h.rd
  refine (left_any w qb v xs p hv).mono ?_
  rintro e w' ⟨rfl, n, rfl⟩
  exact ⟨rfl, h.drewN n⟩

/-- A new writer: the variable that a function declares. -/
theorem St.newWr (h : St B w0 w r) : St B w0 (w.alloc (.cells #[.slice none 0 0, .int .i64 0] 45)) (wrT w.heap.size [] :: r) :=
  h.add (S := Mine w.heap.size (.slice none 0 0)) (below_alloc _ _) ⟨_, wr_new w, fun _ => Iff.rfl⟩ (fun k hk => by
    rcases hk with rfl | hk
    · exact Nat.le_refl _
    · simp [Value.ownBlock] at hk)

end
end Go.Proofs.Ytakkfdibiboofaa
