/-
  The rows of InflateKnown's table. No conditions.
-/
import Derived.Test.YtpinfihmageeoaaGreatInflateKnownQ
import Derived.Test.YtpinfihmageeoaaGreatFrK2
import Derived.Test.YtpinfihmageeoaaGreatInfH
namespace Go.Proofs.YtpinfihmageeoaaGreat.inflateKnown
open Go.RowKit Kraft Hd Inf

def knB (k : Nat) : List Nat := [[1, 2, 0, 253, 255, 97, 98], [3, 0], [7], [], [1, 2, 0, 253, 254, 97, 98], [1, 2, 0, 253, 255, 97], [1, 0, 0, 255, 255], [0, 1, 0, 254, 255, 97, 1, 1, 0, 254, 255, 98], [0, 1, 0, 254, 255, 97], [75, 4, 0], [75, 4], [249, 1, 0, 254, 255, 97], [5, 0], [3]].getD k []
def knS (k : Nat) : List Nat := [[97, 98], [], [], [], [], [], [], [97, 98], [], [97], [], [97], [], []].getD k []
def knN (k : Nat) : Nat := [7, 2, 0, 0, 0, 0, 5, 12, 0, 3, 0, 6, 0, 0].getD k 0
def knE (k : Nat) : Nat := [0, 0, 2, 2, 2, 2, 0, 0, 2, 0, 2, 0, 2, 2].getD k 0

/-- What a row of bytes says, or that it is none. -/
def RowSays (xs o : List Nat) (u f : Nat) : Prop := (f = 0 ∧ ∃ q, infl xs = some (q, o) ∧ used q = u) ∨ (f = 2 ∧ infl xs = none ∧ o = [] ∧ u = 0)

theorem kn_row (k : Nat) (hk : k < 14) : RowSays (knB k) (knS k) (knN k) (knE k) := by
  rcases (by omega : k = 0 ∨ k = 1 ∨ k = 2 ∨ k = 3 ∨ k = 4 ∨ k = 5 ∨ k = 6 ∨ k = 7 ∨ k = 8 ∨ k = 9 ∨ k = 10 ∨ k = 11 ∨ k = 12 ∨ k = 13) with rfl | rfl | rfl | rfl | rfl | rfl | rfl | rfl | rfl | rfl | rfl | rfl | rfl | rfl
  · exact .inl ⟨rfl, _, kn_ab, rfl⟩
  · exact .inl ⟨rfl, _, infl_none, rfl⟩
  · exact .inr ⟨rfl, infl_bad, rfl, rfl⟩
  · exact .inr ⟨rfl, kn_nil, rfl, rfl⟩
  · exact .inr ⟨rfl, kn_twice, rfl, rfl⟩
  · exact .inr ⟨rfl, kn_short, rfl, rfl⟩
  · exact .inl ⟨rfl, _, kn_zero, rfl⟩
  · exact .inl ⟨rfl, _, kn_two, rfl⟩
  · exact .inr ⟨rfl, kn_open, rfl, rfl⟩
  · exact .inl ⟨rfl, _, kn_a, rfl⟩
  · exact .inr ⟨rfl, kn_cut, rfl, rfl⟩
  · exact .inl ⟨rfl, _, kn_odd, rfl⟩
  · exact .inr ⟨rfl, kn_head, rfl, rfl⟩
  · exact .inr ⟨rfl, kn_three, rfl, rfl⟩

theorem kn_small (k : Nat) (hk : k < 14) : (knB k).length ≤ 12 ∧ (∀ x ∈ knB k, x < 256) ∧ (knS k).length ≤ 2 ∧ knN k ≤ 12 ∧ knE k ≤ 2 := by
  rcases (by omega : k = 0 ∨ k = 1 ∨ k = 2 ∨ k = 3 ∨ k = 4 ∨ k = 5 ∨ k = 6 ∨ k = 7 ∨ k = 8 ∨ k = 9 ∨ k = 10 ∨ k = 11 ∨ k = 12 ∨ k = 13) with rfl | rfl | rfl | rfl | rfl | rfl | rfl | rfl | rfl | rfl | rfl | rfl | rfl | rfl <;> decide

/-- The table's cells. -/
def knC : Array Value := #[.string ⟨#[1, 2, 0, 253, 255, 97, 98]⟩, .string ⟨#[97, 98]⟩, .int .i64 7, .int .i64 0, .string ⟨#[3, 0]⟩, .string ⟨#[]⟩, .int .i64 2, .int .i64 0, .string ⟨#[7]⟩, .string ⟨#[]⟩, .int .i64 0, .int .i64 2, .string ⟨#[]⟩, .string ⟨#[]⟩, .int .i64 0, .int .i64 2, .string ⟨#[1, 2, 0, 253, 254, 97, 98]⟩, .string ⟨#[]⟩, .int .i64 0, .int .i64 2, .string ⟨#[1, 2, 0, 253, 255, 97]⟩, .string ⟨#[]⟩, .int .i64 0, .int .i64 2, .string ⟨#[1, 0, 0, 255, 255]⟩, .string ⟨#[]⟩, .int .i64 5, .int .i64 0, .string ⟨#[0, 1, 0, 254, 255, 97, 1, 1, 0, 254, 255, 98]⟩, .string ⟨#[97, 98]⟩, .int .i64 12, .int .i64 0, .string ⟨#[0, 1, 0, 254, 255, 97]⟩, .string ⟨#[]⟩, .int .i64 0, .int .i64 2, .string ⟨#[75, 4, 0]⟩, .string ⟨#[97]⟩, .int .i64 3, .int .i64 0, .string ⟨#[75, 4]⟩, .string ⟨#[]⟩, .int .i64 0, .int .i64 2, .string ⟨#[249, 1, 0, 254, 255, 97]⟩, .string ⟨#[97]⟩, .int .i64 6, .int .i64 0, .string ⟨#[5, 0]⟩, .string ⟨#[]⟩, .int .i64 0, .int .i64 2, .string ⟨#[3]⟩, .string ⟨#[]⟩, .int .i64 0, .int .i64 2]

theorem knC_at (k : Nat) (hk : k < 14) : knC[k * 4]? = some (.string (strOf (knB k))) ∧ knC[k * 4 + 1]? = some (.string (strOf (knS k))) ∧ knC[k * 4 + 2]? = some (.int .i64 (knN k : Int)) ∧ knC[k * 4 + 3]? = some (.int .i64 (knE k : Int)) := by
  rcases (by omega : k = 0 ∨ k = 1 ∨ k = 2 ∨ k = 3 ∨ k = 4 ∨ k = 5 ∨ k = 6 ∨ k = 7 ∨ k = 8 ∨ k = 9 ∨ k = 10 ∨ k = 11 ∨ k = 12 ∨ k = 13) with rfl | rfl | rfl | rfl | rfl | rfl | rfl | rfl | rfl | rfl | rfl | rfl | rfl | rfl
  · rw [show strOf (knB 0) = ⟨#[1, 2, 0, 253, 255, 97, 98]⟩ from by decide, show strOf (knS 0) = ⟨#[97, 98]⟩ from by decide]; exact ⟨rfl, rfl, rfl, rfl⟩
  · rw [show strOf (knB 1) = ⟨#[3, 0]⟩ from by decide, show strOf (knS 1) = ⟨#[]⟩ from by decide]; exact ⟨rfl, rfl, rfl, rfl⟩
  · rw [show strOf (knB 2) = ⟨#[7]⟩ from by decide, show strOf (knS 2) = ⟨#[]⟩ from by decide]; exact ⟨rfl, rfl, rfl, rfl⟩
  · rw [show strOf (knB 3) = ⟨#[]⟩ from by decide, show strOf (knS 3) = ⟨#[]⟩ from by decide]; exact ⟨rfl, rfl, rfl, rfl⟩
  · rw [show strOf (knB 4) = ⟨#[1, 2, 0, 253, 254, 97, 98]⟩ from by decide, show strOf (knS 4) = ⟨#[]⟩ from by decide]; exact ⟨rfl, rfl, rfl, rfl⟩
  · rw [show strOf (knB 5) = ⟨#[1, 2, 0, 253, 255, 97]⟩ from by decide, show strOf (knS 5) = ⟨#[]⟩ from by decide]; exact ⟨rfl, rfl, rfl, rfl⟩
  · rw [show strOf (knB 6) = ⟨#[1, 0, 0, 255, 255]⟩ from by decide, show strOf (knS 6) = ⟨#[]⟩ from by decide]; exact ⟨rfl, rfl, rfl, rfl⟩
  · rw [show strOf (knB 7) = ⟨#[0, 1, 0, 254, 255, 97, 1, 1, 0, 254, 255, 98]⟩ from by decide, show strOf (knS 7) = ⟨#[97, 98]⟩ from by decide]; exact ⟨rfl, rfl, rfl, rfl⟩
  · rw [show strOf (knB 8) = ⟨#[0, 1, 0, 254, 255, 97]⟩ from by decide, show strOf (knS 8) = ⟨#[]⟩ from by decide]; exact ⟨rfl, rfl, rfl, rfl⟩
  · rw [show strOf (knB 9) = ⟨#[75, 4, 0]⟩ from by decide, show strOf (knS 9) = ⟨#[97]⟩ from by decide]; exact ⟨rfl, rfl, rfl, rfl⟩
  · rw [show strOf (knB 10) = ⟨#[75, 4]⟩ from by decide, show strOf (knS 10) = ⟨#[]⟩ from by decide]; exact ⟨rfl, rfl, rfl, rfl⟩
  · rw [show strOf (knB 11) = ⟨#[249, 1, 0, 254, 255, 97]⟩ from by decide, show strOf (knS 11) = ⟨#[97]⟩ from by decide]; exact ⟨rfl, rfl, rfl, rfl⟩
  · rw [show strOf (knB 12) = ⟨#[5, 0]⟩ from by decide, show strOf (knS 12) = ⟨#[]⟩ from by decide]; exact ⟨rfl, rfl, rfl, rfl⟩
  · rw [show strOf (knB 13) = ⟨#[3]⟩ from by decide, show strOf (knS 13) = ⟨#[]⟩ from by decide]; exact ⟨rfl, rfl, rfl, rfl⟩

section
variable {B : Nat} {w0 w : World} {r : List Thing}

/-- Inflate of such a row. -/
theorem inflate_row (st : St B w0 w r) (v : Value) {xs o : List Nat} {u f m : Nat} (hv : ∀ W, St B w0 W r → ByteRow W v xs) (hx : xs.length ≤ 60000) (keep : Nat) (hk : keep ≤ 1000000) (h : RowSays xs o u f) (hok : o.length ≤ keep) (hm : o.length = m) :
    Calls Tryz.prog 5 #[v, .int .i64 (keep : Int)] w fun e w' => ∃ oa oc, e = .returned (.tuple #[.agg #[.slice oa m oc, .int .i64 (m : Int), .int .i64 (u : Int), .bool false], .int .i64 (f : Int)]) ∧ St B w0 w' (rowT 5 1 (.slice oa m oc) m (u8s o) :: r) := by
  rcases h with ⟨rfl, q, h1, h2⟩ | ⟨rfl, h1, rfl, rfl⟩
  · exact inflate_says st v hv hx keep m u hk h1 hok hm h2
  · refine (inflate_fails st v hv hx keep hk h1).mono ?_
    rintro e w' ⟨rfl, s⟩
    subst hm
    exact ⟨none, 0, rfl, s.addNil⟩

end
end Go.Proofs.YtpinfihmageeoaaGreat.inflateKnown
