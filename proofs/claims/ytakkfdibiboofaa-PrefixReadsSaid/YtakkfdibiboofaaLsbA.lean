/-
  Contracts of the writer's Bytes and Add of package lsb, bytes as a string, and the example that every statement of the layer asks. No conditions but that rows are small.
-/
import Derived.Test.YtakkfdibiboofaaLsbR
import Derived.Test.YtakkfdibiboofaaSep
import Derived.Test.YtakkfdibiboofaaStr
namespace Go.Proofs.Ytakkfdibiboofaa
open Go.RowKit

theorem bytes_any (w : World) (pb : Nat) (v : Value) (l : List Bool) (h : Wr w pb v l) (hl : l.length < 1125899906842000) :
    Calls Try.prog 23 #[.pointer (some ⟨pb, 0, none⟩)] w (NewBytes w (pk l)) := by
  obtain ⟨hc0, hc1, hf0, hf1⟩ := cell_two h.head
  go_enter Try.func23, Try.ntmps23
  go_wp2_with fail
  refine (clone_any w v (pk l) (Reads.of_owns h.row) (by rw [pk_length]; omega)).mono ?_
  rintro e w1 ⟨v', rfl, hown, hbel⟩
  go_wp2
  go_ret
  exact ⟨_, rfl, hown, hbel⟩

theorem wr_new (w : World) : Wr (w.alloc (.cells #[.slice none 0 0, .int .i64 0] 45)) w.heap.size (.slice none 0 0) [] :=
  ⟨heap_alloc_new w _, World.ownsRow_nil _ _ _ _, by simp [Value.ownBlock]⟩

theorem Wr.lt {w : World} {pb : Nat} {v : Value} {l : List Bool} (h : Wr w pb v l) {k : Nat} (hk : Mine pb v k) : k < w.heap.size := by
  rcases hk with rfl | hk
  · exact lt_of_block h.head
  · exact (h.row.lt k hk).2

theorem Rd.lt {w : World} {qb : Nat} {v : Value} {xs : List Nat} {p : Nat} (h : Rd w qb v xs p) {k : Nat} (hk : Mine qb v k) : k < w.heap.size := by
  rcases hk with rfl | hk
  · exact lt_of_block h.head
  · exact (h.row.lt k hk).2

end Go.Proofs.Ytakkfdibiboofaa
