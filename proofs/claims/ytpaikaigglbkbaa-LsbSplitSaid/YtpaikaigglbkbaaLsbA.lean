/-
  Contracts of the writer's Bytes and Add of package lsb, bytes as a string, and the example that every statement of the layer asks. No conditions but that rows are small.
-/
import Derived.Test.YtpaikaigglbkbaaLsbR
import Derived.Test.YtpaikaigglbkbaaSep
import Derived.Laws.BytesString
namespace Go.Proofs.Ytpaikaigglbkbaa
open Go.RowKit

/-- Bytes in new memory. -/
def NewBytes (w : World) (xs : List Nat) (e : Ending) (w' : World) : Prop := ∃ v', e = .returned v' ∧ w'.ownsRow w.heap.size 5 1 v' xs.length (u8s xs) ∧ Below w.heap.size w w'

theorem bytes_any (w : World) (pb : Nat) (v : Value) (l : List Bool) (h : Wr w pb v l) (hl : l.length < 1125899906842000) :
    Calls Try.prog 16 #[.pointer (some ⟨pb, 0, none⟩)] w (NewBytes w (pk l)) := by
  obtain ⟨hc0, hc1, hf0, hf1⟩ := cell_two h.head
  go_enter Try.func16, Try.ntmps16
  go_wp2_with fail
  refine (clone_any w v (pk l) (Reads.of_owns h.row) (by rw [pk_length]; omega)).mono ?_
  rintro e w1 ⟨v', rfl, hown, hbel⟩
  go_wp2
  go_ret
  exact ⟨_, rfl, hown, hbel⟩

/-- Bytes as a string. -/
def strOf (xs : List Nat) : ByteArray := xs.foldl (fun r n => r.push (UInt8.ofNat n)) ByteArray.empty

theorem foldl_cast (xs : List Nat) (s : ByteArray) : (xs.map fun (x : Nat) => (x : Int)).foldl (fun r n => r.push (UInt8.ofNat n.toNat)) s = xs.foldl (fun r n => r.push (UInt8.ofNat n)) s := by
  induction xs generalizing s with
  | nil => rfl
  | cons x xs ih => simp only [List.map_cons, List.foldl_cons, ih, Int.toNat_natCast]

theorem run_string (w : World) (v : Value) (xs : List Nat) (h : Reads w v (u8s xs)) : (convert 23 9 v).run Try.prog w = .ok (.string (strOf xs)) w := by
  rcases h with ⟨rfl, h0⟩ | ⟨a, cap, rfl, hc⟩
  · have : xs = [] := by simpa [u8s] using h0
    subst this
    rw [run_convert_bytes_string w 23 9 5 _ _ _ Try.underlying23 Try.underlying5 Try.underlying9]
    simp [Conv.bytesToString, Sem.run_pure, strOf]
  · rw [run_convert_bytes_string w 23 9 5 _ _ _ Try.underlying23 Try.underlying5 Try.underlying9]
    have hl := run_loadCells_list (P := Try.prog) w a (u8s xs) hc
    have e1 : u8s xs = (xs.map fun (x : Nat) => (x : Int)).map (Value.int .u8) := by simp [u8s]
    rw [run_bytesToString w a _ cap (xs.map fun (x : Nat) => (x : Int)) (by rw [hl, e1]), foldl_cast]
    rfl

theorem foldl_push_data (xs : List Nat) (s : ByteArray) : (xs.foldl (fun r n => r.push (UInt8.ofNat n)) s).data = s.data ++ (xs.map UInt8.ofNat).toArray := by
  induction xs generalizing s with
  | nil => simp
  | cons x xs ih => rw [List.foldl_cons, ih]; simp

theorem strOf_data (xs : List Nat) : (strOf xs).data = (xs.map UInt8.ofNat).toArray := by unfold strOf; rw [foldl_push_data, show ByteArray.empty.data = #[] from rfl]; simp

theorem wr_new (w : World) : Wr (w.alloc (.cells #[.slice none 0 0, .int .i64 0] 25)) w.heap.size (.slice none 0 0) [] :=
  ⟨heap_alloc_new w _, World.ownsRow_nil _ _ _ _, by simp [Value.ownBlock]⟩

/-- A row of bytes written out in the text: its slice reads as them. -/
theorem reads_lit (w : World) (xs : List Nat) : Reads (w.alloc (.cells (u8s xs).toArray 5)) (.slice (some ⟨w.heap.size, 0, none⟩) xs.length xs.length) (u8s xs) := by
  refine .inr ⟨_, xs.length, by rw [u8s_length], ?_⟩
  intro j u hu
  have hadd : (⟨w.heap.size, 0, none⟩ : Addr).add j = ⟨w.heap.size, j, none⟩ := by unfold Addr.add; split <;> simp_all
  rw [hadd, cell_of_row _ w.heap.size j (u8s xs).toArray 5 (0, 0) (heap_alloc_new w _)]
  simpa using hu

theorem Below.only {B : Nat} {w w' : World} (h : Below B w w') (hB : w.heap.size ≤ B) (S : Nat → Prop) : Only S w w' :=
  Only.of_below h (fun k hk hb => absurd hk (by omega))

theorem Wr.lt {w : World} {pb : Nat} {v : Value} {l : List Bool} (h : Wr w pb v l) {k : Nat} (hk : Mine pb v k) : k < w.heap.size := by
  rcases hk with rfl | hk
  · exact lt_of_block h.head
  · exact (h.row.lt k hk).2

theorem Rd.lt {w : World} {qb : Nat} {v : Value} {xs : List Nat} {p : Nat} (h : Rd w qb v xs p) {k : Nat} (hk : Mine qb v k) : k < w.heap.size := by
  rcases hk with rfl | hk
  · exact lt_of_block h.head
  · exact (h.row.lt k hk).2

theorem only_from {S : Nat → Prop} {B : Nat} {a b c : World} (h : Only (From B) a b) (k : Only S b c) (hS : ∀ i, S i → B ≤ i) : Only (From B) a c := h.trans k (fun i _ t => hS i t)

theorem mine_new {w : World} {o : Obj} {v1 : Value} (hf : Fresh (w.alloc o) (.slice none 0 0) v1) : ∀ k, Mine w.heap.size v1 k → w.heap.size ≤ k := by
  intro k hk
  rcases hk with rfl | hk
  · exact Nat.le_refl _
  · rcases hf with e1 | e1
    · rw [hk] at e1; simp [Value.ownBlock] at e1
    · have := e1 k hk; simp at this; omega

theorem only_new {w w1 : World} {o : Obj} (ho : Only (Mine w.heap.size (.slice none 0 0)) (w.alloc o) w1) : Only (From w.heap.size) w w1 :=
  only_from ((Only.refl _ _).alloc _) ho (fun i hi => by
    rcases hi with rfl | hi
    · exact Nat.le_refl _
    · simp [Value.ownBlock] at hi)

set_option maxRecDepth 100000 in
theorem lays_any (w : World) : Calls Try.prog 18 #[] w fun e w' => e = .returned (.bool true) ∧ Below w.heap.size w w' := by
  go_enter Try.func18, Try.ntmps18
  go_wp2_with fail
  refine (put_ok _ w.heap.size (.slice none 0 0) [] 300 9 (wr_new w) (by simp) (by omega) (by decide)).mono ?_
  rintro e w1 ⟨rfl, v1, hw1, ho1, hf1⟩
  have hs1 := ho1.size
  simp at hs1
  have hfrom1 := mine_new hf1
  have on1 := only_new ho1
  clear ho1 hf1
  go_wp2_with fail
  have hr : Reads (w1.alloc (.cells #[.int .u8 44, .int .u8 1] 5)) (.slice (some ⟨w1.heap.size, 0, none⟩) 2 2) (u8s [44, 1]) := reads_lit w1 [44, 1]
  refine (new_any _ _ [44, 1] hr (by decide) (by decide)).mono ?_
  rintro e w2 ⟨qb, vr, rfl, hr2, hb2, hm2⟩
  clear hr
  have hm2' : ∀ k, Mine qb vr k → w1.heap.size < k := fun k hk => by have := hm2 k hk; simp at this; omega
  clear hm2
  have hw2 : Wr w2 w.heap.size v1 ([] ++ bitsOf 300 9) := (hw1.only (((Only.refl (fun _ => False) _).alloc _)) (fun _ _ f => f)).only (Below.only hb2 (Nat.le_refl _) (fun _ => False)) (fun _ _ f => f)
  have on2 : Only (From w.heap.size) w w2 := only_from (on1.alloc _) (Below.only hb2 (Nat.le_refl _) (fun _ => False)) (fun i f => f.elim)
  have hlt2 : ∀ k, Mine w.heap.size v1 k → k < w1.heap.size := fun k hk => hw1.lt hk
  clear hw1 hb2 on1
  go_wp2_with fail
  refine (get_ok w2 qb vr [44, 1] 0 9 hr2 (by decide) (by decide)).mono ?_
  rintro e w3 ⟨he3, hr3, ho3⟩
  rw [show num (bitsAt [44, 1] 0 9) = 300 from by decide] at he3
  subst he3
  have hqb := hm2' qb (.inl rfl)
  have hw3 : Wr w3 w.heap.size v1 ([] ++ bitsOf 300 9) := hw2.only ho3 (fun k hk e => by have := hlt2 k hk; omega)
  have on3 : Only (From w.heap.size) w w3 := only_from on2 ho3 (fun i e => by omega)
  clear hw2 hr2 ho3 on2
  go_wp2_with fail
  refine (bytes_any w3 w.heap.size v1 _ hw3 (by decide)).mono ?_
  rintro e w4 ⟨v4, rfl, hown4, hb4⟩
  rw [show pk ([] ++ bitsOf 300 9) = [44, 1] from by decide] at hown4
  have hcv := run_string w4 v4 [44, 1] (Reads.of_owns hown4)
  have hst : ((strOf [44, 1]).toList == [44, 1]) = true := by decide +kernel
  have hw4 : Wr w4 w.heap.size v1 ([] ++ bitsOf 300 9) := hw3.only (Below.only hb4 (Nat.le_refl _) (fun _ => False)) (fun _ _ f => f)
  have hr4 : Rd w4 qb vr [44, 1] (0 + 9) := hr3.only (Below.only hb4 (Nat.le_refl _) (fun _ => False)) (fun _ _ f => f)
  have on4 : Only (From w.heap.size) w w4 := only_from on3 (Below.only hb4 (Nat.le_refl _) (fun _ => False)) (fun i f => f.elim)
  clear hw3 hr3 hb4 on3 hown4
  go_wp2_with fail
  refine (len_any w4 w.heap.size v1 _ hw4).mono ?_
  rintro e w5 ⟨he5, rfl⟩
  rw [show (([] ++ bitsOf 300 9 : List Bool).length : Int) = 9 from by decide] at he5
  subst he5
  go_wp2_with fail
  refine (at_any w4 qb vr _ _ hr4).mono ?_
  rintro e w6 ⟨rfl, rfl⟩
  go_wp2_with fail
  refine (left_any w4 qb vr _ _ hr4).mono ?_
  rintro e w7 ⟨rfl, nq, rfl⟩
  have on7 := on4.drewN nq
  go_wp2
  go_ret
  exact ⟨rfl, on7.below (Nat.le_refl _) (fun k hk f => by unfold From at f; omega)⟩

end Go.Proofs.Ytpaikaigglbkbaa
