/-
  Heads as values in memory; the first byte 0 of bytes and of a text. No conditions but that rows are small.
-/
import Derived.Test.YtiggbioaaglgaaaFrQ
import Derived.Test.YtiggbioaaglgaaaRowB
import Derived.Test.YtiggbioaaglgaaaFront
import Derived.Test.YtiggbioaaglgaaaStr
import Derived.Test.YtiggbioaaglgaaaClone
import Derived.Lib.BytesEntry
import Derived.Deep.Fields
namespace Go.Proofs.Ytiggbioaaglgaaa
open Go.RowKit

namespace Fr
open Go.ChangeShapes Go.WideShapes Go.Deep

/-- A head's cells. -/
abbrev headC (h : Gz) (ev : Value) : Array Value := #[.bool h.text, .int .u32 (h.time : Int), .int .u8 (h.xfl : Int), .int .u8 (h.os : Int), ev, .string (strOf h.name), .string (strOf h.comment), .int .u8 (h.has : Int), .bool h.sum]

theorem strOf_size (a : List Nat) : (strOf a).size = a.length := by
  show (strOf a).data.size = _
  rw [strOf_data]
  simp

theorem strOf_list (a : List Nat) : (strOf a).data.toList = a.map UInt8.ofNat := by rw [strOf_data]

theorem strOf_app (a b : List Nat) : strOf a ++ strOf b = strOf (a ++ b) := by
  apply ByteArray.ext
  rw [ByteArray.data_append, strOf_data, strOf_data, strOf_data, List.map_append]
  simp

theorem strOf_eq {xs ys : List Nat} (hx : ∀ x ∈ xs, x < 256) (hy : ∀ y ∈ ys, y < 256) : strOf xs = strOf ys ↔ xs = ys := by
  constructor
  · intro h
    have h1 := congrArg ByteArray.data h
    simp only [strOf_data] at h1
    have h2 : xs.map UInt8.ofNat = ys.map UInt8.ofNat := by simpa using congrArg Array.toList h1
    have key : ∀ (l : List Nat), (∀ x ∈ l, x < 256) → (l.map UInt8.ofNat).map UInt8.toNat = l := by
      intro l hl
      induction l with
      | nil => rfl
      | cons x l ih =>
        simp only [List.map_cons]
        rw [ih (fun y hy => hl y (List.mem_cons_of_mem _ hy))]
        congr 1
        have := hl x List.mem_cons_self
        simp
        omega
    rw [← key xs hx, ← key ys hy, h2]
  · rintro rfl; rfl

theorem str_list (s t : ByteArray) : s.toList = t.toList ↔ s = t := by
  rw [ByteArray.toList_eq, ByteArray.toList_eq]
  constructor
  · intro h
    cases s; cases t
    simp only at h
    rw [Array.toList_inj.1 h]
  · rintro rfl; rfl

/-- Any text is bytes. -/
theorem str_bytes (s : ByteArray) : ∃ xs : List Nat, s = strOf xs ∧ ∀ x ∈ xs, x < 256 := by
  refine ⟨s.data.toList.map UInt8.toNat, ?_, ?_⟩
  · apply ByteArray.ext
    rw [strOf_data, List.map_map]
    have : UInt8.ofNat ∘ UInt8.toNat = id := by funext x; simp
    rw [this]
    simp
  · intro x hx
    obtain ⟨y, _, rfl⟩ := List.mem_map.1 hx
    exact y.toNat_lt

/-- The place of the first byte 0, or -1. -/
def zeroI (xs : List Nat) : Int := match zeroAt xs with | some z => (z : Int) | none => -1

theorem zeroI_neg (xs : List Nat) : decide (zeroI xs < 0) = decide (0 ∉ xs) := by
  rw [decide_eq_decide]
  unfold zeroI
  cases h : zeroAt xs with
  | none => exact ⟨fun _ => zeroAt_none h, fun _ => by decide⟩
  | some z =>
    obtain ⟨_, g2, _⟩ := zeroAt_some h
    refine ⟨fun h1 => absurd h1 (by simp only; omega), fun h1 => absurd (List.mem_of_getElem? g2) h1⟩

theorem ofNat_zero {x : Nat} (h : x < 256) : (UInt8.ofNat x == 0) = decide (x = 0) := by
  rw [Bool.eq_iff_iff, beq_iff_eq, decide_eq_true_eq]
  constructor
  · intro h1
    have := congrArg UInt8.toNat h1
    simp at this
    omega
  · rintro rfl; rfl

theorem indexByte_zero (xs : List Nat) (hb : ∀ x ∈ xs, x < 256) : Lib.indexByte (xs.map UInt8.ofNat) 0 = zeroI xs := by
  induction xs with
  | nil => rfl
  | cons x l ih =>
    have ih := ih (fun y hy => hb y (List.mem_cons_of_mem _ hy))
    have hx := hb x List.mem_cons_self
    rw [List.map_cons, Lib.indexByte, ofNat_zero hx, ih]
    unfold zeroI
    rw [zeroAt]
    by_cases c : x = 0
    · simp [c]
    · simp only [c, decide_false, Bool.false_eq_true, if_false]
      cases h : zeroAt l with
      | none => simp
      | some z =>
        simp only [Option.map_some]
        rw [if_neg (by rw [beq_iff_eq]; omega)]
        omega

theorem bytesOf_cast (xs : List Nat) : Lib.bytesOf (xs.map fun (x : Nat) => (x : Int)) = xs.map UInt8.ofNat := by
  unfold Lib.bytesOf
  rw [List.map_map]
  apply List.map_congr_left
  intro x _
  simp

set_option maxRecDepth 100000 in
theorem index_any (w : World) (v : Value) (xs : List Nat) (h : ByteRow w v xs) :
    Calls Try.prog 62 #[v, .int .u8 0] w fun e w' => e = .returned (.int .i64 (zeroI xs)) ∧ w = w' := by
  have hb := h.byte
  obtain ⟨a, cap, rfl, hc, hn, hat⟩ := h
  go_enter Try.func62, Try.ntmps62
  cases a with
  | none =>
    have h0 : xs = [] := List.eq_nil_of_length_eq_zero (by have := hn rfl; omega)
    subst h0
    go_wp2
    rw [run_callFunc_extern Try.func64 (by kernel_rfl) (by kernel_rfl) (by kernel_rfl) (e := Extern.BytealgIndexByte.indexByte) (by kernel_rfl), Lib.run_indexByteNil w _ _ 0]
    simp only [Result.andThen]
    rw [Oper.upon_value]
    go_wp2
    go_ret
    exact ⟨rfl, rfl⟩
  | some ad =>
    have hplace : ∃ b off, ∀ i, i < xs.length → some ad = some ⟨b, off, none⟩ ∧ w.cell? ⟨b, off + i, none⟩ = some (.int .u8 ((xs.map fun (x : Nat) => (x : Int)).getD i 0)) := by
      by_cases h0 : 0 < xs.length
      · obtain ⟨_, b, off, e, _⟩ := hat 0 h0
        refine ⟨b, off, fun i hi => ?_⟩
        obtain ⟨_, b2, off2, e2, c2⟩ := hat i hi
        rw [e] at e2
        obtain ⟨rfl, rfl⟩ : b = b2 ∧ off = off2 := by simpa using e2
        refine ⟨e, ?_⟩
        rw [c2, List.getD_eq_getElem?_getD, List.getElem?_map, List.getElem?_eq_getElem hi]
        rfl
      · exact ⟨0, 0, fun i hi => absurd hi (by omega)⟩
    obtain ⟨b, off, hp⟩ := hplace
    clear hat
    go_wp2
    rw [run_callFunc_extern Try.func64 (by kernel_rfl) (by kernel_rfl) (by kernel_rfl) (e := Extern.BytealgIndexByte.indexByte) (by kernel_rfl)]
    have hz := indexByte_zero xs hb
    rw [← bytesOf_cast] at hz
    by_cases h0 : 0 < xs.length
    · obtain ⟨e, _⟩ := hp 0 h0
      obtain rfl := Option.some.inj e
      have hrun := Lib.run_indexByteSlice (P := Try.prog) w b off xs.length cap (xs.map fun (x : Nat) => (x : Int)) (by rw [List.length_map]) (fun i hi => (hp i hi).2) 0
      rw [show (0 : Int).toNat.toUInt8 = 0 from rfl, hz] at hrun
      rw [hrun]
      simp only [Result.andThen]
      rw [Oper.upon_value]
      go_wp2
      go_ret
      exact ⟨rfl, rfl⟩
    · have h0 : xs = [] := List.eq_nil_of_length_eq_zero (by omega)
      subst h0
      have hrun := Lib.run_indexByteSlice (P := Try.prog) w ad.block ad.off 0 cap [] rfl (fun i hi => absurd hi (by omega)) 0
      have hs : ∀ c cv, (Extern.BytealgIndexByte.indexByte #[.slice (some ad) 0 c, .int .u8 cv]).run Try.prog w = (Extern.BytealgIndexByte.indexByte #[.slice (some ⟨ad.block, ad.off, none⟩) 0 c, .int .u8 cv]).run Try.prog w := fun _ _ => rfl
      rw [List.length_nil, hs, hrun]
      simp only [Result.andThen]
      rw [Oper.upon_value]
      go_wp2
      go_ret
      exact ⟨rfl, rfl⟩

set_option maxRecDepth 100000 in
theorem indexS_any (w : World) (xs : List Nat) (hb : ∀ x ∈ xs, x < 256) :
    Calls Try.prog 61 #[.string (strOf xs), .int .u8 0] w fun e w' => e = .returned (.int .i64 (zeroI xs)) ∧ w = w' := by
  have hrun := Lib.run_indexByteString (P := Try.prog) (strOf xs) 0 w
  rw [strOf_list, show (0 : Int).toNat.toUInt8 = 0 from rfl, indexByte_zero xs hb] at hrun
  have hin : Calls Try.prog 63 #[.string (strOf xs), .int .u8 0] w fun e w' => e = .returned (.int .i64 (zeroI xs)) ∧ w = w' := by
    go_enter Try.func63, Try.ntmps63
    go_wp2
    rw [run_callFunc_extern Try.func65 (by kernel_rfl) (by kernel_rfl) (by kernel_rfl) (e := Extern.BytealgIndexByte.indexByte) (by kernel_rfl), hrun]
    simp only [Result.andThen]
    rw [Oper.upon_value]
    go_wp2
    go_ret
    exact ⟨rfl, rfl⟩
  clear hrun
  go_enter Try.func61, Try.ntmps61
  go_wp2_with (go_at_call 63; refine hin.mono ?_; rintro e w1 ⟨rfl, rfl⟩)
  go_ret
  exact ⟨rfl, rfl⟩

end Fr
end Go.Proofs.Ytiggbioaaglgaaa
