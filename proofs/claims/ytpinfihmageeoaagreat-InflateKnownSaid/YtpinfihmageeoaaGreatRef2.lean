/-
  Contracts of the document's own answers for layer 1 (package pressworkref01): numbers of bits, bits of bytes, what is got. No conditions but that rows are small.
-/
import Derived.Test.YtpinfihmageeoaaGreatRef1
namespace Go.Proofs.YtpinfihmageeoaaGreat
open Go.RowKit

theorem num_drop (l : List Bool) (k : Nat) (h : k < l.length) : num (l.drop (l.length - (k + 1))) = (l[l.length - 1 - k]).toNat + 2 * num (l.drop (l.length - k)) := by
  rw [show l.length - (k + 1) = l.length - 1 - k from by omega, List.drop_eq_getElem_cons (by omega), num, show l.length - 1 - k + 1 = l.length - k from by omega]

/-- Number. -/
theorem number_any (w : World) (v : Value) (l : List Bool) (h : RowAt w v l) (hl : l.length ≤ 32) :
    Calls Tryz.prog 128 #[v] w fun e w' => e = .returned (.int .u32 (num l : Int)) ∧ w = w' := by
  obtain ⟨a, cap, rfl, hcap, _, hat⟩ := h
  have HA := Lib.hid hat
  clear hat
  go_enter Tryz.func128, Tryz.ntmps128
  go_wp2
  go_loop [3, 4] (fun x i => ∃ k : Nat, k ≤ l.length ∧ i = .int .i64 (k : Int) ∧ x = .int .u32 (num (l.drop (l.length - k)) : Int)) (fun _ i => l.length - (intOf i).toNat)
  case atStart => exact ⟨0, by omega, rfl, by simp [num]⟩
  case round =>
    obtain ⟨k, hk, rfl, rfl⟩ := hrel
    by_cases hlt : k < l.length
    · obtain ⟨b, off, rfl, hc⟩ := HA.out (l.length - 1 - k) (by omega)
      have hnd := num_drop l k hlt
      have hq := num_lt (l.drop (l.length - k))
      rw [List.length_drop, show l.length - (l.length - k) = k from by omega] at hq
      have hp : 2 ^ k ≤ 2 ^ 31 := Nat.pow_le_pow_right (by omega) (by omega)
      have hq2 : num (l.drop (l.length - k)) < 2147483648 := by omega
      generalize num (l.drop (l.length - k)) = q at hnd hq2
      have HN := Lib.hid hnd
      have e1 : (l.length : Int) - 1 - (k : Int) = ((l.length - 1 - k : Nat) : Int) := by omega
      cases hb : l[l.length - 1 - k]
      · rw [hb] at hc HN
        clear hnd hq hp hb
        go_wp2
        go_round
        case rel => exact ⟨k + 1, by omega, by go_num, by rw [HN.out]; congr 1; simp; try omega⟩
        case measure => simp [intOf]; omega
      · rw [hb] at hc HN
        clear hnd hq hp hb
        go_wp2
        go_round
        case rel => exact ⟨k + 1, by omega, by go_num, by rw [HN.out]; congr 1; simp; try omega⟩
        case measure => simp [intOf]; omega
    · go_wp2
      go_ret
      obtain rfl : k = l.length := by omega
      exact ⟨by rw [Nat.sub_self, List.drop_zero]; rfl, rfl⟩

/-- Get: an n that may not be. -/
theorem rget_arg (w : World) (v : Value) (p n : Int) (hn : n < 0 ∨ 32 < n) :
    Calls Tryz.prog 98 #[v, .int .i64 p, .int .i64 n] w fun e w' => e = .returned (.tuple #[.int .u32 0, .int .i64 p, .int .i64 5]) ∧ w = w' := by
  by_cases c1 : n < 0
  · go_enter Tryz.func98, Tryz.ntmps98
    go_wp2
    go_ret3
    exact ⟨rfl, rfl⟩
  · have c2 : 32 < n := by omega
    go_enter Tryz.func98, Tryz.ntmps98
    go_wp2
    go_ret3
    exact ⟨rfl, rfl⟩

/-- Get: fewer bits are left. -/
theorem rget_form (w : World) (v : Value) (l : List Bool) (p n : Nat) (h : RowAt w v l) (hp : p ≤ l.length) (hn : n ≤ 32) (hm : l.length < p + n) :
    Calls Tryz.prog 98 #[v, .int .i64 (p : Int), .int .i64 (n : Int)] w fun e w' => e = .returned (.tuple #[.int .u32 0, .int .i64 (p : Int), .int .i64 2]) ∧ w = w' := by
  obtain ⟨a, cap, rfl, hcap, _, hat⟩ := h
  clear hat
  have d1 : decide ((n : Int) < 0) = false := by simp
  have d2 : decide ((32 : Int) < (n : Int)) = false := by simp; omega
  go_enter Tryz.func98, Tryz.ntmps98
  go_wp2
  go_ret3
  exact ⟨rfl, rfl⟩

/-- Get: what there is. -/
theorem rget_ok (w : World) (v : Value) (l : List Bool) (p n : Nat) (h : RowAt w v l) (hl : l.length ≤ 1000000) (hn : n ≤ 32) (hm : p + n ≤ l.length) :
    Calls Tryz.prog 98 #[v, .int .i64 (p : Int), .int .i64 (n : Int)] w fun e w' => e = .returned (.tuple #[.int .u32 (num ((l.drop p).take n) : Int), .int .i64 ((p + n : Nat) : Int), .int .i64 0]) ∧ w = w' := by
  obtain ⟨a, cap, rfl, hcap, hnone, hat⟩ := h
  have HA := Lib.hid hat
  have HN := Lib.hid hnone
  clear hat hnone
  have d1 : decide ((n : Int) < 0) = false := by simp
  have d2 : decide ((32 : Int) < (n : Int)) = false := by simp; omega
  have d3 : decide ((l.length : Int) - (p : Int) < (n : Int)) = false := by simp; omega
  go_enter Tryz.func98, Tryz.ntmps98
  go_wp2_with fail
  · have hn0 : n = 0 := by omega
    subst hn0
    have hr : RowAt w (.slice a 0 0) [] := ⟨a, 0, rfl, by simp, fun _ => rfl, fun i hi => absurd hi (by simp)⟩
    refine (number_any w _ [] hr (by simp)).mono ?_
    rintro e w1 ⟨rfl, rfl⟩
    go_wp2
    go_ret3
    exact ⟨by simp [num], rfl⟩
  · have hr := rowAt_sub (p := p) (n := n) hcap HN.out HA.out hm
    refine (number_any w _ _ hr (by simp; omega)).mono ?_
    rintro e w1 ⟨rfl, rfl⟩
    clear hr
    go_wp2
    go_ret3
    exact ⟨rfl, rfl⟩

/-- The bits of bytes. -/
def ofBytes (xs : List Nat) : List Bool := xs.flatMap fun x => bitsOf x 8

theorem ofBytes_length (xs : List Nat) : (ofBytes xs).length = 8 * xs.length := by
  induction xs with
  | nil => rfl
  | cons x xs ih => simp only [ofBytes, List.flatMap_cons, List.length_append, bitsOf_length, List.length_cons] at *; omega

theorem ofBytes_snoc (xs : List Nat) (k : Nat) (h : k < xs.length) : ofBytes (xs.take (k + 1)) = ofBytes (xs.take k) ++ bitsOf xs[k] 8 := by
  unfold ofBytes
  rw [List.take_succ_eq_append_getElem h, List.flatMap_append]
  simp only [List.flatMap_cons, List.flatMap_nil, List.append_nil]

/-- Ahead of round k. -/
def OfTo (w : World) (xs : List Nat) (v i : Value) (wr : World) : Prop := ∃ k : Nat, k ≤ xs.length ∧ i = .int .i64 (k : Int) ∧ St w.heap.size w wr [rowT 4 1 v (8 * k) (bools (ofBytes (xs.take k)))]

/-- Of. -/
theorem of_any (w : World) (v : Value) (xs : List Nat) (hv : ByteRow w v xs) (hl : xs.length ≤ 1000000) :
    Calls Tryz.prog 51 #[v] w (NewRow w (ofBytes xs)) := by
  obtain ⟨i0, hi, hz0, hz1, hz2⟩ := info_parts infoBool
  obtain ⟨a, cap, rfl, hcap, _, hat⟩ := hv
  have HA := Lib.hid hat
  have s0 := (St.start w).addNil (e := 4) (size := 1)
  clear hat
  go_enter Tryz.func51, Tryz.ntmps51
  go_wp2
  go_loopw [3, 4] (fun v i wr => OfTo w xs v i wr) (fun _ i _ => xs.length - (intOf i).toNat)
  case atStart => exact ⟨0, by omega, rfl, s0⟩
  case round =>
    obtain ⟨k, hk, rfl, st⟩ := hrel
    by_cases hlt : k < xs.length
    · obtain ⟨hx, b, off, rfl, hc⟩ := HA.out k hlt
      have lt := World.block_lt_of_cell? w _ hc
      have c0 : wr.cell? ⟨b, off + k, none⟩ = some (.int .u8 (xs[k] : Int)) := ((st.below (Nat.le_refl _)).cell (p := ⟨b, off + k, none⟩) lt).trans hc
      have hx4 : (xs[k] : Int) % 4294967296 = (xs[k] : Int) := by omega
      have hsn := ofBytes_snoc xs k hlt
      have HS := Lib.hid hsn
      clear hsn hc
      go_wp2_with (first | (at_builtin; fail) | fail)
      refine (bits_any wr xs[k] 8 (by omega) (by omega)).mono ?_
      rintro e w2 ⟨v2, rfl, hown2, hbel2⟩
      rw [bitsOf_length] at hown2
      have st2 := (st.addRow hbel2 hown2).swap
      obtain ⟨ad, c2, rfl⟩ := ownsRow_slice hown2
      clear st hown2 hbel2 c0
      go_wp2_with ((at_builtin; refine wpList_append_row rfl _ _ 106 rfl 4 i0 (.bool false) 1 Tryz.underlying106 hi hz0 hz1 hz2 rfl st2 rfl rfl (bools_one _) ?c1 ?c2 ?_))
      case c1 => unfold maxLen; omega
      case c2 => omega
      intro v3 w3 st3
      have st4 := st3.swap.drop
      rw [← bools_append, ← HS.out] at st4
      clear st2 st3
      go_wp2
      go_roundw
      case rel => exact ⟨k + 1, by omega, by go_num, by rw [show 8 * (k + 1) = 8 * k + 8 from by omega]; exact st4⟩
      case measure => simp [intOf]; omega
    · go_wp2
      go_ret
      have e : xs.take k = xs := List.take_of_length_le (by omega)
      rw [e] at st
      have hk2 : k = xs.length := by omega
      subst hk2
      refine ⟨_, rfl, ?_, st.below (Nat.le_refl _)⟩
      rw [ofBytes_length]
      exact st.rowFrom

end Go.Proofs.YtpinfihmageeoaaGreat
