/-
  Any acts on a reader answer as the document says: the walk of MsbReads. No conditions.
-/
import Derived.Test.YtlhhoiimmalpgaaMRef2
import Derived.Test.YtlhhoiimmalpgaaMActs
import Derived.Test.YtlhhoiimmalpgaaMsbLays
namespace Go.Proofs.Ytlhhoiimmalpgaa.Msb

theorem padOf_lt8 (n : Nat) : padOf n < 8 := by unfold padOf; omega

theorem ofBytes_cons (x : Nat) (xs : List Nat) : ofBytes (x :: xs) = bitsOf x 8 ++ ofBytes xs := by unfold ofBytes; rw [List.flatMap_cons]

theorem ofBytes_drop (xs : List Nat) (i : Nat) : (ofBytes xs).drop (8 * i) = ofBytes (xs.drop i) := by
  induction i generalizing xs with
  | zero => rfl
  | succ i ih =>
    cases xs with
    | nil => simp [ofBytes]
    | cons x xs =>
      rw [ofBytes_cons, show 8 * (i + 1) = (bitsOf x 8).length + 8 * i from by rw [bitsOf_length]; omega, List.drop_append, List.drop_of_length_le (by omega), List.nil_append, Nat.add_sub_cancel_left, List.drop_succ_cons, ih]

theorem pk_ofBytes (xs : List Nat) (hb : ∀ x ∈ xs, x < 256) : pk (ofBytes xs) = xs := by
  apply List.ext_getElem
  · rw [pk_length, ofBytes_length]; omega
  · intro i h1 h2
    have e : xs.drop i = xs[i] :: xs.drop (i + 1) := List.drop_eq_getElem_cons h2
    rw [pk_get, ofBytes_drop, e]
    rw [ofBytes_cons, List.take_append_of_le_length (by rw [bitsOf_length]; exact Nat.le_refl _), List.take_of_length_le (by rw [bitsOf_length]; exact Nat.le_refl _), bitsOf_length, Nat.sub_self, Nat.pow_zero, Nat.mul_one, num_bitsOf_lt]
    exact hb _ (List.getElem_mem h2)

theorem read_same (xs : List Nat) (hb : ∀ x ∈ xs, x < 256) (p n : Nat) (h : p + n ≤ 8 * xs.length) : num (bitsAt xs p n) = num (((ofBytes xs).drop p).take n) := by
  have e := bitsAt_pk (ofBytes xs) p n (by rw [ofBytes_length]; exact h)
  rw [pk_ofBytes xs hb] at e
  rw [e]

end Go.Proofs.Ytlhhoiimmalpgaa.Msb

namespace Go.Proofs.Ytlhhoiimmalpgaa.Msb.msbReads
open Go.RowKit

/-- A count that may not be. -/
def badN (n : Int) : Prop := n < 0 ∨ 32 < n

/-- Ahead of round k of the first loop. -/
def Zeroed (w : World) (xs : List Nat) (qb : Nat) (v i : Value) (wr : World) : Prop := ∃ k : Nat, k ≤ xs.length ∧ i = .int .i64 (k : Int) ∧ ∃ ys, St w.heap.size w wr [rowT 5 1 v xs.length ys, rdT qb xs 0]

/-- Ahead of round k of the second loop. -/
def ReadAt (w : World) (l : List ActV) (xs : List Nat) (qb : Nat) (rv : Value) (at0 i : Value) (wr : World) : Prop := ∃ k p : Nat, k ≤ l.length ∧ p ≤ 8 * xs.length ∧ i = .int .i64 (k : Int) ∧ at0 = .int .i64 (p : Int) ∧
  St w.heap.size w wr [rdT qb xs p, rowT 4 1 rv (8 * xs.length) (bools (ofBytes xs))]

set_option maxRecDepth 100000 in
set_option maxHeartbeats 2000000 in
theorem walk (w : World) (sb : Value) (xs : List Nat) (hb : ByteRow w sb xs) (s : Value) (l : List ActV) (hs : Acts w s l) :
    Calls Try.prog 4 #[sb, s] w fun e w' => e = .returned (.bool true) ∧ Below w.heap.size w w' := by
  have hb0 := hb
  obtain ⟨a1, cap1, rfl, hcap1, _, hat1⟩ := hb
  obtain ⟨a2, cap2, rfl, hmax2, hat2⟩ := hs
  unfold maxLen at hmax2
  have H2 := Lib.hid hat2
  clear hat1 hat2
  by_cases c1 : 100 < xs.length
  · have d1 : decide ((100 : Int) < (xs.length : Int)) = true := by simp; omega
    go_enter Try.func4, Try.ntmps4
    go_wp2
    go_ret
    exact ⟨rfl, Below.refl _ _⟩
  · by_cases c2 : 60 < l.length
    · have d1 : decide ((100 : Int) < (xs.length : Int)) = false := by simp; omega
      have d2 : decide ((60 : Int) < (l.length : Int)) = true := by simp; omega
      go_enter Try.func4, Try.ntmps4
      go_wp2
      go_ret
      exact ⟨rfl, Below.refl _ _⟩
    · have d1 : decide ((100 : Int) < (xs.length : Int)) = false := by simp; omega
      have d2 : decide ((60 : Int) < (l.length : Int)) = false := by simp; omega
      obtain ⟨i0, hi, hz0, hz1, hz2⟩ := info_parts info8
      have s0 := (St.start w).addRow (below_alloc w _) (World.ownsRow_made (base := w.heap.size) (e := 5) (size := 1) w #[] 0 (Nat.le_refl _) (by unfold maxLen; omega) rfl)
      have hr0 := hb0.reads
      have R0 := Lib.hid hr0
      have B0 := Lib.hid hb0
      clear hr0 hb0
      go_enter Try.func4, Try.ntmps4
      go_wp2_with ((at_builtin; refine wpList_append_mine _ rfl _ _ 23 rfl 5 i0 (.int .u8 0) 1 1 Try.underlying23 hi hz0 hz1 hz2 rfl (by decide) _ 0 [] rfl s0.row a1 xs.length cap1 (u8s xs) rfl ?c1 ?c2 ?c3 (u8s_one _) ?c4 ?c5 ?_))
      case c1 =>
        intro e
        rcases R0.out with ⟨h1, h2⟩ | ⟨a, cap, h1, _⟩
        · have := Value.slice.inj h1; exact ⟨this.2.1, this.2.2⟩
        · subst e; cases h1
      case c2 => rw [u8s_length]; omega
      case c3 =>
        intro b e j u hu
        rcases R0.out with ⟨h1, h2⟩ | ⟨a, cap, h1, h2⟩
        · subst e; cases h1
        · have h3 : b = a := by subst e; exact Option.some.inj (Value.slice.inj h1).1
          subst h3
          exact cell_alloc (h2 j u hu) _
      case c4 => unfold maxLen; omega
      case c5 => omega
      intro v1 w1 o1 g1 f1
      have s1 := s0.grown o1 g1 f1
      clear s0 o1 g1 f1 hi hz0 hz1 hz2
      have hb8 := B0.out.byte
      have HB8 := Lib.hid hb8
      clear hb8
      go_wp2_with fail
      refine (new_st s1 (Reads.of_owns s1.row) HB8.out (by omega)).mono ?_
      rintro e w2 ⟨qb, rfl, s2⟩
      obtain ⟨av, cv, rfl⟩ := ownsRow_slice s1.row
      clear s1
      go_wp2
      go_loopw [7] (fun i wr => Zeroed w xs qb (.slice av xs.length cv) i wr) (fun i _ => xs.length - (intOf i).toNat)
      case atStart => exact ⟨0, by omega, rfl, _, s2.swap⟩
      case round =>
        obtain ⟨k, hk, rfl, ys, s3⟩ := hrel
        by_cases hlt : k < xs.length
        · obtain ⟨g, cp, e1, e2⟩ := s3.rowShape (by omega)
          obtain ⟨rfl, -, rfl⟩ := Value.slice.inj e1
          have f0 := s3.row.frozenAt k
          have hyl := s3.row.1
          have c0 : ∃ u, wr.cell? ⟨g, k, none⟩ = some u := by
            rw [s3.row.cellAt k (by omega)]
            exact ⟨_, List.getElem?_eq_getElem (by omega)⟩
          obtain ⟨u, c0⟩ := c0
          have s4 := s3.stored k (.int .u8 0)
          clear e1 hyl s3
          go_wp2
          go_roundw
          case rel => exact ⟨k + 1, by omega, by go_num, _, s4⟩
          case measure => simp [intOf]; omega
        · clear s2
          have s4 := s3.drop
          clear s3
          go_wp2_with fail
          refine (of_any wr _ xs (B0.out.below (s4.below (Nat.le_refl _)) (Nat.le_refl _)) (by omega)).mono ?_
          rintro e w5 ⟨rv, rfl, o5, b5⟩
          rw [ofBytes_length] at o5
          have s5 := (s4.addRow b5 o5).swap
          obtain ⟨ar, cr, rfl⟩ := ownsRow_slice o5
          clear s4 o5 b5 B0 R0
          go_wp2
          go_loopw [9, 10] (fun a i wr => ReadAt w l xs qb (.slice ar (8 * xs.length) cr) a i wr) (fun _ i _ => l.length - (intOf i).toNat)
          case atStart => exact ⟨0, 0, by omega, by omega, rfl, rfl, s5⟩
          case round =>
            obtain ⟨j, p, hj, hp, rfl, rfl, st⟩ := hrel
            clear s5
            by_cases hjl : j < l.length
            · obtain ⟨hfit, b, off, rfl, hcell⟩ := H2.out j hjl
              obtain ⟨c0, c1', c2', c3'⟩ := hcell.below (st.below (Nat.le_refl _)) (Nat.le_refl _)
              have p8 : padOf p < 8 := padOf_lt8 p
              by_cases hal : l[j].al = true
              · rw [hal] at c2'
                clear hal
                obtain ⟨q, hq⟩ : ∃ q, q = p + padOf p := ⟨_, rfl⟩
                have hp2 : q ≤ 8 * xs.length := by rw [hq]; unfold padOf; omega
                have hpd : ((p : Int) + 7) / 8 * 8 = (q : Int) := by rw [hq]; unfold padOf; omega
                have HQ := Lib.hid hq
                clear hq
                go_wp2_with fail
                refine (ralign_st st).mono ?_
                rintro e w6 ⟨rfl, s6⟩
                rw [← HQ.out] at s6
                clear st c0 c1' c2' c3'
                go_wp2_with fail
                refine (at_st s6).mono ?_
                rintro e w7 ⟨rfl, rfl⟩
                go_wp2_with fail
                refine (left_st s6).mono ?_
                rintro e w7 ⟨rfl, s7⟩
                have hle : ((8 * xs.length - q : Nat) : Int) = 8 * (xs.length : Int) - (q : Int) := by omega
                clear s6
                go_wp2
                go_roundw
                case rel => exact ⟨j + 1, q, by omega, hp2, by go_num, rfl, s7⟩
                case measure => simp [intOf]; omega
              · have hal' : l[j].al = false := by simpa using hal
                rw [hal'] at c2'
                clear hal hal'
                have hrow := RowAt.of_owns st.swap.row
                by_cases hn : l[j].n < 0 ∨ 32 < l[j].n
                · have HN : badN l[j].n := hn
                  clear hn
                  go_wp2_with fail
                  refine (rget_arg wr _ (p : Int) l[j].n HN).mono ?_
                  rintro e w6 ⟨rfl, rfl⟩
                  go_wp2_with fail
                  refine (get_arg wr qb l[j].n HN).mono ?_
                  rintro e w6 ⟨rfl, rfl⟩
                  clear c0 c1' c2' c3' hrow
                  go_wp2_with fail
                  refine (at_st st).mono ?_
                  rintro e w7 ⟨rfl, rfl⟩
                  go_wp2_with fail
                  refine (left_st st).mono ?_
                  rintro e w7 ⟨rfl, s7⟩
                  have hle : ((8 * xs.length - p : Nat) : Int) = 8 * (xs.length : Int) - (p : Int) := by omega
                  clear st
                  go_wp2
                  go_roundw
                  case rel => exact ⟨j + 1, p, by omega, hp, by go_num, rfl, s7⟩
                  case measure => simp [intOf]; omega
                · obtain ⟨m, hm⟩ := Int.eq_ofNat_of_zero_le (show 0 ≤ l[j].n by omega)
                  have hm32 : m ≤ 32 := by omega
                  have hol : (ofBytes xs).length = 8 * xs.length := ofBytes_length xs
                  rw [hm] at c1'
                  clear hn hm
                  by_cases hleft : p + m ≤ 8 * xs.length
                  · have hsame := read_same xs HB8.out p m hleft
                    have HS := Lib.hid hsame
                    have HL := Lib.hid hol
                    clear hsame hol
                    go_wp2_with fail
                    refine (rget_ok wr _ (ofBytes xs) p m hrow (by rw [HL.out]; omega) hm32 (by rw [HL.out]; omega)).mono ?_
                    rintro e w6 ⟨rfl, rfl⟩
                    go_wp2_with fail
                    refine (get_st st m hm32 hleft).mono ?_
                    rintro e w6 ⟨he, s6⟩
                    rw [HS.out] at he
                    subst he
                    clear c0 c1' c2' c3' hrow st
                    go_wp2_with fail
                    refine (at_st s6).mono ?_
                    rintro e w7 ⟨rfl, rfl⟩
                    go_wp2_with fail
                    refine (left_st s6).mono ?_
                    rintro e w7 ⟨rfl, s7⟩
                    have hle : ((8 * xs.length - (p + m) : Nat) : Int) = 8 * (xs.length : Int) - ((p : Int) + (m : Int)) := by omega
                    clear s6
                    go_wp2
                    go_roundw
                    case rel => exact ⟨j + 1, p + m, by omega, hleft, by go_num, by go_num, s7⟩
                    case measure => simp [intOf]; omega
                  · have HL := Lib.hid hol
                    clear hol
                    go_wp2_with fail
                    refine (rget_form wr _ (ofBytes xs) p m hrow (by rw [HL.out]; omega) hm32 (by rw [HL.out]; omega)).mono ?_
                    rintro e w6 ⟨rfl, rfl⟩
                    go_wp2_with fail
                    refine (getform_st st m hm32 (by omega)).mono ?_
                    rintro e w6 ⟨rfl, s6⟩
                    clear c0 c1' c2' c3' hrow st
                    go_wp2_with fail
                    refine (at_st s6).mono ?_
                    rintro e w7 ⟨rfl, rfl⟩
                    go_wp2_with fail
                    refine (left_st s6).mono ?_
                    rintro e w7 ⟨rfl, s7⟩
                    have hle : ((8 * xs.length - p : Nat) : Int) = 8 * (xs.length : Int) - (p : Int) := by omega
                    clear s6
                    go_wp2
                    go_roundw
                    case rel => exact ⟨j + 1, p, by omega, hp, by go_num, rfl, s7⟩
                    case measure => simp [intOf]; omega
            · go_wp2_with fail
              refine (lays_st st).mono ?_
              rintro e w6 ⟨rfl, s6⟩
              go_wp2
              go_ret
              exact ⟨rfl, s6.below (Nat.le_refl _)⟩

end Go.Proofs.Ytlhhoiimmalpgaa.Msb.msbReads
