/-
  Rows that are added are one behind the other: the walk of MsbAdds. No conditions.
-/
import Derived.Test.YtlhhoiimmalpgaaMsbBackP
import Derived.Test.YtlhhoiimmalpgaaRegion
import Derived.StillTailTactics
namespace Go.Proofs.Ytlhhoiimmalpgaa.Msb.msbAdds
open Go.RowKit

/-- The row behind an act that puts, if it may. -/
def putAct (L : List Bool) (x : ActV) : List Bool := if 0 ≤ x.n ∧ x.n ≤ 32 ∧ x.v < 2 ^ x.n.toNat then L ++ bitsOf x.v x.n.toNat else L

def putAll : List ActV → List Bool → List Bool
  | [], L => L
  | x :: r, L => putAll r (putAct L x)

theorem putAll_snoc (d : List ActV) (x : ActV) (L : List Bool) : putAll (d ++ [x]) L = putAct (putAll d L) x := by
  induction d generalizing L with
  | nil => rfl
  | cons y d ih => simp only [List.cons_append, putAll, ih]

theorem putAct_append (A L : List Bool) (x : ActV) : putAct (A ++ L) x = A ++ putAct L x := by
  unfold putAct
  split
  · rw [List.append_assoc]
  · rfl

theorem putAll_append (d : List ActV) (A L : List Bool) : putAll d (A ++ L) = A ++ putAll d L := by
  induction d generalizing L with
  | nil => rfl
  | cons y d ih => simp only [putAll, putAct_append, ih]

theorem putAct_length (L : List Bool) (x : ActV) : (putAct L x).length ≤ L.length + 32 := by
  unfold putAct
  split
  · rename_i h
    rw [List.length_append, bitsOf_length]
    omega
  · omega

theorem putAll_length (d : List ActV) (L : List Bool) : (putAll d L).length ≤ L.length + 32 * d.length := by
  induction d generalizing L with
  | nil => simp [putAll]
  | cons y d ih =>
    have h1 := ih (putAct L y)
    have h2 := putAct_length L y
    simp only [putAll, List.length_cons] at *
    omega

/-- Put, whatever it is handed: its answer, and the row behind it. -/
def PutSt (B : Nat) (w0 : World) (pb : Nat) (L : List Bool) (x : ActV) (r : List Thing) (e : Ending) (w' : World) : Prop := ∃ c : Int, e = .returned (.int .i64 c) ∧ St B w0 w' (wrT pb (putAct L x) :: r)

theorem putact_st {B : Nat} {w0 w : World} {pb : Nat} {L : List Bool} {r : List Thing} (x : ActV) (hf : x.fits) (h : St B w0 w (wrT pb L :: r)) (hl : L.length < 1000000) :
    Calls Try.prog 14 #[.pointer (some ⟨pb, 0, none⟩), .int .u32 (x.v : Int), .int .i64 x.n] w (PutSt B w0 pb L x r) := by
  by_cases hput : 0 ≤ x.n ∧ x.n ≤ 32 ∧ x.v < 2 ^ x.n.toNat
  · obtain ⟨m, hm⟩ := Int.eq_ofNat_of_zero_le hput.1
    have e : putAct L x = L ++ bitsOf x.v m := by rw [putAct, if_pos hput, hm]; rfl
    have h3 := hput.2.2
    rw [hm, Int.toNat_natCast] at h3
    rw [hm]
    refine (put_st h x.v m (by omega) (by omega) h3).mono ?_
    rintro e1 w' ⟨rfl, h'⟩
    exact ⟨0, rfl, by rw [e]; exact h'⟩
  · have e : putAct L x = L := by rw [putAct, if_neg hput]
    have h1 := hf.1
    refine (put_arg w pb (x.v : Int) x.n (by omega) (by omega) (bad_of x hput)).mono ?_
    rintro e1 w' ⟨rfl, rfl⟩
    exact ⟨5, rfl, by rw [e]; exact h⟩

/-- Ahead of round k of the first loop. -/
def One (w : World) (l : List ActV) (i : Value) (wr : World) : Prop := ∃ k : Nat, k ≤ l.length ∧ i = .int .i64 (k : Int) ∧
  St w.heap.size w wr [wrT w.heap.size (putAll (l.take k) []), wrT (w.heap.size + 2) (putAll (l.take k) []), wrT (w.heap.size + 1) []]

/-- Ahead of round k of the second loop. -/
def Two (w : World) (l m : List ActV) (i : Value) (wr : World) : Prop := ∃ k : Nat, k ≤ m.length ∧ i = .int .i64 (k : Int) ∧
  St w.heap.size w wr [wrT (w.heap.size + 1) (putAll (m.take k) []), wrT (w.heap.size + 2) (putAll l [] ++ putAll (m.take k) []), wrT w.heap.size (putAll l [])]

set_option maxRecDepth 100000 in
set_option maxHeartbeats 2000000 in
theorem walk (w : World) (s1 : Value) (l : List ActV) (hs1 : Acts w s1 l) (s2 : Value) (m : List ActV) (hs2 : Acts w s2 m) :
    Calls Try.prog 6 #[s1, s2] w fun e w' => e = .returned (.bool true) ∧ Below w.heap.size w w' := by
  obtain ⟨a1, cap1, rfl, hmax1, hat1⟩ := hs1
  obtain ⟨a2, cap2, rfl, hmax2, hat2⟩ := hs2
  unfold maxLen at hmax1 hmax2
  have H1 := Lib.hid hat1
  have H2 := Lib.hid hat2
  clear hat1 hat2
  by_cases c1 : 60 < l.length
  · have d1 : decide ((60 : Int) < (l.length : Int)) = true := by simp; omega
    go_enter Try.func6, Try.ntmps6
    go_wp2
    go_ret
    exact ⟨rfl, Below.refl _ _⟩
  · by_cases c2 : 60 < m.length
    · have d1 : decide ((60 : Int) < (l.length : Int)) = false := by simp; omega
      have d2 : decide ((60 : Int) < (m.length : Int)) = true := by simp; omega
      go_enter Try.func6, Try.ntmps6
      go_wp2
      go_ret
      exact ⟨rfl, Below.refl _ _⟩
    · have d1 : decide ((60 : Int) < (l.length : Int)) = false := by simp; omega
      have d2 : decide ((60 : Int) < (m.length : Int)) = false := by simp; omega
      have s0 := ((St.start w).mnewWr.mnewWr.mnewWr).third
      simp only [World.size_alloc] at s0
      go_enter Try.func6, Try.ntmps6
      go_wp2
      go_loopw [8] (fun i wr => One w l i wr) (fun i _ => l.length - (intOf i).toNat)
      case atStart => exact ⟨0, by omega, rfl, s0⟩
      case round =>
        obtain ⟨k, hk, rfl, st⟩ := hrel
        by_cases hlt : k < l.length
        · obtain ⟨hfit, b, off, rfl, hcell⟩ := H1.out k hlt
          obtain ⟨c0, c1', -, -⟩ := hcell.below (st.below (Nat.le_refl _)) (Nat.le_refl _)
          have hll := putAll_length (l.take k) []
          rw [List.length_take, List.length_nil] at hll
          have hsn : putAct (putAll (l.take k) []) l[k] = putAll (l.take (k + 1)) [] := by rw [List.take_succ_eq_append_getElem hlt, putAll_snoc]
          have HS := Lib.hid hsn
          clear hsn
          go_wp2_with fail
          go_still_tail 10, (by kernel_rfl)
          go_wp2_with fail
          refine (putact_st l[k] hfit st.drew (by omega)).mono ?_
          rintro e w2 ⟨cd, rfl, st2⟩
          rw [HS.out] at st2
          have st3 := st2.swap
          clear st st2 c0 c1'
          obtain ⟨c0, c1', -, -⟩ := hcell.below (st3.below (Nat.le_refl _)) (Nat.le_refl _)
          go_wp2_with fail
          go_still_tail 10, (by kernel_rfl)
          go_wp2_with fail
          refine (putact_st l[k] hfit st3.drew (by omega)).mono ?_
          rintro e w4 ⟨cd2, rfl, st4⟩
          rw [HS.out] at st4
          have st5 := st4.swap
          clear st3 st4 c0 c1'
          go_wp2
          go_roundw
          case rel => exact ⟨k + 1, by omega, by go_num, st5⟩
          case measure => simp [intOf]; omega
        · have hkl : l.take k = l := List.take_of_length_le (by omega)
          rw [hkl] at st
          have hll := putAll_length l []
          rw [List.length_nil] at hll
          have st0 := st.swap.third
          clear st H1
          go_wp2
          go_loopw [9] (fun i wr => Two w l m i wr) (fun i _ => m.length - (intOf i).toNat)
          case atStart => exact ⟨0, by omega, rfl, by simpa [putAll] using st0⟩
          case round =>
            obtain ⟨j, hj, rfl, st1⟩ := hrel
            by_cases hjm : j < m.length
            · obtain ⟨hfit, b, off, rfl, hcell⟩ := H2.out j hjm
              obtain ⟨c0, c1', -, -⟩ := hcell.below (st1.below (Nat.le_refl _)) (Nat.le_refl _)
              have hmm := putAll_length (m.take j) []
              rw [List.length_take, List.length_nil] at hmm
              have hsn : putAct (putAll (m.take j) []) m[j] = putAll (m.take (j + 1)) [] := by rw [List.take_succ_eq_append_getElem hjm, putAll_snoc]
              have HS := Lib.hid hsn
              clear hsn
              go_wp2_with fail
              go_still_tail 10, (by kernel_rfl)
              go_wp2_with fail
              refine (putact_st m[j] hfit st1.drew (by omega)).mono ?_
              rintro e w2 ⟨cd, rfl, st2⟩
              rw [HS.out] at st2
              have st3 := st2.swap
              clear st1 st2 c0 c1'
              obtain ⟨c0, c1', -, -⟩ := hcell.below (st3.below (Nat.le_refl _)) (Nat.le_refl _)
              go_wp2_with fail
              go_still_tail 10, (by kernel_rfl)
              go_wp2_with fail
              refine (putact_st m[j] hfit st3.drew (by rw [List.length_append]; omega)).mono ?_
              rintro e w4 ⟨cd2, rfl, st4⟩
              rw [putAct_append, HS.out] at st4
              have st5 := st4.swap
              clear st3 st4 c0 c1'
              go_wp2
              go_roundw
              case rel => exact ⟨j + 1, by omega, by go_num, st5⟩
              case measure => simp [intOf]; omega
            · have hjl : m.take j = m := List.take_of_length_le (by omega)
              rw [hjl] at st1
              have hmm := putAll_length m []
              rw [List.length_nil] at hmm
              clear H2 st0
              generalize putAll l [] = A at *
              generalize putAll m [] = C at *
              go_wp2_with fail
              refine (len_st st1).mono ?_
              rintro e w5 ⟨rfl, rfl⟩
              go_wp2_with fail
              refine (bytes_st st1 (by omega)).mono ?_
              rintro e w6 ⟨v6, rfl, st6⟩
              have cv6 := st6.string
              go_wp2_with fail
              have st7 := (st6.drop.third).drew
              clear st1 st6 cv6
              refine region_seg (by kernel_rfl) [0, 1, 2, 3, 4, 5, 6, 7, 8] 20 rfl (by kernel_rfl) (by kernel_rfl) (fun _ _ d _ _ h => by cases d <;> exact h) ?_
              intro K hK
              simp only [pickL, List.getElem?_cons_zero, List.getElem?_cons_succ]
              go_wp2_with fail
              refine (add_st st7 (by omega)).mono ?_
              rintro e w8 ⟨rfl, st8⟩
              clear st7
              go_wp2_with fail
              refine (len_st st8).mono ?_
              rintro e w9 ⟨rfl, rfl⟩
              go_wp2_with fail
              refine (len_st st8.third).mono ?_
              rintro e w9 ⟨rfl, rfl⟩
              go_wp2_with fail
              refine (bytes_st st8 (by rw [List.length_append]; omega)).mono ?_
              rintro e w10 ⟨v10, rfl, st10⟩
              have cv10 := st10.string
              clear st8
              go_wp2_with fail
              refine wpAny_late (c := 9) (v := .string (strOf (pk (A ++ C)))) rfl (by kernel_rfl) (fun _ _ d _ _ h => by cases d <;> exact h) 17 [10, 11] _ _ _ (by kernel_rfl) ⟨rfl, by go_simp⟩ ?_
              refine late_step _ rfl ?_
              intro N hN
              go_wp2_with fail
              refine (bytes_st st10.fourth (by rw [List.length_append]; omega)).mono ?_
              rintro e w11 ⟨v11, rfl, st11⟩
              have cv11 := st11.string
              have cv12 := st11.third.string
              go_wp2_with fail
              refine hN _ _ ⟨rfl, by go_simp⟩ ?_
              refine late_step _ rfl ?_
              intro N2 hN2
              go_wp2_with fail
              refine hN2 _ _ ⟨rfl, by go_simp⟩ ?_
              refine late_end ?_
              refine mid_seg [12, 13, 14, 16, 15, 17, 18, 19, 22, 20, 21, 23, 24, 25, 26, 27, 28] 0 (by kernel_rfl) (by kernel_rfl) (fun _ _ d _ _ h => by cases d <;> exact h) ?_
              clear hN hN2 N N2 cv10 cv11 cv12
              intro K2 hK2
              simp only [pickL, List.getElem?_cons_zero, List.getElem?_cons_succ]
              have st12 := st11.drop.drop.third
              clear st10 st11
              go_wp2_with fail
              refine (len_st st12).mono ?_
              rintro e w13 ⟨rfl, rfl⟩
              go_wp2_with fail
              refine (bytes_st st12 (by omega)).mono ?_
              rintro e w14 ⟨v14, rfl, st14⟩
              have cv14 := st14.string
              clear st12
              go_wp2_with fail
              refine (lays_st st14).mono ?_
              rintro e w15 ⟨rfl, st15⟩
              go_wp2_with fail
              refine wpAny_done (by kernel_rfl) ?_ 0
              go_wp2
              go_ret
              exact ⟨rfl, st15.below (Nat.le_refl _)⟩

end Go.Proofs.Ytlhhoiimmalpgaa.Msb.msbAdds
