/-
  Contracts of package prefix: words put in bits, the lowest bit of each byte first. No conditions but that rows stay below 2^49 bits.
-/
import Derived.Test.YtakkfdibiboofaaPfxB
namespace Go.Proofs.Ytakkfdibiboofaa
open Go.RowKit Kraft

/-- What a Put answers, where the table and the writer are there. -/
def putErr (L : List Nat) (i : Int) : Nat := if bitsAtSym L i = 0 then 5 else 0

/-- The bits of a symbol's word, the first one first; none, if it has none. -/
def wordBits (L : List Nat) (i : Int) : List Bool := top (word L i.toNat) (bitsAtSym L i) (bitsAtSym L i)

theorem wordBits_length (L : List Nat) (i : Int) : (wordBits L i).length = bitsAtSym L i := top_length _ _ _

theorem bit_of (x d : Nat) (hx : x < 1048576) : bits .and .u32 ((x : Int) / 2 ^ d) 1 = ((x / 2 ^ d % 2 : Nat) : Int) := by
  have e : (x : Int) / 2 ^ d = ((x / 2 ^ d : Nat) : Int) := by simp
  have hz : x / 2 ^ d < 1048576 := Nat.lt_of_le_of_lt (Nat.div_le_self _ _) hx
  rw [e]
  generalize x / 2 ^ d = q at hz
  have := u32_and_nat q 1 (by omega) (by omega)
  rw [Nat.and_one_is_mod] at this
  exact this

namespace Low

set_option maxRecDepth 100000 in
theorem put_st {B : Nat} {w0 w : World} {r : List Thing} {tb pb : Nat} {L : List Nat} {l : List Bool} (st : St B w0 w (wrT pb l :: tblL tb L :: r)) (i : Int) (h20 : ∀ j, len L j ≤ 20) (hw : weight L ≤ 1048576) (hl : l.length < 562949953421312) :
    Calls Try.prog 38 #[.pointer (some ⟨tb, 0, none⟩), .pointer (some ⟨pb, 0, none⟩), .int .i64 i, .func (.func 39) #[.pointer (some ⟨pb, 0, none⟩)] #[]] w
      fun e w' => e = .returned (.int .i64 (putErr L i : Int)) ∧ St B w0 w' (wrT pb (l ++ wordBits L i) :: tblL tb L :: r) := by
  obtain ⟨g, mb, h⟩ := st.swap.tbl
  by_cases h0 : bitsAtSym L i = 0
  · unfold putErr wordBits
    rw [if_pos h0, h0]
    have hb := tbits_any h i
    rw [h0] at hb
    go_enter Try.func38, Try.ntmps38
    go_wp2_with fail
    refine hb.mono ?_
    rintro e w1 ⟨rfl, rfl⟩
    go_wp2
    go_ret
    exact ⟨rfl, by simpa [top] using st⟩
  · obtain ⟨k, rfl, hk, hbk⟩ := bitsAtSym_in (Nat.pos_of_ne_zero h0)
    unfold putErr wordBits
    rw [if_neg h0, hbk, Int.toNat_natCast]
    rw [hbk] at h0
    have hb := tbits_any h (k : Int)
    rw [hbk] at hb
    obtain ⟨hc0, hc1, hf0, hf1⟩ := cell_two h.head
    obtain ⟨gc0, gc1, gf0, gf1⟩ := h.cells k (by rw [pairTo_length]; exact hk)
    rw [pairTo_at L k hk] at gc0 gc1
    rw [pairTo_length] at hc0
    have hwl : word L k < 1048576 := Nat.lt_of_lt_of_le (word_lt L k hk (by omega) (h20 k) hw) (Nat.pow_le_pow_right (n := 2) (by omega) (h20 k))
    have hn20 := h20 k
    generalize hwd : word L k = x at *
    generalize hnn : len L k = n at *
    have hz : ((n : Int) == 0) = false := by rw [beq_eq_false_iff_ne]; omega
    go_enter Try.func38, Try.ntmps38
    go_wp2_with fail
    refine hb.mono ?_
    rintro e w1 ⟨rfl, rfl⟩
    go_wp2
    go_loopw [11, 12] (fun iv _ wr => ∃ c : Nat, c ≤ n ∧ iv = .int .i64 ((c : Int) - 1) ∧ St B w0 wr (wrT pb (l ++ top x n (n - c)) :: tblL tb L :: r)) (fun iv _ _ => (intOf iv + 1).toNat)
    case atStart => exact ⟨n, Nat.le_refl _, rfl, by simpa [top] using st⟩
    case round =>
      obtain ⟨c, hc, rfl, t1⟩ := hrel
      by_cases hc0 : c = 0
      · subst hc0
        rw [show ((0 : Nat) : Int) - 1 = -1 from rfl]
        go_wp2
        go_ret
        exact ⟨rfl, t1⟩
      · obtain ⟨d, rfl⟩ : ∃ d, c = d + 1 := ⟨c - 1, by omega⟩
        rw [show (((d + 1 : Nat) : Int) - 1) = (d : Int) from by omega]
        have hd20 : d < 20 := by omega
        have hbit := bit_of x d hwl
        have hput := Go.Proofs.Ytakkfdibiboofaa.put_st t1 (x / 2 ^ d % 2) 1 (by rw [List.length_append, top_length]; omega) (by omega) (by omega)
        rw [show ((x / 2 ^ d % 2 : Nat) : Int) = (x : Int) / 2 ^ d % 2 from by simp] at hput hbit
        have HB : l ++ top x n (n - (d + 1)) ++ bitsOf (x / 2 ^ d % 2) 1 = l ++ top x n (n - d) := by
          rw [List.append_assoc, show n - d = (n - (d + 1)) + 1 from by omega, top_succ, show n - 1 - (n - (d + 1)) = d from by omega]
          congr 2
          rcases Nat.mod_two_eq_zero_or_one (x / 2 ^ d) with hh | hh <;> rw [hh] <;> rfl
        rw [HB] at hput
        clear HB
        go_wp2_with fail
        refine hput.mono ?_
        rintro e w2 ⟨rfl, t2⟩
        go_wp2
        go_roundw
        case rel => exact ⟨d, by omega, by go_num, t2⟩
        case measure => simp [intOf]

/-- PutLow. -/
theorem tput_st {B : Nat} {w0 w : World} {r : List Thing} {tb pb : Nat} {L : List Nat} {l : List Bool} (st : St B w0 w (wrT pb l :: tblL tb L :: r)) (i : Int) (h20 : ∀ j, len L j ≤ 20) (hw : weight L ≤ 1048576) (hl : l.length < 562949953421312) :
    Calls Try.prog 20 #[.pointer (some ⟨tb, 0, none⟩), .pointer (some ⟨pb, 0, none⟩), .int .i64 i] w
      fun e w' => e = .returned (.int .i64 (putErr L i : Int)) ∧ St B w0 w' (wrT pb (l ++ wordBits L i) :: tblL tb L :: r) := by
  go_enter Try.func20, Try.ntmps20
  go_wp2_with fail
  refine (put_st st i h20 hw hl).mono ?_
  rintro e w1 ⟨rfl, s1⟩
  go_wp2
  go_ret
  exact ⟨rfl, s1⟩

/-- PutLow, of a table that is nil. -/
theorem tput_nilT (w : World) (p : Option Addr) (i : Int) : Calls Try.prog 20 #[.pointer none, .pointer p, .int .i64 i] w fun e w' => e = .returned (.int .i64 8) ∧ w = w' := by
  go_enter Try.func20, Try.ntmps20
  go_wp2
  go_ret
  go_wp2

/-- PutLow, of a writer that is nil. -/
theorem tput_nilW (w : World) (tb : Nat) (i : Int) : Calls Try.prog 20 #[.pointer (some ⟨tb, 0, none⟩), .pointer none, .int .i64 i] w fun e w' => e = .returned (.int .i64 8) ∧ w = w' := by
  go_enter Try.func20, Try.ntmps20
  go_wp2
  go_ret
  go_wp2

end Low
end Go.Proofs.Ytakkfdibiboofaa
