/-
  Contracts of package prefix: words put in bits and got of them, the highest bit of each byte first. No conditions but that rows stay below 2^49 bits.
-/
import Derived.Test.YtakkfdibiboofaaPfxD
namespace Go.Proofs.Ytakkfdibiboofaa
open Go.RowKit Kraft

namespace High

set_option maxRecDepth 100000 in
theorem put_st {B : Nat} {w0 w : World} {r : List Thing} {tb pb : Nat} {L : List Nat} {l : List Bool} (st : St B w0 w (Msb.wrT pb l :: tblL tb L :: r)) (i : Int) (h20 : ∀ j, len L j ≤ 20) (hw : weight L ≤ 1048576) (hl : l.length < 562949953421312) :
    Calls Try.prog 40 #[.pointer (some ⟨tb, 0, none⟩), .pointer (some ⟨pb, 0, none⟩), .int .i64 i, .func (.func 41) #[.pointer (some ⟨pb, 0, none⟩)] #[]] w
      fun e w' => e = .returned (.int .i64 (putErr L i : Int)) ∧ St B w0 w' (Msb.wrT pb (l ++ wordBits L i) :: tblL tb L :: r) := by
  obtain ⟨g, mb, h⟩ := st.swap.tbl
  by_cases h0 : bitsAtSym L i = 0
  · unfold putErr wordBits
    rw [if_pos h0, h0]
    have hb := tbits_any h i
    rw [h0] at hb
    go_enter Try.func40, Try.ntmps40
    go_wp2_with fail
    refine hb.mono ?_
    rintro e w1 ⟨rfl, rfl⟩
    go_wp2
    go_ret
    exact ⟨rfl, by simpa [top] using st⟩
  · obtain ⟨k, rfl, hk, hbk⟩ := bitsAtSym_in (Nat.pos_of_ne_zero h0)
    unfold putErr wordBits
    rw [if_neg h0, hbk, Int.toNat_natCast]
    rw [hbk] at h0
    have hb := tbits_any h (k : Int)
    rw [hbk] at hb
    obtain ⟨hc0, hc1, hf0, hf1⟩ := cell_two h.head
    obtain ⟨gc0, gc1, gf0, gf1⟩ := h.cells k (by rw [pairTo_length]; exact hk)
    rw [pairTo_at L k hk] at gc0 gc1
    rw [pairTo_length] at hc0
    have hwl : word L k < 1048576 := Nat.lt_of_lt_of_le (word_lt L k hk (by omega) (h20 k) hw) (Nat.pow_le_pow_right (n := 2) (by omega) (h20 k))
    have hn20 := h20 k
    generalize hwd : word L k = x at *
    generalize hnn : len L k = n at *
    have hz : ((n : Int) == 0) = false := by rw [beq_eq_false_iff_ne]; omega
    go_enter Try.func40, Try.ntmps40
    go_wp2_with fail
    refine hb.mono ?_
    rintro e w1 ⟨rfl, rfl⟩
    go_wp2
    go_loopw [11, 12] (fun iv _ wr => ∃ c : Nat, c ≤ n ∧ iv = .int .i64 ((c : Int) - 1) ∧ St B w0 wr (Msb.wrT pb (l ++ top x n (n - c)) :: tblL tb L :: r)) (fun iv _ _ => (intOf iv + 1).toNat)
    case atStart => exact ⟨n, Nat.le_refl _, rfl, by simpa [top] using st⟩
    case round =>
      obtain ⟨c, hc, rfl, t1⟩ := hrel
      by_cases hc0 : c = 0
      · subst hc0
        rw [show ((0 : Nat) : Int) - 1 = -1 from rfl]
        go_wp2
        go_ret
        exact ⟨rfl, t1⟩
      · obtain ⟨d, rfl⟩ : ∃ d, c = d + 1 := ⟨c - 1, by omega⟩
        rw [show (((d + 1 : Nat) : Int) - 1) = (d : Int) from by omega]
        have hd20 : d < 20 := by omega
        have hbit := bit_of x d hwl
        have hput := Msb.put_st t1 (x / 2 ^ d % 2) 1 (by rw [List.length_append, top_length]; omega) (by omega) (by omega)
        rw [show ((x / 2 ^ d % 2 : Nat) : Int) = (x : Int) / 2 ^ d % 2 from by simp] at hput hbit
        have HB : l ++ top x n (n - (d + 1)) ++ Msb.bitsOf (x / 2 ^ d % 2) 1 = l ++ top x n (n - d) := by
          rw [List.append_assoc, show n - d = (n - (d + 1)) + 1 from by omega, top_succ, show n - 1 - (n - (d + 1)) = d from by omega]
          congr 2
          rcases Nat.mod_two_eq_zero_or_one (x / 2 ^ d) with hh | hh <;> rw [hh] <;> rfl
        rw [HB] at hput
        clear HB
        go_wp2_with fail
        refine hput.mono ?_
        rintro e w2 ⟨rfl, t2⟩
        go_wp2
        go_roundw
        case rel => exact ⟨d, by omega, by go_num, t2⟩
        case measure => simp [intOf]

/-- PutHigh. -/
theorem tput_st {B : Nat} {w0 w : World} {r : List Thing} {tb pb : Nat} {L : List Nat} {l : List Bool} (st : St B w0 w (Msb.wrT pb l :: tblL tb L :: r)) (i : Int) (h20 : ∀ j, len L j ≤ 20) (hw : weight L ≤ 1048576) (hl : l.length < 562949953421312) :
    Calls Try.prog 21 #[.pointer (some ⟨tb, 0, none⟩), .pointer (some ⟨pb, 0, none⟩), .int .i64 i] w
      fun e w' => e = .returned (.int .i64 (putErr L i : Int)) ∧ St B w0 w' (Msb.wrT pb (l ++ wordBits L i) :: tblL tb L :: r) := by
  go_enter Try.func21, Try.ntmps21
  go_wp2_with fail
  refine (put_st st i h20 hw hl).mono ?_
  rintro e w1 ⟨rfl, s1⟩
  go_wp2
  go_ret
  exact ⟨rfl, s1⟩

/-- PutHigh, of a table that is nil. -/
theorem tput_nilT (w : World) (p : Option Addr) (i : Int) : Calls Try.prog 21 #[.pointer none, .pointer p, .int .i64 i] w fun e w' => e = .returned (.int .i64 8) ∧ w = w' := by
  go_enter Try.func21, Try.ntmps21
  go_wp2
  go_ret
  go_wp2

/-- PutHigh, of a writer that is nil. -/
theorem tput_nilW (w : World) (tb : Nat) (i : Int) : Calls Try.prog 21 #[.pointer (some ⟨tb, 0, none⟩), .pointer none, .int .i64 i] w fun e w' => e = .returned (.int .i64 8) ∧ w = w' := by
  go_enter Try.func21, Try.ntmps21
  go_wp2
  go_ret
  go_wp2



/-- What is read from a place on: how many bits, the symbol, the error. -/
def got (L : List Nat) (xs : List Nat) (p : Nat) : Nat × Int × Nat := seek (tab L L.length) 0 0 (rest (Msb.bitAt xs) (8 * xs.length) p)

theorem num_one (xs : List Nat) (p : Nat) : Msb.num (Msb.bitsAt xs p 1) = (Msb.bitAt xs p).toNat := by
  rw [Msb.num_bitsAt_succ]
  simp [Msb.bitsAt, Msb.num]

set_option maxRecDepth 100000 in
theorem get_any {B : Nat} {w0 w : World} {r : List Thing} {tb qb : Nat} {L xs : List Nat} {p : Nat} (st : St B w0 w (Msb.rdT qb xs p :: tblL tb L :: r)) (h20 : ∀ j, len L j ≤ 20) :
    Calls Try.prog 36 #[.pointer (some ⟨tb, 0, none⟩), .pointer (some ⟨qb, 0, none⟩), .func (.func 37) #[.pointer (some ⟨qb, 0, none⟩)] #[]] w
      fun e w' => e = .returned (.tuple #[.int .i64 (got L xs p).2.1, .int .i64 ((got L xs p).2.2 : Int)]) ∧ St B w0 w' (Msb.rdT qb xs (p + (got L xs p).1) :: tblL tb L :: r) := by
  have s1 : St B w0 (w.alloc (.cells #[.int .u32 0, .int .i64 0] 72)) (rowV w.heap.size 0 0 :: Msb.rdT qb xs p :: tblL tb L :: r) := st.newRowV 0 0
  obtain ⟨g, mb, h⟩ := st.swap.tbl
  obtain ⟨hc0, hc1, hf0, hf1⟩ := cell_two h.head
  clear hc0 hc1 hf0 hf1 h
  unfold got
  obtain ⟨v0, hrd⟩ := st.mrd
  have hpl := hrd.place
  clear hrd
  generalize hR : seek (tab L L.length) 0 0 (rest (Msb.bitAt xs) (8 * xs.length) p) = R
  obtain ⟨Rk, Rs, Re⟩ := R
  go_enter Try.func36, Try.ntmps36
  go_wp2
  generalize (w.alloc (.cells #[.int .u32 0, .int .i64 0] 72)) = W1 at s1 ⊢
  obtain ⟨vb, hvb⟩ : ∃ vb, vb = w.heap.size := ⟨_, rfl⟩
  rw [← hvb] at s1
  simp only [← hvb]
  clear hvb
  go_loopw [] (fun wr => ∃ a n, n ≤ 20 ∧ a < 2 ^ n ∧ p + n ≤ 8 * xs.length ∧ (Rk, Rs, Re) = (n + (seek (tab L L.length) a n (rest (Msb.bitAt xs) (8 * xs.length) (p + n))).1, (seek (tab L L.length) a n (rest (Msb.bitAt xs) (8 * xs.length) (p + n))).2) ∧ St B w0 wr (rowV vb a n :: Msb.rdT qb xs (p + n) :: tblL tb L :: r)) (fun wr => match wr.cell? ⟨vb, 1, none⟩ with | some v => 21 - (intOf v).toNat | none => 0)
  case atStart => exact ⟨0, 0, by omega, by omega, by omega, by rw [← hR]; simp, s1⟩
  case round =>
    obtain ⟨a, n, hn, ha, hpn, hS, t1⟩ := hrel
    obtain ⟨g, mb, h⟩ := t1.third.tbl
    obtain ⟨hc0, hc1, hf0, hf1⟩ := cell_two h.head
    obtain ⟨vc0, vc1, vf0, vf1⟩ := cell_two t1.rowv
    have ha20 : a < 1048576 := Nat.lt_of_lt_of_le ha (Nat.pow_le_pow_right (n := 2) (by omega) hn)
    have hlook := h.drew.look a n (by omega) (by omega)
    have HA := Lib.hid ha
    clear ha
    rcases hT : tab L L.length a n with _ | s
    · rw [hT] at hlook
      rw [seek_none hT] at hS
      obtain ⟨rfl, e2⟩ := Prod.mk.inj hS
      obtain ⟨rfl, rfl⟩ := Prod.mk.inj e2
      simp only [Option.getD_none, Option.isSome_none] at hlook
      go_wp2
      go_region
      go_wp2
      go_ret2
      exact ⟨rfl, t1.drop.drew⟩
    · rw [hT] at hlook
      simp only [Option.getD_some, Option.isSome_some] at hlook
      by_cases hs : s = -1
      · subst hs
        have hn19 : n < 20 := by
          rcases tab_some _ a n _ hT with ⟨k, _, _, e, _⟩ | ⟨_, k, hk, hlt, _⟩
          · omega
          · have := h20 k; omega
        by_cases hend : p + n < 8 * xs.length
        · rw [rest_on _ _ _ hend, seek_on hT] at hS
          go_wp2
          go_region
          have t2 := t1.drew.swap
          generalize wr.drew = wz at t2 ⊢
          have hget := Msb.get_st t2 1 (by omega) (by omega)
          rw [num_one] at hget
          have hb1 : (Msb.bitAt xs (p + n)).toNat ≤ 1 := by cases Msb.bitAt xs (p + n) <;> simp
          generalize Msb.bitAt xs (p + n) = bt at hget hS hb1
          go_wp2_with fail
          refine hget.mono ?_
          rintro e w2 ⟨rfl, t3⟩
          obtain ⟨vc0', vc1', vf0', vf1'⟩ := cell_two t3.swap.rowv
          have hlong := longer_any w2 a n bt (by omega) (by omega)
          unfold pairV at hlong
          go_wp2_with fail
          refine hlong.mono ?_
          rintro e w3 ⟨rfl, hbel⟩
          have t4 := t3.quiet hbel
          obtain ⟨xc0, xc1, xf0, xf1⟩ := cell_two t4.swap.rowv
          have t5 := t4.swap.setRowV (2 * a + bt.toNat) (n + 1)
          go_wp2
          have hv := (cell_two t5.rowv).2.1
          rw [show ((2 * a + bt.toNat : Nat) : Int) = 2 * (a : Int) + (bt.toNat : Int) from by omega, show ((n + 1 : Nat) : Int) = (n : Int) + 1 from by omega] at t5 hv
          refine ⟨⟨2 * a + bt.toNat, n + 1, by omega, ?_, by omega, ?_, t5⟩, ?_⟩
          · have := HA.out
            rw [Nat.pow_succ]
            omega
          · rw [hS, show p + (n + 1) = p + n + 1 from by omega]
            refine Prod.mk.injEq .. ▸ ⟨by omega, rfl⟩
          · rw [hv, vc1]
            show 21 - (intOf (.int .i64 ((n : Int) + 1))).toNat < 21 - (intOf (.int .i64 (n : Int))).toNat
            simp [intOf]
            omega
        · rw [rest_end _ _ _ (by omega), seek_end hT] at hS
          obtain ⟨rfl, e2⟩ := Prod.mk.inj hS
          obtain ⟨rfl, rfl⟩ := Prod.mk.inj e2
          go_wp2
          go_region
          have t2 := t1.drew.swap
          generalize wr.drew = wz at t2 ⊢
          have hget := Msb.getform_st t2 1 (by omega) (by omega)
          go_wp2_with fail
          refine hget.mono ?_
          rintro e w2 ⟨rfl, t3⟩
          go_wp2
          go_ret2
          exact ⟨rfl, t3.swap.drop⟩
      · have hne : (s != -1) = true := by simpa using hs
        rw [seek_sym hT hs] at hS
        obtain ⟨rfl, e2⟩ := Prod.mk.inj hS
        obtain ⟨rfl, rfl⟩ := Prod.mk.inj e2
        go_wp2
        go_region
        go_wp2
        go_ret2
        exact ⟨rfl, t1.drop.drew⟩

/-- GetHigh. -/
theorem tget_st {B : Nat} {w0 w : World} {r : List Thing} {tb qb : Nat} {L xs : List Nat} {p : Nat} (st : St B w0 w (Msb.rdT qb xs p :: tblL tb L :: r)) (h20 : ∀ j, len L j ≤ 20) :
    Calls Try.prog 18 #[.pointer (some ⟨tb, 0, none⟩), .pointer (some ⟨qb, 0, none⟩)] w
      fun e w' => e = .returned (.tuple #[.int .i64 (got L xs p).2.1, .int .i64 ((got L xs p).2.2 : Int)]) ∧ St B w0 w' (Msb.rdT qb xs (p + (got L xs p).1) :: tblL tb L :: r) := by
  go_enter Try.func18, Try.ntmps18
  go_wp2_with fail
  refine (get_any st h20).mono ?_
  rintro e w1 ⟨rfl, s1⟩
  go_wp2
  go_ret2
  exact ⟨rfl, s1⟩

/-- GetHigh, of a table that is nil. -/
theorem tget_nilT (w : World) (p : Option Addr) : Calls Try.prog 18 #[.pointer none, .pointer p] w fun e w' => e = .returned (.tuple #[.int .i64 0, .int .i64 8]) ∧ w = w' := by
  go_enter Try.func18, Try.ntmps18
  go_wp2
  go_ret2
  go_wp2

/-- GetHigh, of a reader that is nil. -/
theorem tget_nilR (w : World) (tb : Nat) : Calls Try.prog 18 #[.pointer (some ⟨tb, 0, none⟩), .pointer none] w fun e w' => e = .returned (.tuple #[.int .i64 0, .int .i64 8]) ∧ w = w' := by
  go_enter Try.func18, Try.ntmps18
  go_wp2
  go_ret2
  go_wp2

end High
end Go.Proofs.Ytakkfdibiboofaa
