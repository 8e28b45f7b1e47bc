/-
  Contracts of package prefix: words got of bits, the lowest bit of each byte first. No conditions.
-/
import Derived.Test.YtakkfdibiboofaaPfxC
namespace Go.Proofs.Ytakkfdibiboofaa
open Go.RowKit Kraft

/-- The bits of a row, from a place on. -/
def rest (f : Nat → Bool) (m p : Nat) : List Bool := (List.range (m - p)).map fun j => f (p + j)

theorem rest_end (f : Nat → Bool) (m p : Nat) (h : m ≤ p) : rest f m p = [] := by unfold rest; rw [show m - p = 0 from by omega]; rfl
theorem rest_on (f : Nat → Bool) (m p : Nat) (h : p < m) : rest f m p = f p :: rest f m (p + 1) := by
  unfold rest
  rw [show m - p = (m - (p + 1)) + 1 from by omega, List.range_succ_eq_map, List.map_cons, List.map_map, Nat.add_zero]
  congr 1
  refine List.map_congr_left (fun j _ => ?_)
  show f (p + (j + 1)) = f (p + 1 + j)
  congr 1
  omega
theorem rest_length (f : Nat → Bool) (m p : Nat) : (rest f m p).length = m - p := by simp [rest]

theorem zero_int (w : World) : (zeroValue 3).run Try.prog w = .ok (.int .i64 0) w := by kernel_rfl

/-- Where a row of bits leads. -/
theorem Tbl.look {w : World} {tb g mb m : Nat} {ws : List (Nat × Nat)} {f : Leads} (h : Tbl w tb g mb ws f m) (a n : Nat) (ha : a < 4294967296) (hn : n < 9223372036854775808) :
    (Instr.lookup 66 (.map (some mb)) (.agg #[.int .u32 (a : Int), .int .i64 (n : Int)]) true).run Try.prog w = .ok (.tuple #[.int .i64 ((f a n).getD 0), .bool (f a n).isSome]) w := by
  obtain ⟨D, hD, hL⟩ := h.map
  obtain ⟨v, ps, h1, h2⟩ := hD.look_ok word_law Try.underlying66 (zero_int w) (plainElem_int Try.underlying3 (by decide)) (keyOf_pair a n ha hn)
  obtain ⟨c, rfl, h3, h4⟩ := plainElem_int_inv Try.underlying3 h2
  obtain ⟨l1, l2⟩ := hL a n ha hn
  have h5 := congrArg Prod.fst h3
  rw [l2] at h5
  have h6 := (Lit.int.inj (DataW.lit.inj h5)).2
  unfold pairV at h1
  rw [h1, l1, h6]

namespace Low

/-- What is read from a place on: how many bits, the symbol, the error. -/
def got (L : List Nat) (xs : List Nat) (p : Nat) : Nat × Int × Nat := seek (tab L L.length) 0 0 (rest (bitAt xs) (8 * xs.length) p)

theorem num_one (xs : List Nat) (p : Nat) : num (bitsAt xs p 1) = (bitAt xs p).toNat := by
  rw [num_bitsAt_succ]
  simp [bitsAt, num]

set_option maxRecDepth 100000 in
theorem get_any {B : Nat} {w0 w : World} {r : List Thing} {tb qb : Nat} {L xs : List Nat} {p : Nat} (st : St B w0 w (rdT qb xs p :: tblL tb L :: r)) (h20 : ∀ j, len L j ≤ 20) :
    Calls Try.prog 33 #[.pointer (some ⟨tb, 0, none⟩), .pointer (some ⟨qb, 0, none⟩), .func (.func 34) #[.pointer (some ⟨qb, 0, none⟩)] #[]] w
      fun e w' => e = .returned (.tuple #[.int .i64 (got L xs p).2.1, .int .i64 ((got L xs p).2.2 : Int)]) ∧ St B w0 w' (rdT qb xs (p + (got L xs p).1) :: tblL tb L :: r) := by
  have s1 : St B w0 (w.alloc (.cells #[.int .u32 0, .int .i64 0] 72)) (rowV w.heap.size 0 0 :: rdT qb xs p :: tblL tb L :: r) := st.newRowV 0 0
  obtain ⟨g, mb, h⟩ := st.swap.tbl
  obtain ⟨hc0, hc1, hf0, hf1⟩ := cell_two h.head
  clear hc0 hc1 hf0 hf1 h
  unfold got
  obtain ⟨v0, hrd⟩ := st.rd
  have hpl := hrd.place
  clear hrd
  generalize hR : seek (tab L L.length) 0 0 (rest (bitAt xs) (8 * xs.length) p) = R
  obtain ⟨Rk, Rs, Re⟩ := R
  go_enter Try.func33, Try.ntmps33
  go_wp2
  generalize (w.alloc (.cells #[.int .u32 0, .int .i64 0] 72)) = W1 at s1 ⊢
  obtain ⟨vb, hvb⟩ : ∃ vb, vb = w.heap.size := ⟨_, rfl⟩
  rw [← hvb] at s1
  simp only [← hvb]
  clear hvb
  go_loopw [] (fun wr => ∃ a n, n ≤ 20 ∧ a < 2 ^ n ∧ p + n ≤ 8 * xs.length ∧ (Rk, Rs, Re) = (n + (seek (tab L L.length) a n (rest (bitAt xs) (8 * xs.length) (p + n))).1, (seek (tab L L.length) a n (rest (bitAt xs) (8 * xs.length) (p + n))).2) ∧ St B w0 wr (rowV vb a n :: rdT qb xs (p + n) :: tblL tb L :: r)) (fun wr => match wr.cell? ⟨vb, 1, none⟩ with | some v => 21 - (intOf v).toNat | none => 0)
  case atStart => exact ⟨0, 0, by omega, by omega, by omega, by rw [← hR]; simp, s1⟩
  case round =>
    obtain ⟨a, n, hn, ha, hpn, hS, t1⟩ := hrel
    obtain ⟨g, mb, h⟩ := t1.third.tbl
    obtain ⟨hc0, hc1, hf0, hf1⟩ := cell_two h.head
    obtain ⟨vc0, vc1, vf0, vf1⟩ := cell_two t1.rowv
    have ha20 : a < 1048576 := Nat.lt_of_lt_of_le ha (Nat.pow_le_pow_right (n := 2) (by omega) hn)
    have hlook := h.drew.look a n (by omega) (by omega)
    have HA := Lib.hid ha
    clear ha
    rcases hT : tab L L.length a n with _ | s
    · rw [hT] at hlook
      rw [seek_none hT] at hS
      obtain ⟨rfl, e2⟩ := Prod.mk.inj hS
      obtain ⟨rfl, rfl⟩ := Prod.mk.inj e2
      simp only [Option.getD_none, Option.isSome_none] at hlook
      go_wp2
      go_region
      go_wp2
      go_ret2
      exact ⟨rfl, t1.drop.drew⟩
    · rw [hT] at hlook
      simp only [Option.getD_some, Option.isSome_some] at hlook
      by_cases hs : s = -1
      · subst hs
        have hn19 : n < 20 := by
          rcases tab_some _ a n _ hT with ⟨k, _, _, e, _⟩ | ⟨_, k, hk, hlt, _⟩
          · omega
          · have := h20 k; omega
        by_cases hend : p + n < 8 * xs.length
        · rw [rest_on _ _ _ hend, seek_on hT] at hS
          go_wp2
          go_region
          have t2 := t1.drew.swap
          generalize wr.drew = wz at t2 ⊢
          have hget := Go.Proofs.Ytakkfdibiboofaa.get_st t2 1 (by omega) (by omega)
          rw [num_one] at hget
          have hb1 : (bitAt xs (p + n)).toNat ≤ 1 := by cases bitAt xs (p + n) <;> simp
          generalize bitAt xs (p + n) = bt at hget hS hb1
          go_wp2_with fail
          refine hget.mono ?_
          rintro e w2 ⟨rfl, t3⟩
          obtain ⟨vc0', vc1', vf0', vf1'⟩ := cell_two t3.swap.rowv
          have hlong := longer_any w2 a n bt (by omega) (by omega)
          unfold pairV at hlong
          go_wp2_with fail
          refine hlong.mono ?_
          rintro e w3 ⟨rfl, hbel⟩
          have t4 := t3.quiet hbel
          obtain ⟨xc0, xc1, xf0, xf1⟩ := cell_two t4.swap.rowv
          have t5 := t4.swap.setRowV (2 * a + bt.toNat) (n + 1)
          go_wp2
          have hv := (cell_two t5.rowv).2.1
          rw [show ((2 * a + bt.toNat : Nat) : Int) = 2 * (a : Int) + (bt.toNat : Int) from by omega, show ((n + 1 : Nat) : Int) = (n : Int) + 1 from by omega] at t5 hv
          refine ⟨⟨2 * a + bt.toNat, n + 1, by omega, ?_, by omega, ?_, t5⟩, ?_⟩
          · have := HA.out
            rw [Nat.pow_succ]
            omega
          · rw [hS, show p + (n + 1) = p + n + 1 from by omega]
            refine Prod.mk.injEq .. ▸ ⟨by omega, rfl⟩
          · rw [hv, vc1]
            show 21 - (intOf (.int .i64 ((n : Int) + 1))).toNat < 21 - (intOf (.int .i64 (n : Int))).toNat
            simp [intOf]
            omega
        · rw [rest_end _ _ _ (by omega), seek_end hT] at hS
          obtain ⟨rfl, e2⟩ := Prod.mk.inj hS
          obtain ⟨rfl, rfl⟩ := Prod.mk.inj e2
          go_wp2
          go_region
          have t2 := t1.drew.swap
          generalize wr.drew = wz at t2 ⊢
          have hget := getform_st t2 1 (by omega) (by omega)
          go_wp2_with fail
          refine hget.mono ?_
          rintro e w2 ⟨rfl, t3⟩
          go_wp2
          go_ret2
          exact ⟨rfl, t3.swap.drop⟩
      · have hne : (s != -1) = true := by simpa using hs
        rw [seek_sym hT hs] at hS
        obtain ⟨rfl, e2⟩ := Prod.mk.inj hS
        obtain ⟨rfl, rfl⟩ := Prod.mk.inj e2
        go_wp2
        go_region
        go_wp2
        go_ret2
        exact ⟨rfl, t1.drop.drew⟩

/-- GetLow. -/
theorem tget_st {B : Nat} {w0 w : World} {r : List Thing} {tb qb : Nat} {L xs : List Nat} {p : Nat} (st : St B w0 w (rdT qb xs p :: tblL tb L :: r)) (h20 : ∀ j, len L j ≤ 20) :
    Calls Try.prog 15 #[.pointer (some ⟨tb, 0, none⟩), .pointer (some ⟨qb, 0, none⟩)] w
      fun e w' => e = .returned (.tuple #[.int .i64 (got L xs p).2.1, .int .i64 ((got L xs p).2.2 : Int)]) ∧ St B w0 w' (rdT qb xs (p + (got L xs p).1) :: tblL tb L :: r) := by
  go_enter Try.func15, Try.ntmps15
  go_wp2_with fail
  refine (get_any st h20).mono ?_
  rintro e w1 ⟨rfl, s1⟩
  go_wp2
  go_ret2
  exact ⟨rfl, s1⟩

/-- GetLow, of a table that is nil. -/
theorem tget_nilT (w : World) (p : Option Addr) : Calls Try.prog 15 #[.pointer none, .pointer p] w fun e w' => e = .returned (.tuple #[.int .i64 0, .int .i64 8]) ∧ w = w' := by
  go_enter Try.func15, Try.ntmps15
  go_wp2
  go_ret2
  go_wp2

/-- GetLow, of a reader that is nil. -/
theorem tget_nilR (w : World) (tb : Nat) : Calls Try.prog 15 #[.pointer (some ⟨tb, 0, none⟩), .pointer none] w fun e w' => e = .returned (.tuple #[.int .i64 0, .int .i64 8]) ∧ w = w' := by
  go_enter Try.func15, Try.ntmps15
  go_wp2
  go_ret2
  go_wp2

end Low
end Go.Proofs.Ytakkfdibiboofaa
