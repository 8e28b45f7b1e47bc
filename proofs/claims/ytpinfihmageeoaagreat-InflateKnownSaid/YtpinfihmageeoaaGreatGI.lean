/-
  HdE PfxV HdF HdJ, one behind the other (merged by wip/merge.py). No conditions but those that each states.
-/
import Derived.Test.YtpinfihmageeoaaGreatGB
import Derived.Test.YtpinfihmageeoaaGreatGA
import Derived.Test.YtpinfihmageeoaaGreatGE
import Derived.WalkSmall
import Derived.Test.YtpinfihmageeoaaGreatGW
import Derived.Test.YtpinfihmageeoaaGreatGD
import Derived.Test.YtpinfihmageeoaaGreatGF
import Derived.Test.YtpinfihmageeoaaGreatGF
import Derived.Test.YtpinfihmageeoaaGreatGF

namespace Go.Proofs.YtpinfihmageeoaaGreat
open Go.RowKit Kraft

def rdvT (qb : Nat) (v : Value) (xs : List Nat) (p : Nat) : Thing where
  holds w S := Rd w qb v xs p ∧ ∀ k, S k ↔ Mine qb v k
  keep := by
    rintro w w' S T ⟨h1, h2⟩ ho hd
    exact ⟨h1.only ho (fun k hk => hd k ((h2 k).2 hk)), h2⟩
  lt := by
    rintro w S k ⟨h1, h2⟩ hk
    exact h1.lt ((h2 _).1 hk)

section
variable {B : Nat} {w0 w : World} {r : List Thing} {qb ab : Nat} {v : Value} {xs : List Nat} {p p' : Nat}

theorem St.rdv (h : St B w0 w (rdvT qb v xs p :: r)) : Rd w qb v xs p := by
  obtain ⟨S1, h1, _⟩ := h.sep
  exact h1.1

theorem St.toV (h : St B w0 w (rdT qb xs p :: r)) : ∃ v, St B w0 w (rdvT qb v xs p :: r) := by
  obtain ⟨S1, ⟨v, h1, h2⟩, h3, h4⟩ := h.sep
  exact ⟨v, h.only, h.size, S1, ⟨h1, h2⟩, h3, h4⟩

theorem St.ofV (h : St B w0 w (rdvT qb v xs p :: r)) : St B w0 w (rdT qb xs p :: r) := by
  obtain ⟨S1, ⟨h1, h2⟩, h3, h4⟩ := h.sep
  exact ⟨h.only, h.size, S1, ⟨v, h1, h2⟩, h3, h4⟩

theorem rdv_calls {f : FuncId} {args : Array Value} {x : Ending} (h : St B w0 w (rdvT qb v xs p :: r))
    (c : Rd w qb v xs p → Calls Tryz.prog f args w fun e w' => e = x ∧ RdTo w qb v xs p' w') : Calls Tryz.prog f args w fun e w' => e = x ∧ St B w0 w' (rdvT qb v xs p' :: r) := by
  obtain ⟨S1, ⟨h1, h2⟩, h3, h4⟩ := h.sep
  refine (c h1).mono ?_
  rintro e w' ⟨he, g1, g2⟩
  have hq : S1 qb := (h2 qb).2 (.inl rfl)
  refine ⟨he, h.only.trans g2 (fun i _ hi => by subst hi; exact h3 i hq), Nat.le_trans h.size g2.size, S1, ⟨g1, h2⟩, h3, ?_⟩
  exact Sep.keep g2 h4 (fun k hk e => hk.2 (by subst e; exact hq))

theorem getv_st (h : St B w0 w (rdvT qb v xs p :: r)) (n : Nat) (hn : n ≤ 32) (hp : p + n ≤ 8 * xs.length) :
    Calls Tryz.prog 55 #[.pointer (some ⟨qb, 0, none⟩), .int .i64 (n : Int)] w fun e w' => e = .returned (.tuple #[.int .u32 (num (bitsAt xs p n) : Int), .int .i64 0]) ∧ St B w0 w' (rdvT qb v xs (p + n) :: r) :=
  rdv_calls h fun hv => get_ok w qb v xs p n hv hn hp

theorem getvform_st (h : St B w0 w (rdvT qb v xs p :: r)) (n : Nat) (hn : n ≤ 32) (hp : 8 * xs.length < p + n) :
    Calls Tryz.prog 55 #[.pointer (some ⟨qb, 0, none⟩), .int .i64 (n : Int)] w fun e w' => e = .returned (.tuple #[.int .u32 0, .int .i64 2]) ∧ St B w0 w' (rdvT qb v xs p :: r) :=
  rdv_calls h fun hv => get_form w qb v xs p n hv hn hp

theorem St.swapHead (h : St B w0 w (rdvT ab v xs p' :: boxT qb #[v, .int .i64 (p : Int)] 84 :: r)) (hp : p ≤ 8 * xs.length) :
    St B w0 w (rdvT qb v xs p :: boxT ab #[v, .int .i64 (p' : Int)] 84 :: r) := by
  obtain ⟨S1, ⟨h1, h2⟩, h3, S2, ⟨g1, g2⟩, g3, h4⟩ := h.sep
  have hq : S2 qb := (g2 qb).2 rfl
  have hnq := (g3 qb hq).2
  have hna : ab ≠ qb := fun e => hnq ((h2 qb).2 (.inl e.symm))
  have hap : v.ownBlock ≠ some qb := fun e => hnq ((h2 qb).2 (.inr e))
  refine ⟨h.only, h.size, fun k => Mine qb v k, ⟨⟨g1, h1.row, hap, h1.byte, h1.small, hp⟩, fun _ => Iff.rfl⟩, ?_, fun k => k = ab, ⟨h1.head, fun _ => Iff.rfl⟩, ?_, ?_⟩
  · rintro k (rfl | hk)
    · exact (g3 _ hq).1
    · exact h3 k ((h2 k).2 (.inr hk))
  · rintro k rfl
    refine ⟨h3 _ ((h2 _).2 (.inl rfl)), ?_⟩
    rintro (e | e)
    · exact hna e
    · exact h1.apart e
  · refine Sep.mono h4 (fun k _ hk => ⟨⟨hk.1.1, ?_⟩, ?_⟩)
    · rintro (rfl | e)
      · exact hk.2 hq
      · exact hk.1.2 ((h2 k).2 (.inr e))
    · rintro rfl
      exact hk.1.2 ((h2 _).2 (.inl rfl))

theorem St.setBox2 {b : Nat} {x y : Value} {t : TypeId} (st : St B w0 w (boxT b #[x, y] t :: r)) (x' y' : Value) : St B w0 ((w.setCell ⟨b, 0, none⟩ x').setCell ⟨b, 1, none⟩ y') (boxT b #[x', y'] t :: r) := by
  refine st.step fun S hS => ⟨S, ⟨?_, hS.2⟩, ?_, fun k hk => .inl hk⟩
  · rw [heap_setCell_same _ b 1 _ t _ (heap_setCell_same _ b 0 _ t _ hS.1)]
    rfl
  · have hg : S b := (hS.2 b).2 rfl
    exact ((Only.refl _ _).setCell (fun _ => hg) _).setCell (fun _ => hg) _

end

namespace Hd

def oops : List PanicEntry := [{ v := .iface 22 (.int .i64 2), recovered := false }]

theorem need_yes (w : World) : Calls Tryz.prog 141 #[.bool true] w fun e w' => e = .returned (.tuple #[]) ∧ w = w' := by
  go_enter Tryz.func141, Tryz.ntmps141
  go_wp2
  go_end0
  exact ⟨rfl, rfl⟩

theorem need_no (w : World) : Calls Tryz.prog 141 #[.bool false] w fun e w' => e = .panicked oops ∧ w = w' := by
  go_enter Tryz.func141, Tryz.ntmps141
  go_wp2
  exact ⟨rfl, rfl, rfl⟩

theorem throw32_ok (x : Int) (w : World) : Calls Tryz.prog 152 #[.int .u32 x, .int .i64 0] w fun e w' => e = .returned (.int .u32 x) ∧ w = w' := by
  go_enter Tryz.func152, Tryz.ntmps152
  go_wp2_with (go_at_call 141; refine (need_yes _).mono ?_; rintro e w1 ⟨rfl, rfl⟩)
  go_ret
  exact ⟨rfl, rfl⟩

theorem throw32_no (x : Int) (n : Int) (hn : n ≠ 0) (w : World) : Calls Tryz.prog 152 #[.int .u32 x, .int .i64 n] w fun e w' => e = .panicked oops ∧ w = w' := by
  have h0 : (n == 0) = false := by rw [beq_eq_false_iff_ne]; exact hn
  go_enter Tryz.func152, Tryz.ntmps152
  go_wp2_with (go_at_call 141; refine (need_no _).mono ?_; rintro e w1 ⟨rfl, rfl⟩)
  exact ⟨rfl, rfl, rfl⟩

theorem throwI_ok (x : Int) (w : World) : Calls Tryz.prog 153 #[.int .i64 x, .int .i64 0] w fun e w' => e = .returned (.int .i64 x) ∧ w = w' := by
  go_enter Tryz.func153, Tryz.ntmps153
  go_wp2_with (go_at_call 141; refine (need_yes _).mono ?_; rintro e w1 ⟨rfl, rfl⟩)
  go_ret
  exact ⟨rfl, rfl⟩

theorem throwI_no (x : Int) (n : Int) (hn : n ≠ 0) (w : World) : Calls Tryz.prog 153 #[.int .i64 x, .int .i64 n] w fun e w' => e = .panicked oops ∧ w = w' := by
  have h0 : (n == 0) = false := by rw [beq_eq_false_iff_ne]; exact hn
  go_enter Tryz.func153, Tryz.ntmps153
  go_wp2_with (go_at_call 141; refine (need_no _).mono ?_; rintro e w1 ⟨rfl, rfl⟩)
  exact ⟨rfl, rfl, rfl⟩

theorem throwB_ok (x : Value) (w : World) : Calls Tryz.prog 156 #[x, .int .i64 0] w fun e w' => e = .returned x ∧ w = w' := by
  go_enter Tryz.func156, Tryz.ntmps156
  go_wp2_with (go_at_call 141; refine (need_yes _).mono ?_; rintro e w1 ⟨rfl, rfl⟩)
  go_ret
  exact ⟨rfl, rfl⟩

theorem throwB_no (x : Value) (n : Int) (hn : n ≠ 0) (w : World) : Calls Tryz.prog 156 #[x, .int .i64 n] w fun e w' => e = .panicked oops ∧ w = w' := by
  have h0 : (n == 0) = false := by rw [beq_eq_false_iff_ne]; exact hn
  go_enter Tryz.func156, Tryz.ntmps156
  go_wp2_with (go_at_call 141; refine (need_no _).mono ?_; rintro e w1 ⟨rfl, rfl⟩)
  exact ⟨rfl, rfl, rfl⟩

theorem throwK_ok (x : Int) (w : World) : Calls Tryz.prog 159 #[.int .u8 x, .int .i64 0] w fun e w' => e = .returned (.int .u8 x) ∧ w = w' := by
  go_enter Tryz.func159, Tryz.ntmps159
  go_wp2_with (go_at_call 141; refine (need_yes _).mono ?_; rintro e w1 ⟨rfl, rfl⟩)
  go_ret
  exact ⟨rfl, rfl⟩

theorem throwK_no (x : Int) (n : Int) (hn : n ≠ 0) (w : World) : Calls Tryz.prog 159 #[.int .u8 x, .int .i64 n] w fun e w' => e = .panicked oops ∧ w = w' := by
  have h0 : (n == 0) = false := by rw [beq_eq_false_iff_ne]; exact hn
  go_enter Tryz.func159, Tryz.ntmps159
  go_wp2_with (go_at_call 141; refine (need_no _).mono ?_; rintro e w1 ⟨rfl, rfl⟩)
  exact ⟨rfl, rfl, rfl⟩

theorem throwT_ok (x : Option Addr) (w : World) : Calls Tryz.prog 160 #[.pointer x, .int .i64 0] w fun e w' => e = .returned (.pointer x) ∧ w = w' := by
  go_enter Tryz.func160, Tryz.ntmps160
  go_wp2_with (go_at_call 141; refine (need_yes _).mono ?_; rintro e w1 ⟨rfl, rfl⟩)
  go_ret
  exact ⟨rfl, rfl⟩

theorem throwT_no (x : Option Addr) (n : Int) (hn : n ≠ 0) (w : World) : Calls Tryz.prog 160 #[.pointer x, .int .i64 n] w fun e w' => e = .panicked oops ∧ w = w' := by
  have h0 : (n == 0) = false := by rw [beq_eq_false_iff_ne]; exact hn
  go_enter Tryz.func160, Tryz.ntmps160
  go_wp2_with (go_at_call 141; refine (need_no _).mono ?_; rintro e w1 ⟨rfl, rfl⟩)
  exact ⟨rfl, rfl, rfl⟩

section
variable {B : Nat} {w0 w : World} {r : List Thing} {qb : Nat} {v : Value} {xs : List Nat} {p : Nat}

theorem number_ok (st : St B w0 w (rdvT qb v xs p :: r)) (n : Nat) (hn : n ≤ 32) (hp : p + n ≤ 8 * xs.length) :
    Calls Tryz.prog 138 #[.pointer (some ⟨qb, 0, none⟩), .int .i64 (n : Int)] w fun e w' => e = .returned (.int .i64 (num (bitsAt xs p n) : Int)) ∧ St B w0 w' (rdvT qb v xs (p + n) :: r) := by
  have hg := getv_st st n hn hp
  have hb : num (bitsAt xs p n) < 4294967296 := by
    have h1 := num_lt (bitsAt xs p n)
    rw [bitsAt_length] at h1
    exact Nat.lt_of_lt_of_le h1 (Nat.pow_le_pow_right (n := 2) (by omega) hn)
  generalize num (bitsAt xs p n) = x at hg hb ⊢
  go_enter Tryz.func138, Tryz.ntmps138
  go_wp2_with fail
  refine hg.mono ?_
  rintro e w1 ⟨rfl, s1⟩
  go_wp2_with (go_at_call 152; refine (throw32_ok _ _).mono ?_; rintro e w2 ⟨rfl, rfl⟩)
  go_ret
  exact ⟨rfl, s1⟩

theorem number_no (st : St B w0 w (rdvT qb v xs p :: r)) (n : Nat) (hn : n ≤ 32) (hp : 8 * xs.length < p + n) :
    Calls Tryz.prog 138 #[.pointer (some ⟨qb, 0, none⟩), .int .i64 (n : Int)] w fun e w' => e = .panicked oops ∧ St B w0 w' (rdvT qb v xs p :: r) := by
  have hg := getvform_st st n hn hp
  go_enter Tryz.func138, Tryz.ntmps138
  go_wp2_with fail
  refine hg.mono ?_
  rintro e w1 ⟨rfl, s1⟩
  go_wp2_with (go_at_call 152; refine (throw32_no _ 2 (by decide) _).mono ?_; rintro e w2 ⟨rfl, rfl⟩)
  exact ⟨rfl, rfl, s1⟩

end
end Hd
end Go.Proofs.YtpinfihmageeoaaGreat

namespace Go.Proofs.YtpinfihmageeoaaGreat
open Go.RowKit Kraft

namespace Low

set_option maxRecDepth 100000 in
theorem getv_any {B : Nat} {w0 w : World} {r : List Thing} {tb qb : Nat} {v : Value} {L xs : List Nat} {p : Nat} (st : St B w0 w (rdvT qb v xs p :: tblL tb L :: r)) (h20 : ∀ j, len L j ≤ 20) :
    Calls Tryz.prog 151 #[.pointer (some ⟨tb, 0, none⟩), .pointer (some ⟨qb, 0, none⟩), .func (.func 55) #[.pointer (some ⟨qb, 0, none⟩)] #[]] w
      fun e w' => e = .returned (.tuple #[.int .i64 (got L xs p).2.1, .int .i64 ((got L xs p).2.2 : Int)]) ∧ St B w0 w' (rdvT qb v xs (p + (got L xs p).1) :: tblL tb L :: r) := by
  have s1 : St B w0 (w.alloc (.cells #[.int .u32 0, .int .i64 0] 73)) (rowV w.heap.size 0 0 :: rdvT qb v xs p :: tblL tb L :: r) := st.newRowV 0 0
  obtain ⟨g, mb, h⟩ := st.swap.tbl
  obtain ⟨hc0, hc1, hf0, hf1⟩ := cell_two h.head
  clear hc0 hc1 hf0 hf1 h
  unfold got
  have hrd := st.rdv
  have hpl := hrd.place
  clear hrd
  generalize hR : seek (tab L L.length) 0 0 (rest (bitAt xs) (8 * xs.length) p) = R
  obtain ⟨Rk, Rs, Re⟩ := R
  go_enter Tryz.func151, Tryz.ntmps151
  go_wp2
  generalize (w.alloc (.cells #[.int .u32 0, .int .i64 0] 73)) = W1 at s1 ⊢
  obtain ⟨vb, hvb⟩ : ∃ vb, vb = w.heap.size := ⟨_, rfl⟩
  rw [← hvb] at s1
  simp only [← hvb]
  clear hvb
  go_loopw [] (fun wr => ∃ a n, n ≤ 20 ∧ a < 2 ^ n ∧ p + n ≤ 8 * xs.length ∧ (Rk, Rs, Re) = (n + (seek (tab L L.length) a n (rest (bitAt xs) (8 * xs.length) (p + n))).1, (seek (tab L L.length) a n (rest (bitAt xs) (8 * xs.length) (p + n))).2) ∧ St B w0 wr (rowV vb a n :: rdvT qb v xs (p + n) :: tblL tb L :: r)) (fun wr => match wr.cell? ⟨vb, 1, none⟩ with | some v => 21 - (intOf v).toNat | none => 0)
  case atStart => exact ⟨0, 0, by omega, by omega, by omega, by rw [← hR]; simp, s1⟩
  case round =>
    obtain ⟨a, n, hn, ha, hpn, hS, t1⟩ := hrel
    obtain ⟨g, mb, h⟩ := t1.third.tbl
    obtain ⟨hc0, hc1, hf0, hf1⟩ := cell_two h.head
    obtain ⟨vc0, vc1, vf0, vf1⟩ := cell_two t1.rowv
    have ha20 : a < 1048576 := Nat.lt_of_lt_of_le ha (Nat.pow_le_pow_right (n := 2) (by omega) hn)
    have hlook := h.drew.look a n (by omega) (by omega)
    have HA := Lib.hid ha
    clear ha
    rcases hT : tab L L.length a n with _ | s
    · rw [hT] at hlook
      rw [seek_none hT] at hS
      obtain ⟨rfl, e2⟩ := Prod.mk.inj hS
      obtain ⟨rfl, rfl⟩ := Prod.mk.inj e2
      simp only [Option.getD_none, Option.isSome_none] at hlook
      go_wp2
      go_region
      go_wp2
      go_ret2
      exact ⟨rfl, t1.drop.drew⟩
    · rw [hT] at hlook
      simp only [Option.getD_some, Option.isSome_some] at hlook
      by_cases hs : s = -1
      · subst hs
        have hn19 : n < 20 := by
          rcases tab_some _ a n _ hT with ⟨k, _, _, e, _⟩ | ⟨_, k, hk, hlt, _⟩
          · omega
          · have := h20 k; omega
        by_cases hend : p + n < 8 * xs.length
        · rw [rest_on _ _ _ hend, seek_on hT] at hS
          go_wp2
          go_region
          have t2 := t1.drew.swap
          generalize wr.drew = wz at t2 ⊢
          have hget := getv_st t2 1 (by omega) (by omega)
          rw [num_one] at hget
          have hb1 : (bitAt xs (p + n)).toNat ≤ 1 := by cases bitAt xs (p + n) <;> simp
          generalize bitAt xs (p + n) = bt at hget hS hb1
          go_wp2_with fail
          refine hget.mono ?_
          rintro e w2 ⟨rfl, t3⟩
          obtain ⟨vc0', vc1', vf0', vf1'⟩ := cell_two t3.swap.rowv
          have hlong := longer_any w2 a n bt (by omega) (by omega)
          unfold pairV at hlong
          go_wp2_with fail
          refine hlong.mono ?_
          rintro e w3 ⟨rfl, hbel⟩
          have t4 := t3.quiet hbel
          obtain ⟨xc0, xc1, xf0, xf1⟩ := cell_two t4.swap.rowv
          have t5 := t4.swap.setRowV (2 * a + bt.toNat) (n + 1)
          go_wp2
          have hv := (cell_two t5.rowv).2.1
          rw [show ((2 * a + bt.toNat : Nat) : Int) = 2 * (a : Int) + (bt.toNat : Int) from by omega, show ((n + 1 : Nat) : Int) = (n : Int) + 1 from by omega] at t5 hv
          refine ⟨⟨2 * a + bt.toNat, n + 1, by omega, ?_, by omega, ?_, t5⟩, ?_⟩
          · have := HA.out
            rw [Nat.pow_succ]
            omega
          · rw [hS, show p + (n + 1) = p + n + 1 from by omega]
            refine Prod.mk.injEq .. ▸ ⟨by omega, rfl⟩
          · rw [hv, vc1]
            show 21 - (intOf (.int .i64 ((n : Int) + 1))).toNat < 21 - (intOf (.int .i64 (n : Int))).toNat
            simp [intOf]
            omega
        · rw [rest_end _ _ _ (by omega), seek_end hT] at hS
          obtain ⟨rfl, e2⟩ := Prod.mk.inj hS
          obtain ⟨rfl, rfl⟩ := Prod.mk.inj e2
          go_wp2
          go_region
          have t2 := t1.drew.swap
          generalize wr.drew = wz at t2 ⊢
          have hget := getvform_st t2 1 (by omega) (by omega)
          go_wp2_with fail
          refine hget.mono ?_
          rintro e w2 ⟨rfl, t3⟩
          go_wp2
          go_ret2
          exact ⟨rfl, t3.swap.drop⟩
      · have hne : (s != -1) = true := by simpa using hs
        rw [seek_sym hT hs] at hS
        obtain ⟨rfl, e2⟩ := Prod.mk.inj hS
        obtain ⟨rfl, rfl⟩ := Prod.mk.inj e2
        go_wp2
        go_region
        go_wp2
        go_ret2
        exact ⟨rfl, t1.drop.drew⟩

theorem tgetv_st {B : Nat} {w0 w : World} {r : List Thing} {tb qb : Nat} {v : Value} {L xs : List Nat} {p : Nat} (st : St B w0 w (rdvT qb v xs p :: tblL tb L :: r)) (h20 : ∀ j, len L j ≤ 20) :
    Calls Tryz.prog 136 #[.pointer (some ⟨tb, 0, none⟩), .pointer (some ⟨qb, 0, none⟩)] w
      fun e w' => e = .returned (.tuple #[.int .i64 (got L xs p).2.1, .int .i64 ((got L xs p).2.2 : Int)]) ∧ St B w0 w' (rdvT qb v xs (p + (got L xs p).1) :: tblL tb L :: r) := by
  go_enter Tryz.func136, Tryz.ntmps136
  go_wp2_with fail
  refine (getv_any st h20).mono ?_
  rintro e w1 ⟨rfl, s1⟩
  go_wp2
  go_ret2
  exact ⟨rfl, s1⟩

end Low
end Go.Proofs.YtpinfihmageeoaaGreat

namespace Go.Proofs.YtpinfihmageeoaaGreat.Hd
open Go.RowKit Kraft

section
variable {B : Nat} {w0 w : World} {r : List Thing} {qb : Nat} {v : Value} {xs : List Nat} {p : Nat}

theorem _root_.Go.Proofs.YtpinfihmageeoaaGreat.St.litRow0 (st : St B w0 w r) (xs : List Nat) (hl : xs.length ≤ maxLen) :
    St B w0 (w.alloc (.cells (u8s xs).toArray 5)) (bytesT w.heap.size xs.length xs :: r) := by
  have h := World.ownsRow_lit (base := w.heap.size) (e := 5) (size := 1) w (u8s xs).toArray xs.length (Nat.le_refl _) hl (by simp [u8s])
  exact st.addRow (below_alloc w _) (by simpa using h)

theorem order_st (st : St B w0 w r) : Calls Tryz.prog 158 #[] w fun e w' => ∃ g, e = .returned (.slice (some ⟨g, 0, none⟩) 19 19) ∧ St B w0 w' (bytesT g 19 order :: r) := by
  have s1 := st.litRow0 order (by unfold maxLen; decide)
  go_enter Tryz.func158, Tryz.ntmps158
  go_wp2
  go_ret
  exact ⟨_, rfl, s1⟩

def WordsSt (B : Nat) (w0 : World) (r : List Thing) (qb : Nat) (v : Value) (xs : List Nat) (p : Nat) (e : Ending) (w' : World) : Prop :=
  ((p + 4 ≤ 8 * xs.length ∧ p + 4 + 3 * (nm (row xs) p 4 + 4) ≤ 8 * xs.length ∧ weight (lensTo (row xs) (p + 4) (nm (row xs) p 4 + 4)) = 1048576) ∧
    ∃ tb, e = .returned (.pointer (some ⟨tb, 0, none⟩)) ∧ St B w0 w' (rdvT qb v xs (p + 4 + 3 * (nm (row xs) p 4 + 4)) :: tblL tb (lensTo (row xs) (p + 4) (nm (row xs) p 4 + 4)) :: r)) ∨
  (¬(p + 4 ≤ 8 * xs.length ∧ p + 4 + 3 * (nm (row xs) p 4 + 4) ≤ 8 * xs.length ∧ weight (lensTo (row xs) (p + 4) (nm (row xs) p 4 + 4)) = 1048576) ∧
    e = .panicked oops ∧ ∃ p', St B w0 w' (rdvT qb v xs p' :: r))

theorem class_full' (n : Nat) : class_ n = 2 ↔ n = 1048576 := by
  unfold class_
  split
  · omega
  · split
    · omega
    · split <;> omega

theorem order_at (k : Nat) (hk : k < order.length) : order[k] = ord k := by
  unfold ord
  rw [getD_in _ _ hk]

set_option maxRecDepth 100000 in
set_option maxHeartbeats 1000000 in
theorem getWords_st (st : St B w0 w (rdvT qb v xs p :: r)) :
    Calls Tryz.prog 140 #[.pointer (some ⟨qb, 0, none⟩)] w (WordsSt B w0 r qb v xs p) := by
  obtain ⟨i0, hi, hz0, hz1, hz2⟩ := info_parts info8
  have hmk : i0.bytes * 19 ≤ 281474976710656 := by rw [hz2]; omega
  have hmx : 19 ≤ maxLen := by unfold maxLen; omega
  go_enter Tryz.func140, Tryz.ntmps140
  go_wp2_with (at_make; refine wpList_make_full _ rfl _ _ 26 rfl w.heap.size 5 i0 (.int .u8 0) 1 Tryz.underlying26 hi hz0 hz1 _ _ _ _ 19 rfl rfl rfl rfl hmk hmx (Nat.le_refl _) ?_)
  intro w1 hown hgrow
  have s1 := st.made hown hgrow
  clear hown hgrow hi hz0 hz1 hz2 hmk hmx st
  obtain ⟨g, hg⟩ : ∃ g, g = w.heap.size := ⟨_, rfl⟩
  rw [← hg] at s1
  try rw [← hg]
  clear hg
  have hyes : ∀ tb w', (p + 4 ≤ 8 * xs.length ∧ p + 4 + 3 * (nm (row xs) p 4 + 4) ≤ 8 * xs.length ∧ weight (lensTo (row xs) (p + 4) (nm (row xs) p 4 + 4)) = 1048576) →
      St B w0 w' (rdvT qb v xs (p + 4 + 3 * (nm (row xs) p 4 + 4)) :: tblL tb (lensTo (row xs) (p + 4) (nm (row xs) p 4 + 4)) :: r) → WordsSt B w0 r qb v xs p (.returned (.pointer (some ⟨tb, 0, none⟩))) w' := fun tb w' h s => .inl ⟨h, tb, rfl, s⟩
  have hno : ∀ p' w', ¬(p + 4 ≤ 8 * xs.length ∧ p + 4 + 3 * (nm (row xs) p 4 + 4) ≤ 8 * xs.length ∧ weight (lensTo (row xs) (p + 4) (nm (row xs) p 4 + 4)) = 1048576) →
      St B w0 w' (rdvT qb v xs p' :: r) → WordsSt B w0 r qb v xs p (.panicked oops) w' := fun p' w' h s => .inr ⟨h, rfl, p', s⟩
  have hnr := fun (p n : Nat) (h : p + n ≤ 8 * xs.length) => nm_row xs p n h
  obtain ⟨R, hR⟩ : ∃ R, row xs = R := ⟨_, rfl⟩
  rw [hR] at hnr hyes hno
  clear hR
  go_wp2_with fail
  refine (order_st s1).mono ?_
  rintro e w2 ⟨o, rfl, s2⟩
  clear s1
  have s3 := s2.front 2
  change St B w0 w2 (rdvT qb v xs p :: bytesT o 19 order :: bytesT g 19 (List.replicate 19 0) :: r) at s3
  clear s2
  by_cases hp4 : p + 4 ≤ 8 * xs.length
  · have hnum := number_ok s3 4 (by omega) hp4
    rw [← hnr p 4 hp4] at hnum
    have hz16 := nm_lt R p 4
    obtain ⟨n, hn⟩ : ∃ n, nm R p 4 = n := ⟨_, rfl⟩
    rw [hn] at hz16 hnum hyes hno
    clear hn
    have HY := Lib.hid hyes
    have HN := Lib.hid hno
    clear hyes hno
    go_wp2_with fail
    refine hnum.mono ?_
    rintro e w3 ⟨rfl, s4⟩
    clear s3
    go_wp2
    go_loopw [5, 13] (fun _ i wr => ∃ k : Nat, k ≤ n + 4 ∧ i = .int .i64 (k : Int) ∧ p + 4 + 3 * k ≤ 8 * xs.length ∧ St B w0 wr (rdvT qb v xs (p + 4 + 3 * k) :: bytesT o 19 order :: bytesT g 19 (lensTo R (p + 4) k) :: r)) (fun _ i _ => n + 4 - (intOf i).toNat)
    case atStart => exact ⟨0, by omega, rfl, by omega, s4⟩
    case round =>
      clear s4
      obtain ⟨k, hk, rfl, hpk, s5⟩ := hrel
      by_cases hlt : k < n + 4
      · obtain ⟨c0, c1⟩ := s5.swap.rowCell k rfl (by omega)
        rw [order_at] at c0
        have ho := ord_lt k
        obtain ⟨j, hj⟩ : ∃ j, ord k = j := ⟨_, rfl⟩
        rw [hj] at c0 ho
        by_cases hp7 : p + 4 + 3 * k + 3 ≤ 8 * xs.length
        · have hnum := number_ok s5 3 (by omega) hp7
          rw [← hnr _ 3 hp7] at hnum
          have h8 := nm_lt R (p + 4 + 3 * k) 3
          have hset : lensTo R (p + 4) (k + 1) = (lensTo R (p + 4) k).set j (nm R (p + 4 + 3 * k) 3) := by rw [lensTo, hj]
          have hlen := lensTo_length R (p + 4) k
          generalize nm R (p + 4 + 3 * k) 3 = x at hnum h8 hset
          go_wp2_with fail
          refine hnum.mono ?_
          rintro e w4 ⟨rfl, s6⟩
          have s7 := s6.front 2
          change St B w0 w4 (bytesT g 19 (lensTo R (p + 4) k) :: rdvT qb v xs (p + 4 + 3 * k + 3) :: bytesT o 19 order :: r) at s7
          obtain ⟨f0, f1⟩ := s7.rowCell j hlen (by omega)
          have s8 := s7.put j x
          rw [← hset] at s8
          generalize (lensTo R (p + 4) k)[j]'(by omega) = y0 at f0
          clear s5 s6 s7 hset hlen hj hnum
          go_wp2
          go_roundw
          case rel =>
            refine ⟨k + 1, by omega, by go_num, by omega, ?_⟩
            rw [show p + 4 + 3 * (k + 1) = p + 4 + 3 * k + 3 from by omega]
            exact s8.front 1 |>.front 2 |>.front 1
          case measure => simp [intOf]; omega
        · have hnum := number_no s5 3 (by omega) (by omega)
          go_wp2_with fail
          refine hnum.mono ?_
          rintro e w4 ⟨rfl, s6⟩
          go_wp2
          exact ⟨rfl, HN.out _ _ (fun h => by omega) (s6.swap.drop.swap.drop)⟩
      · obtain rfl : k = n + 4 := by omega
        obtain ⟨L, hL⟩ : ∃ L, lensTo R (p + 4) (n + 4) = L := ⟨_, rfl⟩
        have h8 : ∀ x ∈ L, x < 8 := by rw [← hL]; exact lensTo_small R (p + 4) (n + 4)
        have h19 : L.length = 19 := by rw [← hL]; exact lensTo_length R (p + 4) (n + 4)
        have hmay : may L = true := by
          rw [may_iff]
          exact ⟨by omega, fun x hx => by have := h8 x hx; omega⟩
        rw [hL] at s5 HY HN
        clear hL
        have s6 := s5.front 2
        change St B w0 wr (bytesT g 19 L :: rdvT qb v xs (p + 4 + 3 * (n + 4)) :: bytesT o 19 order :: r) at s6
        have s6' : St B w0 wr (rowT 5 1 (.slice (some ⟨g, 0, none⟩) 19 19) L.length (u8s L) :: rdvT qb v xs (p + 4 + 3 * (n + 4)) :: bytesT o 19 order :: r) := by rw [h19]; exact s6
        have hrow := s6'.bytesRow (fun x hx => by have := h8 x hx; omega)
        have hcl := classify_any wr _ L hrow (by omega)
        have hnew := tnew_st s6 _ L hrow (by omega)
        unfold classAns at hcl
        rw [hmay] at hcl
        simp only [if_true] at hcl
        have hcf := class_full' (weight L)
        have HHM := Lib.hid hmay
        clear s5 s6' hrow h8 h19 hmay
        by_cases hw : weight L = 1048576
        · have he : wordsErr L = 0 := by
            unfold wordsErr
            rw [HHM.out, hw]
            rfl
          rw [hcf.2 hw] at hcl
          have HW := Lib.hid hw
          clear hw hcf
          go_wp2_with (first | (go_at_call 42; refine hcl.mono ?_; rintro e w4 ⟨rfl, rfl⟩) | (go_at_call 159; refine (throwK_ok _ _).mono ?_; rintro e w4 ⟨rfl, rfl⟩) | (go_at_call 141; refine (need_yes _).mono ?_; rintro e w4 ⟨rfl, rfl⟩))
          refine hnew.mono ?_
          rintro e w4 (⟨h1, _⟩ | ⟨_, tb, rfl, s7⟩)
          · exact absurd he h1
          clear hnew
          go_wp2_with (go_at_call 160; refine (throwT_ok _ _).mono ?_; rintro e w5 ⟨rfl, rfl⟩)
          go_ret
          refine HY.out _ _ ⟨hp4, hpk, HW.out⟩ ?_
          exact (s7.front 3).drop.front 1 |>.drop |>.swap
        · have hc : class_ (weight L) ≠ 2 := fun h => hw (hcf.1 h)
          have hno := HN.out _ _ (fun h => hw h.2.2) ((s6.front 2).drop.drop)
          generalize class_ (weight L) = c at *
          have hb : ((c : Int) == 2) = false := by rw [beq_eq_false_iff_ne]; omega
          clear hcf hnew HY HN
          go_wp2_with (first | (go_at_call 42; refine hcl.mono ?_; rintro e w4 ⟨rfl, rfl⟩) | (go_at_call 159; refine (throwK_ok _ _).mono ?_; rintro e w4 ⟨rfl, rfl⟩) | (go_at_call 141; refine (need_no _).mono ?_; rintro e w4 ⟨rfl, rfl⟩))
          exact ⟨rfl, hno⟩
  · have hnum := number_no s3 4 (by omega) (by omega)
    have HN := Lib.hid hno
    clear hyes hno
    go_wp2_with fail
    refine hnum.mono ?_
    rintro e w3 ⟨rfl, s4⟩
    go_wp2
    exact ⟨rfl, HN.out _ _ (fun h => hp4 h.1) (s4.swap.drop.swap.drop)⟩

end
end Go.Proofs.YtpinfihmageeoaaGreat.Hd

namespace Go.Proofs.YtpinfihmageeoaaGreat.Hd
open Go.RowKit Kraft

theorem times_le (s : Nat × Nat) (h : s.2 < 2 ^ Rep.bitsOf' s.1) : Rep.times s ≤ 138 := by
  obtain ⟨c, x⟩ := s
  unfold Rep.times Rep.least Rep.bitsOf' at *
  simp only at *
  split
  · rename_i h1
    rcases h1 with rfl | rfl
    · simp at h; omega
    · simp at h; omega
  · split
    · rename_i h1 h2
      subst h2
      simp at h
      omega
    · rename_i h1 h2
      rw [if_neg (by omega), if_neg (by omega), if_neg (by omega)] at h
      omega

set_option maxRecDepth 100000 in
theorem htimes_any (w : World) (c x : Nat) (hc : c < 256) (hx : x < 2 ^ Rep.bitsOf' c) : Calls Tryz.prog 155 #[Rep.signV c x] w fun e w' => e = .returned (.int .i64 (Rep.times (c, x) : Int)) ∧ Below w.heap.size w w' := by
  have ha := below_alloc w (.cells #[.int .u8 (c : Int), .int .u8 (x : Int)] 202)
  have hx2 : x < 128 := Nat.lt_of_lt_of_le hx (by
    have : Rep.bitsOf' c ≤ 7 := by unfold Rep.bitsOf'; split <;> (try split) <;> (try split) <;> omega
    exact Nat.pow_le_pow_right (n := 2) (by omega) this)
  unfold Rep.times Rep.least
  unfold Rep.bitsOf' at hx
  simp only
  by_cases h1 : c = 16
  · subst h1
    rw [if_pos (by omega)]
    clear hx
    go_enter Tryz.func155, Tryz.ntmps155
    go_wp2
    go_ret
    exact ⟨by go_num, ha⟩
  · by_cases h2 : c = 17
    · subst h2
      rw [if_pos (by omega)]
      clear hx
      go_enter Tryz.func155, Tryz.ntmps155
      go_wp2
      go_ret
      exact ⟨by go_num, ha⟩
    · by_cases h3 : c = 18
      · subst h3
        rw [if_neg (by omega), if_pos rfl]
        clear hx
        go_enter Tryz.func155, Tryz.ntmps155
        go_wp2
        go_ret
        exact ⟨by go_num, ha⟩
      · rw [if_neg (by omega), if_neg h3]
        rw [if_neg h1, if_neg h2, if_neg h3] at hx
        obtain rfl : x = 0 := by omega
        have b1 : ((c : Int) == 16) = false := by rw [beq_eq_false_iff_ne]; omega
        have b2 : ((c : Int) == 17) = false := by rw [beq_eq_false_iff_ne]; omega
        have b3 : ((c : Int) == 18) = false := by rw [beq_eq_false_iff_ne]; omega
        clear hx h1 h2 h3
        go_enter Tryz.func155, Tryz.ntmps155
        go_wp2
        go_ret
        exact ⟨rfl, ha⟩

section
variable {B : Nat} {w0 w : World} {r : List Thing} {qb tb : Nat} {v : Value} {xs : List Nat} {p : Nat} {L : List Nat}

def LengthsSt' (B : Nat) (w0 : World) (r : List Thing) (qb : Nat) (v : Value) (xs L : List Nat) (N p : Nat) (e : Ending) (w' : World) : Prop :=
  match (signsFrom L (row xs) N p).bind fun x => (Rep.say [] x.1).bind fun out => if out.length = N then some (out, x.2) else none with
  | none => e = .panicked oops ∧ ∃ p', St B w0 w' (rdvT qb v xs p' :: r)
  | some (out, q) => ∃ u, e = .returned u ∧ (∀ x ∈ out, x < 256) ∧ St B w0 w' (rowT 5 1 u out.length (u8s out) :: rdvT qb v xs q :: r)

theorem one_got {L xs : List Nat} {p : Nat} :
    oneSign L (row xs) p = if (Low.got L xs p).2.2 ≠ 0 then none else if 8 * xs.length < p + (Low.got L xs p).1 + Rep.bitsOf' (Low.got L xs p).2.1.toNat then none else
      some (((Low.got L xs p).2.1.toNat, nm (row xs) (p + (Low.got L xs p).1) (Rep.bitsOf' (Low.got L xs p).2.1.toNat)), p + (Low.got L xs p).1 + Rep.bitsOf' (Low.got L xs p).2.1.toNat) := by
  unfold oneSign Low.got
  rw [drop_rest, row_length]
  rfl

theorem got_code {L xs : List Nat} {p : Nat} (h : (Low.got L xs p).2.2 = 0) : ∃ k, k < L.length ∧ (Low.got L xs p).2.1 = (k : Int) := by
  obtain ⟨k, h1, _, h3⟩ := seek_in (L := L) (tab L L.length) (tab_in L) _ _ _ h
  exact ⟨k, h1, h3⟩

theorem say_lt : ∀ (l : List (Nat × Nat)) (out o : List Nat), (∀ s ∈ l, s.1 < 256) → (∀ x ∈ out, x < 256) → Rep.say out l = some o → ∀ x ∈ o, x < 256
  | [], out, o, _, ho, h => by
    obtain rfl := Option.some.inj h
    exact ho
  | s :: l, out, o, hl, ho, h => by
    unfold Rep.say at h
    split at h
    · cases h
    · refine say_lt l _ o (fun s' hs' => hl s' (List.mem_cons_of_mem _ hs')) ?_ h
      intro x hx
      rcases List.mem_append.1 hx with h1 | h1
      · exact ho x h1
      · rw [List.eq_of_mem_replicate h1]
        exact Rep.lengthOf_lt s (hl s List.mem_cons_self) out ho

theorem timesAll_snoc (l : List (Nat × Nat)) (s : Nat × Nat) : timesAll (l ++ [s]) = timesAll l + Rep.times s := by simp [timesAll]

theorem length_timesAll (l : List (Nat × Nat)) : l.length ≤ timesAll l := by
  induction l with
  | nil => simp [timesAll]
  | cons s r ih =>
    have := Rep.times_pos s
    have e : timesAll (s :: r) = Rep.times s + timesAll r := by simp [timesAll]
    rw [e, List.length_cons]
    omega

def Reading (L : List Nat) (R : List Bool) (N : Nat) (O : Option (List (Nat × Nat) × Nat)) (acc : List (Nat × Nat)) (p : Nat) : Prop :=
  O = (signsFrom L R (N - timesAll acc) p).map fun x => (acc ++ x.1, x.2)

set_option maxRecDepth 100000 in
set_option maxHeartbeats 4000000 in
theorem getLengths_st (st : St B w0 w (rdvT qb v xs p :: tblL tb L :: r)) (h19 : L.length = 19) (h20 : ∀ j, len L j ≤ 20) (N : Nat) (hN : N ≤ 1000) (hp : p ≤ 8 * xs.length) :
    Calls Tryz.prog 139 #[.pointer (some ⟨qb, 0, none⟩), .pointer (some ⟨tb, 0, none⟩), .int .i64 (N : Int)] w (LengthsSt' B w0 r qb v xs L N p) := by
  obtain ⟨O, hO⟩ : ∃ O, signsFrom L (row xs) N p = O := ⟨_, rfl⟩
  have hnone : ∀ p' w', (O.bind fun x => (Rep.say [] x.1).bind fun out => if out.length = N then some (out, x.2) else none) = none → St B w0 w' (rdvT qb v xs p' :: r) → LengthsSt' B w0 r qb v xs L N p (.panicked oops) w' := by
    intro p' w' h s
    unfold LengthsSt'
    rw [hO, h]
    exact ⟨rfl, p', s⟩
  have hsome : ∀ u out q w', (O.bind fun x => (Rep.say [] x.1).bind fun out => if out.length = N then some (out, x.2) else none) = some (out, q) → (∀ x ∈ out, x < 256) → St B w0 w' (rowT 5 1 u out.length (u8s out) :: rdvT qb v xs q :: r) → LengthsSt' B w0 r qb v xs L N p (.returned u) w' := by
    intro u out q w' h hb s
    unfold LengthsSt'
    rw [hO, h]
    exact ⟨u, rfl, hb, s⟩
  have hread : Reading L (row xs) N O [] p := by
    unfold Reading
    rw [← hO]
    simp [timesAll]
  have HNO := Lib.hid hnone
  have HSO := Lib.hid hsome
  have H20 := Lib.hid h20
  have H19 := Lib.hid h19
  clear hnone hsome hO h19 h20
  have s0 := (st.addNil (e := 202) (size := 2))
  clear st
  go_enter Tryz.func139, Tryz.ntmps139
  go_wp2
  go_loopw [7, 8, 9, 10] (fun sv sd _ _ wr => ∃ acc p', sd = .int .i64 (timesAll acc : Int) ∧ Hid (Rep.Small acc) ∧ Hid (acc.all Rep.fits = true) ∧ timesAll acc ≤ N + 138 ∧ p' ≤ 8 * xs.length ∧ Hid (Reading L (row xs) N O acc p') ∧ St B w0 wr (Rep.signT 202 sv acc :: rdvT qb v xs p' :: tblL tb L :: r)) (fun _ sd _ _ _ => N + 138 - (intOf sd).toNat)
  case atStart => exact ⟨[], p, rfl, Lib.hid (fun _ h => by cases h), Lib.hid rfl, by simp [timesAll], hp, Lib.hid hread, s0⟩
  case round =>
    clear s0 hread
    obtain ⟨acc, p', rfl, hsm, hft, hta, hp', hrd, s1⟩ := hrel
    have hla := length_timesAll acc
    obtain ⟨T, hT⟩ : ∃ T, timesAll acc = T := ⟨_, rfl⟩
    rw [hT] at hta hla
    have HT := Lib.hid hT
    rw [hT]
    clear hT
    by_cases hlt : T < N
    · have s2 := s1.front 1 |>.front 2 |>.front 1
      change St B w0 wr (rdvT qb v xs p' :: tblL tb L :: Rep.signT 202 u7 acc :: r) at s2
      clear s1
      have hget := Low.tgetv_st s2 H20.out
      have hone := one_got (L := L) (xs := xs) (p := p')
      have hcode := got_code (L := L) (xs := xs) (p := p')
      rw [H19.out] at hcode
      generalize Low.got L xs p' = G at hget hone hcode
      obtain ⟨k, s, er⟩ := G
      simp only at hget hone hcode
      by_cases her : er = 0
      · subst her
        obtain ⟨c, hc, rfl⟩ := hcode rfl
        simp only [ne_eq, not_true, if_false, Int.toNat_natCast] at hone
        have hbits := fun W => Rep.bits_any W c (by omega)
        have hb7 : Rep.bitsOf' c ≤ 7 := by unfold Rep.bitsOf'; split <;> (try split) <;> (try split) <;> omega
        obtain ⟨b, hb⟩ : ∃ b, Rep.bitsOf' c = b := ⟨_, rfl⟩
        rw [hb] at hone hbits hb7
        have HB := Lib.hid hb
        clear hb
        go_wp2_with fail
        refine hget.mono ?_
        rintro e w1 ⟨rfl, s3⟩
        clear hget s2
        by_cases hroom : p' + k + b ≤ 8 * xs.length
        · rw [if_neg (by omega)] at hone
          obtain ⟨q, hq⟩ : ∃ q, q = p' + k + b := ⟨_, rfl⟩
          have hnum := number_ok s3 b (by omega) hroom
          rw [← nm_row xs (p' + k) b hroom] at hnum
          have hx := nm_lt (row xs) (p' + k) b
          have hx7 : nm (row xs) (p' + k) b < 128 := Nat.lt_of_lt_of_le hx (Nat.pow_le_pow_right (n := 2) (by omega) hb7)
          generalize nm (row xs) (p' + k) b = x at hone hnum hx hx7
          rw [← hq] at hone hnum hroom
          have hfit : Rep.fits (c, x) = true := by
            unfold Rep.fits
            rw [Bool.and_eq_true, decide_eq_true_eq, decide_eq_true_eq, HB.out]
            exact ⟨by omega, hx⟩
          have hrd2 : Reading L (row xs) N O (acc ++ [(c, x)]) q := by
            have := hrd.out
            unfold Reading at this ⊢
            rw [this, HT.out, signs_on (by omega) hone, Option.map_map, timesAll_snoc, HT.out, show N - (T + Rep.times (c, x)) = N - T - Rep.times (c, x) from by omega]
            congr 1
            funext y
            simp
          have hsm2 : Rep.Small (acc ++ [(c, x)]) := fun s hs => by
            rcases List.mem_append.1 hs with h | h
            · exact hsm.out s h
            · rw [List.mem_singleton.1 h]; exact ⟨by omega, by omega⟩
          have hft2 : (acc ++ [(c, x)]).all Rep.fits = true := by rw [List.all_append, hft.out]; simp [hfit]
          have htm := times_le (c, x) (by rw [HB.out]; exact hx)
          have htimes := fun W => htimes_any W c x (by omega) (by rw [HB.out]; exact hx)
          have hT2 := timesAll_snoc acc (c, x)
          rw [HT.out] at hT2
          have HRD := Lib.hid hrd2
          have HSM := Lib.hid hsm2
          have HFT := Lib.hid hft2
          have HT2 := Lib.hid hT2
          obtain ⟨tm, htm'⟩ : ∃ tm, Rep.times (c, x) = tm := ⟨_, rfl⟩
          rw [htm'] at htm htimes HT2
          have h1tm : 1 ≤ tm := by rw [← htm']; exact Rep.times_pos _
          clear hrd2 hsm2 hft2 hT2 htm' hfit hone hx hrd hft hsm hcode HB
          obtain ⟨i1, hi, hz0, hz1, hz2⟩ := info_parts Rep.infoSign
          go_wp2_with (first | (go_at_call 153; refine (throwI_ok _ _).mono ?_; rintro e w2 ⟨rfl, rfl⟩) | (go_at_call 154; refine (hbits _).mono ?_; rintro e w2 ⟨rfl, rfl⟩))
          refine hnum.mono ?_
          rintro e w2 ⟨rfl, s4⟩
          have s5 : St B w0 (w2.alloc (.cells #[.int .u8 (c : Int), .int .u8 (x : Int)] 202)) (Rep.signT 202 u7 acc :: boxT w2.heap.size #[.int .u8 (c : Int), .int .u8 (x : Int)] 202 :: rdvT qb v xs q :: tblL tb L :: r) := (s4.newBox #[.int .u8 (c : Int), .int .u8 (x : Int)] 202).front 3
          clear s4 s3 hnum
          go_wp2_with (at_builtin; refine wpList_append_one rfl _ _ 199 rfl 202 i1 (.agg #[.int .u8 0, .int .u8 0]) 2 2 Tryz.underlying199 hi hz0 hz1 hz2 rfl (by decide) s5 rfl [.int .u8 (c : Int), .int .u8 (x : Int)] ?hxx rfl (by simp [Value.oneCell']) (by unfold maxLen; omega) (by omega) ?_)
          case hxx =>
            show Value.slice (some ⟨w2.heap.size + 1, 0, none⟩) 1 1 = _
            simp
          intro v' w8 t8
          rw [show Rep.sgn acc ++ [.int .u8 (c : Int), .int .u8 (x : Int)] = Rep.sgn (acc ++ [(c, x)]) from by rw [Rep.sgn_append]; rfl, show acc.length + 1 = (acc ++ [(c, x)]).length from by simp] at t8
          generalize acc ++ [(c, x)] = acc2 at *
          obtain ⟨x0, f0⟩ := t8.swap.boxAt 0
          obtain ⟨x1, f1⟩ := t8.swap.boxAt 1
          have t9 := t8.swap.drop
          clear t8 s5 hi hz0 hz1 hz2
          go_wp2_with (go_at_call 155; refine (htimes _).mono ?_; rintro e w9 ⟨rfl, hb9⟩)
          rw [← hq] at t9
          have hT2 := HT2.out
          refine ⟨⟨acc2, q, by rw [hT2]; simp, HSM, HFT, by omega, hroom, HRD, t9.quiet hb9⟩, ?_⟩
          simp [intOf]
          omega
        · rw [if_pos (by omega)] at hone
          have hO : O = none := by
            have := hrd.out
            unfold Reading at this
            rw [this, HT.out, signs_none (by omega) hone]
            rfl
          have hnum := number_no s3 b (by omega) (by omega)
          have HO := Lib.hid hO
          clear hO hone hrd
          go_wp2_with (first | (go_at_call 153; refine (throwI_ok _ _).mono ?_; rintro e w2 ⟨rfl, rfl⟩) | (go_at_call 154; refine (hbits _).mono ?_; rintro e w2 ⟨rfl, rfl⟩) | (go_at_call 138; refine hnum.mono ?_; rintro e w2 ⟨rfl, s4⟩))
          exact ⟨rfl, HNO.out _ _ (by rw [HO.out]; rfl) ((s4.front 1).drop.front 1).drop⟩
      · have hO : O = none := by
          have := hrd.out
          unfold Reading at this
          rw [this, HT.out, signs_none (by omega) (by rw [hone]; simp [her])]
          rfl
        have HO := Lib.hid hO
        have hne : (er : Int) ≠ 0 := by omega
        have HE := Lib.hid hne
        clear hO hone hrd hcode hne her
        go_wp2_with (first | (go_at_call 136; refine hget.mono ?_; rintro e w1 ⟨rfl, s3⟩) | (go_at_call 153; refine (throwI_no _ _ HE.out _).mono ?_; rintro e w2 ⟨rfl, rfl⟩))
        exact ⟨rfl, HNO.out _ _ (by rw [HO.out]; rfl) ((s3.front 1).drop.front 1).drop⟩
    · have hO : O = some (acc, p') := by
        have := hrd.out
        unfold Reading at this
        rw [this, HT.out, show N - T = 0 from by omega, signs_end]
        simp
      have hrow : ∀ W, St B w0 W (Rep.signT 202 u7 acc :: rdvT qb v xs p' :: tblL tb L :: r) → Rep.SignRow W u7 acc := fun W s => St.signs s hsm.out
      have hun := Rep.unpack_st s1 u7 acc hrow (by omega) (N : Int) (by omega) (by omega)
      have hE : ∀ out, Rep.say [] acc = some out → Rep.unErr acc (N : Int) = (if out.length = N then 0 else 2) ∧ (out.length = N → Rep.unAns acc (N : Int) = out) := by
        intro out h
        obtain ⟨e1, e2⟩ := Rep.unErr_end hft.out (N : Int) out h
        by_cases hl : out.length = N
        · rw [if_pos (by omega)] at e1 e2
          rw [if_pos hl]
          exact ⟨e1, fun _ => e2⟩
        · rw [if_neg (by omega)] at e1
          rw [if_neg hl]
          exact ⟨e1, fun h => absurd h hl⟩
      have hE0 : Rep.say [] acc = none → Rep.unErr acc (N : Int) = 2 := by
        intro h
        unfold Rep.unErr
        rw [if_neg (by rw [hft.out]; decide), h]
      have HO := Lib.hid hO
      have HE := Lib.hid hE
      have HE0 := Lib.hid hE0
      have HSM := hsm
      clear hO hE hE0 hrd hft hsm hrow s1
      unfold Rep.UnpackSt at hun
      generalize hsay : Rep.say [] acc = y at *
      have HS := Lib.hid hsay
      clear hsay
      have hbad : Rep.unErr acc (N : Int) = 2 → (y.bind fun out => if out.length = N then some (out, p') else none) = none →
          ∀ w1, St B w0 w1 (rdvT qb v xs p' :: tblL tb L :: r) → LengthsSt' B w0 r qb v xs L N p (.panicked oops) w1 := fun _ h w1 s => HNO.out p' w1 (by rw [HO.out]; show ((Rep.say [] acc).bind _) = none; rw [HS.out]; exact h) s.swap.drop
      have HBAD := Lib.hid hbad
      clear hbad
      cases y with
      | none =>
        have h2 := HE0.out rfl
        rw [h2] at hun
        go_wp2_with fail
        refine hun.mono ?_
        rintro e w1 ⟨u, rfl, s2⟩
        go_wp2_with (go_at_call 156; refine (throwB_no _ 2 (by decide) _).mono ?_; rintro e w2 ⟨rfl, rfl⟩)
        exact ⟨rfl, HBAD.out h2 rfl _ (s2.drop.drop)⟩
      | some out =>
        obtain ⟨e1, e2⟩ := HE.out out rfl
        by_cases hl : out.length = N
        · rw [if_pos hl] at e1
          rw [e1, e2 hl] at hun
          have HL := Lib.hid hl
          clear hl e1 e2 HE HE0
          go_wp2_with fail
          refine hun.mono ?_
          rintro e w1 ⟨u, rfl, s2⟩
          go_wp2_with (go_at_call 156; refine (throwB_ok _ _).mono ?_; rintro e w2 ⟨rfl, rfl⟩)
          go_ret
          refine HSO.out _ out p' _ ?_ (say_lt acc [] out (fun s hs => (HSM.out s hs).1) (by simp) HS.out) ((s2.front 1).drop.front 2).drop
          rw [HO.out]
          show ((Rep.say [] acc).bind _) = _
          rw [HS.out]
          show (if out.length = N then some (out, p') else none) = _
          rw [if_pos HL.out]
        · rw [if_neg hl] at e1
          rw [e1] at hun
          have HL := Lib.hid hl
          clear hl e2 HE HE0
          go_wp2_with fail
          refine hun.mono ?_
          rintro e w1 ⟨u, rfl, s2⟩
          go_wp2_with (go_at_call 156; refine (throwB_no _ 2 (by decide) _).mono ?_; rintro e w2 ⟨rfl, rfl⟩)
          refine ⟨rfl, HBAD.out e1 ?_ _ (s2.drop.drop)⟩
          show (if out.length = N then some (out, p') else none) = none
          rw [if_neg HL.out]

end
end Go.Proofs.YtpinfihmageeoaaGreat.Hd
