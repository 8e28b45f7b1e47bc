/-
  Contracts of package repeat: the signs of a run. No conditions but those of the call.
-/
import Derived.Test.YthmkkbaenccgiaaRepA
import Derived.Lib.Hide
import Derived.Test.YthmkkbaenccgiaaRepN
import Derived.Test.YthmkkbaenccgiaaHeld
import Derived.Test.YthmkkbaenccgiaaBox
namespace Go.Proofs.Ythmkkbaenccgiaa.Rep
open Go.RowKit

/-- 'append(s, t...)', both of the call's own, of elements of some cells each. -/
theorem wpList_append_rowN {P : Program} {ops : Array Oper} {rest : List Oper} {o : Oper} {a : Act} {Q : Exit → Act → World → Prop} (hgd : o.guard = none) (s x : Operand) (t : TypeId)
    (ho : o.op = .call { callee := .builtin .append, args := #[s, x], argTypes := #[t, t] })
    (e : TypeId) (i : TypeInfo) (z : Value) (size bytes : Nat) (ht : P.underlying t = some (.slice e)) (hi : P.info? e = some i) (hz : i.zero = some z)
    (hsize : i.size = size) (hby : i.bytes = bytes) (hzs : z.cells.size = size) (hpos : 0 < size)
    {B : Nat} {w0 w : World} {v : Value} {n : Nat} {xs : List Value} {ad : Option Addr} {m c : Nat} {ys : List Value} {r : List Thing}
    (st : St B w0 w (rowT e size v n xs :: rowT e size (.slice ad m c) m ys :: r)) (hs : a.eval s = v) (hx : a.eval x = .slice ad m c) (h1 : ∀ u ∈ ys, u.oneCell' = true)
    (h63 : n + m ≤ maxLen) (hbytes : (n + m) * bytes ≤ 140737488355328)
    (h : ∀ v' w', St B w0 w' (rowT e size v' (n + m) (xs ++ ys) :: rowT e size (.slice ad m c) m ys :: r) → wpList P ops Q rest (a.put o.dst v') w') : wpList P ops Q (o :: rest) a w := by
  have hy := st.swap.row
  refine wpList_append_mine _ hgd s x t ho e i z size bytes ht hi hz hsize hby hzs hpos v n xs hs st.row ad m c ys hx ?_ hy.1 ?_ h1 h63 hbytes ?_
  · intro e1
    subst e1
    rcases hy.2 with ⟨e2, e3⟩ | ⟨g, cap, cur, e2, _⟩
    · have := Value.slice.inj e2; exact ⟨e3, this.2.2⟩
    · cases e2
  · intro b hb j u hu
    subst hb
    rcases hy.2 with ⟨e2, e3⟩ | ⟨g, cap, cur, e2, _⟩
    · cases e2
    · have e4 : b = ⟨g, 0, none⟩ := Option.some.inj (Value.slice.inj e2).1
      rw [e4]
      exact hy.cells (g := g) (by rw [e4]; rfl) j u hu
  · intro v' w' g1 g2 g3
    exact h v' w' (st.grown g1 g2 g3)

/-- What the closure leaves. -/
def LeftSt (B : Nat) (w0 : World) (r : List Thing) (nb lb lo n : Nat) (L : List (Nat × Nat)) (R : Nat → List (Nat × Nat)) (e : Ending) (w' : World) : Prop :=
  e = .returned (.tuple #[]) ∧ ∃ (m : Nat) (v' : Value) (L' : List (Nat × Nat)), m < lo ∧ m ≤ n ∧ L' ++ R m = L ++ R n ∧ Small L' ∧ L'.length + m ≤ L.length + n ∧
    St B w0 w' (boxT nb #[.int .i64 (m : Int)] 3 :: boxT lb #[v'] 23 :: signT 31 v' L' :: r)

set_option maxRecDepth 100000 in
set_option maxHeartbeats 2000000 in
/-- The closure that lays repetitions of a code as long as there is enough for one. -/
theorem repeat_st {B : Nat} {w0 w : World} {r : List Thing} (nb lb c n : Nat) (v : Value) (L : List (Nat × Nat)) (hc : c < 19) (hn : n ≤ 1000000) (hL : L.length ≤ 1000000) (hs : Small L) (R : Nat → List (Nat × Nat))
    (hR : ∀ m, m ≤ n → least c ≤ m → R m = (c, min m (most c) - least c) :: R (m - min m (most c)))
    (st : St B w0 w (boxT nb #[.int .i64 (n : Int)] 3 :: boxT lb #[v] 23 :: signT 31 v L :: r)) :
    Calls Try.prog 27 #[.int .u8 (c : Int), .pointer (some ⟨nb, 0, none⟩), .pointer (some ⟨lb, 0, none⟩)] w (LeftSt B w0 r nb lb (least c) n L R) := by
  have hl := least_le c
  have hm := most_le c
  have hq1 := fun W => least_q W c (by omega)
  have hq2 : ∀ W, Calls Try.prog 29 #[.int .u8 (c : Int)] W fun e w' => e = .returned (.int .i64 (most c : Int)) ∧ w' = W := fun W => (most_any W c (by omega)).mono fun _ _ h => ⟨h.1, h.2.symm⟩
  have HR := Lib.hid hR
  clear hR
  generalize least c = lo at *
  generalize most c = hi at *
  go_enter Try.func27, Try.ntmps27
  go_wp2
  go_loopw [4] (fun _ wr => ∃ (m : Nat) (v' : Value) (L' : List (Nat × Nat)), m ≤ n ∧ Hid (L' ++ R m = L ++ R n) ∧ Hid (Small L') ∧ L'.length + m ≤ L.length + n ∧
    St B w0 wr (boxT nb #[.int .i64 (m : Int)] 3 :: boxT lb #[v'] 23 :: signT 31 v' L' :: r)) (fun _ wr => match wr.cell? ⟨nb, 0, none⟩ with | some u => (intOf u).toNat | none => 0)
  case atStart => exact ⟨n, v, L, Nat.le_refl _, Lib.hid rfl, Lib.hid hs, Nat.le_refl _, st⟩
  case round =>
    clear st hs
    obtain ⟨m, v1, L1, hmn, hrel, hsm, hlen, s1⟩ := hrel
    have f0 := (s1.boxAt 0).1
    have f1 := (s1.swap.boxAt 0).1
    have HW : Hid (wr.cell? ⟨nb, 0, none⟩ = some (.int .i64 (m : Int))) := Lib.hid f0
    by_cases hlo : lo ≤ m
    · have d1 : decide ((lo : Int) ≤ (m : Int)) = true := by simp; omega
      go_wp2
      go_quiet ((go_at_call 28; exact Calls.quiet_of_same (hq1 _)))
      have s2 := s1.drewN nq
      clear f0 f1 s1 d1
      generalize wr.drewN nq = wa at *
      have f0 := (s2.boxAt 0).1
      have f1 := (s2.swap.boxAt 0).1
      obtain ⟨T, hT⟩ : ∃ T, min m hi = T := ⟨_, rfl⟩
      have hmin : min (m : Int) (hi : Int) = (T : Int) := by omega
      go_wp2
      go_quiet ((go_at_call 29; exact Calls.quiet_of_same (hq2 _)))
      have hif : (if hi < m then (hi : Int) else (m : Int)) = (T : Int) := by split <;> omega
      rw [hif]
      have s3 := s2.drewN nq
      clear f0 f1 s2 hmin hif
      generalize wa.drewN nq = wb at *
      obtain ⟨q, hq⟩ : ∃ q : Nat, T - lo = q := ⟨_, rfl⟩
      have hTm : T ≤ m := by omega
      have hTl : lo ≤ T := by omega
      have hq' : (T : Int) - (lo : Int) = (q : Int) := by omega
      have hq7 : q ≤ 127 := by omega
      have hq8 : (q : Int) % 256 = (q : Int) := by omega
      obtain ⟨i0, hi0, hz0, hz1, hz2⟩ := info_parts infoSign
      have s4 := s3.drew
      clear s3
      go_wp2
      refine region_seg (by kernel_rfl) [1, 2, 3] 8 rfl (by kernel_rfl) (by kernel_rfl) (fun _ _ d _ _ h => by cases d <;> exact h) ?_
      generalize wb.drew = wd at *
      intro K hK
      simp only [pickL, List.getElem?_cons_zero, List.getElem?_cons_succ]
      go_wp2_with fail
      try clear hK K
      have f1 : wd.cell? ⟨lb, 0, none⟩ = some v1 := (s4.swap.boxAt 0).1
      refine wpAny_late (c := 0) (v := v1) rfl (by kernel_rfl) (fun _ _ d _ _ h => by cases d <;> exact h) 2 [4, 5, 6, 7, 8] _ _ _ (by kernel_rfl) ⟨rfl, by go_simp⟩ ?_
      refine late_step _ rfl ?_
      intro N1 hN1
      go_wp2_with (go_at_call 28; refine (hq1 _).mono ?_; rintro e w5 ⟨rfl, rfl⟩)
      refine hN1 _ _ ⟨rfl, by go_simp⟩ ?_
      try clear hN1 N1
      refine late_step _ rfl ?_
      intro N5 hN5
      go_wp2_with fail
      refine hN5 _ _ ⟨rfl, by go_simp⟩ ?_
      try clear hN5 N5
      refine late_step _ rfl ?_
      intro N6 hN6
      go_wp2_with fail
      refine hN6 _ _ ⟨rfl, by go_simp⟩ ?_
      try clear hN6 N6
      refine late_step _ rfl ?_
      intro N7 hN7
      go_wp2_with fail
      refine hN7 _ _ ⟨rfl, by go_simp⟩ ?_
      try clear hN7 N7
      refine late_step _ rfl ?_
      intro N8 hN8
      go_wp2_with fail
      have f1' := cell_alloc f1 (.cells #[.int .u8 (c : Int), .int .u8 (q : Int)] 31)
      refine hN8 _ _ ⟨rfl, by go_simp⟩ ?_
      try clear hN8 N8
      refine late_end ?_
      refine mid_seg [9, 10] 0 (by kernel_rfl) (by kernel_rfl) (fun _ _ d _ _ h => by cases d <;> exact h) ?_
      clear f1 f1'
      intro K2 hK2
      simp only [pickL, List.getElem?_cons_zero, List.getElem?_cons_succ]
      have s5 := s4.third
      go_wp2_with (at_builtin; refine wpList_append_one rfl _ _ 23 rfl 31 i0 (.agg #[.int .u8 0, .int .u8 0]) 2 2 Try.underlying23 hi0 hz0 hz1 hz2 rfl (by decide) s5 rfl [.int .u8 (c : Int), .int .u8 (q : Int)] rfl rfl (by simp [Value.oneCell']) (by unfold maxLen; omega) (by omega) ?_)
      intro v6 w6 s6
      have e6 : sgn L1 ++ [Value.int .u8 (c : Int), Value.int .u8 (q : Int)] = sgn (L1 ++ [(c, q)]) := by rw [sgn_append]; rfl
      have l6 : L1.length + 1 = (L1 ++ [(c, q)]).length := by simp
      rw [e6, l6] at s6
      clear e6 l6 s4 s5
      obtain ⟨L2, hL2⟩ : ∃ L2, L2 = L1 ++ [(c, q)] := ⟨_, rfl⟩
      rw [← hL2] at s6
      have HL2 := Lib.hid hL2
      clear hL2
      obtain ⟨xa, xc, rfl⟩ := ownsRow_slice s6.row
      have s7 := s6.third
      have f1 : w6.cell? ⟨lb, 0, none⟩ = some v1 := (s7.boxAt 0).1
      have g1 := (s7.boxAt 0).2
      have s8 := (s7.setBox (.slice xa L2.length xc)).third
      obtain ⟨d, hd⟩ : ∃ d : Nat, m - T = d := ⟨_, rfl⟩
      have hd' : (m : Int) - (T : Int) = (d : Int) := by omega
      clear s6 s7
      go_wp2
      refine wpAny_done (by kernel_rfl) ?_ 0
      clear f1 g1
      generalize w6.setCell ⟨lb, 0, none⟩ (.slice xa L2.length xc) = w7 at *
      have f0 : w7.cell? ⟨nb, 0, none⟩ = some (.int .i64 (m : Int)) := (s8.boxAt 0).1
      have g0 := (s8.boxAt 0).2
      have s9 := s8.setBox (.int .i64 (d : Int))
      go_wp2
      go_roundw
      case rel =>
        refine ⟨d, _, L2, by omega, Lib.hid ?_, Lib.hid ?_, ?_, s9⟩
        · rw [HL2.out, List.append_assoc, List.singleton_append, ← hrel.out, HR.out m hmn hlo, hT, hq, hd]
        · rw [HL2.out]
          intro p hp
          rcases List.mem_append.1 hp with hp | hp
          · exact hsm.out p hp
          · obtain rfl : p = (c, q) := by simpa using hp
            exact ⟨by simp; omega, by simp; omega⟩
        · rw [HL2.out]; simp; omega
      case measure =>
        rw [(s9.boxAt 0).1, HW.out]
        simp [intOf]
        omega
    · have d1 : decide ((lo : Int) ≤ (m : Int)) = false := by simp; omega
      go_wp2
      go_quiet ((go_at_call 28; exact Calls.quiet_of_same (hq1 _)))
      go_wp2
      go_end0
      exact ⟨rfl, m, v1, L1, by omega, hmn, hrel.out, hsm.out, hlen, s1.drewN _⟩

end Go.Proofs.Ythmkkbaenccgiaa.Rep
