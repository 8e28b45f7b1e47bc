/-
  Contracts of package frame: the reader's texts, extra bytes, sum. No conditions but that rows are small.
-/
import Derived.Test.YtpinfihmageeoaaGreatFrR
import Derived.Test.YtpinfihmageeoaaGreatGA
namespace Go.Proofs.YtpinfihmageeoaaGreat.Fr
open Go.RowKit Crc

section
variable {B : Nat} {w0 w : World} {r : List Thing} {rb : Nat} {xs : List Nat} {v : Value} {s : Rs}

theorem Rst.rest (h : Rst B w0 w r rb v s) : St B w0 w r := by obtain ⟨ev, t⟩ := h; exact t.drop.drop

set_option maxRecDepth 100000 in
set_option maxHeartbeats 1000000 in
theorem rextra_st (st : Rst B w0 w r rb v s) (hv : ∀ W, St B w0 W r → ByteRow W v xs) (hx : xs.length ≤ 1000000) (hs : s.p ≤ xs.length) (hm : s.h.has < 8) :
    Calls Tryz.prog 92 #[.pointer (some ⟨rb, 0, none⟩)] w (StepSt B w0 r rb v (rdStep xs 5 s)) := by
  have hand := (and_bit s.h.has (by omega)).1
  by_cases ch : s.h.has % 2 = 1
  · rw [ch] at hand
    have hstep : rdStep xs 5 s = if s.p + 2 ≤ xs.length ∧ s.p + 2 + val (sl xs s.p 2) ≤ xs.length then some { s with p := s.p + 2 + val (sl xs s.p 2), h := { s.h with extra := sl xs (s.p + 2) (val (sl xs s.p 2)) } } else none := by unfold rdStep; simp only; rw [if_pos ch]
    rw [hstep]
    clear hstep ch
    have k9 : w.cell? ⟨rb, 9, none⟩ = some (.int .u8 (s.h.has : Int)) := by obtain ⟨ev, t⟩ := st; exact (St.boxAt t 9).1
    by_cases c : s.p + 2 ≤ xs.length
    · have hnx := rnumber_ok st hv hx 2 (by omega) c
      have hlt := sl_val (hv w st.rest).byte c
      rw [show (256 : Nat) ^ 2 = 65536 from rfl] at hlt
      generalize val (sl xs s.p 2) = n at *
      generalize (s.h.has : Int) = hh at *
      by_cases c2 : s.p + 2 + n ≤ xs.length
      · rw [if_pos ⟨c, c2⟩]
        have hnext := fun W (t : Rst B w0 W r rb v { s with p := s.p + 2 }) => next_ok t hv hx n c2
        simp only at hnext
        go_enter Tryz.func92, Tryz.ntmps92
        go_wp2_with fail
        refine hnx.mono ?_
        rintro e w1 ⟨rfl, s1⟩
        clear hnx
        go_wp2_with fail
        refine (hnext _ s1).mono ?_
        rintro e w2 ⟨a, cc, rfl, hrow, ev, s2⟩
        clear hnext s1
        have hr := hrow w2 s2.drop.drop
        have hl := sl_length c2
        have hcl := clone_any w2 (.slice a n cc) (sl xs (s.p + 2) n) hr.reads (by omega)
        go_wp2_with fail
        refine hcl.mono ?_
        rintro e w3 ⟨v3, rfl, hown, hb3⟩
        have s3 := s2.addRow hb3 hown
        obtain ⟨a3, c3, rfl⟩ := ownsRow_slice s3.row
        have s5 : St B w0 w3 (boxT rb (rdrC v (s.p + 2 + n) s.h ev s.wrong) 141 :: rowT 5 1 (.slice a3 (sl xs (s.p + 2) n).length c3) (sl xs (s.p + 2) n).length (u8s (sl xs (s.p + 2) n)) :: r) := s3.swap.third.drop
        obtain ⟨k6, f6⟩ := St.boxAt s5 6
        replace k6 : w3.cell? ⟨rb, 6, none⟩ = some ev := k6
        have s6 := s5.setBoxAt 6 (.slice a3 (sl xs (s.p + 2) n).length c3)
        rw [hl] at s6
        clear s2 s3 s5 hcl hown hb3 hr
        go_wp2
        go_end0
        refine ⟨rfl, .slice a3 n c3, ?_⟩
        simp only
        rw [hl]
        exact s6
      · rw [if_neg (fun h => c2 h.2)]
        have hnext := fun W (t : Rst B w0 W r rb v { s with p := s.p + 2 }) => next_no t hv n c (by simp only; omega) (by omega)
        go_enter Tryz.func92, Tryz.ntmps92
        go_wp2_with fail
        refine hnx.mono ?_
        rintro e w1 ⟨rfl, s1⟩
        clear hnx
        go_wp2_with fail
        refine (hnext _ s1).mono ?_
        rintro e w2 ⟨rfl, s2⟩
        exact ⟨rfl, rfl, s2⟩
    · rw [if_neg (fun h => c h.1)]
      have hnx := rnumber_no st hv 2 (by omega) hs (by omega)
      generalize (s.h.has : Int) = hh at *
      go_enter Tryz.func92, Tryz.ntmps92
      go_wp2_with fail
      refine hnx.mono ?_
      rintro e w1 ⟨rfl, s1⟩
      exact ⟨rfl, rfl, s1⟩
  · rw [show s.h.has % 2 = 0 from by omega] at hand
    have hstep : rdStep xs 5 s = some s := by unfold rdStep; simp only; rw [if_neg ch]
    rw [hstep]
    clear hstep ch
    have k9 : w.cell? ⟨rb, 9, none⟩ = some (.int .u8 (s.h.has : Int)) := by obtain ⟨ev, t⟩ := st; exact (St.boxAt t 9).1
    generalize (s.h.has : Int) = hh at *
    go_enter Tryz.func92, Tryz.ntmps92
    go_wp2
    go_end0
    exact ⟨rfl, st⟩

/-- What a text's reading does. -/
def TextSt (B : Nat) (w0 : World) (r : List Thing) (rb : Nat) (v : Value) (s : Rs) (x : Option (Nat × List Nat)) (e : Ending) (w' : World) : Prop :=
  match x with
  | none => e = .panicked oops ∧ St B w0 w' r
  | some y => e = .returned (.string (strOf y.2)) ∧ Rst B w0 w' r rb v { s with p := y.1 }

set_option maxRecDepth 100000 in
set_option maxHeartbeats 2000000 in
theorem rtext_st (st : Rst B w0 w r rb v s) (hv : ∀ W, St B w0 W r → ByteRow W v xs) (hx : xs.length ≤ 1000000) (hs : s.p ≤ xs.length) (hm : s.h.has < 8) (bit : Nat) (hbit : bit = 2 ∨ bit = 4) :
    Calls Tryz.prog 125 #[.pointer (some ⟨rb, 0, none⟩), .int .u8 (bit : Int)] w (TextSt B w0 r rb v s (textR xs bit s)) := by
  have hand := and_bit s.h.has (by omega)
  have hbits : bits .and .u8 (s.h.has : Int) (bit : Int) = ((bit * (s.h.has / bit % 2) : Nat) : Int) := by
    rcases hbit with rfl | rfl
    · exact hand.2.1
    · exact hand.2.2
  have k9 : w.cell? ⟨rb, 9, none⟩ = some (.int .u8 (s.h.has : Int)) := by obtain ⟨ev, t⟩ := st; exact (St.boxAt t 9).1
  clear hand
  by_cases c : s.h.has / bit % 2 = 1
  · rw [c, Nat.mul_one] at hbits
    have hstep : textR xs bit s = (zeroAt (xs.drop s.p)).map fun z => (s.p + z + 1, sl xs s.p z) := by unfold textR; rw [if_pos c]
    rw [hstep]
    have hne : ((bit : Int) == 0) = false := by rcases hbit with rfl | rfl <;> rfl
    have hne2 : ¬ (bit : Int) = 0 := by omega
    clear hstep c hbit
    generalize (s.h.has : Int) = hh at *
    obtain ⟨a, cap, e0, hcap, _⟩ := hv w st.rest
    have hsub := fun k => byteRow_sub (p := s.p) (n := xs.length - s.p) (by have := hv (w.drewN k) (st.rest.drewN k); rw [e0] at this; exact this) (by omega)
    have hdrop : sl xs s.p (xs.length - s.p) = xs.drop s.p := by unfold sl; rw [List.take_of_length_le (by rw [List.length_drop]; omega)]
    rw [hdrop] at hsub
    have hidx := fun k => (index_any _ _ _ (hsub k)).mono (fun e w' (h : _ ∧ _) => (⟨h.1, h.2.symm⟩ : e = _ ∧ w' = w.drewN k))
    have k0 : w.cell? ⟨rb, 0, none⟩ = some (.slice a xs.length cap) := by rw [← e0]; obtain ⟨ev, t⟩ := st; exact (St.boxAt t 0).1
    have k1 : w.cell? ⟨rb, 1, none⟩ = some (.int .i64 (s.p : Int)) := by obtain ⟨ev, t⟩ := st; exact (St.boxAt t 1).1
    obtain ⟨a2, ha2⟩ : ∃ a2, (if cap = s.p then a else a.map (·.add s.p)) = a2 := ⟨_, rfl⟩
    rw [ha2] at hidx
    have hpl := hs
    clear hsub hdrop
    cases hz : zeroAt (xs.drop s.p) with
    | none =>
      have hzi : zeroI (xs.drop s.p) = -1 := by unfold zeroI; rw [hz]
      rw [hzi] at hidx
      have hfin := fun k => st.rest.drewN k
      clear st hz
      generalize s.p = p at *
      go_enter Tryz.func125, Tryz.ntmps125
      go_wp2
      go_quiet ((go_at_call 143; exact Calls.quiet_of_same (hidx _)))
      have hf := hfin nq
      have hy : Calls Tryz.prog 122 #[.bool false] (w.drewN nq) fun e w' => e = .panicked oops ∧ w' = w.drewN nq := need_no _
      clear k0 k1 k9 hfin hidx
      generalize w.drewN nq = wd at *
      go_wp2_with fail
      refine hy.mono ?_
      rintro e w2 ⟨rfl, rfl⟩
      exact ⟨rfl, rfl, hf⟩
    | some z =>
      have hzi : zeroI (xs.drop s.p) = (z : Int) := by unfold zeroI; rw [hz]
      rw [hzi] at hidx
      obtain ⟨hzl, _, _⟩ := zeroAt_some hz
      rw [List.length_drop] at hzl
      have hpz : s.p + z ≤ xs.length := by omega
      have hst := fun k => (show Rst B w0 (w.drewN k) r rb v s by obtain ⟨ev, t⟩ := st; exact ⟨ev, t.drewN k⟩)
      have hnext := fun k => next_ok (hst k) hv hx z hpz
      have hzm : z ≤ 1000000 := by omega
      have hdone : TextSt B w0 r rb v s (Option.map (fun z => (s.p + z + 1, sl xs s.p z)) (some z)) = fun e w' => e = .returned (.string (strOf (sl xs s.p z))) ∧ Rst B w0 w' r rb v { s with p := s.p + z + 1 } := rfl
      rw [hdone]
      clear st hst hz hdone
      obtain ⟨p, h, wr⟩ := s
      simp only at *
      go_enter Tryz.func125, Tryz.ntmps125
      go_wp2
      go_quiet ((go_at_call 143; exact Calls.quiet_of_same (hidx _)))
      have hn2 := hnext nq
      have hy := need_yes (w.drewN nq)
      clear k0 k1 k9 hidx hnext
      generalize w.drewN nq = wd at *
      go_wp2_with fail
      refine hy.mono ?_
      rintro e w2 ⟨rfl, rfl⟩
      go_wp2_with fail
      refine hn2.mono ?_
      rintro e w3 ⟨a3, c3, rfl, hrow, ev, s3⟩
      have hstr := run_string _ _ _ (hrow w3 s3.drop.drop).reads
      obtain ⟨k1, f1⟩ := St.boxAt s3 1
      replace k1 : w3.cell? ⟨rb, 1, none⟩ = some (.int .i64 ((p + z : Nat) : Int)) := k1
      obtain ⟨q, hq⟩ : ∃ q, p + z = q := ⟨_, rfl⟩
      have s4 := s3.setBoxAt 1 (.int .i64 (((p + z : Nat) : Int) + 1))
      rw [hq] at k1 s4
      have HQ := Lib.hid hq
      have hq2 : q ≤ 1000000 := by omega
      clear hn2 s3 hy hq
      go_wp2
      go_ret
      refine ⟨rfl, ev, ?_⟩
      simp only
      have e1 : (q : Int) + 1 = ((q + 1 : Nat) : Int) := by omega
      rw [e1] at s4 ⊢
      rw [HQ.out]
      exact s4
  · rw [show s.h.has / bit % 2 = 0 from by omega, Nat.mul_zero] at hbits
    have hstep : textR xs bit s = some (s.p, []) := by unfold textR; rw [if_neg c]
    rw [hstep]
    clear hstep c
    generalize (s.h.has : Int) = hh at *
    go_enter Tryz.func125, Tryz.ntmps125
    go_wp2
    go_ret
    exact ⟨rfl, st⟩

set_option maxRecDepth 100000 in
set_option maxHeartbeats 1000000 in
theorem rname_st (st : Rst B w0 w r rb v s) (hv : ∀ W, St B w0 W r → ByteRow W v xs) (hx : xs.length ≤ 1000000) (hs : s.p ≤ xs.length) (hm : s.h.has < 8) :
    Calls Tryz.prog 93 #[.pointer (some ⟨rb, 0, none⟩)] w (StepSt B w0 r rb v (rdStep xs 6 s)) := by
  have ht := rtext_st st hv hx hs hm 2 (.inl rfl)
  have hstep : rdStep xs 6 s = (textR xs 2 s).map fun y => { s with p := y.1, h := { s.h with name := y.2 } } := rfl
  rw [hstep]
  cases hz : textR xs 2 s with
  | none =>
    rw [hz] at ht
    go_enter Tryz.func93, Tryz.ntmps93
    go_wp2_with fail
    refine ht.mono ?_
    rintro e w1 ⟨rfl, s1⟩
    exact ⟨rfl, rfl, s1⟩
  | some y =>
    obtain ⟨q, t⟩ := y
    rw [hz] at ht
    have hdone : StepSt B w0 r rb v (Option.map (fun y => ({ s with p := y.1, h := { s.h with name := y.2 } } : Rs)) (some (q, t))) = fun e w' => e = .returned (.tuple #[]) ∧ Rst B w0 w' r rb v { s with p := q, h := { s.h with name := t } } := rfl
    rw [hdone]
    clear hdone hstep hz st
    go_enter Tryz.func93, Tryz.ntmps93
    go_wp2_with fail
    refine ht.mono ?_
    rintro e w1 ⟨rfl, ev, s1⟩
    obtain ⟨k2, f2⟩ := St.boxAt s1 7
    replace k2 : w1.cell? ⟨rb, 7, none⟩ = some (.string (strOf s.h.name)) := k2
    have s4 := s1.setBoxAt 7 (.string (strOf t))
    clear ht s1
    go_wp2
    go_end0
    exact ⟨rfl, ev, s4⟩

set_option maxRecDepth 100000 in
set_option maxHeartbeats 1000000 in
theorem rcomment_st (st : Rst B w0 w r rb v s) (hv : ∀ W, St B w0 W r → ByteRow W v xs) (hx : xs.length ≤ 1000000) (hs : s.p ≤ xs.length) (hm : s.h.has < 8) :
    Calls Tryz.prog 94 #[.pointer (some ⟨rb, 0, none⟩)] w (StepSt B w0 r rb v (rdStep xs 7 s)) := by
  have ht := rtext_st st hv hx hs hm 4 (.inr rfl)
  have hstep : rdStep xs 7 s = (textR xs 4 s).map fun y => { s with p := y.1, h := { s.h with comment := y.2 } } := rfl
  rw [hstep]
  cases hz : textR xs 4 s with
  | none =>
    rw [hz] at ht
    go_enter Tryz.func94, Tryz.ntmps94
    go_wp2_with fail
    refine ht.mono ?_
    rintro e w1 ⟨rfl, s1⟩
    exact ⟨rfl, rfl, s1⟩
  | some y =>
    obtain ⟨q, t⟩ := y
    rw [hz] at ht
    have hdone : StepSt B w0 r rb v (Option.map (fun y => ({ s with p := y.1, h := { s.h with comment := y.2 } } : Rs)) (some (q, t))) = fun e w' => e = .returned (.tuple #[]) ∧ Rst B w0 w' r rb v { s with p := q, h := { s.h with comment := t } } := rfl
    rw [hdone]
    clear hdone hstep hz st
    go_enter Tryz.func94, Tryz.ntmps94
    go_wp2_with fail
    refine ht.mono ?_
    rintro e w1 ⟨rfl, ev, s1⟩
    obtain ⟨k2, f2⟩ := St.boxAt s1 8
    replace k2 : w1.cell? ⟨rb, 8, none⟩ = some (.string (strOf s.h.comment)) := k2
    have s4 := s1.setBoxAt 8 (.string (strOf t))
    clear ht s1
    go_wp2
    go_end0
    exact ⟨rfl, ev, s4⟩

set_option maxRecDepth 100000 in
set_option maxHeartbeats 2000000 in
theorem rsum_st (st : Rst B w0 w r rb v s) (hv : ∀ W, St B w0 W r → ByteRow W v xs) (hx : xs.length ≤ 1000000) (hs : s.p ≤ xs.length) :
    Calls Tryz.prog 95 #[.pointer (some ⟨rb, 0, none⟩)] w (StepSt B w0 r rb v (rdStep xs 8 s)) := by
  have k10 : w.cell? ⟨rb, 10, none⟩ = some (.bool s.h.sum) := by obtain ⟨ev, t⟩ := st; exact (St.boxAt t 10).1
  cases hh : s.h.sum with
  | false =>
    rw [hh] at k10
    have hstep : rdStep xs 8 s = some s := by unfold rdStep; simp only; rw [hh]; rfl
    rw [hstep]
    clear hstep hh
    go_enter Tryz.func95, Tryz.ntmps95
    go_wp2
    go_end0
    exact ⟨rfl, st⟩
  | true =>
    rw [hh] at k10
    have hstep : rdStep xs 8 s = if s.p + 2 ≤ xs.length then some { s with p := s.p + 2, wrong := val (sl xs s.p 2) != lowSum (xs.take s.p) % 65536 } else none := by unfold rdStep; simp only; rw [hh, if_pos rfl]
    rw [hstep]
    clear hstep hh
    obtain ⟨a, cap, e0, hcap, _⟩ := hv w st.rest
    have hdr : Rst B w0 w.drew r rb v s := by obtain ⟨ev, t⟩ := st; exact ⟨ev, t.drew⟩
    have hsub := byteRow_sub (p := 0) (n := s.p) (by have := hv w.drew st.rest.drew; rw [e0] at this; exact this) (by omega)
    have htk : sl xs 0 s.p = xs.take s.p := by unfold sl; rw [List.drop_zero]
    rw [htk] at hsub
    have hlow : Calls Tryz.prog 126 #[.slice (if cap = 0 then a else a.map (·.add 0)) s.p (cap - 0)] w.drew fun e w' => e = .returned (.int .u32 (lowSum (xs.take s.p) : Int)) ∧ Rst B w0 w' r rb v s := by
      obtain ⟨ev, t⟩ := hdr
      exact (low_st t hsub (by rw [List.length_take]; omega)).mono fun e w' ⟨h1, h2, _⟩ => ⟨h1, ev, h2⟩
    have k0 : w.cell? ⟨rb, 0, none⟩ = some (.slice a xs.length cap) := by rw [← e0]; obtain ⟨ev, t⟩ := st; exact (St.boxAt t 0).1
    have k1 : w.cell? ⟨rb, 1, none⟩ = some (.int .i64 (s.p : Int)) := by obtain ⟨ev, t⟩ := st; exact (St.boxAt t 1).1
    have hS : lowSum (xs.take s.p) < 4294967296 := (lowReg _ ^^^ ones).isLt
    generalize lowSum (xs.take s.p) = S at *
    have hpc : s.p ≤ cap := by omega
    have ha : (if cap = 0 then a else a.map (·.add 0)) = a := by
      split
      · rfl
      · cases a <;> simp [Addr.add]
    rw [ha, Nat.sub_zero] at hlow
    clear hsub htk hdr ha
    by_cases c : s.p + 2 ≤ xs.length
    · rw [if_pos c]
      have hnx := fun W (t : Rst B w0 W r rb v s) => rnumber_ok t hv hx 2 (by omega) c
      have hlt := sl_val (hv w st.rest).byte c
      generalize val (sl xs s.p 2) = n at *
      clear st
      obtain ⟨p, h, wr⟩ := s
      simp only at hs k1 hlow hpc c hnx ⊢
      go_enter Tryz.func95, Tryz.ntmps95
      go_wp2
      go_still_tail 9, (by kernel_rfl)
      go_wp2_with fail
      refine hlow.mono ?_
      rintro e w1 ⟨rfl, s1⟩
      clear hlow k0 k1 k10
      go_wp2_with fail
      refine (hnx _ s1).mono ?_
      rintro e w2 ⟨rfl, ev, s2⟩
      obtain ⟨k11, f11⟩ := St.boxAt s2 11
      replace k11 : w2.cell? ⟨rb, 11, none⟩ = some (.bool wr) := k11
      have hq : (S : Int) % 65536 = ((S % 65536 : Nat) : Int) := by omega
      obtain ⟨q, hqq⟩ : ∃ q, S % 65536 = q := ⟨_, rfl⟩
      have hq6 : q < 65536 := by omega
      have hqm : (q : Int) % 4294967296 = (q : Int) := by omega
      rw [hqq] at hq
      have hwr : IntKind.u16.wrap (S : Int) = (q : Int) := by
        simp [IntKind.wrap, IntKind.signed, IntKind.bits]
        exact hq
      have HQ := Lib.hid hqq
      have hb : (((n : Int) != (q : Int)) = (n != q)) := by
        rw [Bool.eq_iff_iff]
        simp only [bne_iff_ne, ne_eq]
        omega
      have s4 := s2.setBoxAt 11 (.bool ((n : Int) != (q : Int)))
      have HB := Lib.hid hb
      clear hqq hb s2 hnx
      go_wp2
      go_end0
      refine ⟨rfl, ev, ?_⟩
      simp only
      rw [HQ.out, ← HB.out]
      exact s4
    · rw [if_neg c]
      have hnx := fun W (t : Rst B w0 W r rb v s) => rnumber_no t hv 2 (by omega) hs (by omega)
      clear st
      obtain ⟨p, h, wr⟩ := s
      simp only at hs k1 hlow hpc c hnx ⊢
      go_enter Tryz.func95, Tryz.ntmps95
      go_wp2
      go_still_tail 9, (by kernel_rfl)
      go_wp2_with fail
      refine hlow.mono ?_
      rintro e w1 ⟨rfl, s1⟩
      clear hlow k0 k1 k10
      go_wp2_with fail
      refine (hnx _ s1).mono ?_
      rintro e w2 ⟨rfl, s2⟩
      exact ⟨rfl, rfl, s2⟩

end
end Go.Proofs.YtpinfihmageeoaaGreat.Fr
