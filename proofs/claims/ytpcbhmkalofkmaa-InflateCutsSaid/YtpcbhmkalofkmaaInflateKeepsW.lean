/-
  Any keep; what stands behind; without the last byte: the walk of InflateKeeps. No conditions.
-/
import Derived.Test.YtpcbhmkalofkmaaGR
namespace Go.Proofs.Ytpcbhmkalofkmaa.inflateKeeps
open Go.RowKit Kraft Hd Inf

theorem byteRow_cut {w : World} {a : Option Addr} {n c m : Nat} {X : List Nat} (h : ByteRow w (.slice a n c) X) (hm : m ≤ n) : ByteRow w (.slice a m c) (X.take m) := by
  obtain ⟨a', c', e, hc, hn, hat⟩ := h
  obtain ⟨rfl, e2, rfl⟩ := Value.slice.inj e
  refine ⟨a, c, by rw [List.length_take]; congr 1; omega, by rw [List.length_take]; omega, hn, fun i hi => ?_⟩
  have hi' : i < X.length := by rw [List.length_take] at hi; omega
  rw [List.getElem_take]
  exact hat i hi'

theorem u16_of {mo : Int} (hmo : (Lit.int .u16 mo).wf = true) : ∃ y : Nat, mo = (y : Int) ∧ y < 65536 := by
  simp only [Lit.wf, Bool.and_eq_true, decide_eq_true_eq] at hmo
  have e1 : IntKind.u16.min = 0 := rfl
  have e2 : IntKind.u16.max = 65535 := rfl
  rw [e1, e2] at hmo
  exact ⟨mo.toNat, by omega, by omega⟩

set_option maxRecDepth 100000 in
set_option maxHeartbeats 4000000 in
theorem walk (w : World) (v0 : Value) (xs : List Nat) (h0 : ByteRow w v0 xs) (v1 : Value) (ys : List Nat) (h1 : ByteRow w v1 ys) (kp : Int) (hkp : (Lit.int .u16 kp).wf = true) :
    Calls Try.prog 3 #[v0, v1, .int .u16 kp] w fun e w' => e = .returned (.bool true) ∧ Below w.heap.size w w' := by
  have hB := Nat.le_refl w.heap.size
  have HIN := fun W (hb : Below w.heap.size w W) => And.intro (h0.below hb hB) (h1.below hb hB)
  have hyb := h1.byte
  have hxb := h0.byte
  obtain ⟨a0, cap0, rfl, hc0, hn0, -⟩ := h0
  obtain ⟨a1, cap1, rfl, hc1, hn1, -⟩ := h1
  obtain ⟨kp, rfl, hkl⟩ := u16_of hkp
  by_cases c0 : 500 < xs.length
  · go_enter Try.func3, Try.ntmps3
    go_wp2
    go_ret
    exact ⟨rfl, Below.refl _ _⟩
  by_cases c1 : 100 < ys.length
  · go_enter Try.func3, Try.ntmps3
    go_wp2
    go_ret
    exact ⟨rfl, Below.refl _ _⟩
  have HIN := Lib.hid HIN
  obtain ⟨k, hk, hk4⟩ : ∃ k, kp % 4001 = k ∧ k ≤ 4000 := ⟨_, rfl, by omega⟩
  have hk1 : (kp : Int) % 4001 = (k : Int) := by omega
  have hk2 : (kp : Int).tmod 4001 = (k : Int) := by rw [Int.tmod_eq_emod_of_nonneg (by omega)]; exact hk1
  clear hk hkp
  have hi1 := inflate_st (St.start w) (.slice a0 xs.length cap0) xs (fun W s => (HIN.out W (s.below hB)).1) (by omega) 4000 (by omega)
  unfold Flow10 at hi1
  cases hx : infl xs with
  | none =>
    rw [hx] at hi1
    simp only at hi1
    go_enter Try.func3, Try.ntmps3
    go_wp2_with fail
    refine hi1.mono ?_
    rintro e w1 ⟨rfl, s1⟩
    have s2 := s1.newBox (flowC (.slice none 0 0) 0 0) 25
    have hi2 := inflate_fails s2 (.slice a0 xs.length cap0) (fun W s => (HIN.out W (s.below hB)).1) (by omega) k (by omega) hx
    clear hi1 s1
    go_wp2_with fail
    refine hi2.mono ?_
    rintro e w2 ⟨rfl, s3⟩
    have s4 := s3.newBox (flowC (.slice none 0 0) 0 0) 25
    have hbel := s4.below hB
    have hsm := same_any (w2.alloc (.cells (flowC (.slice none 0 0) 0 0) 25)) (.slice none 0 0) (.slice none 0 0) [] [] 0 0 0 0 (byteRow_none _) (byteRow_none _)
    simp only [and_self, decide_true] at hsm
    have hbox := s4.swap.box
    clear hi2 s2 s3 s4
    go_wp2_with (first
      | (go_at_call 7; refine hsm.mono ?_; rintro e w3 ⟨rfl, hb3⟩)
      | refine wpList_load_row rfl 25 _ rfl w1.heap.size rfl 25 _ (0, 0) _ hbox Try.underlying25 rfl size_flow ?_)
    go_wp2_with (go_at_call 8; refine (reads_any _).mono ?_; rintro e w4 ⟨rfl, hb4⟩)
    go_ret
    exact ⟨rfl, hbel.trans ((hb3.trans (hb4.mono hb3.size)).mono hbel.size)⟩
  | some y =>
    obtain ⟨q, o⟩ := y
    rw [hx] at hi1
    simp only at hi1
    have hob := infl_byte hx
    have hin := infl_some hx
    have hfar : o.length ≤ 1100000 := by have := infl_far hx; have := infl_some hx; omega
    have HBH := Lib.hid (fun ys => infl_behind hx (used q) (Nat.le_refl _) ys)
    have HCT := Lib.hid (infl_cut hx (used q - 1) (by omega))
    have HX := Lib.hid hx
    obtain ⟨uq, huq⟩ : ∃ uq, used q = uq := ⟨_, rfl⟩
    rw [huq] at hi1 hin
    obtain ⟨o4, ho4⟩ : ∃ o4, o.take 4000 = o4 := ⟨_, rfl⟩
    obtain ⟨ok, hok⟩ : ∃ ok, o.take k = ok := ⟨_, rfl⟩
    have hb4 : ∀ x ∈ o4, x < 256 := fun x hx => hob x (by rw [← ho4] at hx; exact List.mem_of_mem_take hx)
    have hcut : o4.take ok.length = ok := by
      rw [← ho4, ← hok, List.take_take, List.length_take]
      refine List.ext_getElem (by rw [List.length_take, List.length_take]; omega) (fun i h1 h2 => ?_)
      rw [List.getElem_take, List.getElem_take]
    have H4L := Lib.hid (show o4.length = min 4000 o.length from by rw [← ho4, List.length_take])
    have HKL := Lib.hid (show ok.length = min k o.length from by rw [← hok, List.length_take])
    have HCC := Lib.hid hcut
    have HOK := Lib.hid hok
    rw [ho4] at hi1
    have HO4 := Lib.hid ho4
    clear hcut hok ho4
    go_enter Try.func3, Try.ntmps3
    go_wp2_with fail
    refine hi1.mono ?_
    rintro e w1 ⟨oa, oc, rfl, s1⟩
    have s2 := s1.newBox (flowC (.slice oa o4.length oc) o.length uq) 25
    have hi2 := inflate_st s2 (.slice a0 xs.length cap0) xs (fun W s => (HIN.out W (s.below hB)).1) (by omega) k (by omega)
    unfold Flow10 at hi2
    rw [hx] at hi2
    simp only at hi2
    rw [HOK.out, huq] at hi2
    clear hi1 s1
    go_wp2_with fail
    refine hi2.mono ?_
    rintro e w2 ⟨ob, od, rfl, s3⟩
    have s4 := s3.newBox (flowC (.slice ob ok.length od) o.length uq) 25
    have hr4 := St.bytesRow (St.front 3 s4) hb4
    have hcap : o4.length ≤ oc := by
      obtain ⟨_, _, e, h2, _⟩ := hr4
      obtain ⟨_, _, rfl⟩ := Value.slice.inj e
      exact h2
    have h4l := H4L.out
    have hkl2 := HKL.out
    have hrk := byteRow_cut hr4 (m := ok.length) (by omega)
    rw [HCC.out] at hrk
    have t1 := run_string _ _ _ hrk.reads
    have t2 := run_string _ _ _ (Reads.of_owns s4.swap.row)
    have hbel := s4.below hB
    obtain ⟨z, hz⟩ : ∃ z, o.length = z := ⟨_, rfl⟩
    obtain ⟨m4, hm4⟩ : ∃ z, o4.length = z := ⟨_, rfl⟩
    obtain ⟨mk, hmk⟩ : ∃ z, ok.length = z := ⟨_, rfl⟩
    rw [hz] at s4 h4l hkl2 hfar
    rw [hm4] at s4 h4l hcap
    rw [hmk] at s4 t1 t2 hkl2
    rw [hz] at t1 t2 hbel
    rw [hmk] at hbel
    have HZ := Lib.hid hz
    have HM4 := Lib.hid hm4
    have hmin1 : (if (z : Int) < (k : Int) then (z : Int) else (k : Int)) = (mk : Int) := by split <;> omega
    have hmin2 : (if (z : Int) < 4000 then (z : Int) else 4000) = (m4 : Int) := by split <;> omega
    have hmin3 : (if z < k then (z : Int) else (k : Int)) = (mk : Int) := by split <;> omega
    have hmin4 : (if z < 4000 then (z : Int) else 4000) = (m4 : Int) := by split <;> omega
    have hkm : mk ≤ m4 := by omega
    have hko : mk ≤ oc := by omega
    have hko1 : decide (mk ≤ oc) = true := decide_eq_true hko
    have hko2 : decide (oc < mk) = false := decide_eq_false (by omega)
    have k0 : (w2.alloc (.cells (flowC (.slice ob mk od) z uq) 25)).cell? ⟨w1.heap.size, 0, none⟩ = some (.slice oa m4 oc) := (St.boxAt (s4.front 2) 0).1
    have k1 : (w2.alloc (.cells (flowC (.slice ob mk od) z uq) 25)).cell? ⟨w1.heap.size, 1, none⟩ = some (.int .i64 (z : Int)) := (St.boxAt (s4.front 2) 1).1
    have k2 : (w2.alloc (.cells (flowC (.slice ob mk od) z uq) 25)).cell? ⟨w1.heap.size, 2, none⟩ = some (.int .i64 (uq : Int)) := (St.boxAt (s4.front 2) 2).1
    rw [hz, hmk]
    clear hi2 s2 s3 h4l hkl2 hob hr4 hrk H4L HKL
    go_wp2
    have j0 : (w2.alloc (.cells (flowC (.slice ob mk od) z uq) 25)).cell? ⟨w2.heap.size, 0, none⟩ = some (.slice ob mk od) := (St.boxAt s4 0).1
    have j1 : (w2.alloc (.cells (flowC (.slice ob mk od) z uq) 25)).cell? ⟨w2.heap.size, 1, none⟩ = some (.int .i64 (z : Int)) := (St.boxAt s4 1).1
    have j2 : (w2.alloc (.cells (flowC (.slice ob mk od) z uq) 25)).cell? ⟨w2.heap.size, 2, none⟩ = some (.int .i64 (uq : Int)) := (St.boxAt s4 2).1
    have q1 : ∀ n, (convert 22 9 (.slice oa mk oc)).run Try.prog ((w2.alloc (.cells (flowC (.slice ob mk od) z uq) 25)).drewN n) = .ok (.string (strOf ok)) ((w2.alloc (.cells (flowC (.slice ob mk od) z uq) 25)).drewN n) := fun n => by
      have hr4 := St.bytesRow (xs := o4) (v := .slice oa m4 oc) (by rw [hm4]; exact St.front 3 (s4.drewN n)) hb4
      have hrk := byteRow_cut hr4 (m := mk) (by omega)
      rw [← hmk, HCC.out, hmk] at hrk
      exact run_string _ _ _ hrk.reads
    have q2 : ∀ n, (convert 22 9 (.slice ob mk od)).run Try.prog ((w2.alloc (.cells (flowC (.slice ob mk od) z uq) 25)).drewN n) = .ok (.string (strOf ok)) ((w2.alloc (.cells (flowC (.slice ob mk od) z uq) 25)).drewN n) := fun n =>
      run_string _ _ _ (Reads.of_owns (v := .slice ob mk od) (n := mk) (s4.drewN n).swap.row)
    have d1 : decide (uq < 1) = false := decide_eq_false (by omega)
    have d3 : decide (uq = 0) = false := decide_eq_false (by omega)
    have d4 : decide ((uq : Int) < 1) = false := decide_eq_false (by omega)
    have d5 : ¬ uq = 0 := by omega
    have d2 : decide (xs.length < uq) = false := decide_eq_false (by omega)
    clear t1 t2
    generalize w2.alloc (.cells (flowC (.slice ob mk od) z uq) 25) = w3 at *
    generalize w2.heap.size = gb at *
    generalize w1.heap.size = fb at *
    clear hmk hm4 hz
    go_quiet (fail)
    have s5 := s4.drewN nq
    have HUQ := Lib.hid huq
    rw [huq] at HBH HCT
    have hZl : (xs.take uq ++ ys).length ≤ 1000 := by rw [List.length_append, List.length_take]; omega
    have hZb : ∀ x ∈ xs.take uq ++ ys, x < 256 := fun x hx => (List.mem_append.1 hx).elim (fun h => hxb x (List.mem_of_mem_take h)) (hyb x)
    have htl : (xs.take uq).length = uq := by rw [List.length_take]; omega
    have hin1 := hin.1
    have hin2 := hin.2.1
    have e1 : (uq : Int) - 1 = ((uq - 1 : Nat) : Int) := by omega
    obtain ⟨up, hup⟩ : ∃ up, uq - 1 = up := ⟨_, rfl⟩
    rw [hup] at HCT e1
    have hupl : up ≤ xs.length := by omega
    have hupc : up ≤ cap0 := by omega
    have huqc : uq ≤ cap0 := by omega
    clear hup hin huq d1 d2 d3 d4 d5 hmin1 hmin2 hmin3 hmin4 hko hko1 hko2 hkm hk1 hk2 q1 q2 j0 j1 j2 hbel s4 hkl hk4 HOK HCC
    have k0' : (w3.drewN nq).cell? ⟨fb, 0, none⟩ = some (.slice oa m4 oc) := (St.boxAt (s5.front 2) 0).1
    have k2' : (w3.drewN nq).cell? ⟨fb, 2, none⟩ = some (.int .i64 (uq : Int)) := (St.boxAt (s5.front 2) 2).1
    generalize w3.drewN nq = w4 at *
    have hcp := byteRow_cut (HIN.out _ (s5.below hB)).1 (m := uq) (by omega)
    have k2a : (w4.alloc (.cells #[] 5)).cell? ⟨fb, 2, none⟩ = some (.int .i64 (uq : Int)) := (St.boxAt ((s5.alloc _).front 2) 2).1
    clear k0 k1 k2
    go_wp2_with (at_builtin; refine wpList_copyW rfl _ _ rfl s5 hcp rfl rfl (by rw [htl]; omega) ?_)
    intro v4 w5 s6
    have hcy := (HIN.out _ (s6.below hB)).2
    go_wp2_with (at_builtin; refine wpList_append_bytes rfl _ _ rfl s6 hcy rfl rfl (by omega) ?_)
    intro v5 w6 s7 _ _
    rw [← u8s_append] at s7
    have hZe : uq + ys.length = (xs.take uq ++ ys).length := by rw [List.length_append, htl]
    rw [hZe] at s7
    have hinf := HBH.out ys
    clear hcy hcp k2' k2a k0' hZe
    generalize xs.take uq ++ ys = Z at *
    have hi3 := inflate_st s7 v5 Z (fun W s => s.bytesRow hZb) (by omega) 4000 (by omega)
    unfold Flow10 at hi3
    rw [hinf] at hi3
    simp only at hi3
    rw [HO4.out, HUQ.out, HZ.out, HM4.out] at hi3
    go_wp2_with fail
    refine hi3.mono ?_
    rintro e w7 ⟨oe, of, rfl, s8⟩
    have s9 := s8.newBox (flowC (.slice oe m4 of) z uq) 25
    have hi4 := inflate_fails s9 (.slice a0 up cap0) (xs := xs.take up) (fun W s => byteRow_cut (HIN.out W (s.below hB)).1 hupl) (by rw [List.length_take]; omega) 4000 (by omega) HCT.out
    have k2b : (w7.alloc (.cells (flowC (.slice oe m4 of) z uq) 25)).cell? ⟨fb, 2, none⟩ = some (.int .i64 (uq : Int)) := (St.boxAt (s9.front 5) 2).1
    clear hi3 s5 s6 s7 s8
    go_wp2_with fail
    refine hi4.mono ?_
    rintro e w8 ⟨rfl, s10⟩
    have s11 := s10.newBox #[.slice none 0 0, .int .i64 0, .int .i64 0, .bool false] 25
    have hbel := s11.below hB
    have p0 : (w8.alloc (.cells #[.slice none 0 0, .int .i64 0, .int .i64 0, .bool false] 25)).cell? ⟨w7.heap.size, 0, none⟩ = some (.slice oe m4 of) := (St.boxAt (s11.front 1) 0).1
    have p1 : (w8.alloc (.cells #[.slice none 0 0, .int .i64 0, .int .i64 0, .bool false] 25)).cell? ⟨w7.heap.size, 1, none⟩ = some (.int .i64 (z : Int)) := (St.boxAt (s11.front 1) 1).1
    have p2 : (w8.alloc (.cells #[.slice none 0 0, .int .i64 0, .int .i64 0, .bool false] 25)).cell? ⟨w7.heap.size, 2, none⟩ = some (.int .i64 (uq : Int)) := (St.boxAt (s11.front 1) 2).1
    have p3 : (w8.alloc (.cells #[.slice none 0 0, .int .i64 0, .int .i64 0, .bool false] 25)).cell? ⟨w7.heap.size, 3, none⟩ = some (.bool false) := (St.boxAt (s11.front 1) 3).1
    have r0 : (w8.alloc (.cells #[.slice none 0 0, .int .i64 0, .int .i64 0, .bool false] 25)).cell? ⟨fb, 0, none⟩ = some (.slice oa m4 oc) := (St.boxAt (s11.front 6) 0).1
    have r1 : (w8.alloc (.cells #[.slice none 0 0, .int .i64 0, .int .i64 0, .bool false] 25)).cell? ⟨fb, 1, none⟩ = some (.int .i64 (z : Int)) := (St.boxAt (s11.front 6) 1).1
    have r2 : (w8.alloc (.cells #[.slice none 0 0, .int .i64 0, .int .i64 0, .bool false] 25)).cell? ⟨fb, 2, none⟩ = some (.int .i64 (uq : Int)) := (St.boxAt (s11.front 6) 2).1
    have r3 : (w8.alloc (.cells #[.slice none 0 0, .int .i64 0, .int .i64 0, .bool false] 25)).cell? ⟨fb, 3, none⟩ = some (.bool false) := (St.boxAt (s11.front 6) 3).1
    have hro := St.bytesRow (xs := o4) (v := .slice oa m4 oc) (by rw [HM4.out]; exact s11.front 7) hb4
    have hro2 := St.bytesRow (xs := o4) (v := .slice oe m4 of) (by rw [HM4.out]; exact s11.front 2) hb4
    have hsm := same_any (w8.alloc (.cells #[.slice none 0 0, .int .i64 0, .int .i64 0, .bool false] 25)) (.slice oe m4 of) (.slice oa m4 oc) o4 o4 z z uq uq hro2 hro
    simp only [and_self, decide_true] at hsm
    clear hi4 s9 s10 s11 hro hro2 k2b HIN
    go_wp2_with (go_at_call 7; refine hsm.mono ?_; rintro e w9 ⟨rfl, hb9⟩)
    go_wp2_with (go_at_call 8; refine (reads_any _).mono ?_; rintro e w10 ⟨rfl, hb10⟩)
    go_ret
    exact ⟨rfl, hbel.trans ((hb9.trans (hb10.mono hb9.size)).mono hbel.size)⟩

end Go.Proofs.Ytpcbhmkalofkmaa.inflateKeeps
