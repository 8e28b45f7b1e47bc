/-
  Ends rise, none like another; rotations do not fall, like ones by their places; all places are there, each once: the walk of SufsortRises. No conditions.
-/
import Derived.Test.YthcbmkbgchobfaaSufM
namespace Go.Proofs.Ythcbmkbgchobfaa.sufsortRises
open Go.RowKit Go.Proofs.Ythcbmkbgchobfaa.Suf

set_option maxRecDepth 100000 in
set_option maxHeartbeats 8000000 in
theorem walk (w : World) (v : Value) (b : List Nat) (h : ByteRow w v b) :
    Calls Try.prog 5 #[v] w fun e w' => e = .returned (.bool true) ∧ Below w.heap.size w w' := by
  have hbyte := h.byte
  obtain ⟨va, vc, rfl⟩ : ∃ a c, v = .slice a b.length c := by obtain ⟨a, c, e, _⟩ := h; exact ⟨a, c, e⟩
  by_cases c1 : 1000 < b.length
  · go_enter Try.func5, Try.ntmps5
    go_wp2
    go_ret
    exact ⟨rfl, Below.refl _ _⟩
  have HV : Hid (∀ W r, St w.heap.size w W r → ByteRow W (.slice va b.length vc) b) := Lib.hid fun W r t => h.below (t.below (Nat.le_refl _)) (Nat.le_refl _)
  obtain ⟨n, hn⟩ : ∃ n, b.length = n := ⟨_, rfl⟩
  have hle : n ≤ 1000 := by omega
  have hend := ends_st (St.start w) _ b (fun W t => HV.out W _ t) (by omega)
  have hrot := fun W r (t : St w.heap.size w W r) => rots_st t _ b (fun W t => HV.out W _ t) (by omega)
  have hE : ∀ W r, St w.heap.size w W r → ∀ i, i < n → Calls Try.prog 16 #[.slice va n vc, .int .i64 (i : Int)] W fun e w' => e = .returned (.string (strOf (text false b i))) ∧ w' = W := fun W r t i hi => by
    have := end_any W _ b (HV.out W r t) i (by omega)
    rwa [hn] at this
  have hT : ∀ W r, St w.heap.size w W r → ∀ i, i < n → Calls Try.prog 17 #[.slice va n vc, .int .i64 (i : Int)] W fun e w' => e = .returned (.string (strOf (text true b i))) ∧ w' = W.drew := fun W r t i hi => by
    have := rot_any W _ b (HV.out W r t) (by omega) i (by omega)
    rwa [hn] at this
  rw [hn]
  have HN := Lib.hid hn
  have HB := Lib.hid hbyte
  clear h HV hbyte
  rw [hn] at hend hrot c1
  clear hn
  have HE := Lib.hid hE
  have HT := Lib.hid hT
  have HROT := Lib.hid hrot
  clear hE hT hrot
  go_enter Try.func5, Try.ntmps5
  go_wp2_with fail
  refine hend.mono ?_
  rintro e w2 ⟨O, hO, g, rfl, s2⟩
  rw [HN.out] at hO
  rw [hO.len] at s2 ⊢
  clear hend
  have hrot := HROT.out w2 _ s2
  go_wp2_with fail
  refine hrot.mono ?_
  rintro e w3 ⟨R, hR, g2, rfl, s3⟩
  rw [HN.out] at hR
  rw [hR.len] at s3 ⊢
  have HO := Lib.hid hO
  have HR := Lib.hid hR
  clear hrot s2 hO hR HROT
  have hOm : ∀ x ∈ O, x ≤ 1000000 := fun x hx => by have := HO.out.mem x hx; omega
  have hRm : ∀ x ∈ R, x ≤ 1000000 := fun x hx => by have := HR.out.mem x hx; omega
  obtain ⟨J0, hJ0⟩ := inv_whole HO.out (fun _ => Ahead.irrefl)
  obtain ⟨J1, hJ1⟩ := inv_whole HR.out (fun _ => Ahead.irrefl)
  have hpl := places_st s3 (.slice (some ⟨g, 0, none⟩) n n) (O.map fun x : Nat => (x : Int)) (fun W t => NumRow.intRow (numsRow t.swap HO.out.len) hOm) (by rw [List.length_map, HO.out.len]; omega)
  have hnn : decide ((n : Int) = (n : Int)) = true := by simp
  go_wp2_with fail
  refine hpl.mono ?_
  rintro e w4 (⟨J, hJ, g3, rfl, s4⟩ | ⟨hno, _⟩)
  rotate_left
  · exact absurd hJ0 (hno _)
  have hJl : J.length = n := by rw [hJ.1, List.length_map, HO.out.len]
  rw [hJl] at s4 ⊢
  have hpl2 := places_st s4 (.slice (some ⟨g2, 0, none⟩) n n) (R.map fun x : Nat => (x : Int)) (fun W t => NumRow.intRow (numsRow t.swap HR.out.len) hRm) (by rw [List.length_map, HR.out.len]; omega)
  clear hpl s3 hJl hJ hJ0
  go_wp2_with fail
  refine hpl2.mono ?_
  rintro e w5 (⟨J', hJ, g4, rfl, s5⟩ | ⟨hno, _⟩)
  rotate_left
  · exact absurd hJ1 (hno _)
  have hJl : J'.length = n := by rw [hJ.1, List.length_map, HR.out.len]
  rw [hJl] at s5 ⊢
  have s6 := s5.drop.drop
  clear hpl2 s4 s5 hJl hJ hJ1 hOm hRm
  go_wp2
  go_loopw [5] (fun i wr => ∃ k : Nat, (k + 1 ≤ n ∨ k = 0) ∧ i = .int .i64 ((k : Int) + 1) ∧ St w.heap.size w wr [numsT 3 g2 n R, numsT 3 g n O]) (fun i _ => n - (intOf i).toNat)
  case atStart => exact ⟨0, .inr rfl, rfl, s6⟩
  case round =>
    clear s6
    obtain ⟨k, hk, rfl, s7⟩ := hrel
    by_cases hlt : k + 1 < n
    · have hkO : k + 1 < O.length := by rw [HO.out.len]; exact hlt
      have hkR : k + 1 < R.length := by rw [HR.out.len]; exact hlt
      have hah := List.pairwise_iff_getElem.1 HO.out.ord k (k + 1) (by omega) hkO (by omega)
      have hrh := List.pairwise_iff_getElem.1 HR.out.ord k (k + 1) (by omega) hkR (by omega)
      have hp := HO.out.mem _ (List.getElem_mem (show k < O.length by omega))
      have hq := HO.out.mem _ (List.getElem_mem hkO)
      have ha := HR.out.mem _ (List.getElem_mem (show k < R.length by omega))
      have hc := HR.out.mem _ (List.getElem_mem hkR)
      have c0 := (s7.swap.numCell k HO.out.len (by omega)).1
      have c1 := (s7.swap.numCell (k + 1) HO.out.len hlt).1
      have c2 := (s7.numCell k HR.out.len (by omega)).1
      have c3 := (s7.numCell (k + 1) HR.out.len hlt).1
      generalize O[k]'(by omega) = p at *
      generalize O[k + 1]'(by omega) = q at *
      generalize R[k]'(by omega) = a at *
      generalize R[k + 1]'(by omega) = c at *
      have hless := (str_less (rot := false) HB.out (by rw [HN.out]; exact hp) (by rw [HN.out]; exact hq)).2 (ends_apart (by rw [HN.out]; exact hq) hah)
      have hcase : (Op.bytesLess (strOf (text true b a)).toList (strOf (text true b c)).toList = true ∧ ((strOf (text true b a)).toList == (strOf (text true b c)).toList) = false) ∨
          (Op.bytesLess (strOf (text true b a)).toList (strOf (text true b c)).toList = false ∧ ((strOf (text true b a)).toList == (strOf (text true b c)).toList) = true ∧ a < c) := by
        have h1 := str_less (rot := true) HB.out (p := a) (q := c) (by rw [HN.out]; exact ha) (by rw [HN.out]; exact hc)
        have h2 := str_same (rot := true) HB.out (p := a) (q := c) (by rw [HN.out]; exact ha) (by rw [HN.out]; exact hc)
        rcases hrh with h | ⟨h, l⟩
        · refine .inl ⟨h1.2 h, ?_⟩
          rw [beq_eq_false_iff_ne]
          exact fun e => h.not_like (h2.1 e)
        · refine .inr ⟨?_, by simpa using h2.2 h, l⟩
          rw [Bool.eq_false_iff]
          exact fun e => (h1.1 e).not_like h
      have hEp : ∀ m, Calls Try.prog 16 #[.slice va n vc, .int .i64 (p : Int)] (wr.drewN m) fun e w' => e = .returned (.string (strOf (text false b p))) ∧ w' = wr.drewN m := fun m => HE.out _ _ (s7.drewN m) p hp
      have hEq : ∀ m, Calls Try.prog 16 #[.slice va n vc, .int .i64 (q : Int)] (wr.drewN m) fun e w' => e = .returned (.string (strOf (text false b q))) ∧ w' = wr.drewN m := fun m => HE.out _ _ (s7.drewN m) q hq
      clear hah hrh hkO hkR
      have hk1 : (k : Int) < (n : Int) := by omega
      have hk2 : (k : Int) + 1 < (n : Int) := by omega
      generalize strOf (text false b p) = sp at *
      generalize strOf (text false b q) = sq at *
      go_wp2
      go_quiet ((go_at_call 16; first | exact Calls.quiet_of_same (hEp _) | exact Calls.quiet_of_same (hEq _)))
      have s8 := s7.drewN nq
      have c2' : (wr.drewN nq).cell? ⟨g2, k, none⟩ = some (.int .i64 (a : Int)) := c2
      have c3' : (wr.drewN nq).cell? ⟨g2, k + 1, none⟩ = some (.int .i64 (c : Int)) := c3
      clear s7 c0 c1 c2 c3 hEp hEq hless
      generalize wr.drewN nq = wd at *
      have hTa : ∀ m, Calls Try.prog 17 #[.slice va n vc, .int .i64 (a : Int)] (wd.drewN m) fun e w' => e = .returned (.string (strOf (text true b a))) ∧ ∃ j, w' = wd.drewN j := fun m => (HT.out _ _ (s8.drewN m) a ha).mono fun _ _ ⟨h1, h2⟩ => ⟨h1, m + 1, h2⟩
      have hTc : ∀ m, Calls Try.prog 17 #[.slice va n vc, .int .i64 (c : Int)] (wd.drewN m) fun e w' => e = .returned (.string (strOf (text true b c))) ∧ ∃ j, w' = wd.drewN j := fun m => (HT.out _ _ (s8.drewN m) c hc).mono fun _ _ ⟨h1, h2⟩ => ⟨h1, m + 1, h2⟩
      generalize strOf (text true b a) = sa at *
      generalize strOf (text true b c) = sc at *
      go_wp2
      go_quiet ((go_at_call 17; first | with_reducible exact hTa _ | with_reducible exact hTc _))
      have s9 := s8.drewN nq
      have c4 : (wd.drewN nq).cell? ⟨g2, k, none⟩ = some (.int .i64 (a : Int)) := c2'
      have c5 : (wd.drewN nq).cell? ⟨g2, k + 1, none⟩ = some (.int .i64 (c : Int)) := c3'
      clear s8 c2' c3' hTa hTc
      generalize wd.drewN nq = we at *
      rcases hcase with ⟨x1, x2⟩ | ⟨x1, x2, x3⟩
      · go_wp2
        go_quiet (fail)
        have s10 := s9.drewN nq
        go_wp2
        go_roundw
        case rel => exact ⟨k + 1, by omega, by go_num, s10⟩
        case measure => simp [intOf]; omega
      · have x4 : decide ((c : Int) ≤ (a : Int)) = false := by simp; omega
        have x5 : (a : Int) < (c : Int) := by omega
        go_wp2
        go_quiet (fail)
        have s10 := s9.drewN nq
        go_wp2
        go_roundw
        case rel => exact ⟨k + 1, by omega, by go_num, s10⟩
        case measure => simp [intOf]; omega
    · have b1 := s7.below (Nat.le_refl _)
      clear s7
      go_wp2_with fail
      refine (sorts_any wr).mono ?_
      rintro e w8 ⟨rfl, b2⟩
      go_wp2_with fail
      go_ret
      exact ⟨rfl, b1.trans (b2.mono b1.size)⟩

end Go.Proofs.Ythcbmkbgchobfaa.sufsortRises
