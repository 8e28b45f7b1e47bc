/-
  No word of a code begins with another one's; rows of bits: the walk of KraftFree. No conditions.
-/
import Derived.Test.YtogghjkobgjkhaaKrC
namespace Go.Proofs.Ytogghjkobgjkhaa.kraftFree
open Go.RowKit Go.Proofs.Ytogghjkobgjkhaa.Kraft

theorem nat_of_u32 {z : Int} (h : (Lit.int .u32 z).wf = true) : ∃ y : Nat, z = (y : Int) ∧ y < 4294967296 := by
  simp only [Lit.wf, Bool.and_eq_true, decide_eq_true_eq] at h
  have h1 : IntKind.u32.min = 0 := rfl
  have h2 : IntKind.u32.max = 4294967295 := rfl
  rw [h1, h2] at h
  exact ⟨z.toNat, by omega, by omega⟩

theorem hits_succ (L : List Nat) (row n : Nat) : hits L row (n + 1) = hits L row n + if 0 < len L n ∧ row / 2 ^ (20 - len L n) = word L n then 1 else 0 := rfl

theorem hits_bound (L : List Nat) (row n : Nat) : hits L row n ≤ n := by
  have := sumTo_bound (f := fun i => if 0 < len L i ∧ row / 2 ^ (20 - len L i) = word L i then 1 else 0) (c := 1) (n := n) (fun j _ => by split <;> omega)
  unfold hits; omega

theorem word_none (L : List Nat) (i : Nat) (h : len L i = 0) : word L i = 0 := by unfold word; rw [if_pos h]

theorem class_full (x : Nat) (h : x ≤ 1048576) : class_ x = 2 → 1048576 ≤ x := by
  unfold class_
  intro e
  split at e
  · omega
  · split at e
    · omega
    · omega

theorem class_none (x : Nat) : class_ x = 0 → x = 0 := by
  unfold class_
  intro e
  split at e
  · assumption
  · split at e
    · omega
    · split at e <;> omega

set_option maxRecDepth 100000 in
set_option maxHeartbeats 2000000 in
theorem walk (w : World) (v : Value) (L : List Nat) (h : ByteRow w v L) (ra : Int) (hra : (Lit.int .u32 ra).wf = true) :
    Calls Try.prog 5 #[v, .int .u32 ra] w fun e w' => e = .returned (.bool true) ∧ Below w.heap.size w w' := by
  obtain ⟨a, cap, rfl, hc, -, hat⟩ := id h
  obtain ⟨ra, rfl, hra2⟩ := nat_of_u32 hra
  clear hra
  by_cases h6 : 200 < L.length
  · go_enter Try.func5, Try.ntmps5
    go_wp2
    go_ret
    exact ⟨rfl, Below.refl _ _⟩
  · have hl : L.length ≤ 140737488355328 := by omega
    have H := Lib.hid h
    have HAT := Lib.hid hat
    clear h hat
    go_enter Try.func5, Try.ntmps5
    go_wp2_with fail
    refine (words_st (St.start w) _ L H.out hl).mono ?_
    intro e w4 hW
    by_cases her : wordsErr L = 0
    · obtain ⟨hm, hwt⟩ := wordsErr_ok her
      have HM := may_len hm
      have HWT := Lib.hid hwt
      have hA : classAns L = .tuple #[.int .u8 (class_ (weight L) : Int), .int .i64 0] := by unfold classAns; rw [hm]; rfl
      have hc2 := class_full _ hwt
      have hc0 := class_none (weight L)
      have hF := hits_full L (ra % 1048576) HM
      have hN := hits_none L (ra % 1048576)
      have h1 := hits_le L (ra % 1048576) HM
      obtain ⟨va, rfl, s4⟩ := hW.open 0 her (words L) (wordsOf_ok her)
      rw [words_length] at s4
      clear hW
      obtain ⟨ad, ca, rfl⟩ := ownsRow_slice s4.row
      go_wp2_with fail
      refine (classify_any _ _ L (H.out.below (s4.below (Nat.le_refl _)) (Nat.le_refl _)) hl).mono ?_
      rintro e w5 ⟨rfl, rfl⟩
      rw [hA]
      have hcl : class_ (weight L) < 256 := by unfold class_; split; omega; split; omega; split <;> omega
      obtain ⟨c, hce⟩ : ∃ c, class_ (weight L) = c := ⟨_, rfl⟩
      obtain ⟨row, hrow⟩ : ∃ row, ra % 1048576 = row := ⟨_, rfl⟩
      have hrb : row < 1048576 := by omega
      have hri : (ra : Int) % 1048576 = (row : Int) := by omega
      rw [hrow] at hF hN h1
      rw [hce] at hc2 hc0 hcl ⊢
      have hEnd : (c = 2 → hits L row L.length = 1) ∧ (c = 0 → hits L row L.length = 0) := ⟨fun e => hF (by have := hc2 e; omega), fun e => hN (hc0 e)⟩
      have HE := Lib.hid hEnd
      clear hF hN hc2 hc0 hA hce hrow hEnd hwt her
      go_wp2
      simp only [hri]
      clear hri
      go_loopw [9, 10, 11] (fun n i _ wr => ∃ k : Nat, k ≤ L.length ∧ i = .int .i64 (k : Int) ∧ n = .int .i64 (hits L row k : Int) ∧ St w.heap.size w wr [rowT 34 1 (.slice ad L.length ca) L.length (u32s (words L))]) (fun _ i _ _ => L.length - (intOf i).toNat)
      case atStart => exact ⟨0, by omega, rfl, rfl, s4⟩
      case round =>
        obtain ⟨i, hi, rfl, rfl, t⟩ := hrel
        clear s4
        by_cases hlt : i < L.length
        · obtain ⟨hx, b0, off, rfl, c0⟩ := HAT.out i hlt
          obtain ⟨ga, ca', ea, -⟩ := t.rowShape (by omega)
          obtain ⟨rfl, -, rfl⟩ := Value.slice.inj ea
          have hd0 : decide ((i : Int) < (L.length : Int)) = true := by simp; omega
          have hyi := len_at L i hlt
          have bel := t.below (Nat.le_refl _)
          have l0 := World.block_lt_of_cell? w _ c0
          have e0 := bel.cell (p := ⟨b0, off + i, none⟩) l0
          rw [c0] at e0
          have g0 := t.row.cellAt i (by omega)
          rw [u32s_get _ _ (by rw [words_length]; omega), words_at] at g0
          have hHS := hits_succ L row i
          have hHB := hits_bound L row i
          have hw0 := word_none L i
          have hwl := word_lt L i hlt
          have hy20 := HM i
          rw [hyi] at hHS hw0 hwl hy20
          obtain ⟨p, hp⟩ : ∃ p, word L i = p := ⟨_, rfl⟩
          obtain ⟨y, hy⟩ : ∃ y, L[i] = y := ⟨_, rfl⟩
          rw [hp] at g0 hHS hw0 hwl
          rw [hy] at hHS hw0 hwl hy20 e0 hx
          have HS := Lib.hid hHS
          have HWL := Lib.hid hwl
          have HYI := Lib.hid (hyi.trans hy)
          have HPI := Lib.hid hp
          generalize hits L row i = nn at HS hHB
          have C0 := Lib.hid c0
          rw [hy] at C0
          clear hHS hwl hp hy hyi c0
          by_cases hy0 : y = 0
          · obtain rfl : p = 0 := hw0 hy0
            subst hy0
            go_wp2
            go_roundw
            case rel => exact ⟨i + 1, by omega, by go_num, by rw [HS.out]; simp, t⟩
            case measure => simp [intOf]; omega
          · have hy1 : ¬ (y : Int) = 0 := by omega
            have hpy : (p : Int) / 2 ^ y = 0 := by
              have h3 : p / 2 ^ y = 0 := Nat.div_eq_of_lt (HWL.out (by omega) hy20 HWT.out)
              have h4 : ((p / 2 ^ y : Nat) : Int) = (p : Int) / 2 ^ y := by simp
              rw [← h4, h3]
              rfl
            clear HWL hw0
            obtain ⟨d, hd⟩ : ∃ d, 20 - y = d := ⟨_, rfl⟩
            rw [hd] at HS
            have hdi : (20 : Int) - (y : Int) = (d : Int) := by omega
            have hd256 : d < 256 := by omega
            clear hd
            obtain ⟨r, hr⟩ : ∃ r, row / 2 ^ d = r := ⟨_, rfl⟩
            have hrr : (row : Int) / 2 ^ d = (r : Int) := by rw [← hr]; simp
            rw [hr] at HS
            clear hr
            go_wp2
            go_quiet (fail)
            go_wp2
            by_cases hrp : r = p
            · have hpr := hrp.symm
              subst hpr
              go_quiet (fail)
              go_wp2
              clear hpy hrr hdi hd256 hrb hra2
              go_loopw [11] (fun j wr2 => ∃ k : Nat, k ≤ L.length ∧ j = .int .i64 (k : Int) ∧ St w.heap.size w wr2 [rowT 34 1 (.slice (some ⟨ga, 0, none⟩) L.length ca) L.length (u32s (words L))]) (fun j _ => L.length - (intOf j).toNat)
              case atStart => exact ⟨0, by omega, rfl, t.drewN _⟩
              case round =>
                obtain ⟨k, hk, rfl, t2⟩ := hrel
                clear t e0 g0
                by_cases hlk : k < L.length
                · obtain ⟨hz, b1, off1, e1, d0⟩ := HAT.out k hlk
                  obtain ⟨rfl, rfl⟩ : b0 = b1 ∧ off = off1 := by simpa using e1
                  clear e1
                  have hfree := free L i k hlt hlk
                  have bel2 := t2.below (Nat.le_refl _)
                  have f0 := bel2.cell (p := ⟨b0, off + k, none⟩) l0
                  rw [d0] at f0
                  have e0 := bel2.cell (p := ⟨b0, off + i, none⟩) l0
                  rw [C0.out] at e0
                  have hyk := len_at L k hlk
                  have g0 := t2.row.cellAt i (by omega)
                  have g1 := t2.row.cellAt k (by omega)
                  rw [u32s_get _ _ (by rw [words_length]; omega), words_at] at g0 g1
                  have hz20 := HM k
                  rw [HPI.out] at g0
                  rw [HYI.out, hyk, HPI.out] at hfree
                  rw [hyk] at hz20
                  have HF := Lib.hid hfree
                  clear hfree d0 hyk
                  generalize word L k = q at HF g1
                  generalize L[k] = z at hz f0 HF hz20
                  by_cases hki : k = i
                  · subst hki
                    go_wp2
                    go_quiet (fail)
                    go_wp2
                    go_roundw
                    case rel => exact ⟨k + 1, by omega, by go_num, t2.drewN _⟩
                    case measure => simp [intOf]; omega
                  · have hkii : ¬ (k : Int) = (i : Int) := by omega
                    have hx1 : ((k : Int) != (i : Int)) = true := by simp; omega
                    have hx2 : (k != i) = true := by simp; omega
                    by_cases hzy : z < y
                    · have hzy1 : decide ((y : Int) ≤ (z : Int)) = false := by simp; omega
                      have hzy2 : decide (y ≤ z) = false := by simp; omega
                      clear HF
                      go_wp2
                      go_quiet (fail)
                      go_wp2
                      go_roundw
                      case rel => exact ⟨k + 1, by omega, by go_num, t2.drewN _⟩
                      case measure => simp [intOf]; omega
                    · have hlt2 := HF.out hki (by omega) (by omega) (by omega)
                      obtain ⟨d2, hd2⟩ : ∃ d, z - y = d := ⟨_, rfl⟩
                      rw [hd2] at hlt2
                      have hdi2 : (z : Int) - (y : Int) = (d2 : Int) := by omega
                      have hd256 : d2 < 256 := by omega
                      obtain ⟨r2, hr2⟩ : ∃ r, q / 2 ^ d2 = r := ⟨_, rfl⟩
                      have hri2 : (q : Int) / 2 ^ d2 = (r2 : Int) := by rw [← hr2]; simp
                      rw [hr2] at hlt2
                      have hzy1 : decide ((y : Int) ≤ (z : Int)) = true := by simp; omega
                      have hzy2 : decide (y ≤ z) = true := by simp; omega
                      have hlt3 : ¬ (r2 : Int) = (p : Int) := by omega
                      have hlt4 : ((r2 : Int) == (p : Int)) = false := by simp; omega
                      have hlt5 : (r2 == p) = false := by simp; omega
                      clear HF hr2 hd2
                      go_wp2
                      go_quiet (fail)
                      go_wp2
                      go_roundw
                      case rel => exact ⟨k + 1, by omega, by go_num, t2.drewN _⟩
                      case measure => simp [intOf]; omega
                · obtain rfl : k = L.length := by omega
                  go_wp2
                  refine ⟨⟨i + 1, by omega, by go_num, by rw [HS.out]; simp [Nat.pos_of_ne_zero hy0], t2⟩, by simp [intOf]; omega⟩
            · have hrpi : ¬ (r : Int) = (p : Int) := by omega
              go_quiet (fail)
              go_wp2
              rename_i hrp9
              have HRP := Lib.hid hrp
              clear hpy hrr hdi hd256 hrb hra2 hrp hrpi hrp9
              go_loopw [11] (fun j wr2 => ∃ k : Nat, k ≤ L.length ∧ j = .int .i64 (k : Int) ∧ St w.heap.size w wr2 [rowT 34 1 (.slice (some ⟨ga, 0, none⟩) L.length ca) L.length (u32s (words L))]) (fun j _ => L.length - (intOf j).toNat)
              case atStart => exact ⟨0, by omega, rfl, (t.drewN _).drewN _⟩
              case round =>
                obtain ⟨k, hk, rfl, t2⟩ := hrel
                clear t e0 g0
                by_cases hlk : k < L.length
                · obtain ⟨hz, b1, off1, e1, d0⟩ := HAT.out k hlk
                  obtain ⟨rfl, rfl⟩ : b0 = b1 ∧ off = off1 := by simpa using e1
                  clear e1
                  have hfree := free L i k hlt hlk
                  have bel2 := t2.below (Nat.le_refl _)
                  have f0 := bel2.cell (p := ⟨b0, off + k, none⟩) l0
                  rw [d0] at f0
                  have e0 := bel2.cell (p := ⟨b0, off + i, none⟩) l0
                  rw [C0.out] at e0
                  have hyk := len_at L k hlk
                  have g0 := t2.row.cellAt i (by omega)
                  have g1 := t2.row.cellAt k (by omega)
                  rw [u32s_get _ _ (by rw [words_length]; omega), words_at] at g0 g1
                  have hz20 := HM k
                  rw [HPI.out] at g0
                  rw [HYI.out, hyk, HPI.out] at hfree
                  rw [hyk] at hz20
                  have HF := Lib.hid hfree
                  clear hfree d0 hyk
                  generalize word L k = q at HF g1
                  generalize L[k] = z at hz f0 HF hz20
                  by_cases hki : k = i
                  · subst hki
                    go_wp2
                    go_quiet (fail)
                    go_wp2
                    go_roundw
                    case rel => exact ⟨k + 1, by omega, by go_num, t2.drewN _⟩
                    case measure => simp [intOf]; omega
                  · have hkii : ¬ (k : Int) = (i : Int) := by omega
                    have hx1 : ((k : Int) != (i : Int)) = true := by simp; omega
                    have hx2 : (k != i) = true := by simp; omega
                    by_cases hzy : z < y
                    · have hzy1 : decide ((y : Int) ≤ (z : Int)) = false := by simp; omega
                      have hzy2 : decide (y ≤ z) = false := by simp; omega
                      clear HF
                      go_wp2
                      go_quiet (fail)
                      go_wp2
                      go_roundw
                      case rel => exact ⟨k + 1, by omega, by go_num, t2.drewN _⟩
                      case measure => simp [intOf]; omega
                    · have hlt2 := HF.out hki (by omega) (by omega) (by omega)
                      obtain ⟨d2, hd2⟩ : ∃ d, z - y = d := ⟨_, rfl⟩
                      rw [hd2] at hlt2
                      have hdi2 : (z : Int) - (y : Int) = (d2 : Int) := by omega
                      have hd256 : d2 < 256 := by omega
                      obtain ⟨r2, hr2⟩ : ∃ r, q / 2 ^ d2 = r := ⟨_, rfl⟩
                      have hri2 : (q : Int) / 2 ^ d2 = (r2 : Int) := by rw [← hr2]; simp
                      rw [hr2] at hlt2
                      have hzy1 : decide ((y : Int) ≤ (z : Int)) = true := by simp; omega
                      have hzy2 : decide (y ≤ z) = true := by simp; omega
                      have hlt3 : ¬ (r2 : Int) = (p : Int) := by omega
                      have hlt4 : ((r2 : Int) == (p : Int)) = false := by simp; omega
                      have hlt5 : (r2 == p) = false := by simp; omega
                      clear HF hr2 hd2
                      go_wp2
                      go_quiet (fail)
                      go_wp2
                      go_roundw
                      case rel => exact ⟨k + 1, by omega, by go_num, t2.drewN _⟩
                      case measure => simp [intOf]; omega
                · obtain rfl : k = L.length := by omega
                  go_wp2
                  refine ⟨⟨i + 1, by omega, by go_num, by rw [HS.out]; rw [if_neg (fun h => HRP.out h.2)]; simp, t2⟩, by simp [intOf]; omega⟩
        · obtain rfl : i = L.length := by omega
          have hE := HE.out
          generalize hits L row L.length = nn at hE h1
          rcases Nat.le_one_iff_eq_zero_or_eq_one.1 h1 with rfl | rfl
          · have hc2 : ¬ (c : Int) = 2 := fun e => by have := hE.1 (by omega); omega
            have hc2n : ¬ c = 2 := by omega
            clear hE
            by_cases hc0 : c = 0
            · subst hc0
              go_wp2_with fail
              refine (classes_st t).mono ?_
              rintro e w6 ⟨rfl, s6⟩
              go_wp2
              go_ret
              exact ⟨rfl, s6.below (Nat.le_refl _)⟩
            · have hc0i : ¬ (c : Int) = 0 := by omega
              go_wp2_with fail
              refine (classes_st t).mono ?_
              rintro e w6 ⟨rfl, s6⟩
              go_wp2
              go_ret
              exact ⟨rfl, s6.below (Nat.le_refl _)⟩
          · have hc0 : ¬ (c : Int) = 0 := fun e => by have := hE.2 (by omega); omega
            have hc0n : ¬ c = 0 := by omega
            clear hE
            by_cases hc2 : c = 2
            · subst hc2
              go_wp2_with fail
              refine (classes_st t).mono ?_
              rintro e w6 ⟨rfl, s6⟩
              go_wp2
              go_ret
              exact ⟨rfl, s6.below (Nat.le_refl _)⟩
            · have hc2i : ¬ (c : Int) = 2 := by omega
              go_wp2_with fail
              refine (classes_st t).mono ?_
              rintro e w6 ⟨rfl, s6⟩
              go_wp2
              go_ret
              exact ⟨rfl, s6.below (Nat.le_refl _)⟩
    · obtain ⟨er, hre⟩ : ∃ er, wordsErr L = er := ⟨_, rfl⟩
      rw [hre] at her
      obtain ⟨va, rfl, s4⟩ := hW.open er hre [] (wordsOf_bad (by omega))
      clear hW hre
      obtain ⟨ad, ca, rfl⟩ := ownsRow_slice s4.row
      have he : ((er : Int) != 0) = true := by simp; omega
      go_wp2_with fail
      refine (classes_st s4).mono ?_
      rintro e w6 ⟨rfl, s6⟩
      go_wp2
      go_ret
      exact ⟨rfl, s6.below (Nat.le_refl _)⟩

end Go.Proofs.Ytogghjkobgjkhaa.kraftFree
