/-
  Words rise, by lengths and then by symbols: the walk of KraftRises. No conditions.
-/
import Derived.Test.YtogghjkobgjkhaaKrC
namespace Go.Proofs.Ytogghjkobgjkhaa.kraftRises
open Go.RowKit Go.Proofs.Ytogghjkobgjkhaa.Kraft

/-- The code and its words in memory. -/
abbrev Two (w wr : World) (ga : Nat) (n ca : Nat) (L : List Nat) : Prop := St w.heap.size w wr [rowT 34 1 (.slice (some ⟨ga, 0, none⟩) n ca) n (u32s (words L))]

set_option maxRecDepth 100000 in
set_option maxHeartbeats 2000000 in
theorem walk (w : World) (v : Value) (L : List Nat) (h : ByteRow w v L) :
    Calls Try.prog 6 #[v] w fun e w' => e = .returned (.bool true) ∧ Below w.heap.size w w' := by
  obtain ⟨a, cap, rfl, hc, -, hat⟩ := id h
  by_cases h6 : 200 < L.length
  · go_enter Try.func6, Try.ntmps6
    go_wp2
    go_ret
    exact ⟨rfl, Below.refl _ _⟩
  · have hl : L.length ≤ 140737488355328 := by omega
    have H := Lib.hid h
    have HAT := Lib.hid hat
    clear h hat
    go_enter Try.func6, Try.ntmps6
    go_wp2_with fail
    refine (words_st (St.start w) _ L H.out hl).mono ?_
    intro e w4 hW
    by_cases her : wordsErr L = 0
    · obtain ⟨hm, hwt⟩ := wordsErr_ok her
      have HM := may_len hm
      obtain ⟨va, rfl, s4⟩ := hW.open 0 her (words L) (wordsOf_ok her)
      rw [words_length] at s4
      clear hW
      obtain ⟨ad, ca, rfl⟩ := ownsRow_slice s4.row
      go_wp2
      go_loopw [5, 6] (fun i _ wr => ∃ k : Nat, k ≤ L.length ∧ i = .int .i64 (k : Int) ∧ St w.heap.size w wr [rowT 34 1 (.slice ad L.length ca) L.length (u32s (words L))]) (fun i _ _ => L.length - (intOf i).toNat)
      case atStart => exact ⟨0, by omega, rfl, s4⟩
      case round =>
        obtain ⟨i, hi, rfl, t⟩ := hrel
        clear s4
        by_cases hlt : i < L.length
        · obtain ⟨hx, b0, off, rfl, c0⟩ := HAT.out i hlt
          obtain ⟨ga, ca', ea, -⟩ := t.rowShape (by omega)
          obtain ⟨rfl, -, rfl⟩ := Value.slice.inj ea
          have hd0 : decide ((i : Int) < (L.length : Int)) = true := by simp; omega
          have hyi := len_at L i hlt
          go_wp2
          go_loopw [6] (fun j wr2 => ∃ k : Nat, k ≤ L.length ∧ j = .int .i64 (k : Int) ∧ St w.heap.size w wr2 [rowT 34 1 (.slice (some ⟨ga, 0, none⟩) L.length ca) L.length (u32s (words L))]) (fun j _ => L.length - (intOf j).toNat)
          case atStart => exact ⟨0, by omega, rfl, t⟩
          case round =>
            obtain ⟨k, hk, rfl, t2⟩ := hrel
            clear t
            by_cases hlk : k < L.length
            · obtain ⟨hz, b1, off1, e1, d0⟩ := HAT.out k hlk
              obtain ⟨rfl, rfl⟩ : b0 = b1 ∧ off = off1 := by simpa using e1
              have bel := t2.below (Nat.le_refl _)
              have l0 := World.block_lt_of_cell? w _ c0
              have e0 := bel.cell (p := ⟨b0, off + i, none⟩) l0
              have f0 := bel.cell (p := ⟨b0, off + k, none⟩) l0
              rw [c0] at e0
              rw [d0] at f0
              have hyk := len_at L k hlk
              have g0 := t2.row.cellAt i (by omega)
              have g1 := t2.row.cellAt k (by omega)
              rw [u32s_get _ _ (by rw [words_length]; omega), words_at] at g0 g1
              have hR := rises L i k hlt
              have hW1 := word_lt L i hlt
              rw [hyi, hyk] at hR
              have hy20 := HM i
              have hz20 := HM k
              rw [hyi] at hy20
              rw [hyk] at hz20
              clear c0 d0 hyk hW1
              generalize word L i = p at hR g0
              generalize word L k = q at hR g1
              have HR := Lib.hid hR
              clear hR e1
              generalize L[i] = y at hx e0 HR hy20
              generalize L[k] = z at hz f0 HR hz20
              by_cases h0 : y = 0
              · subst h0
                go_wp2
                go_roundw
                case rel => exact ⟨k + 1, by omega, by go_num, t2⟩
                case measure => simp [intOf]; omega
              · have y0 : ((y : Int) == 0) = false := by simp; omega
                by_cases h1 : z = 0
                · subst h1
                  go_wp2
                  go_roundw
                  case rel => exact ⟨k + 1, by omega, by go_num, t2⟩
                  case measure => simp [intOf]; omega
                · have z0 : ((z : Int) == 0) = false := by simp; omega
                  by_cases h2 : y < z
                  · have hlt2 := HR.out (by omega) (by omega) (.inl h2)
                    obtain ⟨d, hd⟩ : ∃ d, z - y = d := ⟨_, rfl⟩
                    rw [hd] at hlt2
                    have hdi : (z : Int) - (y : Int) = (d : Int) := by omega
                    clear hd
                    have hyz : decide ((y : Int) < (z : Int)) = true := by simp; omega
                    have hne : ¬ (y : Int) = (z : Int) := by omega
                    have hne2 : ¬ y = z := by omega
                    have hne3 : ((y : Int) == (z : Int)) = false := by simp; omega
                    obtain ⟨r, hr⟩ : ∃ r, q / 2 ^ d = r := ⟨_, rfl⟩
                    have hri : (q : Int) / 2 ^ d = (r : Int) := by rw [← hr]; simp
                    rw [hr] at hlt2
                    clear hr
                    have hge : decide (r ≤ p) = false := by simp; omega
                    go_wp2
                    go_quiet (fail)
                    have t3 := t2.drewN nq
                    have bel3 := t3.below (Nat.le_refl _)
                    go_wp2
                    go_quiet (fail)
                    go_wp2
                    go_roundw
                    case rel => exact ⟨k + 1, by omega, by go_num, t2.drewN _⟩
                    case measure => simp [intOf]; omega
                  · have hyz : decide ((y : Int) < (z : Int)) = false := by simp; omega
                    have hyz2 : ¬ (y : Int) < (z : Int) := by omega
                    by_cases h3 : y = z
                    · subst h3
                      by_cases hik : i < k
                      · have hlt2 := HR.out (by omega) (by omega) (.inr ⟨rfl, hik⟩)
                        rw [Nat.sub_self, Nat.pow_zero, Nat.div_one] at hlt2
                        have hge : decide (q ≤ p) = false := by simp; omega
                        have hik' : decide ((i : Int) < (k : Int)) = true := by simp; omega
                        have hik2 : decide (i < k) = true := by simp; omega
                        clear HR
                        go_wp2
                        go_quiet (fail)
                        have t3 := t2.drewN nq
                        have bel3 := t3.below (Nat.le_refl _)
                        go_wp2
                        go_quiet (fail)
                        go_wp2
                        go_roundw
                        case rel => exact ⟨k + 1, by omega, by go_num, t2.drewN _⟩
                        case measure => simp [intOf]; omega
                      · have hik' : decide ((i : Int) < (k : Int)) = false := by simp; omega
                        have hik2 : decide (i < k) = false := by simp; omega
                        clear HR
                        go_wp2
                        go_quiet (fail)
                        have t3 := t2.drewN nq
                        have bel3 := t3.below (Nat.le_refl _)
                        go_wp2
                        go_quiet (fail)
                        go_wp2
                        go_roundw
                        case rel => exact ⟨k + 1, by omega, by go_num, t2.drewN _⟩
                        case measure => simp [intOf]; omega
                    · have hne : ¬ (y : Int) = (z : Int) := by omega
                      have hne3 : ((y : Int) == (z : Int)) = false := by simp; omega
                      clear HR
                      go_wp2
                      go_quiet (fail)
                      have t3 := t2.drewN nq
                      have bel3 := t3.below (Nat.le_refl _)
                      go_wp2
                      go_quiet (fail)
                      go_wp2
                      go_roundw
                      case rel => exact ⟨k + 1, by omega, by go_num, t2.drewN _⟩
                      case measure => simp [intOf]; omega
            · obtain rfl : k = L.length := by omega
              go_wp2
              refine ⟨⟨i + 1, by omega, by go_num, t2⟩, by simp [intOf]; omega⟩
        · obtain rfl : i = L.length := by omega
          go_wp2_with fail
          refine (classes_st t).mono ?_
          rintro e w6 ⟨rfl, s6⟩
          go_wp2
          go_ret
          exact ⟨rfl, s6.below (Nat.le_refl _)⟩
    · obtain ⟨er, hre⟩ : ∃ er, wordsErr L = er := ⟨_, rfl⟩
      rw [hre] at her
      obtain ⟨va, rfl, s4⟩ := hW.open er hre [] (wordsOf_bad (by omega))
      clear hW hre
      have he : ((er : Int) != 0) = true := by simp; omega
      go_wp2_with fail
      refine (classes_st s4).mono ?_
      rintro e w6 ⟨rfl, s6⟩
      go_wp2
      go_ret
      exact ⟨rfl, s6.below (Nat.le_refl _)⟩

end Go.Proofs.Ytogghjkobgjkhaa.kraftRises
