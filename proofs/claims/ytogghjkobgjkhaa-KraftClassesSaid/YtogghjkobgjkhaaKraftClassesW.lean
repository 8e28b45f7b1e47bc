/-
  Every Classify and Single is the document's: the walk of KraftClasses. No conditions.
-/
import Derived.Test.YtogghjkobgjkhaaKrC
namespace Go.Proofs.Ytogghjkobgjkhaa.kraftClasses
open Go.RowKit Go.Proofs.Ytogghjkobgjkhaa.Kraft

theorem classAns_any (L : List Nat) : ∃ k er : Nat, k < 256 ∧ classAns L = .tuple #[.int .u8 (k : Int), .int .i64 (er : Int)] := by
  unfold classAns
  cases may L with
  | true =>
    refine ⟨class_ (weight L), 0, ?_, rfl⟩
    unfold class_
    split
    · omega
    · split
      · omega
      · split <;> omega
  | false => exact ⟨0, 5, by omega, rfl⟩

set_option maxRecDepth 100000 in
set_option maxHeartbeats 2000000 in
theorem walk (w : World) (v : Value) (L : List Nat) (h : ByteRow w v L) :
    Calls Try.prog 3 #[v] w fun e w' => e = .returned (.bool true) ∧ Below w.heap.size w w' := by
  obtain ⟨a, cap, rfl, hc, hn, hat⟩ := id h
  by_cases h6 : 600 < L.length
  · go_enter Try.func3, Try.ntmps3
    go_wp2
    go_ret
    exact ⟨rfl, Below.refl _ _⟩
  · have hl : L.length ≤ 140737488355328 := by omega
    have H := Lib.hid h
    have HAT := Lib.hid hat
    clear h hat
    obtain ⟨k, er, hk, hA⟩ := classAns_any L
    have HA := Lib.hid hA
    clear hA
    go_enter Try.func3, Try.ntmps3
    go_wp2_with fail
    refine (classify_any _ _ L H.out hl).mono ?_
    rintro e w1 ⟨rfl, rfl⟩
    rw [HA.out]
    go_wp2_with fail
    refine (refClassify_any _ _ L H.out hl).mono ?_
    rintro e w1 ⟨rfl, rfl⟩
    rw [HA.out]
    go_wp2
    go_loopw [7, 8, 9] (fun s o i wr => ∃ k : Nat, k ≤ L.length ∧ i = .int .i64 (k : Int) ∧ s = .int .i64 (somes L k : Int) ∧ o = .int .i64 (ones L k : Int) ∧ wr = w) (fun _ _ i _ => L.length - (intOf i).toNat)
    case atStart => exact ⟨0, by omega, rfl, rfl, rfl, rfl⟩
    case round =>
      obtain ⟨k, hk, rfl, rfl, rfl, rfl⟩ := hrel
      by_cases hlt : k < L.length
      · obtain ⟨hx, b0, off, rfl, c0⟩ := HAT.out k hlt
        have hs := somes_le L k
        have ho := ones_le L k
        have HS := Lib.hid (somes_succ L k hlt)
        have HO := Lib.hid (ones_succ L k hlt)
        generalize somes L k = s at hs HS
        generalize ones L k = o at ho HO
        generalize L[k] = x at hx c0 HS HO
        by_cases h0 : x = 0
        · subst h0
          go_wp2
          go_roundw
          case rel => exact ⟨k + 1, by omega, by go_num, by rw [HS.out]; rfl, by rw [HO.out]; rfl, trivial⟩
          case measure => simp [intOf]; omega
        · by_cases h1 : x = 1
          · subst h1
            go_wp2
            go_roundw
            case rel => exact ⟨k + 1, by omega, by go_num, by rw [HS.out]; go_num, by rw [HO.out]; go_num, trivial⟩
            case measure => simp [intOf]; omega
          · go_wp2
            go_roundw
            case rel => exact ⟨k + 1, by omega, by go_num, by rw [HS.out, if_neg h0]; go_num, by rw [HO.out, if_neg h1]; go_num, trivial⟩
            case measure => simp [intOf]; omega
      · obtain rfl : k = L.length := by omega
        have HE := Lib.hid (show single L = (decide (somes L L.length = 1) && decide (ones L L.length = 1)) from rfl)
        have hs := somes_le L L.length
        have ho := ones_le L L.length
        generalize somes L L.length = s at hs HE
        generalize ones L L.length = o at ho HE
        go_wp2_with fail
        refine (single_any _ _ L H.out hl).mono ?_
        rintro e w1 ⟨rfl, rfl⟩
        obtain ⟨z, hz⟩ : ∃ z, single L = z := ⟨_, rfl⟩
        rw [hz] at HE ⊢
        clear hz
        by_cases h1 : s = 1
        · by_cases h2 : o = 1
          · obtain rfl : z = true := by rw [HE.out, h1, h2]; rfl
            subst h1 h2
            go_wp2_with fail
            refine (classes_st (St.start _)).mono ?_
            rintro e w6 ⟨rfl, s6⟩
            go_wp2
            go_ret
            exact ⟨rfl, s6.below (Nat.le_refl _)⟩
          · obtain rfl : z = false := by rw [HE.out]; simp [h2]
            have d2 : ((o : Int) == 1) = false := by simp; omega
            subst h1
            go_wp2_with fail
            refine (classes_st (St.start _)).mono ?_
            rintro e w6 ⟨rfl, s6⟩
            go_wp2
            go_ret
            exact ⟨rfl, s6.below (Nat.le_refl _)⟩
        · obtain rfl : z = false := by rw [HE.out]; simp [h1]
          have d1 : ((s : Int) == 1) = false := by simp; omega
          go_wp2_with fail
          refine (classes_st (St.start _)).mono ?_
          rintro e w6 ⟨rfl, s6⟩
          go_wp2
          go_ret
          exact ⟨rfl, s6.below (Nat.le_refl _)⟩

end Go.Proofs.Ytogghjkobgjkhaa.kraftClasses
