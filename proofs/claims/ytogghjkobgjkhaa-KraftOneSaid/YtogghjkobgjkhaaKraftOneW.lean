/-
  One word more, and all words one bit longer: the walk of KraftOne. No conditions.
-/
import Derived.Test.YtogghjkobgjkhaaKrC
namespace Go.Proofs.Ytogghjkobgjkhaa.kraftOne
open Go.RowKit Go.Proofs.Ytogghjkobgjkhaa.Kraft

theorem nat_of_u8 {z : Int} (h : (Lit.int .u8 z).wf = true) : ∃ y : Nat, z = (y : Int) ∧ y < 256 := by
  simp only [Lit.wf, Bool.and_eq_true, decide_eq_true_eq] at h
  have h1 : IntKind.u8.min = 0 := rfl
  have h2 : IntKind.u8.max = 255 := rfl
  rw [h1, h2] at h
  exact ⟨z.toNat, by omega, by omega⟩

theorem may_append {L : List Nat} (h : may L = true) (hl : L.length ≤ 200) (m : Nat) (hm : m ≤ 20) : may (L ++ [m]) = true := by
  refine (may_iff _).2 ⟨by rw [List.length_append, List.length_singleton]; omega, fun x hx => ?_⟩
  rcases List.mem_append.1 hx with h' | h'
  · exact ((may_iff _).1 h).2 x h'
  · rw [List.mem_singleton.1 h']; exact hm

theorem longer_length (L : List Nat) : (longer L).length = L.length := by simp [longer]

theorem longer_lt {L : List Nat} (h : ∀ x ∈ L, x < 20) : ∀ x ∈ longer L, x ≤ 20 := by
  intro x hx
  obtain ⟨y, hy, rfl⟩ := List.mem_map.1 hx
  have := h y hy
  split <;> omega

theorem may_longer {L : List Nat} (hl : L.length ≤ 200) (h : ∀ x ∈ L, x < 20) : may (longer L) = true :=
  (may_iff _).2 ⟨by rw [longer_length]; omega, longer_lt h⟩

theorem longer_take (L : List Nat) (k : Nat) (hk : k < L.length) : longer (L.take (k + 1)) = longer (L.take k) ++ [if L[k] = 0 then 0 else L[k] + 1] := by
  unfold longer
  rw [List.take_succ_eq_append_getElem hk, List.map_append]
  rfl

/-- What the classes of a code, of it with a word more, and of it with longer words are to each other. -/
structure Three (a b c : Nat) : Prop where
  b0 : b ≠ 0
  le : a ≤ b
  full : a = 2 → b = 3 ∧ c = 1
  none : a = 0 → c = 0
  under : a = 1 → c = 1
  lt : a < 256 ∧ b < 256 ∧ c < 256

theorem class_lt (x : Nat) : class_ x < 256 := by unfold class_; split; omega; split; omega; split <;> omega

theorem three (W p V : Nat) (hp : 0 < p) (hV : 2 * V = W) : Three (class_ W) (class_ (W + p)) (class_ V) := by
  refine ⟨?_, ?_, ?_, ?_, ?_, class_lt _, class_lt _, class_lt _⟩
  all_goals
    unfold class_
    repeat' split
    all_goals omega

set_option maxRecDepth 100000 in
set_option maxHeartbeats 2000000 in
theorem walk (w : World) (v : Value) (L : List Nat) (h : ByteRow w v L) (na : Int) (hna : (Lit.int .u8 na).wf = true) :
    Calls Try.prog 7 #[v, .int .u8 na] w fun e w' => e = .returned (.bool true) ∧ Below w.heap.size w w' := by
  obtain ⟨a, cap, rfl, hc, -, hat⟩ := id h
  obtain ⟨n, rfl, hn⟩ := nat_of_u8 hna
  clear hna
  by_cases h6 : 200 < L.length
  · go_enter Try.func7, Try.ntmps7
    go_wp2
    go_ret
    exact ⟨rfl, Below.refl _ _⟩
  · have hl : L.length ≤ 140737488355328 := by omega
    have hl2 : L.length ≤ 200 := by omega
    have hby := h.byte
    have H := Lib.hid h
    have HAT := Lib.hid hat
    have HBY := Lib.hid hby
    clear h hat hby
    cases hm : may L with
    | false =>
      have hA : classAns L = .tuple #[.int .u8 0, .int .i64 5] := by unfold classAns; rw [hm]; rfl
      go_enter Try.func7, Try.ntmps7
      go_wp2_with fail
      refine (classify_any _ _ L H.out hl).mono ?_
      rintro e w1 ⟨rfl, rfl⟩
      rw [hA]
      go_wp2_with fail
      refine (classes_st (St.start _)).mono ?_
      rintro e w6 ⟨rfl, s6⟩
      go_wp2
      go_ret
      exact ⟨rfl, s6.below (Nat.le_refl _)⟩
    | true =>
      have hA : classAns L = .tuple #[.int .u8 (class_ (weight L) : Int), .int .i64 0] := by unfold classAns; rw [hm]; rfl
      obtain ⟨m, hme⟩ : ∃ m, 1 + n % 20 = m := ⟨_, rfl⟩
      have hm1 : 0 < m ∧ m ≤ 20 := by omega
      have hmi : 1 + (n : Int) % 20 = (m : Int) := by omega
      have hM2 := may_append hm hl2 m hm1.2
      have hB : classAns (L ++ [m]) = .tuple #[.int .u8 (class_ (weight L + Kraft.part m) : Int), .int .i64 0] := by unfold classAns; rw [hM2, weight_append]; rfl
      have HP := Lib.hid (part_pos hm1.1)
      obtain ⟨ac, hac⟩ : ∃ ac, class_ (weight L) = ac := ⟨_, rfl⟩
      obtain ⟨bc, hbc⟩ : ∃ bc, class_ (weight L + Kraft.part m) = bc := ⟨_, rfl⟩
      have hal : ac < 256 := by rw [← hac]; exact class_lt _
      have hbl : bc < 256 := by rw [← hbc]; exact class_lt _
      rw [hac] at hA
      rw [hbc] at hB
      have HAC := Lib.hid hac
      have HBC := Lib.hid hbc
      have HBB := Lib.hid hB
      clear hac hbc hme hM2 hB
      go_enter Try.func7, Try.ntmps7
      go_wp2_with fail
      refine (classify_any _ _ L H.out hl).mono ?_
      rintro e w1 ⟨rfl, rfl⟩
      rw [hA]
      clear hA
      go_wp2_with (at_builtin; refine wpList_copyW rfl _ _ rfl (St.start w) H.out rfl rfl hl ?_)
      intro v3 w3 s3
      obtain ⟨ad3, cp3, rfl⟩ := ownsRow_slice s3.row
      go_wp2_with (at_builtin; refine wpList_append_lit (m := 1) rfl _ _ rfl s3 rfl [.int .u8 (m : Int)] rfl rfl ?c1 (by omega) ?_)
      case c1 => first | rfl | (intro u hu; simp at hu; subst hu; rfl)
      intro v4 w4 s4
      have hs5 : St w.heap.size w w4 [rowT 5 1 v4 (L ++ [m]).length (u8s (L ++ [m]))] := by
        rw [u8s_append, List.length_append]
        exact s4
      have hlm : ∀ x ∈ L ++ [m], x < 256 := by
        intro x hx
        rcases List.mem_append.1 hx with h' | h'
        · exact HBY.out x h'
        · rw [List.mem_singleton.1 h']; omega
      have HLM := Lib.hid hlm
      clear hlm
      have HR := Lib.hid (St.bytesRow hs5 HLM.out)
      have s6 := hs5.drop
      clear s3 s4 hs5
      go_wp2_with fail
      refine (classify_any _ _ (L ++ [m]) HR.out (by rw [List.length_append, List.length_singleton]; omega)).mono ?_
      rintro e w5 ⟨rfl, rfl⟩
      rw [HBB.out]
      clear HR HLM HBB
      go_wp2
      go_loopw [9, 10, 11] (fun lv i _ wr => ∃ k : Nat, k ≤ L.length ∧ i = .int .i64 (k : Int) ∧ (∀ j (hj : j < L.length), j < k → L[j] < 20) ∧ St w.heap.size w wr [rowT 5 1 lv k (u8s (longer (L.take k)))]) (fun _ i _ _ => L.length - (intOf i).toNat)
      case atStart => exact ⟨0, by omega, rfl, fun j _ hj => absurd hj (by omega), s6.addNil⟩
      case round =>
        obtain ⟨k, hk, rfl, hall, t⟩ := hrel
        have HA := Lib.hid hall
        clear hall s6
        obtain ⟨adl, cpl, rfl⟩ := ownsRow_slice t.row
        by_cases hlt : k < L.length
        · obtain ⟨hx, b0, off, rfl, c0⟩ := HAT.out k hlt
          have e0 := (t.below (Nat.le_refl _)).cell (p := ⟨b0, off + k, none⟩) (World.block_lt_of_cell? w _ c0)
          rw [c0] at e0
          have hx20 : L[k] ≤ 20 := ((may_iff L).1 hm).2 _ (List.getElem_mem hlt)
          have HT := Lib.hid (longer_take L k hlt)
          have HN : L[k] < 20 → ∀ j (hj : j < L.length), j < k + 1 → L[j] < 20 := fun h j hj hjk => by
            by_cases e : j = k
            · subst e; exact h
            · exact HA.out j hj (by omega)
          have HN := Lib.hid HN
          clear c0
          generalize L[k] = x at hx e0 HT HN hx20
          by_cases h0 : x = 0
          · subst h0
            go_wp2_with (at_builtin; refine wpList_append_lit (m := 1) rfl _ _ rfl t rfl [.int .u8 0] rfl rfl ?c1 (by omega) ?_)
            case c1 => first | rfl | (intro u hu; simp at hu; subst hu; rfl)
            intro v7 w7 s7
            go_wp2
            go_roundw
            case rel => exact ⟨k + 1, by omega, by go_num, HN.out (by omega), by rw [HT.out, u8s_append]; exact s7⟩
            case measure => simp [intOf]; omega
          · by_cases h1 : x < 20
            · go_wp2_with (at_builtin; refine wpList_append_lit (m := 1) rfl _ _ rfl t rfl [.int .u8 ((x : Int) + 1)] rfl rfl ?c1 (by omega) ?_)
              case c1 => first | rfl | (intro u hu; simp at hu; subst hu; rfl)
              intro v7 w7 s7
              go_wp2
              go_roundw
              case rel => exact ⟨k + 1, by omega, by go_num, HN.out (by omega), by rw [HT.out, u8s_append, if_neg h0]; exact s7⟩
              case measure => simp [intOf]; omega
            · go_wp2_with fail
              refine (classes_st t).mono ?_
              rintro e w6 ⟨rfl, s6⟩
              go_wp2
              go_ret
              exact ⟨rfl, s6.below (Nat.le_refl _)⟩
        · obtain rfl : k = L.length := by omega
          have hL20 : ∀ x ∈ L, x < 20 := fun x hx => by
            obtain ⟨i, hi, rfl⟩ := List.getElem_of_mem hx
            exact HA.out i hi hi
          have hlj : ∀ j, len L j < 20 := fun j => by
            unfold len
            rw [List.getD_eq_getElem?_getD]
            by_cases c : j < L.length
            · rw [List.getElem?_eq_getElem c]
              exact hL20 _ (List.getElem_mem c)
            · rw [List.getElem?_eq_none (by omega)]
              show (0 : Nat) < 20
              omega
          have h3 := three (weight L) (Kraft.part m) (weight (longer L)) HP.out (weight_longer L hlj)
          have hC : classAns (longer L) = .tuple #[.int .u8 (class_ (weight (longer L)) : Int), .int .i64 0] := by unfold classAns; rw [may_longer hl2 hL20]; rfl
          have hb2 : ∀ x ∈ longer L, x < 256 := fun x hx => by have := longer_lt hL20 x hx; omega
          rw [List.take_length, ← longer_length L] at t
          have HR := Lib.hid (St.bytesRow t hb2)
          rw [longer_length] at t HR
          rw [HAC.out, HBC.out] at h3
          obtain ⟨cc, hcc⟩ : ∃ cc, class_ (weight (longer L)) = cc := ⟨_, rfl⟩
          rw [hcc] at h3 hC
          have HC := Lib.hid hC
          have H3 := Lib.hid h3
          clear h3 hC hb2 hL20 hlj hcc HAC HBC HA
          go_wp2_with fail
          refine (classify_any _ _ (longer L) HR.out (by rw [longer_length]; omega)).mono ?_
          rintro e w5 ⟨rfl, rfl⟩
          rw [HC.out]
          clear HR HC
          obtain ⟨hb0, hle, hfull, hnone, hunder, -, -, hcl⟩ := H3.out
          by_cases a2 : ac = 2
          · obtain ⟨e1, e2⟩ := hfull a2
            subst a2 e1 e2
            clear hb0 hle hfull hnone hunder hcl hal hbl H3
            go_wp2_with fail
            refine (classes_st t).mono ?_
            rintro e w6 ⟨rfl, s6⟩
            go_wp2
            go_ret
            exact ⟨rfl, s6.below (Nat.le_refl _)⟩
          · have a2i : ¬ (ac : Int) = 2 := by omega
            have g2 : ((ac : Int) == 2) = false := by simp; omega
            by_cases a0 : ac = 0
            · have e2 := hnone a0
              subst a0 e2
              have b0i : ¬ (bc : Int) = 0 := by omega
              have f1 : ((bc : Int) == 0) = false := by simp; omega
              have f2 : decide ((bc : Int) < 0) = false := decide_eq_false (by omega)
              clear hfull hnone hunder H3
              go_wp2_with fail
              refine (classes_st t).mono ?_
              rintro e w6 ⟨rfl, s6⟩
              go_wp2
              go_ret
              exact ⟨rfl, s6.below (Nat.le_refl _)⟩
            · have a0i : ¬ (ac : Int) = 0 := by omega
              have g0 : ((ac : Int) == 0) = false := by simp; omega
              have f1 : ((bc : Int) == 0) = false := by simp; omega
              have b0i : ¬ (bc : Int) = 0 := by omega
              have hlei : decide ((bc : Int) < (ac : Int)) = false := by simp; omega
              have hlei2 : ¬ (bc : Int) < (ac : Int) := by omega
              by_cases a1 : ac = 1
              · have e2 := hunder a1
                subst a1 e2
                have f2 : decide ((bc : Int) < 1) = false := by simp; omega
                have f3 : ¬ (bc : Int) < 1 := by omega
                clear hfull hnone hunder H3
                go_wp2_with fail
                refine (classes_st t).mono ?_
                rintro e w6 ⟨rfl, s6⟩
                go_wp2
                go_ret
                exact ⟨rfl, s6.below (Nat.le_refl _)⟩
              · have a1i : ¬ (ac : Int) = 1 := by omega
                have g1 : ((ac : Int) == 1) = false := by simp; omega
                clear hfull hnone hunder H3
                go_wp2_with fail
                refine (classes_st t).mono ?_
                rintro e w6 ⟨rfl, s6⟩
                go_wp2
                go_ret
                exact ⟨rfl, s6.below (Nat.le_refl _)⟩

end Go.Proofs.Ytogghjkobgjkhaa.kraftOne
