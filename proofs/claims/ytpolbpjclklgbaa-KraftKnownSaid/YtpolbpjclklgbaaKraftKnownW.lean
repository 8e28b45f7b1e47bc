/-
  The chapter's examples of package kraft, and its limits: the walk of KraftKnown. No conditions.
-/
import Derived.Test.YtpolbpjclklgbaaKraftKnownU
namespace Go.Proofs.Ytpolbpjclklgbaa.kraftKnown
open Go Go.RowKit Go.Proofs.Ytpolbpjclklgbaa.Kraft

theorem single_nil {B : Nat} {w0 w : World} {r : List Thing} (st : St B w0 w r) : Calls Try.prog 13 #[.slice none 0 0] w fun e w' => e = .returned (.bool false) ∧ St B w0 w' r := by
  refine (single_any w _ [] (byteRow_none w) (by decide)).mono ?_
  rintro e w' ⟨h1, rfl⟩
  rw [one_0] at h1
  exact ⟨h1, st⟩

theorem single_lit {B : Nat} {w0 w : World} {r : List Thing} (st : St B w0 w r) (L : List Nat) (b : Bool) (hs : single L = b) (hb : ∀ x ∈ L, x < 256) (hl : L.length ≤ 1000) :
    Calls Try.prog 13 #[.slice (some ⟨w.heap.size, 0, none⟩) L.length L.length] (w.alloc (.cells (u8s L).toArray 5)) fun e w' => e = .returned (.bool b) ∧ St B w0 w' r := by
  refine (single_any _ _ L (byteRow_lit w L (0, 0) hb) (by omega)).mono ?_
  rintro e w' ⟨h1, rfl⟩
  rw [hs] at h1
  exact ⟨h1, st.alloc _⟩

set_option maxRecDepth 100000 in
set_option maxHeartbeats 2000000 in
theorem walk (w : World) : Calls Try.prog 5 #[] w fun e w' => e = .returned (.bool true) ∧ Below w.heap.size w w' := by
  go_enter Try.func5, Try.ntmps5
  go_wp2
  have s0 : St w.heap.size w (w.alloc (.cells #[.int .u8 20] 5)) [rowT 5 1 (.slice (some ⟨w.heap.size, 0, none⟩) 1 1) 1 (u8s [20])] := (St.start w).addRow (below_alloc w _) (ownsRow_lit w [20] (by decide))
  go_loopw [1, 2] (fun tv iv wr => ∃ k : Nat, k ≤ 20 ∧ iv = .int .u8 ((k : Int) + 1) ∧ St w.heap.size w wr [rowT 5 1 tv (k + 1) (u8s (twTo k))]) (fun _ iv _ => 21 - (intOf iv).toNat)
  case atStart => exact ⟨0, by omega, rfl, s0⟩
  case round =>
    obtain ⟨k, hk, rfl, t⟩ := hrel
    clear s0
    obtain ⟨g, cap, rfl, hcap⟩ := t.rowShape (by omega)
    by_cases hlt : k < 20
    · have hd : decide ((k : Int) + 1 ≤ 20) = true := by simp; omega
      go_wp2_with (at_builtin; refine wpList_append_lit (m := 1) rfl _ _ rfl t rfl [.int .u8 ((k : Int) + 1)] rfl rfl ?c1 (by omega) ?_)
      case c1 => first | rfl | (intro u hu; simp at hu; subst hu; rfl)
      intro v7 w7 s7
      go_wp2
      go_roundw
      case rel => exact ⟨k + 1, by omega, by go_num, by rw [twTo_succ, u8s_append]; exact s7⟩
      case measure => simp [intOf]; omega
    · obtain rfl : k = 20 := by omega
      go_wp2
      have hm : Try.prog.follows .mixedOrders = true := by kernel_rfl
      refine region_plan hm (plan g cap) (by kernel_rfl) (plan_fact g cap) (plan_thing g cap) t ?step ?fin
      case step =>
        intro i o d ho hd a w2 rest _ _ hout hf st
        have h1 : slotsOf a 1 = .slice (some ⟨g, 0, none⟩) 21 cap := hout 1 (of_decide_eq_true (by kernel_rfl))
        have hcap : 21 ≤ cap := by omega
        have hi : i < 28 := (List.getElem?_eq_some_iff.1 ho).1
        clear hout
        match i, hi, ho, hd, hf, st with
        | 0, _, ho, hd, hf, st =>
          obtain rfl := Option.some.inj ho
          obtain rfl := Option.some.inj hd
          exact step0 g cap rfl rfl rfl rfl st
        | 1, _, ho, hd, hf, st =>
          obtain rfl := Option.some.inj ho
          obtain rfl := Option.some.inj hd
          exact step1 g cap rfl rfl rfl rfl (hf 0 (by decide) (by kernel_rfl)) st
        | 2, _, ho, hd, hf, st =>
          obtain rfl := Option.some.inj ho
          obtain rfl := Option.some.inj hd
          exact step2 g cap rfl rfl rfl rfl st
        | 3, _, ho, hd, hf, st =>
          obtain rfl := Option.some.inj ho
          obtain rfl := Option.some.inj hd
          exact step3 g cap rfl rfl rfl rfl st
        | 4, _, ho, hd, hf, st =>
          obtain rfl := Option.some.inj ho
          obtain rfl := Option.some.inj hd
          exact step4 g cap rfl rfl rfl rfl (hf 3 (by decide) (by kernel_rfl)) st
        | 5, _, ho, hd, hf, st =>
          obtain rfl := Option.some.inj ho
          obtain rfl := Option.some.inj hd
          exact step5 g cap rfl rfl rfl rfl st
        | 6, _, ho, hd, hf, st =>
          obtain rfl := Option.some.inj ho
          obtain rfl := Option.some.inj hd
          exact step6 g cap rfl rfl rfl rfl (hf 5 (by decide) (by kernel_rfl)) st
        | 7, _, ho, hd, hf, st =>
          obtain rfl := Option.some.inj ho
          obtain rfl := Option.some.inj hd
          exact step7 g cap rfl rfl rfl rfl st
        | 8, _, ho, hd, hf, st =>
          obtain rfl := Option.some.inj ho
          obtain rfl := Option.some.inj hd
          exact step8 g cap rfl rfl rfl rfl (hf 7 (by decide) (by kernel_rfl)) st
        | 9, _, ho, hd, hf, st =>
          obtain rfl := Option.some.inj ho
          obtain rfl := Option.some.inj hd
          exact step9 g cap rfl rfl rfl rfl st
        | 10, _, ho, hd, hf, st =>
          obtain rfl := Option.some.inj ho
          obtain rfl := Option.some.inj hd
          exact step10 g cap rfl rfl rfl rfl (hf 9 (by decide) (by kernel_rfl)) st
        | 11, _, ho, hd, hf, st =>
          obtain rfl := Option.some.inj ho
          obtain rfl := Option.some.inj hd
          exact step11 g cap rfl rfl rfl rfl st
        | 12, _, ho, hd, hf, st =>
          obtain rfl := Option.some.inj ho
          obtain rfl := Option.some.inj hd
          exact step12 g cap rfl rfl rfl rfl (hf 11 (by decide) (by kernel_rfl)) st
        | 13, _, ho, hd, hf, st =>
          obtain rfl := Option.some.inj ho
          obtain rfl := Option.some.inj hd
          exact step13 g cap rfl rfl rfl rfl st
        | 14, _, ho, hd, hf, st =>
          obtain rfl := Option.some.inj ho
          obtain rfl := Option.some.inj hd
          exact step14 g cap rfl rfl rfl rfl (hf 13 (by decide) (by kernel_rfl)) st
        | 15, _, ho, hd, hf, st =>
          obtain rfl := Option.some.inj ho
          obtain rfl := Option.some.inj hd
          exact step15 g cap rfl rfl rfl rfl h1 st
        | 16, _, ho, hd, hf, st =>
          obtain rfl := Option.some.inj ho
          obtain rfl := Option.some.inj hd
          exact step16 g cap rfl rfl rfl rfl (hf 15 (by decide) (by kernel_rfl)) st
        | 17, _, ho, hd, hf, st =>
          obtain rfl := Option.some.inj ho
          obtain rfl := Option.some.inj hd
          exact step17 g cap rfl rfl rfl rfl st
        | 18, _, ho, hd, hf, st =>
          obtain rfl := Option.some.inj ho
          obtain rfl := Option.some.inj hd
          exact step18 g cap rfl rfl rfl rfl h1 st
        | 19, _, ho, hd, hf, st =>
          obtain rfl := Option.some.inj ho
          obtain rfl := Option.some.inj hd
          exact step19 g cap rfl rfl rfl rfl (hf 18 (by decide) (by kernel_rfl)) st
        | 20, _, ho, hd, hf, st =>
          obtain rfl := Option.some.inj ho
          obtain rfl := Option.some.inj hd
          exact step20 g cap rfl rfl rfl rfl st
        | 21, _, ho, hd, hf, st =>
          obtain rfl := Option.some.inj ho
          obtain rfl := Option.some.inj hd
          exact step21 g cap rfl rfl rfl rfl (hf 20 (by decide) (by kernel_rfl)) st
        | 22, _, ho, hd, hf, st =>
          obtain rfl := Option.some.inj ho
          obtain rfl := Option.some.inj hd
          exact step22 g cap rfl rfl rfl rfl (hf 21 (by decide) (by kernel_rfl)) st
        | 23, _, ho, hd, hf, st =>
          obtain rfl := Option.some.inj ho
          obtain rfl := Option.some.inj hd
          exact step23 g cap rfl rfl rfl rfl h1 st
        | 24, _, ho, hd, hf, st =>
          obtain rfl := Option.some.inj ho
          obtain rfl := Option.some.inj hd
          exact step24 g cap rfl rfl rfl rfl (hf 23 (by decide) (by kernel_rfl)) hcap st
        | 25, _, ho, hd, hf, st =>
          obtain rfl := Option.some.inj ho
          obtain rfl := Option.some.inj hd
          exact step25 g cap rfl rfl rfl rfl (hf 24 (by decide) (by kernel_rfl)) st
        | 26, _, ho, hd, hf, st =>
          obtain rfl := Option.some.inj ho
          obtain rfl := Option.some.inj hd
          exact step26 g cap rfl rfl rfl rfl (hf 1 (by decide) (by kernel_rfl)) (hf 2 (by decide) (by kernel_rfl)) (hf 4 (by decide) (by kernel_rfl)) (hf 6 (by decide) (by kernel_rfl)) (hf 8 (by decide) (by kernel_rfl)) (hf 10 (by decide) (by kernel_rfl)) (hf 12 (by decide) (by kernel_rfl)) (hf 14 (by decide) (by kernel_rfl)) (hf 16 (by decide) (by kernel_rfl)) (hf 22 (by decide) (by kernel_rfl)) (hf 25 (by decide) (by kernel_rfl)) st
        | 27, _, ho, hd, hf, st =>
          obtain rfl := Option.some.inj ho
          obtain rfl := Option.some.inj hd
          exact step27 g cap rfl rfl rfl rfl st
        | n + 28, hi, _, _, _, _ => exact absurd hi (by omega)
      case fin =>
        intro a w2 hdef hsz hout hf st
        obtain ⟨f, hF⟩ : ∃ f, slotsOf a = f := ⟨_, rfl⟩
        have ha := act_lit hsz hdef f hF
        rw [hF] at st hf hout
        have h0 : f 0 = .bool false := hout 0 (of_decide_eq_true (by kernel_rfl))
        have h1 : f 1 = .slice (some ⟨g, 0, none⟩) 21 cap := hout 1 (of_decide_eq_true (by kernel_rfl))
        obtain ⟨b, h3, htab⟩ := table_of f hf st (by
          intro j hj
          simp only [List.mem_cons, List.not_mem_nil, or_false] at hj
          rcases hj with rfl | rfl | rfl | rfl | rfl | rfl | rfl | rfl | rfl <;> exact List.mem_append_left _ (List.mem_map_of_mem (List.mem_filter.2 ⟨List.mem_range.2 (by decide), by kernel_rfl⟩))) (List.mem_append_right _ List.mem_cons_self)
        have hst := dropAll st
        rw [ha]
        clear ha hF hf hout hdef hsz st
        rw [h0, h1, h3]
        have HT := Lib.hid htab
        have HS := Lib.hid hst
        clear htab hst h0 h1 h3 t hlt hk
        go_wp2
        go_loopw [4, 5, 6] (fun iv _ _ wr => ∃ k : Nat, k ≤ 11 ∧ iv = .int .i64 (k : Int) ∧ wr = w2) (fun iv _ _ _ => 11 - (intOf iv).toNat)
        case atStart => exact ⟨0, by omega, rfl, rfl⟩
        case round =>
          obtain ⟨k, hk, rfl, rfl⟩ := hrel
          by_cases hk11 : k < 11
          · obtain ⟨u, x0, hr, x1, x2⟩ := HT.out k hk11
            rw [Nat.mul_comm 3 k] at x0 x1 x2
            have hcl := classify_any wr u _ hr (by
              have : ∀ x ∈ examples, x.1.length ≤ 1000 := by decide +kernel
              have := this _ (List.getElem_mem hk11)
              omega)
            rw [examples_class _ (List.getElem_mem hk11)] at hcl
            generalize (examples[k]'hk11).2.1 = c at *
            generalize (examples[k]'hk11).2.2 = er at *
            have HCL := Lib.hid hcl
            clear hcl hr
            go_wp2_with (go_at_call 11; refine HCL.out.mono ?_; rintro e w' ⟨rfl, rfl⟩)
            exact ⟨⟨k + 1, by omega, by go_num, trivial⟩, by simp [intOf]; omega⟩
          · obtain rfl : k = 11 := by omega
            clear HT
            go_wp2_with fail
            refine (words_bad HS.out [1, 1, 1] 2 err_111 (by decide) (by decide)).mono ?_
            rintro e w3 ⟨v3, rfl, s3⟩
            clear HS
            go_wp2_with fail
            refine (words_bad s3 [21] 5 err_21 (by decide) (by decide)).mono ?_
            rintro e w4 ⟨v4, rfl, s4⟩
            clear s3
            go_wp2_with fail
            refine (words_twenty s4).mono ?_
            rintro e w5 ⟨g5, c5, rfl, x1, x20, x0, s5⟩
            clear s4
            go_wp2_with fail
            refine (single_nil s5).mono ?_
            rintro e w6 ⟨rfl, s6⟩
            clear x1 x20 x0 s5
            go_wp2_with fail
            refine (single_lit s6 [1, 1] false one_2 (by decide) (by decide)).mono ?_
            rintro e w7 ⟨rfl, s7⟩
            clear s6
            go_wp2_with fail
            refine (single_lit s7 [1] true one_1 (by decide) (by decide)).mono ?_
            rintro e w8 ⟨rfl, s8⟩
            clear s7
            go_wp2_with fail
            refine (classes_st s8).mono ?_
            rintro e w10 ⟨rfl, s10⟩
            go_wp2
            go_ret
            exact ⟨rfl, s10.below (Nat.le_refl _)⟩

end Go.Proofs.Ytpolbpjclklgbaa.kraftKnown
