/-
  Any acts on a row of bits answer as the document says: the walk of MsbWrites. No conditions.
-/
import Derived.Test.YtlhhoiimmalpgaaMRef3
import Derived.Test.YtlhhoiimmalpgaaMsbBackP
import Derived.Test.YtlhhoiimmalpgaaRegion
import Derived.StillTailTactics
namespace Go.Proofs.Ytlhhoiimmalpgaa.Msb.msbWrites
open Go.RowKit

/-- How long a row may be behind k acts, of which A were added to themselves. -/
def Cap (n k A : Nat) : Prop := n ≤ 32 * k * 2 ^ A

theorem Cap.small {n k A : Nat} (h : Cap n k A) (hk : k ≤ 40) (hA : A ≤ 4) : n ≤ 20480 := by
  unfold Cap at h
  have h1 : 2 ^ A ≤ 2 ^ 4 := Nat.pow_le_pow_right (by omega) hA
  have h2 : 32 * k * 2 ^ A ≤ 32 * 40 * 2 ^ 4 := Nat.mul_le_mul (by omega) h1
  omega

theorem Cap.more {n n' k A : Nat} (h : Cap n k A) (hn : n' ≤ n + 32) : Cap n' (k + 1) A := by
  unfold Cap at *
  have h1 := Nat.two_pow_pos A
  have h2 : 32 * (k + 1) * 2 ^ A = 32 * k * 2 ^ A + 32 * 2 ^ A := by rw [Nat.mul_add, Nat.add_mul]
  omega

theorem Cap.twice {n n' k A : Nat} (h : Cap n k A) (hn : n' = n + n) : Cap n' (k + 1) (A + 1) := by
  unfold Cap at *
  have h1 := Nat.two_pow_pos A
  have h2 : 32 * (k + 1) * 2 ^ (A + 1) = 2 * (32 * k * 2 ^ A) + 2 * (32 * 2 ^ A) := by rw [Nat.pow_succ, Nat.mul_add, Nat.add_mul, ← Nat.mul_assoc, ← Nat.mul_assoc]; omega
  omega

/-- Ahead of round k. -/
def Wrote (w : World) (l : List ActV) (rv ad i : Value) (wr : World) : Prop := ∃ (k A : Nat) (L : List Bool), k ≤ l.length ∧ A ≤ 4 ∧ Cap L.length k A ∧ i = .int .i64 (k : Int) ∧ ad = .int .i64 (A : Int) ∧ (∃ a c, rv = .slice a L.length c) ∧
  St w.heap.size w wr [wrT w.heap.size L, rowT 4 1 rv L.length (bools L)]

set_option maxRecDepth 100000 in
set_option maxHeartbeats 4000000 in
theorem walk (w : World) (s : Value) (l : List ActV) (hs : Acts w s l) :
    Calls Try.prog 3 #[s] w fun e w' => e = .returned (.bool true) ∧ Below w.heap.size w w' := by
  obtain ⟨a, cap, rfl, hmax, hat⟩ := hs
  unfold maxLen at hmax
  have H1 := Lib.hid hat
  clear hat
  by_cases c1 : 40 < l.length
  · have d1 : decide ((40 : Int) < (l.length : Int)) = true := by simp; omega
    go_enter Try.func3, Try.ntmps3
    go_wp2
    go_ret
    exact ⟨rfl, Below.refl _ _⟩
  · have d1 : decide ((40 : Int) < (l.length : Int)) = false := by simp; omega
    have s0 := ((St.start w).mnewWr).addNil (e := 4) (size := 1)
    have s1 := s0.swap
    clear s0
    go_enter Try.func3, Try.ntmps3
    go_wp2
    go_loopw [4, 5, 6] (fun v x i wr => Wrote w l v x i wr) (fun _ _ i _ => l.length - (intOf i).toNat)
    case atStart => exact ⟨0, 0, [], by omega, by omega, by simp [Cap], rfl, rfl, ⟨_, _, rfl⟩, s1⟩
    case round =>
      obtain ⟨k, A, L, hk, hA, hcapL, rfl, rfl, ⟨ra, rc, rfl⟩, st⟩ := hrel
      clear s1
      have hLs := hcapL.small (by omega) hA
      by_cases hlt : k < l.length
      · obtain ⟨hfit, b, off, rfl, hcell⟩ := H1.out k hlt
        obtain ⟨q0, q1, q2, q3⟩ := hcell.below (st.below (Nat.le_refl _)) (Nat.le_refl _)
        by_cases hal : l[k].al = true
        · rw [hal] at q2
          clear hal
          have hpd := padOf_lt L.length
          have hz : L ++ bitsOf 0 (padOf L.length) = alignL L := by rw [bitsOf_zero]; rfl
          have HZ := Lib.hid hz
          have hal : (alignL L).length = L.length + padOf L.length := by simp [alignL]
          have hcap2 : Cap (alignL L).length (k + 1) A := hcapL.more (by rw [hal]; omega)
          have hl2 : (alignL L).length ≤ 20488 := by omega
          have HP := Lib.hid hcap2
          clear hz hal hcap2
          go_wp2_with fail
          refine (walign_st st (by omega)).mono ?_
          rintro e w2 ⟨rfl, st2⟩
          rw [HZ.out] at st2
          have hr2 := RowAt.of_owns st2.swap.row
          clear st
          go_wp2_with fail
          refine (align_any w2 _ L hr2 (by omega)).mono ?_
          rintro e w3 ⟨v3, rfl, o3, b3⟩
          have st3 := (st2.swap.drop.addRow b3 o3).swap
          obtain ⟨a3, c3, rfl⟩ := ownsRow_slice o3
          clear st2 o3 b3 hr2 q0 q1 q2 q3
          go_wp2_with fail
          have se := st3.drew
          refine region_seg (by kernel_rfl) [1] 11 rfl (by kernel_rfl) (by kernel_rfl) (fun _ _ d _ _ h => by cases d <;> exact h) ?_
          intro K hK
          simp only [pickL, List.getElem?_cons_zero, List.getElem?_cons_succ]
          go_wp2_with fail
          refine wpAny_take (i := 2) (v := .int .i64 ((alignL L).length : Int)) rfl (by kernel_rfl) (by kernel_rfl) (by kernel_rfl) (fun _ _ _ h => h) (.inl ⟨rfl, fun w => by go_simp⟩) ?_
          refine mid_seg [0, 3, 4, 7, 5] 5 (by kernel_rfl) (by kernel_rfl) (fun _ _ d _ _ h => by cases d <;> exact h) ?_
          intro K hK
          simp only [pickL, List.getElem?_cons_zero, List.getElem?_cons_succ]
          go_wp2_with fail
          refine (len_st se).mono ?_
          rintro e we ⟨rfl, rfl⟩
          go_wp2_with fail
          refine (bytes_st se (by omega)).mono ?_
          rintro e wf ⟨vf, rfl, sf⟩
          have cvf := sf.string
          have hrf := RowAt.of_owns sf.third.row
          clear se st3
          go_wp2_with fail
          refine wpAny_late (c := 6) (v := .string (strOf (pk (alignL L)))) rfl (by kernel_rfl) (fun _ _ d _ _ h => by cases d <;> exact h) 2 [8, 9] _ _ _ (by kernel_rfl) ⟨rfl, by go_simp⟩ ?_
          refine late_step _ rfl ?_
          intro N hN
          go_wp2_with fail
          refine (rbytes_any wf _ (alignL L) hrf (by omega)).mono ?_
          rintro e wg ⟨vg, rfl, og, bg⟩
          have sg := sf.addRow bg og
          have cvg := sg.string
          have cvh := sg.swap.string
          clear sf og bg hrf
          go_wp2_with fail
          refine hN _ _ ⟨rfl, by go_simp⟩ ?_
          refine late_step _ rfl ?_
          intro N2 hN2
          go_wp2_with fail
          refine hN2 _ _ ⟨rfl, by go_simp⟩ ?_
          refine late_end ?_
          refine mid_seg [10, 11] 0 (by kernel_rfl) (by kernel_rfl) (fun _ _ d _ _ h => by cases d <;> exact h) ?_
          clear hN hN2 N N2 cvf cvg cvh
          have sh := sg.drop.drop
          clear sg
          intro K2 hK2
          simp only [pickL, List.getElem?_cons_zero, List.getElem?_cons_succ]
          go_wp2_with fail
          refine wpAny_done (by kernel_rfl) ?_ 0
          go_wp2
          go_roundw
          case rel => exact ⟨k + 1, A, alignL L, by omega, by omega, HP.out, by go_num, by go_num, ⟨_, _, rfl⟩, sh⟩
          case measure => simp [intOf]; omega
        · have hal' : l[k].al = false := by simpa using hal
          rw [hal'] at q2
          clear hal hal'
          by_cases had : l[k].ad = true
          · rw [had] at q3
            clear had
            by_cases hA4 : A < 4
            · obtain ⟨L2, hE⟩ : ∃ L2 : List Bool, L2 = L ++ L := ⟨_, rfl⟩
              have hLL : L.length + L.length = L2.length := by rw [hE, List.length_append]
              have hcap2 : Cap L2.length (k + 1) (A + 1) := hcapL.twice hLL.symm
              have hl2 := hcap2.small (by omega) (by omega)
              have HP := Lib.hid hcap2
              have HL := Lib.hid hLL
              have HE := Lib.hid hE
              obtain ⟨i0, hi, hz0, hz1, hz2⟩ := info_parts infoBool
              clear hcap2 hLL hE
              go_wp2_with fail
              refine (addself_st st (by omega)).mono ?_
              rintro e w2 ⟨rfl, st2⟩
              rw [← HE.out] at st2
              have st3 := ((st2.addRow (below_alloc w2 _) (World.ownsRow_made (base := w2.heap.size) (e := 4) (size := 1) w2 #[] 0 (Nat.le_refl _) (by unfold maxLen; omega) rfl)).third).swap
              clear st st2 q0 q1 q2 q3
              go_wp2_with ((at_builtin; refine wpList_append_row rfl (.tmp 71) (.tmp 72) 27 rfl 4 i0 (.bool false) 1 Try.underlying27 hi hz0 hz1 hz2 rfl st3 rfl rfl (bools_one _) ?c1 ?c2 ?_))
              case c1 => unfold maxLen; omega
              case c2 => omega
              intro v4 w4 st4
              clear st3
              go_wp2_with ((at_builtin; refine wpList_append_row rfl (.tmp 73) (.tmp 74) 27 rfl 4 i0 (.bool false) 1 Try.underlying27 hi hz0 hz1 hz2 rfl st4 rfl rfl (bools_one _) ?c1 ?c2 ?_))
              case c1 => unfold maxLen; omega
              case c2 => omega
              intro v5 w5 st5
              rw [← bools_append, ← HE.out, HL.out] at st5
              obtain ⟨a5, c5, rfl⟩ := ownsRow_slice st5.row
              have st6 := st5.swap.drop.swap
              clear st4 st5 hi hz0 hz1 hz2

              go_wp2_with fail
              have se := st6.drew
              refine region_seg (by kernel_rfl) [1] 11 rfl (by kernel_rfl) (by kernel_rfl) (fun _ _ d _ _ h => by cases d <;> exact h) ?_
              intro K hK
              simp only [pickL, List.getElem?_cons_zero, List.getElem?_cons_succ]
              go_wp2_with fail
              refine wpAny_take (i := 2) (v := .int .i64 ((L2).length : Int)) rfl (by kernel_rfl) (by kernel_rfl) (by kernel_rfl) (fun _ _ _ h => h) (.inl ⟨rfl, fun w => by go_simp⟩) ?_
              refine mid_seg [0, 3, 4, 7, 5] 5 (by kernel_rfl) (by kernel_rfl) (fun _ _ d _ _ h => by cases d <;> exact h) ?_
              intro K hK
              simp only [pickL, List.getElem?_cons_zero, List.getElem?_cons_succ]
              go_wp2_with fail
              refine (len_st se).mono ?_
              rintro e we ⟨rfl, rfl⟩
              go_wp2_with fail
              refine (bytes_st se (by omega)).mono ?_
              rintro e wf ⟨vf, rfl, sf⟩
              have cvf := sf.string
              have hrf := RowAt.of_owns sf.third.row
              clear se st6
              go_wp2_with fail
              refine wpAny_late (c := 6) (v := .string (strOf (pk (L2)))) rfl (by kernel_rfl) (fun _ _ d _ _ h => by cases d <;> exact h) 2 [8, 9] _ _ _ (by kernel_rfl) ⟨rfl, by go_simp⟩ ?_
              refine late_step _ rfl ?_
              intro N hN
              go_wp2_with fail
              refine (rbytes_any wf _ (L2) hrf (by omega)).mono ?_
              rintro e wg ⟨vg, rfl, og, bg⟩
              have sg := sf.addRow bg og
              have cvg := sg.string
              have cvh := sg.swap.string
              clear sf og bg hrf
              go_wp2_with fail
              refine hN _ _ ⟨rfl, by go_simp⟩ ?_
              refine late_step _ rfl ?_
              intro N2 hN2
              go_wp2_with fail
              refine hN2 _ _ ⟨rfl, by go_simp⟩ ?_
              refine late_end ?_
              refine mid_seg [10, 11] 0 (by kernel_rfl) (by kernel_rfl) (fun _ _ d _ _ h => by cases d <;> exact h) ?_
              clear hN hN2 N N2 cvf cvg cvh
              have sh := sg.drop.drop
              clear sg
              intro K2 hK2
              simp only [pickL, List.getElem?_cons_zero, List.getElem?_cons_succ]
              go_wp2_with fail
              refine wpAny_done (by kernel_rfl) ?_ 0
              go_wp2
              go_roundw
              case rel => exact ⟨k + 1, A + 1, L2, by omega, by omega, HP.out, by go_num, by go_num, ⟨_, _, rfl⟩, sh⟩
              case measure => simp [intOf]; omega
            · by_cases hput : 0 ≤ l[k].n ∧ l[k].n ≤ 32 ∧ l[k].v < 2 ^ l[k].n.toNat
              · obtain ⟨m, hm⟩ := Int.eq_ofNat_of_zero_le hput.1
                have hput' := hput
                rw [hm] at hput' q1
                rw [Int.toNat_natCast] at hput'
                obtain ⟨_, hm32, hvm⟩ := hput'
                obtain ⟨L2, hE⟩ : ∃ L2 : List Bool, L2 = L ++ bitsOf l[k].v m := ⟨_, rfl⟩
                have hll : L2.length = L.length + m := by rw [hE, List.length_append, bitsOf_length]
                have hcap2 : Cap L2.length (k + 1) A := hcapL.more (by rw [hll]; omega)
                have hl2 : L2.length ≤ 20512 := by omega
                have HE := Lib.hid hE
                have HP := Lib.hid hcap2
                have HV := Lib.hid hvm
                have HF := Lib.hid hfit
                have hc1 : ∀ w' : World, Below w.heap.size w w' → w'.cell? ⟨b, off + k * 4 + 1, none⟩ = some (.int .i64 (m : Int)) := fun w' hb' => by rw [(hcell.below hb' (Nat.le_refl _)).2.1, hm]
                have HC := Lib.hid hc1
                have hrow := RowAt.of_owns st.drew.swap.row
                clear hput hm hvm hll hcap2 hfit hc1 hE
                go_wp2_with fail
                refine region_seg (by kernel_rfl) [0, 1, 2, 6, 7] 12 rfl (by kernel_rfl) (by kernel_rfl) (fun _ _ d _ _ h => by cases d <;> exact h) ?_
                intro K hK
                simp only [pickL, List.getElem?_cons_zero, List.getElem?_cons_succ]
                go_wp2_with fail
                refine wpAny_take (i := 3) (v := .pointer (some ⟨b, off + k * 4, none⟩)) rfl (by kernel_rfl) (by kernel_rfl) (by kernel_rfl) (fun _ _ _ h => h) (.inl ⟨rfl, fun w => by go_simp⟩) ?_
                refine wpAny_take (i := 4) (v := .pointer (some ⟨b, off + k * 4, none⟩)) rfl (by kernel_rfl) (by kernel_rfl) (by kernel_rfl) (fun _ _ _ h => h) (.inl ⟨rfl, fun w => by go_simp⟩) ?_
                refine wpAny_late (c := 5) (v := .int .u32 (l[k].v : Int)) rfl (by kernel_rfl) (fun _ _ d _ _ h => by cases d <;> exact h) 6 [8, 9, 10] _ _ _ (by kernel_rfl) ⟨rfl, by go_simp⟩ ?_
                refine late_step _ rfl ?_
                intro N hN
                go_wp2_with fail
                refine hN _ _ ⟨rfl, by go_simp⟩ ?_
                clear hN N
                refine late_step _ rfl ?_
                intro N hN
                go_wp2_with fail
                refine hN _ _ ⟨rfl, by go_simp⟩ ?_
                clear hN N
                refine late_step _ rfl ?_
                intro N hN
                go_wp2_with fail
                refine hN _ _ ⟨rfl, by go_simp⟩ ?_
                clear hN N
                refine late_end ?_
                refine mid_seg [11, 12] 4 (by kernel_rfl) (by kernel_rfl) (fun _ _ d _ _ h => by cases d <;> exact h) ?_
                intro K2 hK2
                simp only [pickL, List.getElem?_cons_zero, List.getElem?_cons_succ]
                go_wp2_with fail
                refine (rput_ok wr.drew _ L l[k].v m hrow (by omega) HF.out.1 (by omega) HV.out).mono ?_
                rintro e w2 ⟨v2, rfl, o2, b2⟩
                rw [← HE.out] at o2
                have st2 := (st.drew.addRow b2 o2).swap
                obtain ⟨a2, c2, rfl⟩ := ownsRow_slice o2
                clear st o2 b2 hrow q0 q1 q2 q3
                go_wp2_with fail
                refine wpAny_take (i := 13) (v := .slice a2 L2.length c2) rfl (by kernel_rfl) (by kernel_rfl) (by kernel_rfl) (fun _ _ _ h => h) (.inl ⟨rfl, fun w => by go_simp⟩) ?_
                refine mid_seg [15, 14, 16] 0 (by kernel_rfl) (by kernel_rfl) (fun _ _ d _ _ h => by cases d <;> exact h) ?_
                intro K3 hK3
                simp only [pickL, List.getElem?_cons_zero, List.getElem?_cons_succ]
                go_wp2_with fail
                refine wpAny_done (by kernel_rfl) ?_ 0
                have q0 := (hcell.below (st2.below (Nat.le_refl _)) (Nat.le_refl _)).1
                have q1 := HC.out w2 (st2.below (Nat.le_refl _))
                go_wp2_with fail
                refine region_seg (by kernel_rfl) [0, 1, 5, 6, 11] 8 rfl (by kernel_rfl) (by kernel_rfl) (fun _ _ d _ _ h => by cases d <;> exact h) ?_
                intro K hK
                simp only [pickL, List.getElem?_cons_zero, List.getElem?_cons_succ]
                go_wp2_with fail
                refine wpAny_take (i := 2) (v := .pointer (some ⟨b, off + k * 4, none⟩)) rfl (by kernel_rfl) (by kernel_rfl) (by kernel_rfl) (fun _ _ _ h => h) (.inl ⟨rfl, fun w => by go_simp⟩) ?_
                refine wpAny_take (i := 3) (v := .pointer (some ⟨b, off + k * 4, none⟩)) rfl (by kernel_rfl) (by kernel_rfl) (by kernel_rfl) (fun _ _ _ h => h) (.inl ⟨rfl, fun w => by go_simp⟩) ?_
                refine wpAny_late (c := 4) (v := .int .u32 (l[k].v : Int)) rfl (by kernel_rfl) (fun _ _ d _ _ h => by cases d <;> exact h) 2 [7, 8, 9] _ _ _ (by kernel_rfl) ⟨rfl, by go_simp⟩ ?_
                refine late_step _ rfl ?_
                intro N hN
                go_wp2_with fail
                refine hN _ _ ⟨rfl, by go_simp⟩ ?_
                clear hN N
                refine late_step _ rfl ?_
                intro N hN
                go_wp2_with fail
                refine hN _ _ ⟨rfl, by go_simp⟩ ?_
                clear hN N
                refine late_step _ rfl ?_
                intro N hN
                go_wp2_with fail
                refine hN _ _ ⟨rfl, by go_simp⟩ ?_
                clear hN N
                refine late_end ?_
                refine mid_seg [10, 12] 0 (by kernel_rfl) (by kernel_rfl) (fun _ _ d _ _ h => by cases d <;> exact h) ?_
                intro K2 hK2
                simp only [pickL, List.getElem?_cons_zero, List.getElem?_cons_succ]
                go_wp2_with fail
                refine (put_st st2.drew l[k].v m (by omega) (by omega) HV.out).mono ?_
                rintro e w3 ⟨rfl, st3⟩
                rw [← HE.out] at st3
                have st4 := st3.third.drop
                clear st2 st3 q0 q1
                go_wp2_with fail
                refine wpAny_done (by kernel_rfl) ?_ 0
                go_wp2_with fail
                have se := st4.drew
                refine region_seg (by kernel_rfl) [1] 11 rfl (by kernel_rfl) (by kernel_rfl) (fun _ _ d _ _ h => by cases d <;> exact h) ?_
                intro K hK
                simp only [pickL, List.getElem?_cons_zero, List.getElem?_cons_succ]
                go_wp2_with fail
                refine wpAny_take (i := 2) (v := .int .i64 ((L2).length : Int)) rfl (by kernel_rfl) (by kernel_rfl) (by kernel_rfl) (fun _ _ _ h => h) (.inl ⟨rfl, fun w => by go_simp⟩) ?_
                refine mid_seg [0, 3, 4, 7, 5] 5 (by kernel_rfl) (by kernel_rfl) (fun _ _ d _ _ h => by cases d <;> exact h) ?_
                intro K hK
                simp only [pickL, List.getElem?_cons_zero, List.getElem?_cons_succ]
                go_wp2_with fail
                refine (len_st se).mono ?_
                rintro e we ⟨rfl, rfl⟩
                go_wp2_with fail
                refine (bytes_st se (by omega)).mono ?_
                rintro e wf ⟨vf, rfl, sf⟩
                have cvf := sf.string
                have hrf := RowAt.of_owns sf.third.row
                clear se st4
                go_wp2_with fail
                refine wpAny_late (c := 6) (v := .string (strOf (pk (L2)))) rfl (by kernel_rfl) (fun _ _ d _ _ h => by cases d <;> exact h) 2 [8, 9] _ _ _ (by kernel_rfl) ⟨rfl, by go_simp⟩ ?_
                refine late_step _ rfl ?_
                intro N hN
                go_wp2_with fail
                refine (rbytes_any wf _ (L2) hrf (by omega)).mono ?_
                rintro e wg ⟨vg, rfl, og, bg⟩
                have sg := sf.addRow bg og
                have cvg := sg.string
                have cvh := sg.swap.string
                clear sf og bg hrf
                go_wp2_with fail
                refine hN _ _ ⟨rfl, by go_simp⟩ ?_
                refine late_step _ rfl ?_
                intro N2 hN2
                go_wp2_with fail
                refine hN2 _ _ ⟨rfl, by go_simp⟩ ?_
                refine late_end ?_
                refine mid_seg [10, 11] 0 (by kernel_rfl) (by kernel_rfl) (fun _ _ d _ _ h => by cases d <;> exact h) ?_
                clear hN hN2 N N2 cvf cvg cvh
                have sh := sg.drop.drop
                clear sg
                intro K2 hK2
                simp only [pickL, List.getElem?_cons_zero, List.getElem?_cons_succ]
                go_wp2_with fail
                refine wpAny_done (by kernel_rfl) ?_ 0
                go_wp2
                go_roundw
                case rel => exact ⟨k + 1, A, L2, by omega, by omega, HP.out, by go_num, by go_num, ⟨_, _, rfl⟩, sh⟩
                case measure => simp [intOf]; omega
              · have hbad := bad_of l[k] hput
                have hcap2 : Cap L.length (k + 1) A := hcapL.more (by omega)
                have HP := Lib.hid hcap2
                have HF := Lib.hid hfit
                clear hput hcap2 hfit
                go_wp2_with fail
                refine region_seg (by kernel_rfl) [0, 1, 2, 6, 7] 12 rfl (by kernel_rfl) (by kernel_rfl) (fun _ _ d _ _ h => by cases d <;> exact h) ?_
                intro K hK
                simp only [pickL, List.getElem?_cons_zero, List.getElem?_cons_succ]
                go_wp2_with fail
                refine wpAny_take (i := 3) (v := .pointer (some ⟨b, off + k * 4, none⟩)) rfl (by kernel_rfl) (by kernel_rfl) (by kernel_rfl) (fun _ _ _ h => h) (.inl ⟨rfl, fun w => by go_simp⟩) ?_
                refine wpAny_take (i := 4) (v := .pointer (some ⟨b, off + k * 4, none⟩)) rfl (by kernel_rfl) (by kernel_rfl) (by kernel_rfl) (fun _ _ _ h => h) (.inl ⟨rfl, fun w => by go_simp⟩) ?_
                refine wpAny_late (c := 5) (v := .int .u32 (l[k].v : Int)) rfl (by kernel_rfl) (fun _ _ d _ _ h => by cases d <;> exact h) 6 [8, 9, 10] _ _ _ (by kernel_rfl) ⟨rfl, by go_simp⟩ ?_
                refine late_step _ rfl ?_
                intro N hN
                go_wp2_with fail
                refine hN _ _ ⟨rfl, by go_simp⟩ ?_
                clear hN N
                refine late_step _ rfl ?_
                intro N hN
                go_wp2_with fail
                refine hN _ _ ⟨rfl, by go_simp⟩ ?_
                clear hN N
                refine late_step _ rfl ?_
                intro N hN
                go_wp2_with fail
                refine hN _ _ ⟨rfl, by go_simp⟩ ?_
                clear hN N
                refine late_end ?_
                refine mid_seg [11, 12] 4 (by kernel_rfl) (by kernel_rfl) (fun _ _ d _ _ h => by cases d <;> exact h) ?_
                intro K2 hK2
                simp only [pickL, List.getElem?_cons_zero, List.getElem?_cons_succ]
                go_wp2_with fail
                refine (rput_arg wr.drew (.slice ra L.length rc) l[k].v l[k].n HF.out.1 hbad ⟨_, _, _, rfl⟩).mono ?_
                rintro e w2 ⟨rfl, rfl⟩
                have st2 := st.drew
                clear st
                go_wp2_with fail
                refine wpAny_take (i := 13) (v := .slice ra L.length rc) rfl (by kernel_rfl) (by kernel_rfl) (by kernel_rfl) (fun _ _ _ h => h) (.inl ⟨rfl, fun w => by go_simp⟩) ?_
                refine mid_seg [15, 14, 16] 0 (by kernel_rfl) (by kernel_rfl) (fun _ _ d _ _ h => by cases d <;> exact h) ?_
                intro K3 hK3
                simp only [pickL, List.getElem?_cons_zero, List.getElem?_cons_succ]
                go_wp2_with fail
                refine wpAny_done (by kernel_rfl) ?_ 0
                go_wp2_with fail
                refine region_seg (by kernel_rfl) [0, 1, 5, 6, 11] 8 rfl (by kernel_rfl) (by kernel_rfl) (fun _ _ d _ _ h => by cases d <;> exact h) ?_
                intro K hK
                simp only [pickL, List.getElem?_cons_zero, List.getElem?_cons_succ]
                go_wp2_with fail
                refine wpAny_take (i := 2) (v := .pointer (some ⟨b, off + k * 4, none⟩)) rfl (by kernel_rfl) (by kernel_rfl) (by kernel_rfl) (fun _ _ _ h => h) (.inl ⟨rfl, fun w => by go_simp⟩) ?_
                refine wpAny_take (i := 3) (v := .pointer (some ⟨b, off + k * 4, none⟩)) rfl (by kernel_rfl) (by kernel_rfl) (by kernel_rfl) (fun _ _ _ h => h) (.inl ⟨rfl, fun w => by go_simp⟩) ?_
                refine wpAny_late (c := 4) (v := .int .u32 (l[k].v : Int)) rfl (by kernel_rfl) (fun _ _ d _ _ h => by cases d <;> exact h) 2 [7, 8, 9] _ _ _ (by kernel_rfl) ⟨rfl, by go_simp⟩ ?_
                refine late_step _ rfl ?_
                intro N hN
                go_wp2_with fail
                refine hN _ _ ⟨rfl, by go_simp⟩ ?_
                clear hN N
                refine late_step _ rfl ?_
                intro N hN
                go_wp2_with fail
                refine hN _ _ ⟨rfl, by go_simp⟩ ?_
                clear hN N
                refine late_step _ rfl ?_
                intro N hN
                go_wp2_with fail
                refine hN _ _ ⟨rfl, by go_simp⟩ ?_
                clear hN N
                refine late_end ?_
                refine mid_seg [10, 12] 0 (by kernel_rfl) (by kernel_rfl) (fun _ _ d _ _ h => by cases d <;> exact h) ?_
                intro K2 hK2
                simp only [pickL, List.getElem?_cons_zero, List.getElem?_cons_succ]
                go_wp2_with fail
                refine (put_arg wr.drew.drew w.heap.size (l[k].v : Int) l[k].n (by have := HF.out.1; omega) (by have := HF.out.1; omega) hbad).mono ?_
                rintro e w3 ⟨rfl, rfl⟩
                have st4 := st2.drew
                clear st2 q0 q1 q2 q3
                go_wp2_with fail
                refine wpAny_done (by kernel_rfl) ?_ 0
                go_wp2_with fail
                have se := st4.drew
                refine region_seg (by kernel_rfl) [1] 11 rfl (by kernel_rfl) (by kernel_rfl) (fun _ _ d _ _ h => by cases d <;> exact h) ?_
                intro K hK
                simp only [pickL, List.getElem?_cons_zero, List.getElem?_cons_succ]
                go_wp2_with fail
                refine wpAny_take (i := 2) (v := .int .i64 ((L).length : Int)) rfl (by kernel_rfl) (by kernel_rfl) (by kernel_rfl) (fun _ _ _ h => h) (.inl ⟨rfl, fun w => by go_simp⟩) ?_
                refine mid_seg [0, 3, 4, 7, 5] 5 (by kernel_rfl) (by kernel_rfl) (fun _ _ d _ _ h => by cases d <;> exact h) ?_
                intro K hK
                simp only [pickL, List.getElem?_cons_zero, List.getElem?_cons_succ]
                go_wp2_with fail
                refine (len_st se).mono ?_
                rintro e we ⟨rfl, rfl⟩
                go_wp2_with fail
                refine (bytes_st se (by omega)).mono ?_
                rintro e wf ⟨vf, rfl, sf⟩
                have cvf := sf.string
                have hrf := RowAt.of_owns sf.third.row
                clear se st4
                go_wp2_with fail
                refine wpAny_late (c := 6) (v := .string (strOf (pk (L)))) rfl (by kernel_rfl) (fun _ _ d _ _ h => by cases d <;> exact h) 2 [8, 9] _ _ _ (by kernel_rfl) ⟨rfl, by go_simp⟩ ?_
                refine late_step _ rfl ?_
                intro N hN
                go_wp2_with fail
                refine (rbytes_any wf _ (L) hrf (by omega)).mono ?_
                rintro e wg ⟨vg, rfl, og, bg⟩
                have sg := sf.addRow bg og
                have cvg := sg.string
                have cvh := sg.swap.string
                clear sf og bg hrf
                go_wp2_with fail
                refine hN _ _ ⟨rfl, by go_simp⟩ ?_
                refine late_step _ rfl ?_
                intro N2 hN2
                go_wp2_with fail
                refine hN2 _ _ ⟨rfl, by go_simp⟩ ?_
                refine late_end ?_
                refine mid_seg [10, 11] 0 (by kernel_rfl) (by kernel_rfl) (fun _ _ d _ _ h => by cases d <;> exact h) ?_
                clear hN hN2 N N2 cvf cvg cvh
                have sh := sg.drop.drop
                clear sg
                intro K2 hK2
                simp only [pickL, List.getElem?_cons_zero, List.getElem?_cons_succ]
                go_wp2_with fail
                refine wpAny_done (by kernel_rfl) ?_ 0
                go_wp2
                go_roundw
                case rel => exact ⟨k + 1, A, L, by omega, by omega, HP.out, by go_num, by go_num, ⟨_, _, rfl⟩, sh⟩
                case measure => simp [intOf]; omega
          · have had' : l[k].ad = false := by simpa using had
            rw [had'] at q3
            clear had had'
            by_cases hput : 0 ≤ l[k].n ∧ l[k].n ≤ 32 ∧ l[k].v < 2 ^ l[k].n.toNat
            · obtain ⟨m, hm⟩ := Int.eq_ofNat_of_zero_le hput.1
              have hput' := hput
              rw [hm] at hput' q1
              rw [Int.toNat_natCast] at hput'
              obtain ⟨_, hm32, hvm⟩ := hput'
              obtain ⟨L2, hE⟩ : ∃ L2 : List Bool, L2 = L ++ bitsOf l[k].v m := ⟨_, rfl⟩
              have hll : L2.length = L.length + m := by rw [hE, List.length_append, bitsOf_length]
              have hcap2 : Cap L2.length (k + 1) A := hcapL.more (by rw [hll]; omega)
              have hl2 : L2.length ≤ 20512 := by omega
              have HE := Lib.hid hE
              have HP := Lib.hid hcap2
              have HV := Lib.hid hvm
              have HF := Lib.hid hfit
              have hc1 : ∀ w' : World, Below w.heap.size w w' → w'.cell? ⟨b, off + k * 4 + 1, none⟩ = some (.int .i64 (m : Int)) := fun w' hb' => by rw [(hcell.below hb' (Nat.le_refl _)).2.1, hm]
              have HC := Lib.hid hc1
              have hrow := RowAt.of_owns st.drew.swap.row
              clear hput hm hvm hll hcap2 hfit hc1 hE
              go_wp2_with fail
              refine region_seg (by kernel_rfl) [0, 1, 2, 6, 7] 12 rfl (by kernel_rfl) (by kernel_rfl) (fun _ _ d _ _ h => by cases d <;> exact h) ?_
              intro K hK
              simp only [pickL, List.getElem?_cons_zero, List.getElem?_cons_succ]
              go_wp2_with fail
              refine wpAny_take (i := 3) (v := .pointer (some ⟨b, off + k * 4, none⟩)) rfl (by kernel_rfl) (by kernel_rfl) (by kernel_rfl) (fun _ _ _ h => h) (.inl ⟨rfl, fun w => by go_simp⟩) ?_
              refine wpAny_take (i := 4) (v := .pointer (some ⟨b, off + k * 4, none⟩)) rfl (by kernel_rfl) (by kernel_rfl) (by kernel_rfl) (fun _ _ _ h => h) (.inl ⟨rfl, fun w => by go_simp⟩) ?_
              refine wpAny_late (c := 5) (v := .int .u32 (l[k].v : Int)) rfl (by kernel_rfl) (fun _ _ d _ _ h => by cases d <;> exact h) 6 [8, 9, 10] _ _ _ (by kernel_rfl) ⟨rfl, by go_simp⟩ ?_
              refine late_step _ rfl ?_
              intro N hN
              go_wp2_with fail
              refine hN _ _ ⟨rfl, by go_simp⟩ ?_
              clear hN N
              refine late_step _ rfl ?_
              intro N hN
              go_wp2_with fail
              refine hN _ _ ⟨rfl, by go_simp⟩ ?_
              clear hN N
              refine late_step _ rfl ?_
              intro N hN
              go_wp2_with fail
              refine hN _ _ ⟨rfl, by go_simp⟩ ?_
              clear hN N
              refine late_end ?_
              refine mid_seg [11, 12] 4 (by kernel_rfl) (by kernel_rfl) (fun _ _ d _ _ h => by cases d <;> exact h) ?_
              intro K2 hK2
              simp only [pickL, List.getElem?_cons_zero, List.getElem?_cons_succ]
              go_wp2_with fail
              refine (rput_ok wr.drew _ L l[k].v m hrow (by omega) HF.out.1 (by omega) HV.out).mono ?_
              rintro e w2 ⟨v2, rfl, o2, b2⟩
              rw [← HE.out] at o2
              have st2 := (st.drew.addRow b2 o2).swap
              obtain ⟨a2, c2, rfl⟩ := ownsRow_slice o2
              clear st o2 b2 hrow q0 q1 q2 q3
              go_wp2_with fail
              refine wpAny_take (i := 13) (v := .slice a2 L2.length c2) rfl (by kernel_rfl) (by kernel_rfl) (by kernel_rfl) (fun _ _ _ h => h) (.inl ⟨rfl, fun w => by go_simp⟩) ?_
              refine mid_seg [15, 14, 16] 0 (by kernel_rfl) (by kernel_rfl) (fun _ _ d _ _ h => by cases d <;> exact h) ?_
              intro K3 hK3
              simp only [pickL, List.getElem?_cons_zero, List.getElem?_cons_succ]
              go_wp2_with fail
              refine wpAny_done (by kernel_rfl) ?_ 0
              have q0 := (hcell.below (st2.below (Nat.le_refl _)) (Nat.le_refl _)).1
              have q1 := HC.out w2 (st2.below (Nat.le_refl _))
              go_wp2_with fail
              refine region_seg (by kernel_rfl) [0, 1, 5, 6, 11] 8 rfl (by kernel_rfl) (by kernel_rfl) (fun _ _ d _ _ h => by cases d <;> exact h) ?_
              intro K hK
              simp only [pickL, List.getElem?_cons_zero, List.getElem?_cons_succ]
              go_wp2_with fail
              refine wpAny_take (i := 2) (v := .pointer (some ⟨b, off + k * 4, none⟩)) rfl (by kernel_rfl) (by kernel_rfl) (by kernel_rfl) (fun _ _ _ h => h) (.inl ⟨rfl, fun w => by go_simp⟩) ?_
              refine wpAny_take (i := 3) (v := .pointer (some ⟨b, off + k * 4, none⟩)) rfl (by kernel_rfl) (by kernel_rfl) (by kernel_rfl) (fun _ _ _ h => h) (.inl ⟨rfl, fun w => by go_simp⟩) ?_
              refine wpAny_late (c := 4) (v := .int .u32 (l[k].v : Int)) rfl (by kernel_rfl) (fun _ _ d _ _ h => by cases d <;> exact h) 2 [7, 8, 9] _ _ _ (by kernel_rfl) ⟨rfl, by go_simp⟩ ?_
              refine late_step _ rfl ?_
              intro N hN
              go_wp2_with fail
              refine hN _ _ ⟨rfl, by go_simp⟩ ?_
              clear hN N
              refine late_step _ rfl ?_
              intro N hN
              go_wp2_with fail
              refine hN _ _ ⟨rfl, by go_simp⟩ ?_
              clear hN N
              refine late_step _ rfl ?_
              intro N hN
              go_wp2_with fail
              refine hN _ _ ⟨rfl, by go_simp⟩ ?_
              clear hN N
              refine late_end ?_
              refine mid_seg [10, 12] 0 (by kernel_rfl) (by kernel_rfl) (fun _ _ d _ _ h => by cases d <;> exact h) ?_
              intro K2 hK2
              simp only [pickL, List.getElem?_cons_zero, List.getElem?_cons_succ]
              go_wp2_with fail
              refine (put_st st2.drew l[k].v m (by omega) (by omega) HV.out).mono ?_
              rintro e w3 ⟨rfl, st3⟩
              rw [← HE.out] at st3
              have st4 := st3.third.drop
              clear st2 st3 q0 q1
              go_wp2_with fail
              refine wpAny_done (by kernel_rfl) ?_ 0
              go_wp2_with fail
              have se := st4.drew
              refine region_seg (by kernel_rfl) [1] 11 rfl (by kernel_rfl) (by kernel_rfl) (fun _ _ d _ _ h => by cases d <;> exact h) ?_
              intro K hK
              simp only [pickL, List.getElem?_cons_zero, List.getElem?_cons_succ]
              go_wp2_with fail
              refine wpAny_take (i := 2) (v := .int .i64 ((L2).length : Int)) rfl (by kernel_rfl) (by kernel_rfl) (by kernel_rfl) (fun _ _ _ h => h) (.inl ⟨rfl, fun w => by go_simp⟩) ?_
              refine mid_seg [0, 3, 4, 7, 5] 5 (by kernel_rfl) (by kernel_rfl) (fun _ _ d _ _ h => by cases d <;> exact h) ?_
              intro K hK
              simp only [pickL, List.getElem?_cons_zero, List.getElem?_cons_succ]
              go_wp2_with fail
              refine (len_st se).mono ?_
              rintro e we ⟨rfl, rfl⟩
              go_wp2_with fail
              refine (bytes_st se (by omega)).mono ?_
              rintro e wf ⟨vf, rfl, sf⟩
              have cvf := sf.string
              have hrf := RowAt.of_owns sf.third.row
              clear se st4
              go_wp2_with fail
              refine wpAny_late (c := 6) (v := .string (strOf (pk (L2)))) rfl (by kernel_rfl) (fun _ _ d _ _ h => by cases d <;> exact h) 2 [8, 9] _ _ _ (by kernel_rfl) ⟨rfl, by go_simp⟩ ?_
              refine late_step _ rfl ?_
              intro N hN
              go_wp2_with fail
              refine (rbytes_any wf _ (L2) hrf (by omega)).mono ?_
              rintro e wg ⟨vg, rfl, og, bg⟩
              have sg := sf.addRow bg og
              have cvg := sg.string
              have cvh := sg.swap.string
              clear sf og bg hrf
              go_wp2_with fail
              refine hN _ _ ⟨rfl, by go_simp⟩ ?_
              refine late_step _ rfl ?_
              intro N2 hN2
              go_wp2_with fail
              refine hN2 _ _ ⟨rfl, by go_simp⟩ ?_
              refine late_end ?_
              refine mid_seg [10, 11] 0 (by kernel_rfl) (by kernel_rfl) (fun _ _ d _ _ h => by cases d <;> exact h) ?_
              clear hN hN2 N N2 cvf cvg cvh
              have sh := sg.drop.drop
              clear sg
              intro K2 hK2
              simp only [pickL, List.getElem?_cons_zero, List.getElem?_cons_succ]
              go_wp2_with fail
              refine wpAny_done (by kernel_rfl) ?_ 0
              go_wp2
              go_roundw
              case rel => exact ⟨k + 1, A, L2, by omega, by omega, HP.out, by go_num, by go_num, ⟨_, _, rfl⟩, sh⟩
              case measure => simp [intOf]; omega
            · have hbad := bad_of l[k] hput
              have hcap2 : Cap L.length (k + 1) A := hcapL.more (by omega)
              have HP := Lib.hid hcap2
              have HF := Lib.hid hfit
              clear hput hcap2 hfit
              go_wp2_with fail
              refine region_seg (by kernel_rfl) [0, 1, 2, 6, 7] 12 rfl (by kernel_rfl) (by kernel_rfl) (fun _ _ d _ _ h => by cases d <;> exact h) ?_
              intro K hK
              simp only [pickL, List.getElem?_cons_zero, List.getElem?_cons_succ]
              go_wp2_with fail
              refine wpAny_take (i := 3) (v := .pointer (some ⟨b, off + k * 4, none⟩)) rfl (by kernel_rfl) (by kernel_rfl) (by kernel_rfl) (fun _ _ _ h => h) (.inl ⟨rfl, fun w => by go_simp⟩) ?_
              refine wpAny_take (i := 4) (v := .pointer (some ⟨b, off + k * 4, none⟩)) rfl (by kernel_rfl) (by kernel_rfl) (by kernel_rfl) (fun _ _ _ h => h) (.inl ⟨rfl, fun w => by go_simp⟩) ?_
              refine wpAny_late (c := 5) (v := .int .u32 (l[k].v : Int)) rfl (by kernel_rfl) (fun _ _ d _ _ h => by cases d <;> exact h) 6 [8, 9, 10] _ _ _ (by kernel_rfl) ⟨rfl, by go_simp⟩ ?_
              refine late_step _ rfl ?_
              intro N hN
              go_wp2_with fail
              refine hN _ _ ⟨rfl, by go_simp⟩ ?_
              clear hN N
              refine late_step _ rfl ?_
              intro N hN
              go_wp2_with fail
              refine hN _ _ ⟨rfl, by go_simp⟩ ?_
              clear hN N
              refine late_step _ rfl ?_
              intro N hN
              go_wp2_with fail
              refine hN _ _ ⟨rfl, by go_simp⟩ ?_
              clear hN N
              refine late_end ?_
              refine mid_seg [11, 12] 4 (by kernel_rfl) (by kernel_rfl) (fun _ _ d _ _ h => by cases d <;> exact h) ?_
              intro K2 hK2
              simp only [pickL, List.getElem?_cons_zero, List.getElem?_cons_succ]
              go_wp2_with fail
              refine (rput_arg wr.drew (.slice ra L.length rc) l[k].v l[k].n HF.out.1 hbad ⟨_, _, _, rfl⟩).mono ?_
              rintro e w2 ⟨rfl, rfl⟩
              have st2 := st.drew
              clear st
              go_wp2_with fail
              refine wpAny_take (i := 13) (v := .slice ra L.length rc) rfl (by kernel_rfl) (by kernel_rfl) (by kernel_rfl) (fun _ _ _ h => h) (.inl ⟨rfl, fun w => by go_simp⟩) ?_
              refine mid_seg [15, 14, 16] 0 (by kernel_rfl) (by kernel_rfl) (fun _ _ d _ _ h => by cases d <;> exact h) ?_
              intro K3 hK3
              simp only [pickL, List.getElem?_cons_zero, List.getElem?_cons_succ]
              go_wp2_with fail
              refine wpAny_done (by kernel_rfl) ?_ 0
              go_wp2_with fail
              refine region_seg (by kernel_rfl) [0, 1, 5, 6, 11] 8 rfl (by kernel_rfl) (by kernel_rfl) (fun _ _ d _ _ h => by cases d <;> exact h) ?_
              intro K hK
              simp only [pickL, List.getElem?_cons_zero, List.getElem?_cons_succ]
              go_wp2_with fail
              refine wpAny_take (i := 2) (v := .pointer (some ⟨b, off + k * 4, none⟩)) rfl (by kernel_rfl) (by kernel_rfl) (by kernel_rfl) (fun _ _ _ h => h) (.inl ⟨rfl, fun w => by go_simp⟩) ?_
              refine wpAny_take (i := 3) (v := .pointer (some ⟨b, off + k * 4, none⟩)) rfl (by kernel_rfl) (by kernel_rfl) (by kernel_rfl) (fun _ _ _ h => h) (.inl ⟨rfl, fun w => by go_simp⟩) ?_
              refine wpAny_late (c := 4) (v := .int .u32 (l[k].v : Int)) rfl (by kernel_rfl) (fun _ _ d _ _ h => by cases d <;> exact h) 2 [7, 8, 9] _ _ _ (by kernel_rfl) ⟨rfl, by go_simp⟩ ?_
              refine late_step _ rfl ?_
              intro N hN
              go_wp2_with fail
              refine hN _ _ ⟨rfl, by go_simp⟩ ?_
              clear hN N
              refine late_step _ rfl ?_
              intro N hN
              go_wp2_with fail
              refine hN _ _ ⟨rfl, by go_simp⟩ ?_
              clear hN N
              refine late_step _ rfl ?_
              intro N hN
              go_wp2_with fail
              refine hN _ _ ⟨rfl, by go_simp⟩ ?_
              clear hN N
              refine late_end ?_
              refine mid_seg [10, 12] 0 (by kernel_rfl) (by kernel_rfl) (fun _ _ d _ _ h => by cases d <;> exact h) ?_
              intro K2 hK2
              simp only [pickL, List.getElem?_cons_zero, List.getElem?_cons_succ]
              go_wp2_with fail
              refine (put_arg wr.drew.drew w.heap.size (l[k].v : Int) l[k].n (by have := HF.out.1; omega) (by have := HF.out.1; omega) hbad).mono ?_
              rintro e w3 ⟨rfl, rfl⟩
              have st4 := st2.drew
              clear st2 q0 q1 q2 q3
              go_wp2_with fail
              refine wpAny_done (by kernel_rfl) ?_ 0
              go_wp2_with fail
              have se := st4.drew
              refine region_seg (by kernel_rfl) [1] 11 rfl (by kernel_rfl) (by kernel_rfl) (fun _ _ d _ _ h => by cases d <;> exact h) ?_
              intro K hK
              simp only [pickL, List.getElem?_cons_zero, List.getElem?_cons_succ]
              go_wp2_with fail
              refine wpAny_take (i := 2) (v := .int .i64 ((L).length : Int)) rfl (by kernel_rfl) (by kernel_rfl) (by kernel_rfl) (fun _ _ _ h => h) (.inl ⟨rfl, fun w => by go_simp⟩) ?_
              refine mid_seg [0, 3, 4, 7, 5] 5 (by kernel_rfl) (by kernel_rfl) (fun _ _ d _ _ h => by cases d <;> exact h) ?_
              intro K hK
              simp only [pickL, List.getElem?_cons_zero, List.getElem?_cons_succ]
              go_wp2_with fail
              refine (len_st se).mono ?_
              rintro e we ⟨rfl, rfl⟩
              go_wp2_with fail
              refine (bytes_st se (by omega)).mono ?_
              rintro e wf ⟨vf, rfl, sf⟩
              have cvf := sf.string
              have hrf := RowAt.of_owns sf.third.row
              clear se st4
              go_wp2_with fail
              refine wpAny_late (c := 6) (v := .string (strOf (pk (L)))) rfl (by kernel_rfl) (fun _ _ d _ _ h => by cases d <;> exact h) 2 [8, 9] _ _ _ (by kernel_rfl) ⟨rfl, by go_simp⟩ ?_
              refine late_step _ rfl ?_
              intro N hN
              go_wp2_with fail
              refine (rbytes_any wf _ (L) hrf (by omega)).mono ?_
              rintro e wg ⟨vg, rfl, og, bg⟩
              have sg := sf.addRow bg og
              have cvg := sg.string
              have cvh := sg.swap.string
              clear sf og bg hrf
              go_wp2_with fail
              refine hN _ _ ⟨rfl, by go_simp⟩ ?_
              refine late_step _ rfl ?_
              intro N2 hN2
              go_wp2_with fail
              refine hN2 _ _ ⟨rfl, by go_simp⟩ ?_
              refine late_end ?_
              refine mid_seg [10, 11] 0 (by kernel_rfl) (by kernel_rfl) (fun _ _ d _ _ h => by cases d <;> exact h) ?_
              clear hN hN2 N N2 cvf cvg cvh
              have sh := sg.drop.drop
              clear sg
              intro K2 hK2
              simp only [pickL, List.getElem?_cons_zero, List.getElem?_cons_succ]
              go_wp2_with fail
              refine wpAny_done (by kernel_rfl) ?_ 0
              go_wp2
              go_roundw
              case rel => exact ⟨k + 1, A, L, by omega, by omega, HP.out, by go_num, by go_num, ⟨_, _, rfl⟩, sh⟩
              case measure => simp [intOf]; omega
      · go_wp2_with fail
        refine (lays_st st).mono ?_
        rintro e w2 ⟨rfl, s2⟩
        go_wp2
        go_ret
        exact ⟨rfl, s2.below (Nat.le_refl _)⟩

end Go.Proofs.Ytlhhoiimmalpgaa.Msb.msbWrites
