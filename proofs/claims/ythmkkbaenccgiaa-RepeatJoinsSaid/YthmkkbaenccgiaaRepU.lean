/-
  Contracts of package repeat: Unpack. No conditions but those of the call.
-/
import Derived.Test.YthmkkbaenccgiaaRepF
import Derived.Test.YthmkkbaenccgiaaRepM
import Derived.Test.YthmkkbaenccgiaaHeld
import Derived.Test.YthmkkbaenccgiaaBox
namespace Go.Proofs.Ythmkkbaenccgiaa.Rep
open Go.RowKit

theorem say_drop (l : List (Nat × Nat)) (k : Nat) (out : List Nat) (h : say [] (l.take k) = some out) : say [] l = say out (l.drop k) := by
  have e : say [] (l.take k ++ l.drop k) = say out (l.drop k) := by rw [say_append, h]; rfl
  rwa [List.take_append_drop] at e

theorem say_next (l : List (Nat × Nat)) (k : Nat) (hk : k < l.length) (out : List Nat) (h : say [] (l.take k) = some out) (hn : ¬ (l[k].1 = 16 ∧ out = [])) :
    say [] (l.take (k + 1)) = some (out ++ List.replicate (times l[k]) (lengthOf l[k] out)) := by
  rw [List.take_succ_eq_append_getElem hk, say_append, h]
  show say out [l[k]] = _
  rw [say, if_neg hn, say]

theorem unErr_bad {l : List (Nat × Nat)} (h : l.all fits = false) (n : Int) : unErr l n = 5 ∧ unAns l n = [] := by
  unfold unErr unAns
  rw [if_pos h, if_pos h]
  exact ⟨rfl, rfl⟩

theorem unErr_none {l : List (Nat × Nat)} (hf : l.all fits = true) (n : Int) (k : Nat) (hk : k < l.length) (out : List Nat) (h : say [] (l.take k) = some out) (hn : l[k].1 = 16 ∧ out = []) : unErr l n = 2 ∧ unAns l n = [] := by
  have e : say [] l = none := by
    rw [say_drop l k out h, List.drop_eq_getElem_cons hk, say, if_pos hn]
  unfold unErr unAns
  rw [if_neg (by simp [hf]), if_neg (by simp [hf]), e]
  exact ⟨rfl, rfl⟩

theorem unErr_over {l : List (Nat × Nat)} (hf : l.all fits = true) (n : Int) (k : Nat) (hk : k < l.length) (out : List Nat) (h : say [] (l.take k) = some out) (hn : ¬ (l[k].1 = 16 ∧ out = [])) (ho : n < (out.length : Int) + (times l[k] : Int)) : unErr l n = 2 ∧ unAns l n = [] := by
  have e := say_drop l (k + 1) _ (say_next l k hk out h hn)
  unfold unErr unAns
  rw [if_neg (by simp [hf]), if_neg (by simp [hf])]
  cases ho2 : say [] l with
  | none => exact ⟨rfl, rfl⟩
  | some o =>
    rw [ho2] at e
    have := say_longer _ _ _ e.symm
    rw [List.length_append, List.length_replicate] at this
    have hne : ¬ (o.length : Int) = n := by omega
    simp [hne]

theorem unErr_end {l : List (Nat × Nat)} (hf : l.all fits = true) (n : Int) (out : List Nat) (h : say [] l = some out) : unErr l n = (if (out.length : Int) = n then 0 else 2) ∧ unAns l n = if (out.length : Int) = n then out else [] := by
  have hf' : ¬ l.all fits = false := by simp [hf]
  unfold unErr unAns
  rw [if_neg hf', if_neg hf', h]
  exact ⟨rfl, rfl⟩

theorem lengthOf_lt (s : Nat × Nat) (hs : s.1 < 256) (out : List Nat) (ho : ∀ x ∈ out, x < 256) : lengthOf s out < 256 := by
  unfold lengthOf
  split
  · rcases List.eq_nil_or_concat out with rfl | ⟨ys, y, rfl⟩
    · simp
    · rw [List.concat_eq_append] at ho ⊢
      simp
      exact ho y (by simp)
  · split <;> omega

/-- What Unpack answers. -/
def UnpackSt (B : Nat) (w0 : World) (r : List Thing) (l : List (Nat × Nat)) (n : Int) (e : Ending) (w' : World) : Prop :=
  ∃ v', e = .returned (.tuple #[v', .int .i64 (unErr l n : Int)]) ∧ St B w0 w' (rowT 5 1 v' (unAns l n).length (u8s (unAns l n)) :: r)

theorem UnpackSt.none {B : Nat} {w0 w : World} {r : List Thing} {l : List (Nat × Nat)} {n : Int} {k : Nat} (st : St B w0 w r) (h : unErr l n = k ∧ unAns l n = []) : UnpackSt B w0 r l n (.returned (.tuple #[.slice none 0 0, .int .i64 (k : Int)])) w := by
  refine ⟨_, by rw [h.1], ?_⟩
  rw [h.2]
  exact st.addNil

set_option maxRecDepth 100000 in
set_option maxHeartbeats 4000000 in
/-- Unpack. -/
theorem unpack_st {B : Nat} {w0 w : World} {r : List Thing} (st : St B w0 w r) (v : Value) (l : List (Nat × Nat)) (h : ∀ W, St B w0 W r → SignRow W v l) (hl : l.length ≤ 100000) (n : Int) (hn0 : -9223372036854775808 ≤ n) (hn1 : n ≤ 9223372036854775807) :
    Calls Try.prog 13 #[v, .int .i64 n] w (UnpackSt B w0 r l n) := by
  have hcon := containsS_any w v l (h w st) (by omega)
  have hrow := h
  obtain ⟨a, cap, rfl, hc, hmx, hnn, -⟩ := h w st
  clear h
  cases hf : l.all fits with
  | false =>
    have hE := unErr_bad hf n
    rw [hf] at hcon
    have hE := fun W (s : St B w0 W r) => UnpackSt.none s hE
    clear hrow hc hmx hnn hn0 hn1 hf hl
    go_enter Try.func13, Try.ntmps13
    go_wp2_with (go_at_call 19; refine hcon.mono ?_; rintro e w1 ⟨rfl, hb⟩)
    go_ret2
    exact hE _ (st.quiet (by assumption))
  | true =>
    rw [hf] at hcon
    obtain ⟨i0, hi, hz0, hz1, hz2⟩ := info_parts info8
    go_enter Try.func13, Try.ntmps13
    go_wp2_with (go_at_call 19; refine hcon.mono ?_; rintro e w1 ⟨rfl, hb⟩)
    have s0 := (st.quiet hb).addNil (e := 5) (size := 1)
    clear st hcon hb
    go_loopw [6, 8, 13] (fun v _ i wr => ∃ (k : Nat) (out : List Nat), k ≤ l.length ∧ i = .int .i64 (k : Int) ∧ Hid (say [] (l.take k) = some out) ∧ Hid (out = [] ∨ (out.length : Int) ≤ n) ∧ out.length ≤ k * 138 ∧ Hid (∀ x ∈ out, x < 256) ∧ St B w0 wr (rowT 5 1 v out.length (u8s out) :: r)) (fun _ _ i _ => l.length - (intOf i).toNat)
    case atStart => exact ⟨0, [], Nat.zero_le _, rfl, Lib.hid rfl, Lib.hid (.inl rfl), Nat.zero_le _, Lib.hid (fun x hx => by cases hx), s0⟩
    case round =>
      clear s0
      obtain ⟨k, out, hk, rfl, hsay, hon, hol, hob, s1⟩ := hrel
      obtain ⟨va, vc, rfl⟩ := ownsRow_slice s1.row
      have HF := Lib.hid hf
      clear hf
      by_cases hlt : k < l.length
      · obtain ⟨a', cap', e1, _, _, _, hat⟩ := hrow _ s1.drop
        obtain ⟨rfl, -, rfl⟩ := Value.slice.inj e1
        obtain ⟨⟨hy0, hy1⟩, b, off, rfl, c0, c1⟩ := hat k hlt
        obtain ⟨c, x, hs⟩ : ∃ c x, l[k] = (c, x) := ⟨_, _, rfl⟩
        rw [hs] at c0 c1 hy0 hy1
        have hfit : fits (c, x) = true := by rw [← hs]; exact List.all_eq_true.1 HF.out _ (List.getElem_mem hlt)
        have HS := Lib.hid hs
        clear hs hat e1 hrow
        have s2 := s1.newBox #[.int .u8 (c : Int), .int .u8 (x : Int)] 31
        have f0 := (s2.boxAt 0).1
        have f1 := (s2.boxAt 1).1
        have hT := times_le' (c, x) hfit
        have hT1 := times_pos (c, x)
        have htm := fun W => times_any W c x hy0 hy1
        obtain ⟨T, hTe⟩ : ∃ T, times (c, x) = T := ⟨_, rfl⟩
        rw [hTe] at hT hT1 htm
        have HT := Lib.hid hTe
        obtain ⟨d, hd⟩ : ∃ d, n - (out.length : Int) = d := ⟨_, rfl⟩
        have hd1 : -9223372036854775808 ≤ d ∧ d ≤ 9223372036854775807 := by
          rcases hon.out with e | e
          · subst e; simp at hd; omega
          · omega
        obtain ⟨hd1, hd2⟩ := hd1
        have HD := Lib.hid hd
        by_cases hno : c = 16 ∧ out = []
        · have hE := unErr_none HF.out n k hlt out hsay.out (by rw [HS.out]; exact hno)
          have hE := fun W (s : St B w0 W r) => UnpackSt.none s hE
          obtain ⟨h16, rfl⟩ := hno
          have hcase : ((c : Int) == 16) = true := by subst h16; rfl
          clear h16 hd HD hTe HT f0 f1
          go_wp2
          go_ret2
          exact hE _ (s1.drop.alloc _)
        · have hne : c = 16 → out ≠ [] := fun e1 e2 => hno ⟨e1, e2⟩
          have hcase : ((c : Int) == 16) = false ∨ (((c : Int) == 16) = true ∧ ((out.length : Int) == 0) = false) := by
            by_cases c16 : c = 16
            · refine .inr ⟨by subst c16; rfl, ?_⟩
              have := List.length_pos_iff.2 (hne c16)
              exact beq_eq_false_iff_ne.2 (by omega)
            · exact .inl (beq_eq_false_iff_ne.2 (by omega))
          have HNO := Lib.hid hno
          have HNE := Lib.hid hne
          clear hTe hno hne
          by_cases hov : d < (T : Int)
          · have hE := unErr_over HF.out n k hlt out hsay.out (by rw [HS.out]; exact HNO.out) (by rw [HS.out, HT.out]; omega)
            have hE := fun W (s : St B w0 W r) => UnpackSt.none s hE
            rcases hcase with hcase | ⟨hcase, hpos⟩
            all_goals
              go_wp2_with (go_at_call 22; refine (htm _).mono ?_; rintro e w3 ⟨rfl, hb3⟩)
              go_ret2
              exact hE _ (s2.drop.drop.quiet (by assumption))
          · rcases hcase with hcase | ⟨hcase, hpos⟩
            all_goals
              go_wp2_with (go_at_call 22; refine (htm _).mono ?_; rintro e w3 ⟨rfl, hb3⟩)
              have s4 := (s2.quiet hb3).drew
              clear f0 f1 hb3 s1 s2
              obtain ⟨sb, hsb⟩ : ∃ sb, wr.heap.size = sb := ⟨_, rfl⟩
              rw [hsb] at s4 ⊢
              clear hsb c0 c1 hd
              refine region_seg (by kernel_rfl) [0, 2] 8 rfl (by kernel_rfl) (by kernel_rfl) (fun _ _ d _ _ h => by cases d <;> exact h) ?_
              generalize w3.drew = wd at *
              intro K hK
              simp only [pickL, List.getElem?_cons_zero, List.getElem?_cons_succ]
              go_wp2_with fail
              try clear hK K
              refine wpAny_of_held (S := fun W => W.cell? ⟨sb, 0, none⟩ = some (.int .u8 (c : Int)) ∧ W.cell? ⟨sb, 1, none⟩ = some (.int .u8 (x : Int))) _ _ _ _ ?_
              refine wpAnyH_take (i := 1) (v := signV c x) rfl (by kernel_rfl) (by kernel_rfl) (by kernel_rfl) (fun _ _ _ h => h) (.inl ⟨rfl, fun W hW => by obtain ⟨k0, k1⟩ := hW; go_simp⟩) ⟨(s4.boxAt 0).1, (s4.boxAt 1).1⟩ ?_
              refine wpAnyH_take (i := 5) (v := signV c x) rfl (by kernel_rfl) (by kernel_rfl) (by kernel_rfl) (fun _ _ _ h => h) (.inl ⟨rfl, fun W hW => by obtain ⟨k0, k1⟩ := hW; go_simp⟩) ⟨(s4.boxAt 0).1, (s4.boxAt 1).1⟩ ?_
              refine held_step (j := 3) _ (by kernel_rfl) rfl ?_
              intro N hN
              have hlen := length_any wd c x hy0 _ out (s4.swap.bytesRow hob.out) HNE.out (by omega)
              have hylt := lengthOf_lt (c, x) hy0 out hob.out
              obtain ⟨y, hy⟩ : ∃ y, lengthOf (c, x) out = y := ⟨_, rfl⟩
              rw [hy] at hlen hylt
              have HY := Lib.hid hy
              clear hy
              go_wp2_with (go_at_call 24; refine hlen.mono ?_; rintro e w5 ⟨rfl, hb5⟩)
              have s5 := s4.quiet hb5
              clear hb5 s4 hlen
              refine hN _ _ ⟨(s5.boxAt 0).1, (s5.boxAt 1).1⟩ ?_
              try clear hN N
              refine held_two (i := 4) (j := 6) _ _ (by kernel_rfl) rfl rfl ?_ ?_
              case' refine_1 =>
                intro N4 hN4
                go_wp2_with fail
                have s6 := s5.newBox #[.int .u8 (y : Int)] 5
                obtain ⟨yb, hyb⟩ : ∃ yb, w5.heap.size = yb := ⟨_, rfl⟩
                rw [hyb] at s6 ⊢
                generalize w5.alloc (.cells #[.int .u8 (y : Int)] 5) = w6 at *
                clear hyb s5
                refine hN4 _ _ ⟨(s6.swap.boxAt 0).1, (s6.swap.boxAt 1).1⟩ ?_
                try clear hN4 N4
                refine held_step (j := 6) _ (by kernel_rfl) rfl ?_
                intro N6 hN6
                go_wp2_with (go_at_call 22; refine (htm _).mono ?_; rintro e w8 ⟨rfl, hb8⟩)
                have s8 := s6.quiet hb8
                clear s6 hb8
                refine hN6 _ _ ⟨(s8.swap.boxAt 0).1, (s8.swap.boxAt 1).1⟩ ?_
                try clear hN6 N6
              case' refine_2 =>
                intro N6 hN6
                go_wp2_with (go_at_call 22; refine (htm _).mono ?_; rintro e w6 ⟨rfl, hb8⟩)
                have s6 := s5.quiet hb8
                clear s5 hb8
                refine hN6 _ _ ⟨(s6.boxAt 0).1, (s6.boxAt 1).1⟩ ?_
                try clear hN6 N6
                refine held_step (j := 4) _ (by kernel_rfl) rfl ?_
                intro N4 hN4
                go_wp2_with fail
                have s8 := s6.newBox #[.int .u8 (y : Int)] 5
                obtain ⟨yb, hyb⟩ : ∃ yb, w6.heap.size = yb := ⟨_, rfl⟩
                rw [hyb] at s8 ⊢
                generalize w6.alloc (.cells #[.int .u8 (y : Int)] 5) = w8 at *
                clear hyb s6
                refine hN4 _ _ ⟨(s8.swap.boxAt 0).1, (s8.swap.boxAt 1).1⟩ ?_
                try clear hN4 N4
              all_goals
                refine held_step (j := 7) _ (by kernel_rfl) rfl ?_
                intro N7 hN7
                have hsrc : ∀ j v, [Value.int .u8 (y : Int)][j]? = some v → w8.cell? ((⟨yb, 0, none⟩ : Addr).add j) = some v := fun j v hj => by
                  rw [add_none, Nat.zero_add, (s8.boxAt j).1]
                  simpa using hj
                go_wp2_with (go_at_call 23; refine (repeatB_st s8 yb 0 1 [.int .u8 (y : Int)] rfl (by simp [Value.oneCell']) hsrc T (by omega)).mono ?_; rintro e w9 ⟨v9, rfl, s9⟩)
                clear hsrc s8
                have s9 := s9.swap.drop
                refine hN7 _ _ ⟨(s9.swap.boxAt 0).1, (s9.swap.boxAt 1).1⟩ ?_
                try clear hN7 N7
                refine held_step (j := 8) _ (by kernel_rfl) rfl ?_
                intro N8 hN8
                obtain ⟨ya, yc, rfl⟩ := ownsRow_slice s9.row
                have s10 := s9.third
                refine wpList_append_row rfl _ _ 22 rfl 5 i0 (.int .u8 0) 1 Try.underlying22 hi hz0 hz1 hz2 rfl s10 rfl rfl (rep_one T _ (by simp [Value.oneCell'])) (by unfold maxLen; omega) (by omega) ?_
                intro v11 w11 s11
                clear s9 s10
                have s12 := s11.swap.drop.swap
                refine hN8 _ _ ⟨(s12.boxAt 0).1, (s12.boxAt 1).1⟩ ?_
                try clear hN8 N8
                refine held_step (j := 9) _ (by kernel_rfl) rfl ?_
                intro N9 hN9
                go_wp2_with fail
                refine hN9 _ _ ⟨(s12.boxAt 0).1, (s12.boxAt 1).1⟩ ?_
                try clear hN9 N9
                refine wpAnyH_done (by kernel_rfl) ?_ 0
                go_wp2
                go_roundw
                case rel =>
                  refine ⟨k + 1, out ++ List.replicate T y, by omega, by go_num, ?_, ?_, ?_, ?_, ?_⟩
                  · have := say_next l k hlt out hsay.out (by rw [HS.out]; exact HNO.out)
                    rw [HS.out, HT.out, HY.out] at this
                    exact Lib.hid this
                  · refine Lib.hid (.inr ?_)
                    have := HD.out
                    rw [List.length_append, List.length_replicate]
                    omega
                  · rw [List.length_append, List.length_replicate]
                    omega
                  · refine Lib.hid fun z hz => ?_
                    rcases List.mem_append.1 hz with hz | hz
                    · exact hob.out z hz
                    · rw [(List.mem_replicate.1 hz).2]; exact hylt
                  · have s13 := s12.drop
                    rw [← rep_u8s, ← u8s_append] at s13
                    rw [List.length_append, List.length_replicate]
                    exact s13
                case measure => simp [intOf]; omega
      · obtain rfl : k = l.length := by omega
        have hE := unErr_end HF.out n out (by have := hsay.out; rwa [List.take_length] at this)
        clear hrow
        by_cases hn : (out.length : Int) = n
        · rw [if_pos hn, if_pos hn] at hE
          have HE := Lib.hid hE
          clear hE
          go_wp2
          go_ret2
          refine ⟨_, by rw [HE.out.1]; rfl, ?_⟩
          rw [HE.out.2]
          exact s1
        · rw [if_neg hn, if_neg hn] at hE
          have hE := UnpackSt.none s1.drop hE
          go_wp2
          go_ret2
          exact hE

end Go.Proofs.Ythmkkbaenccgiaa.Rep
