/-
  Contracts of package repeat: signsOf. No conditions but those of the call.
-/
import Derived.Test.YthmkkbaenccgiaaRepC
import Derived.Deep.Cut
namespace Go.Proofs.Ythmkkbaenccgiaa.Rep
open Go.RowKit

/-- New signs. -/
def SignsSt (B : Nat) (w0 : World) (r : List Thing) (e : TypeId) (l : List (Nat × Nat)) (x : Ending) (w' : World) : Prop := ∃ v', x = .returned v' ∧ St B w0 w' (signT e v' l :: r)

theorem signs_small (k : Nat) (hk : k < 16) (n : Nat) : Small (signs k n) := by
  intro p hp
  have := List.all_eq_true.1 (fits_signs k hk n) p hp
  have := times_le' p this
  omega

theorem small_one (k : Nat) (hk : k < 16) : Small [(k, 0)] := by
  intro p hp
  have e : p = (k, 0) := by simpa using hp
  rw [e]
  exact ⟨by simp; omega, by simp⟩

set_option maxRecDepth 100000 in
set_option maxHeartbeats 4000000 in
/-- signsOf. -/
theorem signsOf_st {B : Nat} {w0 w : World} {r : List Thing} (st : St B w0 w r) (k n : Nat) (hk : k < 16) (hn0 : 1 ≤ n) (hn : n ≤ 1000000) :
    Calls Try.prog 18 #[.int .u8 (k : Int), .int .i64 (n : Int)] w (SignsSt B w0 r 31 (signs k n)) := by
  have hmf : ∀ (fn : Fn) (first cap : Array Value) (w : World), (Instr.makeFunc fn first cap).run Try.prog w = .ok (.func fn first cap) w := fun _ _ _ _ => rfl
  obtain ⟨i0, hi0, hz0, hz1, hz2⟩ := info_parts infoSign
  have s1 := (st.newBox #[.int .i64 (n : Int)] 3).newBox #[.slice none 0 0] 23
  have s2 := s1.addNil (e := 31) (size := 2)
  have s3 : St B w0 _ (boxT w.heap.size #[.int .i64 (n : Int)] 3 :: boxT _ #[.slice none 0 0] 23 :: signT 31 (.slice none 0 0) [] :: r) := s2.swap.third
  clear s1 s2
  go_enter Try.func18, Try.ntmps18
  rw [World.size_alloc] at s3
  by_cases h0 : k = 0
  case' pos =>
    have hkz : ((k : Int) == 0) = true := by rw [h0]; rfl
    have H0 := Lib.hid h0
    clear h0
    go_wp2_with fail
    obtain ⟨nb, hnb⟩ : ∃ nb, w.heap.size = nb := ⟨_, rfl⟩
    rw [hnb] at s3 ⊢
    generalize (w.alloc (Obj.cells #[.int .i64 (n : Int)] 3)).alloc (.cells #[.slice none 0 0] 23) = w3 at *
    clear hnb st
    refine (repeat_st nb (nb + 1) 18 n _ [] (by omega) hn (by simp) (by intro p hp; cases hp) zeros (fun m _ h => zeros_step m h) s3).mono ?_
    rintro e w4 ⟨rfl, m, v4, L4, hm, hmn, hR4, hsm4, hlen4, s4⟩
    clear s3
    have hm : m < 11 := hm
    rw [List.nil_append] at hR4
    simp only [List.length_nil, Nat.zero_add] at hlen4
    have HR4 := Lib.hid hR4
    clear hR4
    go_wp2_with fail
    refine (repeat_st nb (nb + 1) 17 m v4 L4 (by omega) (by omega) (by omega) hsm4 zeros (fun q hq h => zeros_few q h (by omega)) s4).mono ?_
    rintro e w5 ⟨rfl, m5, v5, L5, hm5, hmn5, hR5, hsm5, hlen5, s5⟩
    clear s4
    have hm5 : m5 < 3 := hm5
    rw [HR4.out, zeros_end m5 hm5] at hR5
    have hR5 : L5 ++ List.replicate m5 (k, 0) = signs k n := by
      have h0 := H0.out
      subst h0
      exact hR5
    have hlen5 : L5.length + m5 ≤ n := by omega
    have HR := Lib.hid hR5
    have HS := Lib.hid hsm5
    clear hR5 hsm5 HR4 hsm4 hlen4 hm hmn hmn5
    go_wp2_with fail
  case' neg =>
    obtain ⟨n1, hn1⟩ : ∃ n1, n = n1 + 1 := ⟨n - 1, by omega⟩
    have hn1' : (n : Int) - 1 = (n1 : Int) := by omega
    have hsg : signs k n = (k, 0) :: others k n1 := by unfold signs; rw [if_neg h0, hn1]; rfl
    have HSG := Lib.hid hsg
    have hn1b : n1 ≤ 1000000 := by omega
    have HN1 := Lib.hid hn1
    clear hsg hn1 st
    have h0' : ¬ (k : Int) = 0 := by omega
    go_upto_region 6 with (fail)
    obtain ⟨nb, hnb⟩ : ∃ nb, w.heap.size = nb := ⟨_, rfl⟩
    rw [hnb] at s3 ⊢
    generalize (w.alloc (Obj.cells #[.int .i64 (n : Int)] 3)).alloc (.cells #[.slice none 0 0] 23) = w3 at *
    clear hnb
    have f3 : w3.cell? ⟨nb + 1, 0, none⟩ = some (.slice none 0 0) := (s3.swap.boxAt 0).1
    have s3 : St B w0 w3 (rowT 31 2 (.slice none 0 0) 0 [] :: boxT nb #[.int .i64 (n : Int)] 3 :: boxT (nb + 1) #[.slice none 0 0] 23 :: r) := s3.third
    go_wp2_with (at_builtin; refine wpList_append_one rfl _ _ 23 rfl 31 i0 (.agg #[.int .u8 0, .int .u8 0]) 2 2 Try.underlying23 hi0 hz0 hz1 hz2 rfl (by decide) s3 rfl [.int .u8 (k : Int), .int .u8 0] rfl rfl (by simp [Value.oneCell']) (by decide) (by decide) ?_)
    intro v4 w4 s4
    obtain ⟨xa, xc, rfl⟩ := ownsRow_slice s4.row
    have s5 := s4.third
    have f4 : w4.cell? ⟨nb + 1, 0, none⟩ = some (.slice none 0 0) := (s5.boxAt 0).1
    have g4 := (s5.boxAt 0).2
    have s6 := (s5.setBox (.slice xa 1 xc)).third
    clear s3 s4 f3 s5
    have e6 : [Value.int .u8 (k : Int), Value.int .u8 0] = sgn [(k, 0)] := rfl
    rw [e6] at s6
    clear e6
    go_upto_region 7 with (fail)
    clear f4 g4
    generalize w4.setCell ⟨nb + 1, 0, none⟩ (.slice xa 1 xc) = w6 at *
    have f6 : w6.cell? ⟨nb, 0, none⟩ = some (.int .i64 (n : Int)) := (s6.boxAt 0).1
    have g6 := (s6.boxAt 0).2
    have s7 : St B w0 _ (boxT nb #[.int .i64 (n1 : Int)] 3 :: boxT (nb + 1) #[.slice xa 1 xc] 23 :: signT 31 (.slice xa 1 xc) [(k, 0)] :: r) := s6.setBox (.int .i64 (n1 : Int))
    clear s6
    go_wp2_with fail
    clear f6 g6
    generalize w6.setCell ⟨nb, 0, none⟩ (.int .i64 (n1 : Int)) = w7 at *
    refine (repeat_st nb (nb + 1) 16 n1 _ [(k, 0)] (by omega) hn1b (by simp) (small_one k hk) (others k) (fun q _ h => others_step k q h) s7).mono ?_
    rintro e w5 ⟨rfl, m5, v5, L5, hm5, hmn5, hR5, hsm5, hlen5, s5⟩
    clear s7
    have hm5 : m5 < 3 := hm5
    rw [others_end k m5 hm5] at hR5
    have hR5 : L5 ++ List.replicate m5 (k, 0) = signs k n := by rw [HSG.out]; exact hR5
    have hlen5 : L5.length + m5 ≤ n := by rw [HN1.out]; simp at hlen5; omega
    have HR := Lib.hid hR5
    have HS := Lib.hid hsm5
    clear hR5 hsm5 hmn5
    go_wp2_with fail
  all_goals
    have s6 := s5.drew
    clear s5
    refine region_seg (by kernel_rfl) [1] 7 rfl (by kernel_rfl) (by kernel_rfl) (fun _ _ d _ _ h => by cases d <;> exact h) ?_
    generalize w5.drew = wd at *
    intro K hK
    simp only [pickL, List.getElem?_cons_zero, List.getElem?_cons_succ]
    go_wp2_with fail
    try clear hK K
    refine wpAny_of_held (S := fun W => W.cell? ⟨nb, 0, none⟩ = some (.int .i64 (m5 : Int)) ∧ W.cell? ⟨nb + 1, 0, none⟩ = some v5) _ _ _ _ ?_
    refine wpAnyH_take (i := 0) (v := v5) rfl (by kernel_rfl) (by kernel_rfl) (by kernel_rfl) (fun _ _ _ h => h) (.inl ⟨rfl, fun W hW => by obtain ⟨k0, k1⟩ := hW; go_simp⟩) ⟨(s6.boxAt 0).1, (s6.swap.boxAt 0).1⟩ ?_
    refine wpAnyH_take (i := 4) (v := .int .i64 (m5 : Int)) rfl (by kernel_rfl) (by kernel_rfl) (by kernel_rfl) (fun _ _ _ h => h) (.inl ⟨rfl, fun W hW => by obtain ⟨k0, k1⟩ := hW; go_simp⟩) ⟨(s6.boxAt 0).1, (s6.swap.boxAt 0).1⟩ ?_
    refine held_step (j := 2) _ (by kernel_rfl) rfl ?_
    intro N2 hN2
    go_wp2_with fail
    refine hN2 _ _ ⟨(s6.boxAt 0).1, (s6.swap.boxAt 0).1⟩ ?_
    try clear hN2 N2
    refine held_step (j := 3) _ (by kernel_rfl) rfl ?_
    intro N3 hN3
    go_wp2_with fail
    have s8 := s6.newBox #[.int .u8 (k : Int), .int .u8 0] 31
    obtain ⟨yb, hyb⟩ : ∃ yb, wd.heap.size = yb := ⟨_, rfl⟩
    rw [hyb] at s8 ⊢
    generalize wd.alloc (.cells #[.int .u8 (k : Int), .int .u8 0] 31) = w8 at *
    clear hyb s6
    refine hN3 _ _ ⟨(s8.swap.boxAt 0).1, (s8.third.boxAt 0).1⟩ ?_
    try clear hN3 N3
    refine held_step (j := 5) _ (by kernel_rfl) rfl ?_
    intro N5 hN5
    have hsrc : ∀ j v, [Value.int .u8 (k : Int), Value.int .u8 0][j]? = some v → w8.cell? ((⟨yb, 0, none⟩ : Addr).add j) = some v := fun j v hj => by
      rw [add_none, Nat.zero_add, (s8.boxAt j).1]
      simpa using hj
    go_wp2_with (go_at_call 30; refine (repeatS_st s8 yb 0 1 [.int .u8 (k : Int), .int .u8 0] rfl (by simp [Value.oneCell']) hsrc m5 (by omega)).mono ?_; rintro e w9 ⟨v9, rfl, s9⟩)
    clear hsrc s8
    have s9 := s9.swap.drop
    refine hN5 _ _ ⟨(s9.swap.boxAt 0).1, (s9.third.boxAt 0).1⟩ ?_
    try clear hN5 N5
    refine held_step (j := 6) _ (by kernel_rfl) rfl ?_
    intro N6 hN6
    obtain ⟨ya, yc, rfl⟩ := ownsRow_slice s9.row
    have s10 := s9.fourth
    refine wpList_append_rowN rfl _ _ 23 rfl 31 i0 (.agg #[.int .u8 0, .int .u8 0]) 2 2 Try.underlying23 hi0 hz0 hz1 hz2 rfl (by decide) s10 rfl rfl (rep_one m5 _ (by simp [Value.oneCell'])) (by unfold maxLen; omega) (by omega) ?_
    intro v11 w11 s11
    clear s9 s10
    have s12 := s11.swap.drop
    refine hN6 _ _ ⟨(s12.swap.boxAt 0).1, (s12.third.boxAt 0).1⟩ ?_
    try clear hN6 N6
    refine held_step (j := 7) _ (by kernel_rfl) rfl ?_
    intro N7 hN7
    go_wp2_with fail
    refine hN7 _ _ ⟨(s12.swap.boxAt 0).1, (s12.third.boxAt 0).1⟩ ?_
    try clear hN7 N7
    refine wpAnyH_done (by kernel_rfl) ?_ 0
    go_wp2
    go_ret
    refine ⟨v11, rfl, ?_⟩
    have s13 := s12.swap.drop.swap.drop
    have e2 : rep m5 [Value.int .u8 (k : Int), Value.int .u8 0] = sgn (List.replicate m5 (k, 0)) := (rep_sgn m5 (k, 0)).symm
    rw [e2, ← sgn_append, HR.out] at s13
    have e : L5.length + m5 = (signs k n).length := by rw [← HR.out]; simp
    rw [e] at s13
    exact s13

end Go.Proofs.Ythmkkbaenccgiaa.Rep
