/-
  The walk of TokenExpands. No conditions.
-/
import Derived.Test.YtmooiheomecieaaTokX
import Derived.Test.YtmooiheomecieaaTokB
import Derived.Test.YtmooiheomecieaaTokH
import Derived.Test.YtmooiheomecieaaHeld
import Derived.Test.YtmooiheomecieaaRegion
namespace Go.Proofs.Ytmooiheomecieaa.tokenExpands
open Go.RowKit Tok

set_option maxRecDepth 100000 in
set_option maxHeartbeats 4000000 in
theorem walk (w : World) (v : Value) (l : List Tk) (h : TokRow w v l) :
    Calls Try.prog 4 #[v] w fun e w' => e = .returned (.bool true) ∧ Below w.heap.size w w' := by
  have HB := fun W hB => h.below (B := w.heap.size) (w' := W) hB (Nat.le_refl _)
  have hfit := h.fits
  have hsays := fun W => says_any W
  obtain ⟨a, cap, rfl, hc, -, -, -⟩ := id h
  by_cases c1 : 400 < l.length
  · clear HB hfit hsays h
    go_enter Try.func4, Try.ntmps4
    go_wp2
    go_ret
    exact ⟨rfl, Below.refl _ _⟩
  · have hl4 : l.length ≤ 400 := by omega
    go_enter Try.func4, Try.ntmps4
    go_wp2_with (at_builtin; refine wpList_copyToks rfl _ _ rfl (St.start w) h rfl rfl (by omega) ?_)
    intro v1 w1 s1
    obtain ⟨va1, vc1, rfl⟩ := ownsRow_slice s1.row
    have hx := expand_st s1 (.slice va1 l.length vc1) l (fun W s => s.toks hfit) (by omega)
    unfold ExpandSt at hx
    obtain ⟨er, her⟩ : ∃ er, exErr l = er := ⟨_, rfl⟩
    obtain ⟨out, hout⟩ : ∃ out, exAns l = out := ⟨_, rfl⟩
    rw [her, hout] at hx
    have HE := Lib.hid (And.intro her hout)
    clear her hout h
    go_wp2_with fail
    refine hx.mono ?_
    rintro e w2 ⟨v2, rfl, s2⟩
    obtain ⟨va2, vc2, rfl⟩ := ownsRow_slice s2.row
    clear hx s1
    have hx := refExpand_st s2 (.slice a l.length cap) l (fun W s => HB W (s.below (Nat.le_refl _))) (by omega)
    unfold ExpandSt at hx
    rw [HE.out.1, HE.out.2] at hx
    go_wp2_with fail
    refine hx.mono ?_
    rintro e w3 ⟨v3, rfl, s3⟩
    obtain ⟨va3, vc3, rfl⟩ := ownsRow_slice s3.row
    clear hx s2
    go_wp2
    go_loopw [8] (fun i wr => ∃ k : Nat, k ≤ l.length ∧ i = .int .i64 (k : Int) ∧ St w.heap.size w wr [rowT 5 1 (.slice va3 out.length vc3) out.length (u8s out), rowT 5 1 (.slice va2 out.length vc2) out.length (u8s out), tokT (.slice va1 l.length vc1) l]) (fun i _ => l.length - (intOf i).toNat)
    case atStart => exact ⟨0, Nat.zero_le _, rfl, s3⟩
    case round =>
      clear s3
      obtain ⟨k, hk, rfl, s3⟩ := hrel
      by_cases hlt : k < l.length
      · have s4 := s3.drew
        obtain ⟨a', cap', e1, hc1, hm1, hn1, hat1⟩ := s4.third.toks hfit
        obtain ⟨rfl, -, rfl⟩ := Value.slice.inj e1
        obtain ⟨hin, b1, o1, rfl, c0, c1, c2⟩ := hat1 k hlt
        obtain ⟨a', cap', e1, hc2, hm2, hn2, hat2⟩ := HB _ (s4.below (Nat.le_refl _))
        obtain ⟨rfl, -, rfl⟩ := Value.slice.inj e1
        obtain ⟨-, b2, o2, rfl, d0, d1, d2⟩ := hat2 k hlt
        obtain ⟨tl, td, ty, hs⟩ : ∃ tl td ty, l[k] = (tl, td, ty) := ⟨_, _, _, rfl⟩
        rw [hs] at c0 c1 c2 d0 d1 d2 hin
        have HS4 := Lib.hid s4
        clear hs hat1 hat2 HB hfit s3 s4 e1 hsays
        go_wp2
        refine region_seg (by kernel_rfl) [0, 1, 4, 5] 5 rfl (by kernel_rfl) (by kernel_rfl) (fun _ _ d _ _ h => by cases d <;> exact h) ?_
        intro K hK
        simp only [pickL, List.getElem?_cons_zero, List.getElem?_cons_succ]
        go_wp2_with fail
        try clear hK K
        generalize wr.drew = wd at *
        refine wpAny_of_held (S := fun W => (W.cell? ⟨b1, o1 + k * 3, none⟩ = some (.int .i64 tl) ∧ W.cell? ⟨b1, o1 + k * 3 + 1, none⟩ = some (.int .i64 td) ∧ W.cell? ⟨b1, o1 + k * 3 + 2, none⟩ = some (.int .u8 (ty : Int))) ∧ W.cell? ⟨b2, o2 + k * 3, none⟩ = some (.int .i64 tl) ∧ W.cell? ⟨b2, o2 + k * 3 + 1, none⟩ = some (.int .i64 td) ∧ W.cell? ⟨b2, o2 + k * 3 + 2, none⟩ = some (.int .u8 (ty : Int))) _ _ _ _ ?_
        have hall : (wd.cell? ⟨b1, o1 + k * 3, none⟩ = some (.int .i64 tl) ∧ wd.cell? ⟨b1, o1 + k * 3 + 1, none⟩ = some (.int .i64 td) ∧ wd.cell? ⟨b1, o1 + k * 3 + 2, none⟩ = some (.int .u8 (ty : Int))) ∧ wd.cell? ⟨b2, o2 + k * 3, none⟩ = some (.int .i64 tl) ∧ wd.cell? ⟨b2, o2 + k * 3 + 1, none⟩ = some (.int .i64 td) ∧ wd.cell? ⟨b2, o2 + k * 3 + 2, none⟩ = some (.int .u8 (ty : Int)) := ⟨⟨c0, c1, c2⟩, d0, d1, d2⟩
        clear c0 c1 c2 d0 d1 d2
        refine wpAnyH_take (i := 2) (v := .pointer (some ⟨b1, o1 + k * 3, none⟩)) rfl (by kernel_rfl) (by kernel_rfl) (by kernel_rfl) (fun _ _ _ h => h) (.inl ⟨rfl, fun W hW => by obtain ⟨⟨k0, k1, k2⟩, k3, k4, k5⟩ := hW; go_simp⟩) hall ?_
        refine wpAnyH_take (i := 6) (v := .pointer (some ⟨b2, o2 + k * 3, none⟩)) rfl (by kernel_rfl) (by kernel_rfl) (by kernel_rfl) (fun _ _ _ h => h) (.inl ⟨rfl, fun W hW => by obtain ⟨⟨k0, k1, k2⟩, k3, k4, k5⟩ := hW; go_simp⟩) hall ?_
        refine wpAnyH_take (i := 3) (v := tkV (tl, td, ty)) rfl (by kernel_rfl) (by kernel_rfl) (by kernel_rfl) (fun _ _ _ h => h) (.inl ⟨rfl, fun W hW => by obtain ⟨⟨k0, k1, k2⟩, k3, k4, k5⟩ := hW; go_simp⟩) hall ?_
        refine wpAnyH_take (i := 7) (v := tkV (tl, td, ty)) rfl (by kernel_rfl) (by kernel_rfl) (by kernel_rfl) (fun _ _ _ h => h) (.inl ⟨rfl, fun W hW => by obtain ⟨⟨k0, k1, k2⟩, k3, k4, k5⟩ := hW; go_simp⟩) hall ?_
        refine wpAnyH_take (i := 8) (v := .bool false) rfl (by kernel_rfl) (by kernel_rfl) (by kernel_rfl) (fun _ _ _ h => h) (.inl ⟨rfl, fun W hW => by go_simp⟩) hall ?_
        refine wpAnyH_done (by kernel_rfl) ?_ 0
        go_wp2
        exact ⟨⟨k + 1, by omega, by go_num, HS4.out⟩, by simp [intOf]; omega⟩
      · obtain rfl : k = l.length := by omega
        have hs1 := s3.string
        have hs2 := s3.swap.string
        have hbw := s3.below (Nat.le_refl _)
        obtain ⟨sL, hsL⟩ : ∃ sL, strOf out = sL := ⟨_, rfl⟩
        rw [hsL] at hs1 hs2
        clear hsL s3 HB hfit
        go_wp2_with (go_at_call 17; refine (hsays _).mono ?_; rintro e w9 ⟨rfl, b9⟩)
        go_ret
        exact ⟨rfl, Below.andThen hbw b9⟩

end Go.Proofs.Ytmooiheomecieaa.tokenExpands
