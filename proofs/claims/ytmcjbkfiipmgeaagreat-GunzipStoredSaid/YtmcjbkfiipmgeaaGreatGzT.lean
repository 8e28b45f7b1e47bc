/-
  Contract of pressworklaw12.stored. No conditions but that rows are small.
-/
import Derived.Test.YtmcjbkfiipmgeaaGreatGzK
import Derived.Test.YtmcjbkfiipmgeaaGreatFrL
namespace Go.Proofs.YtmcjbkfiipmgeaaGreat.Gu
open Go.RowKit Kraft Hd Inf Fr

section
variable {B : Nat} {w0 w : World} {r : List Thing}

set_option maxRecDepth 100000 in
set_option maxHeartbeats 4000000 in
theorem stored_st (st : St B w0 w r) {h : Gz} (hf : Fits h) (hm : may h = true) (ev : Value) (hev : ∀ W, St B w0 W r → ByteRow W ev h.extra) (he : h.extra.length ≤ 1000000) (hn : h.name.length ≤ 1000000) (hc : h.comment.length ≤ 1000000)
    (v : Value) (xs : List Nat) (hv : ∀ W, St B w0 W r → ByteRow W v xs) (hx : xs.length ≤ 3000) :
    Calls Tryz.prog 22 #[.agg (headC h ev), v] w fun e w' => ∃ v', e = .returned v' ∧ St B w0 w' (rowT 5 1 v' (stored h xs).length (u8s (stored h xs)) :: r) := by
  have hxb := (hv w st).byte
  obtain ⟨va, vc, rfl⟩ : ∃ a c, v = .slice a xs.length c := by obtain ⟨a, c, e, _⟩ := hv w st; exact ⟨a, c, e⟩
  obtain ⟨ea, ec, rfl⟩ : ∃ a c, ev = .slice a h.extra.length c := by obtain ⟨a, c, e, _⟩ := hev w st; exact ⟨a, c, e⟩
  have hvc : xs.length ≤ vc := by obtain ⟨a, c, e, h9, _⟩ := hv w st; obtain ⟨-, -, rfl⟩ := Value.slice.inj e; exact h9
  have HV := Lib.hid hv
  clear hv
  have s1 := st.newBox (headC h (.slice ea h.extra.length ec)) 52
  have hput := Fr.put_st s1 hf (ev := .slice ea h.extra.length ec) (fun W s => hev W s.drop) he hn hc
  obtain ⟨k0, k1, k2, k3, k4, k5, k6, k7, k8⟩ := headAt s1
  obtain ⟨H, hH⟩ : ∃ H, bytesOf h = H := ⟨_, rfl⟩
  have hHl : H.length ≤ 30000000 := by
    rw [← hH]
    have := laid_len h 9
    unfold bytesOf
    omega
  rw [hH] at hput
  obtain ⟨X, hX⟩ : ∃ X, stored h xs = X := ⟨_, rfl⟩
  rw [hX]
  obtain ⟨l1, hl1, hb1⟩ : ∃ l1, xs.length % 256 = l1 ∧ l1 < 256 := ⟨_, rfl, by omega⟩
  obtain ⟨l2, hl2, hb2⟩ : ∃ l2, xs.length / 256 = l2 ∧ l2 < 256 := ⟨_, rfl, by omega⟩
  obtain ⟨l3, hl3, hb3⟩ : ∃ l3, 255 - l1 = l3 ∧ l3 < 256 := ⟨_, rfl, by omega⟩
  obtain ⟨l4, hl4, hb4⟩ : ∃ l4, 255 - l2 = l4 ∧ l4 < 256 := ⟨_, rfl, by omega⟩
  have hE : H ++ [1, l1, l2, l3, l4] ++ xs ++ tailOf xs = X := by
    rw [← hX]
    unfold stored lastBytes
    rw [hH, hl1, hl2, hl3, hl4]
    simp only [List.append_assoc]
  have HX := Lib.hid hE
  clear hX hE hH hev
  go_enter Tryz.func22, Tryz.ntmps22
  go_wp2_with fail
  refine hput.mono ?_
  rintro e w1 (⟨-, v1, rfl, s2⟩ | ⟨hm2, -⟩)
  rotate_left
  · exact absurd hm (by rw [hm2]; simp)
  obtain ⟨a1, c1, rfl⟩ := ownsRow_slice s2.row
  clear hput s1 k0 k1 k2 k3 k4 k5 k6 k7 k8
  go_wp2_with fail
  go_loopw [5, 7] (fun ov rv wr => ov = .slice a1 H.length c1 ∧ rv = .slice va xs.length vc ∧ wr = w1) (fun _ _ _ => 0)
  case atStart => exact ⟨rfl, rfl, rfl⟩
  case round =>
    obtain ⟨rfl, rfl, rfl⟩ := hrel
    have e0 : min (xs.length : Int) 60000 = (xs.length : Int) := by omega
    have e1 : (xs.length : Int) % 256 = (l1 : Int) := by omega
    have e2 : (xs.length : Int) / 256 = (l2 : Int) := by omega
    have e3 : (255 : Int) - (l1 : Int) = (l3 : Int) := by omega
    have e4 : (255 : Int) - (l2 : Int) = (l4 : Int) := by omega
    have s3 := litRow s2 [1, l1, l2, l3, l4] (by simp)
    have hb5 : ∀ x ∈ [1, l1, l2, l3, l4], x < 256 := by
      intro x hx
      simp only [List.mem_cons, List.not_mem_nil, or_false] at hx
      omega
    have hlit := s3.bytesRow hb5
    go_wp2_with (at_builtin; refine wpList_append_bytes rfl _ _ rfl s3.swap hlit rfl rfl (by first | omega | (simp; omega)) ?_)
    intro v2 w2 s4 _ _
    obtain ⟨a2, c2, rfl⟩ : ∃ a c, v2 = .slice a (H.length + 5) c := ownsRow_slice s4.row
    replace s4 : St B w0 w2 (rowT 5 1 (.slice a2 (H.length + 5) c2) (H.length + 5) (u8s H ++ u8s [1, l1, l2, l3, l4]) :: r) := by
      exact s4.swap.drop.swap.drop
    clear hlit s3
    have hrow := HV.out _ s4.drop
    go_wp2_with (at_builtin; refine wpList_append_bytes rfl _ _ rfl s4 hrow rfl rfl (by omega) ?_)
    intro v3 w3 s5 _ _
    obtain ⟨a3, c3, rfl⟩ : ∃ a c, v3 = .slice a (H.length + 5 + xs.length) c := ownsRow_slice s5.row
    have htail := tail_st s5 (.slice va xs.length vc) xs (fun W t => HV.out W t.drop) (by omega)
    obtain ⟨T, hT, hTl, hTb⟩ : ∃ T, tailOf xs = T ∧ T.length = 8 ∧ ∀ x ∈ T, x < 256 := ⟨_, rfl, tailOf_length xs, tailOf_byte xs⟩
    have hXT := HX.out
    rw [hT] at htail hXT
    have HXT := Lib.hid hXT
    clear hrow s4 hT HX hXT
    rcases Nat.eq_or_lt_of_le hvc with hvx | hvx
    · subst hvx
      go_wp2_with fail
      refine htail.mono ?_
      rintro e w4 ⟨v4, rfl, s6⟩
      obtain ⟨a4, c4, rfl⟩ : ∃ a c, v4 = .slice a 8 c := ownsRow_slice s6.row
      have hrow4 : ByteRow w4 (.slice a4 8 c4) T := byteRow_owns (by rw [hTl]; exact s6.row) hTb
      go_wp2_with (at_builtin; refine wpList_append_bytes rfl _ _ rfl s6.swap hrow4 rfl rfl (by rw [hTl]; omega) ?_)
      intro v5 w5 s7 _ _
      go_wp2
      go_ret
      refine ⟨_, rfl, ?_⟩
      have hXl : X.length = H.length + 5 + xs.length + 8 := by rw [← HXT.out, ← hTl]; simp only [List.length_append, List.length_cons, List.length_nil]
      have hXu : u8s X = u8s H ++ (u8s [1, l1, l2, l3, l4] ++ (u8s xs ++ u8s T)) := by rw [← HXT.out]; simp only [u8s_append, List.append_assoc]
      rw [hXl, hXu]
      exact s7.swap.drop
    · have hvy : ¬ vc = xs.length := by omega
      go_wp2_with fail
      refine htail.mono ?_
      rintro e w4 ⟨v4, rfl, s6⟩
      obtain ⟨a4, c4, rfl⟩ : ∃ a c, v4 = .slice a 8 c := ownsRow_slice s6.row
      have hrow4 : ByteRow w4 (.slice a4 8 c4) T := byteRow_owns (by rw [hTl]; exact s6.row) hTb
      go_wp2_with (at_builtin; refine wpList_append_bytes rfl _ _ rfl s6.swap hrow4 rfl rfl (by rw [hTl]; omega) ?_)
      intro v5 w5 s7 _ _
      go_wp2
      go_ret
      refine ⟨_, rfl, ?_⟩
      have hXl : X.length = H.length + 5 + xs.length + 8 := by rw [← HXT.out, ← hTl]; simp only [List.length_append, List.length_cons, List.length_nil]
      have hXu : u8s X = u8s H ++ (u8s [1, l1, l2, l3, l4] ++ (u8s xs ++ u8s T)) := by rw [← HXT.out]; simp only [u8s_append, List.append_assoc]
      rw [hXl, hXu]
      exact s7.swap.drop

end
end Go.Proofs.YtmcjbkfiipmgeaaGreat.Gu
