/-
  Contracts of package frame: Put, Tail, Ends. No conditions but that rows are small.
-/
import Derived.Test.YtiggbioaaglgaaaFrM
namespace Go.Proofs.Ytiggbioaaglgaaa.Fr
open Go.RowKit Crc

/-- The writer's fields, as they are laid. -/
abbrev lays (wb : Nat) : Array Value := #[.func (.func 22) #[.pointer (some ⟨wb, 0, none⟩)] #[], .func (.func 23) #[.pointer (some ⟨wb, 0, none⟩)] #[], .func (.func 24) #[.pointer (some ⟨wb, 0, none⟩)] #[], .func (.func 25) #[.pointer (some ⟨wb, 0, none⟩)] #[], .func (.func 26) #[.pointer (some ⟨wb, 0, none⟩)] #[], .func (.func 27) #[.pointer (some ⟨wb, 0, none⟩)] #[], .func (.func 28) #[.pointer (some ⟨wb, 0, none⟩)] #[], .func (.func 29) #[.pointer (some ⟨wb, 0, none⟩)] #[], .func (.func 30) #[.pointer (some ⟨wb, 0, none⟩)] #[]]

section
variable {B : Nat} {w0 w : World} {r : List Thing} {wb : Nat} {h : Gz} {ev : Value}

set_option maxRecDepth 100000 in
set_option maxHeartbeats 4000000 in
theorem put_st (st : St B w0 w r) (hf : Fits h) (hev : ∀ W, St B w0 W r → ByteRow W ev h.extra) (he : h.extra.length ≤ 1000000) (hn : h.name.length ≤ 1000000) (hc : h.comment.length ≤ 1000000) :
    Calls Try.prog 11 #[.agg (headC h ev)] w fun e w' => (may h = true ∧ ∃ v, e = .returned (.tuple #[v, .int .i64 0]) ∧ St B w0 w' (rowT 5 1 v (bytesOf h).length (u8s (bytesOf h)) :: r)) ∨
      (may h = false ∧ e = .returned (.tuple #[.slice none 0 0, .int .i64 5]) ∧ St B w0 w' r) := by
  obtain ⟨ea, ec, hev2, _⟩ := hev w st
  have s1 := st.newBox (headC h ev) 25
  have k0 : (w.alloc (.cells (headC h ev) 25)).cell? ⟨w.heap.size, 0, none⟩ = some (.bool h.text) := (St.boxAt s1 0).1
  have k1 : (w.alloc (.cells (headC h ev) 25)).cell? ⟨w.heap.size, 1, none⟩ = some (.int .u32 (h.time : Int)) := (St.boxAt s1 1).1
  have k2 : (w.alloc (.cells (headC h ev) 25)).cell? ⟨w.heap.size, 2, none⟩ = some (.int .u8 (h.xfl : Int)) := (St.boxAt s1 2).1
  have k3 : (w.alloc (.cells (headC h ev) 25)).cell? ⟨w.heap.size, 3, none⟩ = some (.int .u8 (h.os : Int)) := (St.boxAt s1 3).1
  have k4 : (w.alloc (.cells (headC h ev) 25)).cell? ⟨w.heap.size, 4, none⟩ = some ev := (St.boxAt s1 4).1
  have k5 : (w.alloc (.cells (headC h ev) 25)).cell? ⟨w.heap.size, 5, none⟩ = some (.string (strOf h.name)) := (St.boxAt s1 5).1
  have k6 : (w.alloc (.cells (headC h ev) 25)).cell? ⟨w.heap.size, 6, none⟩ = some (.string (strOf h.comment)) := (St.boxAt s1 6).1
  have k7 : (w.alloc (.cells (headC h ev) 25)).cell? ⟨w.heap.size, 7, none⟩ = some (.int .u8 (h.has : Int)) := (St.boxAt s1 7).1
  have k8 : (w.alloc (.cells (headC h ev) 25)).cell? ⟨w.heap.size, 8, none⟩ = some (.bool h.sum) := (St.boxAt s1 8).1
  have hmb := mayBe_any (w.alloc (.cells (headC h ev) 25)) h hf ea ec
  have HEV := Lib.hid hev2
  have HR := Lib.hid hev
  rw [← hev2] at hmb
  clear hev hev2
  go_enter Try.func11, Try.ntmps11
  go_wp2_with fail
  refine hmb.mono ?_
  rintro e w1 ⟨rfl, hb1⟩
  have s2 := s1.quiet hb1
  obtain ⟨pb, hpb⟩ : ∃ pb, w.heap.size = pb := ⟨_, rfl⟩
  rw [hpb] at s2
  clear hmb k0 k1 k2 k3 k4 k5 k6 k7 k8 s1 hb1
  cases hm : may h with
  | false =>
    go_wp2
    go_ret2
    exact .inr ⟨hm, rfl, s2.drop⟩
  | true =>
    obtain ⟨m1, m2, m3, ⟨m4, m5⟩, m6, m7⟩ := (may_iff h).1 hm
    have k0 : w1.cell? ⟨pb, 0, none⟩ = some (.bool h.text) := (St.boxAt s2 0).1
    have k1 : w1.cell? ⟨pb, 1, none⟩ = some (.int .u32 (h.time : Int)) := (St.boxAt s2 1).1
    have k2 : w1.cell? ⟨pb, 2, none⟩ = some (.int .u8 (h.xfl : Int)) := (St.boxAt s2 2).1
    have k3 : w1.cell? ⟨pb, 3, none⟩ = some (.int .u8 (h.os : Int)) := (St.boxAt s2 3).1
    have k4 : w1.cell? ⟨pb, 4, none⟩ = some ev := (St.boxAt s2 4).1
    have k5 : w1.cell? ⟨pb, 5, none⟩ = some (.string (strOf h.name)) := (St.boxAt s2 5).1
    have k6 : w1.cell? ⟨pb, 6, none⟩ = some (.string (strOf h.comment)) := (St.boxAt s2 6).1
    have k7 : w1.cell? ⟨pb, 7, none⟩ = some (.int .u8 (h.has : Int)) := (St.boxAt s2 7).1
    have k8 : w1.cell? ⟨pb, 8, none⟩ = some (.bool h.sum) := (St.boxAt s2 8).1
    have hmf : ∀ (fn : Fn) (first cap : Array Value) (w : World), (Instr.makeFunc fn first cap).run Try.prog w = .ok (.func fn first cap) w := fun _ _ _ _ => rfl
    have s3 := (s2.drop.addNil (e := 5) (size := 1)).newBox (wrtC h ev (.slice none 0 0)) 44
    have s4 := s3.newBox (lays w1.heap.size) 1
    rw [hpb]
    obtain ⟨wb, hwb⟩ : ∃ wb, w1.heap.size = wb := ⟨_, rfl⟩
    rw [show (w1.alloc (.cells (wrtC h ev (.slice none 0 0)) 44)).heap.size = w1.heap.size + 1 from by simp] at s4
    rw [hwb] at s4
    have h0 : Wst B w0 ((w1.alloc (.cells (wrtC h ev (.slice none 0 0)) 44)).alloc (.cells (lays wb) 1)) (boxT (wb + 1) (lays wb) 1 :: r) wb h ev (laid h 0) := ⟨_, s4.third.third⟩
    clear s2 s3 s4
    go_wp2
    try rw [hwb]
    clear k0 k1 k2 k3 k4 k5 k6 k7 k8 hmf
    generalize (w1.alloc (.cells (wrtC h ev (.slice none 0 0)) 44)).alloc (.cells (lays wb) 1) = w2 at *
    clear hwb
    have hlen := laid_len h
    go_loopw [6, 33] (fun lv iv wr => ∃ k : Nat, k ≤ 9 ∧ iv = .int .i64 (k : Int) ∧ Wst B w0 wr (boxT (wb + 1) (lays wb) 1 :: r) wb h ev (laid h k)) (fun _ iv _ => 9 - (intOf iv).toNat)
    case atStart => exact ⟨0, Nat.zero_le _, rfl, h0⟩
    case round =>
      clear h0
      obtain ⟨k, hk, rfl, h1⟩ := hrel
      have hlk := hlen k
      by_cases hlt : k < 9
      · have hc : ∀ j, wr.cell? ⟨wb + 1, j, none⟩ = (lays wb)[j]? := fun j => by obtain ⟨v, t⟩ := h1; exact (St.boxAt (t.third) j).1
        have hkk : k = 0 ∨ k = 1 ∨ k = 2 ∨ k = 3 ∨ k = 4 ∨ k = 5 ∨ k = 6 ∨ k = 7 ∨ k = 8 := by omega
        rcases hkk with rfl | rfl | rfl | rfl | rfl | rfl | rfl | rfl | rfl
        · have hcall := wmagic_st h1 (by omega)
          have ck : wr.cell? ⟨wb + 1, 0, none⟩ = some (.func (.func 22) #[.pointer (some ⟨wb, 0, none⟩)] #[]) := hc 0
          clear hc h1 hlen hlk
          go_wp2_with (go_at_call 22; refine hcall.mono ?_; rintro e w3 ⟨rfl, h2⟩)
          exact ⟨⟨1, by omega, rfl, h2⟩, by simp [intOf]⟩
        · have hcall := wflags_st h1 m1 (by omega)
          have ck : wr.cell? ⟨wb + 1, 1, none⟩ = some (.func (.func 23) #[.pointer (some ⟨wb, 0, none⟩)] #[]) := hc 1
          clear hc h1 hlen hlk
          go_wp2_with (go_at_call 23; refine hcall.mono ?_; rintro e w3 ⟨rfl, h2⟩)
          exact ⟨⟨2, by omega, rfl, h2⟩, by simp [intOf]⟩
        · have hcall := wtime_st h1 hf.time (by omega)
          have ck : wr.cell? ⟨wb + 1, 2, none⟩ = some (.func (.func 24) #[.pointer (some ⟨wb, 0, none⟩)] #[]) := hc 2
          clear hc h1 hlen hlk
          go_wp2_with (go_at_call 24; refine hcall.mono ?_; rintro e w3 ⟨rfl, h2⟩)
          exact ⟨⟨3, by omega, rfl, h2⟩, by simp [intOf]⟩
        · have hcall := wxfl_st h1 hf.xfl (by omega)
          have ck : wr.cell? ⟨wb + 1, 3, none⟩ = some (.func (.func 25) #[.pointer (some ⟨wb, 0, none⟩)] #[]) := hc 3
          clear hc h1 hlen hlk
          go_wp2_with (go_at_call 25; refine hcall.mono ?_; rintro e w3 ⟨rfl, h2⟩)
          exact ⟨⟨4, by omega, rfl, h2⟩, by simp [intOf]⟩
        · have hcall := wos_st h1 hf.os (by omega)
          have ck : wr.cell? ⟨wb + 1, 4, none⟩ = some (.func (.func 26) #[.pointer (some ⟨wb, 0, none⟩)] #[]) := hc 4
          clear hc h1 hlen hlk
          go_wp2_with (go_at_call 26; refine hcall.mono ?_; rintro e w3 ⟨rfl, h2⟩)
          exact ⟨⟨5, by omega, rfl, h2⟩, by simp [intOf]⟩
        · have hcall := wextra_st h1 (fun W t => HR.out W t.drop) m1 m2 (by omega)
          have ck : wr.cell? ⟨wb + 1, 5, none⟩ = some (.func (.func 27) #[.pointer (some ⟨wb, 0, none⟩)] #[]) := hc 5
          clear hc h1 hlen hlk
          go_wp2_with (go_at_call 27; refine hcall.mono ?_; rintro e w3 ⟨rfl, h2⟩)
          exact ⟨⟨6, by omega, rfl, h2⟩, by simp [intOf]⟩
        · have hcall := wname_st h1 m1 hf.name (by omega)
          have ck : wr.cell? ⟨wb + 1, 6, none⟩ = some (.func (.func 28) #[.pointer (some ⟨wb, 0, none⟩)] #[]) := hc 6
          clear hc h1 hlen hlk
          go_wp2_with (go_at_call 28; refine hcall.mono ?_; rintro e w3 ⟨rfl, h2⟩)
          exact ⟨⟨7, by omega, rfl, h2⟩, by simp [intOf]⟩
        · have hcall := wcomment_st h1 m1 hf.comment (by omega)
          have ck : wr.cell? ⟨wb + 1, 7, none⟩ = some (.func (.func 29) #[.pointer (some ⟨wb, 0, none⟩)] #[]) := hc 7
          clear hc h1 hlen hlk
          go_wp2_with (go_at_call 29; refine hcall.mono ?_; rintro e w3 ⟨rfl, h2⟩)
          exact ⟨⟨8, by omega, rfl, h2⟩, by simp [intOf]⟩
        · have hcall := wsum_st h1 (laid_byte hf m1 8) (by omega)
          have ck : wr.cell? ⟨wb + 1, 8, none⟩ = some (.func (.func 30) #[.pointer (some ⟨wb, 0, none⟩)] #[]) := hc 8
          clear hc h1 hlen hlk
          go_wp2_with (go_at_call 30; refine hcall.mono ?_; rintro e w3 ⟨rfl, h2⟩)
          exact ⟨⟨9, by omega, rfl, h2⟩, by simp [intOf]⟩
      · obtain rfl : k = 9 := by omega
        obtain ⟨v, s5⟩ := h1
        obtain ⟨a, c, rfl⟩ := ownsRow_slice s5.swap.row
        have k9 : wr.cell? ⟨wb, 9, none⟩ = some (.slice a (laid h 9).length c) := (St.boxAt s5 9).1
        have s6 := s5.drop.swap.drop
        clear s5 hlen hlk
        go_wp2
        go_ret2
        exact .inl ⟨hm, _, rfl, s6⟩

end
end Go.Proofs.Ytiggbioaaglgaaa.Fr
