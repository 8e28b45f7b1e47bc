/-
  A height, and the byte behind what is common, say which place comes first: the walk of LcpSum. No conditions.
-/
import Derived.Test.YtfifkbadniekfaaLcpH
namespace Go.Proofs.Ytfifkbadniekfaa.lcpSum
open Go.RowKit Go.Proofs.Ytfifkbadniekfaa.Suf Go.Proofs.Ytfifkbadniekfaa.Lcp

set_option maxRecDepth 100000 in
set_option maxHeartbeats 8000000 in
theorem walk (w : World) (v : Value) (b : List Nat) (h : ByteRow w v b) :
    Calls Try.prog 6 #[v] w fun e w' => e = .returned (.bool true) ∧ Below w.heap.size w w' := by
  obtain ⟨va, vc, rfl⟩ : ∃ a c, v = .slice a b.length c := by obtain ⟨a, c, e, _⟩ := h; exact ⟨a, c, e⟩
  by_cases c1 : 600 < b.length
  · clear h
    go_enter Try.func6, Try.ntmps6
    go_wp2
    go_ret
    exact ⟨rfl, Below.refl _ _⟩
  have HV : Hid (∀ W r, St w.heap.size w W r → ByteRow W (.slice va b.length vc) b) := Lib.hid fun W r t => h.below (t.below (Nat.le_refl _)) (Nat.le_refl _)
  have hends := ends_st (St.start w) _ b (fun W t => HV.out W _ t) (by omega)
  obtain ⟨n, hn⟩ : ∃ n, b.length = n := ⟨_, rfl⟩
  have hle : n ≤ 600 := by omega
  have HN := Lib.hid hn
  rw [hn] at hends c1 ⊢
  clear h hn
  go_enter Try.func6, Try.ntmps6
  go_wp2_with fail
  refine hends.mono ?_
  rintro e w2 ⟨O, hO, g, rfl, s2⟩
  clear hends
  have hOl : O.length = n := by rw [hO.len, HN.out]
  rw [hOl] at s2 ⊢
  have hOm : ∀ x ∈ O, x ≤ 1000000 := fun x hx => by have := hO.mem x hx; rw [HN.out] at this; omega
  have hh := heights_st s2 (.slice va n vc) (.slice (some ⟨g, 0, none⟩) n n) b (O.map fun x : Nat => (x : Int)) (fun W t => by have := HV.out W _ t; rwa [HN.out] at this) (fun W t => NumRow.intRow (numsRow t hOl) hOm) (by rw [HN.out]; omega) (by rw [List.length_map, hOl]; omega)
  have HO := Lib.hid (And.intro hO hOl)
  clear hO hOl hOm
  go_wp2_with fail
  refine hh.mono ?_
  rintro e w3 (⟨O', g2, h1, h2, rfl, s3⟩ | ⟨hno, _⟩)
  rotate_left
  · exact absurd HO.out.1 (hno _ rfl)
  obtain rfl := ints_one h1
  rw [HN.out] at s3 ⊢
  clear hh h1 h2 s2
  go_wp2
  go_loopw [6] (fun i wr => ∃ k : Nat, (k + 1 ≤ n ∨ k = 0) ∧ i = .int .i64 ((k : Int) + 1) ∧ St w.heap.size w wr [numsT 3 g2 n (hts b O), numsT 3 g n O]) (fun i _ => n - (intOf i).toNat)
  case atStart => exact ⟨0, .inr rfl, rfl, s3⟩
  case round =>
    clear s3
    obtain ⟨k, hk, rfl, s4⟩ := hrel
    by_cases hlt : k + 1 < n
    · have hbe := hts_behind (b := b) HO.out.1 (i := k) (by rw [HN.out]; exact hlt)
      have c0 := (s4.swap.numCell k HO.out.2 (by omega)).1
      have c1 := (s4.swap.numCell (k + 1) HO.out.2 hlt).1
      have c2 := (s4.numCell (k + 1) (by rw [hts_length, HO.out.2]) hlt).1
      have e0 : O[k]'(by rw [HO.out.2]; omega) = nth O k := (nth_lt _).symm
      have e1 : O[k + 1]'(by rw [HO.out.2]; omega) = nth O (k + 1) := (nth_lt _).symm
      have e2 : (hts b O)[k + 1]'(by rw [hts_length, HO.out.2]; exact hlt) = hAt b O (k + 1) := by unfold hts; rw [tab_get]
      rw [e0] at c0
      rw [e1] at c1
      rw [e2] at c2
      have hp := Whole.at HO.out.1 (i := k) (by rw [HN.out]; omega)
      have hq := Whole.at HO.out.1 (i := k + 1) (by rw [HN.out]; omega)
      rw [HN.out] at hbe hp hq
      obtain ⟨a', c', e3, hat⟩ := rowNth (HV.out wr _ s4)
      rw [HN.out] at e3 hat
      obtain ⟨rfl, -, rfl⟩ := Value.slice.inj e3
      clear e0 e1 e2 e3
      generalize nth O k = p at *
      generalize nth O (k + 1) = q at *
      generalize hAt b O (k + 1) = x at *
      obtain ⟨hbe1, hbe2, hbe3⟩ := hbe
      obtain ⟨hb2, bb, bo, rfl, d1⟩ := hat (q + x) hbe1
      have i1 : (k : Int) < (n : Int) := by omega
      have i2 : (k : Int) + 1 < (n : Int) := by omega
      have i3 : decide ((x : Int) < 0) = false := by simp
      have i4 : decide ((n : Int) ≤ (q : Int) + (x : Int)) = false := by simp; omega
      have i5 : decide ((n : Int) < (p : Int) + (x : Int)) = false := by simp; omega
      by_cases hpx : p + x < n
      · obtain ⟨hb1, bb', bo', e4, d0⟩ := hat (p + x) hpx
        obtain ⟨rfl, rfl⟩ : bb = bb' ∧ bo = bo' := by simpa using e4
        have hless := hbe3 hpx
        have i6 : decide ((p : Int) + (x : Int) < (n : Int)) = true := by simp; omega
        have i7 : (p : Int) + (x : Int) < (n : Int) := by omega
        have i8 : (q : Int) + (x : Int) < (n : Int) := by omega
        clear hat hbe3 e4
        generalize nth b (p + x) = y at *
        generalize nth b (q + x) = z at *
        have i9 : decide ((z : Int) ≤ (y : Int)) = false := by simp; omega
        go_wp2
        go_region
        have s5 := s4.drew
        replace c2 : wr.drew.cell? ⟨g2, k + 1, none⟩ = some (.int .i64 (x : Int)) := c2
        replace d0 : wr.drew.cell? ⟨bb, bo + (p + x), none⟩ = some (.int .u8 (y : Int)) := d0
        replace d1 : wr.drew.cell? ⟨bb, bo + (q + x), none⟩ = some (.int .u8 (z : Int)) := d1
        clear s4 c0 c1
        generalize wr.drew = wd at *
        go_wp2
        go_quiet (fail)
        have s6 := s5.drewN nq
        go_wp2
        go_roundw
        case rel => exact ⟨k + 1, by omega, by go_num, s6⟩
        case measure => simp [intOf]; omega
      · have i6 : decide ((p : Int) + (x : Int) < (n : Int)) = false := by simp; omega
        clear hat hbe3 d1
        go_wp2
        go_region
        have s5 := s4.drew
        replace c2 : wr.drew.cell? ⟨g2, k + 1, none⟩ = some (.int .i64 (x : Int)) := c2
        clear s4 c0 c1
        generalize wr.drew = wd at *
        go_wp2
        go_quiet (fail)
        have s6 := s5.drewN nq
        go_wp2
        go_roundw
        case rel => exact ⟨k + 1, by omega, by go_num, s6⟩
        case measure => simp [intOf]; omega
    · have b1 := s4.below (Nat.le_refl _)
      clear s4
      go_wp2_with fail
      refine (heights_any wr).mono ?_
      rintro e w8 ⟨rfl, b2⟩
      go_wp2_with fail
      go_ret
      exact ⟨rfl, b1.trans (b2.mono b1.size)⟩

end Go.Proofs.Ytfifkbadniekfaa.lcpSum
