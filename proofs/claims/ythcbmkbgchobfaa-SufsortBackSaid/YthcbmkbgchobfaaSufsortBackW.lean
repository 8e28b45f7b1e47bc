/-
  Places of Places is the row again; each number stands where it says: the walk of SufsortBack. No conditions.
-/
import Derived.Test.YthcbmkbgchobfaaSufM
namespace Go.Proofs.Ythcbmkbgchobfaa.sufsortBack
open Go.RowKit Go.Proofs.Ythcbmkbgchobfaa.Suf

set_option maxRecDepth 100000 in
set_option maxHeartbeats 8000000 in
theorem walk (w : World) (v : Value) (b : List Nat) (h : ByteRow w v b) :
    Calls Try.prog 7 #[v] w fun e w' => e = .returned (.bool true) ∧ Below w.heap.size w w' := by
  obtain ⟨va, vc, rfl⟩ : ∃ a c, v = .slice a b.length c := by obtain ⟨a, c, e, _⟩ := h; exact ⟨a, c, e⟩
  by_cases c1 : 1000 < b.length
  · go_enter Try.func7, Try.ntmps7
    go_wp2
    go_ret
    exact ⟨rfl, Below.refl _ _⟩
  have HV : Hid (∀ W r, St w.heap.size w W r → ByteRow W (.slice va b.length vc) b) := Lib.hid fun W r t => h.below (t.below (Nat.le_refl _)) (Nat.le_refl _)
  obtain ⟨n, hn⟩ : ∃ n, b.length = n := ⟨_, rfl⟩
  have hle : n ≤ 1000 := by omega
  have hend := ends_st (St.start w) _ b (fun W t => HV.out W _ t) (by omega)
  rw [hn]
  have HN := Lib.hid hn
  clear h HV
  rw [hn] at hend c1
  clear hn
  go_enter Try.func7, Try.ntmps7
  go_wp2_with fail
  refine hend.mono ?_
  rintro e w2 ⟨O, hO, g, rfl, s2⟩
  rw [HN.out] at hO
  have hOl := hO.len
  have hmem : ∀ x ∈ O, x ≤ 1000000 := fun x hx => by have := hO.mem x hx; omega
  obtain ⟨J0, hJ0⟩ := inv_whole hO (fun _ => Ahead.irrefl)
  have hpl := places_st s2 (.slice (some ⟨g, 0, none⟩) O.length O.length) (O.map fun x : Nat => (x : Int)) (fun W t => NumRow.intRow (numsRow t rfl) hmem) (by rw [List.length_map]; omega)
  rw [hOl] at hpl s2 ⊢
  have HOl := Lib.hid hOl
  clear hOl hend
  go_wp2_with fail
  refine hpl.mono ?_
  rintro e w3 (⟨J, hJ, g2, rfl, s3⟩ | ⟨hno, _⟩)
  rotate_left
  · exact absurd hJ0 (hno _)
  have hJl : J.length = n := by rw [hJ.1, List.length_map, HOl.out]
  have hJm : ∀ x ∈ J, x ≤ 1000000 := fun x hx => by
    obtain ⟨i, hi, rfl⟩ := List.mem_iff_getElem.1 hx
    have := hJ.lt hi
    rw [List.length_map, HOl.out] at this
    omega
  have hat : ∀ k, k < n → nth J k < n ∧ nth O (nth J k) = k := fun k hk => by
    have hk' : k < J.length := by omega
    have h1 := hJ.lt hk'
    have h2 := hJ.2 k hk'
    rw [List.length_map, HOl.out] at h1
    rw [nth_lt hk']
    refine ⟨h1, ?_⟩
    rw [List.getElem?_map, List.getElem?_eq_getElem (by rw [HOl.out]; exact h1)] at h2
    rw [nth_lt (by rw [HOl.out]; exact h1)]
    have := Option.some.inj h2
    simp at this
    omega
  have HAT := Lib.hid hat
  rw [hJl] at s3 ⊢
  have HJl := Lib.hid hJl
  clear hJl hat hpl s2 hJ0 J0
  have HJm := Lib.hid hJm
  have HM := Lib.hid hmem
  have HJ := Lib.hid hJ
  clear hJm hmem hJ hO
  go_wp2
  go_loopw [5] (fun i wr => ∃ k : Nat, k ≤ n ∧ i = .int .i64 (k : Int) ∧ wr = w3) (fun i _ => n - (intOf i).toNat)
  case atStart => exact ⟨0, by omega, rfl, rfl⟩
  case round =>
    obtain ⟨k, hk, rfl, rfl⟩ := hrel
    by_cases hlt : k < n
    · obtain ⟨hy, hoy⟩ := HAT.out k hlt
      have c0 := (s3.numCell k HJl.out hlt).1
      rw [← nth_lt (by rw [HJl.out]; exact hlt)] at c0
      have c2 := (s3.swap.numCell (nth J k) HOl.out hy).1
      rw [← nth_lt (by rw [HOl.out]; exact hy), hoy] at c2
      generalize nth J k = y at *
      clear hoy
      have d1 : decide ((y : Int) < 0) = false := by simp
      have d2 : decide ((n : Int) ≤ (y : Int)) = false := by simp; omega
      go_wp2
      go_roundw
      case rel => exact ⟨k + 1, by omega, by go_num, trivial⟩
      case measure => simp [intOf]; omega
    · obtain rfl : n = k := by omega
      have hpl := places_st s3 (.slice (some ⟨g2, 0, none⟩) n n) (J.map fun x : Nat => (x : Int)) (fun W t => NumRow.intRow (numsRow t HJl.out) HJm.out) (by rw [List.length_map, HJl.out]; omega)
      go_wp2_with fail
      refine hpl.mono ?_
      rintro e w4 (⟨I, hI, g3, rfl, s4⟩ | ⟨hno, _⟩)
      · obtain rfl := hI.one HJ.out.back
        rw [HOl.out] at s4 ⊢
        clear hpl s3 hI
        go_wp2_with fail
        refine (same_st s4 _ _ I I (numsRow s4 HOl.out) (numsRow s4.third HOl.out) (by rw [HOl.out]; omega) HM.out HM.out).mono ?_
        rintro e w5 ⟨rfl, s5⟩
        rw [show decide (I = I) = true from decide_eq_true rfl]
        have b1 := s5.below (Nat.le_refl _)
        clear s4 s5
        go_wp2_with fail
        refine (sorts_any w5).mono ?_
        rintro e w8 ⟨rfl, b2⟩
        go_wp2_with fail
        go_ret
        exact ⟨rfl, b1.trans (b2.mono b1.size)⟩
      · exact absurd HJ.out.back (hno _)

end Go.Proofs.Ythcbmkbgchobfaa.sufsortBack
