/-
  A row turned round has its nearest lesser places turned round: the walk of NearTurned. No conditions.
-/
import Derived.Test.YtjchchinmggldaaNearG
namespace Go.Proofs.Ytjchchinmggldaa.nearTurned
open Go.RowKit Go.Proofs.Ytjchchinmggldaa.Suf Go.Proofs.Ytjchchinmggldaa.Near

set_option maxRecDepth 100000 in
set_option maxHeartbeats 8000000 in
theorem walk (w : World) (v : Value) (l : List Int) (h : IntRow w v l) :
    Calls Try.prog 5 #[v] w fun e w' => e = .returned (.bool true) ∧ Below w.heap.size w w' := by
  have hbyte : ∀ x ∈ l, -9223372036854775808 ≤ x ∧ x ≤ 9223372036854775807 := fun x hx => by
    obtain ⟨a, c, _, _, _, hat⟩ := h
    obtain ⟨i, hi, rfl⟩ := List.mem_iff_getElem.1 hx
    exact (hat i hi).1
  obtain ⟨va, vc, rfl⟩ : ∃ a c, v = .slice a l.length c := by obtain ⟨a, c, e, _⟩ := h; exact ⟨a, c, e⟩
  by_cases c1 : 600 < l.length
  · clear h
    go_enter Try.func5, Try.ntmps5
    go_wp2
    go_ret
    exact ⟨rfl, Below.refl _ _⟩
  have HV : Hid (∀ W r, St w.heap.size w W r → IntRow W (.slice va l.length vc) l) := Lib.hid fun W r t => h.below (t.below (Nat.le_refl _)) (Nat.le_refl _)
  obtain ⟨n, hn⟩ : ∃ n, l.length = n := ⟨_, rfl⟩
  have HR : Hid (∀ W r, St w.heap.size w W r → ∀ i, i < n → ∃ b off, va = some ⟨b, off, none⟩ ∧ W.cell? ⟨b, off + i, none⟩ = some (.int .i64 (nthI l i))) := Lib.hid fun W r t => by
    have h1 := HV.out W r t
    rw [hn] at h1
    exact (cellsOf h1).2.2
  have HB := Lib.hid hbyte
  have hle : n ≤ 600 := by omega
  have HT : Hid (∀ m, m < n → l.reverse.take (n - m) = l.reverse.take (n - (m + 1)) ++ [nthI l m]) := Lib.hid fun m hm => by
    have := rev_take l m (by omega)
    rwa [hn] at this
  have HN := Lib.hid hn
  rw [hn] at HV c1 ⊢
  clear h hbyte hn
  have s0 := (St.start w).addNil (e := 3) (size := 1)
  go_enter Try.func5, Try.ntmps5
  go_wp2
  go_loopw [4, 5] (fun ov iv wr => ∃ m : Nat, m ≤ n ∧ iv = .int .i64 ((m : Int) - 1) ∧ St w.heap.size w wr [rowT 3 1 ov (n - m) (iVals (l.reverse.take (n - m)))]) (fun _ iv _ => (intOf iv + 1).toNat)
  case atStart => exact ⟨n, by omega, rfl, by rw [Nat.sub_self, List.take_zero]; exact s0⟩
  case round =>
    clear s0
    obtain ⟨m, hm, rfl, s1⟩ := hrel
    cases m with
    | succ m =>
      obtain ⟨b, off, rfl, c0⟩ := HR.out wr _ s1 m (by omega)
      have hT := HT.out m (by omega)
      have hm1 : (m : Int) < (n : Int) := by omega
      have HT2 := Lib.hid hT
      clear hT
      go_wp2_with (at_builtin; refine wpList_append_int rfl _ _ rfl (nthI l m) s1 rfl rfl (by omega) ?_)
      intro v' w' s3
      rw [← HT2.out, show n - (m + 1) + 1 = n - m by omega] at s3
      go_wp2
      go_roundw
      case rel => exact ⟨m, by omega, by go_num, s3⟩
      case measure => simp [intOf]
    | zero =>
      rw [Nat.sub_zero, List.take_of_length_le (by rw [List.length_reverse, HN.out]; exact Nat.le_refl _)] at s1
      obtain ⟨ba, bc, rfl⟩ := ownsRow_slice s1.row
      go_wp2_with fail
      have h1 := ahead_st s1 (.slice va n vc) l (fun W t => HV.out W _ t) (by rw [HN.out]; omega)
      have hrl : l.reverse.length = n := by rw [List.length_reverse, HN.out]
      refine h1.mono ?_
      clear h1
      rintro e w2 ⟨v2, rfl, s2⟩
      have h2 := behind_st s2 (.slice ba n bc) l.reverse (fun W t => intRow_of t.swap.row hrl (fun x hx => HB.out x (List.mem_reverse.1 hx))) (by rw [hrl]; omega)
      rw [HN.out] at s2
      obtain ⟨xa, xc, rfl⟩ := ownsRow_slice s2.row
      clear s1 hrl
      go_wp2_with fail
      refine h2.mono ?_
      clear h2
      rintro e w3 ⟨v3, rfl, s3⟩
      rw [List.length_reverse, HN.out] at s3
      obtain ⟨ya, yc, rfl⟩ := ownsRow_slice s3.row
      have s4 := (s3.front 2).drop
      clear s2 s3
      go_wp2
      go_loopw [8] (fun iv wi => ∃ k : Nat, k ≤ n ∧ iv = .int .i64 (k : Int) ∧ St w.heap.size w wi [rowT 3 1 (.slice ya n yc) n (iVals (behs l.reverse)), rowT 3 1 (.slice xa n xc) n (iVals (aheads l))]) (fun iv _ => n - (intOf iv).toNat)
      case atStart => exact ⟨0, by omega, rfl, s4⟩
      case round =>
        clear s4
        obtain ⟨k, hk, rfl, s5⟩ := hrel
        by_cases hlt : k < n
        · obtain ⟨j, hj⟩ : ∃ j, n - 1 - k = j := ⟨_, rfl⟩
          obtain ⟨-, hA⟩ := ahCells HN.out (by omega) s5.drop
          obtain ⟨-, hE⟩ := beCells (l := l.reverse) (by rw [List.length_reverse]; exact HN.out) (by omega) s5
          obtain ⟨b1, o1, rfl, a0⟩ := hA k hlt
          obtain ⟨b2, o2, rfl, b0⟩ := hE j (by omega)
          have hAE := ah_turned l k (by rw [HN.out]; exact hlt)
          have hEs := be_small (l := l.reverse) (x := (beOf l.reverse j : Int)) (by
            simp only [behs, List.mem_map, List.mem_range]
            exact ⟨j, by rw [List.length_reverse, HN.out]; omega, rfl⟩)
          rw [List.length_reverse, HN.out] at hEs
          rw [HN.out, hj] at hAE
          rw [hAE] at a0
          generalize beOf l.reverse j = E at *
          have kI : (k : Int) < (n : Int) := by omega
          have jI : (n : Int) - 1 - (k : Int) = (j : Int) := by omega
          have jn : (j : Int) < (n : Int) := by omega
          have hE2 : (E : Int) ≤ (n : Int) := by omega
          have s6 := s5.drew
          clear hA hE hAE hEs hj
          go_wp2
          go_region
          go_wp2
          exact ⟨⟨k + 1, by omega, by go_num, s6⟩, by simp [intOf]; omega⟩
        · obtain rfl : k = n := by omega
          have hb := s5.below (Nat.le_refl _)
          go_wp2_with fail
          refine (finds_any _).mono ?_
          rintro e w11 ⟨rfl, b2⟩
          go_wp2_with fail
          go_ret
          exact ⟨rfl, hb.trans (b2.mono hb.size)⟩

end Go.Proofs.Ytjchchinmggldaa.nearTurned
