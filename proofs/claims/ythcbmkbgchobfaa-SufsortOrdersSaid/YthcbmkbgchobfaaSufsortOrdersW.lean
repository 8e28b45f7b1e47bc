/-
  Every Ends and Rotations answers as the document says; what is handed in stays: the walk of SufsortOrders. No conditions.
-/
import Derived.Test.YthcbmkbgchobfaaSufL
import Derived.Test.YthcbmkbgchobfaaSufM
namespace Go.Proofs.Ythcbmkbgchobfaa.sufsortOrders
open Go.RowKit Go.Proofs.Ythcbmkbgchobfaa.Suf

set_option maxRecDepth 100000 in
set_option maxHeartbeats 8000000 in
theorem walk (w : World) (v : Value) (b : List Nat) (h : ByteRow w v b) :
    Calls Try.prog 3 #[v] w fun e w' => e = .returned (.bool true) ∧ Below w.heap.size w w' := by
  have hbyte := h.byte
  obtain ⟨va, vc, rfl⟩ : ∃ a c, v = .slice a b.length c := by obtain ⟨a, c, e, _⟩ := h; exact ⟨a, c, e⟩
  by_cases c1 : 300 < b.length
  · go_enter Try.func3, Try.ntmps3
    go_wp2
    go_ret
    exact ⟨rfl, Below.refl _ _⟩
  have HV : Hid (∀ W r, St w.heap.size w W r → ByteRow W (.slice va b.length vc) b) := Lib.hid fun W r t => h.below (t.below (Nat.le_refl _)) (Nat.le_refl _)
  have HI : Hid (∀ W g r, St w.heap.size w W (rowT 5 1 g b.length (u8s b) :: r) → ByteRow W g b) := Lib.hid fun W g r t => byteRow_owns t.row hbyte
  have HB := Lib.hid h
  have hone : ∀ (rot : Bool) (O L : List Nat), Whole b.length (Ahead rot b) O → Whole b.length (Ahead rot b) L → O = L := fun rot O L h1 h2 => Whole.one (fun _ _ h h' => h.asymm h') h1 h2
  have hmem : ∀ (rot : Bool) (O : List Nat), Whole b.length (Ahead rot b) O → ∀ x ∈ O, x ≤ 1000000 := fun rot O h x hx => by have := h.mem x hx; omega
  have hle : b.length ≤ 300 := by omega
  clear h
  go_enter Try.func3, Try.ntmps3
  go_wp2_with (at_builtin; refine wpList_copyW (xs := b) rfl _ _ rfl (St.start w) HB.out rfl rfl (by omega) ?_)
  intro vi w1 s1
  go_wp2_with fail
  refine (ends_st s1 vi b (fun W t => HI.out W _ _ t) (by omega)).mono ?_
  rintro e w2 ⟨O, hO, g, rfl, s2⟩
  clear s1
  go_wp2_with fail
  refine (orderEnd_st s2 _ b (fun W t => HV.out W _ t) (by omega)).mono ?_
  rintro e w3 ⟨L, vL, hL, rfl, s3⟩
  obtain rfl := hone false _ _ hO hL
  clear s2
  go_wp2_with fail
  refine (same_st s3 _ _ O O (numsRow s3.swap rfl) s3.numRow (by rw [hO.len]; omega) (hmem _ _ hO) (hmem _ _ hO)).mono ?_
  rintro e w4 ⟨rfl, s4⟩
  rw [show decide (O = O) = true from decide_eq_true rfl]
  have s5 := s4.drop.drop
  clear s3 s4 hO hL
  go_wp2_with fail
  refine (rots_st s5 vi b (fun W t => HI.out W _ _ t) (by omega)).mono ?_
  rintro e w5 ⟨O2, hO, g2, rfl, s6⟩
  clear s5
  go_wp2_with fail
  refine (orderRot_st s6 _ b (fun W t => HV.out W _ t) (by omega)).mono ?_
  rintro e w6 ⟨L, vL, hL, rfl, s7⟩
  obtain rfl := hone true _ _ hO hL
  clear s6
  go_wp2_with fail
  refine (same_st s7 _ _ O2 O2 (numsRow s7.swap rfl) s7.numRow (by rw [hO.len]; omega) (hmem _ _ hO) (hmem _ _ hO)).mono ?_
  rintro e w7 ⟨rfl, s8⟩
  rw [show decide (O2 = O2) = true from decide_eq_true rfl]
  have s9 := s8.drop.drop
  have hs1 := run_string w7 vi b (HI.out w7 _ _ s9).reads
  have hs2 := run_string w7 _ b (HV.out w7 _ s9).reads
  have b1 := s9.below (Nat.le_refl _)
  clear s7 s8 s9 hO hL
  generalize strOf b = s at *
  go_wp2_with fail
  refine (sorts_any w7).mono ?_
  rintro e w8 ⟨rfl, b2⟩
  go_wp2_with fail
  go_ret
  exact ⟨rfl, b1.trans (b2.mono b1.size)⟩

end Go.Proofs.Ythcbmkbgchobfaa.sufsortOrders
