/-
  The walk of RepeatKnown. No conditions. (Written by wip/gen_repknown.py.)
-/
import Derived.Test.YthmkkbaenccgiaaRepX
namespace Go.Proofs.Ythmkkbaenccgiaa.repeatKnown
open Go.RowKit Rep

/-- Unpack of signs written out in the text. -/
theorem unpack_lit {B : Nat} {w0 w : World} {r : List Thing} (st : St B w0 w r) (l : List (Nat × Nat)) (hs : Small l) (hl : l.length ≤ 1000) (n k : Int) (out : List Nat) (hn0 : -9223372036854775808 ≤ n) (hn1 : n ≤ 9223372036854775807) (hk : (unErr l n : Int) = k) (ho : unAns l n = out) :
    Calls Try.prog 13 #[.slice (some ⟨w.heap.size, 0, none⟩) l.length l.length, .int .i64 n] (w.alloc (.cells (sgn l).toArray 31)) fun e w' => ∃ a c, e = .returned (.tuple #[.slice a out.length c, .int .i64 k]) ∧ St B w0 w' (rowT 5 1 (.slice a out.length c) out.length (u8s out) :: r) := by
  have s2 := st.newBox (sgn l).toArray 31
  refine (unpack_st s2 _ l (fun W sW => signRow_box sW.box hs (by unfold maxLen; omega)) (by omega) n hn0 hn1).mono ?_
  rintro e w' ⟨v', he, s3⟩
  rw [hk, ho] at *
  obtain ⟨a, c, rfl⟩ := ownsRow_slice s3.row
  exact ⟨a, c, he, s3.swap.drop⟩

/-- Unpack of no signs. -/
theorem unpack_nil {B : Nat} {w0 w : World} {r : List Thing} (st : St B w0 w r) (n k : Int) (hn0 : -9223372036854775808 ≤ n) (hn1 : n ≤ 9223372036854775807) (hk : (unErr [] n : Int) = k) (ho : unAns [] n = []) :
    Calls Try.prog 13 #[.slice none 0 0, .int .i64 n] w fun e w' => ∃ a c, e = .returned (.tuple #[.slice a 0 c, .int .i64 k]) ∧ St B w0 w' r := by
  refine (unpack_st st _ [] (fun W _ => signRow_none W) (by simp) n hn0 hn1).mono ?_
  rintro e w' ⟨v', he, s3⟩
  rw [hk, ho] at *
  obtain ⟨a, c, rfl⟩ := ownsRow_slice s3.row
  exact ⟨a, c, he, s3.drop⟩

/-- Pack of lengths written out in the text. -/
theorem pack_lit {B : Nat} {w0 w : World} {r : List Thing} (st : St B w0 w r) (L : List Nat) (hb : ∀ x ∈ L, x < 256) (hl : L.length ≤ 1000) (k : Int) (S : List (Nat × Nat)) (hk : (packErr L : Int) = k) (ho : packOf L = S) :
    Calls Try.prog 9 #[.slice (some ⟨w.heap.size, 0, none⟩) L.length L.length] (w.alloc (.cells (u8s L).toArray 5)) fun e w' => ∃ a c, e = .returned (.tuple #[.slice a S.length c, .int .i64 k]) ∧ St B w0 w' (rowT 31 2 (.slice a S.length c) S.length (sgn S) :: r) := by
  have s2 := st.newBox (u8s L).toArray 5
  refine (pack_st s2 _ L (byteRow_lit w L (0, 0) hb) (by omega)).mono ?_
  rintro e w' ⟨v', he, s3⟩
  rw [hk, ho] at *
  obtain ⟨a, c, rfl⟩ := ownsRow_slice s3.row
  exact ⟨a, c, he, s3.swap.drop⟩

theorem pack_zeros : packErr (List.replicate 139 0) = 0 ∧ packOf (List.replicate 139 0) = [(18, 127), (0, 0)] := by
  have e : ((List.replicate 139 0).any fun x => decide (15 < x)) = false := by decide
  unfold packErr packOf
  rw [e]
  refine ⟨rfl, ?_⟩
  show pack (List.replicate 139 0) = _
  have h := pack_run 0 138 [] (by simp)
  rw [List.append_nil] at h
  rw [h, pack, List.append_nil]
  unfold signs
  rw [if_pos rfl, zeros, if_pos (by omega), zeros, if_neg (by omega), if_neg (by omega), if_neg (by omega)]
  rfl

theorem pack_16 : packErr [16] = 5 ∧ packOf [16] = [] := by decide

theorem pack_three : packErr [4, 4, 4] = 0 ∧ packOf [4, 4, 4] = [(4, 0), (4, 0), (4, 0)] := by
  have e : (([4, 4, 4] : List Nat).any fun x => decide (15 < x)) = false := by decide
  unfold packErr packOf
  rw [e]
  refine ⟨rfl, ?_⟩
  show pack [4, 4, 4] = _
  simp [pack, lead, signs, others]

theorem pack_ten : packErr [4, 4, 4, 4, 4, 4, 4, 4, 4, 4] = 0 ∧ packOf [4, 4, 4, 4, 4, 4, 4, 4, 4, 4] = [(4, 0), (16, 3), (16, 0)] := by
  have e : (([4, 4, 4, 4, 4, 4, 4, 4, 4, 4] : List Nat).any fun x => decide (15 < x)) = false := by decide
  unfold packErr packOf
  rw [e]
  refine ⟨rfl, ?_⟩
  show pack [4, 4, 4, 4, 4, 4, 4, 4, 4, 4] = _
  simp [pack, lead, signs, others]

set_option maxRecDepth 100000 in
set_option maxHeartbeats 8000000 in
theorem walk (w : World) : Calls Try.prog 8 #[] w fun e w' => e = .returned (.bool true) ∧ Below w.heap.size w w' := by
  obtain ⟨i0, hi, hz0, hz1, hz2⟩ := info_parts info8
  have hmk : i0.bytes * 139 ≤ 281474976710656 := by rw [hz2]; decide
  have hmx : 139 ≤ maxLen := by decide
  go_enter Try.func8, Try.ntmps8
  go_wp2_with (at_make; refine wpList_make_full _ rfl _ _ 22 rfl w.heap.size 5 i0 (.int .u8 0) 1 Try.underlying22 hi hz0 hz1 _ _ _ _ 139 rfl rfl rfl rfl hmk hmx (Nat.le_refl _) ?_)
  intro w1 hown hgrow
  have s1 := (St.start w).made hown hgrow
  clear hown hgrow
  have hp : Calls Try.prog 9 #[.slice (some ⟨w.heap.size, 0, none⟩) 139 139] w1 fun e w' => ∃ a c, e = .returned (.tuple #[.slice a 2 c, .int .i64 0]) ∧ St w.heap.size w w' [rowT 31 2 (.slice a 2 c) 2 (sgn [(18, 127), (0, 0)])] := by
    have hl : (List.replicate 139 0).length = 139 := by simp
    have s2 : St w.heap.size w w1 [rowT 5 1 (.slice (some ⟨w.heap.size, 0, none⟩) 139 139) (List.replicate 139 0).length (u8s (List.replicate 139 0))] := by rw [hl]; exact s1
    refine (pack_st s2 (.slice (some ⟨w.heap.size, 0, none⟩) 139 139) (List.replicate 139 0) (s2.bytesRow (fun x hx => by rw [(List.mem_replicate.1 hx).2]; decide)) (by rw [hl]; decide)).mono ?_
    rintro e w' ⟨v', he, s3⟩
    rw [pack_zeros.1] at he
    rw [pack_zeros.2] at s3
    have s4 : St w.heap.size w w' (rowT 31 2 v' 2 (sgn [(18, 127), (0, 0)]) :: _ :: []) := s3
    obtain ⟨a, c, rfl⟩ := ownsRow_slice s4.row
    exact ⟨a, c, he, s4.swap.drop⟩
  go_wp2_with fail
  refine hp.mono ?_
  rintro e w2 ⟨la, lc, rfl, s2⟩
  clear hp s1 hmk hi hz0 hz1 hz2
  go_wp2_with fail
  refine (unpack_lit s2 [(16, 0)] (by unfold Small; decide) (by decide) 3 2 [] (by decide) (by decide) (by decide) (by decide)).mono ?_
  rintro e w3 ⟨a3, c3, rfl, t3⟩
  have s3 := t3.drop
  clear s2 t3
  go_wp2_with fail
  refine (unpack_lit s3 [(17, 0)] (by unfold Small; decide) (by decide) 4 2 [] (by decide) (by decide) (by decide) (by decide)).mono ?_
  rintro e w4 ⟨a4, c4, rfl, t4⟩
  have s4 := t4.drop
  clear s3 t4
  go_wp2_with fail
  refine (unpack_lit s4 [(19, 0)] (by unfold Small; decide) (by decide) 1 5 [] (by decide) (by decide) (by decide) (by decide)).mono ?_
  rintro e w5 ⟨a5, c5, rfl, t5⟩
  have s5 := t5.drop
  clear s4 t5
  go_wp2_with fail
  refine (unpack_lit s5 [(3, 1)] (by unfold Small; decide) (by decide) 1 5 [] (by decide) (by decide) (by decide) (by decide)).mono ?_
  rintro e w6 ⟨a6, c6, rfl, t6⟩
  have s6 := t6.drop
  clear s5 t6
  go_wp2_with fail
  refine (unpack_lit s6 [(3, 0), (16, 4)] (by unfold Small; decide) (by decide) 8 5 [] (by decide) (by decide) (by decide) (by decide)).mono ?_
  rintro e w7 ⟨a7, c7, rfl, t7⟩
  have s7 := t7.drop
  clear s6 t7
  go_wp2_with fail
  refine (unpack_lit s7 [(17, 8)] (by unfold Small; decide) (by decide) 11 5 [] (by decide) (by decide) (by decide) (by decide)).mono ?_
  rintro e w8 ⟨a8, c8, rfl, t8⟩
  have s8 := t8.drop
  clear s7 t8
  go_wp2_with fail
  refine (unpack_lit s8 [(18, 128)] (by unfold Small; decide) (by decide) 139 5 [] (by decide) (by decide) (by decide) (by decide)).mono ?_
  rintro e w9 ⟨a9, c9, rfl, t9⟩
  have s9 := t9.drop
  clear s8 t9
  have u138 : unErr [(18, 127)] 138 = 0 ∧ unAns [(18, 127)] 138 = List.replicate 138 0 := by decide
  go_wp2_with fail
  refine (unpack_lit s9 [(18, 127)] (by unfold Small; decide) (by decide) 138 0 (List.replicate 138 0) (by decide) (by decide) (by rw [u138.1]; rfl) u138.2).mono ?_
  rintro e w10 ⟨a10, c10, rfl, t10⟩
  have s10 := t10.drop
  clear s9 t10 u138
  rw [show (List.replicate 138 0).length = 138 from by simp]
  go_wp2_with fail
  refine (unpack_nil s10 0 0 (by decide) (by decide) (by decide) (by decide)).mono ?_
  rintro e w11 ⟨a11, c11, rfl, s11⟩
  clear s10
  go_wp2_with fail
  refine (unpack_nil s11 (-1) 2 (by decide) (by decide) (by decide) (by decide)).mono ?_
  rintro e w12 ⟨a12, c12, rfl, s12⟩
  clear s11
  go_wp2_with fail
  refine (pack_lit s12 [16] (by decide) (by decide) 5 [] (by rw [pack_16.1]; rfl) pack_16.2).mono ?_
  rintro e w13 ⟨a13, c13, rfl, t13⟩
  have s13 := t13.drop
  clear s12 t13
  go_wp2_with fail
  refine (pack_lit s13 [4, 4, 4] (by decide) (by decide) 0 _ (by rw [pack_three.1]; rfl) pack_three.2).mono ?_
  rintro e w14 ⟨a14, c14, rfl, t14⟩
  have s14 := t14.drop
  clear s13 t14
  go_wp2_with fail
  refine (pack_lit s14 [4, 4, 4, 4, 4, 4, 4, 4, 4, 4] (by decide) (by decide) 0 _ (by rw [pack_ten.1]; rfl) pack_ten.2).mono ?_
  rintro e w15 ⟨a15, c15, rfl, s15⟩
  clear s14
  obtain ⟨g1, q1, e1, hq1⟩ := s15.swap.rowShape (by decide)
  obtain ⟨g2, q2, e2, hq2⟩ := s15.rowShape (by decide)
  obtain ⟨rfl, -, rfl⟩ := Value.slice.inj e1
  obtain ⟨rfl, -, rfl⟩ := Value.slice.inj e2
  have b0 : w15.cell? ⟨g1, 0, none⟩ = some (.int .u8 18) := s15.swap.row.cellAt 0 (by decide)
  have b1 : w15.cell? ⟨g1, 1, none⟩ = some (.int .u8 127) := s15.swap.row.cellAt 1 (by decide)
  have b2 : w15.cell? ⟨g1, 2, none⟩ = some (.int .u8 0) := s15.swap.row.cellAt 2 (by decide)
  have b3 : w15.cell? ⟨g1, 3, none⟩ = some (.int .u8 0) := s15.swap.row.cellAt 3 (by decide)
  have d2 : w15.cell? ⟨g2, 2, none⟩ = some (.int .u8 16) := s15.row.cellAt 2 (by decide)
  have d3 : w15.cell? ⟨g2, 3, none⟩ = some (.int .u8 3) := s15.row.cellAt 3 (by decide)
  have d4 : w15.cell? ⟨g2, 4, none⟩ = some (.int .u8 16) := s15.row.cellAt 4 (by decide)
  have d5 : w15.cell? ⟨g2, 5, none⟩ = some (.int .u8 0) := s15.row.cellAt 5 (by decide)
  have z1 : 2 ≤ lc := hq1
  have z2 : 3 ≤ c15 := hq2
  have hbw := s15.below (Nat.le_refl _)
  clear s15 hq1 hq2
  go_wp2_with fail
  refine (packs_any _).mono ?_
  rintro e w16 ⟨rfl, hb16⟩
  go_wp2
  go_ret
  exact ⟨rfl, hbw.trans (hb16.mono hbw.size)⟩

end Go.Proofs.Ythmkkbaenccgiaa.repeatKnown
