/-
  Every Words is the document's; what is handed in stays: the walk of KraftWords. No conditions.
-/
import Derived.Test.YtogghjkobgjkhaaKrC
import Derived.Test.YtogghjkobgjkhaaStr
namespace Go.Proofs.Ytogghjkobgjkhaa.kraftWords
open Go.RowKit Go.Proofs.Ytogghjkobgjkhaa.Kraft

set_option maxRecDepth 100000 in
set_option maxHeartbeats 2000000 in
theorem walk (w : World) (v : Value) (L : List Nat) (h : ByteRow w v L) :
    Calls Try.prog 4 #[v] w fun e w' => e = .returned (.bool true) ∧ Below w.heap.size w w' := by
  obtain ⟨a, cap, rfl, hc, -⟩ := id h
  by_cases h6 : 600 < L.length
  · go_enter Try.func4, Try.ntmps4
    go_wp2
    go_ret
    exact ⟨rfl, Below.refl _ _⟩
  · have hl : L.length ≤ 140737488355328 := by omega
    have H := Lib.hid h
    have HB := Lib.hid h.byte
    clear h
    go_enter Try.func4, Try.ntmps4
    go_wp2_with (at_builtin; refine wpList_copyW rfl _ _ rfl (St.start w) H.out rfl rfl hl ?_)
    intro v3 w3 s3
    have hB3 := Lib.hid (St.bytesRow s3 HB.out)
    obtain ⟨ad3, cp3, rfl⟩ := ownsRow_slice s3.row
    go_wp2_with fail
    refine (words_st s3 _ L hB3.out hl).mono ?_
    intro e w4 hW
    obtain ⟨er, her⟩ : ∃ er, wordsErr L = er := ⟨_, rfl⟩
    obtain ⟨ws, hws⟩ : ∃ ws, wordsOf L = ws := ⟨_, rfl⟩
    have hwl : ws.length ≤ 600 := by
      rw [← hws]
      unfold wordsOf
      split
      · rw [words_length]; omega
      · simp
    obtain ⟨va, rfl, s4⟩ := hW.open er her ws hws
    clear hW
    go_wp2_with fail
    refine (refWords_st s4 _ L (H.out.below (s4.below (Nat.le_refl _)) (Nat.le_refl _)) hl).mono ?_
    intro e w5 hW
    obtain ⟨vb, rfl, s5⟩ := hW.open er her ws hws
    clear hW s3 s4 hB3
    have t3 := s5.third.row
    have hsa := run_string w5 _ L (byteRow_owns t3 HB.out).reads
    have hsb := run_string w5 _ L (H.out.below (s5.below (Nat.le_refl _)) (Nat.le_refl _)).reads
    obtain ⟨ada, cpa, rfl⟩ := ownsRow_slice s5.swap.row
    obtain ⟨adb, cpb, rfl⟩ := ownsRow_slice s5.row
    go_wp2
    go_loopw [8] (fun i wr => ∃ k : Nat, k ≤ ws.length ∧ i = .int .i64 (k : Int) ∧ St w.heap.size w wr [rowT 34 1 (.slice adb ws.length cpb) ws.length (u32s ws), rowT 34 1 (.slice ada ws.length cpa) ws.length (u32s ws)]) (fun i _ => ws.length - (intOf i).toNat)
    case atStart => exact ⟨0, by omega, rfl, s5.third.drop⟩
    case round =>
      obtain ⟨k, hk, rfl, t⟩ := hrel
      clear s5 t3 hsa hsb hws her
      by_cases hlt : k < ws.length
      · obtain ⟨ga, ca, ea, -⟩ := t.swap.rowShape (by omega)
        obtain ⟨gb, cb, eb, -⟩ := t.rowShape (by omega)
        obtain ⟨rfl, -, rfl⟩ := Value.slice.inj ea
        obtain ⟨rfl, -, rfl⟩ := Value.slice.inj eb
        have c1 := t.swap.row.cellAt k (by omega)
        have c2 := t.row.cellAt k (by omega)
        rw [u32s_get _ _ hlt] at c1 c2
        have hd : decide ((k : Int) < (ws.length : Int)) = true := by simp; omega
        generalize ws[k] = x at c1 c2
        go_wp2
        go_region
        go_wp2
        go_roundw
        case rel => exact ⟨k + 1, by omega, by go_num, t.drew⟩
        case measure => simp [intOf]; omega
      · obtain rfl : k = ws.length := by omega
        go_wp2_with fail
        refine (classes_st t).mono ?_
        rintro e w6 ⟨rfl, s6⟩
        go_wp2
        go_ret
        exact ⟨rfl, s6.below (Nat.le_refl _)⟩

end Go.Proofs.Ytogghjkobgjkhaa.kraftWords
