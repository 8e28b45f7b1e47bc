/-
  The high sum of bytes is the low sum of the bytes that each are turned round, turned round: the walk of CrcTurned. No conditions.
-/
import Derived.Test.YtgnccnpmegekmaaCrcM
namespace Go.Proofs.Ytgnccnpmegekmaa.crcTurned
open Go.RowKit Go.Proofs.Ytgnccnpmegekmaa.Crc

theorem turn8_lt (x : Nat) : turn 0 x 8 < 256 := turn_lt x 8

set_option maxRecDepth 100000 in
set_option maxHeartbeats 1000000 in
theorem walk (w : World) (v : Value) (xs : List Nat) (hb : ByteRow w v xs) :
    Calls Try.prog 6 #[v] w fun e w' => e = .returned (.bool true) ∧ Below w.heap.size w w' := by
  have hbyte := hb.byte
  obtain ⟨a, cap, rfl, hc, -, hat⟩ := id hb
  by_cases c1 : 5000 < xs.length
  · go_enter Try.func6, Try.ntmps6
    go_wp2
    go_ret
    exact ⟨rfl, Below.refl _ _⟩
  · have hl : xs.length ≤ 140737488355328 := by omega
    have HB := Lib.hid hb
    have HA := Lib.hid hat
    have s0 : St w.heap.size w w [rowT 5 1 (.slice none 0 0) 0 (u8s ((xs.map fun x => turn 0 x 8).take 0))] := (St.start w).addNil
    clear hb hat
    go_enter Try.func6, Try.ntmps6
    go_wp2
    go_loopw [3, 4] (fun c i wr => ∃ k : Nat, k ≤ xs.length ∧ i = .int .i64 (k : Int) ∧ St w.heap.size w wr [rowT 5 1 c k (u8s ((xs.map fun x => turn 0 x 8).take k))]) (fun _ i _ => xs.length - (intOf i).toNat)
    case atStart => exact ⟨0, by omega, rfl, s0⟩
    case round =>
      obtain ⟨k, hk, rfl, s1⟩ := hrel
      clear s0
      by_cases hlt : k < xs.length
      · obtain ⟨hx, b0, off, rfl, c0⟩ := HA.out k hlt
        have c1 := (s1.below (Nat.le_refl _)).cell (p := ⟨b0, off + k, none⟩) (World.block_lt_of_cell? w _ c0)
        rw [c0] at c1
        have hm : (xs.map fun x => turn 0 x 8).take (k + 1) = (xs.map fun x => turn 0 x 8).take k ++ [turn 0 xs[k] 8] := by
          rw [List.take_succ_eq_append_getElem (by rw [List.length_map]; exact hlt), List.getElem_map]
        have HM := Lib.hid hm
        clear hm c0
        generalize xs[k] = x at hx c1 HM
        obtain ⟨ad, cp, rfl⟩ := ownsRow_slice s1.row
        go_wp2_with fail
        refine (turn_any wr x 8 (by omega) (by omega)).mono ?_
        rintro e w2 ⟨rfl, rfl⟩
        have ht := turn8_lt x
        generalize turn 0 x 8 = t at ht HM
        have e1 : (t : Int) % 256 = (t : Int) := by omega
        go_wp2_with (at_builtin; refine wpList_append_lit (m := 1) rfl _ _ rfl s1 rfl [.int .u8 (t : Int)] rfl rfl ?c1 (by omega) ?_)
        case c1 => intro u hu; simp at hu; subst hu; rfl
        intro v3 w3 s3
        have s4 : St w.heap.size w w3 [rowT 5 1 v3 (k + 1) (u8s ((xs.map fun x => turn 0 x 8).take (k + 1)))] := by
          rw [HM.out, u8s_append]
          exact s3
        clear s1 s3 c1
        go_wp2
        go_roundw
        case rel => exact ⟨k + 1, by omega, by go_num, s4⟩
        case measure => simp [intOf]; omega
      · obtain rfl : k = xs.length := by omega
        rw [List.take_of_length_le (by rw [List.length_map]; exact Nat.le_refl _)] at s1
        have hb2 : ∀ x ∈ xs.map (fun x => turn 0 x 8), x < 256 := by
          intro x hx
          obtain ⟨y, _, rfl⟩ := List.mem_map.1 hx
          exact turn8_lt y
        have hl2 : (xs.map fun x => turn 0 x 8).length = xs.length := List.length_map _
        rw [← hl2] at s1
        have HL := Lib.hid hl2
        clear hl2
        go_wp2_with fail
        refine (high_st s1 (HB.out.below (s1.below (Nat.le_refl _)) (Nat.le_refl _)) hl).mono ?_
        rintro e w2 ⟨rfl, s2, -⟩
        go_wp2_with fail
        refine (low_st s2 (St.bytesRow s2 hb2) (by rw [HL.out]; exact hl)).mono ?_
        rintro e w3 ⟨rfl, s3, -⟩
        have h4 : lowSum (xs.map fun x => turn 0 x 8) < 4294967296 := (lowReg _ ^^^ ones).isLt
        clear s1 s2
        go_wp2_with fail
        refine (turn_any w3 _ 32 h4 (by omega)).mono ?_
        rintro e w4 ⟨rfl, rfl⟩
        rw [← high_turned]
        go_wp2_with fail
        refine (sums_st s3).mono ?_
        rintro e w5 ⟨rfl, s5⟩
        clear s3
        go_wp2
        go_ret
        exact ⟨rfl, s5.below (Nat.le_refl _)⟩

end Go.Proofs.Ytgnccnpmegekmaa.crcTurned
