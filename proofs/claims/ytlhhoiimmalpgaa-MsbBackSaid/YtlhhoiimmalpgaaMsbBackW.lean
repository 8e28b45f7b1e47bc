/-
  What is laid is read: the walk of MsbBack. No conditions.
-/
import Derived.Test.YtlhhoiimmalpgaaMsbBackP
import Derived.StillTailTactics
namespace Go.Proofs.Ytlhhoiimmalpgaa.Msb.msbBack
open Go.RowKit

/-- Ahead of round k of the first loop. -/
def Laid (w : World) (l : List ActV) (v : Value) (i : Value) (wr : World) : Prop := ∃ (k : Nat) (d : List ActV), k ≤ l.length ∧ d.length ≤ k ∧ (∀ x ∈ d, okAct x) ∧ i = .int .i64 (k : Int) ∧
  St w.heap.size w wr [rowT 30 4 v d.length (actCells d), wrT w.heap.size (layAll d [])]

/-- Ahead of round j of the second loop. -/
def ReadTo (w : World) (d : List ActV) (qb : Nat) (v : Value) (i : Value) (wr : World) : Prop := ∃ j : Nat, j ≤ d.length ∧ i = .int .i64 (j : Int) ∧
  St w.heap.size w wr [rdT qb (pk (layAll d [])) (layAll (d.take j) []).length, wrT w.heap.size (layAll d []), rowT 30 4 v d.length (actCells d)]

set_option maxRecDepth 100000 in
set_option maxHeartbeats 1000000 in
theorem walk (w : World) (s : Value) (l : List ActV) (hs : Acts w s l) :
    Calls Try.prog 5 #[s] w fun e w' => e = .returned (.bool true) ∧ Below w.heap.size w w' := by
  obtain ⟨a, cap, rfl, hmax, hat⟩ := hs
  unfold maxLen at hmax
  by_cases h200 : 200 < l.length
  · have d1 : (200 : Int) < (l.length : Int) := by omega
    clear hat
    go_enter Try.func5, Try.ntmps5
    go_wp2
    go_ret
    exact ⟨rfl, Below.refl _ _⟩
  · have d1 : decide (200 < l.length) = false := by simp; omega
    have HA := Lib.hid hat
    have s0 := ((St.start w).mnewWr).addNil (e := 30) (size := 4)
    clear hat
    go_enter Try.func5, Try.ntmps5
    go_wp2
    go_loopw [4, 5] (fun v i wr => Laid w l v i wr) (fun _ i _ => l.length - (intOf i).toNat)
    case atStart => exact ⟨0, [], by omega, by simp, by simp, rfl, s0⟩
    case round =>
      obtain ⟨k, d, hk, hdk, hok, rfl, st⟩ := hrel
      by_cases hlt : k < l.length
      · obtain ⟨hfit, b, off, rfl, hcell⟩ := HA.out k hlt
        obtain ⟨c0, c1, c2, c3⟩ := hcell.below (st.below (Nat.le_refl _)) (Nat.le_refl _)
        have hll := layAll_length d [] hok
        simp only [List.length_nil, Nat.zero_add] at hll
        have HD := Lib.hid hok
        clear hok
        by_cases hal : l[k].al = true
        · rw [hal] at c2
          have hne : okAct l[k] := .inl hal
          have hcs : l[k].cells = [.int .u32 (l[k].v : Int), .int .i64 l[k].n, .bool true, .bool l[k].ad] := by rw [ActV.cells, hal]
          have hab : layAll d [] ++ bitsOf 0 (padOf (layAll d []).length) = layAll (d ++ [l[k]]) [] := by rw [layAll_snoc, actBits, if_pos hal]
          have HC := Lib.hid hcs
          have HB := Lib.hid hab
          clear hal hcs hab
          go_wp2_with fail
          refine (walign_st st.swap (by omega)).mono ?_
          rintro e w2 ⟨rfl, st2⟩
          rw [HB.out] at st2
          have st3 := st2.swap
          clear c0 c1 c2 c3 st st2
          obtain ⟨c0, c1, c2, c3⟩ := hcell.below (st3.below (Nat.le_refl _)) (Nat.le_refl _)
          have c2' : w2.cell? ⟨b, off + k * 4 + 2, none⟩ = some (.bool true) := by rw [c2]; have := HC.out; simp [ActV.cells] at this; rw [this]
          clear c2
          obtain ⟨i0, hi, hz0, hz1, hz2⟩ := info_parts info30
          go_wp2_with ((at_builtin; refine wpList_append_one rfl _ _ 22 rfl 30 i0 _ 4 24 Try.underlying22 hi hz0 hz1 hz2 rfl (by decide) st3 rfl [.int .u32 (l[k].v : Int), .int .i64 l[k].n, .bool true, .bool l[k].ad] rfl rfl ?c2 ?c3 ?c4 ?_))
          case c2 => intro u hu; simp at hu; rcases hu with rfl | rfl | rfl | rfl <;> rfl
          case c3 => unfold maxLen; omega
          case c4 => omega
          intro v' w4 st4
          rw [← HC.out, ← actCells_snoc] at st4
          clear c0 c1 c2' c3 hi hz0 hz1 hz2 st3
          go_wp2
          go_roundw
          case rel => exact ⟨k + 1, d ++ [l[k]], by omega, by simp; omega, fun x hx => by
            rcases List.mem_append.1 hx with h | h
            · exact HD.out x h
            · simp at h; subst h; exact hne, by go_num, by simpa using st4⟩
          case measure => simp [intOf]; omega
        · have hal' : l[k].al = false := by simpa using hal
          rw [hal'] at c2
          have HAl := Lib.hid hal'
          clear hal hal'
          by_cases hput : 0 ≤ l[k].n ∧ l[k].n ≤ 32 ∧ l[k].v < 2 ^ l[k].n.toNat
          · obtain ⟨m, hm⟩ := Int.eq_ofNat_of_zero_le hput.1
            have hput' := hput
            rw [hm] at c1 hput'
            rw [Int.toNat_natCast] at hput'
            obtain ⟨_, hm32, hvm⟩ := hput'
            have hne : okAct l[k] := .inr hput
            have hcs : l[k].cells = [.int .u32 (l[k].v : Int), .int .i64 (m : Int), .bool false, .bool l[k].ad] := by rw [ActV.cells, HAl.out, hm]
            have hab : layAll d [] ++ bitsOf l[k].v m = layAll (d ++ [l[k]]) [] := by rw [layAll_snoc, actBits, if_neg (by rw [HAl.out]; simp), hm]; rfl
            have HC := Lib.hid hcs
            have HB := Lib.hid hab
            have HV := Lib.hid hvm
            clear hput hm hvm hcs hab
            go_wp2_with fail
            go_still_tail 10, (by kernel_rfl)
            go_wp2_with fail
            refine (put_st st.swap.drew l[k].v m (by omega) (by omega) HV.out).mono ?_
            rintro e w2 ⟨rfl, st2⟩
            rw [HB.out] at st2
            have st3 := st2.swap
            clear c0 c1 c2 c3 st st2
            obtain ⟨c0, c1, c2, c3⟩ := hcell.below (st3.below (Nat.le_refl _)) (Nat.le_refl _)
            have c2' : w2.cell? ⟨b, off + k * 4 + 2, none⟩ = some (.bool false) := by rw [c2, HAl.out]
            have c1' : w2.cell? ⟨b, off + k * 4 + 1, none⟩ = some (.int .i64 (m : Int)) := by rw [c1]; have := HC.out; simp [ActV.cells] at this; rw [this.1]
            clear c2 c1
            obtain ⟨i0, hi, hz0, hz1, hz2⟩ := info_parts info30
            go_wp2_with ((at_builtin; refine wpList_append_one rfl _ _ 22 rfl 30 i0 _ 4 24 Try.underlying22 hi hz0 hz1 hz2 rfl (by decide) st3 rfl [.int .u32 (l[k].v : Int), .int .i64 (m : Int), .bool false, .bool l[k].ad] rfl rfl ?c2 ?c3 ?c4 ?_))
            case c2 => intro u hu; simp at hu; rcases hu with rfl | rfl | rfl | rfl <;> rfl
            case c3 => unfold maxLen; omega
            case c4 => omega
            intro v' w4 st4
            rw [← HC.out, ← actCells_snoc] at st4
            clear c0 c1' c2' c3 hi hz0 hz1 hz2 st3
            go_wp2
            go_roundw
            case rel => exact ⟨k + 1, d ++ [l[k]], by omega, by simp; omega, fun x hx => by
              rcases List.mem_append.1 hx with h | h
              · exact HD.out x h
              · simp at h; subst h; exact hne, by go_num, by simpa using st4⟩
            case measure => simp [intOf]; omega
          · have hno := bad_of l[k] hput
            have hf1 := hfit.1
            clear hput
            go_wp2_with fail
            go_still_tail 10, (by kernel_rfl)
            go_wp2_with fail
            refine (put_arg wr.drew w.heap.size (l[k].v : Int) l[k].n (by omega) (by omega) hno).mono ?_
            rintro e w2 ⟨rfl, rfl⟩
            have st2 := st.drew
            clear c0 c1 c2 c3 st
            go_wp2
            go_roundw
            case rel => exact ⟨k + 1, d, by omega, by omega, HD.out, by go_num, st2⟩
            case measure => simp [intOf]; omega
      · clear HA
        have hll := layAll_length d [] hok
        simp only [List.length_nil, Nat.zero_add] at hll
        have HD := Lib.hid hok
        clear hok
        go_wp2_with fail
        refine (bytes_st st.swap (by omega)).mono ?_
        rintro e w5 ⟨v5, rfl, st5⟩
        have hrd := Reads.of_owns st5.row
        have st6 := st5.drop
        clear st st5
        go_wp2_with fail
        refine (new_st st6 hrd (pk_lt _) (by rw [pk_length]; omega)).mono ?_
        rintro e w7 ⟨qb, rfl, st7⟩
        clear hrd st6
        obtain ⟨da, dc, rfl⟩ := ownsRow_slice st7.third.row
        go_wp2
        go_loopw [7] (fun i wr => ReadTo w d qb (.slice da d.length dc) i wr) (fun i _ => d.length - (intOf i).toNat)
        case atStart => exact ⟨0, by omega, rfl, st7⟩
        case round =>
          obtain ⟨j, hj, rfl, st8⟩ := hrel
          by_cases hjl : j < d.length
          · obtain ⟨g, cp, hda, hcp⟩ := st8.third.rowShape (by omega)
            obtain ⟨rfl, -, rfl⟩ := Value.slice.inj hda
            have hcellA : ∀ i, i < 4 → wr.cell? ⟨g, j * 4 + i, none⟩ = (d[j].cells)[i]? := fun i hi => by rw [st8.third.row.cellAt _ (by omega), actCells_at d j hjl i hi]
            have c0 : wr.cell? ⟨g, j * 4, none⟩ = some (.int .u32 (d[j].v : Int)) := hcellA 0 (by omega)
            have c1 : wr.cell? ⟨g, j * 4 + 1, none⟩ = some (.int .i64 d[j].n) := hcellA 1 (by omega)
            have c2 : wr.cell? ⟨g, j * 4 + 2, none⟩ = some (.bool d[j].al) := hcellA 2 (by omega)
            have hnx := read_next d j hjl
            have hle := read_le d j hjl
            have NX := Lib.hid hnx
            have LE := Lib.hid hle
            have hok := HD.out d[j] (List.getElem_mem hjl)
            clear hcellA hda hnx hle
            by_cases hal : d[j].al = true
            · rw [hal] at c2
              have hab : (actBits (layAll (d.take j) []).length d[j]).length = padOf (layAll (d.take j) []).length := by rw [actBits, if_pos hal, bitsOf_length]
              have HB := Lib.hid hab
              clear hab hal hok
              go_wp2_with fail
              refine (ralign_st st8).mono ?_
              rintro e w9 ⟨rfl, st9⟩
              rw [← HB.out, ← NX.out] at st9
              clear st8 c0 c1 c2
              go_wp2
              go_roundw
              case rel => exact ⟨j + 1, by omega, by go_num, st9⟩
              case measure => simp [intOf]; omega
            · have hal' : d[j].al = false := by simpa using hal
              obtain ⟨q1, q2, q3⟩ := hok.resolve_left hal
              obtain ⟨m, hm⟩ := Int.eq_ofNat_of_zero_le q1
              rw [hm, Int.toNat_natCast] at q3
              rw [hm] at q2 c1
              rw [hal'] at c2
              have hnum := read_num d j hjl m hal' hm q3
              have hab : (actBits (layAll (d.take j) []).length d[j]).length = m := by rw [actBits, if_neg hal, bitsOf_length, hm]; rfl
              have NM := Lib.hid hnum
              have HB := Lib.hid hab
              clear hab hal hal' hnum q1 q3 hm
              go_wp2_with fail
              refine (get_st st8 m (by omega) (by have := LE.out; rw [HB.out] at this; exact this)).mono ?_
              rintro e w9 ⟨he, st9⟩
              rw [NM.out] at he
              subst he
              rw [← HB.out, ← NX.out] at st9
              clear c0 c1 c2
              have c0 : w9.cell? ⟨g, j * 4, none⟩ = some (.int .u32 (d[j].v : Int)) := by rw [show j * 4 = j * 4 + 0 from rfl, st9.third.row.cellAt _ (by omega), actCells_at d j hjl 0 (by omega)]; rfl
              clear st8
              go_wp2
              go_roundw
              case rel => exact ⟨j + 1, by omega, by go_num, st9⟩
              case measure => simp [intOf]; omega
          · have hjd : d.take j = d := List.take_of_length_le (by omega)
            rw [hjd] at st8
            go_wp2_with fail
            refine (at_st st8).mono ?_
            rintro e w9 ⟨rfl, rfl⟩
            go_wp2_with fail
            refine (len_st st8.swap).mono ?_
            rintro e w9 ⟨rfl, rfl⟩
            have hpk := pk_length (layAll d [])
            have PK := Lib.hid hpk
            clear hpk
            go_wp2_with fail
            refine (left_st st8).mono ?_
            rintro e w9 ⟨rfl, st9⟩
            have d7 : ((8 * (pk (layAll d [])).length - (layAll d []).length : Nat) : Int) ≤ 7 := by have := PK.out; omega
            clear st8
            go_wp2_with fail
            refine (left_st st9).mono ?_
            rintro e w10 ⟨rfl, st10⟩
            clear st9
            go_wp2_with fail
            refine (get_st st10 (8 * (pk (layAll d [])).length - (layAll d []).length) (by have := PK.out; omega) (by have := PK.out; omega)).mono ?_
            rintro e w11 ⟨he, st11⟩
            rw [bitsAt_zero] at he
            subst he
            clear st10
            go_wp2_with fail
            refine (lays_st st11).mono ?_
            rintro e w12 ⟨rfl, st12⟩
            go_wp2
            go_ret
            exact ⟨rfl, st12.below (Nat.le_refl _)⟩

end Go.Proofs.Ytlhhoiimmalpgaa.Msb.msbBack
