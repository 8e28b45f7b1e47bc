/-
  Contracts of the document's answers of layer 4 (pressworkref04): May, Weight, Classify, Words. No conditions but those of the calls.
-/
import Derived.Test.YtakkfdibiboofaaKrQ
import Derived.Test.YtakkfdibiboofaaRowW
namespace Go.Proofs.Ytakkfdibiboofaa.Kraft
open Go.RowKit

theorem may_of {L : List Nat} (h : ∀ (i : Nat) (hi : i < L.length), L[i] ≤ 20) : may L = decide (L.length ≤ 512) := by
  have e : (L.all fun x => decide (x ≤ 20)) = true := by
    rw [List.all_eq_true]
    intro x hx
    obtain ⟨i, hi, rfl⟩ := List.getElem_of_mem hx
    simpa using h i hi
  unfold may
  rw [e, Bool.and_true]

set_option maxRecDepth 100000 in
/-- May. -/
theorem refMay_any (w : World) (v : Value) (L : List Nat) (h : ByteRow w v L) (hl : L.length ≤ 140737488355328) :
    Calls Try.prog 49 #[v] w fun e w' => e = .returned (.bool (may L)) ∧ w = w' := by
  obtain ⟨a, cap, rfl, hc, hn, hat⟩ := h
  go_enter Try.func49, Try.ntmps49
  go_wp2
  go_loopw [3] (fun i wr => ∃ k : Nat, k ≤ L.length ∧ i = .int .i64 (k : Int) ∧ (∀ j (hj : j < L.length), j < k → L[j] ≤ 20) ∧ wr = w) (fun i _ => L.length - (intOf i).toNat)
  case atStart => exact ⟨0, by omega, rfl, fun j _ hj => absurd hj (by omega), rfl⟩
  case round =>
    obtain ⟨k, hk, rfl, hall, rfl⟩ := hrel
    have HA := Lib.hid hall
    clear hall
    by_cases hlt : k < L.length
    · obtain ⟨hx, b0, off, rfl, c0⟩ := hat k hlt
      have H1 : 20 < L[k] → may L = false := may_big k hlt
      have H2 : L[k] ≤ 20 → ∀ j (hj : j < L.length), j < k + 1 → L[j] ≤ 20 := fun h j hj hjk => by
        by_cases e : j = k
        · subst e; exact h
        · exact HA.out j hj (by omega)
      have H2 := Lib.hid H2
      generalize L[k] = x at hx c0 H1 H2
      by_cases hx20 : 20 < x
      · go_wp2
        go_ret
        exact ⟨by rw [H1 hx20]; rfl, rfl⟩
      · go_wp2
        go_roundw
        case rel => exact ⟨k + 1, by omega, by go_num, H2.out (by omega), trivial⟩
        case measure => simp [intOf]; omega
    · obtain rfl : k = L.length := by omega
      have e : may L = decide (L.length ≤ 512) := may_of (fun i hi => HA.out i hi hi)
      go_wp2
      go_ret
      refine ⟨by rw [e]; congr 2; simp; try omega, rfl⟩

set_option maxRecDepth 100000 in
set_option maxHeartbeats 1000000 in
/-- Weight: by halves. -/
theorem refWeight_any (w : World) (v : Value) (L : List Nat) (h : ByteRow w v L) (hm : may L = true) :
    Calls Try.prog 50 #[v] w fun e w' => e = .returned (.int .i64 (weight L : Int)) ∧ w = w' := by
  obtain ⟨a, cap, rfl, hc, hn, hat⟩ := h
  have hl := ((may_iff L).1 hm).1
  go_enter Try.func50, Try.ntmps50
  go_wp2
  go_loopw [3, 4, 5, 6] (fun s i _ _ wr => ∃ k : Nat, k ≤ L.length ∧ i = .int .i64 (k : Int) ∧ s = .int .i64 (weightTo L k : Int) ∧ wr = w) (fun _ i _ _ _ => L.length - (intOf i).toNat)
  case atStart => exact ⟨0, by omega, rfl, rfl, rfl⟩
  case round =>
    obtain ⟨k, hk, rfl, rfl, rfl⟩ := hrel
    by_cases hlt : k < L.length
    · obtain ⟨hx, b0, off, rfl, c0⟩ := hat k hlt
      have hx20 : L[k] ≤ 20 := ((may_iff L).1 hm).2 _ (List.getElem_mem hlt)
      have hw := weightTo_le L k
      have HS := Lib.hid (weightTo_succ L k hlt)
      have HP : L[k] ≠ 0 → part L[k] = 2 ^ (20 - L[k]) := fun h => part_eq _ (by omega)
      have HQ : part L[k] ≤ 524288 := part_le _
      have HZ : L[k] = 0 → part L[k] = 0 := fun h => by rw [h]; rfl
      have HP := Lib.hid HP
      generalize weightTo L k = s at HS hw
      generalize part L[k] = p at HS HP HQ HZ
      generalize L[k] = x at hx c0 hx20 HP HQ HZ
      by_cases h0 : x = 0
      · have hp := HZ h0
        subst hp h0
        clear HP HZ
        go_wp2
        go_roundw
        case rel => exact ⟨k + 1, by omega, by go_num, by rw [HS.out]; rfl, trivial⟩
        case measure => simp [intOf]; omega
      · have hp := Lib.hid (HP.out h0)
        clear HP HZ
        have hx1 : 0 < x := by omega
        have d0 : decide ((k : Int) < (L.length : Int)) = true := by simp; omega
        have d1 : decide (0 < (x : Int)) = true := by simp; omega
        go_wp2
        go_loopw [5, 6] (fun q i wr2 => ∃ j y : Nat, j ≤ x ∧ y = 2 ^ (20 - j) ∧ i = .int .i64 (j : Int) ∧ q = .int .i64 (y : Int) ∧ wr2 = wr) (fun _ i _ => x - (intOf i).toNat)
        case atStart => exact ⟨0, 1048576, by omega, rfl, rfl, rfl, rfl⟩
        case round =>
          obtain ⟨j, y, hj, hy, rfl, rfl, rfl⟩ := hrel
          have hyb : y ≤ 1048576 := by rw [hy, show (1048576 : Nat) = 2 ^ 20 from rfl]; exact Nat.pow_le_pow_right (by omega) (by omega)
          have HY := Lib.hid hy
          clear hy
          by_cases hjx : j < x
          · go_wp2
            go_roundw
            case rel =>
              refine ⟨j + 1, y / 2, by omega, ?_, by go_num, by go_num, trivial⟩
              rw [HY.out, show 20 - j = (20 - (j + 1)) + 1 from by omega, Nat.pow_succ, Nat.mul_div_cancel _ (by omega)]
            case measure => simp [intOf]; omega
          · obtain rfl : j = x := by omega
            have e : p = y := hp.out.trans HY.out.symm
            subst e
            go_wp2
            refine ⟨⟨k + 1, by omega, by go_num, by rw [HS.out]; go_num, trivial⟩, by simp [intOf]; omega⟩
    · obtain rfl : k = L.length := by omega
      go_wp2
      go_ret
      exact ⟨rfl, rfl⟩

/-- What Words answers. -/
def wordsErr (L : List Nat) : Nat := if may L = false then 5 else if 1048576 < weight L then 2 else 0
def wordsOf (L : List Nat) : List Nat := if wordsErr L = 0 then words L else []

theorem wordsErr_ok {L : List Nat} (h : wordsErr L = 0) : may L = true ∧ weight L ≤ 1048576 := by
  unfold wordsErr at h
  cases hm : may L with
  | false => rw [if_pos hm] at h; omega
  | true =>
    rw [if_neg (by rw [hm]; decide)] at h
    by_cases c : 1048576 < weight L
    · rw [if_pos c] at h; omega
    · exact ⟨rfl, by omega⟩

theorem wordsErr_may {L : List Nat} (h : may L = false) : wordsErr L = 5 := by unfold wordsErr; rw [if_pos h]
theorem wordsErr_over {L : List Nat} (h : may L = true) (hw : 1048576 < weight L) : wordsErr L = 2 := by unfold wordsErr; rw [if_neg (by rw [h]; decide), if_pos hw]
theorem wordsErr_fits {L : List Nat} (h : may L = true) (hw : weight L ≤ 1048576) : wordsErr L = 0 := by unfold wordsErr; rw [if_neg (by rw [h]; decide), if_neg (by omega)]
theorem wordsOf_bad {L : List Nat} (h : wordsErr L ≠ 0) : wordsOf L = [] := if_neg h
theorem wordsOf_ok {L : List Nat} (h : wordsErr L = 0) : wordsOf L = words L := if_pos h

/-- What Words hands out: the words, in memory of its own, and the error. -/
def WordsSt (B : Nat) (w0 : World) (r : List Thing) (L : List Nat) (e : Ending) (w' : World) : Prop :=
  ∃ v', e = .returned (.tuple #[v', .int .i64 (wordsErr L : Int)]) ∧ St B w0 w' (rowT 70 1 v' (wordsOf L).length (u32s (wordsOf L)) :: r)

theorem WordsSt.none {B : Nat} {w0 w' : World} {r : List Thing} {L : List Nat} (h : wordsErr L ≠ 0) (st : St B w0 w' r) : WordsSt B w0 r L (.returned (.tuple #[.slice none 0 0, .int .i64 (wordsErr L : Int)])) w' :=
  ⟨_, rfl, by rw [wordsOf_bad h]; exact st.addNil⟩

theorem word_div (L : List Nat) (n k : Nat) (h0 : 0 < n) (h : len L k = n) : place L n k / 2 ^ (20 - n) = word L k := by
  unfold word from_
  rw [if_neg (by omega), h]

set_option maxRecDepth 100000 in
set_option maxHeartbeats 2000000 in
/-- Words: word by word. -/
theorem refWords_st {B : Nat} {w0 w : World} {r : List Thing} (st : St B w0 w r) (v : Value) (L : List Nat) (h : ByteRow w v L) (hl : L.length ≤ 140737488355328) :
    Calls Try.prog 30 #[v] w (WordsSt B w0 r L) := by
  go_enter Try.func30, Try.ntmps30
  go_wp2_with fail
  refine (refMay_any w v L h hl).mono ?_
  rintro e w1 ⟨rfl, rfl⟩
  cases hm : may L with
  | false =>
    have hE := wordsErr_may hm
    have hW := WordsSt.none (by omega) st (L := L)
    rw [hE] at hW
    go_wp2
    go_ret2
    exact hW
  | true =>
    have hlen := ((may_iff L).1 hm).1
    go_wp2_with fail
    refine (refWeight_any w v L h hm).mono ?_
    rintro e w1 ⟨rfl, rfl⟩
    by_cases hw : 1048576 < weight L
    · have hE := wordsErr_over hm hw
      have hW := WordsSt.none (by omega) st (L := L)
      rw [hE] at hW
      generalize weight L = x at hw
      go_wp2
      go_ret2
      exact hW
    · have hw' : weight L ≤ 1048576 := by omega
      have hE := wordsErr_fits hm hw'
      have hO := wordsOf_ok hE
      have HP : ∀ n k, place L n k ≤ 1048576 := fun n k => Nat.le_trans (place_le L n k) hw'
      have HM := may_len hm
      obtain ⟨x, hx⟩ : ∃ x, weight L = x := ⟨_, rfl⟩
      rw [hx] at hw ⊢
      clear hx hw'
      obtain ⟨i0, hi, hz0, hz1, hz2⟩ := info_parts info32
      have hmk : i0.bytes * L.length ≤ 281474976710656 := by rw [hz2]; omega
      have hmx : L.length ≤ maxLen := by unfold maxLen; omega
      obtain ⟨a, cap, rfl, -, -, hat⟩ := id h
      have HAT := Lib.hid hat
      clear hat
      go_wp2_with (at_make; refine wpList_make_full _ rfl _ _ 62 rfl w.heap.size 70 i0 (.int .u32 0) 1 Try.underlying62 hi hz0 hz1 _ _ _ _ L.length rfl rfl rfl rfl hmk hmx (Nat.le_refl _) ?_)
      intro w1 hown hgrow
      have s1 := st.madeWords hown hgrow
      have hb1 : Below w.heap.size w w1 := (Below.refl w.heap.size w).grown hgrow (Nat.le_refl _) (by simp)
      clear hown hgrow hi hz0 hz1 hz2 hmk hmx
      rw [← wordsTo_start] at s1
      obtain ⟨g, hg⟩ : ∃ g, g = w.heap.size := ⟨_, rfl⟩
      rw [← hg] at s1
      simp only [← hg]
      have hgs : w.heap.size ≤ g := by omega
      clear hg
      go_wp2
      go_loopw [5, 6, 7] (fun p nv _ wr => ∃ n : Nat, 1 ≤ n ∧ n ≤ 21 ∧ nv = .int .i64 (n : Int) ∧ p = .int .u32 (place L n 0 : Int) ∧ St B w0 wr (wordsT g L.length (wordsTo L n 0) :: r) ∧ Below w.heap.size w wr) (fun _ nv _ _ => 21 - (intOf nv).toNat)
      case atStart => exact ⟨1, by omega, by omega, rfl, by rw [place_start]; rfl, s1, hb1⟩
      case round =>
        obtain ⟨n, hn1, hn21, rfl, rfl, t1, hb⟩ := hrel
        by_cases hn : n ≤ 20
        · obtain ⟨d, hd⟩ : ∃ d, d = 20 - n := ⟨_, rfl⟩
          have hdi : (20 : Int) - (n : Int) = (d : Int) := by omega
          have hd20 : d < 20 := by omega
          have dn : decide ((n : Int) ≤ 20) = true := by simp; omega
          have HD := Lib.hid hd
          clear hd
          go_wp2
          go_loopw [5, 7] (fun p kv wr2 => ∃ k q : Nat, k ≤ L.length ∧ q = place L n k ∧ kv = .int .i64 (k : Int) ∧ p = .int .u32 (q : Int) ∧ St B w0 wr2 (wordsT g L.length (wordsTo L n k) :: r) ∧ Below w.heap.size w wr2) (fun _ kv _ => L.length - (intOf kv).toNat)
          case atStart => exact ⟨0, _, Nat.zero_le _, rfl, rfl, rfl, t1, hb⟩
          case round =>
            obtain ⟨k, q, hk, hq, rfl, rfl, t2, hb2⟩ := hrel
            clear t1 hb
            have hq20 : q ≤ 1048576 := by rw [hq]; exact HP _ _
            have HQ := Lib.hid hq
            clear hq
            by_cases hlt : k < L.length
            · obtain ⟨hx, b0, off, rfl, c0⟩ := HAT.out k hlt
              have e0 := hb2.cell (p := ⟨b0, off + k, none⟩) (World.block_lt_of_cell? w _ c0)
              rw [c0] at e0
              have l0 : b0 < w.heap.size := World.block_lt_of_cell? w _ c0
              have hlk := len_at L k hlt
              rw [← hlk] at hx e0
              obtain ⟨y, hy⟩ : ∃ y, len L k = y := ⟨_, rfl⟩
              rw [hy] at hx e0
              by_cases hyn : y = n
              · subst hyn
                have hwd : q / 2 ^ d = word L k := by rw [HQ.out, HD.out]; exact word_div L y k (by omega) hy
                obtain ⟨c1, f1⟩ := t2.wordCell k (wordsTo_length _ _ _) hlt
                have hs2 := t2.size
                have t3 := t2.putWord k (word L k)
                rw [← hy, wordsTo_set L _ _ rfl, hy, ← hwd] at t3
                have hpl : place L y (k + 1) = q + 2 ^ d := by rw [place_step L _ _ hlt, if_pos hy, HQ.out, part_eq _ (by omega), HD.out]
                obtain ⟨z, hz⟩ : ∃ z, 2 ^ d = z := ⟨_, rfl⟩
                have hz20 : z ≤ 524288 := by rw [← hz, show (524288 : Nat) = 2 ^ 19 from rfl]; exact Nat.pow_le_pow_right (by omega) (by omega)
                have hzp : 0 < z := by rw [← hz]; exact Nat.two_pow_pos _
                rw [hz] at hpl
                have HZ := Lib.hid hz
                have HPL := Lib.hid hpl
                have HWD := Lib.hid hwd
                clear hz hpl hwd
                go_wp2
                go_roundw
                case rel =>
                  have e1 : (((q / 2 ^ d : Nat) : Int)) = (q : Int) / 2 ^ d := by simp
                  have e2 : (2 : Int) ^ d = (z : Int) := by rw [← HZ.out]; simp
                  refine ⟨k + 1, q + z, by omega, HPL.out.symm, by go_num, ?_, ?_, ?_⟩
                  · rw [e2]
                    congr 1
                    omega
                  · rw [← e1]; exact t3
                  · exact hb2.setCell (p := ⟨g, k, none⟩) hgs _
                case measure => simp [intOf]; omega
              · have hyi : ¬ (y : Int) = (n : Int) := by omega
                go_wp2
                go_roundw
                case rel => exact ⟨k + 1, q, by omega, by rw [place_step L _ _ hlt, if_neg (by omega), HQ.out, Nat.add_zero], by go_num, rfl, by rw [wordsTo_skip L n k (by omega)]; exact t2, hb2⟩
                case measure => simp [intOf]; omega
            · obtain rfl : k = L.length := by omega
              go_wp2
              refine ⟨⟨n + 1, by omega, by omega, by go_num, by rw [HQ.out, place_next L n (by omega)], by rw [← wordsTo_next L n (by omega)]; exact t2, hb2⟩, by simp [intOf]; omega⟩
        · obtain rfl : n = 21 := by omega
          rw [wordsTo_end L HM] at t1
          go_wp2
          go_ret2
          exact ⟨_, by rw [hE]; rfl, by rw [hO, words_length]; exact t1⟩

end Go.Proofs.Ytakkfdibiboofaa.Kraft
