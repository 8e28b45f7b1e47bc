/-
  Contracts of package kraft: which lengths may be, a code's weight and class, whether one word of one bit is all. No conditions but those of the calls.
-/
import Derived.Test.YtpolbpjclklgbaaKrP
import Derived.Test.YtpolbpjclklgbaaRowB
namespace Go.Proofs.Ytpolbpjclklgbaa.Kraft
open Go.RowKit

/-- May lengths be? -/
def may (L : List Nat) : Bool := decide (L.length ≤ 512) && L.all fun x => decide (x ≤ 20)

theorem may_iff (L : List Nat) : may L = true ↔ L.length ≤ 512 ∧ ∀ x ∈ L, x ≤ 20 := by simp [may]

theorem may_long {L : List Nat} (h : 512 < L.length) : may L = false := by
  cases e : may L with
  | false => rfl
  | true => have := ((may_iff L).1 e).1; omega

theorem may_big {L : List Nat} (i : Nat) (hi : i < L.length) (h : 20 < L[i]) : may L = false := by
  cases e : may L with
  | false => rfl
  | true => have := ((may_iff L).1 e).2 _ (List.getElem_mem hi); omega

theorem may_len {L : List Nat} (h : may L = true) (j : Nat) : len L j ≤ 20 := by
  unfold len
  rw [List.getD_eq_getElem?_getD]
  by_cases c : j < L.length
  · rw [List.getElem?_eq_getElem c]
    exact ((may_iff L).1 h).2 _ (List.getElem_mem c)
  · rw [List.getElem?_eq_none (by omega)]
    exact Nat.zero_le _

theorem len_at (L : List Nat) (i : Nat) (hi : i < L.length) : len L i = L[i] := by
  unfold len
  rw [List.getD_eq_getElem?_getD, List.getElem?_eq_getElem hi]
  rfl

theorem part_le (n : Nat) : part n ≤ 524288 := by
  unfold part
  split
  · omega
  · rw [show (524288 : Nat) = 2 ^ 19 from rfl]
    exact Nat.pow_le_pow_right (by omega) (by omega)

theorem sumTo_bound {f : Nat → Nat} {c n : Nat} (h : ∀ j, j < n → f j ≤ c) : sumTo f n ≤ n * c := by
  induction n with
  | zero => exact Nat.zero_le _
  | succ n ih =>
    have h1 := ih (fun j hj => h j (by omega))
    have h2 := h n (by omega)
    rw [sumTo, Nat.succ_mul]
    omega

/-- The weight of the first k symbols. -/
def weightTo (L : List Nat) (k : Nat) : Nat := sumTo (fun j => part (len L j)) k

theorem weightTo_le (L : List Nat) (k : Nat) : weightTo L k ≤ k * 524288 := sumTo_bound fun _ _ => part_le _

theorem weightTo_succ (L : List Nat) (k : Nat) (hk : k < L.length) : weightTo L (k + 1) = weightTo L k + part L[k] := by
  unfold weightTo
  rw [sumTo, len_at L k hk]

theorem weight_le (L : List Nat) (h : may L = true) : weight L ≤ 268435456 := by
  have h1 := weightTo_le L L.length
  have h2 := ((may_iff L).1 h).1
  have h3 : weight L = weightTo L L.length := rfl
  omega

theorem part_div (n : Nat) (h0 : 0 < n) (h : n ≤ 20) : 1048576 / 2 ^ n = part n := by
  rw [part_eq n h0, show (1048576 : Nat) = 2 ^ 20 from rfl, Nat.pow_div h (by omega)]

set_option maxRecDepth 100000 in
/-- fits: whether the lengths may be. -/
theorem fits_any (w : World) (v : Value) (L : List Nat) (h : ByteRow w v L) (hl : L.length ≤ 140737488355328) :
    Calls Try.prog 21 #[v] w fun e w' => e = .returned (.bool (may L)) ∧ w = w' := by
  obtain ⟨a, cap, rfl, hc, hn, hat⟩ := h
  go_enter Try.func21, Try.ntmps21
  by_cases h5 : 512 < L.length
  · go_wp2
    go_ret
    exact ⟨by rw [may_long h5]; rfl, rfl⟩
  · go_wp2
    go_loopw [4, 10] (fun _ i wr => ∃ k : Nat, k ≤ L.length ∧ i = .int .i64 (k : Int) ∧ (∀ j (hj : j < L.length), j < k → L[j] ≤ 20) ∧ wr = w) (fun _ i _ => L.length - (intOf i).toNat)
    case atStart => exact ⟨0, by omega, rfl, fun j _ hj => absurd hj (by omega), rfl⟩
    case round =>
      obtain ⟨k, hk, rfl, hall, rfl⟩ := hrel
      have HA := Lib.hid hall
      clear hall
      by_cases hlt : k < L.length
      · obtain ⟨hx, b0, off, rfl, c0⟩ := hat k hlt
        have H1 : 20 < L[k] → may L = false := may_big k hlt
        have H2 : L[k] ≤ 20 → ∀ j (hj : j < L.length), j < k + 1 → L[j] ≤ 20 := fun h j hj hjk => by
          by_cases e : j = k
          · subst e; exact h
          · exact HA.out j hj (by omega)
        have H2 := Lib.hid H2
        generalize L[k] = x at hx c0 H1 H2
        by_cases hx20 : 20 < x
        · go_wp2
          go_ret
          exact ⟨by rw [H1 hx20]; rfl, rfl⟩
        · go_wp2
          go_roundw
          case rel => exact ⟨k + 1, by omega, by go_num, H2.out (by omega), trivial⟩
          case measure => simp [intOf]; omega
      · obtain rfl : k = L.length := by omega
        have e : may L = true := (may_iff L).2 ⟨by omega, fun x hx => by
          obtain ⟨i, hi, rfl⟩ := List.getElem_of_mem hx
          exact HA.out i hi hi⟩
        go_wp2
        go_ret
        exact ⟨by rw [e]; rfl, rfl⟩

set_option maxRecDepth 100000 in
/-- weight: a code's weight. -/
theorem weight_any (w : World) (v : Value) (L : List Nat) (h : ByteRow w v L) (hm : may L = true) :
    Calls Try.prog 23 #[v] w fun e w' => e = .returned (.int .u32 (weight L : Int)) ∧ w = w' := by
  obtain ⟨a, cap, rfl, hc, hn, hat⟩ := h
  have hl := ((may_iff L).1 hm).1
  go_enter Try.func23, Try.ntmps23
  go_wp2
  go_loopw [3, 5, 8] (fun s _ i wr => ∃ k : Nat, k ≤ L.length ∧ i = .int .i64 (k : Int) ∧ s = .int .u32 (weightTo L k : Int) ∧ wr = w) (fun _ _ i _ => L.length - (intOf i).toNat)
  case atStart => exact ⟨0, by omega, rfl, rfl, rfl⟩
  case round =>
    obtain ⟨k, hk, rfl, rfl, rfl⟩ := hrel
    by_cases hlt : k < L.length
    · obtain ⟨hx, b0, off, rfl, c0⟩ := hat k hlt
      have hx20 : L[k] ≤ 20 := ((may_iff L).1 hm).2 _ (List.getElem_mem hlt)
      have hw := weightTo_le L k
      have HS := Lib.hid (weightTo_succ L k hlt)
      have HP : L[k] ≠ 0 → 1048576 / 2 ^ L[k] = part L[k] := fun h => part_div _ (by omega) hx20
      have HQ : part L[k] ≤ 524288 := part_le _
      have HZ : L[k] = 0 → part L[k] = 0 := fun h => by rw [h]; rfl
      have HP := Lib.hid HP
      generalize weightTo L k = s at HS hw
      generalize part L[k] = p at HS HP HQ HZ
      generalize L[k] = x at hx c0 hx20 HP HQ HZ
      by_cases h0 : x = 0
      · have hp := HZ h0
        subst hp h0
        clear HP HZ
        go_wp2
        go_roundw
        case rel => exact ⟨k + 1, by omega, by go_num, by rw [HS.out]; rfl, trivial⟩
        case measure => simp [intOf]; omega
      · have hp := HP.out h0
        clear HP HZ
        have hs : s + p < 4294967296 := by omega
        go_wp2
        go_roundw
        case rel =>
          refine ⟨k + 1, by omega, by go_num, ?_, trivial⟩
          have e : ((1048576 / 2 ^ x : Nat) : Int) = 1048576 / 2 ^ x := by simp
          rw [HS.out, ← e, hp]
          congr 1
          omega
        case measure => simp [intOf]; omega
    · obtain rfl : k = L.length := by omega
      go_wp2
      go_ret
      exact ⟨rfl, rfl⟩

set_option maxRecDepth 100000 in
/-- classOf: a code's class by its weight. -/
theorem classOf_any (w : World) (x : Nat) :
    Calls Try.prog 22 #[.int .u32 (x : Int)] w fun e w' => e = .returned (.int .u8 (class_ x : Int)) ∧ w = w' := by
  obtain ⟨c, hc⟩ : ∃ c, class_ x = c := ⟨_, rfl⟩
  rw [hc]
  have HC := Lib.hid hc
  clear hc
  obtain ⟨y, hy⟩ : ∃ y : Int, (x : Int) = y := ⟨_, rfl⟩
  rw [hy]
  have HY := Lib.hid hy
  clear hy
  go_enter Try.func22, Try.ntmps22
  go_wp2
  · rename_i h0
    obtain rfl : c = 0 := by
      have hy := HY.out
      have h0 := eq_of_beq h0
      rw [← HC.out, show x = 0 by omega]; rfl
    go_ret
    exact ⟨rfl, rfl⟩
  · rename_i h0 h1
    obtain rfl : c = 1 := by
      have hy := HY.out
      have h0 := ne_of_beq_false h0
      rw [← HC.out]; unfold class_; rw [if_neg (by omega), if_pos (by omega)]
    go_ret
    exact ⟨rfl, rfl⟩
  · rename_i h0 h1 h2
    obtain rfl : c = 2 := by
      have hy := HY.out
      have h2 := eq_of_beq h2
      rw [← HC.out]; unfold class_; rw [if_neg (by omega), if_neg (by omega), if_neg (by omega)]
    go_ret
    exact ⟨rfl, rfl⟩
  · rename_i h0 h1 h2
    obtain rfl : c = 3 := by
      have hy := HY.out
      have h2 := ne_of_beq_false h2
      rw [← HC.out]; unfold class_; rw [if_neg (by omega), if_neg (by omega), if_pos (by omega)]
    go_ret
    exact ⟨rfl, rfl⟩

/-- What Classify answers. -/
def classAns (L : List Nat) : Value := if may L then .tuple #[.int .u8 (class_ (weight L) : Int), .int .i64 0] else .tuple #[.int .u8 0, .int .i64 5]

set_option maxRecDepth 100000 in
/-- Classify. -/
theorem classify_any (w : World) (v : Value) (L : List Nat) (h : ByteRow w v L) (hl : L.length ≤ 140737488355328) :
    Calls Try.prog 11 #[v] w fun e w' => e = .returned (classAns L) ∧ w = w' := by
  go_enter Try.func11, Try.ntmps11
  go_wp2_with fail
  refine (fits_any w v L h hl).mono ?_
  rintro e w1 ⟨rfl, rfl⟩
  cases hm : may L with
  | false =>
    have hA : classAns L = .tuple #[.int .u8 0, .int .i64 5] := by unfold classAns; rw [hm]; rfl
    go_wp2
    go_ret2
    exact ⟨by rw [hA]; rfl, rfl⟩
  | true =>
    have hA : classAns L = .tuple #[.int .u8 (class_ (weight L) : Int), .int .i64 0] := by unfold classAns; rw [hm]; rfl
    have hw := weight_le L hm
    go_wp2_with fail
    refine (weight_any w v L h hm).mono ?_
    rintro e w1 ⟨rfl, rfl⟩
    generalize weight L = x at hw hA
    go_wp2_with fail
    refine (classOf_any w x).mono ?_
    rintro e w1 ⟨rfl, rfl⟩
    go_wp2
    go_ret2
    exact ⟨by rw [hA]; rfl, rfl⟩

/-- How many of the first k lengths are not 0, and how many are 1. -/
def somes (L : List Nat) (k : Nat) : Nat := sumTo (fun j => if len L j = 0 then 0 else 1) k
def ones (L : List Nat) (k : Nat) : Nat := sumTo (fun j => if len L j = 1 then 1 else 0) k

theorem somes_le (L : List Nat) (k : Nat) : somes L k ≤ k := by
  have := sumTo_bound (f := fun j => if len L j = 0 then 0 else 1) (c := 1) (n := k) (fun j _ => by split <;> omega)
  unfold somes; omega

theorem ones_le (L : List Nat) (k : Nat) : ones L k ≤ k := by
  have := sumTo_bound (f := fun j => if len L j = 1 then 1 else 0) (c := 1) (n := k) (fun j _ => by split <;> omega)
  unfold ones; omega

theorem somes_succ (L : List Nat) (k : Nat) (hk : k < L.length) : somes L (k + 1) = somes L k + if L[k] = 0 then 0 else 1 := by
  unfold somes; rw [sumTo, len_at L k hk]

theorem ones_succ (L : List Nat) (k : Nat) (hk : k < L.length) : ones L (k + 1) = ones L k + if L[k] = 1 then 1 else 0 := by
  unfold ones; rw [sumTo, len_at L k hk]

def single (L : List Nat) : Bool := decide (somes L L.length = 1) && decide (ones L L.length = 1)

set_option maxRecDepth 100000 in
set_option maxHeartbeats 1000000 in
/-- Single. -/
theorem single_any (w : World) (v : Value) (L : List Nat) (h : ByteRow w v L) (hl : L.length ≤ 140737488355328) :
    Calls Try.prog 13 #[v] w fun e w' => e = .returned (.bool (single L)) ∧ w = w' := by
  obtain ⟨a, cap, rfl, hc, hn, hat⟩ := h
  go_enter Try.func13, Try.ntmps13
  go_wp2
  go_loopw [3, 4, 6, 9] (fun s o _ i wr => ∃ k : Nat, k ≤ L.length ∧ i = .int .i64 (k : Int) ∧ s = .int .i64 (somes L k : Int) ∧ o = .int .i64 (ones L k : Int) ∧ wr = w) (fun _ _ _ i _ => L.length - (intOf i).toNat)
  case atStart => exact ⟨0, by omega, rfl, rfl, rfl, rfl⟩
  case round =>
    obtain ⟨k, hk, rfl, rfl, rfl, rfl⟩ := hrel
    by_cases hlt : k < L.length
    · obtain ⟨hx, b0, off, rfl, c0⟩ := hat k hlt
      have hs := somes_le L k
      have ho := ones_le L k
      have HS := somes_succ L k hlt
      have HO := ones_succ L k hlt
      have HS := Lib.hid HS
      have HO := Lib.hid HO
      generalize somes L k = s at hs HS
      generalize ones L k = o at ho HO
      generalize L[k] = x at hx c0 HS HO
      by_cases h0 : x = 0
      · subst h0
        go_wp2
        go_roundw
        case rel => exact ⟨k + 1, by omega, by go_num, by rw [HS.out]; rfl, by rw [HO.out]; rfl, trivial⟩
        case measure => simp [intOf]; omega
      · by_cases h1 : x = 1
        · subst h1
          go_wp2
          go_roundw
          case rel => exact ⟨k + 1, by omega, by go_num, by rw [HS.out]; go_num, by rw [HO.out]; go_num, trivial⟩
          case measure => simp [intOf]; omega
        · go_wp2
          go_roundw
          case rel => exact ⟨k + 1, by omega, by go_num, by rw [HS.out, if_neg h0]; go_num, by rw [HO.out, if_neg h1]; go_num, trivial⟩
          case measure => simp [intOf]; omega
    · obtain rfl : k = L.length := by omega
      have HE := Lib.hid (show single L = (decide (somes L L.length = 1) && decide (ones L L.length = 1)) from rfl)
      generalize somes L L.length = s at HE
      generalize ones L L.length = o at HE
      obtain ⟨z, hz⟩ : ∃ z, single L = z := ⟨_, rfl⟩
      rw [hz] at HE
      have HZ := Lib.hid hz
      clear hz
      by_cases h1 : s = 1
      · subst h1
        by_cases h2 : o = 1
        · subst h2
          go_wp2
          go_ret
          exact ⟨by rw [HZ.out, HE.out]; rfl, rfl⟩
        · have d2 : ((o : Int) == 1) = false := by simp; omega
          go_wp2
          go_ret
          exact ⟨by rw [HZ.out, HE.out]; simp [h2], rfl⟩
      · go_wp2
        go_ret
        exact ⟨by rw [HZ.out, HE.out]; simp [h1], rfl⟩

end Go.Proofs.Ytpolbpjclklgbaa.Kraft
