/-
  Contracts of the document's own answers for layer 11 (package pressworkref11): word, Number, Value, zero, Tail, Same. No conditions but that rows are small.
-/
import Derived.Test.YtpinfihmageeoaaGreatGU
import Derived.Test.YtpinfihmageeoaaGreatGZ
namespace Go.Proofs.YtpinfihmageeoaaGreat.Fr
open Go.RowKit Crc

theorem str_get (t : List Nat) (hb : ∀ x ∈ t, x < 256) (k : Nat) (hk : k < t.length) (h : k < (strOf t).size) : ((strOf t)[k]'h).toNat = t[k] := by
  have e : (strOf t).data[k]? = some (UInt8.ofNat t[k]) := by rw [strOf_data]; simp [hk]
  have e2 : (strOf t)[k]'h = UInt8.ofNat t[k] := by
    have h2 : k < (strOf t).data.size := h
    rw [Array.getElem?_eq_getElem h2] at e
    exact Option.some.inj e
  rw [e2, UInt8.toNat_ofNat']
  have := hb _ (List.getElem_mem hk)
  omega

section
variable {B : Nat} {w0 w : World} {r : List Thing}

set_option maxRecDepth 100000 in
set_option maxHeartbeats 1000000 in
theorem refNumber_st (st : St B w0 w r) (x n : Nat) (hx : x < 4294967296) (hn : n ≤ 4) :
    Calls Tryz.prog 54 #[.int .u32 (x : Int), .int .i64 (n : Int)] w fun e w' => ∃ v, e = .returned v ∧ St B w0 w' (rowT 5 1 v n (u8s (le n x)) :: r) := by
  obtain ⟨A, hA⟩ : ∃ A, le n x = A := ⟨_, rfl⟩
  have hAl : A.length = n := by rw [← hA, le_length]
  have HA := Lib.hid (show [] ++ le (n - 0) x = A from hA)
  rw [hA]
  clear hA
  have s0 := st.addNil (e := 5) (size := 1)
  go_enter Tryz.func54, Tryz.ntmps54
  go_wp2
  go_loopw [0, 5, 6] (fun y o i wr => ∃ (k z : Nat) (L : List Nat), k ≤ n ∧ i = .int .i64 (k : Int) ∧ y = .int .u32 (z : Int) ∧ z < 4294967296 ∧ Hid (L ++ le (n - k) z = A) ∧ Hid (L.length = k) ∧ St B w0 wr (rowT 5 1 o k (u8s L) :: r)) (fun _ _ i _ => n - (intOf i).toNat)
  case atStart => exact ⟨0, x, [], Nat.zero_le _, rfl, rfl, hx, HA, Lib.hid rfl, s0⟩
  case round =>
    clear s0 HA
    obtain ⟨k, z, L, hk, rfl, rfl, hz, HL, HK, s1⟩ := hrel
    obtain ⟨a, c, rfl⟩ := ownsRow_slice s1.row
    by_cases hlt : k < n
    · have e1 : L ++ [z % 256] ++ le (n - (k + 1)) (z / 256) = A := by
        rw [← HL.out, show n - k = (n - (k + 1)) + 1 from by omega, le, List.append_assoc]
        rfl
      have HN := Lib.hid e1
      clear e1 HL
      go_wp2_with (at_builtin; refine wpList_append_lit (m := 1) rfl _ _ rfl s1 rfl [.int .u8 (((z : Int)) % 256)] rfl rfl ?oneCell (by omega) ?_)
      case oneCell => simp [Value.oneCell']
      intro v' w' s3
      go_wp2
      refine ⟨⟨k + 1, z / 256, L ++ [z % 256], by omega, by go_num, by simp, by omega, HN, Lib.hid (by rw [List.length_append, HK.out]; rfl), ?_⟩, by simp [intOf]; omega⟩
      rw [u8s_append]
      exact s3
    · obtain rfl : k = n := by omega
      rw [Nat.sub_self, le, List.append_nil] at HL
      obtain rfl := HL.out
      go_wp2
      go_ret
      exact ⟨_, rfl, s1⟩

set_option maxRecDepth 100000 in
set_option maxHeartbeats 1000000 in
theorem refTail_st (st : St B w0 w r) (v : Value) (xs : List Nat) (hv : ∀ W, St B w0 W r → ByteRow W v xs) (hx : xs.length ≤ 80000000) :
    Calls Tryz.prog 34 #[v] w fun e w' => ∃ v', e = .returned v' ∧ St B w0 w' (rowT 5 1 v' 8 (u8s (tailOf xs)) :: r) := by
  have hlow := refLow_any w v xs (hv w st) (by omega)
  obtain ⟨a, c, hv2, -⟩ := hv w st
  subst hv2
  clear hv
  have hlt : lowSum xs < 4294967296 := (lowReg xs ^^^ ones).isLt
  have hn := refNumber_st st (lowSum xs) 4 hlt (by omega)
  go_enter Tryz.func34, Tryz.ntmps34
  go_wp2_with fail
  refine hlow.mono ?_
  rintro e w1 ⟨rfl, rfl⟩
  go_wp2_with fail
  refine hn.mono ?_
  rintro e w1 ⟨v1, rfl, s1⟩
  obtain ⟨a1, c1, rfl⟩ := ownsRow_slice s1.row
  clear hlow hn st
  go_wp2_with fail
  refine (refNumber_st s1 xs.length 4 (by omega) (by omega)).mono ?_
  rintro e w2 ⟨v2, rfl, s2⟩
  obtain ⟨a2, c2, rfl⟩ := ownsRow_slice s2.row
  have hrow : ByteRow w2 (.slice a2 4 c2) (le 4 xs.length) := byteRow_owns (by rw [le_length]; exact s2.row) (le_byte _ _)
  have s3 := s2.drop
  clear s1 s2
  go_wp2_with (at_builtin; refine wpList_append_bytes rfl _ _ rfl s3 hrow rfl rfl (by rw [le_length]; omega) ?_)
  intro v3 w3 s4 _ _
  rw [le_length, ← u8s_append] at s4
  go_wp2
  go_ret
  exact ⟨_, rfl, s4⟩

theorem val_drop (xs : List Nat) (k : Nat) (hk : k < xs.length) : val (xs.drop k) = val (xs.drop (k + 1)) * 256 + xs[k] := by
  rw [List.drop_eq_getElem_cons hk]
  show xs[k] + 256 * val (xs.drop (k + 1)) = _
  omega

set_option maxRecDepth 100000 in
set_option maxHeartbeats 1000000 in
theorem value_any (w : World) (v : Value) (xs : List Nat) (h : ByteRow w v xs) (h4 : xs.length ≤ 4) :
    Calls Tryz.prog 48 #[v] w fun e w' => e = .returned (.int .u32 (val xs : Int)) ∧ w' = w := by
  have hb := h.byte
  obtain ⟨a, cap, rfl, hc, hn, hat⟩ := h
  have hlt : ∀ k, val (xs.drop k) < 4294967296 := fun k => by
    have h1 := val_lt (l := xs.drop k) (fun x hx => hb x (List.mem_of_mem_drop hx))
    exact Nat.lt_of_lt_of_le h1 (Nat.le_trans (Nat.pow_le_pow_right (by omega) (show (xs.drop k).length ≤ 4 by rw [List.length_drop]; omega)) (by decide))
  go_enter Tryz.func48, Tryz.ntmps48
  go_wp2
  go_loopw [3, 4] (fun y i wr => ∃ k : Nat, k ≤ xs.length ∧ i = .int .i64 ((k : Int) - 1) ∧ y = .int .u32 (val (xs.drop k) : Int) ∧ wr = w) (fun _ i _ => (intOf i + 1).toNat)
  case atStart => exact ⟨xs.length, Nat.le_refl _, rfl, by rw [List.drop_length]; rfl, rfl⟩
  case round =>
    obtain ⟨k, hk, rfl, rfl, hw⟩ := hrel
    subst hw
    by_cases h0 : 0 < k
    · obtain ⟨j, rfl⟩ : ∃ j, k = j + 1 := ⟨k - 1, by omega⟩
      have hd := val_drop xs j (by omega)
      have hl := hlt j
      obtain ⟨h8, b, off, rfl, c0⟩ := hat j (by omega)
      obtain ⟨z, hz⟩ : ∃ z, xs[j] = z := ⟨_, rfl⟩
      rw [hz] at hd h8 c0
      obtain ⟨Y, hY⟩ : ∃ Y, val (xs.drop j) = Y := ⟨_, rfl⟩
      rw [hY] at hd hl
      have HY := Lib.hid hY
      clear hz hY hat hlt hb
      generalize val (xs.drop (j + 1)) = u at *
      have e1 : ((u : Int) * 256 % 4294967296) = ((u * 256 : Nat) : Int) := by omega
      have e2 : (((j + 1 : Nat) : Int) - 1) = (j : Int) := by omega
      rw [e2]
      obtain ⟨q, hq⟩ : ∃ q, u * 256 = q := ⟨_, rfl⟩
      rw [hq] at e1 hd
      have e3 : ((q : Int) + (z : Int)) = (Y : Int) := by omega
      have HH := Lib.hid (And.intro hq hd)
      clear hq hd e2
      go_wp2
      refine ⟨⟨j, by omega, rfl, by rw [HY.out], trivial⟩, by simp [intOf]⟩
    · obtain rfl : k = 0 := by omega
      go_wp2
      go_ret
      exact ⟨rfl, rfl⟩

/-- The place of the first byte 0 from a place on, or -1. -/
def zI (xs : List Nat) (p : Nat) : Int := match zeroAt (xs.drop p) with | some z => ((p + z : Nat) : Int) | none => -1

theorem zI_hit {xs : List Nat} {p : Nat} (hp : p < xs.length) (h : xs[p] = 0) : zI xs p = (p : Int) := by
  unfold zI
  rw [List.drop_eq_getElem_cons hp, zeroAt, if_pos h]
  rfl

theorem zI_step {xs : List Nat} {p : Nat} (hp : p < xs.length) (h : xs[p] ≠ 0) : zI xs p = zI xs (p + 1) := by
  unfold zI
  rw [List.drop_eq_getElem_cons hp, zeroAt, if_neg h]
  cases zeroAt (xs.drop (p + 1)) with
  | none => rfl
  | some z => simp only [Option.map_some]; congr 1; omega

theorem zI_end (xs : List Nat) : zI xs xs.length = -1 := by
  unfold zI
  rw [List.drop_length]
  rfl

set_option maxRecDepth 100000 in
theorem zero_any (w : World) (v : Value) (xs : List Nat) (h : ByteRow w v xs) (hl : xs.length ≤ 1000000) (p : Nat) (hp : p ≤ xs.length) :
    Calls Tryz.prog 49 #[v, .int .i64 (p : Int)] w fun e w' => e = .returned (.int .i64 (zI xs p)) ∧ w' = w := by
  obtain ⟨a, cap, rfl, hc, hn, hat⟩ := h
  obtain ⟨Z, hZ⟩ : ∃ Z, zI xs p = Z := ⟨_, rfl⟩
  rw [hZ]
  have HZ := Lib.hid hZ
  clear hZ
  go_enter Tryz.func49, Tryz.ntmps49
  go_wp2
  go_loopw [1] (fun i wr => ∃ k : Nat, k ≤ xs.length ∧ i = .int .i64 (k : Int) ∧ Hid (zI xs k = Z) ∧ wr = w) (fun i _ => xs.length - (intOf i).toNat)
  case atStart => exact ⟨p, hp, rfl, HZ, rfl⟩
  case round =>
    clear HZ
    obtain ⟨k, hk, rfl, HK, hw⟩ := hrel
    subst hw
    by_cases hlt : k < xs.length
    · obtain ⟨h8, b, off, rfl, c0⟩ := hat k hlt
      obtain ⟨z, hz⟩ : ∃ z, xs[k] = z := ⟨_, rfl⟩
      rw [hz] at h8 c0
      have H2 := Lib.hid hz
      clear hz hat
      by_cases c : z = 0
      · subst c
        go_wp2
        go_ret
        exact ⟨by rw [← HK.out, zI_hit hlt H2.out]; rfl, rfl⟩
      · have HN := Lib.hid (show zI xs (k + 1) = Z by rw [← HK.out, zI_step hlt (by rw [H2.out]; exact c)])
        go_wp2
        exact ⟨⟨k + 1, by omega, by go_num, HN, trivial⟩, by simp [intOf]; omega⟩
    · obtain rfl : k = xs.length := by omega
      rw [zI_end] at HK
      obtain rfl := HK.out
      go_wp2
      go_ret
      exact ⟨rfl, rfl⟩

end
end Go.Proofs.YtpinfihmageeoaaGreat.Fr
