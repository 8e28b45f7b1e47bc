/-
  Contracts of package frame: the reader's need, next, number, text. No conditions but that rows are small.
-/
import Derived.Test.YtpinfihmageeoaaGreatGT
import Derived.WalkSmall
namespace Go.Proofs.YtpinfihmageeoaaGreat.Fr
open Go.RowKit Crc

/-- What is thrown. -/
def oops : List PanicEntry := [{ v := .iface 22 (.int .i64 2), recovered := false }]

theorem need_yes (w : World) : Calls Tryz.prog 122 #[.bool true] w fun e w' => e = .returned (.tuple #[]) ∧ w' = w := by
  go_enter Tryz.func122, Tryz.ntmps122
  go_wp2
  go_end0
  exact ⟨rfl, rfl⟩

theorem need_no (w : World) : Calls Tryz.prog 122 #[.bool false] w fun e w' => e = .panicked oops ∧ w' = w := by
  go_enter Tryz.func122, Tryz.ntmps122
  go_wp2
  exact ⟨rfl, rfl, rfl⟩

/-- A reader's cells. -/
abbrev rdrC (v : Value) (p : Nat) (h : Gz) (ev : Value) (wr : Bool) : Array Value := #[v, .int .i64 (p : Int), .bool h.text, .int .u32 (h.time : Int), .int .u8 (h.xfl : Int), .int .u8 (h.os : Int), ev, .string (strOf h.name), .string (strOf h.comment), .int .u8 (h.has : Int), .bool h.sum, .bool wr]

theorem byteRow_sub {w : World} {a : Option Addr} {len cap : Nat} {xs : List Nat} (h : ByteRow w (.slice a len cap) xs) (p n : Nat) (hp : p + n ≤ xs.length) : ByteRow w (.slice (if cap = p then a else a.map (·.add p)) n (cap - p)) (sl xs p n) := by
  obtain ⟨a', cap', e, hc, hn, hat⟩ := h
  obtain ⟨rfl, rfl, rfl⟩ := Value.slice.inj e
  have hl := sl_length hp
  refine ⟨_, cap - p, by rw [hl], by omega, ?_, fun i hi => ?_⟩
  · intro e1
    by_cases c : cap = p
    · omega
    · rw [if_neg c] at e1
      cases a with
      | none => have := hn rfl; omega
      | some x => simp at e1
  · rw [hl] at hi
    obtain ⟨hb, b, off, rfl, c0⟩ := hat (p + i) (by omega)
    have hg : (sl xs p n)[i]'(by omega) = xs[p + i]'(by omega) := by
      have e2 : (sl xs p n)[i]? = xs[p + i]? := by unfold sl; rw [List.getElem?_take_of_lt hi, List.getElem?_drop]
      rw [List.getElem?_eq_getElem (by omega), List.getElem?_eq_getElem (by omega)] at e2
      exact Option.some.inj e2
    refine ⟨by rw [hg]; exact hb, b, off + p, ?_, by rw [hg, Nat.add_assoc]; exact c0⟩
    rw [if_neg (by omega), Option.map_some, add_none]

section
variable {B : Nat} {w0 w : World} {r : List Thing} {rb : Nat} {xs : List Nat} {v : Value} {s : Rs}

/-- A reader in this state. -/
def Rst (B : Nat) (w0 w : World) (r : List Thing) (rb : Nat) (v : Value) (s : Rs) : Prop :=
  ∃ ev, St B w0 w (boxT rb (rdrC v s.p s.h ev s.wrong) 141 :: rowT 5 1 ev s.h.extra.length (u8s s.h.extra) :: r)

set_option maxRecDepth 100000 in
set_option maxHeartbeats 1000000 in
theorem next_ok (st : Rst B w0 w r rb v s) (hv : ∀ W, St B w0 W r → ByteRow W v xs) (hx : xs.length ≤ 1000000) (n : Nat) (hp : s.p + n ≤ xs.length) :
    Calls Tryz.prog 123 #[.pointer (some ⟨rb, 0, none⟩), .int .i64 (n : Int)] w fun e w' => ∃ a c, e = .returned (.slice a n c) ∧ (∀ W, St B w0 W r → ByteRow W (.slice a n c) (sl xs s.p n)) ∧ Rst B w0 w' r rb v { s with p := s.p + n } := by
  obtain ⟨ev, s1⟩ := st
  obtain ⟨a, cap, rfl, hc, _⟩ := hv w s1.drop.drop
  obtain ⟨p, h, wr⟩ := s
  simp only at hp s1 ⊢
  have hsub := fun W (t : St B w0 W r) => byteRow_sub (hv W t) p n hp
  have k0 : w.cell? ⟨rb, 0, none⟩ = some (.slice a xs.length cap) := (St.boxAt s1 0).1
  obtain ⟨k1, f1⟩ := St.boxAt s1 1
  replace k1 : w.cell? ⟨rb, 1, none⟩ = some (.int .i64 (p : Int)) := k1
  have hrb : rb < w.heap.size := lt_of_block s1.box
  have hsub2 : ((xs.length : Int) - (p : Int)) = ((xs.length - p : Nat) : Int) := by omega
  have hle : n ≤ xs.length - p := by omega
  obtain ⟨m, hm⟩ : ∃ m, xs.length - p = m := ⟨_, rfl⟩
  rw [hm] at hsub2 hle
  have hpn : p + n ≤ xs.length := hp
  have hmx : m ≤ 1000000 := by omega
  have hy : ∀ W, Calls Tryz.prog 122 #[.bool (decide ((n : Int) ≤ (m : Int)))] W fun e w' => e = .returned (.tuple #[]) ∧ w' = W := fun W => by
    rw [decide_eq_true (show (n : Int) ≤ (m : Int) by omega)]
    exact need_yes W
  obtain ⟨a2, ha2⟩ : ∃ a2, (if cap = p then a else a.map (·.add p)) = a2 := ⟨_, rfl⟩
  rw [ha2] at hsub
  have HS := Lib.hid hsub
  clear hsub hv hm
  go_enter Tryz.func123, Tryz.ntmps123
  go_wp2
  go_still_tail 12, (by kernel_rfl)
  go_wp2_with (go_at_call 122; refine (hy _).mono ?_; rintro e w1 ⟨rfl, rfl⟩)
  go_quiet (fail)
  have s2 := (s1.drew.drewN nq).setBoxAt 1 (.int .i64 ((p : Int) + (n : Int)))
  have k1d : (w.drew.drewN nq).cell? ⟨rb, 1, none⟩ = some (.int .i64 (p : Int)) := k1
  have f1d : (w.drew.drewN nq).frozen? ⟨rb, 1, none⟩ = false := f1
  have hw : ∀ W, St B w0 W r → ByteRow W (.slice a2 n (cap - p)) (sl xs p n) := HS.out
  rw [show p + n - p = n from by omega]
  clear s1 k0 k1 f1
  generalize w.drew.drewN nq = wd at *
  go_wp2
  go_ret
  exact ⟨a2, cap - p, rfl, hw, ev, s2⟩

set_option maxRecDepth 100000 in
set_option maxHeartbeats 1000000 in
theorem next_no (st : Rst B w0 w r rb v s) (hv : ∀ W, St B w0 W r → ByteRow W v xs) (n : Nat) (hs : s.p ≤ xs.length) (hp : xs.length < s.p + n) (hn : n ≤ 1000000) :
    Calls Tryz.prog 123 #[.pointer (some ⟨rb, 0, none⟩), .int .i64 (n : Int)] w fun e w' => e = .panicked oops ∧ St B w0 w' r := by
  obtain ⟨ev, s1⟩ := st
  obtain ⟨a, cap, rfl, hc, _⟩ := hv w s1.drop.drop
  obtain ⟨p, h, wr⟩ := s
  simp only at hp hs s1 ⊢
  have k0 : w.cell? ⟨rb, 0, none⟩ = some (.slice a xs.length cap) := (St.boxAt s1 0).1
  have k1 : w.cell? ⟨rb, 1, none⟩ = some (.int .i64 (p : Int)) := (St.boxAt s1 1).1
  have hsub2 : ((xs.length : Int) - (p : Int)) = ((xs.length - p : Nat) : Int) := by omega
  have hle : xs.length - p < n := by omega
  obtain ⟨m, hm⟩ : ∃ m, xs.length - p = m := ⟨_, rfl⟩
  rw [hm] at hsub2 hle
  have hmx : m < 1000000 := by omega
  have hy : ∀ W, Calls Tryz.prog 122 #[.bool (decide ((n : Int) ≤ (m : Int)))] W fun e w' => e = .panicked oops ∧ w' = W := fun W => by
    rw [decide_eq_false (show ¬ (n : Int) ≤ (m : Int) by omega)]
    exact need_no W
  have s2 := s1.drop.drop.drew
  clear hv hm hp s1 hle
  go_enter Tryz.func123, Tryz.ntmps123
  go_wp2
  go_still_tail 12, (by kernel_rfl)
  go_wp2_with (go_at_call 122; refine (hy _).mono ?_; rintro e w1 ⟨rfl, rfl⟩)
  exact ⟨rfl, rfl, s2⟩

theorem u32_or_nat (x y : Nat) (hx : x < 4294967296) (hy : y < 4294967296) : bits .or .u32 (x : Int) (y : Int) = ((x ||| y : Nat) : Int) := by
  have h1 : (BitVec.ofInt 32 (x : Int)).toNat = x := by rw [BitVec.toNat_ofInt]; omega
  have h2 : (BitVec.ofInt 32 (y : Int)).toNat = y := by rw [BitVec.toNat_ofInt]; omega
  have h3 : x ||| y < 4294967296 := Nat.or_lt_two_pow (n := 32) hx hy
  have key : (BitVec.ofInt 32 (x : Int) ||| BitVec.ofInt 32 (y : Int)).toNat = x ||| y := by rw [BitVec.toNat_or, h1, h2]
  show IntKind.u32.wrap ((BitVec.ofInt 32 (x : Int) ||| BitVec.ofInt 32 (y : Int)).toNat : Nat) = _
  rw [key]
  simp [IntKind.wrap, IntKind.signed, IntKind.bits]
  omega

theorem or_high (x b m : Nat) (hx : x < 2 ^ m) : x ||| b * 2 ^ m = x + b * 2 ^ m := by
  rw [Nat.or_comm, Nat.mul_comm, ← Nat.two_pow_add_eq_or_of_lt hx, Nat.add_comm]

theorem val_snoc (L : List Nat) (k : Nat) (hk : k < L.length) : val (L.take (k + 1)) = val (L.take k) + 256 ^ k * L[k] := by
  rw [List.take_succ_eq_append_getElem hk, val_append, List.length_take, Nat.min_eq_left (by omega)]
  simp [val]

theorem or_step (L : List Nat) (hb : ∀ x ∈ L, x < 256) (k : Nat) (hk : k < L.length) (h4 : k < 4) :
    bits .or .u32 (val (L.take k) : Int) ((L[k] * 2 ^ (8 * k) : Nat) : Int) = (val (L.take (k + 1)) : Int) ∧ L[k] * 2 ^ (8 * k) < 4294967296 := by
  have hx := val_lt (l := L.take k) (fun x hx => hb x (List.mem_of_mem_take hx))
  rw [List.length_take, Nat.min_eq_left (by omega)] at hx
  have h256 : (256 : Nat) ^ k = 2 ^ (8 * k) := by rw [Nat.pow_mul]
  have hl := hb _ (List.getElem_mem hk)
  have hs : L[k] * 2 ^ (8 * k) < 4294967296 := by
    have h1 : L[k] * 2 ^ (8 * k) ≤ 255 * 2 ^ (8 * k) := Nat.mul_le_mul_right _ (by omega)
    have h2 : 2 ^ (8 * k) ≤ 2 ^ 24 := Nat.pow_le_pow_right (by omega) (by omega)
    have h3 : 255 * 2 ^ (8 * k) ≤ 255 * 2 ^ 24 := Nat.mul_le_mul_left _ h2
    have h4 : (255 : Nat) * 2 ^ 24 < 4294967296 := by decide
    omega
  refine ⟨?_, hs⟩
  rw [h256] at hx
  have h2 : 2 ^ (8 * k) ≤ 2 ^ 24 := Nat.pow_le_pow_right (by omega) (by omega)
  have h3 : (2 : Nat) ^ 24 < 4294967296 := by decide
  rw [u32_or_nat _ _ (by omega) hs, or_high _ _ _ hx, val_snoc L k hk, h256, Nat.mul_comm (2 ^ (8 * k))]

set_option maxRecDepth 100000 in
set_option maxHeartbeats 1000000 in
theorem rnumber_ok (st : Rst B w0 w r rb v s) (hv : ∀ W, St B w0 W r → ByteRow W v xs) (hx : xs.length ≤ 1000000) (n : Nat) (hn : n ≤ 4) (hp : s.p + n ≤ xs.length) :
    Calls Tryz.prog 124 #[.pointer (some ⟨rb, 0, none⟩), .int .i64 (n : Int)] w fun e w' => e = .returned (.int .u32 (val (sl xs s.p n) : Int)) ∧ Rst B w0 w' r rb v { s with p := s.p + n } := by
  have hnx := next_ok st hv hx n hp
  have hL := sl_length hp
  obtain ⟨L, hLL⟩ : ∃ L, sl xs s.p n = L := ⟨_, rfl⟩
  rw [hLL] at hnx hL ⊢
  clear hLL hp st hv
  obtain ⟨s', hs'⟩ : ∃ s', ({ s with p := s.p + n } : Rs) = s' := ⟨_, rfl⟩
  rw [hs'] at hnx ⊢
  clear hs'
  go_enter Tryz.func124, Tryz.ntmps124
  go_wp2_with (go_at_call 123; refine hnx.mono ?_; rintro e w1 ⟨a, c, rfl, hrow, s1⟩)
  have hr := hrow w1 (by obtain ⟨ev, t⟩ := s1; exact t.drop.drop)
  have hb := hr.byte
  obtain ⟨a', c', e1, _, _, hat⟩ := hr
  obtain ⟨rfl, -, rfl⟩ := Value.slice.inj e1
  clear hnx hrow e1
  go_wp2
  go_loopw [5, 6, 7, 12] (fun y _ _ i wr => ∃ k : Nat, k ≤ n ∧ i = .int .i64 (k : Int) ∧ y = .int .u32 (val (L.take k) : Int) ∧ wr = w1) (fun _ _ _ i _ => n - (intOf i).toNat)
  case atStart => exact ⟨0, Nat.zero_le _, rfl, rfl, rfl⟩
  case round =>
    obtain ⟨k, hk, rfl, rfl, hw⟩ := hrel
    subst hw
    by_cases hlt : k < n
    · obtain ⟨e1, e2⟩ := or_step L hb k (by omega) (by omega)
      obtain ⟨h8, b, off, rfl, c0⟩ := hat k (by omega)
      obtain ⟨z, hz⟩ : ∃ z, L[k] = z := ⟨_, rfl⟩
      rw [hz] at e1 e2 h8 c0
      obtain ⟨y, hy⟩ : ∃ y, val (L.take (k + 1)) = y := ⟨_, rfl⟩
      rw [hy] at e1
      have HY := Lib.hid hy
      have hvl := val_lt (l := L.take k) (fun x hx => hb x (List.mem_of_mem_take hx))
      have hvl2 : val (L.take k) < 4294967296 := Nat.lt_of_lt_of_le hvl (by rw [List.length_take]; exact Nat.le_trans (Nat.pow_le_pow_right (by omega) (show min k L.length ≤ 4 by omega)) (by decide))
      clear hy hz hat hvl hb
      generalize val (L.take k) = u at *
      have hkk : k = 0 ∨ k = 1 ∨ k = 2 ∨ k = 3 := by omega
      rcases hkk with rfl | rfl | rfl | rfl
      · rw [Nat.add_zero] at c0
        have e3 : bits .or .u32 (u : Int) (z : Int) = (y : Int) := by rw [← e1]; simp
        clear e1 e2
        go_wp2
        exact ⟨⟨1, by omega, rfl, by rw [HY.out, ← e3], trivial⟩, by simp [intOf]; omega⟩
      · have e3 : bits .or .u32 (u : Int) ((z : Int) * 256) = (y : Int) := by rw [← e1]; simp
        have e4 : z * 256 < 4294967296 := by omega
        clear e1 e2
        go_wp2
        exact ⟨⟨2, by omega, rfl, by rw [HY.out, ← e3], trivial⟩, by simp [intOf]; omega⟩
      · have e3 : bits .or .u32 (u : Int) ((z : Int) * 65536) = (y : Int) := by rw [← e1]; simp
        have e4 : z * 65536 < 4294967296 := by omega
        clear e1 e2
        go_wp2
        exact ⟨⟨3, by omega, rfl, by rw [HY.out, ← e3], trivial⟩, by simp [intOf]; omega⟩
      · have e3 : bits .or .u32 (u : Int) ((z : Int) * 16777216) = (y : Int) := by rw [← e1]; simp
        have e4 : z * 16777216 < 4294967296 := by omega
        clear e1 e2
        go_wp2
        exact ⟨⟨4, by omega, rfl, by rw [HY.out, ← e3], trivial⟩, by simp [intOf]; omega⟩
    · obtain rfl : k = n := by omega
      rw [List.take_of_length_le (by omega)]
      go_wp2
      go_ret
      exact ⟨rfl, s1⟩

end
end Go.Proofs.YtpinfihmageeoaaGreat.Fr
