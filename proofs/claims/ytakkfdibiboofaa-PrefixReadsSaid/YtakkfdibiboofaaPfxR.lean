/-
  The document's answers for package prefix: words as rows of bits (pressworkref04.Bits, pressworkref06.Rows), and bytes as bits (pressworklaw06.bits). No conditions but that slices are of at most 2^47 elements.
-/
import Derived.Test.YtakkfdibiboofaaPfxQ
import Derived.Test.YtakkfdibiboofaaPfxL
namespace Go.Proofs.Ytakkfdibiboofaa
open Go.RowKit Kraft

/-- Bits as numbers. -/
def nats (l : List Bool) : List Nat := l.map Bool.toNat
theorem nats_length (l : List Bool) : (nats l).length = l.length := by simp [nats]
theorem nats_append (l m : List Bool) : nats (l ++ m) = nats l ++ nats m := by simp [nats]
theorem nats_lt (l : List Bool) : ∀ x ∈ nats l, x < 256 := by
  intro x hx
  obtain ⟨b, _, rfl⟩ := List.mem_map.1 hx
  cases b <;> decide

theorem bit_nat (q : Nat) : (q : Int) % 2 = (((q % 2 == 1 : Bool).toNat : Nat) : Int) := mod_two_bit q

set_option maxRecDepth 100000 in
/-- Bits: a word's bits, the first one first. -/
theorem refBits_st {B : Nat} {w0 w : World} {r : List Thing} (st : St B w0 w r) (x n : Nat) (hn : n ≤ 20) :
    Calls Try.prog 31 #[.int .u32 (x : Int), .int .u8 (n : Int)] w (BytesSt B w0 r (nats (top x n n))) := by
  go_enter Try.func31, Try.ntmps31
  go_wp2
  go_loopw [5, 6] (fun ov iv wr => ∃ c : Nat, c ≤ n ∧ iv = .int .i64 ((c : Int) - 1) ∧ St B w0 wr (rowT 5 1 ov (n - c) (u8s (nats (top x n (n - c)))) :: r)) (fun _ iv _ => (intOf iv + 1).toNat)
  case atStart => exact ⟨n, Nat.le_refl _, rfl, by rw [Nat.sub_self]; exact st.addNil⟩
  case round =>
    obtain ⟨c, hc, rfl, t1⟩ := hrel
    by_cases hc0 : c = 0
    · subst hc0
      rw [show ((0 : Nat) : Int) - 1 = -1 from rfl]
      go_wp2
      go_ret
      exact ⟨_, rfl, by rw [nats_length, top_length]; exact t1⟩
    · obtain ⟨d, rfl⟩ : ∃ d, c = d + 1 := ⟨c - 1, by omega⟩
      rw [show (((d + 1 : Nat) : Int) - 1) = (d : Int) from by omega]
      have hd20 : d < 20 := by omega
      obtain ⟨i0, hi, hz0, hz1, hz2⟩ := info_parts info8
      obtain ⟨q, hq, hqx⟩ : ∃ q : Nat, (x : Int) / 2 ^ d = (q : Int) ∧ q = x / 2 ^ d := ⟨x / 2 ^ d, by simp, rfl⟩
      obtain ⟨b, hb, hbt⟩ : ∃ b : Bool, (q : Int) % 2 = (b.toNat : Int) ∧ top x n (n - d) = top x n (n - (d + 1)) ++ [b] := by
        refine ⟨x / 2 ^ d % 2 == 1, ?_, ?_⟩
        · rw [hqx]
          exact mod_two_bit _
        · rw [show n - d = (n - (d + 1)) + 1 from by omega, top_succ, show n - 1 - (n - (d + 1)) = d from by omega]
      have hb1 : b.toNat ≤ 1 := by cases b <;> simp
      have HB := Lib.hid hbt
      clear hbt hqx
      generalize hbn : b.toNat = bn at hb hb1
      have HBN := Lib.hid hbn
      clear hbn
      go_wp2_with (at_builtin; refine wpList_append_one rfl _ _ 22 rfl 5 i0 (.int .u8 0) 1 1 Try.underlying22 hi hz0 hz1 hz2 rfl (by decide) t1 rfl [.int .u8 (bn : Int)] rfl rfl ?oneCell (by unfold maxLen; omega) (by omega) ?_)
      case oneCell => first | rfl | (intro u hu; simp at hu; subst hu; rfl)
      intro v' w5 t5
      go_wp2
      refine ⟨⟨d, by omega, by go_num, ?_⟩, by simp [intOf]⟩
      rw [HB.out, nats_append, u8s_append, show n - d = n - (d + 1) + 1 from by omega]
      have e : u8s (nats [b]) = [.int .u8 (bn : Int)] := by rw [← HBN.out]; rfl
      rw [e]
      exact t5

/-- The bits of bytes, of either order. -/
def bitsBoth (xs : List Nat) (low : Bool) : List Bool := rest (if low then bitAt xs else Msb.bitAt xs) (8 * xs.length) 0

theorem rest_take (f : Nat → Bool) (m k : Nat) (hk : k < m) : (rest f m 0).take (k + 1) = (rest f m 0).take k ++ [f k] := by
  rw [List.take_succ_eq_append_getElem (by rw [rest_length]; omega)]
  congr 2
  simp [rest]

set_option maxRecDepth 100000 in
theorem bits_new (w : World) (v : Value) (xs : List Nat) (h : ByteRow w v xs) (low : Bool) (hl : xs.length ≤ 1000000) :
    Calls Try.prog 14 #[v, .bool low] w (NewBytes w (nats (bitsBoth xs low))) := by
  have H := Lib.hid h
  obtain ⟨a0, cap0, rfl, hc0, hn0, -⟩ := h
  have hlen : (bitsBoth xs low).length = 8 * xs.length := by unfold bitsBoth; rw [rest_length]; omega
  have HLEN := Lib.hid hlen
  go_enter Try.func14, Try.ntmps14
  clear hlen
  go_wp2
  go_loopw [5, 6] (fun ov iv wr => ∃ k : Nat, k ≤ 8 * xs.length ∧ iv = .int .i64 (k : Int) ∧ St w.heap.size w wr (rowT 5 1 ov k (u8s (nats ((bitsBoth xs low).take k))) :: [])) (fun _ iv _ => 8 * xs.length - (intOf iv).toNat)
  case atStart => exact ⟨0, Nat.zero_le _, rfl, (St.start w).addNil⟩
  case round =>
    obtain ⟨k, hk, rfl, t1⟩ := hrel
    by_cases hlt : k < 8 * xs.length
    · have hk8 : k / 8 < xs.length := by omega
      obtain ⟨a0', cap0', e1, -, -, hat⟩ := H.out.below (t1.below (Nat.le_refl _)) (Nat.le_refl _)
      obtain ⟨hx256, b0, off0, rfl, hx0⟩ := hat (k / 8) hk8
      obtain ⟨rfl, -, rfl⟩ := Value.slice.inj e1
      clear hat e1
      obtain ⟨i0, hi, hz0, hz1, hz2⟩ := info_parts info8
      obtain ⟨kd, hkd, ekd⟩ : ∃ kd : Nat, (k : Int) / 8 = (kd : Int) ∧ k / 8 = kd := ⟨k / 8, by omega, rfl⟩
      obtain ⟨km, hkm, ekm⟩ : ∃ km : Nat, (k : Int) % 8 = (km : Int) ∧ k % 8 = km := ⟨k % 8, by omega, rfl⟩
      obtain ⟨k7, hk7, ek7⟩ : ∃ k7 : Nat, (7 : Int) - (km : Int) = (k7 : Int) ∧ 7 - k % 8 = k7 := ⟨7 - km, by omega, by omega⟩
      have hkm8 : km < 8 := by omega
      have hk78 : k7 < 8 := by omega
      simp only [ekd] at hk8 hx256 hx0
      have hlo : bitAt xs k = (xs[kd] / 2 ^ km % 2 == 1) := by
        unfold bitAt
        rw [ekd, ekm, getD_in _ _ hk8]
      have hhi : Msb.bitAt xs k = (xs[kd] / 2 ^ k7 % 2 == 1) := by
        unfold Msb.bitAt
        rw [ekd, ek7, getD_in _ _ hk8]
      have hbk := rest_take (if low then bitAt xs else Msb.bitAt xs) (8 * xs.length) k hlt
      rw [show rest (if low then bitAt xs else Msb.bitAt xs) (8 * xs.length) 0 = bitsBoth xs low from rfl] at hbk
      generalize xs[kd] = y at hx256 hx0 hlo hhi
      clear ekd ekm ek7
      cases low with
      | true =>
        obtain ⟨q, hq, eq⟩ : ∃ q : Nat, (y : Int) / 2 ^ km = (q : Int) ∧ y / 2 ^ km = q := ⟨y / 2 ^ km, by simp, rfl⟩
        obtain ⟨bn, hbn, hb1, ebn⟩ : ∃ bn : Nat, (q : Int) % 2 = (bn : Int) ∧ bn ≤ 1 ∧ bn = (bitAt xs k).toNat := by
          refine ⟨(bitAt xs k).toNat, ?_, by cases bitAt xs k <;> simp, rfl⟩
          rw [hlo, eq]
          exact mod_two_bit q
        have HB := Lib.hid hbk
        have HE := Lib.hid ebn
        clear hbk ebn hlo hhi eq
        go_wp2_with (at_builtin; refine wpList_append_one rfl _ _ 22 rfl 5 i0 (.int .u8 0) 1 1 Try.underlying22 hi hz0 hz1 hz2 rfl (by decide) t1 rfl [.int .u8 (bn : Int)] rfl rfl ?oneCell (by unfold maxLen; omega) (by omega) ?_)
        case oneCell => first | rfl | (intro u hu; simp at hu; subst hu; rfl)
        intro v' w5 t5
        go_wp2
        refine ⟨⟨k + 1, by omega, by go_num, ?_⟩, by simp [intOf]; omega⟩
        rw [HB.out, nats_append, u8s_append]
        have e : u8s (nats [bitAt xs k]) = [.int .u8 (bn : Int)] := by rw [HE.out]; rfl
        show St _ _ _ (rowT _ _ _ _ (_ ++ u8s (nats [bitAt xs k])) :: _)
        rw [e]
        exact t5
      | false =>
        obtain ⟨q, hq, eq⟩ : ∃ q : Nat, (y : Int) / 2 ^ k7 = (q : Int) ∧ y / 2 ^ k7 = q := ⟨y / 2 ^ k7, by simp, rfl⟩
        obtain ⟨bn, hbn, hb1, ebn⟩ : ∃ bn : Nat, (q : Int) % 2 = (bn : Int) ∧ bn ≤ 1 ∧ bn = (Msb.bitAt xs k).toNat := by
          refine ⟨(Msb.bitAt xs k).toNat, ?_, by cases Msb.bitAt xs k <;> simp, rfl⟩
          rw [hhi, eq]
          exact mod_two_bit q
        have HB := Lib.hid hbk
        have HE := Lib.hid ebn
        clear hbk ebn hlo hhi eq
        go_wp2_with (at_builtin; refine wpList_append_one rfl _ _ 22 rfl 5 i0 (.int .u8 0) 1 1 Try.underlying22 hi hz0 hz1 hz2 rfl (by decide) t1 rfl [.int .u8 (bn : Int)] rfl rfl ?oneCell (by unfold maxLen; omega) (by omega) ?_)
        case oneCell => first | rfl | (intro u hu; simp at hu; subst hu; rfl)
        intro v' w5 t5
        go_wp2
        refine ⟨⟨k + 1, by omega, by go_num, ?_⟩, by simp [intOf]; omega⟩
        rw [HB.out, nats_append, u8s_append]
        have e : u8s (nats [Msb.bitAt xs k]) = [.int .u8 (bn : Int)] := by rw [HE.out]; rfl
        show St _ _ _ (rowT _ _ _ _ (_ ++ u8s (nats [Msb.bitAt xs k])) :: _)
        rw [e]
        exact t5
    · obtain rfl : k = 8 * xs.length := by omega
      have e1 : (bitsBoth xs low).take (8 * xs.length) = bitsBoth xs low := List.take_of_length_le (by rw [HLEN.out]; omega)
      rw [e1] at t1
      clear e1
      go_wp2
      go_ret
      refine ⟨_, rfl, ?_, t1.below (Nat.le_refl _)⟩
      rw [nats_length, HLEN.out]
      exact t1.rowFrom

end Go.Proofs.Ytakkfdibiboofaa
