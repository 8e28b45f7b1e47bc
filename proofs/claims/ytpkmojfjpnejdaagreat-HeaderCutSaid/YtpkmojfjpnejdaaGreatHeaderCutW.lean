/-
  A head whose last bits are missing is none: the walk of HeaderCut. No conditions.
-/
import Derived.Test.YtpkmojfjpnejdaaGreatGL
import Derived.Test.YtpkmojfjpnejdaaGreatHdL
namespace Go.Proofs.YtpkmojfjpnejdaaGreat.headerCut
open Go.RowKit Kraft Hd Limit

theorem byteRow_cut {w : World} {a : Option Addr} {n c m : Nat} {X : List Nat} (h : ByteRow w (.slice a n c) X) (hm : m ≤ n) : ByteRow w (.slice a m c) (X.take m) := by
  obtain ⟨a', c', e, hc, hn, hat⟩ := h
  obtain ⟨rfl, e2, rfl⟩ := Value.slice.inj e
  refine ⟨a, c, by rw [List.length_take]; congr 1; omega, by rw [List.length_take]; omega, hn, fun i hi => ?_⟩
  have hi' : i < X.length := by rw [List.length_take] at hi; omega
  rw [List.getElem_take]
  exact hat i hi'

theorem u16_of {mo : Int} (hmo : (Lit.int .u16 mo).wf = true) : ∃ y : Nat, mo = (y : Int) ∧ y < 65536 := by
  simp only [Lit.wf, Bool.and_eq_true, decide_eq_true_eq] at hmo
  have e1 : IntKind.u16.min = 0 := rfl
  have e2 : IntKind.u16.max = 65535 := rfl
  rw [e1, e2] at hmo
  exact ⟨mo.toNat, by omega, by omega⟩

set_option maxRecDepth 100000 in
set_option maxHeartbeats 8000000 in
theorem walk (w : World) (v0 : Value) (xs : List Nat) (h0 : U16Row w v0 xs) (v1 : Value) (ys : List Nat) (h1 : U16Row w v1 ys) (n : Int) (hn : (Lit.int .u16 n).wf = true) :
    Calls Tryz.prog 6 #[v0, v1, .int .u16 n] w fun e w' => e = .returned (.bool true) ∧ Below w.heap.size w w' := by
  have hB := Nat.le_refl w.heap.size
  have HIN := fun W (hb : Below w.heap.size w W) => And.intro (h0.below hb hB) (h1.below hb hB)
  obtain ⟨a0, cap0, rfl, hc0, hn0, -⟩ := h0
  obtain ⟨a1, cap1, rfl, hc1, hn1, -⟩ := h1
  obtain ⟨n, rfl, hn⟩ := u16_of hn
  by_cases c0 : 286 < xs.length
  · go_enter Tryz.func6, Tryz.ntmps6
    go_wp2
    go_ret
    exact ⟨rfl, Below.refl _ _⟩
  by_cases c1 : 30 < ys.length
  · go_enter Tryz.func6, Tryz.ntmps6
    go_wp2
    go_ret
    exact ⟨rfl, Below.refl _ _⟩
  have HIN := Lib.hid HIN
  go_enter Tryz.func6, Tryz.ntmps6
  go_wp2_with fail
  refine (lens_st (St.start w) _ xs (fun W s => (HIN.out W (s.below hB)).1) (by omega) 270 (by omega) (by omega)).mono ?_
  rintro e w1 ⟨u1, F, P, rfl, hF, hFl, hF256, hPb, s1⟩
  go_wp2_with fail
  refine (lens_st s1 _ ys (fun W s => (HIN.out W (s.below hB)).2) (by omega) 30 (by omega) (by omega)).mono ?_
  rintro e w2 ⟨u2, G, Q, rfl, hG, hGl, _, hQb, s2⟩
  have hmay : mayH P Q = true := choice_may hF hG (by omega) (by omega) (hF256 (by omega)) (by omega) (by omega)
  have hPl : P.length ≤ 286 := by have := hF.length; omega
  have hQl : Q.length ≤ 30 := by have := hG.length; omega
  clear hF hFl hF256 hG hGl
  obtain ⟨ua, uc, rfl⟩ := ownsRow_slice s1.row
  obtain ⟨ub, ud, rfl⟩ := ownsRow_slice s2.row
  have s3 := s2.newWr
  obtain ⟨pb, hpb⟩ : ∃ pb, pb = w2.heap.size := ⟨_, rfl⟩
  rw [← hpb] at s3
  have hput := hput_st s3 (by simp) (fun W s => s.swap.bytesRow hPb) (fun W s => s.bytesRow hQb) (by omega) (by omega)
  rw [hmay] at hput
  simp only [if_true, List.nil_append] at hput
  have hsm := hbits_small hmay
  have hat := fun A C => hbits_at hmay A C
  generalize hbits P Q = H at *
  have hHl : H.length ≤ 6000 := by omega
  have hH1 : 1 ≤ H.length := by
    have h := hat [] []
    by_cases h0 : H.length = 0
    · have e : H = [] := List.eq_nil_of_length_eq_zero h0
      subst e
      unfold headAt at h
      rw [if_pos (by simp)] at h
      cases h
    · omega
  have HAT : headAt (row (pk H)) 0 = some (P, Q, H.length) := by
    obtain ⟨C, hC⟩ := row_pk H
    have := hat [] C
    rw [List.nil_append, List.length_nil, Nat.zero_add, ← hC] at this
    exact this
  have HCUT := fun k (hk : 8 * k < H.length) => head_cut HAT (8 * k) hk
  have HCUT := Lib.hid HCUT
  have HPB := Lib.hid hPb
  have HQB := Lib.hid hQb
  clear hmay hat hPb hQb s1 s2 s3 hsm HAT HIN
  go_wp2_with fail
  rw [← hpb]
  refine hput.mono ?_
  rintro e w3 ⟨rfl, s4⟩
  clear hput
  go_wp2_with fail
  try rw [← hpb]
  clear hpb
  refine (bytes_st s4 (by omega)).mono ?_
  rintro e w5 ⟨v5, rfl, s5⟩
  clear s4
  obtain ⟨pa, pc, rfl⟩ := ownsRow_slice s5.row
  have hpl := pk_length H
  have HBY := Lib.hid (pk_lt H)
  have hN1 : 1 ≤ (pk H).length := by omega
  have hN2 : (pk H).length ≤ 1000 := by omega
  obtain ⟨k, hk, hkn⟩ : ∃ k, n % (pk H).length = k ∧ k < (pk H).length := ⟨_, rfl, Nat.mod_lt _ (by omega)⟩
  have hk2 : (n : Int) % ((pk H).length : Int) = (k : Int) := by rw [← hk]; simp
  have hk3 : (n : Int).tmod ((pk H).length : Int) = (k : Int) := by rw [Int.tmod_eq_emod_of_nonneg (by omega)]; exact hk2
  have hk8 : 8 * k < H.length := by omega
  have hrow : ∀ W, St w.heap.size w W (rowT 5 1 (.slice pa (pk H).length pc) (pk H).length (u8s (pk H)) :: wrT pb H :: rowT 5 1 (.slice ub Q.length ud) Q.length (u8s Q) :: rowT 5 1 (.slice ua P.length uc) P.length (u8s P) :: []) → ByteRow W (.slice pa k pc) ((pk H).take k) := fun W s => byteRow_cut (s.bytesRow HBY.out) (by omega)
  have hnone := HCUT.out k hk8
  rw [← row_take _ _ (by omega)] at hnone
  have HNONE := Lib.hid hnone
  have HROW := Lib.hid hrow
  have hcap : (pk H).length ≤ pc := by
    obtain ⟨_, _, e, h2, _⟩ := s5.bytesRow HBY.out
    obtain ⟨_, _, rfl⟩ := Value.slice.inj e
    exact h2
  clear hk hnone hrow hpl HCUT
  generalize pk H = X at *
  go_wp2_with fail
  have hr5 := HROW.out _ s5
  refine (new_st s5 hr5.reads hr5.byte (by rw [List.length_take]; omega)).mono ?_
  rintro e w7 ⟨qb, rfl, s7⟩
  clear s5 hr5
  go_wp2_with fail
  refine (hget_st s7 (by rw [List.length_take]; omega) (Nat.zero_le _)).mono ?_
  intro e w8 hg
  unfold GotSt at hg
  rw [HNONE.out] at hg
  obtain ⟨rfl, p', s8⟩ := hg
  clear s7 HNONE
  have hln := len_st (s8.front 2)
  have hhd := heads_any w8
  have hbel := s8.below hB
  have h8 : (8 : Int) * (k : Int) < (H.length : Int) := by omega
  clear s8 HROW
  go_wp2_with (first | (go_at_call 20; refine hln.mono ?_; rintro e w9 ⟨rfl, rfl⟩) | (go_at_call 14; refine hhd.mono ?_; rintro e w9 ⟨rfl, hb9⟩))
  go_ret
  exact ⟨rfl, hbel.trans (hb9.mono hbel.size)⟩

end Go.Proofs.YtpkmojfjpnejdaaGreat.headerCut
