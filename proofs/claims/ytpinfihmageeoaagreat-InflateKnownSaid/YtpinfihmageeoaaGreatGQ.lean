/-
  InfK InfL InfM, one behind the other (merged by wip/merge.py). No conditions but those that each states.
-/
import Derived.Test.YtpinfihmageeoaaGreatGP
import Derived.Test.YtpinfihmageeoaaGreatGK
import Derived.Test.YtpinfihmageeoaaGreatGF
import Derived.Test.YtpinfihmageeoaaGreatGJ

namespace Go.Proofs.YtpinfihmageeoaaGreat.Inf
open Go.RowKit Kraft Hd

section
variable {B : Nat} {w0 w : World} {r : List Thing} {rb qb : Nat} {fx kv : Value} {out xs : List Nat} {keep p : Nat}

set_option maxRecDepth 100000 in
theorem newTable_st (st : St B w0 w r) (v : Value) (L : List Nat) (h : ByteRow w v L) (hL : wordsErr L = 0) (hl : L.length ≤ 1000) :
    Calls Tryz.prog 112 #[v] w fun e w' => ∃ tb, e = .returned (.pointer (some ⟨tb, 0, none⟩)) ∧ St B w0 w' (tblL tb L :: r) := by
  have hn := tnew_st st v L h (by omega)
  go_enter Tryz.func112, Tryz.ntmps112
  go_wp2_with fail
  refine hn.mono ?_
  rintro e w1 (⟨h0, _⟩ | ⟨_, tb, rfl, s1⟩)
  · exact absurd hL h0
  go_wp2_with (go_at_call 56; refine (need10_yes _).mono ?_; rintro e w2 ⟨rfl, rfl⟩)
  go_ret
  exact ⟨_, rfl, s1⟩

set_option maxRecDepth 100000 in
theorem newCodes_st (st : St B w0 w r) (v1 v2 : Value) (P Q : List Nat) (h1 : ByteRow w v1 P) (h2 : ∀ W, St B w0 W r → ByteRow W v2 Q) (hP : wordsErr P = 0) (hQ : wordsErr Q = 0) (hPl : P.length ≤ 1000) (hQl : Q.length ≤ 1000) :
    Calls Tryz.prog 81 #[v1, v2] w fun e w' => ∃ cb ta tb, e = .returned (.pointer (some ⟨cb, 0, none⟩)) ∧ St B w0 w' (boxT cb (pairC ta tb) 161 :: tblL ta P :: tblL tb Q :: r) := by
  have hn := newTable_st st v1 P h1 hP hPl
  go_enter Tryz.func81, Tryz.ntmps81
  go_wp2_with fail
  refine hn.mono ?_
  rintro e w1 ⟨ta, rfl, s1⟩
  have hn2 := newTable_st s1 v2 Q (h2 _ s1.drop) hQ hQl
  go_wp2_with fail
  refine hn2.mono ?_
  rintro e w2 ⟨tb, rfl, s2⟩
  have s3 := s2.swap.newBox (pairC ta tb) 161
  go_wp2
  go_ret
  exact ⟨_, _, _, rfl, s3⟩

set_option maxRecDepth 100000 in
theorem like_st (st : St B w0 w r) (x n : Nat) (hx : x < 256) (hn : n ≤ 1000) :
    Calls Tryz.prog 114 #[.int .u8 (x : Int), .int .i64 (n : Int)] w fun e w' => ∃ v, e = .returned v ∧ St B w0 w' (rowT 5 1 v (List.replicate n x).length (u8s (List.replicate n x)) :: r) := by
  have s1 := st.litBytes [x] (by simpa using hx)
  have hr := Rep.repeatB_st s1.1 w.heap.size 0 1 [.int .u8 (x : Int)] rfl (by simp [Value.oneCell']) (fun j v hv => by
    have hc := byteRow_lit w [x] (0, 0) (by simpa using hx)
    have hj : j = 0 := by
      rcases Nat.eq_zero_or_pos j with h | h
      · exact h
      · rw [List.getElem?_eq_none (by simp; omega)] at hv; cases hv
    subst hj
    rw [add_none, cell_of_row _ w.heap.size _ (u8s [x]).toArray _ (0, 0) (heap_alloc_new w _)]
    simpa [u8s] using hv) n (by omega)
  rw [← Rep.rep_u8s] at hr
  go_enter Tryz.func114, Tryz.ntmps114
  go_wp2_with fail
  refine hr.mono ?_
  rintro e w2 ⟨v, rfl, s2⟩
  go_wp2
  go_ret
  refine ⟨v, rfl, ?_⟩
  rw [List.length_replicate]
  exact s2

set_option maxRecDepth 100000 in
set_option maxHeartbeats 2000000 in
theorem concat4_st {g : Nat} {v0 v1 v2 v3 : Value} {p0 p1 p2 p3 : List Nat} (st : St B w0 w (boxT g #[v0, v1, v2, v3] 26 :: r)) (h0 : ∀ W, St B w0 W r → ByteRow W v0 p0) (h1 : ∀ W, St B w0 W r → ByteRow W v1 p1) (h2 : ∀ W, St B w0 W r → ByteRow W v2 p2) (h3 : ∀ W, St B w0 W r → ByteRow W v3 p3)
    (hp : 0 < p0.length) (hl0 : p0.length ≤ 1000) (hl1 : p1.length ≤ 1000) (hl2 : p2.length ≤ 1000) (hl3 : p3.length ≤ 1000) :
    Calls Tryz.prog 113 #[.slice (some ⟨g, 0, none⟩) 4 4] w fun e w' => ∃ u, e = .returned u ∧ St B w0 w' (rowT 5 1 u (p0 ++ p1 ++ p2 ++ p3).length (u8s (p0 ++ p1 ++ p2 ++ p3)) :: boxT g #[v0, v1, v2, v3] 26 :: r) := by
  obtain ⟨a0, e0, hv0, -⟩ := h0 _ st.drop
  obtain ⟨a1, e1, hv1, -⟩ := h1 _ st.drop
  obtain ⟨a2, e2, hv2, -⟩ := h2 _ st.drop
  obtain ⟨a3, e3, hv3, -⟩ := h3 _ st.drop
  subst hv0 hv1 hv2 hv3
  have H0 := Lib.hid h0
  have H1 := Lib.hid h1
  have H2 := Lib.hid h2
  have H3 := Lib.hid h3
  clear h0 h1 h2 h3
  obtain ⟨c0, f0⟩ := st.boxAt 0
  obtain ⟨c1, f1⟩ := st.boxAt 1
  obtain ⟨c2, f2⟩ := st.boxAt 2
  obtain ⟨c3, f3⟩ := st.boxAt 3
  replace c0 : w.cell? ⟨g, 0, none⟩ = some (.slice a0 p0.length e0) := c0
  replace c1 : w.cell? ⟨g, 1, none⟩ = some (.slice a1 p1.length e1) := c1
  replace c2 : w.cell? ⟨g, 2, none⟩ = some (.slice a2 p2.length e2) := c2
  replace c3 : w.cell? ⟨g, 3, none⟩ = some (.slice a3 p3.length e3) := c3
  have hgr := fun W (s : St B w0 W (boxT g #[.slice a0 p0.length e0, .slice a1 p1.length e1, .slice a2 p2.length e2, .slice a3 p3.length e3] 26 :: r)) => Hd.grow_st s (p0.length + p1.length + p2.length + p3.length) (by omega) (by omega)
  go_enter Tryz.func113, Tryz.ntmps113
  go_wp2
  go_loopw [3, 5, 11] (fun sz _ i wr => (∃ k : Nat, k ≤ 4 ∧ i = .int .i64 (k : Int) ∧ sz = .int .i64 (((if k = 0 then 0 else if k = 1 then p0.length else if k = 2 then p0.length + p1.length else if k = 3 then p0.length + p1.length + p2.length else p0.length + p1.length + p2.length + p3.length) : Nat) : Int)) ∧ wr = w) (fun _ _ i _ => 4 - (intOf i).toNat)
  case atStart => exact ⟨⟨0, by omega, rfl, rfl⟩, rfl⟩
  case round =>
    obtain ⟨⟨k, hk, rfl, rfl⟩, rfl⟩ := hrel
    obtain rfl | rfl | rfl | rfl | rfl : k = 0 ∨ k = 1 ∨ k = 2 ∨ k = 3 ∨ k = 4 := by omega
    · go_wp2
      go_roundw
      case rel => exact ⟨⟨1, by omega, rfl, by simp⟩, trivial⟩
      case measure => simp [intOf]
    · go_wp2
      go_roundw
      case rel => exact ⟨⟨2, by omega, rfl, by simp⟩, trivial⟩
      case measure => simp [intOf]
    · go_wp2
      go_roundw
      case rel => exact ⟨⟨3, by omega, rfl, by simp⟩, trivial⟩
      case measure => simp [intOf]
    · go_wp2
      go_roundw
      case rel => exact ⟨⟨4, by omega, rfl, by simp⟩, trivial⟩
      case measure => simp [intOf]
    · have hgrow := hgr _ st
      rw [show ((p0.length + p1.length + p2.length + p3.length : Nat) : Int) = (p0.length : Int) + (p1.length : Int) + (p2.length : Int) + (p3.length : Int) from by omega] at hgrow
      go_wp2_with fail
      refine hgrow.mono ?_
      rintro e w1 ⟨u, rfl, s1⟩
      clear hgr hgrow st c0 c1 c2 c3 f0 f1 f2 f3
      go_wp2
      go_loopw [6, 8, 27] (fun sv _ i wr => ∃ (k : Nat) (l : List Nat), (k = 0 ∧ l = [] ∨ k = 1 ∧ l = p0 ∨ k = 2 ∧ l = p0 ++ p1 ∨ k = 3 ∧ l = p0 ++ p1 ++ p2 ∨ k = 4 ∧ l = p0 ++ p1 ++ p2 ++ p3) ∧ i = .int .i64 (k : Int) ∧ St B w0 wr (rowT 5 1 sv l.length (u8s l) :: boxT g #[.slice a0 p0.length e0, .slice a1 p1.length e1, .slice a2 p2.length e2, .slice a3 p3.length e3] 26 :: r)) (fun _ _ i _ => 4 - (intOf i).toNat)
      case atStart => exact ⟨0, [], .inl ⟨rfl, rfl⟩, rfl, s1⟩
      case round =>
        clear s1
        obtain ⟨k, l, hkl, rfl, s2⟩ := hrel
        have c0 : wr.cell? ⟨g, 0, none⟩ = some (.slice a0 p0.length e0) := (St.boxAt s2.swap 0).1
        have c1 : wr.cell? ⟨g, 1, none⟩ = some (.slice a1 p1.length e1) := (St.boxAt s2.swap 1).1
        have c2 : wr.cell? ⟨g, 2, none⟩ = some (.slice a2 p2.length e2) := (St.boxAt s2.swap 2).1
        have c3 : wr.cell? ⟨g, 3, none⟩ = some (.slice a3 p3.length e3) := (St.boxAt s2.swap 3).1
        obtain ⟨rfl, rfl⟩ | ⟨rfl, rfl⟩ | ⟨rfl, rfl⟩ | ⟨rfl, rfl⟩ | ⟨rfl, rfl⟩ := hkl
        · have hb := H0.out _ s2.drop.drop
          go_wp2_with (at_builtin; refine wpList_append_bytes rfl _ _ rfl s2 hb rfl rfl (by first | omega | (simp; omega)) ?_)
          intro v' w2 s3 _ _
          rw [show u8s [] ++ u8s p0 = u8s p0 from rfl] at s3
          go_wp2
          go_roundw
          case rel => exact ⟨1, _, .inr (.inl ⟨rfl, rfl⟩), rfl, s3⟩
          case measure => simp [intOf]
        · have hb := H1.out _ s2.drop.drop
          go_wp2_with (at_builtin; refine wpList_append_bytes rfl _ _ rfl s2 hb rfl rfl (by first | omega | (simp; omega)) ?_)
          intro v' w2 s3 _ _
          go_wp2
          go_roundw
          case rel => exact ⟨2, _, .inr (.inr (.inl ⟨rfl, rfl⟩)), rfl, by simpa only [u8s_append, List.length_append, List.append_assoc, Nat.add_assoc] using s3⟩
          case measure => simp [intOf]
        · have hb := H2.out _ s2.drop.drop
          go_wp2_with (at_builtin; refine wpList_append_bytes rfl _ _ rfl s2 hb rfl rfl (by first | omega | (simp; omega)) ?_)
          intro v' w2 s3 _ _
          go_wp2
          go_roundw
          case rel => exact ⟨3, _, .inr (.inr (.inr (.inl ⟨rfl, rfl⟩))), rfl, by simpa only [u8s_append, List.length_append, List.append_assoc, Nat.add_assoc] using s3⟩
          case measure => simp [intOf]
        · have hb := H3.out _ s2.drop.drop
          go_wp2_with (at_builtin; refine wpList_append_bytes rfl _ _ rfl s2 hb rfl rfl (by first | omega | (simp; omega)) ?_)
          intro v' w2 s3 _ _
          go_wp2
          go_roundw
          case rel => exact ⟨4, _, .inr (.inr (.inr (.inr ⟨rfl, rfl⟩))), rfl, by simpa only [u8s_append, List.length_append, List.append_assoc, Nat.add_assoc] using s3⟩
          case measure => simp [intOf]
        · go_wp2
          go_ret
          exact ⟨_, rfl, s2⟩

end
end Go.Proofs.YtpinfihmageeoaaGreat.Inf

namespace Go.Proofs.YtpinfihmageeoaaGreat.Inf
open Go.RowKit Kraft Hd

def fxV : Option (Nat × Nat × Nat) → Value
  | none => .pointer none
  | some (cb, _, _) => .pointer (some ⟨cb, 0, none⟩)
def fxL : Option (Nat × Nat × Nat) → List Thing
  | none => []
  | some (cb, ta, tb) => [boxT cb (pairC ta tb) 161, tblL ta fixP, tblL tb fixQ]

theorem fixP_len : fixP.length = 288 := by decide +kernel
theorem fixQ_len : fixQ.length = 32 := by decide +kernel

section
variable {B : Nat} {w0 w : World} {r : List Thing} {rb qb : Nat} {fx kv : Value} {out xs : List Nat} {keep p : Nat}

theorem Sep.pass {w : World} (r : List Thing) : ∀ (T : List Thing) (S : Nat → Prop), Sep w (T ++ r) S → Sep w r S
  | [], _, h => h
  | A :: T, S, h => by
    obtain ⟨S1, _, _, h3⟩ := h
    exact Sep.mono (Sep.pass r T _ h3) (fun k _ hk => hk.1)
theorem Sep.cut {w : World} (T r : List Thing) : ∀ (A : List Thing) (S : Nat → Prop), Sep w (A ++ (T ++ r)) S → Sep w (A ++ r) S
  | [], S, h => Sep.pass r T S h
  | _ :: A, _, h => Sep.under (fun S' h' => Sep.cut T r A S' h') h

theorem fx_drop {f : Option (Nat × Nat × Nat)} (st : St B w0 w (fxL f ++ r)) : St B w0 w r := by
  cases f with
  | none => exact st
  | some y => exact st.drop.drop.drop

def Went (B : Nat) (w0 : World) (r : List Thing) (rb qb : Nat) (keep : Nat) (xs : List Nat) (x : Option (Nat × List Nat)) (e : Ending) (w' : World) : Prop :=
  match x with
  | none => e = .panicked oops ∧ St B w0 w' r
  | some (q, o) => e = .returned (.tuple #[]) ∧ ∃ f, Rst B w0 w' (fxL f ++ r) rb qb (fxV f) keep xs q o

set_option maxRecDepth 100000 in
set_option maxHeartbeats 1000000 in
theorem fixedLengths_st (st : St B w0 w r) :
    Calls Tryz.prog 82 #[] w fun e w' => ∃ v1 v2, e = .returned (.tuple #[v1, v2]) ∧ ∃ T, St B w0 w' (rowT 5 1 v2 fixQ.length (u8s fixQ) :: rowT 5 1 v1 fixP.length (u8s fixP) :: (T ++ r)) := by
  have k0 := like_st st 8 144 (by omega) (by omega)
  go_enter Tryz.func82, Tryz.ntmps82
  go_wp2_with fail
  refine k0.mono ?_
  rintro e w1 ⟨v0, rfl, s1⟩
  have k1 := like_st s1 9 112 (by omega) (by omega)
  go_wp2_with fail
  refine k1.mono ?_
  rintro e w2 ⟨v1, rfl, s2⟩
  have k2 := like_st s2 7 24 (by omega) (by omega)
  go_wp2_with fail
  refine k2.mono ?_
  rintro e w3 ⟨v2, rfl, s3⟩
  have k3 := like_st s3 8 8 (by omega) (by omega)
  go_wp2_with fail
  refine k3.mono ?_
  rintro e w4 ⟨v3, rfl, s4⟩
  clear k0 k1 k2 k3 s1 s2 s3
  obtain ⟨L0, g0, b0, l0, l0'⟩ : ∃ L : List Nat, List.replicate 144 8 = L ∧ (∀ x ∈ L, x < 256) ∧ L.length ≤ 1000 ∧ 0 < L.length := ⟨_, rfl, fun x hx => by rw [(List.mem_replicate.1 hx).2]; decide, by rw [List.length_replicate]; omega, by rw [List.length_replicate]; omega⟩
  obtain ⟨L1, g1, b1, l1⟩ : ∃ L : List Nat, List.replicate 112 9 = L ∧ (∀ x ∈ L, x < 256) ∧ L.length ≤ 1000 := ⟨_, rfl, fun x hx => by rw [(List.mem_replicate.1 hx).2]; decide, by rw [List.length_replicate]; omega⟩
  obtain ⟨L2, g2, b2, l2⟩ : ∃ L : List Nat, List.replicate 24 7 = L ∧ (∀ x ∈ L, x < 256) ∧ L.length ≤ 1000 := ⟨_, rfl, fun x hx => by rw [(List.mem_replicate.1 hx).2]; decide, by rw [List.length_replicate]; omega⟩
  obtain ⟨L3, g3, b3, l3⟩ : ∃ L : List Nat, List.replicate 8 8 = L ∧ (∀ x ∈ L, x < 256) ∧ L.length ≤ 1000 := ⟨_, rfl, fun x hx => by rw [(List.mem_replicate.1 hx).2]; decide, by rw [List.length_replicate]; omega⟩
  have hP : L0 ++ L1 ++ L2 ++ L3 = fixP := by unfold fixP; rw [g0, g1, g2, g3]
  rw [g0, g1, g2, g3] at s4
  have HP := Lib.hid hP
  clear g0 g1 g2 g3 hP
  obtain ⟨a0, e0, rfl⟩ := ownsRow_slice (s4.front 3).row
  obtain ⟨a1, e1, rfl⟩ := ownsRow_slice (s4.front 2).row
  obtain ⟨a2, e2, rfl⟩ := ownsRow_slice (s4.front 1).row
  obtain ⟨a3, e3, rfl⟩ := ownsRow_slice s4.row
  have s5 := s4.newBox #[.slice a0 L0.length e0, .slice a1 L1.length e1, .slice a2 L2.length e2, .slice a3 L3.length e3] 26
  have hcat := concat4_st s5 (p0 := L0) (p1 := L1) (p2 := L2) (p3 := L3) (fun W s => St.bytesRow (s.front 3) b0) (fun W s => St.bytesRow (s.front 2) b1) (fun W s => St.bytesRow (s.front 1) b2) (fun W s => St.bytesRow s b3) l0' l0 l1 l2 l3
  rw [HP.out] at hcat
  obtain ⟨T, hT⟩ : ∃ T, [boxT w4.heap.size #[.slice a0 L0.length e0, .slice a1 L1.length e1, .slice a2 L2.length e2, .slice a3 L3.length e3] 26, rowT 5 1 (.slice a3 L3.length e3) L3.length (u8s L3), rowT 5 1 (.slice a2 L2.length e2) L2.length (u8s L2), rowT 5 1 (.slice a1 L1.length e1) L1.length (u8s L1), rowT 5 1 (.slice a0 L0.length e0) L0.length (u8s L0)] = T := ⟨_, rfl⟩
  replace hcat : Calls Tryz.prog 113 #[.slice (some ⟨w4.heap.size, 0, none⟩) 4 4] _ fun e w' => ∃ u, e = .returned u ∧ St B w0 w' (rowT 5 1 u fixP.length (u8s fixP) :: ([boxT w4.heap.size #[.slice a0 L0.length e0, .slice a1 L1.length e1, .slice a2 L2.length e2, .slice a3 L3.length e3] 26, rowT 5 1 (.slice a3 L3.length e3) L3.length (u8s L3), rowT 5 1 (.slice a2 L2.length e2) L2.length (u8s L2), rowT 5 1 (.slice a1 L1.length e1) L1.length (u8s L1), rowT 5 1 (.slice a0 L0.length e0) L0.length (u8s L0)] ++ r)) := hcat
  rw [hT] at hcat
  clear hT s4 s5 b0 b1 b2 b3
  go_wp2_with fail
  refine hcat.mono ?_
  rintro e w5 ⟨u, rfl, s6⟩
  have k5 := like_st s6 5 32 (by omega) (by omega)
  rw [show List.replicate 32 5 = fixQ from rfl] at k5
  clear hcat
  go_wp2_with fail
  refine k5.mono ?_
  rintro e w6 ⟨v5, rfl, s7⟩
  go_wp2
  go_ret2
  exact ⟨_, _, rfl, T, s7⟩

set_option maxRecDepth 100000 in
theorem none_st (st : St B w0 w r) : Calls Tryz.prog 60 #[.pointer (some ⟨rb, 0, none⟩)] w fun e w' => e = .panicked oops ∧ St B w0 w' r := by
  go_enter Tryz.func60, Tryz.ntmps60
  go_wp2_with (go_at_call 56; refine (need10_no _).mono ?_; rintro e w2 ⟨rfl, rfl⟩)
  exact ⟨rfl, rfl, st⟩

theorem Rst.of3 {A1 A2 A3 : Thing} {oa : Option Addr} {oc : Nat} (s : St B w0 w (A1 :: A2 :: A3 :: rdrT rb qb fx out (.slice oa (out.take keep).length oc) keep :: rowT 5 1 (.slice oa (out.take keep).length oc) (out.take keep).length (u8s (out.take keep)) :: rdT qb xs p :: r)) : Rst B w0 w (A1 :: A2 :: A3 :: r) rb qb fx keep xs p out :=
  ⟨oa, oc, ((s.front 5).front 5).front 5⟩
theorem rfixes (h : Rst B w0 w r rb qb fx keep xs p out) (fx' : Value) : Rst B w0 (w.setCell ⟨rb, 1, none⟩ fx') r rb qb fx' keep xs p out ∧ w.frozen? ⟨rb, 1, none⟩ = false := by
  obtain ⟨oa, oc, st⟩ := h.st
  obtain ⟨h1, h2⟩ := rdr_fixes st fx'
  exact ⟨⟨oa, oc, h1⟩, h2⟩

set_option maxRecDepth 100000 in
set_option maxHeartbeats 1000000 in
theorem fixed_st {f : Option (Nat × Nat × Nat)} (h : Rst B w0 w (fxL f ++ r) rb qb (fxV f) keep xs p out) (hk : keep ≤ 1000000) (ho : out.length + 258 * (row xs).length ≤ 500000000) :
    Calls Tryz.prog 58 #[.pointer (some ⟨rb, 0, none⟩)] w (Went B w0 r rb qb keep xs (syms fixP fixQ (row xs) p out)) := by
  have hfit : wordsErr fixP = 0 ∧ wordsErr fixQ = 0 := fix_fits
  have hPb : ∀ x ∈ fixP, x < 256 := by decide +kernel
  have hQb : ∀ x ∈ fixQ, x < 256 := by decide +kernel
  have hl := fixP_len
  have hm := fixQ_len
  have hsy := fun W cb ta tb (s : Rst B w0 W (fxL (some (cb, ta, tb)) ++ r) rb qb (fxV (some (cb, ta, tb))) keep xs p out) => symbols_st s hk ho hfit.1 hfit.2
  generalize syms fixP fixQ (row xs) p out = X at *
  cases f with
  | some y =>
    obtain ⟨cb, ta, tb⟩ := y
    have c1 := h.cells.2.1
    replace c1 : w.cell? ⟨rb, 1, none⟩ = some (.pointer (some ⟨cb, 0, none⟩)) := c1
    have hsy := hsy _ cb ta tb h
    clear hPb hQb hl hm
    cases X with
    | none =>
      go_enter Tryz.func58, Tryz.ntmps58
      go_wp2_with fail
      refine hsy.mono ?_
      rintro e w1 ⟨rfl, s1⟩
      exact ⟨rfl, rfl, s1.drop.drop.drop⟩
    | some z =>
      obtain ⟨q, o⟩ := z
      go_enter Tryz.func58, Tryz.ntmps58
      go_wp2_with fail
      refine hsy.mono ?_
      rintro e w1 ⟨rfl, s1⟩
      go_wp2
      go_end0
      exact ⟨rfl, some (cb, ta, tb), s1⟩
  | none =>
    have c1 := h.cells.2.1
    replace c1 : w.cell? ⟨rb, 1, none⟩ = some (.pointer none) := c1
    obtain ⟨oa, oc, st⟩ := h.st
    have hfl := fixedLengths_st st
    have hnew : ∀ W v1 v2 T, St B w0 W (rowT 5 1 v2 fixQ.length (u8s fixQ) :: rowT 5 1 v1 fixP.length (u8s fixP) :: (T ++ (rdrT rb qb (.pointer none) out (.slice oa (out.take keep).length oc) keep :: rowT 5 1 (.slice oa (out.take keep).length oc) (out.take keep).length (u8s (out.take keep)) :: rdT qb xs p :: r))) →
        Calls Tryz.prog 81 #[v1, v2] W fun e w' => ∃ cb ta tb, e = .returned (.pointer (some ⟨cb, 0, none⟩)) ∧ Rst B w0 w' (fxL (some (cb, ta, tb)) ++ r) rb qb (.pointer none) keep xs p out := fun W v1 v2 T s => by
      refine (newCodes_st s v1 v2 fixP fixQ (St.bytesRow s.swap hPb) (fun W s => St.bytesRow s hQb) hfit.1 hfit.2 (by omega) (by omega)).mono ?_
      rintro e w' ⟨cb, ta, tb, rfl, s2⟩
      refine ⟨cb, ta, tb, rfl, ?_⟩
      have s3 : St B w0 w' (fxL (some (cb, ta, tb)) ++ (rdrT rb qb (.pointer none) out (.slice oa (out.take keep).length oc) keep :: rowT 5 1 (.slice oa (out.take keep).length oc) (out.take keep).length (u8s (out.take keep)) :: rdT qb xs p :: r)) :=
        ⟨s2.only, s2.size, Sep.cut (rowT 5 1 v2 fixQ.length (u8s fixQ) :: rowT 5 1 v1 fixP.length (u8s fixP) :: T) _ (fxL (some (cb, ta, tb))) _ s2.sep⟩
      exact Rst.of3 s3
    have HN := Lib.hid hnew
    clear hnew hPb hQb hl hm h st hfit
    go_enter Tryz.func58, Tryz.ntmps58
    go_wp2_with fail
    refine hfl.mono ?_
    rintro e w1 ⟨v1, v2, rfl, T, s1⟩
    have hnc := HN.out _ _ _ _ s1
    clear hfl s1
    go_wp2_with fail
    refine hnc.mono ?_
    rintro e w2 ⟨cb, ta, tb, rfl, s2⟩
    have d1 := s2.cells.2.1
    obtain ⟨s3, g1⟩ := rfixes s2 (.pointer (some ⟨cb, 0, none⟩))
    have d2 := s3.cells.2.1
    have hsy := hsy _ cb ta tb s3
    clear hnc s2
    cases X with
    | none =>
      go_wp2_with fail
      refine hsy.mono ?_
      rintro e w3 ⟨rfl, s4⟩
      exact ⟨rfl, rfl, s4.drop.drop.drop⟩
    | some z =>
      obtain ⟨q, o⟩ := z
      go_wp2_with fail
      refine hsy.mono ?_
      rintro e w3 ⟨rfl, s4⟩
      go_wp2
      go_end0
      exact ⟨rfl, some (cb, ta, tb), s4⟩

end
end Go.Proofs.YtpinfihmageeoaaGreat.Inf

namespace Go.Proofs.YtpinfihmageeoaaGreat.Inf
open Go.RowKit Kraft Hd

section
variable {B : Nat} {w0 w : World} {r : List Thing} {rb qb : Nat} {fx kv : Value} {out xs : List Nat} {keep p : Nat}

def Same10 (B : Nat) (w0 : World) (r : List Thing) (rb qb : Nat) (fx : Value) (keep : Nat) (xs : List Nat) (x : Option (Nat × List Nat)) (e : Ending) (w' : World) : Prop :=
  match x with
  | none => e = .panicked oops ∧ St B w0 w' r
  | some (q, o) => e = .returned (.tuple #[]) ∧ Rst B w0 w' r rb qb fx keep xs q o

theorem Same10.went {f : Option (Nat × Nat × Nat)} {x : Option (Nat × List Nat)} {e : Ending} {w' : World} (h : Same10 B w0 (fxL f ++ r) rb qb (fxV f) keep xs x e w') : Went B w0 r rb qb keep xs x e w' := by
  cases x with
  | none => exact ⟨h.1, fx_drop h.2⟩
  | some y => exact ⟨h.1, f, h.2⟩

theorem ralign_any10 (h : Rst B w0 w r rb qb fx keep xs p out) :
    Calls Tryz.prog 20 #[.pointer (some ⟨qb, 0, none⟩)] w fun e w' => e = .returned (.tuple #[]) ∧ Rst B w0 w' r rb qb fx keep xs (up8 p) out := by
  obtain ⟨oa, oc, st⟩ := h.st
  refine (ralign_st (st.front 2)).mono ?_
  rintro e w' ⟨rfl, s⟩
  exact ⟨rfl, oa, oc, (s.front 2).front 2⟩

set_option maxRecDepth 100000 in
set_option maxHeartbeats 2000000 in
theorem stored_st (h : Rst B w0 w r rb qb fx keep xs p out) (hk : keep ≤ 1000000) (ho : out.length ≤ 500000000) :
    Calls Tryz.prog 57 #[.pointer (some ⟨rb, 0, none⟩)] w (Same10 B w0 r rb qb fx keep xs (storedAt (row xs) p out)) := by
  obtain ⟨X, hXX⟩ : ∃ X, storedAt (row xs) p out = X := ⟨_, rfl⟩
  rw [hXX]
  have hbad : ∀ W, X = none → St B w0 W r → Same10 B w0 r rb qb fx keep xs X (.panicked oops) W := fun W hX s => by rw [hX]; exact ⟨rfl, s⟩
  have HBAD := Lib.hid hbad
  clear hbad
  have c0 := h.cells.1
  have hal := ralign_any10 h
  obtain ⟨P, hP⟩ : ∃ P, up8 p = P := ⟨_, rfl⟩
  rw [hP] at hal
  have hsa : ∀ x, nm (row xs) P 16 = x → P + 32 ≤ (row xs).length → X = if nm (row xs) (P + 16) 16 ≠ 65535 - x then none else if (row xs).length < P + 32 + 8 * x then none else some (P + 32 + 8 * x, out ++ bytesAt (row xs) (P + 32) x) := fun x hx hl => by
    rw [← hXX]; unfold storedAt; rw [hP, hx, if_neg (by omega)]
  have hsh : (row xs).length < P + 32 → X = none := fun hl => by rw [← hXX]; unfold storedAt; rw [hP, if_pos hl]
  have HSA := Lib.hid hsa
  have HSH := Lib.hid hsh
  have hRl := row_length xs
  clear hsa hsh hXX hP h
  go_enter Tryz.func57, Tryz.ntmps57
  go_wp2_with fail
  refine hal.mono ?_
  rintro e w1 ⟨rfl, s1⟩
  have hPp := s1.place
  clear hal
  by_cases h16 : 8 * xs.length < P + 16
  · have hn := rnumber_no s1 16 (by omega) h16
    have hX := HSH.out (by omega)
    have HX := Lib.hid hX
    clear hX
    go_wp2_with fail
    refine hn.mono ?_
    rintro e w2 ⟨rfl, s2⟩
    exact ⟨rfl, HBAD.out _ HX.out s2⟩
  have hn1 := rnumber_ok s1 16 (by omega) (by omega)
  have hx := nm_lt (row xs) P 16
  obtain ⟨x, hxe⟩ : ∃ x, nm (row xs) P 16 = x := ⟨_, rfl⟩
  have HX := Lib.hid (HSA.out x hxe)
  rw [hxe] at hn1 hx
  clear hxe
  go_wp2_with fail
  refine hn1.mono ?_
  rintro e w2 ⟨rfl, s2⟩
  clear hn1 s1
  by_cases h32 : 8 * xs.length < P + 32
  · have hn := rnumber_no s2 16 (by omega) (by omega)
    have hX := HSH.out (by omega)
    have HX := Lib.hid hX
    clear hX
    go_wp2_with fail
    refine hn.mono ?_
    rintro e w3 ⟨rfl, s3⟩
    exact ⟨rfl, HBAD.out _ HX.out s3⟩
  have hn2 := rnumber_ok s2 16 (by omega) (by omega)
  have hy := nm_lt (row xs) (P + 16) 16
  have HX2 := Lib.hid (HX.out (by omega))
  generalize nm (row xs) (P + 16) 16 = y at hn2 hy HX2
  go_wp2_with fail
  refine hn2.mono ?_
  rintro e w3 ⟨rfl, s3⟩
  rw [show P + 16 + 16 = P + 32 from by omega] at s3
  clear hn2 s2 HX HSH HSA
  by_cases hxy : y = 65535 - x
  · have hs3 : X = if (row xs).length < P + 32 + 8 * x then none else some (P + 32 + 8 * x, out ++ bytesAt (row xs) (P + 32) x) := by rw [HX2.out, if_neg (by omega)]
    have HX3 := Lib.hid hs3
    have hne : ((y : Int) == 65535 - (x : Int)) = true := by rw [beq_iff_eq]; omega
    have hne2 : (y : Int) = 65535 - (x : Int) := by omega
    clear HX2 hs3 hxy hy
    go_wp2_with (go_at_call 56; refine (need10_yes _).mono ?_; rintro e w4 ⟨rfl, rfl⟩)
    have hx2 : x < 65536 := by omega
    clear hx hne hne2 c0
    go_loopw [19] (fun i wr => ∃ k : Nat, k ≤ x ∧ i = .int .i64 (k : Int) ∧ P + 32 + 8 * k ≤ 8 * xs.length ∧ Rst B w0 wr r rb qb fx keep xs (P + 32 + 8 * k) (out ++ bytesAt (row xs) (P + 32) k)) (fun i _ => x - (intOf i).toNat)
    case atStart => exact ⟨0, Nat.zero_le _, rfl, by omega, by simpa [bytesAt] using s3⟩
    case round =>
      clear s3
      obtain ⟨k, hkx, rfl, hkp, s4⟩ := hrel
      have hpl := s4.place
      by_cases hlt : k < x
      · have hol : (out ++ bytesAt (row xs) (P + 32) k).length ≤ 500000000 + 65536 := by rw [List.length_append, bytesAt_length]; omega
        by_cases h8 : 8 * xs.length < P + 32 + 8 * k + 8
        · have hX : X = none := by rw [HX3.out, if_pos (by omega)]
          have HX := Lib.hid hX
          have hn := rnumber_no s4 8 (by omega) h8
          clear hX s4 hol
          go_wp2_with fail
          refine hn.mono ?_
          rintro e w5 ⟨rfl, s5⟩
          exact ⟨rfl, HBAD.out _ HX.out s5⟩
        · have hn := rnumber_ok s4 8 (by omega) (by omega)
          have hc := nm_lt (row xs) (P + 32 + 8 * k) 8
          have hbs : bytesAt (row xs) (P + 32) (k + 1) = bytesAt (row xs) (P + 32) k ++ [nm (row xs) (P + 32 + 8 * k) 8] := bytesAt_succ _ _ _
          have HBS := Lib.hid hbs
          have hsay := fun W c (s : Rst B w0 W r rb qb fx keep xs (P + 32 + 8 * k + 8) (out ++ bytesAt (row xs) (P + 32) k)) => say_st s c hk (by omega)
          generalize nm (row xs) (P + 32 + 8 * k) 8 = c at *
          generalize bytesAt (row xs) (P + 32) k = bk at *
          have hc2 : c < 256 := by omega
          clear s4 hol hbs hc
          go_wp2_with fail
          refine hn.mono ?_
          rintro e w5 ⟨rfl, s5⟩
          have hsay := hsay _ c s5
          clear hn s5
          go_wp2_with fail
          refine hsay.mono ?_
          rintro e w6 ⟨rfl, s6⟩
          rw [List.append_assoc, ← HBS.out] at s6
          clear hsay
          go_wp2
          refine ⟨⟨k + 1, by omega, by go_num, by omega, ?_⟩, by simp [intOf]; omega⟩
          rw [show P + 32 + 8 * (k + 1) = P + 32 + 8 * k + 8 from by omega]
          exact s6
      · obtain rfl : k = x := by omega
        have hX : X = some (P + 32 + 8 * k, out ++ bytesAt (row xs) (P + 32) k) := by rw [HX3.out, if_neg (by omega)]
        have hfin : Same10 B w0 r rb qb fx keep xs X (.returned (.tuple #[])) wr := by rw [hX]; exact ⟨rfl, s4⟩
        clear hX HX3 s4
        go_wp2
        go_end0
        exact hfin
  · have hne : ((y : Int) == 65535 - (x : Int)) = false := by rw [beq_eq_false_iff_ne]; omega
    have hX : X = none := by rw [HX2.out, if_pos hxy]
    have HX := Lib.hid hX
    clear hX HX2 hxy
    have st := s3.rest
    go_wp2_with (go_at_call 56; refine (need10_no _).mono ?_; rintro e w4 ⟨rfl, rfl⟩)
    exact ⟨rfl, HBAD.out _ HX.out st⟩

theorem Rst.pairR {v1 v2 : Value} {P Q : List Nat} (h : Rst B w0 w (pairT v1 P v2 Q :: r) rb qb fx keep xs p out) : ByteRow w v1 P ∧ ByteRow w v2 Q := h.rest.pair

set_option maxRecDepth 100000 in
set_option maxHeartbeats 2000000 in
theorem dynamic_st (h : Rst B w0 w r rb qb fx keep xs p out) (hk : keep ≤ 1000000) (ho : out.length + 258 * (row xs).length ≤ 500000000) (hx : xs.length ≤ 60000) :
    Calls Tryz.prog 59 #[.pointer (some ⟨rb, 0, none⟩)] w (Same10 B w0 r rb qb fx keep xs ((headAt (row xs) p).bind fun y => syms y.1 y.2.1 (row xs) y.2.2 out)) := by
  have c0 := h.cells.1
  have hpl := h.place
  obtain ⟨oa, oc, st⟩ := h.st
  have hg := hget_st (st.front 2) (by omega) hpl
  unfold GotSt at hg
  cases hh : headAt (row xs) p with
  | none =>
    rw [hh] at hg
    simp only at hg
    go_enter Tryz.func59, Tryz.ntmps59
    go_wp2_with fail
    refine hg.mono ?_
    rintro e w1 ⟨rfl, p', s1⟩
    go_wp2_with (go_at_call 56; refine (need10_no _).mono ?_; rintro e w4 ⟨rfl, rfl⟩)
    exact ⟨rfl, rfl, s1.drop.drop.drop⟩
  | some y =>
    obtain ⟨P, Q, q⟩ := y
    rw [hh] at hg
    simp only [Option.bind_some] at hg ⊢
    have hm := head_more hh []
    simp only at hm
    have hml := mayH_len hm.2.2.2
    have hmf := mayH_fits hm.2.2.2
    have hsy := fun W cb ta tb L (s : Rst B w0 W (boxT cb (pairC ta tb) 161 :: tblL ta P :: tblL tb Q :: L) rb qb fx keep xs q out) => symbols_st s hk ho hmf.1 hmf.2
    clear hh hm st h
    generalize syms P Q (row xs) q out = X at *
    go_enter Tryz.func59, Tryz.ntmps59
    go_wp2_with fail
    refine hg.mono ?_
    rintro e w1 ⟨v1, v2, rfl, s1⟩
    clear hg
    have hnc := newCodes_st s1 v1 v2 P Q s1.pair.1 (fun W s => s.pair.2) hmf.1 hmf.2 (by omega) (by omega)
    go_wp2_with (go_at_call 56; refine (need10_yes _).mono ?_; rintro e w4 ⟨rfl, rfl⟩)
    refine hnc.mono ?_
    rintro e w2 ⟨cb, ta, tb, rfl, s2⟩
    have s3 : Rst B w0 w2 (boxT cb (pairC ta tb) 161 :: tblL ta P :: tblL tb Q :: (pairT v1 P v2 Q :: r)) rb qb fx keep xs q out := ⟨oa, oc, ((s2.front 4).front 6).front 6⟩
    have hsy := hsy _ _ _ _ _ s3
    cases X with
    | none =>
      go_wp2_with fail
      refine hsy.mono ?_
      rintro e w3 ⟨rfl, s4⟩
      exact ⟨rfl, rfl, s4.drop.drop.drop.drop⟩
    | some z =>
      obtain ⟨q', o⟩ := z
      go_wp2_with fail
      refine hsy.mono ?_
      rintro e w3 ⟨rfl, s4⟩
      go_wp2
      go_end0
      exact ⟨rfl, s4.dropR.dropR.dropR.dropR⟩

end
end Go.Proofs.YtpinfihmageeoaaGreat.Inf
