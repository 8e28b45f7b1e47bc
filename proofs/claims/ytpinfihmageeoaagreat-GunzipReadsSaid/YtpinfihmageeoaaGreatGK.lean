/-
  HdO, one behind the other (merged by wip/merge.py). No conditions but those that each states.
-/
import Derived.Test.YtpinfihmageeoaaGreatGC
import Derived.Test.YtpinfihmageeoaaGreatGA
import Derived.Test.YtpinfihmageeoaaGreatGE
import Derived.Lib.AppendZeros

namespace Go.Proofs.YtpinfihmageeoaaGreat.Hd
open Go.RowKit

section
variable {B : Nat} {w0 w : World} {r : List Thing}

set_option maxRecDepth 100000 in
theorem grow_st (st : St B w0 w r) (n : Nat) (h0 : 0 < n) (hn : n ≤ 1000000) :
    Calls Tryz.prog 134 #[.slice none 0 0, .int .i64 (n : Int)] w fun e w' => ∃ u, e = .returned u ∧ St B w0 w' (rowT 5 1 u 0 [] :: r) := by
  obtain ⟨i0, hi, hz0, hz1, hz2⟩ := info_parts info8
  have hrun : ∀ ty, (Builtin.append_ #[26, 3] ty #[.slice none 0 0, .int .i64 (n : Int)]).run Tryz.prog w =
      .ok (.slice (some ⟨w.heap.size, 0, none⟩) n (grownCap w n 0 5)) (w.drew.alloc (.cells (Builtin.zeroCells (Value.int .u8 0).cells n ++ Builtin.zeroCells (Value.int .u8 0).cells (grownCap w n 0 5 - n)) 5)) := fun ty =>
    Lib.run_append_nil_zeros w _ _ ty 5 i0 (.int .u8 0) .i64 .i64 Tryz.underlying26 Tryz.underlying3 hi hz0 n h0 (by rw [hz1]; decide) (by omega) (by rw [hz2]; omega)
  have hge := grownCap_ge w n 0 5
  have hle := grownCap_le_maxLen w n 0 5 (by unfold maxLen; omega)
  generalize hc : grownCap w n 0 5 = c at *
  obtain ⟨Z, hZ, hZs⟩ : ∃ Z, Z = Builtin.zeroCells (Value.int .u8 0).cells n ++ Builtin.zeroCells (Value.int .u8 0).cells (c - n) ∧ Z.size = c := by
    refine ⟨_, rfl, ?_⟩
    rw [Array.size_append, size_zeroCells, size_zeroCells]
    show n * 1 + (c - n) * 1 = c
    omega
  rw [← hZ] at hrun
  clear hZ
  have s1 : St B w0 (w.drew.alloc (.cells Z 5)) (rowT 5 1 (.slice (some ⟨w.heap.size, 0, none⟩) 0 c) 0 [] :: r) := by
    refine st.drew.addRow (below_alloc w.drew _) ⟨rfl, .inr ⟨w.heap.size, c, Z, rfl, Nat.le_refl _, ?_, by omega, hle, by omega, rfl⟩⟩
    exact heap_alloc_new w.drew _
  go_enter Tryz.func134, Tryz.ntmps134
  go_wp2_with (at_builtin; refine Lib.wpList_append_run _ rfl _ _ _ _ rfl _ _ rfl rfl _ _ (hrun _) ?_)
  go_ret
  exact ⟨_, rfl, s1⟩

set_option maxRecDepth 100000 in
set_option maxHeartbeats 1000000 in
theorem concat_st {g : Nat} {v1 v2 : Value} {p q : List Nat} (st : St B w0 w (boxT g #[v1, v2] 26 :: r)) (h1 : ∀ W, St B w0 W r → ByteRow W v1 p) (h2 : ∀ W, St B w0 W r → ByteRow W v2 q) (hp : 0 < p.length) (hpl : p.length ≤ 100000) (hql : q.length ≤ 100000) :
    Calls Tryz.prog 113 #[.slice (some ⟨g, 0, none⟩) 2 2] w fun e w' => ∃ u, e = .returned u ∧ St B w0 w' (rowT 5 1 u (p ++ q).length (u8s (p ++ q)) :: boxT g #[v1, v2] 26 :: r) := by
  obtain ⟨c0, f0⟩ := st.boxAt 0
  obtain ⟨c1, f1⟩ := st.boxAt 1
  obtain ⟨a1, e1, hv1, -⟩ := h1 _ st.drop
  obtain ⟨a2, e2, hv2, -⟩ := h2 _ st.drop
  subst hv1 hv2
  have H1 := Lib.hid h1
  have H2 := Lib.hid h2
  clear h1 h2
  replace c0 : w.cell? ⟨g, 0, none⟩ = some (.slice a1 p.length e1) := c0
  replace c1 : w.cell? ⟨g, 1, none⟩ = some (.slice a2 q.length e2) := c1
  have hgr := fun W (s : St B w0 W (boxT g #[.slice a1 p.length e1, .slice a2 q.length e2] 26 :: r)) => grow_st s (p.length + q.length) (by omega) (by omega)
  go_enter Tryz.func113, Tryz.ntmps113
  go_wp2
  go_loopw [3, 5, 11] (fun sz _ i wr => (∃ k : Nat, k ≤ 2 ∧ i = .int .i64 (k : Int) ∧ sz = .int .i64 (((if k = 0 then 0 else if k = 1 then p.length else p.length + q.length) : Nat) : Int)) ∧ wr = w) (fun _ _ i _ => 2 - (intOf i).toNat)
  case atStart => exact ⟨⟨0, by omega, rfl, rfl⟩, rfl⟩
  case round =>
    obtain ⟨⟨k, hk, rfl, rfl⟩, rfl⟩ := hrel
    obtain rfl | rfl | rfl : k = 0 ∨ k = 1 ∨ k = 2 := by omega
    · go_wp2
      go_roundw
      case rel => exact ⟨⟨1, by omega, rfl, by simp⟩, trivial⟩
      case measure => simp [intOf]
    · go_wp2
      go_roundw
      case rel => exact ⟨⟨2, by omega, rfl, by simp⟩, trivial⟩
      case measure => simp [intOf]
    · have hgrow := hgr _ st
      rw [show ((p.length + q.length : Nat) : Int) = (p.length : Int) + (q.length : Int) from by omega] at hgrow
      go_wp2_with fail
      refine hgrow.mono ?_
      rintro e w1 ⟨u, rfl, s1⟩
      clear hgr hgrow st c0 c1 f0 f1
      go_wp2
      go_loopw [6, 8, 27] (fun sv _ i wr => ∃ (k : Nat) (l : List Nat), (k = 0 ∧ l = [] ∨ k = 1 ∧ l = p ∨ k = 2 ∧ l = p ++ q) ∧ i = .int .i64 (k : Int) ∧ St B w0 wr (rowT 5 1 sv l.length (u8s l) :: boxT g #[.slice a1 p.length e1, .slice a2 q.length e2] 26 :: r)) (fun _ _ i _ => 2 - (intOf i).toNat)
      case atStart => exact ⟨0, [], .inl ⟨rfl, rfl⟩, rfl, s1⟩
      case round =>
        clear s1
        obtain ⟨k, l, hkl, rfl, s2⟩ := hrel
        have c0 : wr.cell? ⟨g, 0, none⟩ = some (.slice a1 p.length e1) := (St.boxAt s2.swap 0).1
        have c1 : wr.cell? ⟨g, 1, none⟩ = some (.slice a2 q.length e2) := (St.boxAt s2.swap 1).1
        obtain ⟨rfl, rfl⟩ | ⟨rfl, rfl⟩ | ⟨rfl, rfl⟩ := hkl
        · have hb := H1.out _ s2.drop.drop
          go_wp2_with (at_builtin; refine wpList_append_bytes rfl _ _ rfl s2 hb rfl rfl (by simp; omega) ?_)
          intro v' w2 s3 _ _
          rw [show u8s [] ++ u8s p = u8s p from rfl] at s3
          go_wp2
          go_roundw
          case rel => exact ⟨1, p, .inr (.inl ⟨rfl, rfl⟩), rfl, s3⟩
          case measure => simp [intOf]
        · have hb := H2.out _ s2.drop.drop
          go_wp2_with (at_builtin; refine wpList_append_bytes rfl _ _ rfl s2 hb rfl rfl (by omega) ?_)
          intro v' w2 s3 _ _
          rw [← u8s_append, ← List.length_append] at s3
          go_wp2
          go_roundw
          case rel => exact ⟨2, _, .inr (.inr ⟨rfl, rfl⟩), rfl, s3⟩
          case measure => simp [intOf]
        · go_wp2
          go_ret
          exact ⟨_, rfl, s2⟩

end
end Go.Proofs.YtpinfihmageeoaaGreat.Hd
