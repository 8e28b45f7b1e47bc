/-
  Contracts of the library: a row of one sign, repeated. No conditions but that the number is small. (Written by wip/gen_rep2.py out of RepM.)
-/
import Derived.Test.YthmkkbaenccgiaaRepM
namespace Go.Proofs.Ythmkkbaenccgiaa.Rep
open Go.RowKit

theorem infoSign : (Try.prog.info? 31).map (fun i => (i.zero, i.size, i.bytes)) = some (some (.agg #[.int .u8 0, .int .u8 0]), 2, 2) := by kernel_rfl

theorem made_signs (m : Nat) : (madeCells #[Value.int .u8 0, Value.int .u8 0] (m * 2)).toList = rep m [.int .u8 0, .int .u8 0] := by
  have e1 : rep m [Value.int .u8 0, Value.int .u8 0] = List.replicate (m * 2) (.int .u8 0) := by
    induction m with
    | zero => rfl
    | succ m ih =>
      rw [Nat.add_comm m 1, rep_add, ih, Nat.add_mul, ← List.replicate_append_replicate]
      rfl
  rw [e1]
  apply List.ext_getElem?
  intro j
  unfold madeCells
  by_cases h : j < m * 2
  · have h2 : j % 2 = 0 ∨ j % 2 = 1 := by omega
    rcases h2 with h2 | h2 <;> simp [h, h2]
  · simp [h]

set_option maxRecDepth 100000 in
set_option maxHeartbeats 1000000 in
/-- slices.Repeat of a row of one sign. -/
theorem repeatS_st {B : Nat} {w0 w : World} {r : List Thing} (st : St B w0 w r) (b off cap0 : Nat) (cs : List Value) (hcs : cs.length = 2) (h1 : ∀ v ∈ cs, v.oneCell' = true) (hsrc : ∀ j v, cs[j]? = some v → w.cell? ((⟨b, off, none⟩ : Addr).add j) = some v)
    (m : Nat) (hm : m ≤ 1000000) :
    Calls Try.prog 30 #[.slice (some ⟨b, off, none⟩) 1 cap0, .int .i64 (m : Int)] w fun e w' => ∃ v', e = .returned v' ∧ St B w0 w' (rowT 31 2 v' m (rep m cs) :: r) := by
  obtain ⟨i0, hi, hz0, hz1, hz2⟩ := info_parts infoSign
  have hmk : i0.bytes * m ≤ 281474976710656 := by rw [hz2]; omega
  have hmx : m ≤ maxLen := by unfold maxLen; omega
  have hu : (m : Int) % 18446744073709551616 = (m : Int) := by omega
  go_enter Try.func30, Try.ntmps30
  go_wp2_with (first | (go_at_call 32; refine (mul_any _ m (by omega)).mono ?_; rintro e w1 ⟨rfl, rfl⟩) | (at_make; refine wpList_make_full _ rfl _ _ 23 rfl w.heap.size 31 i0 (.agg #[.int .u8 0, .int .u8 0]) 2 Try.underlying23 hi hz0 hz1 _ _ _ _ m rfl rfl rfl rfl hmk hmx (Nat.le_refl _) ?_))
  intro w1 hown hgrow
  have s1 : St B w0 w1 (rowT 31 2 (.slice (some ⟨w.heap.size, 0, none⟩) m m) m (rep m [.int .u8 0, .int .u8 0]) :: r) := by
    rw [made_signs] at hown
    exact st.addRow ((Below.refl w.heap.size w).grown hgrow (Nat.le_refl _) (by simp)) hown
  have hbl : 0 < m → b < w.heap.size := fun _ => by
    have h2 := hsrc 0 cs[0] (by simp)
    rw [add_none] at h2
    exact World.block_lt_of_cell? w _ h2
  have hsrc1 : ∀ j v, cs[j]? = some v → w1.cell? ((⟨b, off, none⟩ : Addr).add j) = some v := fun j v hj => by
    have h2 := hsrc j v hj
    rw [add_none] at h2 ⊢
    have h3 := World.block_lt_of_cell? w _ h2
    exact ((((Below.refl w.heap.size w).grown hgrow (Nat.le_refl _) (by simp)).cell (p := ⟨b, off + j, none⟩) h3)).trans h2
  obtain ⟨g, hg⟩ : ∃ g, g = w.heap.size := ⟨_, rfl⟩
  rw [← hg] at s1 ⊢
  clear hown hgrow hg hi hz0 hz1 hz2 hmk hmx hsrc hbl st
  by_cases h0 : m = 0
  · subst h0
    go_wp2_with (refine wpList_copy_none_sized (o := ⟨some 33, _, _, _, _, _⟩) rfl _ _ 23 23 rfl 31 2 Try.underlying23 (by kernel_rfl) _ _ _ _ _ _ rfl rfl rfl ?_)
    go_loopw [8] (fun n wr => n = .int .i64 0 ∧ wr = w1) (fun _ _ => 0)
    case atStart => exact ⟨rfl, rfl⟩
    case round =>
      obtain ⟨rfl, rfl⟩ := hrel
      go_wp2
      go_ret
      exact ⟨_, rfl, s1⟩
  · have hpos : 0 < m := by omega
    go_wp2_with (refine wpList_copy_st (o := ⟨some 33, _, _, _, _, _⟩) rfl _ _ 23 23 rfl 31 2 Try.underlying23 (by kernel_rfl) s1 0 _ _ _ _ _ rfl rfl 1 (Nat.min_eq_left hpos).symm cs (by omega) hsrc1 (by omega) h1 ?_)
    intro w2 s2
    have e1 := splice_rep 0 1 m cs [.int .u8 0, .int .u8 0] (by rw [hcs]; rfl) (by omega)
    have e2 : rep 1 cs = cs := by simp [rep]
    rw [Nat.zero_mul, e2, Nat.sub_zero, Nat.zero_add, show rep 0 cs = [] from rfl, List.nil_append] at e1
    rw [e1, show cs ++ rep (m - 1) [Value.int .u8 0, Value.int .u8 0] = rep 1 cs ++ rep (m - 1) [Value.int .u8 0, Value.int .u8 0] from by rw [e2]] at s2
    clear e1 e2 s1 hsrc1
    go_wp2
    go_loopw [8] (fun v wr => ∃ n : Nat, 1 ≤ n ∧ n ≤ m ∧ v = .int .i64 (n : Int) ∧ St B w0 wr (rowT 31 2 (.slice (some ⟨g, 0, none⟩) m m) m (rep n cs ++ rep (m - n) [.int .u8 0, .int .u8 0]) :: r)) (fun v _ => m - (intOf v).toNat)
    case atStart => exact ⟨1, Nat.le_refl _, by omega, rfl, s2⟩
    case round =>
      clear s2
      obtain ⟨n, hn1, hnm, rfl, s3⟩ := hrel
      by_cases hlt : n < m
      · obtain ⟨k, hk⟩ : ∃ k, Nat.min n (m - n) = k := ⟨_, rfl⟩
        have hk1 : k = min n (m - n) := hk.symm
        obtain ⟨d, hd⟩ : ∃ d : Nat, d = m - n := ⟨_, rfl⟩
        have hd' : (m : Int) - (n : Int) = (d : Int) := by omega
        rw [← hd] at hk hk1
        have s4 := s3.drew
        go_wp2
        refine region_seg (by kernel_rfl) [0, 1, 2, 4, 5] 5 rfl (by kernel_rfl) (by kernel_rfl) (fun _ _ d _ _ h => by cases d <;> exact h) ?_
        generalize wr.drew = wd at *
        intro K hK
        simp only [pickL, List.getElem?_cons_zero, List.getElem?_cons_succ]
        go_wp2_with fail
        refine wpAny_take (i := 3) (v := .slice (some ⟨g, n * 2, none⟩) d d) rfl (by kernel_rfl) (by kernel_rfl) (by kernel_rfl) (fun _ _ _ h => h) (.inl ⟨rfl, fun w => by go_simp; omega⟩) ?_
        refine wpAny_take (i := 6) (v := .slice (some ⟨g, 0, none⟩) n m) rfl (by kernel_rfl) (by kernel_rfl) (by kernel_rfl) (fun _ _ _ h => h) (.inl ⟨rfl, fun w => by go_simp⟩) ?_
        refine mid_seg [7, 8, 9] 0 (by kernel_rfl) (by kernel_rfl) (fun _ _ d _ _ h => by cases d <;> exact h) ?_
        intro K hK
        simp only [pickL, List.getElem?_cons_zero, List.getElem?_cons_succ]
        have hle : k ≤ n := by omega
        have hkd : k ≤ d := by omega
        have hkp : 1 ≤ k := by omega
        have hl : (rep k cs).length = k * 2 := by rw [rep_length, hcs]
        have hsrc : ∀ j v, (rep k cs)[j]? = some v → wd.cell? ((⟨g, 0, none⟩ : Addr).add j) = some v := fun j v hj => by
          have hjl := (List.getElem?_eq_some_iff.1 hj).1
          rw [add_none, Nat.zero_add, s4.row.cellAt j (by omega), show n = k + (n - k) from by omega, rep_add, List.append_assoc, List.getElem?_append_left hjl]
          exact hj
        have hsp := splice_rep n k m cs [.int .u8 0, .int .u8 0] (by rw [hcs]; rfl) (by omega)
        rw [hcs] at hsp
        have hfit : n * 2 + (rep k cs).length ≤ m * 2 := by omega
        have hone := rep_one k cs h1
        have hadd : (n : Int) + (k : Int) = ((n + k : Nat) : Int) := by omega
        obtain ⟨q, hq⟩ : ∃ q : Nat, n + k = q := ⟨_, rfl⟩
        rw [hq] at hsp hadd
        have hq1 : n < q := by omega
        have hqm : q ≤ m := by omega
        clear hd hd' hk1 hle hkd hkp hq s3
        go_wp2_with (refine wpList_copy_st (o := ⟨some 45, _, _, _, _, _⟩) rfl _ _ 23 23 rfl 31 2 Try.underlying23 (by kernel_rfl) s4 (n * 2) _ _ _ _ _ rfl rfl k hk.symm (rep k cs) hl hsrc hfit hone ?_)
        intro w5 s5
        clear hsrc hsp hfit hone hl
        go_wp2
        refine wpAny_done (by kernel_rfl) ?_ 0
        go_wp2
        go_roundw
        case rel => exact ⟨q, by omega, hqm, rfl, s5⟩
        case measure => simp [intOf]; omega
      · obtain rfl : n = m := by omega
        go_wp2
        go_ret
        refine ⟨_, rfl, ?_⟩
        rw [Nat.sub_self, show rep 0 [Value.int .u8 0, Value.int .u8 0] = [] from rfl, List.append_nil] at s3
        exact s3

end Go.Proofs.Ythmkkbaenccgiaa.Rep
