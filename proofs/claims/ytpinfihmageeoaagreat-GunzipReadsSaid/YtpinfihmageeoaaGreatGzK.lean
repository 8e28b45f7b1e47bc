/-
  What the laws of layer 12 share: the example, and its calls. No conditions.
-/
import Derived.Test.YtpinfihmageeoaaGreatGzG
import Derived.Test.YtpinfihmageeoaaGreatFrX
import Derived.Test.YtpinfihmageeoaaGreatGR
namespace Go.Proofs.YtpinfihmageeoaaGreat.Gu
open Go.RowKit Kraft Hd Inf Fr

/-- 'append(s, t...)', s a slice that is full: new memory, both one behind the other. -/
theorem wpList_append_full {ops : Array Oper} {rest : List Oper} {o : Oper} {a : Act} {Q : Exit → Act → World → Prop} (hw : Region.wanted o (yielded ops a.tmps) = true) (s x : Operand)
    (ho : o.op = .call { callee := .builtin .append, args := #[s, x], argTypes := #[26, 26] })
    {B : Nat} {w0 w2 : World} {r : List Thing} (st : St B w0 w2 r) {b : Addr} {c : Nat} {d : Option Addr} {xs ys : List Nat} (h1 : ByteRow w2 (.slice (some b) xs.length xs.length) xs) (h2 : ByteRow w2 (.slice d ys.length c) ys) (hy : 0 < ys.length)
    (hs : a.eval s = .slice (some b) xs.length xs.length) (hx : a.eval x = .slice d ys.length c) (hl : xs.length + ys.length ≤ 140737488355328)
    (K : ∀ v' w', St B w0 w' (rowT 5 1 v' (xs.length + ys.length) (u8s xs ++ u8s ys) :: r) → wpList Tryz.prog ops Q rest (a.put o.dst v') w') : wpList Tryz.prog ops Q (o :: rest) a w2 := by
  obtain ⟨i0, hi, hz0, hz1, hz2⟩ := info_parts info8
  have hr1 := h1.reads
  have hr2 := h2.reads
  obtain ⟨a1, -, e1⟩ : ∃ a', b = a' ∧ ∀ j u, (u8s xs)[j]? = some u → w2.cell? (b.add j) = some u := by
    rcases hr1 with ⟨e, -⟩ | ⟨a', cap', e, e2⟩
    · cases e
    · obtain rfl := Option.some.inj (Value.slice.inj e).1
      exact ⟨b, rfl, e2⟩
  obtain ⟨a2, rfl, e2⟩ : ∃ a', d = some a' ∧ ∀ j u, (u8s ys)[j]? = some u → w2.cell? (a'.add j) = some u := by
    rcases hr2 with ⟨-, e⟩ | ⟨a', cap', e, e2⟩
    · rw [← u8s_length, e] at hy; simp at hy
    · exact ⟨a', (Value.slice.inj e).1, e2⟩
  refine BigFrame.wpList_want hw fun K2 hK => ?_
  obtain ⟨v', w', hr, g1, g2⟩ := run_append_arg_grows (P := Tryz.prog) w2 26 o.type 5 i0 (.int .u8 0) 1 1 Tryz.underlying26 hi hz0 hz1 hz2 rfl (by decide) b xs.length xs.length (u8s xs) (by rw [u8s_length]; omega) e1 a2 ys.length c (u8s ys) (by rw [u8s_length]; omega) e2 (by omega) (by unfold maxLen; omega) (by omega)
  unfold Oper.wp execOp
  simp only [ho, resolve, invoke, builtin, Sem.run_bind, Sem.run_pure, Result.andThen_ok, List.map_toArray, List.map_cons, List.map_nil, hs, hx, hr]
  refine hK _ _ (K v' w' (st.addRow ⟨g2.os, g2.tape, g2.output, g2.size, fun k hk => g2.block k hk (by simp)⟩ g1))

/-- The example: a member that says a. -/
def smallB : List Nat := [31, 139, 8, 0, 0, 0, 0, 0, 0, 255, 75, 4, 0, 67, 190, 183, 232, 1, 0, 0, 0]
def badB : List Nat := [31, 139, 8, 0, 0, 0, 0, 0, 0, 255, 75, 4, 0, 67, 190, 183, 232, 1, 0, 0, 1]
def sumB : List Nat := [31, 139, 8, 2, 0, 0, 0, 0, 0, 255, 0, 0, 75, 4, 0, 67, 190, 183, 232, 1, 0, 0, 0]
def h0 : Gz := ⟨false, 0, 0, 255, [], [], [], 0, false⟩
def h2 : Gz := ⟨false, 0, 0, 255, [], [], [], 0, true⟩
theorem h0_fits : Fits h0 := ⟨by decide, by decide, by decide, by decide, by decide, by decide, by decide⟩
theorem h2_fits : Fits h2 := ⟨by decide, by decide, by decide, by decide, by decide, by decide, by decide⟩
theorem h0_bytes : laid h0 8 = [31, 139, 8, 0, 0, 0, 0, 0, 0, 255] := by decide +kernel
theorem h2_bytes : laid h2 8 = [31, 139, 8, 2, 0, 0, 0, 0, 0, 255] := by decide +kernel
theorem small_got (R : List Nat) : Fr.get ([31, 139, 8, 0, 0, 0, 0, 0, 0, 255] ++ R) = some ⟨10, h0, false⟩ := by
  have h := get_plain h0_fits (by decide) rfl R
  rw [h0_bytes] at h
  exact h
theorem sum_got (R : List Nat) : Fr.get ([31, 139, 8, 2, 0, 0, 0, 0, 0, 255] ++ ([0, 0] ++ R)) = some ⟨12, h2, true⟩ := by
  have h := get_sum h2_fits (by decide) rfl [0, 0] R rfl
  rw [h2_bytes, show (val [0, 0] != Crc.lowSum [31, 139, 8, 2, 0, 0, 0, 0, 0, 255] % 65536) = true from by decide +kernel] at h
  exact h
theorem a_tail : tailOf [97] = [67, 190, 183, 232, 1, 0, 0, 0] := by decide +kernel

theorem infl_fix2 {xs : List Nat} (h : 1 ≤ xs.length) (h0 : nm (row xs) (0 + 1) 2 = 1) (h1 : nm (row xs) 0 1 = 1) : infl xs = syms fixP fixQ (row xs) 3 [] := by
  have hl : ¬ (row xs).length < 0 + 3 := by rw [row_length]; omega
  unfold infl
  cases hs : syms fixP fixQ (row xs) 3 [] with
  | none =>
    refine strm_none ?_
    unfold blockAt
    rw [if_neg hl, h0, hs]
    rfl
  | some y =>
    obtain ⟨q, o⟩ := y
    refine strm_end ?_
    unfold blockAt
    rw [if_neg hl, h0, h1, hs]
    rfl

theorem infl_a : infl [75, 4, 0] = some (18, [97]) := by
  rw [infl_fix2 (by decide) (by decide +kernel) (by decide +kernel), syms_on (p' := 11) (out' := [97]) (by rw [row_length]; decide) (step_lit (c := 97) (by decide +kernel) (by decide))]
  exact syms_end (by rw [row_length]; decide) (step_eob (by decide +kernel))

theorem infl_more (R : List Nat) : infl ([75, 4, 0] ++ R) = some (18, [97]) := by
  have := infl_behind infl_a 3 (by decide) R
  exact this

theorem mem_at {H : List Nat} {g : Gz} {wr : Bool} (hg : ∀ R, Fr.get (H ++ R) = some ⟨H.length, g, wr⟩) (t R : List Nat) (ht : t.length = 8) : memAt (H ++ ([75, 4, 0] ++ (t ++ R))) = some ⟨H.length + 11, [97], wr, decide (tailOf [97] ≠ t)⟩ := by
  have hi : infl ((H ++ ([75, 4, 0] ++ (t ++ R))).drop H.length) = some (18, [97]) := by rw [List.drop_left]; exact infl_more _
  have := memAt_yes (hg ([75, 4, 0] ++ (t ++ R))) hi (by simp [used, ht]; omega)
  have h4 : sl (H ++ ([75, 4, 0] ++ (t ++ R))) (H.length + used 18) 8 = t := by
    unfold sl
    rw [← List.append_assoc, List.drop_left' (by rw [List.length_append]; rfl), List.take_left' ht]
  simp only at this
  rw [h4] at this
  exact this

theorem small_mem (R : List Nat) : memAt (smallB ++ R) = some ⟨21, [97], false, false⟩ := by
  have h := mem_at small_got [67, 190, 183, 232, 1, 0, 0, 0] R rfl
  rw [decide_eq_false (by rw [a_tail]; simp)] at h
  exact h
theorem bad_mem (R : List Nat) : memAt (badB ++ R) = some ⟨21, [97], false, true⟩ := by
  have h := mem_at small_got [67, 190, 183, 232, 1, 0, 0, 1] R rfl
  rw [decide_eq_true (by rw [a_tail]; decide)] at h
  exact h
theorem sum_mem : memAt sumB = some ⟨23, [97], true, false⟩ := by
  have h := mem_at (H := [31, 139, 8, 2, 0, 0, 0, 0, 0, 255, 0, 0]) (fun R => sum_got R) [67, 190, 183, 232, 1, 0, 0, 0] [] rfl
  rw [decide_eq_false (by rw [a_tail]; simp)] at h
  exact h

theorem goods_small (R : List Nat) : goods (smallB ++ R) = ⟨21, [97], false, false⟩ :: goods R := goods_some (small_mem R)
theorem goods_bad (R : List Nat) : goods (badB ++ R) = ⟨21, [97], false, true⟩ :: goods R := goods_some (bad_mem R)
theorem file_small : file smallB = some [⟨21, [97], false, false⟩] := by
  have h := goods_small []
  rw [List.append_nil, goods_nil] at h
  exact file_yes h rfl (by decide)
theorem file_two : file (smallB ++ smallB) = some [⟨21, [97], false, false⟩, ⟨21, [97], false, false⟩] := file_app (by decide) file_small file_small
theorem file_nil : file [] = none := file_no (fun h => h.2 rfl)

section
variable {B : Nat} {w0 w : World} {r : List Thing}

/-- Gunzip, where it is known what the file says. -/
theorem gunzip_says (st : St B w0 w r) (v : Value) (xs : List Nat) (h : ByteRow w v xs) (hx : xs.length ≤ 60000) (keep t n u : Nat) (wb : Bool) (hk : keep ≤ 1000000) {ms : List Mem} {o : List Nat} (hf : file xs = some ms) (ho : (outs ms).take keep = o) (ht : o.length = t) (hn : (outs ms).length = n) (hu : xs.length = u) (hw : wrongs keep ms = wb) :
    Calls Tryz.prog 13 #[v, .int .i64 (keep : Int)] w fun e w' => ∃ oa oc, e = .returned (.tuple #[.agg #[.slice oa t oc, .int .i64 (n : Int), .int .i64 (u : Int), .bool wb], .int .i64 0]) ∧ St B w0 w' (rowT 5 1 (.slice oa t oc) t (u8s o) :: r) := by
  have hg := gunzip_st st v xs h hx keep hk
  rw [hf] at hg
  unfold GzSt at hg
  simp only [ho, ht, hn, hu, hw] at hg
  exact hg

theorem gunzip_fails (st : St B w0 w r) (v : Value) (xs : List Nat) (h : ByteRow w v xs) (hx : xs.length ≤ 60000) (keep : Nat) (hk : keep ≤ 1000000) (hf : file xs = none) :
    Calls Tryz.prog 13 #[v, .int .i64 (keep : Int)] w fun e w' => e = .returned (.tuple #[.agg #[.slice none 0 0, .int .i64 0, .int .i64 0, .bool false], .int .i64 2]) ∧ St B w0 w' r := by
  have hg := gunzip_st st v xs h hx keep hk
  rw [hf] at hg
  exact hg

set_option maxRecDepth 100000 in
theorem small_st (st : St B w0 w r) : Calls Tryz.prog 35 #[] w fun e w' => ∃ b, e = .returned (.slice (some ⟨b, 0, none⟩) 21 21) ∧ St B w0 w' (litT b smallB (21, 22) :: r) := by
  have hcv := Crc.run_convert_lit
  have s1 := st.newLit smallB (21, 22)
  go_enter Tryz.func35, Tryz.ntmps35
  go_wp2
  go_ret
  exact ⟨w.heap.size, rfl, s1⟩
end

set_option maxRecDepth 100000 in
set_option maxHeartbeats 8000000 in
theorem opens_any (w : World) : Calls Tryz.prog 16 #[] w fun e w' => e = .returned (.bool true) ∧ Below w.heap.size w w' := by
  have hB := Nat.le_refl w.heap.size
  go_enter Tryz.func16, Tryz.ntmps16
  go_wp2_with fail
  refine (small_st (St.start w)).mono ?_
  rintro e w1 ⟨b1, rfl, s1⟩
  have g1 := gunzip_says s1 (.slice (some ⟨b1, 0, none⟩) 21 21) smallB (s1.litRow11 (by decide)) (by decide) 9 1 1 21 false (by omega) file_small (o := [97]) rfl rfl rfl rfl rfl
  go_wp2_with fail
  refine g1.mono ?_
  rintro e w2 ⟨oa, oc, rfl, s2⟩
  clear g1 s1
  have s3 := s2.newBox #[.slice oa 1 oc, .int .i64 1, .int .i64 21, .bool false] 28
  go_wp2_with fail
  refine (small_st s3).mono ?_
  rintro e w3 ⟨b3, rfl, s4⟩
  clear s2 s3
  go_wp2_with fail
  refine (small_st s4).mono ?_
  rintro e w4 ⟨b4, rfl, s5⟩
  clear s4
  go_wp2_with (at_builtin; refine wpList_append_full rfl _ _ rfl s5 (xs := smallB) (ys := smallB) (St.litRow11 s5.swap (by decide)) (s5.litRow11 (by decide)) (by decide) rfl rfl (by decide) ?_)
  intro v5 w5 s6
  obtain ⟨a5, c5, rfl⟩ : ∃ a c, v5 = .slice a 42 c := ownsRow_slice s6.row
  have g2 := gunzip_says s6 (.slice a5 42 c5) (smallB ++ smallB) (byteRow_owns (by rw [u8s_append]; exact s6.row) (by decide)) (by decide) 1 1 2 42 false (by omega) file_two (o := [97]) rfl rfl rfl rfl rfl
  clear s5
  go_wp2_with fail
  refine g2.mono ?_
  rintro e w6 ⟨oa2, oc2, rfl, s7⟩
  clear g2 s6
  have s8 := s7.newBox #[.slice oa2 1 oc2, .int .i64 2, .int .i64 42, .bool false] 28
  have g3 := gunzip_fails s8 (.slice none 0 0) [] (byteRow_none _) (by decide) 9 (by omega) file_nil
  clear s7
  go_wp2_with fail
  refine g3.mono ?_
  rintro e w7 ⟨rfl, s9⟩
  clear g3 s8
  have t0 := s9.newBox #[.slice none 0 0, .int .i64 0, .int .i64 0, .bool false] 28
  have k0 : (w7.alloc (.cells #[.slice none 0 0, .int .i64 0, .int .i64 0, .bool false] 28)).cell? ⟨w2.heap.size, 0, none⟩ = some (.slice oa 1 oc) := (St.boxAt (t0.front 6) 0).1
  have k1 : (w7.alloc (.cells #[.slice none 0 0, .int .i64 0, .int .i64 0, .bool false] 28)).cell? ⟨w2.heap.size, 1, none⟩ = some (.int .i64 1) := (St.boxAt (t0.front 6) 1).1
  have k2 : (w7.alloc (.cells #[.slice none 0 0, .int .i64 0, .int .i64 0, .bool false] 28)).cell? ⟨w2.heap.size, 2, none⟩ = some (.int .i64 21) := (St.boxAt (t0.front 6) 2).1
  have k3 : (w7.alloc (.cells #[.slice none 0 0, .int .i64 0, .int .i64 0, .bool false] 28)).cell? ⟨w2.heap.size, 3, none⟩ = some (.bool false) := (St.boxAt (t0.front 6) 3).1
  have j0 : (w7.alloc (.cells #[.slice none 0 0, .int .i64 0, .int .i64 0, .bool false] 28)).cell? ⟨w6.heap.size, 0, none⟩ = some (.slice oa2 1 oc2) := (St.boxAt (t0.front 1) 0).1
  have j1 : (w7.alloc (.cells #[.slice none 0 0, .int .i64 0, .int .i64 0, .bool false] 28)).cell? ⟨w6.heap.size, 1, none⟩ = some (.int .i64 2) := (St.boxAt (t0.front 1) 1).1
  have j2 : (w7.alloc (.cells #[.slice none 0 0, .int .i64 0, .int .i64 0, .bool false] 28)).cell? ⟨w6.heap.size, 2, none⟩ = some (.int .i64 42) := (St.boxAt (t0.front 1) 2).1
  have j3 : (w7.alloc (.cells #[.slice none 0 0, .int .i64 0, .int .i64 0, .bool false] 28)).cell? ⟨w6.heap.size, 3, none⟩ = some (.bool false) := (St.boxAt (t0.front 1) 3).1
  have q1 := run_string _ _ _ (Reads.of_owns (St.row (t0.front 7)))
  have q2 := run_string _ _ _ (Reads.of_owns (St.row (t0.front 2)))
  rw [show strOf [97] = ⟨#[97]⟩ from by decide] at q1 q2
  have hbel := t0.below hB
  clear s9 t0
  go_wp2
  go_ret
  exact ⟨rfl, hbel⟩

end Go.Proofs.YtpinfihmageeoaaGreat.Gu
