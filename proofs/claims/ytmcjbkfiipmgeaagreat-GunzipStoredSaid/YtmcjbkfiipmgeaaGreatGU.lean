/-
  FrM FrE FrT, one behind the other (merged by wip/merge.py). No conditions but those that each states.
-/
import Derived.Test.YtmcjbkfiipmgeaaGreatGT

/-
  Contracts of package frame: whether a head may be (mayBe). No conditions.
-/
namespace Go.Proofs.YtmcjbkfiipmgeaaGreat.Fr
open Go.RowKit Crc

theorem may_split (h : Gz) : may h = (decide (h.has < 8) && decide (h.extra.length ≤ 65535) && (decide (h.has / 1 % 2 = 1) || decide (h.extra.length = 0)) && textOk h.name (decide (h.has / 2 % 2 = 1)) && textOk h.comment (decide (h.has / 4 % 2 = 1))) := by
  have e : decide (h.extra = []) = decide (h.extra.length = 0) := decide_eq_decide.2 List.length_eq_zero_iff.symm
  unfold may textOk
  rw [Nat.div_one, e]

theorem held_call {P : Program} {ops : Array Oper} {Q : Exit → Act → World → Prop} {md : Region.Mode} {S : World → Prop} {j : Nat} (oj : Oper) {fuel : Nat} {listed : Array Bool} {a : Act} {w : World} (hr : Region.ready md ops listed = [j]) (hj : ops[j]? = some oj)
    (hw : Region.wanted oj (yielded ops a.tmps) = true) (f : FuncId) (args : Array Value) (hrun : (execOp a.eval oj).run P w = .ok (.enter f args) w) {Post : Ending → World → Prop} (hc : Calls P f args w Post)
    (h : ∀ e w', Post e w' → ∃ v, e = .returned v ∧ S w' ∧ wpAnyH P md ops Q S fuel (listed.setIfInBounds j true) (a.put oj.dst v) w') : wpAnyH P md ops Q S (fuel + 1) listed a w :=
  held_step oj hr hj fun N hN => by
    unfold wpList
    rw [if_pos hw]
    left
    unfold Oper.wp
    rw [hrun, Oper.upon_enter]
    refine hc.mono fun e w'' hh => ?_
    obtain ⟨v, rfl, h1, h2⟩ := h _ _ hh
    exact hN _ _ h1 h2

set_option maxRecDepth 100000 in
set_option maxHeartbeats 4000000 in
theorem mayBe_any (w : World) (h : Gz) (hf : Fits h) (ea : Option Addr) (ec : Nat) :
    Calls Tryz.prog 42 #[.agg (headC h (.slice ea h.extra.length ec))] w fun e w' => e = .returned (.bool (may h)) ∧ Below w.heap.size w w' := by
  rw [may_split]
  have hb1 := (below_alloc w (.cells (headC h (.slice ea h.extra.length ec)) 52)).drew
  have x1 : (w.alloc (.cells (headC h (.slice ea h.extra.length ec)) 52)).drew.cell? ⟨w.heap.size, 7, none⟩ = some (.int .u8 (h.has : Int)) ∧ (w.alloc (.cells (headC h (.slice ea h.extra.length ec)) 52)).drew.cell? ⟨w.heap.size, 4, none⟩ = some (.slice ea h.extra.length ec) ∧
      (w.alloc (.cells (headC h (.slice ea h.extra.length ec)) 52)).drew.cell? ⟨w.heap.size, 5, none⟩ = some (.string (strOf h.name)) ∧ (w.alloc (.cells (headC h (.slice ea h.extra.length ec)) 52)).drew.cell? ⟨w.heap.size, 6, none⟩ = some (.string (strOf h.comment)) := by
    refine ⟨?_, ?_, ?_, ?_⟩
    · exact (cell_of_row _ w.heap.size 7 _ _ (0, 0) (heap_alloc_new w _)).trans rfl
    · exact (cell_of_row _ w.heap.size 4 _ _ (0, 0) (heap_alloc_new w _)).trans rfl
    · exact (cell_of_row _ w.heap.size 5 _ _ (0, 0) (heap_alloc_new w _)).trans rfl
    · exact (cell_of_row _ w.heap.size 6 _ _ (0, 0) (heap_alloc_new w _)).trans rfl
  have hh1 := fun W => has_any W w.heap.size h.has 1 hf.has (.inl rfl)
  have hh2 := fun W => has_any W w.heap.size h.has 2 hf.has (.inr (.inl rfl))
  have hh4 := fun W => has_any W w.heap.size h.has 4 hf.has (.inr (.inr rfl))
  have ht := fun W b => mayText_any W h.name b hf.name
  have hc := fun W b => mayText_any W h.comment b hf.comment
  obtain ⟨T, hT⟩ : ∃ T, (decide (h.has < 8) && decide (h.extra.length ≤ 65535) && (decide (h.has / 1 % 2 = 1) || decide (h.extra.length = 0)) && textOk h.name (decide (h.has / 2 % 2 = 1)) && textOk h.comment (decide (h.has / 4 % 2 = 1))) = T := ⟨_, rfl⟩
  rw [hT]
  go_enter Tryz.func42, Tryz.ntmps42
  go_wp2
  refine region_seg (by kernel_rfl) [0] 33 rfl (by kernel_rfl) (by kernel_rfl) (fun _ _ d _ _ h => by cases d <;> exact h) ?_
  generalize (w.alloc (.cells (headC h (.slice ea h.extra.length ec)) 52)).drew = w1 at *
  generalize hpb : w.heap.size = pb at *
  clear hf
  generalize textOk h.name = tn at *
  generalize textOk h.comment = tc at *
  generalize strOf h.name = sn at *
  generalize strOf h.comment = sc at *
  generalize h.extra.length = m at *
  generalize decide (h.has / 1 % 2 = 1) = b1 at *
  generalize decide (h.has / 2 % 2 = 1) = b2 at *
  generalize decide (h.has / 4 % 2 = 1) = b4 at *
  generalize h.has = x at *
  have HT := Lib.hid hT
  have ht2 := fun W => ht W b2
  have hc2 := fun W => hc W b4
  clear hT ht hc
  obtain ⟨tn2, htn⟩ : ∃ t, tn b2 = t := ⟨_, rfl⟩
  obtain ⟨tc4, htc⟩ : ∃ t, tc b4 = t := ⟨_, rfl⟩
  rw [htn, htc] at HT
  rw [htn] at ht2
  rw [htc] at hc2
  clear htn htc
  intro K hK
  simp only [pickL, List.getElem?_cons_zero]
  go_wp2_with fail
  try clear hK K
  refine wpAny_of_held (S := fun W => W.cell? ⟨pb, 7, none⟩ = some (.int .u8 (x : Int)) ∧ W.cell? ⟨pb, 4, none⟩ = some (.slice ea m ec) ∧ W.cell? ⟨pb, 5, none⟩ = some (.string sn) ∧ W.cell? ⟨pb, 6, none⟩ = some (.string sc)) _ _ _ _ ?_
  by_cases c1 : x < 8
  · by_cases c2 : m ≤ 65535
    · cases b1 with
      | true =>
        cases tn2 with
        | true =>
          refine wpAnyH_take (i := 1) (v := .int .u8 (x : Int)) rfl (by kernel_rfl) (by kernel_rfl) (by kernel_rfl) (fun _ _ _ h => h) (.inl ⟨by kernel_rfl, fun W hW => by obtain ⟨q7, q4, q5, q6⟩ := hW; go_simp⟩) x1 ?_
          refine wpAnyH_take (i := 2) (v := .bool true) rfl (by kernel_rfl) (by kernel_rfl) (by kernel_rfl) (fun _ _ _ h => h) (.inl ⟨by kernel_rfl, fun W hW => by obtain ⟨q7, q4, q5, q6⟩ := hW; go_simp; first | done | omega | (simp; omega)⟩) x1 ?_
          refine wpAnyH_take (i := 3) (v := .bool true) rfl (by kernel_rfl) (by kernel_rfl) (by kernel_rfl) (fun _ _ _ h => h) (.inl ⟨by kernel_rfl, fun W hW => by obtain ⟨q7, q4, q5, q6⟩ := hW; go_simp⟩) x1 ?_
          refine wpAnyH_take (i := 4) (v := .pointer (some ⟨pb, 4, none⟩)) rfl (by kernel_rfl) (by kernel_rfl) (by kernel_rfl) (fun _ _ _ h => h) (.inl ⟨by kernel_rfl, fun W hW => by obtain ⟨q7, q4, q5, q6⟩ := hW; go_simp⟩) x1 ?_
          refine wpAnyH_take (i := 5) (v := .slice ea m ec) rfl (by kernel_rfl) (by kernel_rfl) (by kernel_rfl) (fun _ _ _ h => h) (.inl ⟨by kernel_rfl, fun W hW => by obtain ⟨q7, q4, q5, q6⟩ := hW; go_simp⟩) x1 ?_
          refine wpAnyH_take (i := 6) (v := .int .i64 (m : Int)) rfl (by kernel_rfl) (by kernel_rfl) (by kernel_rfl) (fun _ _ _ h => h) (.inl ⟨by kernel_rfl, fun W hW => by obtain ⟨q7, q4, q5, q6⟩ := hW; go_simp⟩) x1 ?_
          refine wpAnyH_take (i := 7) (v := .bool true) rfl (by kernel_rfl) (by kernel_rfl) (by kernel_rfl) (fun _ _ _ h => h) (.inl ⟨by kernel_rfl, fun W hW => by obtain ⟨q7, q4, q5, q6⟩ := hW; go_simp; first | done | omega | (simp; omega)⟩) x1 ?_
          refine wpAnyH_take (i := 8) (v := .bool true) rfl (by kernel_rfl) (by kernel_rfl) (by kernel_rfl) (fun _ _ _ h => h) (.inl ⟨by kernel_rfl, fun W hW => by obtain ⟨q7, q4, q5, q6⟩ := hW; go_simp⟩) x1 ?_
          refine wpAnyH_take (i := 9) (v := .bool true) rfl (by kernel_rfl) (by kernel_rfl) (by kernel_rfl) (fun _ _ _ h => h) (.inl ⟨by kernel_rfl, fun W hW => by obtain ⟨q7, q4, q5, q6⟩ := hW; go_simp⟩) x1 ?_
          refine wpAnyH_take (i := 10) (v := .func (.func 72) #[] #[.pointer (some ⟨pb, 0, none⟩)]) rfl (by kernel_rfl) (by kernel_rfl) (by kernel_rfl) (fun _ _ _ h => h) (.inl ⟨by kernel_rfl, fun W hW => by obtain ⟨q7, q4, q5, q6⟩ := hW; go_simp⟩) x1 ?_
          refine held_call (j := 11) _ (by kernel_rfl) rfl (by kernel_rfl) 72 #[.int .u8 1, .pointer (some ⟨pb, 0, none⟩)] (by kernel_rfl) (hh1 _ x1.1) ?_
          rintro e W11 ⟨rfl, rfl⟩
          refine ⟨_, rfl, x1, ?_⟩
          refine wpAnyH_take (i := 12) (v := .bool true) rfl (by kernel_rfl) (by kernel_rfl) (by kernel_rfl) (fun _ _ _ h => h) (.inl ⟨by kernel_rfl, fun W hW => by obtain ⟨q7, q4, q5, q6⟩ := hW; go_simp⟩) x1 ?_
          refine wpAnyH_take (i := 13) (v := undef) rfl (by kernel_rfl) (by kernel_rfl) (by kernel_rfl) (fun _ _ _ h => h) (.inr ⟨by kernel_rfl, rfl⟩) x1 ?_
          refine wpAnyH_take (i := 14) (v := undef) rfl (by kernel_rfl) (by kernel_rfl) (by kernel_rfl) (fun _ _ _ h => h) (.inr ⟨by kernel_rfl, rfl⟩) x1 ?_
          refine wpAnyH_take (i := 15) (v := undef) rfl (by kernel_rfl) (by kernel_rfl) (by kernel_rfl) (fun _ _ _ h => h) (.inr ⟨by kernel_rfl, rfl⟩) x1 ?_
          refine wpAnyH_take (i := 16) (v := undef) rfl (by kernel_rfl) (by kernel_rfl) (by kernel_rfl) (fun _ _ _ h => h) (.inr ⟨by kernel_rfl, rfl⟩) x1 ?_
          refine wpAnyH_take (i := 17) (v := .bool true) rfl (by kernel_rfl) (by kernel_rfl) (by kernel_rfl) (fun _ _ _ h => h) (.inl ⟨by kernel_rfl, fun W hW => by obtain ⟨q7, q4, q5, q6⟩ := hW; go_simp⟩) x1 ?_
          refine wpAnyH_take (i := 18) (v := .bool true) rfl (by kernel_rfl) (by kernel_rfl) (by kernel_rfl) (fun _ _ _ h => h) (.inl ⟨by kernel_rfl, fun W hW => by obtain ⟨q7, q4, q5, q6⟩ := hW; go_simp⟩) x1 ?_
          refine wpAnyH_take (i := 19) (v := .bool true) rfl (by kernel_rfl) (by kernel_rfl) (by kernel_rfl) (fun _ _ _ h => h) (.inl ⟨by kernel_rfl, fun W hW => by obtain ⟨q7, q4, q5, q6⟩ := hW; go_simp⟩) x1 ?_
          refine wpAnyH_take (i := 20) (v := .pointer (some ⟨pb, 5, none⟩)) rfl (by kernel_rfl) (by kernel_rfl) (by kernel_rfl) (fun _ _ _ h => h) (.inl ⟨by kernel_rfl, fun W hW => by obtain ⟨q7, q4, q5, q6⟩ := hW; go_simp⟩) x1 ?_
          refine wpAnyH_take (i := 21) (v := .string sn) rfl (by kernel_rfl) (by kernel_rfl) (by kernel_rfl) (fun _ _ _ h => h) (.inl ⟨by kernel_rfl, fun W hW => by obtain ⟨q7, q4, q5, q6⟩ := hW; go_simp⟩) x1 ?_
          refine wpAnyH_take (i := 22) (v := .func (.func 72) #[] #[.pointer (some ⟨pb, 0, none⟩)]) rfl (by kernel_rfl) (by kernel_rfl) (by kernel_rfl) (fun _ _ _ h => h) (.inl ⟨by kernel_rfl, fun W hW => by obtain ⟨q7, q4, q5, q6⟩ := hW; go_simp⟩) x1 ?_
          refine held_call (j := 23) _ (by kernel_rfl) rfl (by kernel_rfl) 72 #[.int .u8 2, .pointer (some ⟨pb, 0, none⟩)] (by kernel_rfl) (hh2 _ x1.1) ?_
          rintro e W23 ⟨rfl, rfl⟩
          refine ⟨_, rfl, x1, ?_⟩
          refine held_call (j := 24) _ (by kernel_rfl) rfl (by kernel_rfl) 73 #[.string sn, .bool b2] (by kernel_rfl) (ht2 _) ?_
          rintro e W24 ⟨rfl, rfl⟩
          refine ⟨_, rfl, x1, ?_⟩
          refine wpAnyH_take (i := 25) (v := .bool true) rfl (by kernel_rfl) (by kernel_rfl) (by kernel_rfl) (fun _ _ _ h => h) (.inl ⟨by kernel_rfl, fun W hW => by obtain ⟨q7, q4, q5, q6⟩ := hW; go_simp⟩) x1 ?_
          refine wpAnyH_take (i := 26) (v := .bool true) rfl (by kernel_rfl) (by kernel_rfl) (by kernel_rfl) (fun _ _ _ h => h) (.inl ⟨by kernel_rfl, fun W hW => by obtain ⟨q7, q4, q5, q6⟩ := hW; go_simp⟩) x1 ?_
          refine wpAnyH_take (i := 27) (v := .pointer (some ⟨pb, 6, none⟩)) rfl (by kernel_rfl) (by kernel_rfl) (by kernel_rfl) (fun _ _ _ h => h) (.inl ⟨by kernel_rfl, fun W hW => by obtain ⟨q7, q4, q5, q6⟩ := hW; go_simp⟩) x1 ?_
          refine wpAnyH_take (i := 28) (v := .string sc) rfl (by kernel_rfl) (by kernel_rfl) (by kernel_rfl) (fun _ _ _ h => h) (.inl ⟨by kernel_rfl, fun W hW => by obtain ⟨q7, q4, q5, q6⟩ := hW; go_simp⟩) x1 ?_
          refine wpAnyH_take (i := 29) (v := .func (.func 72) #[] #[.pointer (some ⟨pb, 0, none⟩)]) rfl (by kernel_rfl) (by kernel_rfl) (by kernel_rfl) (fun _ _ _ h => h) (.inl ⟨by kernel_rfl, fun W hW => by obtain ⟨q7, q4, q5, q6⟩ := hW; go_simp⟩) x1 ?_
          refine held_call (j := 30) _ (by kernel_rfl) rfl (by kernel_rfl) 72 #[.int .u8 4, .pointer (some ⟨pb, 0, none⟩)] (by kernel_rfl) (hh4 _ x1.1) ?_
          rintro e W30 ⟨rfl, rfl⟩
          refine ⟨_, rfl, x1, ?_⟩
          refine held_call (j := 31) _ (by kernel_rfl) rfl (by kernel_rfl) 73 #[.string sc, .bool b4] (by kernel_rfl) (hc2 _) ?_
          rintro e W31 ⟨rfl, rfl⟩
          refine ⟨_, rfl, x1, ?_⟩
          refine wpAnyH_take (i := 32) (v := .bool tc4) rfl (by kernel_rfl) (by kernel_rfl) (by kernel_rfl) (fun _ _ _ h => h) (.inl ⟨by kernel_rfl, fun W hW => by obtain ⟨q7, q4, q5, q6⟩ := hW; go_simp⟩) x1 ?_
          refine wpAnyH_take (i := 33) (v := .bool tc4) rfl (by kernel_rfl) (by kernel_rfl) (by kernel_rfl) (fun _ _ _ h => h) (.inl ⟨by kernel_rfl, fun W hW => by obtain ⟨q7, q4, q5, q6⟩ := hW; go_simp⟩) x1 ?_
          refine wpAnyH_done (by kernel_rfl) ?_ 0
          go_simp
          go_wp2
          go_ret
          exact ⟨by rw [← HT.out]; simp [*], by rw [hpb]; exact hb1⟩
        | false =>
          refine wpAnyH_take (i := 1) (v := .int .u8 (x : Int)) rfl (by kernel_rfl) (by kernel_rfl) (by kernel_rfl) (fun _ _ _ h => h) (.inl ⟨by kernel_rfl, fun W hW => by obtain ⟨q7, q4, q5, q6⟩ := hW; go_simp⟩) x1 ?_
          refine wpAnyH_take (i := 2) (v := .bool true) rfl (by kernel_rfl) (by kernel_rfl) (by kernel_rfl) (fun _ _ _ h => h) (.inl ⟨by kernel_rfl, fun W hW => by obtain ⟨q7, q4, q5, q6⟩ := hW; go_simp; first | done | omega | (simp; omega)⟩) x1 ?_
          refine wpAnyH_take (i := 3) (v := .bool true) rfl (by kernel_rfl) (by kernel_rfl) (by kernel_rfl) (fun _ _ _ h => h) (.inl ⟨by kernel_rfl, fun W hW => by obtain ⟨q7, q4, q5, q6⟩ := hW; go_simp⟩) x1 ?_
          refine wpAnyH_take (i := 4) (v := .pointer (some ⟨pb, 4, none⟩)) rfl (by kernel_rfl) (by kernel_rfl) (by kernel_rfl) (fun _ _ _ h => h) (.inl ⟨by kernel_rfl, fun W hW => by obtain ⟨q7, q4, q5, q6⟩ := hW; go_simp⟩) x1 ?_
          refine wpAnyH_take (i := 5) (v := .slice ea m ec) rfl (by kernel_rfl) (by kernel_rfl) (by kernel_rfl) (fun _ _ _ h => h) (.inl ⟨by kernel_rfl, fun W hW => by obtain ⟨q7, q4, q5, q6⟩ := hW; go_simp⟩) x1 ?_
          refine wpAnyH_take (i := 6) (v := .int .i64 (m : Int)) rfl (by kernel_rfl) (by kernel_rfl) (by kernel_rfl) (fun _ _ _ h => h) (.inl ⟨by kernel_rfl, fun W hW => by obtain ⟨q7, q4, q5, q6⟩ := hW; go_simp⟩) x1 ?_
          refine wpAnyH_take (i := 7) (v := .bool true) rfl (by kernel_rfl) (by kernel_rfl) (by kernel_rfl) (fun _ _ _ h => h) (.inl ⟨by kernel_rfl, fun W hW => by obtain ⟨q7, q4, q5, q6⟩ := hW; go_simp; first | done | omega | (simp; omega)⟩) x1 ?_
          refine wpAnyH_take (i := 8) (v := .bool true) rfl (by kernel_rfl) (by kernel_rfl) (by kernel_rfl) (fun _ _ _ h => h) (.inl ⟨by kernel_rfl, fun W hW => by obtain ⟨q7, q4, q5, q6⟩ := hW; go_simp⟩) x1 ?_
          refine wpAnyH_take (i := 9) (v := .bool true) rfl (by kernel_rfl) (by kernel_rfl) (by kernel_rfl) (fun _ _ _ h => h) (.inl ⟨by kernel_rfl, fun W hW => by obtain ⟨q7, q4, q5, q6⟩ := hW; go_simp⟩) x1 ?_
          refine wpAnyH_take (i := 10) (v := .func (.func 72) #[] #[.pointer (some ⟨pb, 0, none⟩)]) rfl (by kernel_rfl) (by kernel_rfl) (by kernel_rfl) (fun _ _ _ h => h) (.inl ⟨by kernel_rfl, fun W hW => by obtain ⟨q7, q4, q5, q6⟩ := hW; go_simp⟩) x1 ?_
          refine held_call (j := 11) _ (by kernel_rfl) rfl (by kernel_rfl) 72 #[.int .u8 1, .pointer (some ⟨pb, 0, none⟩)] (by kernel_rfl) (hh1 _ x1.1) ?_
          rintro e W11 ⟨rfl, rfl⟩
          refine ⟨_, rfl, x1, ?_⟩
          refine wpAnyH_take (i := 12) (v := .bool true) rfl (by kernel_rfl) (by kernel_rfl) (by kernel_rfl) (fun _ _ _ h => h) (.inl ⟨by kernel_rfl, fun W hW => by obtain ⟨q7, q4, q5, q6⟩ := hW; go_simp⟩) x1 ?_
          refine wpAnyH_take (i := 13) (v := undef) rfl (by kernel_rfl) (by kernel_rfl) (by kernel_rfl) (fun _ _ _ h => h) (.inr ⟨by kernel_rfl, rfl⟩) x1 ?_
          refine wpAnyH_take (i := 14) (v := undef) rfl (by kernel_rfl) (by kernel_rfl) (by kernel_rfl) (fun _ _ _ h => h) (.inr ⟨by kernel_rfl, rfl⟩) x1 ?_
          refine wpAnyH_take (i := 15) (v := undef) rfl (by kernel_rfl) (by kernel_rfl) (by kernel_rfl) (fun _ _ _ h => h) (.inr ⟨by kernel_rfl, rfl⟩) x1 ?_
          refine wpAnyH_take (i := 16) (v := undef) rfl (by kernel_rfl) (by kernel_rfl) (by kernel_rfl) (fun _ _ _ h => h) (.inr ⟨by kernel_rfl, rfl⟩) x1 ?_
          refine wpAnyH_take (i := 17) (v := .bool true) rfl (by kernel_rfl) (by kernel_rfl) (by kernel_rfl) (fun _ _ _ h => h) (.inl ⟨by kernel_rfl, fun W hW => by obtain ⟨q7, q4, q5, q6⟩ := hW; go_simp⟩) x1 ?_
          refine wpAnyH_take (i := 18) (v := .bool true) rfl (by kernel_rfl) (by kernel_rfl) (by kernel_rfl) (fun _ _ _ h => h) (.inl ⟨by kernel_rfl, fun W hW => by obtain ⟨q7, q4, q5, q6⟩ := hW; go_simp⟩) x1 ?_
          refine wpAnyH_take (i := 19) (v := .bool true) rfl (by kernel_rfl) (by kernel_rfl) (by kernel_rfl) (fun _ _ _ h => h) (.inl ⟨by kernel_rfl, fun W hW => by obtain ⟨q7, q4, q5, q6⟩ := hW; go_simp⟩) x1 ?_
          refine wpAnyH_take (i := 20) (v := .pointer (some ⟨pb, 5, none⟩)) rfl (by kernel_rfl) (by kernel_rfl) (by kernel_rfl) (fun _ _ _ h => h) (.inl ⟨by kernel_rfl, fun W hW => by obtain ⟨q7, q4, q5, q6⟩ := hW; go_simp⟩) x1 ?_
          refine wpAnyH_take (i := 21) (v := .string sn) rfl (by kernel_rfl) (by kernel_rfl) (by kernel_rfl) (fun _ _ _ h => h) (.inl ⟨by kernel_rfl, fun W hW => by obtain ⟨q7, q4, q5, q6⟩ := hW; go_simp⟩) x1 ?_
          refine wpAnyH_take (i := 22) (v := .func (.func 72) #[] #[.pointer (some ⟨pb, 0, none⟩)]) rfl (by kernel_rfl) (by kernel_rfl) (by kernel_rfl) (fun _ _ _ h => h) (.inl ⟨by kernel_rfl, fun W hW => by obtain ⟨q7, q4, q5, q6⟩ := hW; go_simp⟩) x1 ?_
          refine held_call (j := 23) _ (by kernel_rfl) rfl (by kernel_rfl) 72 #[.int .u8 2, .pointer (some ⟨pb, 0, none⟩)] (by kernel_rfl) (hh2 _ x1.1) ?_
          rintro e W23 ⟨rfl, rfl⟩
          refine ⟨_, rfl, x1, ?_⟩
          refine held_call (j := 24) _ (by kernel_rfl) rfl (by kernel_rfl) 73 #[.string sn, .bool b2] (by kernel_rfl) (ht2 _) ?_
          rintro e W24 ⟨rfl, rfl⟩
          refine ⟨_, rfl, x1, ?_⟩
          refine wpAnyH_take (i := 25) (v := .bool false) rfl (by kernel_rfl) (by kernel_rfl) (by kernel_rfl) (fun _ _ _ h => h) (.inl ⟨by kernel_rfl, fun W hW => by obtain ⟨q7, q4, q5, q6⟩ := hW; go_simp⟩) x1 ?_
          refine wpAnyH_take (i := 26) (v := .bool false) rfl (by kernel_rfl) (by kernel_rfl) (by kernel_rfl) (fun _ _ _ h => h) (.inl ⟨by kernel_rfl, fun W hW => by obtain ⟨q7, q4, q5, q6⟩ := hW; go_simp⟩) x1 ?_
          refine wpAnyH_take (i := 27) (v := undef) rfl (by kernel_rfl) (by kernel_rfl) (by kernel_rfl) (fun _ _ _ h => h) (.inr ⟨by kernel_rfl, rfl⟩) x1 ?_
          refine wpAnyH_take (i := 28) (v := undef) rfl (by kernel_rfl) (by kernel_rfl) (by kernel_rfl) (fun _ _ _ h => h) (.inr ⟨by kernel_rfl, rfl⟩) x1 ?_
          refine wpAnyH_take (i := 29) (v := undef) rfl (by kernel_rfl) (by kernel_rfl) (by kernel_rfl) (fun _ _ _ h => h) (.inr ⟨by kernel_rfl, rfl⟩) x1 ?_
          refine wpAnyH_take (i := 30) (v := undef) rfl (by kernel_rfl) (by kernel_rfl) (by kernel_rfl) (fun _ _ _ h => h) (.inr ⟨by kernel_rfl, rfl⟩) x1 ?_
          refine wpAnyH_take (i := 31) (v := undef) rfl (by kernel_rfl) (by kernel_rfl) (by kernel_rfl) (fun _ _ _ h => h) (.inr ⟨by kernel_rfl, rfl⟩) x1 ?_
          refine wpAnyH_take (i := 32) (v := .bool false) rfl (by kernel_rfl) (by kernel_rfl) (by kernel_rfl) (fun _ _ _ h => h) (.inl ⟨by kernel_rfl, fun W hW => by obtain ⟨q7, q4, q5, q6⟩ := hW; go_simp⟩) x1 ?_
          refine wpAnyH_take (i := 33) (v := .bool false) rfl (by kernel_rfl) (by kernel_rfl) (by kernel_rfl) (fun _ _ _ h => h) (.inl ⟨by kernel_rfl, fun W hW => by obtain ⟨q7, q4, q5, q6⟩ := hW; go_simp⟩) x1 ?_
          refine wpAnyH_done (by kernel_rfl) ?_ 0
          go_simp
          go_wp2
          go_ret
          exact ⟨by rw [← HT.out]; simp [*], by rw [hpb]; exact hb1⟩
      | false =>
        by_cases c3 : m = 0
        · cases tn2 with
          | true =>
            refine wpAnyH_take (i := 1) (v := .int .u8 (x : Int)) rfl (by kernel_rfl) (by kernel_rfl) (by kernel_rfl) (fun _ _ _ h => h) (.inl ⟨by kernel_rfl, fun W hW => by obtain ⟨q7, q4, q5, q6⟩ := hW; go_simp⟩) x1 ?_
            refine wpAnyH_take (i := 2) (v := .bool true) rfl (by kernel_rfl) (by kernel_rfl) (by kernel_rfl) (fun _ _ _ h => h) (.inl ⟨by kernel_rfl, fun W hW => by obtain ⟨q7, q4, q5, q6⟩ := hW; go_simp; first | done | omega | (simp; omega)⟩) x1 ?_
            refine wpAnyH_take (i := 3) (v := .bool true) rfl (by kernel_rfl) (by kernel_rfl) (by kernel_rfl) (fun _ _ _ h => h) (.inl ⟨by kernel_rfl, fun W hW => by obtain ⟨q7, q4, q5, q6⟩ := hW; go_simp⟩) x1 ?_
            refine wpAnyH_take (i := 4) (v := .pointer (some ⟨pb, 4, none⟩)) rfl (by kernel_rfl) (by kernel_rfl) (by kernel_rfl) (fun _ _ _ h => h) (.inl ⟨by kernel_rfl, fun W hW => by obtain ⟨q7, q4, q5, q6⟩ := hW; go_simp⟩) x1 ?_
            refine wpAnyH_take (i := 5) (v := .slice ea m ec) rfl (by kernel_rfl) (by kernel_rfl) (by kernel_rfl) (fun _ _ _ h => h) (.inl ⟨by kernel_rfl, fun W hW => by obtain ⟨q7, q4, q5, q6⟩ := hW; go_simp⟩) x1 ?_
            refine wpAnyH_take (i := 6) (v := .int .i64 (m : Int)) rfl (by kernel_rfl) (by kernel_rfl) (by kernel_rfl) (fun _ _ _ h => h) (.inl ⟨by kernel_rfl, fun W hW => by obtain ⟨q7, q4, q5, q6⟩ := hW; go_simp⟩) x1 ?_
            refine wpAnyH_take (i := 7) (v := .bool true) rfl (by kernel_rfl) (by kernel_rfl) (by kernel_rfl) (fun _ _ _ h => h) (.inl ⟨by kernel_rfl, fun W hW => by obtain ⟨q7, q4, q5, q6⟩ := hW; go_simp; first | done | omega | (simp; omega)⟩) x1 ?_
            refine wpAnyH_take (i := 8) (v := .bool true) rfl (by kernel_rfl) (by kernel_rfl) (by kernel_rfl) (fun _ _ _ h => h) (.inl ⟨by kernel_rfl, fun W hW => by obtain ⟨q7, q4, q5, q6⟩ := hW; go_simp⟩) x1 ?_
            refine wpAnyH_take (i := 9) (v := .bool true) rfl (by kernel_rfl) (by kernel_rfl) (by kernel_rfl) (fun _ _ _ h => h) (.inl ⟨by kernel_rfl, fun W hW => by obtain ⟨q7, q4, q5, q6⟩ := hW; go_simp⟩) x1 ?_
            refine wpAnyH_take (i := 10) (v := .func (.func 72) #[] #[.pointer (some ⟨pb, 0, none⟩)]) rfl (by kernel_rfl) (by kernel_rfl) (by kernel_rfl) (fun _ _ _ h => h) (.inl ⟨by kernel_rfl, fun W hW => by obtain ⟨q7, q4, q5, q6⟩ := hW; go_simp⟩) x1 ?_
            refine held_call (j := 11) _ (by kernel_rfl) rfl (by kernel_rfl) 72 #[.int .u8 1, .pointer (some ⟨pb, 0, none⟩)] (by kernel_rfl) (hh1 _ x1.1) ?_
            rintro e W11 ⟨rfl, rfl⟩
            refine ⟨_, rfl, x1, ?_⟩
            refine wpAnyH_take (i := 12) (v := .bool false) rfl (by kernel_rfl) (by kernel_rfl) (by kernel_rfl) (fun _ _ _ h => h) (.inl ⟨by kernel_rfl, fun W hW => by obtain ⟨q7, q4, q5, q6⟩ := hW; go_simp⟩) x1 ?_
            refine wpAnyH_take (i := 13) (v := .pointer (some ⟨pb, 4, none⟩)) rfl (by kernel_rfl) (by kernel_rfl) (by kernel_rfl) (fun _ _ _ h => h) (.inl ⟨by kernel_rfl, fun W hW => by obtain ⟨q7, q4, q5, q6⟩ := hW; go_simp⟩) x1 ?_
            refine wpAnyH_take (i := 14) (v := .slice ea m ec) rfl (by kernel_rfl) (by kernel_rfl) (by kernel_rfl) (fun _ _ _ h => h) (.inl ⟨by kernel_rfl, fun W hW => by obtain ⟨q7, q4, q5, q6⟩ := hW; go_simp⟩) x1 ?_
            refine wpAnyH_take (i := 15) (v := .int .i64 (m : Int)) rfl (by kernel_rfl) (by kernel_rfl) (by kernel_rfl) (fun _ _ _ h => h) (.inl ⟨by kernel_rfl, fun W hW => by obtain ⟨q7, q4, q5, q6⟩ := hW; go_simp⟩) x1 ?_
            refine wpAnyH_take (i := 16) (v := .bool true) rfl (by kernel_rfl) (by kernel_rfl) (by kernel_rfl) (fun _ _ _ h => h) (.inl ⟨by kernel_rfl, fun W hW => by obtain ⟨q7, q4, q5, q6⟩ := hW; go_simp; first | done | omega | (simp; omega)⟩) x1 ?_
            refine wpAnyH_take (i := 17) (v := .bool true) rfl (by kernel_rfl) (by kernel_rfl) (by kernel_rfl) (fun _ _ _ h => h) (.inl ⟨by kernel_rfl, fun W hW => by obtain ⟨q7, q4, q5, q6⟩ := hW; go_simp⟩) x1 ?_
            refine wpAnyH_take (i := 18) (v := .bool true) rfl (by kernel_rfl) (by kernel_rfl) (by kernel_rfl) (fun _ _ _ h => h) (.inl ⟨by kernel_rfl, fun W hW => by obtain ⟨q7, q4, q5, q6⟩ := hW; go_simp⟩) x1 ?_
            refine wpAnyH_take (i := 19) (v := .bool true) rfl (by kernel_rfl) (by kernel_rfl) (by kernel_rfl) (fun _ _ _ h => h) (.inl ⟨by kernel_rfl, fun W hW => by obtain ⟨q7, q4, q5, q6⟩ := hW; go_simp⟩) x1 ?_
            refine wpAnyH_take (i := 20) (v := .pointer (some ⟨pb, 5, none⟩)) rfl (by kernel_rfl) (by kernel_rfl) (by kernel_rfl) (fun _ _ _ h => h) (.inl ⟨by kernel_rfl, fun W hW => by obtain ⟨q7, q4, q5, q6⟩ := hW; go_simp⟩) x1 ?_
            refine wpAnyH_take (i := 21) (v := .string sn) rfl (by kernel_rfl) (by kernel_rfl) (by kernel_rfl) (fun _ _ _ h => h) (.inl ⟨by kernel_rfl, fun W hW => by obtain ⟨q7, q4, q5, q6⟩ := hW; go_simp⟩) x1 ?_
            refine wpAnyH_take (i := 22) (v := .func (.func 72) #[] #[.pointer (some ⟨pb, 0, none⟩)]) rfl (by kernel_rfl) (by kernel_rfl) (by kernel_rfl) (fun _ _ _ h => h) (.inl ⟨by kernel_rfl, fun W hW => by obtain ⟨q7, q4, q5, q6⟩ := hW; go_simp⟩) x1 ?_
            refine held_call (j := 23) _ (by kernel_rfl) rfl (by kernel_rfl) 72 #[.int .u8 2, .pointer (some ⟨pb, 0, none⟩)] (by kernel_rfl) (hh2 _ x1.1) ?_
            rintro e W23 ⟨rfl, rfl⟩
            refine ⟨_, rfl, x1, ?_⟩
            refine held_call (j := 24) _ (by kernel_rfl) rfl (by kernel_rfl) 73 #[.string sn, .bool b2] (by kernel_rfl) (ht2 _) ?_
            rintro e W24 ⟨rfl, rfl⟩
            refine ⟨_, rfl, x1, ?_⟩
            refine wpAnyH_take (i := 25) (v := .bool true) rfl (by kernel_rfl) (by kernel_rfl) (by kernel_rfl) (fun _ _ _ h => h) (.inl ⟨by kernel_rfl, fun W hW => by obtain ⟨q7, q4, q5, q6⟩ := hW; go_simp⟩) x1 ?_
            refine wpAnyH_take (i := 26) (v := .bool true) rfl (by kernel_rfl) (by kernel_rfl) (by kernel_rfl) (fun _ _ _ h => h) (.inl ⟨by kernel_rfl, fun W hW => by obtain ⟨q7, q4, q5, q6⟩ := hW; go_simp⟩) x1 ?_
            refine wpAnyH_take (i := 27) (v := .pointer (some ⟨pb, 6, none⟩)) rfl (by kernel_rfl) (by kernel_rfl) (by kernel_rfl) (fun _ _ _ h => h) (.inl ⟨by kernel_rfl, fun W hW => by obtain ⟨q7, q4, q5, q6⟩ := hW; go_simp⟩) x1 ?_
            refine wpAnyH_take (i := 28) (v := .string sc) rfl (by kernel_rfl) (by kernel_rfl) (by kernel_rfl) (fun _ _ _ h => h) (.inl ⟨by kernel_rfl, fun W hW => by obtain ⟨q7, q4, q5, q6⟩ := hW; go_simp⟩) x1 ?_
            refine wpAnyH_take (i := 29) (v := .func (.func 72) #[] #[.pointer (some ⟨pb, 0, none⟩)]) rfl (by kernel_rfl) (by kernel_rfl) (by kernel_rfl) (fun _ _ _ h => h) (.inl ⟨by kernel_rfl, fun W hW => by obtain ⟨q7, q4, q5, q6⟩ := hW; go_simp⟩) x1 ?_
            refine held_call (j := 30) _ (by kernel_rfl) rfl (by kernel_rfl) 72 #[.int .u8 4, .pointer (some ⟨pb, 0, none⟩)] (by kernel_rfl) (hh4 _ x1.1) ?_
            rintro e W30 ⟨rfl, rfl⟩
            refine ⟨_, rfl, x1, ?_⟩
            refine held_call (j := 31) _ (by kernel_rfl) rfl (by kernel_rfl) 73 #[.string sc, .bool b4] (by kernel_rfl) (hc2 _) ?_
            rintro e W31 ⟨rfl, rfl⟩
            refine ⟨_, rfl, x1, ?_⟩
            refine wpAnyH_take (i := 32) (v := .bool tc4) rfl (by kernel_rfl) (by kernel_rfl) (by kernel_rfl) (fun _ _ _ h => h) (.inl ⟨by kernel_rfl, fun W hW => by obtain ⟨q7, q4, q5, q6⟩ := hW; go_simp⟩) x1 ?_
            refine wpAnyH_take (i := 33) (v := .bool tc4) rfl (by kernel_rfl) (by kernel_rfl) (by kernel_rfl) (fun _ _ _ h => h) (.inl ⟨by kernel_rfl, fun W hW => by obtain ⟨q7, q4, q5, q6⟩ := hW; go_simp⟩) x1 ?_
            refine wpAnyH_done (by kernel_rfl) ?_ 0
            go_simp
            go_wp2
            go_ret
            exact ⟨by rw [← HT.out]; simp [*], by rw [hpb]; exact hb1⟩
          | false =>
            refine wpAnyH_take (i := 1) (v := .int .u8 (x : Int)) rfl (by kernel_rfl) (by kernel_rfl) (by kernel_rfl) (fun _ _ _ h => h) (.inl ⟨by kernel_rfl, fun W hW => by obtain ⟨q7, q4, q5, q6⟩ := hW; go_simp⟩) x1 ?_
            refine wpAnyH_take (i := 2) (v := .bool true) rfl (by kernel_rfl) (by kernel_rfl) (by kernel_rfl) (fun _ _ _ h => h) (.inl ⟨by kernel_rfl, fun W hW => by obtain ⟨q7, q4, q5, q6⟩ := hW; go_simp; first | done | omega | (simp; omega)⟩) x1 ?_
            refine wpAnyH_take (i := 3) (v := .bool true) rfl (by kernel_rfl) (by kernel_rfl) (by kernel_rfl) (fun _ _ _ h => h) (.inl ⟨by kernel_rfl, fun W hW => by obtain ⟨q7, q4, q5, q6⟩ := hW; go_simp⟩) x1 ?_
            refine wpAnyH_take (i := 4) (v := .pointer (some ⟨pb, 4, none⟩)) rfl (by kernel_rfl) (by kernel_rfl) (by kernel_rfl) (fun _ _ _ h => h) (.inl ⟨by kernel_rfl, fun W hW => by obtain ⟨q7, q4, q5, q6⟩ := hW; go_simp⟩) x1 ?_
            refine wpAnyH_take (i := 5) (v := .slice ea m ec) rfl (by kernel_rfl) (by kernel_rfl) (by kernel_rfl) (fun _ _ _ h => h) (.inl ⟨by kernel_rfl, fun W hW => by obtain ⟨q7, q4, q5, q6⟩ := hW; go_simp⟩) x1 ?_
            refine wpAnyH_take (i := 6) (v := .int .i64 (m : Int)) rfl (by kernel_rfl) (by kernel_rfl) (by kernel_rfl) (fun _ _ _ h => h) (.inl ⟨by kernel_rfl, fun W hW => by obtain ⟨q7, q4, q5, q6⟩ := hW; go_simp⟩) x1 ?_
            refine wpAnyH_take (i := 7) (v := .bool true) rfl (by kernel_rfl) (by kernel_rfl) (by kernel_rfl) (fun _ _ _ h => h) (.inl ⟨by kernel_rfl, fun W hW => by obtain ⟨q7, q4, q5, q6⟩ := hW; go_simp; first | done | omega | (simp; omega)⟩) x1 ?_
            refine wpAnyH_take (i := 8) (v := .bool true) rfl (by kernel_rfl) (by kernel_rfl) (by kernel_rfl) (fun _ _ _ h => h) (.inl ⟨by kernel_rfl, fun W hW => by obtain ⟨q7, q4, q5, q6⟩ := hW; go_simp⟩) x1 ?_
            refine wpAnyH_take (i := 9) (v := .bool true) rfl (by kernel_rfl) (by kernel_rfl) (by kernel_rfl) (fun _ _ _ h => h) (.inl ⟨by kernel_rfl, fun W hW => by obtain ⟨q7, q4, q5, q6⟩ := hW; go_simp⟩) x1 ?_
            refine wpAnyH_take (i := 10) (v := .func (.func 72) #[] #[.pointer (some ⟨pb, 0, none⟩)]) rfl (by kernel_rfl) (by kernel_rfl) (by kernel_rfl) (fun _ _ _ h => h) (.inl ⟨by kernel_rfl, fun W hW => by obtain ⟨q7, q4, q5, q6⟩ := hW; go_simp⟩) x1 ?_
            refine held_call (j := 11) _ (by kernel_rfl) rfl (by kernel_rfl) 72 #[.int .u8 1, .pointer (some ⟨pb, 0, none⟩)] (by kernel_rfl) (hh1 _ x1.1) ?_
            rintro e W11 ⟨rfl, rfl⟩
            refine ⟨_, rfl, x1, ?_⟩
            refine wpAnyH_take (i := 12) (v := .bool false) rfl (by kernel_rfl) (by kernel_rfl) (by kernel_rfl) (fun _ _ _ h => h) (.inl ⟨by kernel_rfl, fun W hW => by obtain ⟨q7, q4, q5, q6⟩ := hW; go_simp⟩) x1 ?_
            refine wpAnyH_take (i := 13) (v := .pointer (some ⟨pb, 4, none⟩)) rfl (by kernel_rfl) (by kernel_rfl) (by kernel_rfl) (fun _ _ _ h => h) (.inl ⟨by kernel_rfl, fun W hW => by obtain ⟨q7, q4, q5, q6⟩ := hW; go_simp⟩) x1 ?_
            refine wpAnyH_take (i := 14) (v := .slice ea m ec) rfl (by kernel_rfl) (by kernel_rfl) (by kernel_rfl) (fun _ _ _ h => h) (.inl ⟨by kernel_rfl, fun W hW => by obtain ⟨q7, q4, q5, q6⟩ := hW; go_simp⟩) x1 ?_
            refine wpAnyH_take (i := 15) (v := .int .i64 (m : Int)) rfl (by kernel_rfl) (by kernel_rfl) (by kernel_rfl) (fun _ _ _ h => h) (.inl ⟨by kernel_rfl, fun W hW => by obtain ⟨q7, q4, q5, q6⟩ := hW; go_simp⟩) x1 ?_
            refine wpAnyH_take (i := 16) (v := .bool true) rfl (by kernel_rfl) (by kernel_rfl) (by kernel_rfl) (fun _ _ _ h => h) (.inl ⟨by kernel_rfl, fun W hW => by obtain ⟨q7, q4, q5, q6⟩ := hW; go_simp; first | done | omega | (simp; omega)⟩) x1 ?_
            refine wpAnyH_take (i := 17) (v := .bool true) rfl (by kernel_rfl) (by kernel_rfl) (by kernel_rfl) (fun _ _ _ h => h) (.inl ⟨by kernel_rfl, fun W hW => by obtain ⟨q7, q4, q5, q6⟩ := hW; go_simp⟩) x1 ?_
            refine wpAnyH_take (i := 18) (v := .bool true) rfl (by kernel_rfl) (by kernel_rfl) (by kernel_rfl) (fun _ _ _ h => h) (.inl ⟨by kernel_rfl, fun W hW => by obtain ⟨q7, q4, q5, q6⟩ := hW; go_simp⟩) x1 ?_
            refine wpAnyH_take (i := 19) (v := .bool true) rfl (by kernel_rfl) (by kernel_rfl) (by kernel_rfl) (fun _ _ _ h => h) (.inl ⟨by kernel_rfl, fun W hW => by obtain ⟨q7, q4, q5, q6⟩ := hW; go_simp⟩) x1 ?_
            refine wpAnyH_take (i := 20) (v := .pointer (some ⟨pb, 5, none⟩)) rfl (by kernel_rfl) (by kernel_rfl) (by kernel_rfl) (fun _ _ _ h => h) (.inl ⟨by kernel_rfl, fun W hW => by obtain ⟨q7, q4, q5, q6⟩ := hW; go_simp⟩) x1 ?_
            refine wpAnyH_take (i := 21) (v := .string sn) rfl (by kernel_rfl) (by kernel_rfl) (by kernel_rfl) (fun _ _ _ h => h) (.inl ⟨by kernel_rfl, fun W hW => by obtain ⟨q7, q4, q5, q6⟩ := hW; go_simp⟩) x1 ?_
            refine wpAnyH_take (i := 22) (v := .func (.func 72) #[] #[.pointer (some ⟨pb, 0, none⟩)]) rfl (by kernel_rfl) (by kernel_rfl) (by kernel_rfl) (fun _ _ _ h => h) (.inl ⟨by kernel_rfl, fun W hW => by obtain ⟨q7, q4, q5, q6⟩ := hW; go_simp⟩) x1 ?_
            refine held_call (j := 23) _ (by kernel_rfl) rfl (by kernel_rfl) 72 #[.int .u8 2, .pointer (some ⟨pb, 0, none⟩)] (by kernel_rfl) (hh2 _ x1.1) ?_
            rintro e W23 ⟨rfl, rfl⟩
            refine ⟨_, rfl, x1, ?_⟩
            refine held_call (j := 24) _ (by kernel_rfl) rfl (by kernel_rfl) 73 #[.string sn, .bool b2] (by kernel_rfl) (ht2 _) ?_
            rintro e W24 ⟨rfl, rfl⟩
            refine ⟨_, rfl, x1, ?_⟩
            refine wpAnyH_take (i := 25) (v := .bool false) rfl (by kernel_rfl) (by kernel_rfl) (by kernel_rfl) (fun _ _ _ h => h) (.inl ⟨by kernel_rfl, fun W hW => by obtain ⟨q7, q4, q5, q6⟩ := hW; go_simp⟩) x1 ?_
            refine wpAnyH_take (i := 26) (v := .bool false) rfl (by kernel_rfl) (by kernel_rfl) (by kernel_rfl) (fun _ _ _ h => h) (.inl ⟨by kernel_rfl, fun W hW => by obtain ⟨q7, q4, q5, q6⟩ := hW; go_simp⟩) x1 ?_
            refine wpAnyH_take (i := 27) (v := undef) rfl (by kernel_rfl) (by kernel_rfl) (by kernel_rfl) (fun _ _ _ h => h) (.inr ⟨by kernel_rfl, rfl⟩) x1 ?_
            refine wpAnyH_take (i := 28) (v := undef) rfl (by kernel_rfl) (by kernel_rfl) (by kernel_rfl) (fun _ _ _ h => h) (.inr ⟨by kernel_rfl, rfl⟩) x1 ?_
            refine wpAnyH_take (i := 29) (v := undef) rfl (by kernel_rfl) (by kernel_rfl) (by kernel_rfl) (fun _ _ _ h => h) (.inr ⟨by kernel_rfl, rfl⟩) x1 ?_
            refine wpAnyH_take (i := 30) (v := undef) rfl (by kernel_rfl) (by kernel_rfl) (by kernel_rfl) (fun _ _ _ h => h) (.inr ⟨by kernel_rfl, rfl⟩) x1 ?_
            refine wpAnyH_take (i := 31) (v := undef) rfl (by kernel_rfl) (by kernel_rfl) (by kernel_rfl) (fun _ _ _ h => h) (.inr ⟨by kernel_rfl, rfl⟩) x1 ?_
            refine wpAnyH_take (i := 32) (v := .bool false) rfl (by kernel_rfl) (by kernel_rfl) (by kernel_rfl) (fun _ _ _ h => h) (.inl ⟨by kernel_rfl, fun W hW => by obtain ⟨q7, q4, q5, q6⟩ := hW; go_simp⟩) x1 ?_
            refine wpAnyH_take (i := 33) (v := .bool false) rfl (by kernel_rfl) (by kernel_rfl) (by kernel_rfl) (fun _ _ _ h => h) (.inl ⟨by kernel_rfl, fun W hW => by obtain ⟨q7, q4, q5, q6⟩ := hW; go_simp⟩) x1 ?_
            refine wpAnyH_done (by kernel_rfl) ?_ 0
            go_simp
            go_wp2
            go_ret
            exact ⟨by rw [← HT.out]; simp [*], by rw [hpb]; exact hb1⟩
        ·
          refine wpAnyH_take (i := 1) (v := .int .u8 (x : Int)) rfl (by kernel_rfl) (by kernel_rfl) (by kernel_rfl) (fun _ _ _ h => h) (.inl ⟨by kernel_rfl, fun W hW => by obtain ⟨q7, q4, q5, q6⟩ := hW; go_simp⟩) x1 ?_
          refine wpAnyH_take (i := 2) (v := .bool true) rfl (by kernel_rfl) (by kernel_rfl) (by kernel_rfl) (fun _ _ _ h => h) (.inl ⟨by kernel_rfl, fun W hW => by obtain ⟨q7, q4, q5, q6⟩ := hW; go_simp; first | done | omega | (simp; omega)⟩) x1 ?_
          refine wpAnyH_take (i := 3) (v := .bool true) rfl (by kernel_rfl) (by kernel_rfl) (by kernel_rfl) (fun _ _ _ h => h) (.inl ⟨by kernel_rfl, fun W hW => by obtain ⟨q7, q4, q5, q6⟩ := hW; go_simp⟩) x1 ?_
          refine wpAnyH_take (i := 4) (v := .pointer (some ⟨pb, 4, none⟩)) rfl (by kernel_rfl) (by kernel_rfl) (by kernel_rfl) (fun _ _ _ h => h) (.inl ⟨by kernel_rfl, fun W hW => by obtain ⟨q7, q4, q5, q6⟩ := hW; go_simp⟩) x1 ?_
          refine wpAnyH_take (i := 5) (v := .slice ea m ec) rfl (by kernel_rfl) (by kernel_rfl) (by kernel_rfl) (fun _ _ _ h => h) (.inl ⟨by kernel_rfl, fun W hW => by obtain ⟨q7, q4, q5, q6⟩ := hW; go_simp⟩) x1 ?_
          refine wpAnyH_take (i := 6) (v := .int .i64 (m : Int)) rfl (by kernel_rfl) (by kernel_rfl) (by kernel_rfl) (fun _ _ _ h => h) (.inl ⟨by kernel_rfl, fun W hW => by obtain ⟨q7, q4, q5, q6⟩ := hW; go_simp⟩) x1 ?_
          refine wpAnyH_take (i := 7) (v := .bool true) rfl (by kernel_rfl) (by kernel_rfl) (by kernel_rfl) (fun _ _ _ h => h) (.inl ⟨by kernel_rfl, fun W hW => by obtain ⟨q7, q4, q5, q6⟩ := hW; go_simp; first | done | omega | (simp; omega)⟩) x1 ?_
          refine wpAnyH_take (i := 8) (v := .bool true) rfl (by kernel_rfl) (by kernel_rfl) (by kernel_rfl) (fun _ _ _ h => h) (.inl ⟨by kernel_rfl, fun W hW => by obtain ⟨q7, q4, q5, q6⟩ := hW; go_simp⟩) x1 ?_
          refine wpAnyH_take (i := 9) (v := .bool true) rfl (by kernel_rfl) (by kernel_rfl) (by kernel_rfl) (fun _ _ _ h => h) (.inl ⟨by kernel_rfl, fun W hW => by obtain ⟨q7, q4, q5, q6⟩ := hW; go_simp⟩) x1 ?_
          refine wpAnyH_take (i := 10) (v := .func (.func 72) #[] #[.pointer (some ⟨pb, 0, none⟩)]) rfl (by kernel_rfl) (by kernel_rfl) (by kernel_rfl) (fun _ _ _ h => h) (.inl ⟨by kernel_rfl, fun W hW => by obtain ⟨q7, q4, q5, q6⟩ := hW; go_simp⟩) x1 ?_
          refine held_call (j := 11) _ (by kernel_rfl) rfl (by kernel_rfl) 72 #[.int .u8 1, .pointer (some ⟨pb, 0, none⟩)] (by kernel_rfl) (hh1 _ x1.1) ?_
          rintro e W11 ⟨rfl, rfl⟩
          refine ⟨_, rfl, x1, ?_⟩
          refine wpAnyH_take (i := 12) (v := .bool false) rfl (by kernel_rfl) (by kernel_rfl) (by kernel_rfl) (fun _ _ _ h => h) (.inl ⟨by kernel_rfl, fun W hW => by obtain ⟨q7, q4, q5, q6⟩ := hW; go_simp⟩) x1 ?_
          refine wpAnyH_take (i := 13) (v := .pointer (some ⟨pb, 4, none⟩)) rfl (by kernel_rfl) (by kernel_rfl) (by kernel_rfl) (fun _ _ _ h => h) (.inl ⟨by kernel_rfl, fun W hW => by obtain ⟨q7, q4, q5, q6⟩ := hW; go_simp⟩) x1 ?_
          refine wpAnyH_take (i := 14) (v := .slice ea m ec) rfl (by kernel_rfl) (by kernel_rfl) (by kernel_rfl) (fun _ _ _ h => h) (.inl ⟨by kernel_rfl, fun W hW => by obtain ⟨q7, q4, q5, q6⟩ := hW; go_simp⟩) x1 ?_
          refine wpAnyH_take (i := 15) (v := .int .i64 (m : Int)) rfl (by kernel_rfl) (by kernel_rfl) (by kernel_rfl) (fun _ _ _ h => h) (.inl ⟨by kernel_rfl, fun W hW => by obtain ⟨q7, q4, q5, q6⟩ := hW; go_simp⟩) x1 ?_
          refine wpAnyH_take (i := 16) (v := .bool false) rfl (by kernel_rfl) (by kernel_rfl) (by kernel_rfl) (fun _ _ _ h => h) (.inl ⟨by kernel_rfl, fun W hW => by obtain ⟨q7, q4, q5, q6⟩ := hW; go_simp; first | done | omega | (simp; omega)⟩) x1 ?_
          refine wpAnyH_take (i := 17) (v := .bool false) rfl (by kernel_rfl) (by kernel_rfl) (by kernel_rfl) (fun _ _ _ h => h) (.inl ⟨by kernel_rfl, fun W hW => by obtain ⟨q7, q4, q5, q6⟩ := hW; go_simp⟩) x1 ?_
          refine wpAnyH_take (i := 18) (v := .bool false) rfl (by kernel_rfl) (by kernel_rfl) (by kernel_rfl) (fun _ _ _ h => h) (.inl ⟨by kernel_rfl, fun W hW => by obtain ⟨q7, q4, q5, q6⟩ := hW; go_simp⟩) x1 ?_
          refine wpAnyH_take (i := 19) (v := .bool false) rfl (by kernel_rfl) (by kernel_rfl) (by kernel_rfl) (fun _ _ _ h => h) (.inl ⟨by kernel_rfl, fun W hW => by obtain ⟨q7, q4, q5, q6⟩ := hW; go_simp⟩) x1 ?_
          refine wpAnyH_take (i := 20) (v := undef) rfl (by kernel_rfl) (by kernel_rfl) (by kernel_rfl) (fun _ _ _ h => h) (.inr ⟨by kernel_rfl, rfl⟩) x1 ?_
          refine wpAnyH_take (i := 21) (v := undef) rfl (by kernel_rfl) (by kernel_rfl) (by kernel_rfl) (fun _ _ _ h => h) (.inr ⟨by kernel_rfl, rfl⟩) x1 ?_
          refine wpAnyH_take (i := 22) (v := undef) rfl (by kernel_rfl) (by kernel_rfl) (by kernel_rfl) (fun _ _ _ h => h) (.inr ⟨by kernel_rfl, rfl⟩) x1 ?_
          refine wpAnyH_take (i := 23) (v := undef) rfl (by kernel_rfl) (by kernel_rfl) (by kernel_rfl) (fun _ _ _ h => h) (.inr ⟨by kernel_rfl, rfl⟩) x1 ?_
          refine wpAnyH_take (i := 24) (v := undef) rfl (by kernel_rfl) (by kernel_rfl) (by kernel_rfl) (fun _ _ _ h => h) (.inr ⟨by kernel_rfl, rfl⟩) x1 ?_
          refine wpAnyH_take (i := 25) (v := .bool false) rfl (by kernel_rfl) (by kernel_rfl) (by kernel_rfl) (fun _ _ _ h => h) (.inl ⟨by kernel_rfl, fun W hW => by obtain ⟨q7, q4, q5, q6⟩ := hW; go_simp⟩) x1 ?_
          refine wpAnyH_take (i := 26) (v := .bool false) rfl (by kernel_rfl) (by kernel_rfl) (by kernel_rfl) (fun _ _ _ h => h) (.inl ⟨by kernel_rfl, fun W hW => by obtain ⟨q7, q4, q5, q6⟩ := hW; go_simp⟩) x1 ?_
          refine wpAnyH_take (i := 27) (v := undef) rfl (by kernel_rfl) (by kernel_rfl) (by kernel_rfl) (fun _ _ _ h => h) (.inr ⟨by kernel_rfl, rfl⟩) x1 ?_
          refine wpAnyH_take (i := 28) (v := undef) rfl (by kernel_rfl) (by kernel_rfl) (by kernel_rfl) (fun _ _ _ h => h) (.inr ⟨by kernel_rfl, rfl⟩) x1 ?_
          refine wpAnyH_take (i := 29) (v := undef) rfl (by kernel_rfl) (by kernel_rfl) (by kernel_rfl) (fun _ _ _ h => h) (.inr ⟨by kernel_rfl, rfl⟩) x1 ?_
          refine wpAnyH_take (i := 30) (v := undef) rfl (by kernel_rfl) (by kernel_rfl) (by kernel_rfl) (fun _ _ _ h => h) (.inr ⟨by kernel_rfl, rfl⟩) x1 ?_
          refine wpAnyH_take (i := 31) (v := undef) rfl (by kernel_rfl) (by kernel_rfl) (by kernel_rfl) (fun _ _ _ h => h) (.inr ⟨by kernel_rfl, rfl⟩) x1 ?_
          refine wpAnyH_take (i := 32) (v := .bool false) rfl (by kernel_rfl) (by kernel_rfl) (by kernel_rfl) (fun _ _ _ h => h) (.inl ⟨by kernel_rfl, fun W hW => by obtain ⟨q7, q4, q5, q6⟩ := hW; go_simp⟩) x1 ?_
          refine wpAnyH_take (i := 33) (v := .bool false) rfl (by kernel_rfl) (by kernel_rfl) (by kernel_rfl) (fun _ _ _ h => h) (.inl ⟨by kernel_rfl, fun W hW => by obtain ⟨q7, q4, q5, q6⟩ := hW; go_simp⟩) x1 ?_
          refine wpAnyH_done (by kernel_rfl) ?_ 0
          go_simp
          go_wp2
          go_ret
          exact ⟨by rw [← HT.out]; simp [*], by rw [hpb]; exact hb1⟩
    ·
      refine wpAnyH_take (i := 1) (v := .int .u8 (x : Int)) rfl (by kernel_rfl) (by kernel_rfl) (by kernel_rfl) (fun _ _ _ h => h) (.inl ⟨by kernel_rfl, fun W hW => by obtain ⟨q7, q4, q5, q6⟩ := hW; go_simp⟩) x1 ?_
      refine wpAnyH_take (i := 2) (v := .bool true) rfl (by kernel_rfl) (by kernel_rfl) (by kernel_rfl) (fun _ _ _ h => h) (.inl ⟨by kernel_rfl, fun W hW => by obtain ⟨q7, q4, q5, q6⟩ := hW; go_simp; first | done | omega | (simp; omega)⟩) x1 ?_
      refine wpAnyH_take (i := 3) (v := .bool true) rfl (by kernel_rfl) (by kernel_rfl) (by kernel_rfl) (fun _ _ _ h => h) (.inl ⟨by kernel_rfl, fun W hW => by obtain ⟨q7, q4, q5, q6⟩ := hW; go_simp⟩) x1 ?_
      refine wpAnyH_take (i := 4) (v := .pointer (some ⟨pb, 4, none⟩)) rfl (by kernel_rfl) (by kernel_rfl) (by kernel_rfl) (fun _ _ _ h => h) (.inl ⟨by kernel_rfl, fun W hW => by obtain ⟨q7, q4, q5, q6⟩ := hW; go_simp⟩) x1 ?_
      refine wpAnyH_take (i := 5) (v := .slice ea m ec) rfl (by kernel_rfl) (by kernel_rfl) (by kernel_rfl) (fun _ _ _ h => h) (.inl ⟨by kernel_rfl, fun W hW => by obtain ⟨q7, q4, q5, q6⟩ := hW; go_simp⟩) x1 ?_
      refine wpAnyH_take (i := 6) (v := .int .i64 (m : Int)) rfl (by kernel_rfl) (by kernel_rfl) (by kernel_rfl) (fun _ _ _ h => h) (.inl ⟨by kernel_rfl, fun W hW => by obtain ⟨q7, q4, q5, q6⟩ := hW; go_simp⟩) x1 ?_
      refine wpAnyH_take (i := 7) (v := .bool false) rfl (by kernel_rfl) (by kernel_rfl) (by kernel_rfl) (fun _ _ _ h => h) (.inl ⟨by kernel_rfl, fun W hW => by obtain ⟨q7, q4, q5, q6⟩ := hW; go_simp; first | done | omega | (simp; omega)⟩) x1 ?_
      refine wpAnyH_take (i := 8) (v := .bool false) rfl (by kernel_rfl) (by kernel_rfl) (by kernel_rfl) (fun _ _ _ h => h) (.inl ⟨by kernel_rfl, fun W hW => by obtain ⟨q7, q4, q5, q6⟩ := hW; go_simp⟩) x1 ?_
      refine wpAnyH_take (i := 9) (v := .bool false) rfl (by kernel_rfl) (by kernel_rfl) (by kernel_rfl) (fun _ _ _ h => h) (.inl ⟨by kernel_rfl, fun W hW => by obtain ⟨q7, q4, q5, q6⟩ := hW; go_simp⟩) x1 ?_
      refine wpAnyH_take (i := 10) (v := undef) rfl (by kernel_rfl) (by kernel_rfl) (by kernel_rfl) (fun _ _ _ h => h) (.inr ⟨by kernel_rfl, rfl⟩) x1 ?_
      refine wpAnyH_take (i := 11) (v := undef) rfl (by kernel_rfl) (by kernel_rfl) (by kernel_rfl) (fun _ _ _ h => h) (.inr ⟨by kernel_rfl, rfl⟩) x1 ?_
      refine wpAnyH_take (i := 12) (v := undef) rfl (by kernel_rfl) (by kernel_rfl) (by kernel_rfl) (fun _ _ _ h => h) (.inr ⟨by kernel_rfl, rfl⟩) x1 ?_
      refine wpAnyH_take (i := 13) (v := undef) rfl (by kernel_rfl) (by kernel_rfl) (by kernel_rfl) (fun _ _ _ h => h) (.inr ⟨by kernel_rfl, rfl⟩) x1 ?_
      refine wpAnyH_take (i := 14) (v := undef) rfl (by kernel_rfl) (by kernel_rfl) (by kernel_rfl) (fun _ _ _ h => h) (.inr ⟨by kernel_rfl, rfl⟩) x1 ?_
      refine wpAnyH_take (i := 15) (v := undef) rfl (by kernel_rfl) (by kernel_rfl) (by kernel_rfl) (fun _ _ _ h => h) (.inr ⟨by kernel_rfl, rfl⟩) x1 ?_
      refine wpAnyH_take (i := 16) (v := undef) rfl (by kernel_rfl) (by kernel_rfl) (by kernel_rfl) (fun _ _ _ h => h) (.inr ⟨by kernel_rfl, rfl⟩) x1 ?_
      refine wpAnyH_take (i := 17) (v := undef) rfl (by kernel_rfl) (by kernel_rfl) (by kernel_rfl) (fun _ _ _ h => h) (.inr ⟨by kernel_rfl, rfl⟩) x1 ?_
      refine wpAnyH_take (i := 18) (v := .bool false) rfl (by kernel_rfl) (by kernel_rfl) (by kernel_rfl) (fun _ _ _ h => h) (.inl ⟨by kernel_rfl, fun W hW => by obtain ⟨q7, q4, q5, q6⟩ := hW; go_simp⟩) x1 ?_
      refine wpAnyH_take (i := 19) (v := .bool false) rfl (by kernel_rfl) (by kernel_rfl) (by kernel_rfl) (fun _ _ _ h => h) (.inl ⟨by kernel_rfl, fun W hW => by obtain ⟨q7, q4, q5, q6⟩ := hW; go_simp⟩) x1 ?_
      refine wpAnyH_take (i := 20) (v := undef) rfl (by kernel_rfl) (by kernel_rfl) (by kernel_rfl) (fun _ _ _ h => h) (.inr ⟨by kernel_rfl, rfl⟩) x1 ?_
      refine wpAnyH_take (i := 21) (v := undef) rfl (by kernel_rfl) (by kernel_rfl) (by kernel_rfl) (fun _ _ _ h => h) (.inr ⟨by kernel_rfl, rfl⟩) x1 ?_
      refine wpAnyH_take (i := 22) (v := undef) rfl (by kernel_rfl) (by kernel_rfl) (by kernel_rfl) (fun _ _ _ h => h) (.inr ⟨by kernel_rfl, rfl⟩) x1 ?_
      refine wpAnyH_take (i := 23) (v := undef) rfl (by kernel_rfl) (by kernel_rfl) (by kernel_rfl) (fun _ _ _ h => h) (.inr ⟨by kernel_rfl, rfl⟩) x1 ?_
      refine wpAnyH_take (i := 24) (v := undef) rfl (by kernel_rfl) (by kernel_rfl) (by kernel_rfl) (fun _ _ _ h => h) (.inr ⟨by kernel_rfl, rfl⟩) x1 ?_
      refine wpAnyH_take (i := 25) (v := .bool false) rfl (by kernel_rfl) (by kernel_rfl) (by kernel_rfl) (fun _ _ _ h => h) (.inl ⟨by kernel_rfl, fun W hW => by obtain ⟨q7, q4, q5, q6⟩ := hW; go_simp⟩) x1 ?_
      refine wpAnyH_take (i := 26) (v := .bool false) rfl (by kernel_rfl) (by kernel_rfl) (by kernel_rfl) (fun _ _ _ h => h) (.inl ⟨by kernel_rfl, fun W hW => by obtain ⟨q7, q4, q5, q6⟩ := hW; go_simp⟩) x1 ?_
      refine wpAnyH_take (i := 27) (v := undef) rfl (by kernel_rfl) (by kernel_rfl) (by kernel_rfl) (fun _ _ _ h => h) (.inr ⟨by kernel_rfl, rfl⟩) x1 ?_
      refine wpAnyH_take (i := 28) (v := undef) rfl (by kernel_rfl) (by kernel_rfl) (by kernel_rfl) (fun _ _ _ h => h) (.inr ⟨by kernel_rfl, rfl⟩) x1 ?_
      refine wpAnyH_take (i := 29) (v := undef) rfl (by kernel_rfl) (by kernel_rfl) (by kernel_rfl) (fun _ _ _ h => h) (.inr ⟨by kernel_rfl, rfl⟩) x1 ?_
      refine wpAnyH_take (i := 30) (v := undef) rfl (by kernel_rfl) (by kernel_rfl) (by kernel_rfl) (fun _ _ _ h => h) (.inr ⟨by kernel_rfl, rfl⟩) x1 ?_
      refine wpAnyH_take (i := 31) (v := undef) rfl (by kernel_rfl) (by kernel_rfl) (by kernel_rfl) (fun _ _ _ h => h) (.inr ⟨by kernel_rfl, rfl⟩) x1 ?_
      refine wpAnyH_take (i := 32) (v := .bool false) rfl (by kernel_rfl) (by kernel_rfl) (by kernel_rfl) (fun _ _ _ h => h) (.inl ⟨by kernel_rfl, fun W hW => by obtain ⟨q7, q4, q5, q6⟩ := hW; go_simp⟩) x1 ?_
      refine wpAnyH_take (i := 33) (v := .bool false) rfl (by kernel_rfl) (by kernel_rfl) (by kernel_rfl) (fun _ _ _ h => h) (.inl ⟨by kernel_rfl, fun W hW => by obtain ⟨q7, q4, q5, q6⟩ := hW; go_simp⟩) x1 ?_
      refine wpAnyH_done (by kernel_rfl) ?_ 0
      go_simp
      go_wp2
      go_ret
      exact ⟨by rw [← HT.out]; simp [*], by rw [hpb]; exact hb1⟩
  ·
    refine wpAnyH_take (i := 1) (v := .int .u8 (x : Int)) rfl (by kernel_rfl) (by kernel_rfl) (by kernel_rfl) (fun _ _ _ h => h) (.inl ⟨by kernel_rfl, fun W hW => by obtain ⟨q7, q4, q5, q6⟩ := hW; go_simp⟩) x1 ?_
    refine wpAnyH_take (i := 2) (v := .bool false) rfl (by kernel_rfl) (by kernel_rfl) (by kernel_rfl) (fun _ _ _ h => h) (.inl ⟨by kernel_rfl, fun W hW => by obtain ⟨q7, q4, q5, q6⟩ := hW; go_simp; first | done | omega | (simp; omega)⟩) x1 ?_
    refine wpAnyH_take (i := 3) (v := .bool false) rfl (by kernel_rfl) (by kernel_rfl) (by kernel_rfl) (fun _ _ _ h => h) (.inl ⟨by kernel_rfl, fun W hW => by obtain ⟨q7, q4, q5, q6⟩ := hW; go_simp⟩) x1 ?_
    refine wpAnyH_take (i := 4) (v := undef) rfl (by kernel_rfl) (by kernel_rfl) (by kernel_rfl) (fun _ _ _ h => h) (.inr ⟨by kernel_rfl, rfl⟩) x1 ?_
    refine wpAnyH_take (i := 5) (v := undef) rfl (by kernel_rfl) (by kernel_rfl) (by kernel_rfl) (fun _ _ _ h => h) (.inr ⟨by kernel_rfl, rfl⟩) x1 ?_
    refine wpAnyH_take (i := 6) (v := undef) rfl (by kernel_rfl) (by kernel_rfl) (by kernel_rfl) (fun _ _ _ h => h) (.inr ⟨by kernel_rfl, rfl⟩) x1 ?_
    refine wpAnyH_take (i := 7) (v := undef) rfl (by kernel_rfl) (by kernel_rfl) (by kernel_rfl) (fun _ _ _ h => h) (.inr ⟨by kernel_rfl, rfl⟩) x1 ?_
    refine wpAnyH_take (i := 8) (v := .bool false) rfl (by kernel_rfl) (by kernel_rfl) (by kernel_rfl) (fun _ _ _ h => h) (.inl ⟨by kernel_rfl, fun W hW => by obtain ⟨q7, q4, q5, q6⟩ := hW; go_simp⟩) x1 ?_
    refine wpAnyH_take (i := 9) (v := .bool false) rfl (by kernel_rfl) (by kernel_rfl) (by kernel_rfl) (fun _ _ _ h => h) (.inl ⟨by kernel_rfl, fun W hW => by obtain ⟨q7, q4, q5, q6⟩ := hW; go_simp⟩) x1 ?_
    refine wpAnyH_take (i := 10) (v := undef) rfl (by kernel_rfl) (by kernel_rfl) (by kernel_rfl) (fun _ _ _ h => h) (.inr ⟨by kernel_rfl, rfl⟩) x1 ?_
    refine wpAnyH_take (i := 11) (v := undef) rfl (by kernel_rfl) (by kernel_rfl) (by kernel_rfl) (fun _ _ _ h => h) (.inr ⟨by kernel_rfl, rfl⟩) x1 ?_
    refine wpAnyH_take (i := 12) (v := undef) rfl (by kernel_rfl) (by kernel_rfl) (by kernel_rfl) (fun _ _ _ h => h) (.inr ⟨by kernel_rfl, rfl⟩) x1 ?_
    refine wpAnyH_take (i := 13) (v := undef) rfl (by kernel_rfl) (by kernel_rfl) (by kernel_rfl) (fun _ _ _ h => h) (.inr ⟨by kernel_rfl, rfl⟩) x1 ?_
    refine wpAnyH_take (i := 14) (v := undef) rfl (by kernel_rfl) (by kernel_rfl) (by kernel_rfl) (fun _ _ _ h => h) (.inr ⟨by kernel_rfl, rfl⟩) x1 ?_
    refine wpAnyH_take (i := 15) (v := undef) rfl (by kernel_rfl) (by kernel_rfl) (by kernel_rfl) (fun _ _ _ h => h) (.inr ⟨by kernel_rfl, rfl⟩) x1 ?_
    refine wpAnyH_take (i := 16) (v := undef) rfl (by kernel_rfl) (by kernel_rfl) (by kernel_rfl) (fun _ _ _ h => h) (.inr ⟨by kernel_rfl, rfl⟩) x1 ?_
    refine wpAnyH_take (i := 17) (v := undef) rfl (by kernel_rfl) (by kernel_rfl) (by kernel_rfl) (fun _ _ _ h => h) (.inr ⟨by kernel_rfl, rfl⟩) x1 ?_
    refine wpAnyH_take (i := 18) (v := .bool false) rfl (by kernel_rfl) (by kernel_rfl) (by kernel_rfl) (fun _ _ _ h => h) (.inl ⟨by kernel_rfl, fun W hW => by obtain ⟨q7, q4, q5, q6⟩ := hW; go_simp⟩) x1 ?_
    refine wpAnyH_take (i := 19) (v := .bool false) rfl (by kernel_rfl) (by kernel_rfl) (by kernel_rfl) (fun _ _ _ h => h) (.inl ⟨by kernel_rfl, fun W hW => by obtain ⟨q7, q4, q5, q6⟩ := hW; go_simp⟩) x1 ?_
    refine wpAnyH_take (i := 20) (v := undef) rfl (by kernel_rfl) (by kernel_rfl) (by kernel_rfl) (fun _ _ _ h => h) (.inr ⟨by kernel_rfl, rfl⟩) x1 ?_
    refine wpAnyH_take (i := 21) (v := undef) rfl (by kernel_rfl) (by kernel_rfl) (by kernel_rfl) (fun _ _ _ h => h) (.inr ⟨by kernel_rfl, rfl⟩) x1 ?_
    refine wpAnyH_take (i := 22) (v := undef) rfl (by kernel_rfl) (by kernel_rfl) (by kernel_rfl) (fun _ _ _ h => h) (.inr ⟨by kernel_rfl, rfl⟩) x1 ?_
    refine wpAnyH_take (i := 23) (v := undef) rfl (by kernel_rfl) (by kernel_rfl) (by kernel_rfl) (fun _ _ _ h => h) (.inr ⟨by kernel_rfl, rfl⟩) x1 ?_
    refine wpAnyH_take (i := 24) (v := undef) rfl (by kernel_rfl) (by kernel_rfl) (by kernel_rfl) (fun _ _ _ h => h) (.inr ⟨by kernel_rfl, rfl⟩) x1 ?_
    refine wpAnyH_take (i := 25) (v := .bool false) rfl (by kernel_rfl) (by kernel_rfl) (by kernel_rfl) (fun _ _ _ h => h) (.inl ⟨by kernel_rfl, fun W hW => by obtain ⟨q7, q4, q5, q6⟩ := hW; go_simp⟩) x1 ?_
    refine wpAnyH_take (i := 26) (v := .bool false) rfl (by kernel_rfl) (by kernel_rfl) (by kernel_rfl) (fun _ _ _ h => h) (.inl ⟨by kernel_rfl, fun W hW => by obtain ⟨q7, q4, q5, q6⟩ := hW; go_simp⟩) x1 ?_
    refine wpAnyH_take (i := 27) (v := undef) rfl (by kernel_rfl) (by kernel_rfl) (by kernel_rfl) (fun _ _ _ h => h) (.inr ⟨by kernel_rfl, rfl⟩) x1 ?_
    refine wpAnyH_take (i := 28) (v := undef) rfl (by kernel_rfl) (by kernel_rfl) (by kernel_rfl) (fun _ _ _ h => h) (.inr ⟨by kernel_rfl, rfl⟩) x1 ?_
    refine wpAnyH_take (i := 29) (v := undef) rfl (by kernel_rfl) (by kernel_rfl) (by kernel_rfl) (fun _ _ _ h => h) (.inr ⟨by kernel_rfl, rfl⟩) x1 ?_
    refine wpAnyH_take (i := 30) (v := undef) rfl (by kernel_rfl) (by kernel_rfl) (by kernel_rfl) (fun _ _ _ h => h) (.inr ⟨by kernel_rfl, rfl⟩) x1 ?_
    refine wpAnyH_take (i := 31) (v := undef) rfl (by kernel_rfl) (by kernel_rfl) (by kernel_rfl) (fun _ _ _ h => h) (.inr ⟨by kernel_rfl, rfl⟩) x1 ?_
    refine wpAnyH_take (i := 32) (v := .bool false) rfl (by kernel_rfl) (by kernel_rfl) (by kernel_rfl) (fun _ _ _ h => h) (.inl ⟨by kernel_rfl, fun W hW => by obtain ⟨q7, q4, q5, q6⟩ := hW; go_simp⟩) x1 ?_
    refine wpAnyH_take (i := 33) (v := .bool false) rfl (by kernel_rfl) (by kernel_rfl) (by kernel_rfl) (fun _ _ _ h => h) (.inl ⟨by kernel_rfl, fun W hW => by obtain ⟨q7, q4, q5, q6⟩ := hW; go_simp⟩) x1 ?_
    refine wpAnyH_done (by kernel_rfl) ?_ 0
    go_simp
    go_wp2
    go_ret
    exact ⟨by rw [← HT.out]; simp [*], by rw [hpb]; exact hb1⟩

end Go.Proofs.YtmcjbkfiipmgeaaGreat.Fr

/-
  Contracts of package frame: Put, Tail, Ends. No conditions but that rows are small.
-/
namespace Go.Proofs.YtmcjbkfiipmgeaaGreat.Fr
open Go.RowKit Crc

/-- The writer's fields, as they are laid. -/
abbrev lays (wb : Nat) : Array Value := #[.func (.func 43) #[.pointer (some ⟨wb, 0, none⟩)] #[], .func (.func 44) #[.pointer (some ⟨wb, 0, none⟩)] #[], .func (.func 45) #[.pointer (some ⟨wb, 0, none⟩)] #[], .func (.func 46) #[.pointer (some ⟨wb, 0, none⟩)] #[], .func (.func 47) #[.pointer (some ⟨wb, 0, none⟩)] #[], .func (.func 48) #[.pointer (some ⟨wb, 0, none⟩)] #[], .func (.func 49) #[.pointer (some ⟨wb, 0, none⟩)] #[], .func (.func 50) #[.pointer (some ⟨wb, 0, none⟩)] #[], .func (.func 51) #[.pointer (some ⟨wb, 0, none⟩)] #[]]

section
variable {B : Nat} {w0 w : World} {r : List Thing} {wb : Nat} {h : Gz} {ev : Value}

set_option maxRecDepth 100000 in
set_option maxHeartbeats 4000000 in
theorem put_st (st : St B w0 w r) (hf : Fits h) (hev : ∀ W, St B w0 W r → ByteRow W ev h.extra) (he : h.extra.length ≤ 1000000) (hn : h.name.length ≤ 1000000) (hc : h.comment.length ≤ 1000000) :
    Calls Tryz.prog 21 #[.agg (headC h ev)] w fun e w' => (may h = true ∧ ∃ v, e = .returned (.tuple #[v, .int .i64 0]) ∧ St B w0 w' (rowT 5 1 v (bytesOf h).length (u8s (bytesOf h)) :: r)) ∨
      (may h = false ∧ e = .returned (.tuple #[.slice none 0 0, .int .i64 5]) ∧ St B w0 w' r) := by
  obtain ⟨ea, ec, hev2, _⟩ := hev w st
  have s1 := st.newBox (headC h ev) 52
  have k0 : (w.alloc (.cells (headC h ev) 52)).cell? ⟨w.heap.size, 0, none⟩ = some (.bool h.text) := (St.boxAt s1 0).1
  have k1 : (w.alloc (.cells (headC h ev) 52)).cell? ⟨w.heap.size, 1, none⟩ = some (.int .u32 (h.time : Int)) := (St.boxAt s1 1).1
  have k2 : (w.alloc (.cells (headC h ev) 52)).cell? ⟨w.heap.size, 2, none⟩ = some (.int .u8 (h.xfl : Int)) := (St.boxAt s1 2).1
  have k3 : (w.alloc (.cells (headC h ev) 52)).cell? ⟨w.heap.size, 3, none⟩ = some (.int .u8 (h.os : Int)) := (St.boxAt s1 3).1
  have k4 : (w.alloc (.cells (headC h ev) 52)).cell? ⟨w.heap.size, 4, none⟩ = some ev := (St.boxAt s1 4).1
  have k5 : (w.alloc (.cells (headC h ev) 52)).cell? ⟨w.heap.size, 5, none⟩ = some (.string (strOf h.name)) := (St.boxAt s1 5).1
  have k6 : (w.alloc (.cells (headC h ev) 52)).cell? ⟨w.heap.size, 6, none⟩ = some (.string (strOf h.comment)) := (St.boxAt s1 6).1
  have k7 : (w.alloc (.cells (headC h ev) 52)).cell? ⟨w.heap.size, 7, none⟩ = some (.int .u8 (h.has : Int)) := (St.boxAt s1 7).1
  have k8 : (w.alloc (.cells (headC h ev) 52)).cell? ⟨w.heap.size, 8, none⟩ = some (.bool h.sum) := (St.boxAt s1 8).1
  have hmb := mayBe_any (w.alloc (.cells (headC h ev) 52)) h hf ea ec
  have HEV := Lib.hid hev2
  have HR := Lib.hid hev
  rw [← hev2] at hmb
  clear hev hev2
  go_enter Tryz.func21, Tryz.ntmps21
  go_wp2_with fail
  refine hmb.mono ?_
  rintro e w1 ⟨rfl, hb1⟩
  have s2 := s1.quiet hb1
  obtain ⟨pb, hpb⟩ : ∃ pb, w.heap.size = pb := ⟨_, rfl⟩
  rw [hpb] at s2
  clear hmb k0 k1 k2 k3 k4 k5 k6 k7 k8 s1 hb1
  cases hm : may h with
  | false =>
    go_wp2
    go_ret2
    exact .inr ⟨hm, rfl, s2.drop⟩
  | true =>
    obtain ⟨m1, m2, m3, ⟨m4, m5⟩, m6, m7⟩ := (may_iff h).1 hm
    have k0 : w1.cell? ⟨pb, 0, none⟩ = some (.bool h.text) := (St.boxAt s2 0).1
    have k1 : w1.cell? ⟨pb, 1, none⟩ = some (.int .u32 (h.time : Int)) := (St.boxAt s2 1).1
    have k2 : w1.cell? ⟨pb, 2, none⟩ = some (.int .u8 (h.xfl : Int)) := (St.boxAt s2 2).1
    have k3 : w1.cell? ⟨pb, 3, none⟩ = some (.int .u8 (h.os : Int)) := (St.boxAt s2 3).1
    have k4 : w1.cell? ⟨pb, 4, none⟩ = some ev := (St.boxAt s2 4).1
    have k5 : w1.cell? ⟨pb, 5, none⟩ = some (.string (strOf h.name)) := (St.boxAt s2 5).1
    have k6 : w1.cell? ⟨pb, 6, none⟩ = some (.string (strOf h.comment)) := (St.boxAt s2 6).1
    have k7 : w1.cell? ⟨pb, 7, none⟩ = some (.int .u8 (h.has : Int)) := (St.boxAt s2 7).1
    have k8 : w1.cell? ⟨pb, 8, none⟩ = some (.bool h.sum) := (St.boxAt s2 8).1
    have hmf : ∀ (fn : Fn) (first cap : Array Value) (w : World), (Instr.makeFunc fn first cap).run Tryz.prog w = .ok (.func fn first cap) w := fun _ _ _ _ => rfl
    have s3 := (s2.drop.addNil (e := 5) (size := 1)).newBox (wrtC h ev (.slice none 0 0)) 94
    have s4 := s3.newBox (lays w1.heap.size) 1
    rw [hpb]
    obtain ⟨wb, hwb⟩ : ∃ wb, w1.heap.size = wb := ⟨_, rfl⟩
    rw [show (w1.alloc (.cells (wrtC h ev (.slice none 0 0)) 94)).heap.size = w1.heap.size + 1 from by simp] at s4
    rw [hwb] at s4
    have h0 : Wst B w0 ((w1.alloc (.cells (wrtC h ev (.slice none 0 0)) 94)).alloc (.cells (lays wb) 1)) (boxT (wb + 1) (lays wb) 1 :: r) wb h ev (laid h 0) := ⟨_, s4.third.third⟩
    clear s2 s3 s4
    go_wp2
    try rw [hwb]
    clear k0 k1 k2 k3 k4 k5 k6 k7 k8 hmf
    generalize (w1.alloc (.cells (wrtC h ev (.slice none 0 0)) 94)).alloc (.cells (lays wb) 1) = w2 at *
    clear hwb
    have hlen := laid_len h
    go_loopw [6, 33] (fun lv iv wr => ∃ k : Nat, k ≤ 9 ∧ iv = .int .i64 (k : Int) ∧ Wst B w0 wr (boxT (wb + 1) (lays wb) 1 :: r) wb h ev (laid h k)) (fun _ iv _ => 9 - (intOf iv).toNat)
    case atStart => exact ⟨0, Nat.zero_le _, rfl, h0⟩
    case round =>
      clear h0
      obtain ⟨k, hk, rfl, h1⟩ := hrel
      have hlk := hlen k
      by_cases hlt : k < 9
      · have hc : ∀ j, wr.cell? ⟨wb + 1, j, none⟩ = (lays wb)[j]? := fun j => by obtain ⟨v, t⟩ := h1; exact (St.boxAt (t.third) j).1
        have hkk : k = 0 ∨ k = 1 ∨ k = 2 ∨ k = 3 ∨ k = 4 ∨ k = 5 ∨ k = 6 ∨ k = 7 ∨ k = 8 := by omega
        rcases hkk with rfl | rfl | rfl | rfl | rfl | rfl | rfl | rfl | rfl
        · have hcall := wmagic_st h1 (by omega)
          have ck : wr.cell? ⟨wb + 1, 0, none⟩ = some (.func (.func 43) #[.pointer (some ⟨wb, 0, none⟩)] #[]) := hc 0
          clear hc h1 hlen hlk
          go_wp2_with (go_at_call 43; refine hcall.mono ?_; rintro e w3 ⟨rfl, h2⟩)
          exact ⟨⟨1, by omega, rfl, h2⟩, by simp [intOf]⟩
        · have hcall := wflags_st h1 m1 (by omega)
          have ck : wr.cell? ⟨wb + 1, 1, none⟩ = some (.func (.func 44) #[.pointer (some ⟨wb, 0, none⟩)] #[]) := hc 1
          clear hc h1 hlen hlk
          go_wp2_with (go_at_call 44; refine hcall.mono ?_; rintro e w3 ⟨rfl, h2⟩)
          exact ⟨⟨2, by omega, rfl, h2⟩, by simp [intOf]⟩
        · have hcall := wtime_st h1 hf.time (by omega)
          have ck : wr.cell? ⟨wb + 1, 2, none⟩ = some (.func (.func 45) #[.pointer (some ⟨wb, 0, none⟩)] #[]) := hc 2
          clear hc h1 hlen hlk
          go_wp2_with (go_at_call 45; refine hcall.mono ?_; rintro e w3 ⟨rfl, h2⟩)
          exact ⟨⟨3, by omega, rfl, h2⟩, by simp [intOf]⟩
        · have hcall := wxfl_st h1 hf.xfl (by omega)
          have ck : wr.cell? ⟨wb + 1, 3, none⟩ = some (.func (.func 46) #[.pointer (some ⟨wb, 0, none⟩)] #[]) := hc 3
          clear hc h1 hlen hlk
          go_wp2_with (go_at_call 46; refine hcall.mono ?_; rintro e w3 ⟨rfl, h2⟩)
          exact ⟨⟨4, by omega, rfl, h2⟩, by simp [intOf]⟩
        · have hcall := wos_st h1 hf.os (by omega)
          have ck : wr.cell? ⟨wb + 1, 4, none⟩ = some (.func (.func 47) #[.pointer (some ⟨wb, 0, none⟩)] #[]) := hc 4
          clear hc h1 hlen hlk
          go_wp2_with (go_at_call 47; refine hcall.mono ?_; rintro e w3 ⟨rfl, h2⟩)
          exact ⟨⟨5, by omega, rfl, h2⟩, by simp [intOf]⟩
        · have hcall := wextra_st h1 (fun W t => HR.out W t.drop) m1 m2 (by omega)
          have ck : wr.cell? ⟨wb + 1, 5, none⟩ = some (.func (.func 48) #[.pointer (some ⟨wb, 0, none⟩)] #[]) := hc 5
          clear hc h1 hlen hlk
          go_wp2_with (go_at_call 48; refine hcall.mono ?_; rintro e w3 ⟨rfl, h2⟩)
          exact ⟨⟨6, by omega, rfl, h2⟩, by simp [intOf]⟩
        · have hcall := wname_st h1 m1 hf.name (by omega)
          have ck : wr.cell? ⟨wb + 1, 6, none⟩ = some (.func (.func 49) #[.pointer (some ⟨wb, 0, none⟩)] #[]) := hc 6
          clear hc h1 hlen hlk
          go_wp2_with (go_at_call 49; refine hcall.mono ?_; rintro e w3 ⟨rfl, h2⟩)
          exact ⟨⟨7, by omega, rfl, h2⟩, by simp [intOf]⟩
        · have hcall := wcomment_st h1 m1 hf.comment (by omega)
          have ck : wr.cell? ⟨wb + 1, 7, none⟩ = some (.func (.func 50) #[.pointer (some ⟨wb, 0, none⟩)] #[]) := hc 7
          clear hc h1 hlen hlk
          go_wp2_with (go_at_call 50; refine hcall.mono ?_; rintro e w3 ⟨rfl, h2⟩)
          exact ⟨⟨8, by omega, rfl, h2⟩, by simp [intOf]⟩
        · have hcall := wsum_st h1 (laid_byte hf m1 8) (by omega)
          have ck : wr.cell? ⟨wb + 1, 8, none⟩ = some (.func (.func 51) #[.pointer (some ⟨wb, 0, none⟩)] #[]) := hc 8
          clear hc h1 hlen hlk
          go_wp2_with (go_at_call 51; refine hcall.mono ?_; rintro e w3 ⟨rfl, h2⟩)
          exact ⟨⟨9, by omega, rfl, h2⟩, by simp [intOf]⟩
      · obtain rfl : k = 9 := by omega
        obtain ⟨v, s5⟩ := h1
        obtain ⟨a, c, rfl⟩ := ownsRow_slice s5.swap.row
        have k9 : wr.cell? ⟨wb, 9, none⟩ = some (.slice a (laid h 9).length c) := (St.boxAt s5 9).1
        have s6 := s5.drop.swap.drop
        clear s5 hlen hlk
        go_wp2
        go_ret2
        exact .inl ⟨hm, _, rfl, s6⟩

end
end Go.Proofs.YtmcjbkfiipmgeaaGreat.Fr

/-
  Contracts of package frame: Tail, Ends. No conditions but that rows are small.
-/
namespace Go.Proofs.YtmcjbkfiipmgeaaGreat.Fr
open Go.RowKit Crc

/-- A tail. -/
def tailOf (xs : List Nat) : List Nat := le 4 (lowSum xs) ++ le 4 xs.length

theorem tailOf_length (xs : List Nat) : (tailOf xs).length = 8 := by unfold tailOf; rw [List.length_append, le_length, le_length]

theorem tailOf_byte (xs : List Nat) : ∀ x ∈ tailOf xs, x < 256 := fun x hx => (List.mem_append.1 hx).elim (le_byte _ _ x) (le_byte _ _ x)

set_option maxRecDepth 100000 in
theorem equal_any (w : World) (v u : Value) (xs ys : List Nat) (hv : ByteRow w v xs) (hu : ByteRow w u ys) :
    Calls Tryz.prog 123 #[v, u] w fun e w' => e = .returned (.bool (decide (xs = ys))) ∧ w' = w := by
  have c1 := run_string _ _ _ hv.reads
  have c2 := run_string _ _ _ hu.reads
  have hs := strOf_eq hv.byte hu.byte
  obtain ⟨a, c, rfl, -⟩ := hv
  obtain ⟨a', c', rfl, -⟩ := hu
  rw [show decide (xs = ys) = decide ((strOf xs).toList = (strOf ys).toList) from decide_eq_decide.2 (by rw [str_list]; exact hs.symm)]
  generalize strOf xs = s1 at *
  generalize strOf ys = s2 at *
  clear hs
  go_enter Tryz.func123, Tryz.ntmps123
  go_wp2
  go_ret
  refine ⟨?_, rfl⟩
  have he : (s1.toList == s2.toList) = decide (s1.toList = s2.toList) := by rw [Bool.eq_iff_iff]; simp
  rw [← he]
  rfl

section
variable {B : Nat} {w0 w : World} {r : List Thing}

set_option maxRecDepth 100000 in
set_option maxHeartbeats 1000000 in
theorem tail_st (st : St B w0 w r) (v : Value) (xs : List Nat) (hv : ∀ W, St B w0 W r → ByteRow W v xs) (hx : xs.length ≤ 80000000) :
    Calls Tryz.prog 52 #[v] w fun e w' => ∃ v', e = .returned v' ∧ St B w0 w' (rowT 5 1 v' 8 (u8s (tailOf xs)) :: r) := by
  have HV := Lib.hid hv
  obtain ⟨a, c, rfl, -⟩ := hv w st
  clear hv
  have h0 : Wst B w0 (w.alloc (.cells (wrtC Gz.nil (.slice none 0 0) (.slice none 0 0)) 94)) r w.heap.size Gz.nil (.slice none 0 0) [] := ⟨_, (st.addNil (e := 5) (size := 1)).newBox (wrtC Gz.nil (.slice none 0 0) (.slice none 0 0)) 94⟩
  have hlow : Calls Tryz.prog 76 #[.slice a xs.length c] (w.alloc (.cells (wrtC Gz.nil (.slice none 0 0) (.slice none 0 0)) 94)) fun e w' => e = .returned (.int .u32 (lowSum xs : Int)) ∧ Wst B w0 w' r w.heap.size Gz.nil (.slice none 0 0) [] := by
    obtain ⟨v, t⟩ := h0
    exact (low_st t (HV.out _ t.drop.drop) (by omega)).mono fun e w' ⟨h1, h2, _⟩ => ⟨h1, v, h2⟩
  have hlt : lowSum xs < 4294967296 := (lowReg xs ^^^ ones).isLt
  have hT : [] ++ le 4 (lowSum xs) ++ le 4 xs.length = tailOf xs := rfl
  have HT := Lib.hid hT
  clear hT
  generalize lowSum xs = S at *
  clear h0 st
  go_enter Tryz.func52, Tryz.ntmps52
  go_wp2_with fail
  refine hlow.mono ?_
  rintro e w1 ⟨rfl, s1⟩
  obtain ⟨wb, hwb⟩ : ∃ wb, wb = w.heap.size := ⟨_, rfl⟩
  rw [← hwb] at s1
  clear hlow
  go_wp2_with fail
  rw [← hwb]
  clear hwb
  refine (wnumber_st s1 S 4 hlt (by omega) (by simp)).mono ?_
  rintro e w2 ⟨rfl, s2⟩
  have hn2 := wnumber_st s2 xs.length 4 (by omega) (by omega) (by rw [List.length_append, le_length]; simp)
  rw [HT.out] at hn2
  clear s1 s2
  go_wp2_with fail
  refine hn2.mono ?_
  rintro e w3 ⟨rfl, v3, s3⟩
  rw [tailOf_length] at s3
  obtain ⟨a3, c3, rfl⟩ := ownsRow_slice s3.swap.row
  have k9 : w3.cell? ⟨wb, 9, none⟩ = some (.slice a3 8 c3) := (St.boxAt s3 9).1
  have s4 := s3.drop
  clear hn2 s3
  go_wp2
  go_ret
  exact ⟨_, rfl, s4⟩

set_option maxRecDepth 100000 in
set_option maxHeartbeats 1000000 in
theorem ends_st (st : St B w0 w r) (v u : Value) (xs ys : List Nat) (hv : ∀ W, St B w0 W r → ByteRow W v xs) (hu : ∀ W, St B w0 W r → ByteRow W u ys) (hx : xs.length ≤ 80000000) :
    Calls Tryz.prog 92 #[v, u] w fun e w' => e = .returned (.bool (decide (tailOf xs = ys))) ∧ St B w0 w' r := by
  have ht := tail_st st v xs hv hx
  have HU := Lib.hid hu
  obtain ⟨a, c, rfl, -⟩ := hv w st
  obtain ⟨a', c', rfl, -⟩ := hu w st
  clear hv hu
  go_enter Tryz.func92, Tryz.ntmps92
  go_wp2_with (go_at_call 52; refine ht.mono ?_; rintro e w1 ⟨v1, rfl, s1⟩)
  have he := equal_any w1 v1 _ (tailOf xs) ys (byteRow_owns (by rw [tailOf_length]; exact s1.row) (tailOf_byte xs)) (HU.out _ s1.drop)
  obtain ⟨a1, c1, rfl⟩ := ownsRow_slice s1.row
  have s2 := s1.drop
  clear ht s1
  go_wp2_with (go_at_call 123; refine he.mono ?_; rintro e w2 ⟨rfl, rfl⟩)
  go_ret
  exact ⟨rfl, s2⟩

end
end Go.Proofs.YtmcjbkfiipmgeaaGreat.Fr
