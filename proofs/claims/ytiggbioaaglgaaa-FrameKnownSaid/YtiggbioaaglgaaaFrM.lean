/-
  Contracts of package frame: whether a head may be (mayBe). No conditions.
-/
import Derived.Test.YtiggbioaaglgaaaFrD
namespace Go.Proofs.Ytiggbioaaglgaaa.Fr
open Go.RowKit Crc

theorem may_split (h : Gz) : may h = (decide (h.has < 8) && decide (h.extra.length ≤ 65535) && (decide (h.has / 1 % 2 = 1) || decide (h.extra.length = 0)) && textOk h.name (decide (h.has / 2 % 2 = 1)) && textOk h.comment (decide (h.has / 4 % 2 = 1))) := by
  have e : decide (h.extra = []) = decide (h.extra.length = 0) := decide_eq_decide.2 List.length_eq_zero_iff.symm
  unfold may textOk
  rw [Nat.div_one, e]

theorem held_call {P : Program} {ops : Array Oper} {Q : Exit → Act → World → Prop} {md : Region.Mode} {S : World → Prop} {j : Nat} (oj : Oper) {fuel : Nat} {listed : Array Bool} {a : Act} {w : World} (hr : Region.ready md ops listed = [j]) (hj : ops[j]? = some oj)
    (hw : Region.wanted oj (yielded ops a.tmps) = true) (f : FuncId) (args : Array Value) (hrun : (execOp a.eval oj).run P w = .ok (.enter f args) w) {Post : Ending → World → Prop} (hc : Calls P f args w Post)
    (h : ∀ e w', Post e w' → ∃ v, e = .returned v ∧ S w' ∧ wpAnyH P md ops Q S fuel (listed.setIfInBounds j true) (a.put oj.dst v) w') : wpAnyH P md ops Q S (fuel + 1) listed a w :=
  held_step oj hr hj fun N hN => by
    unfold wpList
    rw [if_pos hw]
    left
    unfold Oper.wp
    rw [hrun, Oper.upon_enter]
    refine hc.mono fun e w'' hh => ?_
    obtain ⟨v, rfl, h1, h2⟩ := h _ _ hh
    exact hN _ _ h1 h2

set_option maxRecDepth 100000 in
set_option maxHeartbeats 4000000 in
theorem mayBe_any (w : World) (h : Gz) (hf : Fits h) (ea : Option Addr) (ec : Nat) :
    Calls Try.prog 21 #[.agg (headC h (.slice ea h.extra.length ec))] w fun e w' => e = .returned (.bool (may h)) ∧ Below w.heap.size w w' := by
  rw [may_split]
  have hb1 := (below_alloc w (.cells (headC h (.slice ea h.extra.length ec)) 25)).drew
  have x1 : (w.alloc (.cells (headC h (.slice ea h.extra.length ec)) 25)).drew.cell? ⟨w.heap.size, 7, none⟩ = some (.int .u8 (h.has : Int)) ∧ (w.alloc (.cells (headC h (.slice ea h.extra.length ec)) 25)).drew.cell? ⟨w.heap.size, 4, none⟩ = some (.slice ea h.extra.length ec) ∧
      (w.alloc (.cells (headC h (.slice ea h.extra.length ec)) 25)).drew.cell? ⟨w.heap.size, 5, none⟩ = some (.string (strOf h.name)) ∧ (w.alloc (.cells (headC h (.slice ea h.extra.length ec)) 25)).drew.cell? ⟨w.heap.size, 6, none⟩ = some (.string (strOf h.comment)) := by
    refine ⟨?_, ?_, ?_, ?_⟩
    · exact (cell_of_row _ w.heap.size 7 _ _ (0, 0) (heap_alloc_new w _)).trans rfl
    · exact (cell_of_row _ w.heap.size 4 _ _ (0, 0) (heap_alloc_new w _)).trans rfl
    · exact (cell_of_row _ w.heap.size 5 _ _ (0, 0) (heap_alloc_new w _)).trans rfl
    · exact (cell_of_row _ w.heap.size 6 _ _ (0, 0) (heap_alloc_new w _)).trans rfl
  have hh1 := fun W => has_any W w.heap.size h.has 1 hf.has (.inl rfl)
  have hh2 := fun W => has_any W w.heap.size h.has 2 hf.has (.inr (.inl rfl))
  have hh4 := fun W => has_any W w.heap.size h.has 4 hf.has (.inr (.inr rfl))
  have ht := fun W b => mayText_any W h.name b hf.name
  have hc := fun W b => mayText_any W h.comment b hf.comment
  obtain ⟨T, hT⟩ : ∃ T, (decide (h.has < 8) && decide (h.extra.length ≤ 65535) && (decide (h.has / 1 % 2 = 1) || decide (h.extra.length = 0)) && textOk h.name (decide (h.has / 2 % 2 = 1)) && textOk h.comment (decide (h.has / 4 % 2 = 1))) = T := ⟨_, rfl⟩
  rw [hT]
  go_enter Try.func21, Try.ntmps21
  go_wp2
  refine region_seg (by kernel_rfl) [0] 33 rfl (by kernel_rfl) (by kernel_rfl) (fun _ _ d _ _ h => by cases d <;> exact h) ?_
  generalize (w.alloc (.cells (headC h (.slice ea h.extra.length ec)) 25)).drew = w1 at *
  generalize hpb : w.heap.size = pb at *
  clear hf
  generalize textOk h.name = tn at *
  generalize textOk h.comment = tc at *
  generalize strOf h.name = sn at *
  generalize strOf h.comment = sc at *
  generalize h.extra.length = m at *
  generalize decide (h.has / 1 % 2 = 1) = b1 at *
  generalize decide (h.has / 2 % 2 = 1) = b2 at *
  generalize decide (h.has / 4 % 2 = 1) = b4 at *
  generalize h.has = x at *
  have HT := Lib.hid hT
  have ht2 := fun W => ht W b2
  have hc2 := fun W => hc W b4
  clear hT ht hc
  obtain ⟨tn2, htn⟩ : ∃ t, tn b2 = t := ⟨_, rfl⟩
  obtain ⟨tc4, htc⟩ : ∃ t, tc b4 = t := ⟨_, rfl⟩
  rw [htn, htc] at HT
  rw [htn] at ht2
  rw [htc] at hc2
  clear htn htc
  intro K hK
  simp only [pickL, List.getElem?_cons_zero]
  go_wp2_with fail
  try clear hK K
  refine wpAny_of_held (S := fun W => W.cell? ⟨pb, 7, none⟩ = some (.int .u8 (x : Int)) ∧ W.cell? ⟨pb, 4, none⟩ = some (.slice ea m ec) ∧ W.cell? ⟨pb, 5, none⟩ = some (.string sn) ∧ W.cell? ⟨pb, 6, none⟩ = some (.string sc)) _ _ _ _ ?_
  by_cases c1 : x < 8
  · by_cases c2 : m ≤ 65535
    · cases b1 with
      | true =>
        cases tn2 with
        | true =>
          refine wpAnyH_take (i := 1) (v := .int .u8 (x : Int)) rfl (by kernel_rfl) (by kernel_rfl) (by kernel_rfl) (fun _ _ _ h => h) (.inl ⟨by kernel_rfl, fun W hW => by obtain ⟨q7, q4, q5, q6⟩ := hW; go_simp⟩) x1 ?_
          refine wpAnyH_take (i := 2) (v := .bool true) rfl (by kernel_rfl) (by kernel_rfl) (by kernel_rfl) (fun _ _ _ h => h) (.inl ⟨by kernel_rfl, fun W hW => by obtain ⟨q7, q4, q5, q6⟩ := hW; go_simp; first | done | omega | (simp; omega)⟩) x1 ?_
          refine wpAnyH_take (i := 3) (v := .bool true) rfl (by kernel_rfl) (by kernel_rfl) (by kernel_rfl) (fun _ _ _ h => h) (.inl ⟨by kernel_rfl, fun W hW => by obtain ⟨q7, q4, q5, q6⟩ := hW; go_simp⟩) x1 ?_
          refine wpAnyH_take (i := 4) (v := .pointer (some ⟨pb, 4, none⟩)) rfl (by kernel_rfl) (by kernel_rfl) (by kernel_rfl) (fun _ _ _ h => h) (.inl ⟨by kernel_rfl, fun W hW => by obtain ⟨q7, q4, q5, q6⟩ := hW; go_simp⟩) x1 ?_
          refine wpAnyH_take (i := 5) (v := .slice ea m ec) rfl (by kernel_rfl) (by kernel_rfl) (by kernel_rfl) (fun _ _ _ h => h) (.inl ⟨by kernel_rfl, fun W hW => by obtain ⟨q7, q4, q5, q6⟩ := hW; go_simp⟩) x1 ?_
          refine wpAnyH_take (i := 6) (v := .int .i64 (m : Int)) rfl (by kernel_rfl) (by kernel_rfl) (by kernel_rfl) (fun _ _ _ h => h) (.inl ⟨by kernel_rfl, fun W hW => by obtain ⟨q7, q4, q5, q6⟩ := hW; go_simp⟩) x1 ?_
          refine wpAnyH_take (i := 7) (v := .bool true) rfl (by kernel_rfl) (by kernel_rfl) (by kernel_rfl) (fun _ _ _ h => h) (.inl ⟨by kernel_rfl, fun W hW => by obtain ⟨q7, q4, q5, q6⟩ := hW; go_simp; first | done | omega | (simp; omega)⟩) x1 ?_
          refine wpAnyH_take (i := 8) (v := .bool true) rfl (by kernel_rfl) (by kernel_rfl) (by kernel_rfl) (fun _ _ _ h => h) (.inl ⟨by kernel_rfl, fun W hW => by obtain ⟨q7, q4, q5, q6⟩ := hW; go_simp⟩) x1 ?_
          refine wpAnyH_take (i := 9) (v := .bool true) rfl (by kernel_rfl) (by kernel_rfl) (by kernel_rfl) (fun _ _ _ h => h) (.inl ⟨by kernel_rfl, fun W hW => by obtain ⟨q7, q4, q5, q6⟩ := hW; go_simp⟩) x1 ?_
          refine wpAnyH_take (i := 10) (v := .func (.func 49) #[] #[.pointer (some ⟨pb, 0, none⟩)]) rfl (by kernel_rfl) (by kernel_rfl) (by kernel_rfl) (fun _ _ _ h => h) (.inl ⟨by kernel_rfl, fun W hW => by obtain ⟨q7, q4, q5, q6⟩ := hW; go_simp⟩) x1 ?_
          refine held_call (j := 11) _ (by kernel_rfl) rfl (by kernel_rfl) 49 #[.int .u8 1, .pointer (some ⟨pb, 0, none⟩)] (by kernel_rfl) (hh1 _ x1.1) ?_
          rintro e W11 ⟨rfl, rfl⟩
          refine ⟨_, rfl, x1, ?_⟩
          refine wpAnyH_take (i := 12) (v := .bool true) rfl (by kernel_rfl) (by kernel_rfl) (by kernel_rfl) (fun _ _ _ h => h) (.inl ⟨by kernel_rfl, fun W hW => by obtain ⟨q7, q4, q5, q6⟩ := hW; go_simp⟩) x1 ?_
          refine wpAnyH_take (i := 13) (v := undef) rfl (by kernel_rfl) (by kernel_rfl) (by kernel_rfl) (fun _ _ _ h => h) (.inr ⟨by kernel_rfl, rfl⟩) x1 ?_
          refine wpAnyH_take (i := 14) (v := undef) rfl (by kernel_rfl) (by kernel_rfl) (by kernel_rfl) (fun _ _ _ h => h) (.inr ⟨by kernel_rfl, rfl⟩) x1 ?_
          refine wpAnyH_take (i := 15) (v := undef) rfl (by kernel_rfl) (by kernel_rfl) (by kernel_rfl) (fun _ _ _ h => h) (.inr ⟨by kernel_rfl, rfl⟩) x1 ?_
          refine wpAnyH_take (i := 16) (v := undef) rfl (by kernel_rfl) (by kernel_rfl) (by kernel_rfl) (fun _ _ _ h => h) (.inr ⟨by kernel_rfl, rfl⟩) x1 ?_
          refine wpAnyH_take (i := 17) (v := .bool true) rfl (by kernel_rfl) (by kernel_rfl) (by kernel_rfl) (fun _ _ _ h => h) (.inl ⟨by kernel_rfl, fun W hW => by obtain ⟨q7, q4, q5, q6⟩ := hW; go_simp⟩) x1 ?_
          refine wpAnyH_take (i := 18) (v := .bool true) rfl (by kernel_rfl) (by kernel_rfl) (by kernel_rfl) (fun _ _ _ h => h) (.inl ⟨by kernel_rfl, fun W hW => by obtain ⟨q7, q4, q5, q6⟩ := hW; go_simp⟩) x1 ?_
          refine wpAnyH_take (i := 19) (v := .bool true) rfl (by kernel_rfl) (by kernel_rfl) (by kernel_rfl) (fun _ _ _ h => h) (.inl ⟨by kernel_rfl, fun W hW => by obtain ⟨q7, q4, q5, q6⟩ := hW; go_simp⟩) x1 ?_
          refine wpAnyH_take (i := 20) (v := .pointer (some ⟨pb, 5, none⟩)) rfl (by kernel_rfl) (by kernel_rfl) (by kernel_rfl) (fun _ _ _ h => h) (.inl ⟨by kernel_rfl, fun W hW => by obtain ⟨q7, q4, q5, q6⟩ := hW; go_simp⟩) x1 ?_
          refine wpAnyH_take (i := 21) (v := .string sn) rfl (by kernel_rfl) (by kernel_rfl) (by kernel_rfl) (fun _ _ _ h => h) (.inl ⟨by kernel_rfl, fun W hW => by obtain ⟨q7, q4, q5, q6⟩ := hW; go_simp⟩) x1 ?_
          refine wpAnyH_take (i := 22) (v := .func (.func 49) #[] #[.pointer (some ⟨pb, 0, none⟩)]) rfl (by kernel_rfl) (by kernel_rfl) (by kernel_rfl) (fun _ _ _ h => h) (.inl ⟨by kernel_rfl, fun W hW => by obtain ⟨q7, q4, q5, q6⟩ := hW; go_simp⟩) x1 ?_
          refine held_call (j := 23) _ (by kernel_rfl) rfl (by kernel_rfl) 49 #[.int .u8 2, .pointer (some ⟨pb, 0, none⟩)] (by kernel_rfl) (hh2 _ x1.1) ?_
          rintro e W23 ⟨rfl, rfl⟩
          refine ⟨_, rfl, x1, ?_⟩
          refine held_call (j := 24) _ (by kernel_rfl) rfl (by kernel_rfl) 50 #[.string sn, .bool b2] (by kernel_rfl) (ht2 _) ?_
          rintro e W24 ⟨rfl, rfl⟩
          refine ⟨_, rfl, x1, ?_⟩
          refine wpAnyH_take (i := 25) (v := .bool true) rfl (by kernel_rfl) (by kernel_rfl) (by kernel_rfl) (fun _ _ _ h => h) (.inl ⟨by kernel_rfl, fun W hW => by obtain ⟨q7, q4, q5, q6⟩ := hW; go_simp⟩) x1 ?_
          refine wpAnyH_take (i := 26) (v := .bool true) rfl (by kernel_rfl) (by kernel_rfl) (by kernel_rfl) (fun _ _ _ h => h) (.inl ⟨by kernel_rfl, fun W hW => by obtain ⟨q7, q4, q5, q6⟩ := hW; go_simp⟩) x1 ?_
          refine wpAnyH_take (i := 27) (v := .pointer (some ⟨pb, 6, none⟩)) rfl (by kernel_rfl) (by kernel_rfl) (by kernel_rfl) (fun _ _ _ h => h) (.inl ⟨by kernel_rfl, fun W hW => by obtain ⟨q7, q4, q5, q6⟩ := hW; go_simp⟩) x1 ?_
          refine wpAnyH_take (i := 28) (v := .string sc) rfl (by kernel_rfl) (by kernel_rfl) (by kernel_rfl) (fun _ _ _ h => h) (.inl ⟨by kernel_rfl, fun W hW => by obtain ⟨q7, q4, q5, q6⟩ := hW; go_simp⟩) x1 ?_
          refine wpAnyH_take (i := 29) (v := .func (.func 49) #[] #[.pointer (some ⟨pb, 0, none⟩)]) rfl (by kernel_rfl) (by kernel_rfl) (by kernel_rfl) (fun _ _ _ h => h) (.inl ⟨by kernel_rfl, fun W hW => by obtain ⟨q7, q4, q5, q6⟩ := hW; go_simp⟩) x1 ?_
          refine held_call (j := 30) _ (by kernel_rfl) rfl (by kernel_rfl) 49 #[.int .u8 4, .pointer (some ⟨pb, 0, none⟩)] (by kernel_rfl) (hh4 _ x1.1) ?_
          rintro e W30 ⟨rfl, rfl⟩
          refine ⟨_, rfl, x1, ?_⟩
          refine held_call (j := 31) _ (by kernel_rfl) rfl (by kernel_rfl) 50 #[.string sc, .bool b4] (by kernel_rfl) (hc2 _) ?_
          rintro e W31 ⟨rfl, rfl⟩
          refine ⟨_, rfl, x1, ?_⟩
          refine wpAnyH_take (i := 32) (v := .bool tc4) rfl (by kernel_rfl) (by kernel_rfl) (by kernel_rfl) (fun _ _ _ h => h) (.inl ⟨by kernel_rfl, fun W hW => by obtain ⟨q7, q4, q5, q6⟩ := hW; go_simp⟩) x1 ?_
          refine wpAnyH_take (i := 33) (v := .bool tc4) rfl (by kernel_rfl) (by kernel_rfl) (by kernel_rfl) (fun _ _ _ h => h) (.inl ⟨by kernel_rfl, fun W hW => by obtain ⟨q7, q4, q5, q6⟩ := hW; go_simp⟩) x1 ?_
          refine wpAnyH_done (by kernel_rfl) ?_ 0
          go_simp
          go_wp2
          go_ret
          exact ⟨by rw [← HT.out]; simp [*], by rw [hpb]; exact hb1⟩
        | false =>
          refine wpAnyH_take (i := 1) (v := .int .u8 (x : Int)) rfl (by kernel_rfl) (by kernel_rfl) (by kernel_rfl) (fun _ _ _ h => h) (.inl ⟨by kernel_rfl, fun W hW => by obtain ⟨q7, q4, q5, q6⟩ := hW; go_simp⟩) x1 ?_
          refine wpAnyH_take (i := 2) (v := .bool true) rfl (by kernel_rfl) (by kernel_rfl) (by kernel_rfl) (fun _ _ _ h => h) (.inl ⟨by kernel_rfl, fun W hW => by obtain ⟨q7, q4, q5, q6⟩ := hW; go_simp; first | done | omega | (simp; omega)⟩) x1 ?_
          refine wpAnyH_take (i := 3) (v := .bool true) rfl (by kernel_rfl) (by kernel_rfl) (by kernel_rfl) (fun _ _ _ h => h) (.inl ⟨by kernel_rfl, fun W hW => by obtain ⟨q7, q4, q5, q6⟩ := hW; go_simp⟩) x1 ?_
          refine wpAnyH_take (i := 4) (v := .pointer (some ⟨pb, 4, none⟩)) rfl (by kernel_rfl) (by kernel_rfl) (by kernel_rfl) (fun _ _ _ h => h) (.inl ⟨by kernel_rfl, fun W hW => by obtain ⟨q7, q4, q5, q6⟩ := hW; go_simp⟩) x1 ?_
          refine wpAnyH_take (i := 5) (v := .slice ea m ec) rfl (by kernel_rfl) (by kernel_rfl) (by kernel_rfl) (fun _ _ _ h => h) (.inl ⟨by kernel_rfl, fun W hW => by obtain ⟨q7, q4, q5, q6⟩ := hW; go_simp⟩) x1 ?_
          refine wpAnyH_take (i := 6) (v := .int .i64 (m : Int)) rfl (by kernel_rfl) (by kernel_rfl) (by kernel_rfl) (fun _ _ _ h => h) (.inl ⟨by kernel_rfl, fun W hW => by obtain ⟨q7, q4, q5, q6⟩ := hW; go_simp⟩) x1 ?_
          refine wpAnyH_take (i := 7) (v := .bool true) rfl (by kernel_rfl) (by kernel_rfl) (by kernel_rfl) (fun _ _ _ h => h) (.inl ⟨by kernel_rfl, fun W hW => by obtain ⟨q7, q4, q5, q6⟩ := hW; go_simp; first | done | omega | (simp; omega)⟩) x1 ?_
          refine wpAnyH_take (i := 8) (v := .bool true) rfl (by kernel_rfl) (by kernel_rfl) (by kernel_rfl) (fun _ _ _ h => h) (.inl ⟨by kernel_rfl, fun W hW => by obtain ⟨q7, q4, q5, q6⟩ := hW; go_simp⟩) x1 ?_
          refine wpAnyH_take (i := 9) (v := .bool true) rfl (by kernel_rfl) (by kernel_rfl) (by kernel_rfl) (fun _ _ _ h => h) (.inl ⟨by kernel_rfl, fun W hW => by obtain ⟨q7, q4, q5, q6⟩ := hW; go_simp⟩) x1 ?_
          refine wpAnyH_take (i := 10) (v := .func (.func 49) #[] #[.pointer (some ⟨pb, 0, none⟩)]) rfl (by kernel_rfl) (by kernel_rfl) (by kernel_rfl) (fun _ _ _ h => h) (.inl ⟨by kernel_rfl, fun W hW => by obtain ⟨q7, q4, q5, q6⟩ := hW; go_simp⟩) x1 ?_
          refine held_call (j := 11) _ (by kernel_rfl) rfl (by kernel_rfl) 49 #[.int .u8 1, .pointer (some ⟨pb, 0, none⟩)] (by kernel_rfl) (hh1 _ x1.1) ?_
          rintro e W11 ⟨rfl, rfl⟩
          refine ⟨_, rfl, x1, ?_⟩
          refine wpAnyH_take (i := 12) (v := .bool true) rfl (by kernel_rfl) (by kernel_rfl) (by kernel_rfl) (fun _ _ _ h => h) (.inl ⟨by kernel_rfl, fun W hW => by obtain ⟨q7, q4, q5, q6⟩ := hW; go_simp⟩) x1 ?_
          refine wpAnyH_take (i := 13) (v := undef) rfl (by kernel_rfl) (by kernel_rfl) (by kernel_rfl) (fun _ _ _ h => h) (.inr ⟨by kernel_rfl, rfl⟩) x1 ?_
          refine wpAnyH_take (i := 14) (v := undef) rfl (by kernel_rfl) (by kernel_rfl) (by kernel_rfl) (fun _ _ _ h => h) (.inr ⟨by kernel_rfl, rfl⟩) x1 ?_
          refine wpAnyH_take (i := 15) (v := undef) rfl (by kernel_rfl) (by kernel_rfl) (by kernel_rfl) (fun _ _ _ h => h) (.inr ⟨by kernel_rfl, rfl⟩) x1 ?_
          refine wpAnyH_take (i := 16) (v := undef) rfl (by kernel_rfl) (by kernel_rfl) (by kernel_rfl) (fun _ _ _ h => h) (.inr ⟨by kernel_rfl, rfl⟩) x1 ?_
          refine wpAnyH_take (i := 17) (v := .bool true) rfl (by kernel_rfl) (by kernel_rfl) (by kernel_rfl) (fun _ _ _ h => h) (.inl ⟨by kernel_rfl, fun W hW => by obtain ⟨q7, q4, q5, q6⟩ := hW; go_simp⟩) x1 ?_
          refine wpAnyH_take (i := 18) (v := .bool true) rfl (by kernel_rfl) (by kernel_rfl) (by kernel_rfl) (fun _ _ _ h => h) (.inl ⟨by kernel_rfl, fun W hW => by obtain ⟨q7, q4, q5, q6⟩ := hW; go_simp⟩) x1 ?_
          refine wpAnyH_take (i := 19) (v := .bool true) rfl (by kernel_rfl) (by kernel_rfl) (by kernel_rfl) (fun _ _ _ h => h) (.inl ⟨by kernel_rfl, fun W hW => by obtain ⟨q7, q4, q5, q6⟩ := hW; go_simp⟩) x1 ?_
          refine wpAnyH_take (i := 20) (v := .pointer (some ⟨pb, 5, none⟩)) rfl (by kernel_rfl) (by kernel_rfl) (by kernel_rfl) (fun _ _ _ h => h) (.inl ⟨by kernel_rfl, fun W hW => by obtain ⟨q7, q4, q5, q6⟩ := hW; go_simp⟩) x1 ?_
          refine wpAnyH_take (i := 21) (v := .string sn) rfl (by kernel_rfl) (by kernel_rfl) (by kernel_rfl) (fun _ _ _ h => h) (.inl ⟨by kernel_rfl, fun W hW => by obtain ⟨q7, q4, q5, q6⟩ := hW; go_simp⟩) x1 ?_
          refine wpAnyH_take (i := 22) (v := .func (.func 49) #[] #[.pointer (some ⟨pb, 0, none⟩)]) rfl (by kernel_rfl) (by kernel_rfl) (by kernel_rfl) (fun _ _ _ h => h) (.inl ⟨by kernel_rfl, fun W hW => by obtain ⟨q7, q4, q5, q6⟩ := hW; go_simp⟩) x1 ?_
          refine held_call (j := 23) _ (by kernel_rfl) rfl (by kernel_rfl) 49 #[.int .u8 2, .pointer (some ⟨pb, 0, none⟩)] (by kernel_rfl) (hh2 _ x1.1) ?_
          rintro e W23 ⟨rfl, rfl⟩
          refine ⟨_, rfl, x1, ?_⟩
          refine held_call (j := 24) _ (by kernel_rfl) rfl (by kernel_rfl) 50 #[.string sn, .bool b2] (by kernel_rfl) (ht2 _) ?_
          rintro e W24 ⟨rfl, rfl⟩
          refine ⟨_, rfl, x1, ?_⟩
          refine wpAnyH_take (i := 25) (v := .bool false) rfl (by kernel_rfl) (by kernel_rfl) (by kernel_rfl) (fun _ _ _ h => h) (.inl ⟨by kernel_rfl, fun W hW => by obtain ⟨q7, q4, q5, q6⟩ := hW; go_simp⟩) x1 ?_
          refine wpAnyH_take (i := 26) (v := .bool false) rfl (by kernel_rfl) (by kernel_rfl) (by kernel_rfl) (fun _ _ _ h => h) (.inl ⟨by kernel_rfl, fun W hW => by obtain ⟨q7, q4, q5, q6⟩ := hW; go_simp⟩) x1 ?_
          refine wpAnyH_take (i := 27) (v := undef) rfl (by kernel_rfl) (by kernel_rfl) (by kernel_rfl) (fun _ _ _ h => h) (.inr ⟨by kernel_rfl, rfl⟩) x1 ?_
          refine wpAnyH_take (i := 28) (v := undef) rfl (by kernel_rfl) (by kernel_rfl) (by kernel_rfl) (fun _ _ _ h => h) (.inr ⟨by kernel_rfl, rfl⟩) x1 ?_
          refine wpAnyH_take (i := 29) (v := undef) rfl (by kernel_rfl) (by kernel_rfl) (by kernel_rfl) (fun _ _ _ h => h) (.inr ⟨by kernel_rfl, rfl⟩) x1 ?_
          refine wpAnyH_take (i := 30) (v := undef) rfl (by kernel_rfl) (by kernel_rfl) (by kernel_rfl) (fun _ _ _ h => h) (.inr ⟨by kernel_rfl, rfl⟩) x1 ?_
          refine wpAnyH_take (i := 31) (v := undef) rfl (by kernel_rfl) (by kernel_rfl) (by kernel_rfl) (fun _ _ _ h => h) (.inr ⟨by kernel_rfl, rfl⟩) x1 ?_
          refine wpAnyH_take (i := 32) (v := .bool false) rfl (by kernel_rfl) (by kernel_rfl) (by kernel_rfl) (fun _ _ _ h => h) (.inl ⟨by kernel_rfl, fun W hW => by obtain ⟨q7, q4, q5, q6⟩ := hW; go_simp⟩) x1 ?_
          refine wpAnyH_take (i := 33) (v := .bool false) rfl (by kernel_rfl) (by kernel_rfl) (by kernel_rfl) (fun _ _ _ h => h) (.inl ⟨by kernel_rfl, fun W hW => by obtain ⟨q7, q4, q5, q6⟩ := hW; go_simp⟩) x1 ?_
          refine wpAnyH_done (by kernel_rfl) ?_ 0
          go_simp
          go_wp2
          go_ret
          exact ⟨by rw [← HT.out]; simp [*], by rw [hpb]; exact hb1⟩
      | false =>
        by_cases c3 : m = 0
        · cases tn2 with
          | true =>
            refine wpAnyH_take (i := 1) (v := .int .u8 (x : Int)) rfl (by kernel_rfl) (by kernel_rfl) (by kernel_rfl) (fun _ _ _ h => h) (.inl ⟨by kernel_rfl, fun W hW => by obtain ⟨q7, q4, q5, q6⟩ := hW; go_simp⟩) x1 ?_
            refine wpAnyH_take (i := 2) (v := .bool true) rfl (by kernel_rfl) (by kernel_rfl) (by kernel_rfl) (fun _ _ _ h => h) (.inl ⟨by kernel_rfl, fun W hW => by obtain ⟨q7, q4, q5, q6⟩ := hW; go_simp; first | done | omega | (simp; omega)⟩) x1 ?_
            refine wpAnyH_take (i := 3) (v := .bool true) rfl (by kernel_rfl) (by kernel_rfl) (by kernel_rfl) (fun _ _ _ h => h) (.inl ⟨by kernel_rfl, fun W hW => by obtain ⟨q7, q4, q5, q6⟩ := hW; go_simp⟩) x1 ?_
            refine wpAnyH_take (i := 4) (v := .pointer (some ⟨pb, 4, none⟩)) rfl (by kernel_rfl) (by kernel_rfl) (by kernel_rfl) (fun _ _ _ h => h) (.inl ⟨by kernel_rfl, fun W hW => by obtain ⟨q7, q4, q5, q6⟩ := hW; go_simp⟩) x1 ?_
            refine wpAnyH_take (i := 5) (v := .slice ea m ec) rfl (by kernel_rfl) (by kernel_rfl) (by kernel_rfl) (fun _ _ _ h => h) (.inl ⟨by kernel_rfl, fun W hW => by obtain ⟨q7, q4, q5, q6⟩ := hW; go_simp⟩) x1 ?_
            refine wpAnyH_take (i := 6) (v := .int .i64 (m : Int)) rfl (by kernel_rfl) (by kernel_rfl) (by kernel_rfl) (fun _ _ _ h => h) (.inl ⟨by kernel_rfl, fun W hW => by obtain ⟨q7, q4, q5, q6⟩ := hW; go_simp⟩) x1 ?_
            refine wpAnyH_take (i := 7) (v := .bool true) rfl (by kernel_rfl) (by kernel_rfl) (by kernel_rfl) (fun _ _ _ h => h) (.inl ⟨by kernel_rfl, fun W hW => by obtain ⟨q7, q4, q5, q6⟩ := hW; go_simp; first | done | omega | (simp; omega)⟩) x1 ?_
            refine wpAnyH_take (i := 8) (v := .bool true) rfl (by kernel_rfl) (by kernel_rfl) (by kernel_rfl) (fun _ _ _ h => h) (.inl ⟨by kernel_rfl, fun W hW => by obtain ⟨q7, q4, q5, q6⟩ := hW; go_simp⟩) x1 ?_
            refine wpAnyH_take (i := 9) (v := .bool true) rfl (by kernel_rfl) (by kernel_rfl) (by kernel_rfl) (fun _ _ _ h => h) (.inl ⟨by kernel_rfl, fun W hW => by obtain ⟨q7, q4, q5, q6⟩ := hW; go_simp⟩) x1 ?_
            refine wpAnyH_take (i := 10) (v := .func (.func 49) #[] #[.pointer (some ⟨pb, 0, none⟩)]) rfl (by kernel_rfl) (by kernel_rfl) (by kernel_rfl) (fun _ _ _ h => h) (.inl ⟨by kernel_rfl, fun W hW => by obtain ⟨q7, q4, q5, q6⟩ := hW; go_simp⟩) x1 ?_
            refine held_call (j := 11) _ (by kernel_rfl) rfl (by kernel_rfl) 49 #[.int .u8 1, .pointer (some ⟨pb, 0, none⟩)] (by kernel_rfl) (hh1 _ x1.1) ?_
            rintro e W11 ⟨rfl, rfl⟩
            refine ⟨_, rfl, x1, ?_⟩
            refine wpAnyH_take (i := 12) (v := .bool false) rfl (by kernel_rfl) (by kernel_rfl) (by kernel_rfl) (fun _ _ _ h => h) (.inl ⟨by kernel_rfl, fun W hW => by obtain ⟨q7, q4, q5, q6⟩ := hW; go_simp⟩) x1 ?_
            refine wpAnyH_take (i := 13) (v := .pointer (some ⟨pb, 4, none⟩)) rfl (by kernel_rfl) (by kernel_rfl) (by kernel_rfl) (fun _ _ _ h => h) (.inl ⟨by kernel_rfl, fun W hW => by obtain ⟨q7, q4, q5, q6⟩ := hW; go_simp⟩) x1 ?_
            refine wpAnyH_take (i := 14) (v := .slice ea m ec) rfl (by kernel_rfl) (by kernel_rfl) (by kernel_rfl) (fun _ _ _ h => h) (.inl ⟨by kernel_rfl, fun W hW => by obtain ⟨q7, q4, q5, q6⟩ := hW; go_simp⟩) x1 ?_
            refine wpAnyH_take (i := 15) (v := .int .i64 (m : Int)) rfl (by kernel_rfl) (by kernel_rfl) (by kernel_rfl) (fun _ _ _ h => h) (.inl ⟨by kernel_rfl, fun W hW => by obtain ⟨q7, q4, q5, q6⟩ := hW; go_simp⟩) x1 ?_
            refine wpAnyH_take (i := 16) (v := .bool true) rfl (by kernel_rfl) (by kernel_rfl) (by kernel_rfl) (fun _ _ _ h => h) (.inl ⟨by kernel_rfl, fun W hW => by obtain ⟨q7, q4, q5, q6⟩ := hW; go_simp; first | done | omega | (simp; omega)⟩) x1 ?_
            refine wpAnyH_take (i := 17) (v := .bool true) rfl (by kernel_rfl) (by kernel_rfl) (by kernel_rfl) (fun _ _ _ h => h) (.inl ⟨by kernel_rfl, fun W hW => by obtain ⟨q7, q4, q5, q6⟩ := hW; go_simp⟩) x1 ?_
            refine wpAnyH_take (i := 18) (v := .bool true) rfl (by kernel_rfl) (by kernel_rfl) (by kernel_rfl) (fun _ _ _ h => h) (.inl ⟨by kernel_rfl, fun W hW => by obtain ⟨q7, q4, q5, q6⟩ := hW; go_simp⟩) x1 ?_
            refine wpAnyH_take (i := 19) (v := .bool true) rfl (by kernel_rfl) (by kernel_rfl) (by kernel_rfl) (fun _ _ _ h => h) (.inl ⟨by kernel_rfl, fun W hW => by obtain ⟨q7, q4, q5, q6⟩ := hW; go_simp⟩) x1 ?_
            refine wpAnyH_take (i := 20) (v := .pointer (some ⟨pb, 5, none⟩)) rfl (by kernel_rfl) (by kernel_rfl) (by kernel_rfl) (fun _ _ _ h => h) (.inl ⟨by kernel_rfl, fun W hW => by obtain ⟨q7, q4, q5, q6⟩ := hW; go_simp⟩) x1 ?_
            refine wpAnyH_take (i := 21) (v := .string sn) rfl (by kernel_rfl) (by kernel_rfl) (by kernel_rfl) (fun _ _ _ h => h) (.inl ⟨by kernel_rfl, fun W hW => by obtain ⟨q7, q4, q5, q6⟩ := hW; go_simp⟩) x1 ?_
            refine wpAnyH_take (i := 22) (v := .func (.func 49) #[] #[.pointer (some ⟨pb, 0, none⟩)]) rfl (by kernel_rfl) (by kernel_rfl) (by kernel_rfl) (fun _ _ _ h => h) (.inl ⟨by kernel_rfl, fun W hW => by obtain ⟨q7, q4, q5, q6⟩ := hW; go_simp⟩) x1 ?_
            refine held_call (j := 23) _ (by kernel_rfl) rfl (by kernel_rfl) 49 #[.int .u8 2, .pointer (some ⟨pb, 0, none⟩)] (by kernel_rfl) (hh2 _ x1.1) ?_
            rintro e W23 ⟨rfl, rfl⟩
            refine ⟨_, rfl, x1, ?_⟩
            refine held_call (j := 24) _ (by kernel_rfl) rfl (by kernel_rfl) 50 #[.string sn, .bool b2] (by kernel_rfl) (ht2 _) ?_
            rintro e W24 ⟨rfl, rfl⟩
            refine ⟨_, rfl, x1, ?_⟩
            refine wpAnyH_take (i := 25) (v := .bool true) rfl (by kernel_rfl) (by kernel_rfl) (by kernel_rfl) (fun _ _ _ h => h) (.inl ⟨by kernel_rfl, fun W hW => by obtain ⟨q7, q4, q5, q6⟩ := hW; go_simp⟩) x1 ?_
            refine wpAnyH_take (i := 26) (v := .bool true) rfl (by kernel_rfl) (by kernel_rfl) (by kernel_rfl) (fun _ _ _ h => h) (.inl ⟨by kernel_rfl, fun W hW => by obtain ⟨q7, q4, q5, q6⟩ := hW; go_simp⟩) x1 ?_
            refine wpAnyH_take (i := 27) (v := .pointer (some ⟨pb, 6, none⟩)) rfl (by kernel_rfl) (by kernel_rfl) (by kernel_rfl) (fun _ _ _ h => h) (.inl ⟨by kernel_rfl, fun W hW => by obtain ⟨q7, q4, q5, q6⟩ := hW; go_simp⟩) x1 ?_
            refine wpAnyH_take (i := 28) (v := .string sc) rfl (by kernel_rfl) (by kernel_rfl) (by kernel_rfl) (fun _ _ _ h => h) (.inl ⟨by kernel_rfl, fun W hW => by obtain ⟨q7, q4, q5, q6⟩ := hW; go_simp⟩) x1 ?_
            refine wpAnyH_take (i := 29) (v := .func (.func 49) #[] #[.pointer (some ⟨pb, 0, none⟩)]) rfl (by kernel_rfl) (by kernel_rfl) (by kernel_rfl) (fun _ _ _ h => h) (.inl ⟨by kernel_rfl, fun W hW => by obtain ⟨q7, q4, q5, q6⟩ := hW; go_simp⟩) x1 ?_
            refine held_call (j := 30) _ (by kernel_rfl) rfl (by kernel_rfl) 49 #[.int .u8 4, .pointer (some ⟨pb, 0, none⟩)] (by kernel_rfl) (hh4 _ x1.1) ?_
            rintro e W30 ⟨rfl, rfl⟩
            refine ⟨_, rfl, x1, ?_⟩
            refine held_call (j := 31) _ (by kernel_rfl) rfl (by kernel_rfl) 50 #[.string sc, .bool b4] (by kernel_rfl) (hc2 _) ?_
            rintro e W31 ⟨rfl, rfl⟩
            refine ⟨_, rfl, x1, ?_⟩
            refine wpAnyH_take (i := 32) (v := .bool tc4) rfl (by kernel_rfl) (by kernel_rfl) (by kernel_rfl) (fun _ _ _ h => h) (.inl ⟨by kernel_rfl, fun W hW => by obtain ⟨q7, q4, q5, q6⟩ := hW; go_simp⟩) x1 ?_
            refine wpAnyH_take (i := 33) (v := .bool tc4) rfl (by kernel_rfl) (by kernel_rfl) (by kernel_rfl) (fun _ _ _ h => h) (.inl ⟨by kernel_rfl, fun W hW => by obtain ⟨q7, q4, q5, q6⟩ := hW; go_simp⟩) x1 ?_
            refine wpAnyH_done (by kernel_rfl) ?_ 0
            go_simp
            go_wp2
            go_ret
            exact ⟨by rw [← HT.out]; simp [*], by rw [hpb]; exact hb1⟩
          | false =>
            refine wpAnyH_take (i := 1) (v := .int .u8 (x : Int)) rfl (by kernel_rfl) (by kernel_rfl) (by kernel_rfl) (fun _ _ _ h => h) (.inl ⟨by kernel_rfl, fun W hW => by obtain ⟨q7, q4, q5, q6⟩ := hW; go_simp⟩) x1 ?_
            refine wpAnyH_take (i := 2) (v := .bool true) rfl (by kernel_rfl) (by kernel_rfl) (by kernel_rfl) (fun _ _ _ h => h) (.inl ⟨by kernel_rfl, fun W hW => by obtain ⟨q7, q4, q5, q6⟩ := hW; go_simp; first | done | omega | (simp; omega)⟩) x1 ?_
            refine wpAnyH_take (i := 3) (v := .bool true) rfl (by kernel_rfl) (by kernel_rfl) (by kernel_rfl) (fun _ _ _ h => h) (.inl ⟨by kernel_rfl, fun W hW => by obtain ⟨q7, q4, q5, q6⟩ := hW; go_simp⟩) x1 ?_
            refine wpAnyH_take (i := 4) (v := .pointer (some ⟨pb, 4, none⟩)) rfl (by kernel_rfl) (by kernel_rfl) (by kernel_rfl) (fun _ _ _ h => h) (.inl ⟨by kernel_rfl, fun W hW => by obtain ⟨q7, q4, q5, q6⟩ := hW; go_simp⟩) x1 ?_
            refine wpAnyH_take (i := 5) (v := .slice ea m ec) rfl (by kernel_rfl) (by kernel_rfl) (by kernel_rfl) (fun _ _ _ h => h) (.inl ⟨by kernel_rfl, fun W hW => by obtain ⟨q7, q4, q5, q6⟩ := hW; go_simp⟩) x1 ?_
            refine wpAnyH_take (i := 6) (v := .int .i64 (m : Int)) rfl (by kernel_rfl) (by kernel_rfl) (by kernel_rfl) (fun _ _ _ h => h) (.inl ⟨by kernel_rfl, fun W hW => by obtain ⟨q7, q4, q5, q6⟩ := hW; go_simp⟩) x1 ?_
            refine wpAnyH_take (i := 7) (v := .bool true) rfl (by kernel_rfl) (by kernel_rfl) (by kernel_rfl) (fun _ _ _ h => h) (.inl ⟨by kernel_rfl, fun W hW => by obtain ⟨q7, q4, q5, q6⟩ := hW; go_simp; first | done | omega | (simp; omega)⟩) x1 ?_
            refine wpAnyH_take (i := 8) (v := .bool true) rfl (by kernel_rfl) (by kernel_rfl) (by kernel_rfl) (fun _ _ _ h => h) (.inl ⟨by kernel_rfl, fun W hW => by obtain ⟨q7, q4, q5, q6⟩ := hW; go_simp⟩) x1 ?_
            refine wpAnyH_take (i := 9) (v := .bool true) rfl (by kernel_rfl) (by kernel_rfl) (by kernel_rfl) (fun _ _ _ h => h) (.inl ⟨by kernel_rfl, fun W hW => by obtain ⟨q7, q4, q5, q6⟩ := hW; go_simp⟩) x1 ?_
            refine wpAnyH_take (i := 10) (v := .func (.func 49) #[] #[.pointer (some ⟨pb, 0, none⟩)]) rfl (by kernel_rfl) (by kernel_rfl) (by kernel_rfl) (fun _ _ _ h => h) (.inl ⟨by kernel_rfl, fun W hW => by obtain ⟨q7, q4, q5, q6⟩ := hW; go_simp⟩) x1 ?_
            refine held_call (j := 11) _ (by kernel_rfl) rfl (by kernel_rfl) 49 #[.int .u8 1, .pointer (some ⟨pb, 0, none⟩)] (by kernel_rfl) (hh1 _ x1.1) ?_
            rintro e W11 ⟨rfl, rfl⟩
            refine ⟨_, rfl, x1, ?_⟩
            refine wpAnyH_take (i := 12) (v := .bool false) rfl (by kernel_rfl) (by kernel_rfl) (by kernel_rfl) (fun _ _ _ h => h) (.inl ⟨by kernel_rfl, fun W hW => by obtain ⟨q7, q4, q5, q6⟩ := hW; go_simp⟩) x1 ?_
            refine wpAnyH_take (i := 13) (v := .pointer (some ⟨pb, 4, none⟩)) rfl (by kernel_rfl) (by kernel_rfl) (by kernel_rfl) (fun _ _ _ h => h) (.inl ⟨by kernel_rfl, fun W hW => by obtain ⟨q7, q4, q5, q6⟩ := hW; go_simp⟩) x1 ?_
            refine wpAnyH_take (i := 14) (v := .slice ea m ec) rfl (by kernel_rfl) (by kernel_rfl) (by kernel_rfl) (fun _ _ _ h => h) (.inl ⟨by kernel_rfl, fun W hW => by obtain ⟨q7, q4, q5, q6⟩ := hW; go_simp⟩) x1 ?_
            refine wpAnyH_take (i := 15) (v := .int .i64 (m : Int)) rfl (by kernel_rfl) (by kernel_rfl) (by kernel_rfl) (fun _ _ _ h => h) (.inl ⟨by kernel_rfl, fun W hW => by obtain ⟨q7, q4, q5, q6⟩ := hW; go_simp⟩) x1 ?_
            refine wpAnyH_take (i := 16) (v := .bool true) rfl (by kernel_rfl) (by kernel_rfl) (by kernel_rfl) (fun _ _ _ h => h) (.inl ⟨by kernel_rfl, fun W hW => by obtain ⟨q7, q4, q5, q6⟩ := hW; go_simp; first | done | omega | (simp; omega)⟩) x1 ?_
            refine wpAnyH_take (i := 17) (v := .bool true) rfl (by kernel_rfl) (by kernel_rfl) (by kernel_rfl) (fun _ _ _ h => h) (.inl ⟨by kernel_rfl, fun W hW => by obtain ⟨q7, q4, q5, q6⟩ := hW; go_simp⟩) x1 ?_
            refine wpAnyH_take (i := 18) (v := .bool true) rfl (by kernel_rfl) (by kernel_rfl) (by kernel_rfl) (fun _ _ _ h => h) (.inl ⟨by kernel_rfl, fun W hW => by obtain ⟨q7, q4, q5, q6⟩ := hW; go_simp⟩) x1 ?_
            refine wpAnyH_take (i := 19) (v := .bool true) rfl (by kernel_rfl) (by kernel_rfl) (by kernel_rfl) (fun _ _ _ h => h) (.inl ⟨by kernel_rfl, fun W hW => by obtain ⟨q7, q4, q5, q6⟩ := hW; go_simp⟩) x1 ?_
            refine wpAnyH_take (i := 20) (v := .pointer (some ⟨pb, 5, none⟩)) rfl (by kernel_rfl) (by kernel_rfl) (by kernel_rfl) (fun _ _ _ h => h) (.inl ⟨by kernel_rfl, fun W hW => by obtain ⟨q7, q4, q5, q6⟩ := hW; go_simp⟩) x1 ?_
            refine wpAnyH_take (i := 21) (v := .string sn) rfl (by kernel_rfl) (by kernel_rfl) (by kernel_rfl) (fun _ _ _ h => h) (.inl ⟨by kernel_rfl, fun W hW => by obtain ⟨q7, q4, q5, q6⟩ := hW; go_simp⟩) x1 ?_
            refine wpAnyH_take (i := 22) (v := .func (.func 49) #[] #[.pointer (some ⟨pb, 0, none⟩)]) rfl (by kernel_rfl) (by kernel_rfl) (by kernel_rfl) (fun _ _ _ h => h) (.inl ⟨by kernel_rfl, fun W hW => by obtain ⟨q7, q4, q5, q6⟩ := hW; go_simp⟩) x1 ?_
            refine held_call (j := 23) _ (by kernel_rfl) rfl (by kernel_rfl) 49 #[.int .u8 2, .pointer (some ⟨pb, 0, none⟩)] (by kernel_rfl) (hh2 _ x1.1) ?_
            rintro e W23 ⟨rfl, rfl⟩
            refine ⟨_, rfl, x1, ?_⟩
            refine held_call (j := 24) _ (by kernel_rfl) rfl (by kernel_rfl) 50 #[.string sn, .bool b2] (by kernel_rfl) (ht2 _) ?_
            rintro e W24 ⟨rfl, rfl⟩
            refine ⟨_, rfl, x1, ?_⟩
            refine wpAnyH_take (i := 25) (v := .bool false) rfl (by kernel_rfl) (by kernel_rfl) (by kernel_rfl) (fun _ _ _ h => h) (.inl ⟨by kernel_rfl, fun W hW => by obtain ⟨q7, q4, q5, q6⟩ := hW; go_simp⟩) x1 ?_
            refine wpAnyH_take (i := 26) (v := .bool false) rfl (by kernel_rfl) (by kernel_rfl) (by kernel_rfl) (fun _ _ _ h => h) (.inl ⟨by kernel_rfl, fun W hW => by obtain ⟨q7, q4, q5, q6⟩ := hW; go_simp⟩) x1 ?_
            refine wpAnyH_take (i := 27) (v := undef) rfl (by kernel_rfl) (by kernel_rfl) (by kernel_rfl) (fun _ _ _ h => h) (.inr ⟨by kernel_rfl, rfl⟩) x1 ?_
            refine wpAnyH_take (i := 28) (v := undef) rfl (by kernel_rfl) (by kernel_rfl) (by kernel_rfl) (fun _ _ _ h => h) (.inr ⟨by kernel_rfl, rfl⟩) x1 ?_
            refine wpAnyH_take (i := 29) (v := undef) rfl (by kernel_rfl) (by kernel_rfl) (by kernel_rfl) (fun _ _ _ h => h) (.inr ⟨by kernel_rfl, rfl⟩) x1 ?_
            refine wpAnyH_take (i := 30) (v := undef) rfl (by kernel_rfl) (by kernel_rfl) (by kernel_rfl) (fun _ _ _ h => h) (.inr ⟨by kernel_rfl, rfl⟩) x1 ?_
            refine wpAnyH_take (i := 31) (v := undef) rfl (by kernel_rfl) (by kernel_rfl) (by kernel_rfl) (fun _ _ _ h => h) (.inr ⟨by kernel_rfl, rfl⟩) x1 ?_
            refine wpAnyH_take (i := 32) (v := .bool false) rfl (by kernel_rfl) (by kernel_rfl) (by kernel_rfl) (fun _ _ _ h => h) (.inl ⟨by kernel_rfl, fun W hW => by obtain ⟨q7, q4, q5, q6⟩ := hW; go_simp⟩) x1 ?_
            refine wpAnyH_take (i := 33) (v := .bool false) rfl (by kernel_rfl) (by kernel_rfl) (by kernel_rfl) (fun _ _ _ h => h) (.inl ⟨by kernel_rfl, fun W hW => by obtain ⟨q7, q4, q5, q6⟩ := hW; go_simp⟩) x1 ?_
            refine wpAnyH_done (by kernel_rfl) ?_ 0
            go_simp
            go_wp2
            go_ret
            exact ⟨by rw [← HT.out]; simp [*], by rw [hpb]; exact hb1⟩
        ·
          refine wpAnyH_take (i := 1) (v := .int .u8 (x : Int)) rfl (by kernel_rfl) (by kernel_rfl) (by kernel_rfl) (fun _ _ _ h => h) (.inl ⟨by kernel_rfl, fun W hW => by obtain ⟨q7, q4, q5, q6⟩ := hW; go_simp⟩) x1 ?_
          refine wpAnyH_take (i := 2) (v := .bool true) rfl (by kernel_rfl) (by kernel_rfl) (by kernel_rfl) (fun _ _ _ h => h) (.inl ⟨by kernel_rfl, fun W hW => by obtain ⟨q7, q4, q5, q6⟩ := hW; go_simp; first | done | omega | (simp; omega)⟩) x1 ?_
          refine wpAnyH_take (i := 3) (v := .bool true) rfl (by kernel_rfl) (by kernel_rfl) (by kernel_rfl) (fun _ _ _ h => h) (.inl ⟨by kernel_rfl, fun W hW => by obtain ⟨q7, q4, q5, q6⟩ := hW; go_simp⟩) x1 ?_
          refine wpAnyH_take (i := 4) (v := .pointer (some ⟨pb, 4, none⟩)) rfl (by kernel_rfl) (by kernel_rfl) (by kernel_rfl) (fun _ _ _ h => h) (.inl ⟨by kernel_rfl, fun W hW => by obtain ⟨q7, q4, q5, q6⟩ := hW; go_simp⟩) x1 ?_
          refine wpAnyH_take (i := 5) (v := .slice ea m ec) rfl (by kernel_rfl) (by kernel_rfl) (by kernel_rfl) (fun _ _ _ h => h) (.inl ⟨by kernel_rfl, fun W hW => by obtain ⟨q7, q4, q5, q6⟩ := hW; go_simp⟩) x1 ?_
          refine wpAnyH_take (i := 6) (v := .int .i64 (m : Int)) rfl (by kernel_rfl) (by kernel_rfl) (by kernel_rfl) (fun _ _ _ h => h) (.inl ⟨by kernel_rfl, fun W hW => by obtain ⟨q7, q4, q5, q6⟩ := hW; go_simp⟩) x1 ?_
          refine wpAnyH_take (i := 7) (v := .bool true) rfl (by kernel_rfl) (by kernel_rfl) (by kernel_rfl) (fun _ _ _ h => h) (.inl ⟨by kernel_rfl, fun W hW => by obtain ⟨q7, q4, q5, q6⟩ := hW; go_simp; first | done | omega | (simp; omega)⟩) x1 ?_
          refine wpAnyH_take (i := 8) (v := .bool true) rfl (by kernel_rfl) (by kernel_rfl) (by kernel_rfl) (fun _ _ _ h => h) (.inl ⟨by kernel_rfl, fun W hW => by obtain ⟨q7, q4, q5, q6⟩ := hW; go_simp⟩) x1 ?_
          refine wpAnyH_take (i := 9) (v := .bool true) rfl (by kernel_rfl) (by kernel_rfl) (by kernel_rfl) (fun _ _ _ h => h) (.inl ⟨by kernel_rfl, fun W hW => by obtain ⟨q7, q4, q5, q6⟩ := hW; go_simp⟩) x1 ?_
          refine wpAnyH_take (i := 10) (v := .func (.func 49) #[] #[.pointer (some ⟨pb, 0, none⟩)]) rfl (by kernel_rfl) (by kernel_rfl) (by kernel_rfl) (fun _ _ _ h => h) (.inl ⟨by kernel_rfl, fun W hW => by obtain ⟨q7, q4, q5, q6⟩ := hW; go_simp⟩) x1 ?_
          refine held_call (j := 11) _ (by kernel_rfl) rfl (by kernel_rfl) 49 #[.int .u8 1, .pointer (some ⟨pb, 0, none⟩)] (by kernel_rfl) (hh1 _ x1.1) ?_
          rintro e W11 ⟨rfl, rfl⟩
          refine ⟨_, rfl, x1, ?_⟩
          refine wpAnyH_take (i := 12) (v := .bool false) rfl (by kernel_rfl) (by kernel_rfl) (by kernel_rfl) (fun _ _ _ h => h) (.inl ⟨by kernel_rfl, fun W hW => by obtain ⟨q7, q4, q5, q6⟩ := hW; go_simp⟩) x1 ?_
          refine wpAnyH_take (i := 13) (v := .pointer (some ⟨pb, 4, none⟩)) rfl (by kernel_rfl) (by kernel_rfl) (by kernel_rfl) (fun _ _ _ h => h) (.inl ⟨by kernel_rfl, fun W hW => by obtain ⟨q7, q4, q5, q6⟩ := hW; go_simp⟩) x1 ?_
          refine wpAnyH_take (i := 14) (v := .slice ea m ec) rfl (by kernel_rfl) (by kernel_rfl) (by kernel_rfl) (fun _ _ _ h => h) (.inl ⟨by kernel_rfl, fun W hW => by obtain ⟨q7, q4, q5, q6⟩ := hW; go_simp⟩) x1 ?_
          refine wpAnyH_take (i := 15) (v := .int .i64 (m : Int)) rfl (by kernel_rfl) (by kernel_rfl) (by kernel_rfl) (fun _ _ _ h => h) (.inl ⟨by kernel_rfl, fun W hW => by obtain ⟨q7, q4, q5, q6⟩ := hW; go_simp⟩) x1 ?_
          refine wpAnyH_take (i := 16) (v := .bool false) rfl (by kernel_rfl) (by kernel_rfl) (by kernel_rfl) (fun _ _ _ h => h) (.inl ⟨by kernel_rfl, fun W hW => by obtain ⟨q7, q4, q5, q6⟩ := hW; go_simp; first | done | omega | (simp; omega)⟩) x1 ?_
          refine wpAnyH_take (i := 17) (v := .bool false) rfl (by kernel_rfl) (by kernel_rfl) (by kernel_rfl) (fun _ _ _ h => h) (.inl ⟨by kernel_rfl, fun W hW => by obtain ⟨q7, q4, q5, q6⟩ := hW; go_simp⟩) x1 ?_
          refine wpAnyH_take (i := 18) (v := .bool false) rfl (by kernel_rfl) (by kernel_rfl) (by kernel_rfl) (fun _ _ _ h => h) (.inl ⟨by kernel_rfl, fun W hW => by obtain ⟨q7, q4, q5, q6⟩ := hW; go_simp⟩) x1 ?_
          refine wpAnyH_take (i := 19) (v := .bool false) rfl (by kernel_rfl) (by kernel_rfl) (by kernel_rfl) (fun _ _ _ h => h) (.inl ⟨by kernel_rfl, fun W hW => by obtain ⟨q7, q4, q5, q6⟩ := hW; go_simp⟩) x1 ?_
          refine wpAnyH_take (i := 20) (v := undef) rfl (by kernel_rfl) (by kernel_rfl) (by kernel_rfl) (fun _ _ _ h => h) (.inr ⟨by kernel_rfl, rfl⟩) x1 ?_
          refine wpAnyH_take (i := 21) (v := undef) rfl (by kernel_rfl) (by kernel_rfl) (by kernel_rfl) (fun _ _ _ h => h) (.inr ⟨by kernel_rfl, rfl⟩) x1 ?_
          refine wpAnyH_take (i := 22) (v := undef) rfl (by kernel_rfl) (by kernel_rfl) (by kernel_rfl) (fun _ _ _ h => h) (.inr ⟨by kernel_rfl, rfl⟩) x1 ?_
          refine wpAnyH_take (i := 23) (v := undef) rfl (by kernel_rfl) (by kernel_rfl) (by kernel_rfl) (fun _ _ _ h => h) (.inr ⟨by kernel_rfl, rfl⟩) x1 ?_
          refine wpAnyH_take (i := 24) (v := undef) rfl (by kernel_rfl) (by kernel_rfl) (by kernel_rfl) (fun _ _ _ h => h) (.inr ⟨by kernel_rfl, rfl⟩) x1 ?_
          refine wpAnyH_take (i := 25) (v := .bool false) rfl (by kernel_rfl) (by kernel_rfl) (by kernel_rfl) (fun _ _ _ h => h) (.inl ⟨by kernel_rfl, fun W hW => by obtain ⟨q7, q4, q5, q6⟩ := hW; go_simp⟩) x1 ?_
          refine wpAnyH_take (i := 26) (v := .bool false) rfl (by kernel_rfl) (by kernel_rfl) (by kernel_rfl) (fun _ _ _ h => h) (.inl ⟨by kernel_rfl, fun W hW => by obtain ⟨q7, q4, q5, q6⟩ := hW; go_simp⟩) x1 ?_
          refine wpAnyH_take (i := 27) (v := undef) rfl (by kernel_rfl) (by kernel_rfl) (by kernel_rfl) (fun _ _ _ h => h) (.inr ⟨by kernel_rfl, rfl⟩) x1 ?_
          refine wpAnyH_take (i := 28) (v := undef) rfl (by kernel_rfl) (by kernel_rfl) (by kernel_rfl) (fun _ _ _ h => h) (.inr ⟨by kernel_rfl, rfl⟩) x1 ?_
          refine wpAnyH_take (i := 29) (v := undef) rfl (by kernel_rfl) (by kernel_rfl) (by kernel_rfl) (fun _ _ _ h => h) (.inr ⟨by kernel_rfl, rfl⟩) x1 ?_
          refine wpAnyH_take (i := 30) (v := undef) rfl (by kernel_rfl) (by kernel_rfl) (by kernel_rfl) (fun _ _ _ h => h) (.inr ⟨by kernel_rfl, rfl⟩) x1 ?_
          refine wpAnyH_take (i := 31) (v := undef) rfl (by kernel_rfl) (by kernel_rfl) (by kernel_rfl) (fun _ _ _ h => h) (.inr ⟨by kernel_rfl, rfl⟩) x1 ?_
          refine wpAnyH_take (i := 32) (v := .bool false) rfl (by kernel_rfl) (by kernel_rfl) (by kernel_rfl) (fun _ _ _ h => h) (.inl ⟨by kernel_rfl, fun W hW => by obtain ⟨q7, q4, q5, q6⟩ := hW; go_simp⟩) x1 ?_
          refine wpAnyH_take (i := 33) (v := .bool false) rfl (by kernel_rfl) (by kernel_rfl) (by kernel_rfl) (fun _ _ _ h => h) (.inl ⟨by kernel_rfl, fun W hW => by obtain ⟨q7, q4, q5, q6⟩ := hW; go_simp⟩) x1 ?_
          refine wpAnyH_done (by kernel_rfl) ?_ 0
          go_simp
          go_wp2
          go_ret
          exact ⟨by rw [← HT.out]; simp [*], by rw [hpb]; exact hb1⟩
    ·
      refine wpAnyH_take (i := 1) (v := .int .u8 (x : Int)) rfl (by kernel_rfl) (by kernel_rfl) (by kernel_rfl) (fun _ _ _ h => h) (.inl ⟨by kernel_rfl, fun W hW => by obtain ⟨q7, q4, q5, q6⟩ := hW; go_simp⟩) x1 ?_
      refine wpAnyH_take (i := 2) (v := .bool true) rfl (by kernel_rfl) (by kernel_rfl) (by kernel_rfl) (fun _ _ _ h => h) (.inl ⟨by kernel_rfl, fun W hW => by obtain ⟨q7, q4, q5, q6⟩ := hW; go_simp; first | done | omega | (simp; omega)⟩) x1 ?_
      refine wpAnyH_take (i := 3) (v := .bool true) rfl (by kernel_rfl) (by kernel_rfl) (by kernel_rfl) (fun _ _ _ h => h) (.inl ⟨by kernel_rfl, fun W hW => by obtain ⟨q7, q4, q5, q6⟩ := hW; go_simp⟩) x1 ?_
      refine wpAnyH_take (i := 4) (v := .pointer (some ⟨pb, 4, none⟩)) rfl (by kernel_rfl) (by kernel_rfl) (by kernel_rfl) (fun _ _ _ h => h) (.inl ⟨by kernel_rfl, fun W hW => by obtain ⟨q7, q4, q5, q6⟩ := hW; go_simp⟩) x1 ?_
      refine wpAnyH_take (i := 5) (v := .slice ea m ec) rfl (by kernel_rfl) (by kernel_rfl) (by kernel_rfl) (fun _ _ _ h => h) (.inl ⟨by kernel_rfl, fun W hW => by obtain ⟨q7, q4, q5, q6⟩ := hW; go_simp⟩) x1 ?_
      refine wpAnyH_take (i := 6) (v := .int .i64 (m : Int)) rfl (by kernel_rfl) (by kernel_rfl) (by kernel_rfl) (fun _ _ _ h => h) (.inl ⟨by kernel_rfl, fun W hW => by obtain ⟨q7, q4, q5, q6⟩ := hW; go_simp⟩) x1 ?_
      refine wpAnyH_take (i := 7) (v := .bool false) rfl (by kernel_rfl) (by kernel_rfl) (by kernel_rfl) (fun _ _ _ h => h) (.inl ⟨by kernel_rfl, fun W hW => by obtain ⟨q7, q4, q5, q6⟩ := hW; go_simp; first | done | omega | (simp; omega)⟩) x1 ?_
      refine wpAnyH_take (i := 8) (v := .bool false) rfl (by kernel_rfl) (by kernel_rfl) (by kernel_rfl) (fun _ _ _ h => h) (.inl ⟨by kernel_rfl, fun W hW => by obtain ⟨q7, q4, q5, q6⟩ := hW; go_simp⟩) x1 ?_
      refine wpAnyH_take (i := 9) (v := .bool false) rfl (by kernel_rfl) (by kernel_rfl) (by kernel_rfl) (fun _ _ _ h => h) (.inl ⟨by kernel_rfl, fun W hW => by obtain ⟨q7, q4, q5, q6⟩ := hW; go_simp⟩) x1 ?_
      refine wpAnyH_take (i := 10) (v := undef) rfl (by kernel_rfl) (by kernel_rfl) (by kernel_rfl) (fun _ _ _ h => h) (.inr ⟨by kernel_rfl, rfl⟩) x1 ?_
      refine wpAnyH_take (i := 11) (v := undef) rfl (by kernel_rfl) (by kernel_rfl) (by kernel_rfl) (fun _ _ _ h => h) (.inr ⟨by kernel_rfl, rfl⟩) x1 ?_
      refine wpAnyH_take (i := 12) (v := undef) rfl (by kernel_rfl) (by kernel_rfl) (by kernel_rfl) (fun _ _ _ h => h) (.inr ⟨by kernel_rfl, rfl⟩) x1 ?_
      refine wpAnyH_take (i := 13) (v := undef) rfl (by kernel_rfl) (by kernel_rfl) (by kernel_rfl) (fun _ _ _ h => h) (.inr ⟨by kernel_rfl, rfl⟩) x1 ?_
      refine wpAnyH_take (i := 14) (v := undef) rfl (by kernel_rfl) (by kernel_rfl) (by kernel_rfl) (fun _ _ _ h => h) (.inr ⟨by kernel_rfl, rfl⟩) x1 ?_
      refine wpAnyH_take (i := 15) (v := undef) rfl (by kernel_rfl) (by kernel_rfl) (by kernel_rfl) (fun _ _ _ h => h) (.inr ⟨by kernel_rfl, rfl⟩) x1 ?_
      refine wpAnyH_take (i := 16) (v := undef) rfl (by kernel_rfl) (by kernel_rfl) (by kernel_rfl) (fun _ _ _ h => h) (.inr ⟨by kernel_rfl, rfl⟩) x1 ?_
      refine wpAnyH_take (i := 17) (v := undef) rfl (by kernel_rfl) (by kernel_rfl) (by kernel_rfl) (fun _ _ _ h => h) (.inr ⟨by kernel_rfl, rfl⟩) x1 ?_
      refine wpAnyH_take (i := 18) (v := .bool false) rfl (by kernel_rfl) (by kernel_rfl) (by kernel_rfl) (fun _ _ _ h => h) (.inl ⟨by kernel_rfl, fun W hW => by obtain ⟨q7, q4, q5, q6⟩ := hW; go_simp⟩) x1 ?_
      refine wpAnyH_take (i := 19) (v := .bool false) rfl (by kernel_rfl) (by kernel_rfl) (by kernel_rfl) (fun _ _ _ h => h) (.inl ⟨by kernel_rfl, fun W hW => by obtain ⟨q7, q4, q5, q6⟩ := hW; go_simp⟩) x1 ?_
      refine wpAnyH_take (i := 20) (v := undef) rfl (by kernel_rfl) (by kernel_rfl) (by kernel_rfl) (fun _ _ _ h => h) (.inr ⟨by kernel_rfl, rfl⟩) x1 ?_
      refine wpAnyH_take (i := 21) (v := undef) rfl (by kernel_rfl) (by kernel_rfl) (by kernel_rfl) (fun _ _ _ h => h) (.inr ⟨by kernel_rfl, rfl⟩) x1 ?_
      refine wpAnyH_take (i := 22) (v := undef) rfl (by kernel_rfl) (by kernel_rfl) (by kernel_rfl) (fun _ _ _ h => h) (.inr ⟨by kernel_rfl, rfl⟩) x1 ?_
      refine wpAnyH_take (i := 23) (v := undef) rfl (by kernel_rfl) (by kernel_rfl) (by kernel_rfl) (fun _ _ _ h => h) (.inr ⟨by kernel_rfl, rfl⟩) x1 ?_
      refine wpAnyH_take (i := 24) (v := undef) rfl (by kernel_rfl) (by kernel_rfl) (by kernel_rfl) (fun _ _ _ h => h) (.inr ⟨by kernel_rfl, rfl⟩) x1 ?_
      refine wpAnyH_take (i := 25) (v := .bool false) rfl (by kernel_rfl) (by kernel_rfl) (by kernel_rfl) (fun _ _ _ h => h) (.inl ⟨by kernel_rfl, fun W hW => by obtain ⟨q7, q4, q5, q6⟩ := hW; go_simp⟩) x1 ?_
      refine wpAnyH_take (i := 26) (v := .bool false) rfl (by kernel_rfl) (by kernel_rfl) (by kernel_rfl) (fun _ _ _ h => h) (.inl ⟨by kernel_rfl, fun W hW => by obtain ⟨q7, q4, q5, q6⟩ := hW; go_simp⟩) x1 ?_
      refine wpAnyH_take (i := 27) (v := undef) rfl (by kernel_rfl) (by kernel_rfl) (by kernel_rfl) (fun _ _ _ h => h) (.inr ⟨by kernel_rfl, rfl⟩) x1 ?_
      refine wpAnyH_take (i := 28) (v := undef) rfl (by kernel_rfl) (by kernel_rfl) (by kernel_rfl) (fun _ _ _ h => h) (.inr ⟨by kernel_rfl, rfl⟩) x1 ?_
      refine wpAnyH_take (i := 29) (v := undef) rfl (by kernel_rfl) (by kernel_rfl) (by kernel_rfl) (fun _ _ _ h => h) (.inr ⟨by kernel_rfl, rfl⟩) x1 ?_
      refine wpAnyH_take (i := 30) (v := undef) rfl (by kernel_rfl) (by kernel_rfl) (by kernel_rfl) (fun _ _ _ h => h) (.inr ⟨by kernel_rfl, rfl⟩) x1 ?_
      refine wpAnyH_take (i := 31) (v := undef) rfl (by kernel_rfl) (by kernel_rfl) (by kernel_rfl) (fun _ _ _ h => h) (.inr ⟨by kernel_rfl, rfl⟩) x1 ?_
      refine wpAnyH_take (i := 32) (v := .bool false) rfl (by kernel_rfl) (by kernel_rfl) (by kernel_rfl) (fun _ _ _ h => h) (.inl ⟨by kernel_rfl, fun W hW => by obtain ⟨q7, q4, q5, q6⟩ := hW; go_simp⟩) x1 ?_
      refine wpAnyH_take (i := 33) (v := .bool false) rfl (by kernel_rfl) (by kernel_rfl) (by kernel_rfl) (fun _ _ _ h => h) (.inl ⟨by kernel_rfl, fun W hW => by obtain ⟨q7, q4, q5, q6⟩ := hW; go_simp⟩) x1 ?_
      refine wpAnyH_done (by kernel_rfl) ?_ 0
      go_simp
      go_wp2
      go_ret
      exact ⟨by rw [← HT.out]; simp [*], by rw [hpb]; exact hb1⟩
  ·
    refine wpAnyH_take (i := 1) (v := .int .u8 (x : Int)) rfl (by kernel_rfl) (by kernel_rfl) (by kernel_rfl) (fun _ _ _ h => h) (.inl ⟨by kernel_rfl, fun W hW => by obtain ⟨q7, q4, q5, q6⟩ := hW; go_simp⟩) x1 ?_
    refine wpAnyH_take (i := 2) (v := .bool false) rfl (by kernel_rfl) (by kernel_rfl) (by kernel_rfl) (fun _ _ _ h => h) (.inl ⟨by kernel_rfl, fun W hW => by obtain ⟨q7, q4, q5, q6⟩ := hW; go_simp; first | done | omega | (simp; omega)⟩) x1 ?_
    refine wpAnyH_take (i := 3) (v := .bool false) rfl (by kernel_rfl) (by kernel_rfl) (by kernel_rfl) (fun _ _ _ h => h) (.inl ⟨by kernel_rfl, fun W hW => by obtain ⟨q7, q4, q5, q6⟩ := hW; go_simp⟩) x1 ?_
    refine wpAnyH_take (i := 4) (v := undef) rfl (by kernel_rfl) (by kernel_rfl) (by kernel_rfl) (fun _ _ _ h => h) (.inr ⟨by kernel_rfl, rfl⟩) x1 ?_
    refine wpAnyH_take (i := 5) (v := undef) rfl (by kernel_rfl) (by kernel_rfl) (by kernel_rfl) (fun _ _ _ h => h) (.inr ⟨by kernel_rfl, rfl⟩) x1 ?_
    refine wpAnyH_take (i := 6) (v := undef) rfl (by kernel_rfl) (by kernel_rfl) (by kernel_rfl) (fun _ _ _ h => h) (.inr ⟨by kernel_rfl, rfl⟩) x1 ?_
    refine wpAnyH_take (i := 7) (v := undef) rfl (by kernel_rfl) (by kernel_rfl) (by kernel_rfl) (fun _ _ _ h => h) (.inr ⟨by kernel_rfl, rfl⟩) x1 ?_
    refine wpAnyH_take (i := 8) (v := .bool false) rfl (by kernel_rfl) (by kernel_rfl) (by kernel_rfl) (fun _ _ _ h => h) (.inl ⟨by kernel_rfl, fun W hW => by obtain ⟨q7, q4, q5, q6⟩ := hW; go_simp⟩) x1 ?_
    refine wpAnyH_take (i := 9) (v := .bool false) rfl (by kernel_rfl) (by kernel_rfl) (by kernel_rfl) (fun _ _ _ h => h) (.inl ⟨by kernel_rfl, fun W hW => by obtain ⟨q7, q4, q5, q6⟩ := hW; go_simp⟩) x1 ?_
    refine wpAnyH_take (i := 10) (v := undef) rfl (by kernel_rfl) (by kernel_rfl) (by kernel_rfl) (fun _ _ _ h => h) (.inr ⟨by kernel_rfl, rfl⟩) x1 ?_
    refine wpAnyH_take (i := 11) (v := undef) rfl (by kernel_rfl) (by kernel_rfl) (by kernel_rfl) (fun _ _ _ h => h) (.inr ⟨by kernel_rfl, rfl⟩) x1 ?_
    refine wpAnyH_take (i := 12) (v := undef) rfl (by kernel_rfl) (by kernel_rfl) (by kernel_rfl) (fun _ _ _ h => h) (.inr ⟨by kernel_rfl, rfl⟩) x1 ?_
    refine wpAnyH_take (i := 13) (v := undef) rfl (by kernel_rfl) (by kernel_rfl) (by kernel_rfl) (fun _ _ _ h => h) (.inr ⟨by kernel_rfl, rfl⟩) x1 ?_
    refine wpAnyH_take (i := 14) (v := undef) rfl (by kernel_rfl) (by kernel_rfl) (by kernel_rfl) (fun _ _ _ h => h) (.inr ⟨by kernel_rfl, rfl⟩) x1 ?_
    refine wpAnyH_take (i := 15) (v := undef) rfl (by kernel_rfl) (by kernel_rfl) (by kernel_rfl) (fun _ _ _ h => h) (.inr ⟨by kernel_rfl, rfl⟩) x1 ?_
    refine wpAnyH_take (i := 16) (v := undef) rfl (by kernel_rfl) (by kernel_rfl) (by kernel_rfl) (fun _ _ _ h => h) (.inr ⟨by kernel_rfl, rfl⟩) x1 ?_
    refine wpAnyH_take (i := 17) (v := undef) rfl (by kernel_rfl) (by kernel_rfl) (by kernel_rfl) (fun _ _ _ h => h) (.inr ⟨by kernel_rfl, rfl⟩) x1 ?_
    refine wpAnyH_take (i := 18) (v := .bool false) rfl (by kernel_rfl) (by kernel_rfl) (by kernel_rfl) (fun _ _ _ h => h) (.inl ⟨by kernel_rfl, fun W hW => by obtain ⟨q7, q4, q5, q6⟩ := hW; go_simp⟩) x1 ?_
    refine wpAnyH_take (i := 19) (v := .bool false) rfl (by kernel_rfl) (by kernel_rfl) (by kernel_rfl) (fun _ _ _ h => h) (.inl ⟨by kernel_rfl, fun W hW => by obtain ⟨q7, q4, q5, q6⟩ := hW; go_simp⟩) x1 ?_
    refine wpAnyH_take (i := 20) (v := undef) rfl (by kernel_rfl) (by kernel_rfl) (by kernel_rfl) (fun _ _ _ h => h) (.inr ⟨by kernel_rfl, rfl⟩) x1 ?_
    refine wpAnyH_take (i := 21) (v := undef) rfl (by kernel_rfl) (by kernel_rfl) (by kernel_rfl) (fun _ _ _ h => h) (.inr ⟨by kernel_rfl, rfl⟩) x1 ?_
    refine wpAnyH_take (i := 22) (v := undef) rfl (by kernel_rfl) (by kernel_rfl) (by kernel_rfl) (fun _ _ _ h => h) (.inr ⟨by kernel_rfl, rfl⟩) x1 ?_
    refine wpAnyH_take (i := 23) (v := undef) rfl (by kernel_rfl) (by kernel_rfl) (by kernel_rfl) (fun _ _ _ h => h) (.inr ⟨by kernel_rfl, rfl⟩) x1 ?_
    refine wpAnyH_take (i := 24) (v := undef) rfl (by kernel_rfl) (by kernel_rfl) (by kernel_rfl) (fun _ _ _ h => h) (.inr ⟨by kernel_rfl, rfl⟩) x1 ?_
    refine wpAnyH_take (i := 25) (v := .bool false) rfl (by kernel_rfl) (by kernel_rfl) (by kernel_rfl) (fun _ _ _ h => h) (.inl ⟨by kernel_rfl, fun W hW => by obtain ⟨q7, q4, q5, q6⟩ := hW; go_simp⟩) x1 ?_
    refine wpAnyH_take (i := 26) (v := .bool false) rfl (by kernel_rfl) (by kernel_rfl) (by kernel_rfl) (fun _ _ _ h => h) (.inl ⟨by kernel_rfl, fun W hW => by obtain ⟨q7, q4, q5, q6⟩ := hW; go_simp⟩) x1 ?_
    refine wpAnyH_take (i := 27) (v := undef) rfl (by kernel_rfl) (by kernel_rfl) (by kernel_rfl) (fun _ _ _ h => h) (.inr ⟨by kernel_rfl, rfl⟩) x1 ?_
    refine wpAnyH_take (i := 28) (v := undef) rfl (by kernel_rfl) (by kernel_rfl) (by kernel_rfl) (fun _ _ _ h => h) (.inr ⟨by kernel_rfl, rfl⟩) x1 ?_
    refine wpAnyH_take (i := 29) (v := undef) rfl (by kernel_rfl) (by kernel_rfl) (by kernel_rfl) (fun _ _ _ h => h) (.inr ⟨by kernel_rfl, rfl⟩) x1 ?_
    refine wpAnyH_take (i := 30) (v := undef) rfl (by kernel_rfl) (by kernel_rfl) (by kernel_rfl) (fun _ _ _ h => h) (.inr ⟨by kernel_rfl, rfl⟩) x1 ?_
    refine wpAnyH_take (i := 31) (v := undef) rfl (by kernel_rfl) (by kernel_rfl) (by kernel_rfl) (fun _ _ _ h => h) (.inr ⟨by kernel_rfl, rfl⟩) x1 ?_
    refine wpAnyH_take (i := 32) (v := .bool false) rfl (by kernel_rfl) (by kernel_rfl) (by kernel_rfl) (fun _ _ _ h => h) (.inl ⟨by kernel_rfl, fun W hW => by obtain ⟨q7, q4, q5, q6⟩ := hW; go_simp⟩) x1 ?_
    refine wpAnyH_take (i := 33) (v := .bool false) rfl (by kernel_rfl) (by kernel_rfl) (by kernel_rfl) (fun _ _ _ h => h) (.inl ⟨by kernel_rfl, fun W hW => by obtain ⟨q7, q4, q5, q6⟩ := hW; go_simp⟩) x1 ?_
    refine wpAnyH_done (by kernel_rfl) ?_ 0
    go_simp
    go_wp2
    go_ret
    exact ⟨by rw [← HT.out]; simp [*], by rw [hpb]; exact hb1⟩

end Go.Proofs.Ytiggbioaaglgaaa.Fr
