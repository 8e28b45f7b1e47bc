/-
  Every Common answers as the document says: the walk of LcpCommon. No conditions.
-/
import Derived.Test.YtfifkbadniekfaaLcpH
namespace Go.Proofs.Ytfifkbadniekfaa.lcpCommon
open Go.RowKit Go.Proofs.Ytfifkbadniekfaa.Suf Go.Proofs.Ytfifkbadniekfaa.Lcp

set_option maxRecDepth 100000 in
set_option maxHeartbeats 4000000 in
theorem walk (w : World) (v : Value) (xs : List Int) (h : IntRow w v xs) (p : Int) (_ : (Lit.int .i64 p).wf = true) (q : Int) (_ : (Lit.int .i64 q).wf = true) :
    Calls Try.prog 4 #[v, .int .i64 p, .int .i64 q] w fun e w' => e = .returned (.bool true) ∧ Below w.heap.size w w' := by
  obtain ⟨va, vc, rfl⟩ : ∃ a c, v = .slice a xs.length c := by obtain ⟨a, c, e, _⟩ := h; exact ⟨a, c, e⟩
  by_cases c1 : 300 < xs.length
  · go_enter Try.func4, Try.ntmps4
    go_wp2
    go_ret
    exact ⟨rfl, Below.refl _ _⟩
  have hc := common_any w _ xs h (by omega) p q
  have hr := fun k => refLeast_any (w.drewN k) _ xs (h.below (below_drewN k) (Nat.le_refl _)) (by omega) p q
  clear h
  go_enter Try.func4, Try.ntmps4
  go_wp2_with fail
  refine hc.mono ?_
  rintro e w1 ⟨ha, k, rfl⟩
  have hr := hr k
  obtain ⟨n, f, rfl⟩ : ∃ n f : Int, e = .returned (.tuple #[.int .i64 n, .int .i64 f]) := by obtain ⟨n, f, h1, _⟩ := ha.same ha; exact ⟨n, f, h1⟩
  have b1 : Below w.heap.size w (w.drewN k) := below_drewN k
  generalize w.drewN k = w1 at *
  go_wp2_with fail
  refine hr.mono ?_
  rintro e w2 ⟨hb, rfl⟩
  obtain ⟨n', f', h1, rfl⟩ := ha.same hb
  obtain ⟨rfl, rfl⟩ : n = n' ∧ f = f' := by simpa using h1
  clear ha hb hc hr h1
  go_wp2_with fail
  refine (heights_any _).mono ?_
  rintro e w3 ⟨rfl, b2⟩
  go_wp2_with fail
  go_ret
  exact ⟨rfl, b1.trans (b2.mono b1.size)⟩

end Go.Proofs.Ytfifkbadniekfaa.lcpCommon
