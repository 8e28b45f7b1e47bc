/-
  Contract of pressworklaw08.says. No conditions but those of the calls.
-/
import Derived.Test.YtmooiheomecieaaTokE
import Derived.Test.YtmooiheomecieaaTokO
import Derived.Test.YtmooiheomecieaaStr
namespace Go.Proofs.Ytmooiheomecieaa.Tok
open Go.RowKit

theorem Below.andThen {w w1 w2 : World} (h1 : Below w.heap.size w w1) (h2 : Below w1.heap.size w1 w2) : Below w.heap.size w w2 := h1.trans (h2.mono h1.size)

/-- Tokens written out in the text lie in a block of the call's own. -/
theorem toks_box {B : Nat} {w0 : World} {r : List Thing} {l : List Tk} {b : Nat} {e : TypeId} (hs : Fits l) (hl : l.length ≤ maxLen) : ∀ W, St B w0 W (boxT b (tks l).toArray e :: r) → TokRow W (.slice (some ⟨b, 0, none⟩) l.length l.length) l :=
  fun _ s => tokRow_box s.box hs hl

set_option maxRecDepth 100000 in
set_option maxHeartbeats 2000000 in
/-- says. -/
theorem says_any (w : World) : Calls Try.prog 17 #[] w fun e w' => e = .returned (.bool true) ∧ Below w.heap.size w w' := by
  have h1 := fun W => length_any W 257 (by decide) (by decide)
  have h2 := fun W => distance_any W 6 (by decide) (by decide)
  have a1 : lenAns 257 = (284, 5, 30, 0) := by decide
  have a2 : disAns 6 = (4, 1, 1, 0) := by decide
  rw [a1] at h1
  rw [a2] at h2
  clear a1 a2
  have e1 : exErr [(0, 0, 97), (0, 0, 98), (4, 2, 0)] = 0 := by decide
  have e2 : exAns [(0, 0, 97), (0, 0, 98), (4, 2, 0)] = [97, 98, 97, 98, 97, 98] := by decide
  have hf : Fits [(0, 0, 97), (0, 0, 98), (4, 2, 0)] := by
    intro t ht
    simp only [List.mem_cons, List.not_mem_nil, or_false] at ht
    rcases ht with rfl | rfl | rfl <;> (unfold InT; decide)
  have hex := fun W => expand_st ((St.start W).newBox (tks [(0, 0, 97), (0, 0, 98), (4, 2, 0)]).toArray 37) _ _ (toks_box hf (by decide)) (by decide)
  unfold ExpandSt at hex
  rw [e1, e2] at hex
  clear e1 e2 hf
  go_enter Try.func17, Try.ntmps17
  go_wp2_with (first | (go_at_call 9; refine (h1 _).mono ?_; rintro e w1 ⟨rfl, hb1⟩) | (go_at_call 11; refine (h2 _).mono ?_; rintro e w2 ⟨rfl, hb2⟩) | (go_at_call 20; refine (hex _).mono ?_; rintro e w3 ⟨v3, rfl, s3⟩; obtain ⟨va, vc, rfl⟩ := ownsRow_slice s3.row; have hstr : (convert 33 9 (.slice va 6 vc)).run Try.prog w3 = .ok (.string ⟨#[97, 98, 97, 98, 97, 98]⟩) w3 := s3.string; have hb3 := s3.below (Nat.le_refl _); clear s3))
  go_ret
  exact ⟨rfl, Below.andThen (Below.andThen hb1 hb2) hb3⟩

end Go.Proofs.Ytmooiheomecieaa.Tok
