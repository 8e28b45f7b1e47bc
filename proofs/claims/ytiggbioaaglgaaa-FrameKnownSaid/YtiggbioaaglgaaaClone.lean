/-
  bytes.Clone: new memory, the same bytes. No conditions.
-/
import Derived.Test.YtiggbioaaglgaaaBytes
namespace Go.Proofs.Ytiggbioaaglgaaa
open Go.RowKit

/-- bytes.Clone: new memory, the same bytes. -/
theorem clone_any (w : World) (v : Value) (xs : List Nat) (h : Reads w v (u8s xs)) (hl : xs.length ≤ 140737488355328) :
    Calls Try.prog 55 #[v] w fun e w' => ∃ v', e = .returned v' ∧ w'.ownsRow w.heap.size 5 1 v' xs.length (u8s xs) ∧ Below w.heap.size w w' := by
  obtain ⟨i0, hi, hz0, hz1, hz2⟩ := info_parts info8
  have hnil := fun (w : World) (a : Option Addr) (n c : Nat) => Lib.run_eql_slice_nil (P := Try.prog) w 23 5 a n c 0 0 Try.underlying23
  rcases h with ⟨rfl, h0⟩ | ⟨a, cap, rfl, hcell⟩
  · go_enter Try.func55, Try.ntmps55
    go_wp2
    go_ret
    have : xs = [] := by simpa [u8s] using h0
    subst this
    exact ⟨_, rfl, World.ownsRow_nil _ _ _ _, Below.refl _ _⟩
  · rw [u8s_length]
    go_enter Try.func55, Try.ntmps55
    have hc2 : ∀ j u, (u8s xs)[j]? = some u → (w.alloc (.cells #[] 5)).cell? (a.add j) = some u := fun j u hu => cell_alloc (hcell j u hu) _
    have H2 := Lib.hid hc2
    have H3 := Lib.hid hcell
    clear hc2 hcell
    go_wp2_with ((at_builtin; refine wpList_append_own _ rfl _ _ 23 rfl w.heap.size 5 i0 (.int .u8 0) 1 1 Try.underlying23 hi hz0 hz1 hz2 rfl (by decide) _ _ _ rfl (World.ownsRow_made w #[] 0 (Nat.le_refl _) (by unfold maxLen; omega) rfl) a xs.length cap (u8s xs) rfl ?c0 H2.out (u8s_one xs) ?c3 ?c4 ?c5 ?_))
    case c0 => rw [u8s_length]; omega
    case c3 => unfold maxLen; omega
    case c4 => omega
    case c5 => simp
    intro v1 w1 hown1 hgrow1 _
    clear hi hz0 hz1 hz2 hnil
    go_wp2
    go_ret
    refine ⟨_, rfl, ?_, ?_⟩
    · simpa using hown1
    · exact ((Below.refl _ _).alloc (Nat.le_refl _) _).grown hgrow1 (by simp) (fun k hk => by simp [Value.ownBlock] at hk; omega)

end Go.Proofs.Ytiggbioaaglgaaa
