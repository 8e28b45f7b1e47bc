/-
  Contracts of package sufsort: Ends, Rotations. No conditions but that rows are small.
-/
import Derived.Test.YtfifkbadniekfaaSufF
namespace Go.Proofs.Ytfifkbadniekfaa.Suf
open Go.RowKit

theorem endBehind_enters (args : Array Value) (w : World) : (callFunc 24 args).run Try.prog w = .ok (.enter 24 args) w := by
  simp [callFunc, Try.func24, Try.f24]

section
variable {B : Nat} {w0 w : World} {r : List Thing}

set_option maxRecDepth 100000 in
set_option maxHeartbeats 2000000 in
/-- Ends: all places in the order of the ends from there on. -/
theorem ends_st (st : St B w0 w r) (v : Value) (b : List Nat) (hv : ∀ W, St B w0 W r → ByteRow W v b) (hb : b.length ≤ 400000) : Calls Try.prog 15 #[v] w (OrderSt B w0 r false b) := by
  obtain ⟨va, vc, rfl⟩ : ∃ a c, v = .slice a b.length c := by obtain ⟨a, c, e, _⟩ := hv w st; exact ⟨a, c, e⟩
  have hmf : ∀ (fn : Fn) (first cap : Array Value) (w : World), (Instr.makeFunc fn first cap).run Try.prog w = .ok (.func fn first cap) w := fun _ _ _ _ => rfl
  obtain ⟨bb, hbb⟩ : ∃ x, w.heap.size = x := ⟨_, rfl⟩
  have s1 := st.newBox #[.slice va b.length vc] 22
  rw [hbb] at s1
  have k0 := (s1.boxAt 0).1
  simp only [List.getElem?_toArray, List.getElem?_cons_zero] at k0
  have hs := sorted_st false s1 (.slice va b.length vc) b (fun W t => hv W t.drop) hb 24 (.pointer (some ⟨bb, 0, none⟩)) endBehind_enters (fun W t p d hp hd => endBehind_any W bb va b.length vc (t.boxAt 0).1 p d (by omega) (by omega))
  have HV := Lib.hid hv
  clear hv st
  go_enter Try.func15, Try.ntmps15
  go_wp2_with fail
  refine hs.mono ?_
  rintro e w2 ⟨O, hO, g, rfl, s2⟩
  go_wp2_with fail
  go_ret
  exact ⟨O, hO, g, rfl, s2.swap.drop⟩

end
end Go.Proofs.Ytfifkbadniekfaa.Suf
