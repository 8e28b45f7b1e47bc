/-
  The contract of the writer's Add of package msb. No conditions but that rows are small.
-/
import Derived.Test.YtlhhoiimmalpgaaMsbS
namespace Go.Proofs.Ytlhhoiimmalpgaa.Msb
open Go.RowKit

theorem chunk (lx : List Bool) (k : Nat) (hk : k < (pk lx).length) : lx.take (8 * k) ++ bitsOf ((pk lx)[k] / 2 ^ (8 - min (lx.length - 8 * k) 8)) (min (lx.length - 8 * k) 8) = lx.take (8 * (k + 1)) := by
  have e : min (lx.length - 8 * k) 8 = ((lx.drop (8 * k)).take 8).length := by simp; omega
  rw [pk_get, e, Nat.mul_div_cancel _ (Nat.two_pow_pos _), bitsOf_num, show 8 * (k + 1) = 8 * k + 8 from by omega, List.take_add]

/-- Behind the loop's round. -/
def SpreadTo (w : World) (pb : Nat) (v : Value) (l' : List Bool) (w' : World) : Prop := WrTo w pb v l' w'

theorem bytes_add (w : World) (xb : Nat) (vx : Value) (lx : List Bool) (hx : Wr w xb vx lx) (hl : lx.length < 1125899906841900) :
    Calls Try.prog 16 #[.pointer (some ⟨xb, 0, none⟩)] w.drew fun e w' => ∃ rv, e = .returned rv ∧ w'.cell? ⟨xb, 1, none⟩ = some (.int .i64 (lx.length : Int)) ∧ w'.ownsRow w.heap.size 5 1 rv (pk lx).length (u8s (pk lx)) ∧ Below w.heap.size w w' := by
  have hx1 : Wr w.drew xb vx lx := hx.only ((Only.refl (fun _ => False) w).drew) (fun _ _ f => f)
  refine (bytes_any w.drew xb vx lx hx1 (by omega)).mono ?_
  rintro e w' ⟨rv, rfl, hown, hbel⟩
  have h2 := cell_two (hx1.only (Below.only hbel (Nat.le_refl _) (fun _ => False)) (fun _ _ f => f)).head
  exact ⟨rv, rfl, h2.2.1, hown, (Below.refl _ _).drew.trans hbel⟩

set_option maxRecDepth 100000 in
theorem add_any (w : World) (pb xb : Nat) (v vx : Value) (l lx : List Bool) (h : Wr w pb v l) (hx : Wr w xb vx lx) (hl : l.length + lx.length < 1125899906841900) :
    Calls Try.prog 12 #[.pointer (some ⟨pb, 0, none⟩), .pointer (some ⟨xb, 0, none⟩)] w fun e w' => e = .returned (.int .i64 0) ∧ WrTo w pb v (l ++ lx) w' := by
  obtain ⟨hc0, hc1, hf0, hf1⟩ := cell_two hx.head
  go_enter Try.func12, Try.ntmps12
  go_wp2_with fail
  go_region_with ((go_at_call 16; refine (bytes_add w xb vx lx hx (by omega)).mono ?_; rintro e w1 ⟨rv, rfl, hcc, hown, hbel⟩))
  all_goals
    have h1 : Wr w1 pb v l := h.only (Below.only hbel (Nat.le_refl _) (fun _ => False)) (fun _ _ f => f)
    have ho1 : Only (Mine pb v) w w1 := Below.only hbel (Nat.le_refl _) _
    have hlt1 : ∀ k, Mine pb v k → k < w.heap.size := fun k hk => h.lt hk
    have hn1 : (pk lx).length = (lx.length + 7) / 8 := pk_length lx
    have HN := Lib.hid hn1
    have hn2 : (pk lx).length ≤ 140737488355328 := by omega
    obtain ⟨ao, c, rfl⟩ := ownsRow_slice hown
    clear hn1 hc0 hc1 hf0 hf1 hcc hbel
    go_wp2
    go_loopw [6, 8, 9, 24] (fun a _ _ i wr => ∃ k : Nat, k ≤ (pk lx).length ∧ i = .int .i64 (k : Int) ∧ a = .int .i64 ((lx.length - 8 * k : Nat) : Int) ∧ SpreadTo w1 pb v (l ++ lx.take (8 * k)) wr) (fun _ _ _ i _ => (pk lx).length - (intOf i).toNat)
    case atStart => exact ⟨0, Nat.zero_le _, rfl, rfl, by unfold SpreadTo; simpa using WrTo.refl h1⟩
    case round =>
      obtain ⟨k, hk, rfl, rfl, hto⟩ := hrel
      by_cases hlt : k < (pk lx).length
      · obtain ⟨v1, g1, g2, g3⟩ := hto
        obtain ⟨g, rfl⟩ : ∃ g, ao = some ⟨g, 0, none⟩ := by
          rcases hown.2 with ⟨e1, e2⟩ | ⟨g, cap, cur, e1, _⟩
          · omega
          · exact ⟨g, (Value.slice.inj e1).1⟩
        have hg := (hown.lt g rfl).1
        have hown2 := ownsRow_only hown g2 (fun j hj hm => by have := hlt1 j hm; simp [Value.ownBlock] at hj; omega)
        have hcell : wr.cell? ⟨g, k, none⟩ = some (.int .u8 ((pk lx)[k] : Int)) := by rw [hown2.cellAt _ (by omega), u8s_get _ _ hlt]
        have hby : (pk lx)[k] < 256 := pk_lt lx _ (List.getElem_mem hlt)
        have hx4 : ((pk lx)[k] : Int) % 4294967296 = ((pk lx)[k] : Int) := by omega
        have hch := chunk lx k hlt
        have HC := Lib.hid hch
        have hll : (l ++ lx.take (8 * k)).length ≤ l.length + lx.length := by simp; omega
        have HL := Lib.hid hll
        clear hown2 hch hll
        go_wp2_with fail
        · have e8 : min (lx.length - 8 * k) 8 = 8 := by omega
          have HC1 : l ++ lx.take (8 * k) ++ bitsOf (pk lx)[k] (8) = l ++ lx.take (8 * (k + 1)) := by rw [List.append_assoc, ← HC.out, e8, Nat.sub_self, Nat.pow_zero, Nat.div_one]
          have HD := Lib.hid HC1
          clear HC1 e8
          refine (spread_any wr pb v1 (l ++ lx.take (8 * k)) (pk lx)[k] (8) g1 (by have := HL.out; omega) (by omega) (by omega)).mono ?_
          rintro e w2 ⟨rfl, hto2⟩
          have hto3 : SpreadTo w1 pb v (l ++ lx.take (8 * (k + 1))) w2 := by
            rw [← HD.out]
            exact WrTo.trans g2 g3 hto2
          clear hto2 g1 g2 g3
          go_wp2
          go_roundw
          case rel => exact ⟨k + 1, by omega, by go_num, by go_num, hto3⟩
          case measure => simp [intOf]; omega
        · have e8 : min (lx.length - 8 * k) 8 = lx.length - 8 * k := by omega
          have HC1 : l ++ lx.take (8 * k) ++ bitsOf ((pk lx)[k] / 2 ^ (8 - (lx.length - 8 * k))) (lx.length - 8 * k) = l ++ lx.take (8 * (k + 1)) := by rw [List.append_assoc, ← HC.out, e8]
          have HD := Lib.hid HC1
          clear HC1 e8
          refine (spread_any wr pb v1 (l ++ lx.take (8 * k)) ((pk lx)[k] / 2 ^ (8 - (lx.length - 8 * k))) (lx.length - 8 * k) g1 (by have := HL.out; omega) (by omega) (Nat.lt_of_le_of_lt (Nat.div_le_self _ _) (by omega))).mono ?_
          rintro e w2 ⟨rfl, hto2⟩
          have hto3 : SpreadTo w1 pb v (l ++ lx.take (8 * (k + 1))) w2 := by
            rw [← HD.out]
            exact WrTo.trans g2 g3 hto2
          clear hto2 g1 g2 g3
          go_wp2
          go_roundw
          case rel => exact ⟨k + 1, by omega, by go_num, by go_num, hto3⟩
          case measure => simp [intOf]; omega
      · go_wp2
        go_ret
        have e : lx.take (8 * k) = lx := List.take_of_length_le (by have := HN.out; omega)
        rw [e] at hto
        exact ⟨rfl, WrTo.trans ho1 (Fresh.refl _ _) hto⟩

end Go.Proofs.Ytlhhoiimmalpgaa.Msb
