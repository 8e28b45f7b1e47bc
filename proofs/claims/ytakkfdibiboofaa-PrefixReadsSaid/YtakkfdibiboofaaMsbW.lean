/-
  Contracts of the writer of package msb: what each call does to a row of bits. No conditions but that rows stay below 2^50 bits.
-/
import Derived.Test.YtakkfdibiboofaaChecked
import Derived.Test.YtakkfdibiboofaaClone
import Derived.Test.YtakkfdibiboofaaMBits
import Derived.Outline
import Derived.RegionTactic
import Derived.BigRegion
import Derived.ChangeAlike
namespace Go.Proofs.Ytakkfdibiboofaa.Msb
open Go.RowKit

/-- The writer at block pb is the row of bits l; its bytes lie in the slice v, which is its own. -/
structure Wr (w : World) (pb : Nat) (v : Value) (l : List Bool) : Prop where
  head : w.heap[pb]? = some (.cells #[v, .int .i64 (l.length : Int)] 47 (0, 0))
  row : w.ownsRow 0 5 1 v (pk l).length (u8s (pk l))
  apart : v.ownBlock ≠ some pb

/-- Behind a call the writer is the row l'; nothing else has turned. -/
def WrTo (w : World) (pb : Nat) (v : Value) (l' : List Bool) (w' : World) : Prop := ∃ v', Wr w' pb v' l' ∧ Only (Mine pb v) w w' ∧ Fresh w v v'

theorem Wr.only {S : Nat → Prop} {w w' : World} {pb : Nat} {v : Value} {l : List Bool} (h : Wr w pb v l) (ho : Only S w w') (hn : ∀ k, Mine pb v k → ¬ S k) : Wr w' pb v l :=
  ⟨ho.at h.head (hn pb (.inl rfl)), ownsRow_only h.row ho (fun g hg => hn g (.inr hg)), h.apart⟩

theorem WrTo.refl {w : World} {pb : Nat} {v : Value} {l : List Bool} (h : Wr w pb v l) : WrTo w pb v l w := ⟨v, h, Only.refl _ _, Fresh.refl _ _⟩

theorem lay_byte (x k c : Nat) (b : Bool) (hx : x = 2 ^ (8 - k) * c) (hc : c < 2 ^ k) (hk : k < 8) : bits .or .u8 (x : Int) (bits .and .u8 (b.toNat : Int) 1 * 2 ^ (7 - k) % 256) = ((x + b.toNat * 2 ^ (7 - k) : Nat) : Int) := by
  have hb : b.toNat ≤ 1 := by cases b <;> simp
  have hm : 2 ^ (8 - k) = 2 * 2 ^ (7 - k) := by rw [← Nat.pow_succ', show Nat.succ (7 - k) = 8 - k from by omega]
  have h8 : 2 ^ (8 - k) * 2 ^ k = 256 := by rw [← Nat.pow_add, show 8 - k + k = 8 from by omega]
  have hp := Nat.two_pow_pos (7 - k)
  have hx2 : x + 2 ^ (8 - k) ≤ 256 := by
    have : 2 ^ (8 - k) * (c + 1) ≤ 2 ^ (8 - k) * 2 ^ k := Nat.mul_le_mul_left _ hc
    rw [Nat.mul_add, h8, Nat.mul_one] at this
    omega
  have h3 : b.toNat * 2 ^ (7 - k) ≤ 1 * 2 ^ (7 - k) := Nat.mul_le_mul_right _ hb
  have e : (b.toNat : Int) * 2 ^ (7 - k) % 256 = ((b.toNat * 2 ^ (7 - k) : Nat) : Int) := by
    rw [show (b.toNat : Int) * 2 ^ (7 - k) = ((b.toNat * 2 ^ (7 - k) : Nat) : Int) from by simp]
    omega
  rw [bit_and, e, u8_or_nat _ _ (by omega) (by omega)]
  congr 1
  subst hx
  exact (Nat.two_pow_add_eq_or_of_lt (by omega) c).symm

theorem last_mul (l : List Bool) (h : l.length / 8 < (pk l).length) : ∃ c, (pk l)[l.length / 8] = 2 ^ (8 - l.length % 8) * c ∧ c < 2 ^ (l.length % 8) := by
  have hl : ((l.drop (8 * (l.length / 8))).take 8).length = l.length % 8 := by simp; omega
  refine ⟨_, by rw [pk_get, hl, Nat.mul_comm], ?_⟩
  have := num_lt ((l.drop (8 * (l.length / 8))).take 8)
  rwa [hl] at this

/-- One bit: where the last byte has room. -/
theorem lay_in (w : World) (pb : Nat) (v : Value) (l : List Bool) (b : Bool) (h : Wr w pb v l) (hl : l.length < 1125899906842000) (h8 : l.length % 8 ≠ 0) :
    Calls Try.prog 61 #[.pointer (some ⟨pb, 0, none⟩), .int .u8 (b.toNat : Int)] w fun e w' => e = .returned (.tuple #[]) ∧ WrTo w pb v (l ++ [b]) w' := by
  obtain ⟨hc0, hc1, hf0, hf1⟩ := cell_two h.head
  have hrow := h.row
  obtain ⟨g, cap, cur, rfl, _, hg, hnc, hcm, hcs, htake⟩ := h.row.2.resolve_left (by rintro ⟨_, h0⟩; rw [pk_length] at h0; omega)
  have hlt : l.length / 8 < (pk l).length := by rw [pk_length]; omega
  have hx : w.cell? ⟨g, l.length / 8, none⟩ = some (.int .u8 ((pk l)[l.length / 8] : Int)) := by
    rw [hrow.cellAt _ (by omega), u8s_get _ _ hlt]
  have hfx := hrow.frozenAt (l.length / 8)
  have e7 : bits .and .i64 (l.length : Int) 7 = ((l.length % 8 : Nat) : Int) := by rw [and7]; omega
  have hz : (((l.length % 8 : Nat) : Int) == 0) = false := by rw [beq_eq_false_iff_ne]; omega
  have hne : g ≠ pb := fun e => h.apart (by simp [Value.ownBlock, e])
  have hne' : pb ≠ g := fun e => hne e.symm
  clear hcs htake hg hcm
  go_enter Try.func61, Try.ntmps61
  go_wp2
  go_region
  go_wp2
  go_end0
  obtain ⟨c, hc1, hc2⟩ := last_mul l hlt
  rw [lay_byte _ _ c b hc1 hc2 (by omega)]
  refine ⟨rfl, _, ⟨?_, ?_, h.apart⟩, ?_, Fresh.refl _ _⟩
  · have h1 := two_set1 (w := w.setCell ⟨g, l.length / 8, none⟩ (.int .u8 (((pk l)[l.length / 8] + b.toNat * 2 ^ (7 - l.length % 8) : Nat) : Int))) (by rw [Below.heap_setCell _ _ _ _ hne']; exact h.head) (.int .i64 ((l.length : Int) + 1))
    rw [show ((l ++ [b]).length : Int) = (l.length : Int) + 1 from by simp]
    exact h1
  · have e1 : pk (l ++ [b]) = (pk l).set (l.length / 8) ((pk l)[l.length / 8] + b.toNat * 2 ^ (7 - l.length % 8)) := by
      rw [← layRow_pk, layRow, if_neg h8, getD_in _ _ hlt]
    have h1 := (hrow.stored (l.length / 8) (.int .u8 (((pk l)[l.length / 8] + b.toNat * 2 ^ (7 - l.length % 8) : Nat) : Int))).1
    rw [e1, u8s_set, List.length_set]
    exact ownsRow_only (S := fun k => k = pb) h1 (((Only.refl (fun k => k = pb) _).setCell (p := ⟨pb, 1, none⟩) (fun _ => rfl) _).drew) (fun k hk e => hne (by simpa [Value.ownBlock, e] using hk))
  · exact (((Only.refl _ _).setCell (fun _ => .inr rfl) _).setCell (fun _ => .inl rfl) _).drew

/-- One bit: where a byte more is wanted. -/
theorem lay_out (w : World) (pb : Nat) (v : Value) (l : List Bool) (b : Bool) (h : Wr w pb v l) (hl : l.length < 1125899906842000) (h8 : l.length % 8 = 0) :
    Calls Try.prog 61 #[.pointer (some ⟨pb, 0, none⟩), .int .u8 (b.toNat : Int)] w fun e w' => e = .returned (.tuple #[]) ∧ WrTo w pb v (l ++ [b]) w' := by
  obtain ⟨hc0, hc1, hf0, hf1⟩ := cell_two h.head
  have hrow := h.row
  obtain ⟨i0, hi, hz0, hz1, hz2⟩ := info_parts info8
  have e7 : bits .and .i64 (l.length : Int) 7 = 0 := by rw [and7]; omega
  have hpb := lt_of_block h.head
  go_enter Try.func61, Try.ntmps61
  go_wp2_with ((at_builtin; refine wpList_append_mine _ rfl _ _ 22 rfl 5 i0 (.int .u8 0) 1 1 Try.underlying22 hi hz0 hz1 hz2 rfl (by decide) _ _ _ rfl (hrow.alloc _) (some ⟨w.heap.size, 0, none⟩) 1 1 [.int .u8 0] rfl ?c0 rfl ?c1 ?c2 ?c3 ?c4 ?_))
  case c0 => intro e; cases e
  case c1 =>
    intro a ha j u hu
    obtain rfl := Option.some.inj ha
    cases j with
    | zero => simp at hu; subst hu; simp [Addr.add]
    | succ j => simp at hu
  case c2 => intro u hu; simp at hu; subst hu; rfl
  case c3 => rw [pk_length]; unfold maxLen; omega
  case c4 => rw [pk_length]; omega
  intro v1 w1 hown1 hgrow1 hfr1
  have hfr : Fresh w v v1 := by
    rcases hfr1 with h1 | h1
    · exact .inl h1
    · exact .inr fun g hg => by have := h1 g hg; simp at this; omega
  have hon1 : Only (Mine pb v) w w1 := ((Only.refl _ _).alloc _).grown hgrow1 (fun k hk _ => .inr hk)
  have hhead1 : w1.heap[pb]? = some (.cells #[v, .int .i64 (l.length : Int)] 47 (0, 0)) := by
    rw [hgrow1.block pb (by simp; omega) (fun e => h.apart e.symm), Below.heap_alloc _ _ _ hpb]
    exact h.head
  obtain ⟨g, cap, cur, rfl, _, hg, hnc, hcm, hcs, htake⟩ := hown1.2.resolve_left (by rintro ⟨_, h0⟩; omega)
  have hne : g ≠ pb := fun e => h.apart (hfr.of (by simp [Value.ownBlock, e]) hpb)
  have hne' : pb ≠ g := fun e => hne e.symm
  obtain ⟨gc0, gc1, gf0, gf1⟩ := cell_two hhead1
  have hlt : l.length / 8 < (pk l).length + 1 := by rw [pk_length]; omega
  have hlt' : l.length / 8 = (pk l).length := by rw [pk_length]; omega
  have hx : w1.cell? ⟨g, l.length / 8, none⟩ = some (.int .u8 0) := by
    rw [hown1.cellAt _ (by omega), hlt', List.getElem?_append_right (by simp [u8s_length])]
    simp [u8s_length]
  have hfx := hown1.frozenAt (l.length / 8)
  have HL := Lib.hid hlt'
  clear hc0 hc1 hf0 hf1 hi hz0 hz1 hz2 hgrow1 hfr1 hcs htake hcm hg hrow hlt'
  go_wp2
  go_region
  go_wp2
  go_end0
  rw [show bits .or .u8 0 (bits .and .u8 (b.toNat : Int) 1 * 128 % 256) = ((b.toNat * 128 : Nat) : Int) from by cases b <;> decide]
  refine ⟨rfl, _, ⟨?_, ?_, ?_⟩, ?_, hfr⟩
  · have h0 := two_set0 hhead1 (.slice (some ⟨g, 0, none⟩) ((pk l).length + 1) cap)
    have h1 := two_set1 (w := (w1.setCell ⟨pb, 0, none⟩ (.slice (some ⟨g, 0, none⟩) ((pk l).length + 1) cap)).setCell ⟨g, l.length / 8, none⟩ (.int .u8 ((b.toNat * 128 : Nat) : Int))) (by rw [Below.heap_setCell _ _ _ _ hne']; exact h0) (.int .i64 ((l.length : Int) + 1))
    rw [show ((l ++ [b]).length : Int) = (l.length : Int) + 1 from by simp]
    exact h1
  · have e1 : u8s (pk (l ++ [b])) = (u8s (pk l) ++ [Value.int .u8 0]).set (l.length / 8) (.int .u8 ((b.toNat * 128 : Nat) : Int)) := by
      rw [← layRow_pk, layRow, if_pos h8, u8s_append, HL.out, List.set_append_right _ _ (by simp [u8s_length])]
      simp [u8s]
    have e2 : (pk (l ++ [b])).length = (pk l).length + 1 := by rw [← layRow_pk, layRow, if_pos h8]; simp
    have hs := ownsRow_only (S := fun k => k = pb) hown1 ((Only.refl (fun k => k = pb) _).setCell (p := ⟨pb, 0, none⟩) (fun _ => rfl) (.slice (some ⟨g, 0, none⟩) ((pk l).length + 1) cap)) (fun k hk e => hne (by simpa [Value.ownBlock, e] using hk))
    have h1 := (hs.stored (l.length / 8) (.int .u8 ((b.toNat * 128 : Nat) : Int))).1
    rw [e1, e2]
    exact ownsRow_only (S := fun k => k = pb) h1 (((Only.refl (fun k => k = pb) _).setCell (p := ⟨pb, 1, none⟩) (fun _ => rfl) _).drew) (fun k hk e => hne (by simpa [Value.ownBlock, e] using hk))
  · simpa [Value.ownBlock] using hne
  · refine (((hon1.setCell (fun _ => .inl rfl) _).setCell (fun hg => ?_) _).setCell (fun _ => .inl rfl) _).drew
    exact Mine.of_fresh hfr hg (.inr rfl)

/-- One bit. -/
theorem lay_any (w : World) (pb : Nat) (v : Value) (l : List Bool) (b : Bool) (h : Wr w pb v l) (hl : l.length < 1125899906842000) :
    Calls Try.prog 61 #[.pointer (some ⟨pb, 0, none⟩), .int .u8 (b.toNat : Int)] w fun e w' => e = .returned (.tuple #[]) ∧ WrTo w pb v (l ++ [b]) w' := by
  by_cases h8 : l.length % 8 = 0
  · exact lay_out w pb v l b h hl h8
  · exact lay_in w pb v l b h hl h8

end Go.Proofs.Ytakkfdibiboofaa.Msb
