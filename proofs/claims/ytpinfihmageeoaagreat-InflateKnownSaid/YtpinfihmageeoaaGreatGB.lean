/-
  LsbW LsbP LsbR LsbA LsbS LsbAdd LsbT, one behind the other (merged by wip/merge.py). No conditions but those that each states.
-/
import Derived.Test.YtpinfihmageeoaaGreatChecked
import Derived.Test.YtpinfihmageeoaaGreatGA
import Derived.Outline
import Derived.RegionTactic
import Derived.BigRegion
import Derived.ChangeAlike
import Derived.WalkSpells
import Derived.Deep.RegionWith
import Derived.IntWalk

namespace Go.Proofs.YtpinfihmageeoaaGreat
open Go.RowKit

structure Wr (w : World) (pb : Nat) (v : Value) (l : List Bool) : Prop where
  head : w.heap[pb]? = some (.cells #[v, .int .i64 (l.length : Int)] 34 (0, 0))
  row : w.ownsRow 0 5 1 v (pk l).length (u8s (pk l))
  apart : v.ownBlock ≠ some pb

def WrTo (w : World) (pb : Nat) (v : Value) (l' : List Bool) (w' : World) : Prop := ∃ v', Wr w' pb v' l' ∧ Only (Mine pb v) w w' ∧ Fresh w v v'

theorem Wr.only {S : Nat → Prop} {w w' : World} {pb : Nat} {v : Value} {l : List Bool} (h : Wr w pb v l) (ho : Only S w w') (hn : ∀ k, Mine pb v k → ¬ S k) : Wr w' pb v l :=
  ⟨ho.at h.head (hn pb (.inl rfl)), ownsRow_only h.row ho (fun g hg => hn g (.inr hg)), h.apart⟩

theorem WrTo.refl {w : World} {pb : Nat} {v : Value} {l : List Bool} (h : Wr w pb v l) : WrTo w pb v l w := ⟨v, h, Only.refl _ _, Fresh.refl _ _⟩

theorem lay_byte (x k : Nat) (b : Bool) (hx : x < 2 ^ k) (hk : k < 8) : bits .or .u8 (x : Int) (bits .and .u8 (b.toNat : Int) 1 * 2 ^ k % 256) = ((x + b.toNat * 2 ^ k : Nat) : Int) := by
  have hb : b.toNat ≤ 1 := by cases b <;> simp
  have h2 : 2 ^ (k + 1) ≤ 2 ^ 8 := Nat.pow_le_pow_right (by omega) (by omega)
  rw [Nat.pow_succ] at h2
  have h3 : b.toNat * 2 ^ k ≤ 1 * 2 ^ k := Nat.mul_le_mul_right _ hb
  have e : (b.toNat : Int) * 2 ^ k % 256 = ((b.toNat * 2 ^ k : Nat) : Int) := by
    rw [show (b.toNat : Int) * 2 ^ k = ((b.toNat * 2 ^ k : Nat) : Int) from by simp]
    omega
  rw [bit_and, e]
  exact or_free_u8 x b.toNat k hx hb hk

theorem last_lt (l : List Bool) (h : l.length / 8 < (pk l).length) : (pk l)[l.length / 8] < 2 ^ (l.length % 8) := by
  rw [pk_get]
  refine Nat.lt_of_lt_of_le (num_lt _) (Nat.pow_le_pow_right (by omega) ?_)
  simp
  omega

theorem lay_in (w : World) (pb : Nat) (v : Value) (l : List Bool) (b : Bool) (h : Wr w pb v l) (hl : l.length < 1125899906842000) (h8 : l.length % 8 ≠ 0) :
    Calls Tryz.prog 23 #[.pointer (some ⟨pb, 0, none⟩), .int .u8 (b.toNat : Int)] w fun e w' => e = .returned (.tuple #[]) ∧ WrTo w pb v (l ++ [b]) w' := by
  obtain ⟨hc0, hc1, hf0, hf1⟩ := cell_two h.head
  have hrow := h.row
  obtain ⟨g, cap, cur, rfl, _, hg, hnc, hcm, hcs, htake⟩ := h.row.2.resolve_left (by rintro ⟨_, h0⟩; rw [pk_length] at h0; omega)
  have hlt : l.length / 8 < (pk l).length := by rw [pk_length]; omega
  have hx : w.cell? ⟨g, l.length / 8, none⟩ = some (.int .u8 ((pk l)[l.length / 8] : Int)) := by
    rw [hrow.cellAt _ (by omega), u8s_get _ _ hlt]
  have hfx := hrow.frozenAt (l.length / 8)
  have e7 : bits .and .i64 (l.length : Int) 7 = ((l.length % 8 : Nat) : Int) := by rw [and7]; omega
  have hz : (((l.length % 8 : Nat) : Int) == 0) = false := by rw [beq_eq_false_iff_ne]; omega
  have hne : g ≠ pb := fun e => h.apart (by simp [Value.ownBlock, e])
  have hne' : pb ≠ g := fun e => hne e.symm
  clear hcs htake hg hcm
  go_enter Tryz.func23, Tryz.ntmps23
  go_wp2
  go_region
  go_wp2
  go_end0
  rw [lay_byte _ _ b (last_lt l hlt) (by omega)]
  refine ⟨rfl, _, ⟨?_, ?_, h.apart⟩, ?_, Fresh.refl _ _⟩
  · have h1 := two_set1 (w := w.setCell ⟨g, l.length / 8, none⟩ (.int .u8 (((pk l)[l.length / 8] + b.toNat * 2 ^ (l.length % 8) : Nat) : Int))) (by rw [Below.heap_setCell _ _ _ _ hne']; exact h.head) (.int .i64 ((l.length : Int) + 1))
    rw [show ((l ++ [b]).length : Int) = (l.length : Int) + 1 from by simp]
    exact h1
  · have e1 : pk (l ++ [b]) = (pk l).set (l.length / 8) ((pk l)[l.length / 8] + b.toNat * 2 ^ (l.length % 8)) := by
      rw [← layRow_pk, layRow, if_neg h8, getD_in _ _ hlt]
    have h1 := (hrow.stored (l.length / 8) (.int .u8 (((pk l)[l.length / 8] + b.toNat * 2 ^ (l.length % 8) : Nat) : Int))).1
    rw [e1, u8s_set, List.length_set]
    exact ownsRow_only (S := fun k => k = pb) h1 (((Only.refl (fun k => k = pb) _).setCell (p := ⟨pb, 1, none⟩) (fun _ => rfl) _).drew) (fun k hk e => hne (by simpa [Value.ownBlock, e] using hk))
  · exact (((Only.refl _ _).setCell (fun _ => .inr rfl) _).setCell (fun _ => .inl rfl) _).drew

theorem lay_out (w : World) (pb : Nat) (v : Value) (l : List Bool) (b : Bool) (h : Wr w pb v l) (hl : l.length < 1125899906842000) (h8 : l.length % 8 = 0) :
    Calls Tryz.prog 23 #[.pointer (some ⟨pb, 0, none⟩), .int .u8 (b.toNat : Int)] w fun e w' => e = .returned (.tuple #[]) ∧ WrTo w pb v (l ++ [b]) w' := by
  obtain ⟨hc0, hc1, hf0, hf1⟩ := cell_two h.head
  have hrow := h.row
  obtain ⟨i0, hi, hz0, hz1, hz2⟩ := info_parts info8
  have e7 : bits .and .i64 (l.length : Int) 7 = 0 := by rw [and7]; omega
  have hpb := lt_of_block h.head
  go_enter Tryz.func23, Tryz.ntmps23
  go_wp2_with ((at_builtin; refine wpList_append_mine _ rfl _ _ 26 rfl 5 i0 (.int .u8 0) 1 1 Tryz.underlying26 hi hz0 hz1 hz2 rfl (by decide) _ _ _ rfl (hrow.alloc _) (some ⟨w.heap.size, 0, none⟩) 1 1 [.int .u8 0] rfl ?c0 rfl ?c1 ?c2 ?c3 ?c4 ?_))
  case c0 => intro e; cases e
  case c1 =>
    intro a ha j u hu
    obtain rfl := Option.some.inj ha
    cases j with
    | zero => simp at hu; subst hu; simp [Addr.add]
    | succ j => simp at hu
  case c2 => intro u hu; simp at hu; subst hu; rfl
  case c3 => rw [pk_length]; unfold maxLen; omega
  case c4 => rw [pk_length]; omega
  intro v1 w1 hown1 hgrow1 hfr1
  have hfr : Fresh w v v1 := by
    rcases hfr1 with h1 | h1
    · exact .inl h1
    · exact .inr fun g hg => by have := h1 g hg; simp at this; omega
  have hon1 : Only (Mine pb v) w w1 := ((Only.refl _ _).alloc _).grown hgrow1 (fun k hk _ => .inr hk)
  have hhead1 : w1.heap[pb]? = some (.cells #[v, .int .i64 (l.length : Int)] 34 (0, 0)) := by
    rw [hgrow1.block pb (by simp; omega) (fun e => h.apart e.symm), Below.heap_alloc _ _ _ hpb]
    exact h.head
  obtain ⟨g, cap, cur, rfl, _, hg, hnc, hcm, hcs, htake⟩ := hown1.2.resolve_left (by rintro ⟨_, h0⟩; omega)
  have hne : g ≠ pb := fun e => h.apart (hfr.of (by simp [Value.ownBlock, e]) hpb)
  have hne' : pb ≠ g := fun e => hne e.symm
  obtain ⟨gc0, gc1, gf0, gf1⟩ := cell_two hhead1
  have hlt : l.length / 8 < (pk l).length + 1 := by rw [pk_length]; omega
  have hlt' : l.length / 8 = (pk l).length := by rw [pk_length]; omega
  have hx : w1.cell? ⟨g, l.length / 8, none⟩ = some (.int .u8 0) := by
    rw [hown1.cellAt _ (by omega), hlt', List.getElem?_append_right (by simp [u8s_length])]
    simp [u8s_length]
  have hfx := hown1.frozenAt (l.length / 8)
  have HL := Lib.hid hlt'
  clear hc0 hc1 hf0 hf1 hi hz0 hz1 hz2 hgrow1 hfr1 hcs htake hcm hg hrow hlt'
  go_wp2
  go_region
  go_wp2
  go_end0
  rw [show bits .or .u8 0 (bits .and .u8 (b.toNat : Int) 1 % 256) = (b.toNat : Int) from by cases b <;> decide]
  refine ⟨rfl, _, ⟨?_, ?_, ?_⟩, ?_, hfr⟩
  · have h0 := two_set0 hhead1 (.slice (some ⟨g, 0, none⟩) ((pk l).length + 1) cap)
    have h1 := two_set1 (w := (w1.setCell ⟨pb, 0, none⟩ (.slice (some ⟨g, 0, none⟩) ((pk l).length + 1) cap)).setCell ⟨g, l.length / 8, none⟩ (.int .u8 (b.toNat : Int))) (by rw [Below.heap_setCell _ _ _ _ hne']; exact h0) (.int .i64 ((l.length : Int) + 1))
    rw [show ((l ++ [b]).length : Int) = (l.length : Int) + 1 from by simp]
    exact h1
  · have e1 : u8s (pk (l ++ [b])) = (u8s (pk l) ++ [Value.int .u8 0]).set (l.length / 8) (.int .u8 (b.toNat : Int)) := by
      rw [← layRow_pk, layRow, if_pos h8, u8s_append, HL.out, List.set_append_right _ _ (by simp [u8s_length])]
      simp [u8s]
    have e2 : (pk (l ++ [b])).length = (pk l).length + 1 := by rw [← layRow_pk, layRow, if_pos h8]; simp
    have hs := ownsRow_only (S := fun k => k = pb) hown1 ((Only.refl (fun k => k = pb) _).setCell (p := ⟨pb, 0, none⟩) (fun _ => rfl) (.slice (some ⟨g, 0, none⟩) ((pk l).length + 1) cap)) (fun k hk e => hne (by simpa [Value.ownBlock, e] using hk))
    have h1 := (hs.stored (l.length / 8) (.int .u8 (b.toNat : Int))).1
    rw [e1, e2]
    exact ownsRow_only (S := fun k => k = pb) h1 (((Only.refl (fun k => k = pb) _).setCell (p := ⟨pb, 1, none⟩) (fun _ => rfl) _).drew) (fun k hk e => hne (by simpa [Value.ownBlock, e] using hk))
  · simpa [Value.ownBlock] using hne
  · refine (((hon1.setCell (fun _ => .inl rfl) _).setCell (fun hg => ?_) _).setCell (fun _ => .inl rfl) _).drew
    exact Mine.of_fresh hfr hg (.inr rfl)

theorem lay_any (w : World) (pb : Nat) (v : Value) (l : List Bool) (b : Bool) (h : Wr w pb v l) (hl : l.length < 1125899906842000) :
    Calls Tryz.prog 23 #[.pointer (some ⟨pb, 0, none⟩), .int .u8 (b.toNat : Int)] w fun e w' => e = .returned (.tuple #[]) ∧ WrTo w pb v (l ++ [b]) w' := by
  by_cases h8 : l.length % 8 = 0
  · exact lay_out w pb v l b h hl h8
  · exact lay_in w pb v l b h hl h8

end Go.Proofs.YtpinfihmageeoaaGreat

namespace Go.Proofs.YtpinfihmageeoaaGreat
open Go.RowKit

theorem WrTo.trans {w w1 w2 : World} {pb : Nat} {v v1 : Value} {l2 : List Bool} (ho : Only (Mine pb v) w w1) (hf : Fresh w v v1) (k : WrTo w1 pb v1 l2 w2) : WrTo w pb v l2 w2 := by
  obtain ⟨v2, h2, o2, f2⟩ := k
  exact ⟨v2, h2, ho.trans o2 (fun i hi hm => Mine.of_fresh hf hi hm), hf.trans ho.size f2⟩

def SpreadAt (w : World) (pb : Nat) (v : Value) (l : List Bool) (x k : Nat) (wr : World) : Prop := WrTo w pb v (l ++ bitsOf x k) wr

theorem spread_bit (x : Nat) (k : Nat) : bits .and .u8 ((x : Int) / 2 ^ k % 256) 1 = (((x / 2 ^ k % 2 == 1 : Bool).toNat : Nat) : Int) := by
  have e : (x : Int) / 2 ^ k = ((x / 2 ^ k : Nat) : Int) := by simp
  rw [e, and1_u8 _ (by omega) (by omega)]
  generalize x / 2 ^ k = y
  rcases Nat.mod_two_eq_zero_or_one y with h | h <;> simp [h] <;> omega

theorem spread_any (w : World) (pb : Nat) (v : Value) (l : List Bool) (x n : Nat) (h : Wr w pb v l) (hl : l.length + n < 1125899906842000) (hn : n ≤ 32) (hx : x < 4294967296) :
    Calls Tryz.prog 22 #[.int .u32 (x : Int), .int .i64 (n : Int), .func (.func 23) #[.pointer (some ⟨pb, 0, none⟩)] #[]] w fun e w' => e = .returned (.tuple #[]) ∧ SpreadAt w pb v l x n w' := by
  have hx' : (x : Int) < 4294967296 := by omega
  go_enter Tryz.func22, Tryz.ntmps22
  go_wp2
  go_loopw [6, 8] (fun _ i wr => ∃ k : Nat, k ≤ n ∧ i = .int .i64 (k : Int) ∧ SpreadAt w pb v l x k wr) (fun _ i _ => n - (intOf i).toNat)
  case atStart => exact ⟨0, Nat.zero_le _, rfl, by unfold SpreadAt; simpa [bitsOf] using WrTo.refl h⟩
  case round =>
    obtain ⟨k, hk, rfl, hto⟩ := hrel
    by_cases hlt : k < n
    · go_wp2_with fail
      obtain ⟨v1, h1, o1, f1⟩ := hto
      rw [spread_bit x k]
      refine (lay_any wr pb v1 (l ++ bitsOf x k) _ h1 (by simp [bitsOf_length]; omega)).mono ?_
      rintro e w2 ⟨rfl, hto2⟩
      have hto3 : SpreadAt w pb v l x (k + 1) w2 := by
        unfold SpreadAt
        rw [bitsOf_snoc, ← List.append_assoc]
        exact WrTo.trans o1 f1 hto2
      clear hto2 h1 o1 f1
      go_wp2
      go_roundw
      case rel => exact ⟨k + 1, by omega, by go_num, hto3⟩
      case measure => simp [intOf]; omega
    · go_wp2
      go_end0
      obtain rfl : k = n := by omega
      exact ⟨rfl, hto⟩

theorem put_ok (w : World) (pb : Nat) (v : Value) (l : List Bool) (x n : Nat) (h : Wr w pb v l) (hl : l.length + n < 1125899906842000) (hn : n ≤ 32) (hx : x < 2 ^ n) :
    Calls Tryz.prog 7 #[.pointer (some ⟨pb, 0, none⟩), .int .u32 (x : Int), .int .i64 (n : Int)] w fun e w' => e = .returned (.int .i64 0) ∧ WrTo w pb v (l ++ bitsOf x n) w' := by
  have hx2 : x < 4294967296 := Nat.lt_of_lt_of_le hx (Nat.pow_le_pow_right (by omega) hn)
  have hx' : (x : Int) < 4294967296 := by omega
  have hq : ((x : Int) / 2 ^ n != 0) = false := by
    rw [show (x : Int) / 2 ^ n = ((x / 2 ^ n : Nat) : Int) from by simp, Nat.div_eq_of_lt hx]
    rfl
  have d1 : decide ((n : Int) < 0) = false := by simp
  have d2 : decide ((32 : Int) < (n : Int)) = false := by simp; omega
  go_enter Tryz.func7, Tryz.ntmps7
  go_wp2_with fail
  refine (spread_any w pb v l x n h hl hn hx2).mono ?_
  rintro e w1 ⟨rfl, hto⟩
  go_wp2
  go_ret
  exact ⟨rfl, hto⟩

theorem put_arg (w : World) (pb : Nat) (x n : Int) (hx0 : 0 ≤ x) (hx1 : x < 4294967296) (hn : n < 0 ∨ 32 < n ∨ ¬ x < 2 ^ n.toNat) :
    Calls Tryz.prog 7 #[.pointer (some ⟨pb, 0, none⟩), .int .u32 x, .int .i64 n] w fun e w' => e = .returned (.int .i64 5) ∧ w = w' := by
  by_cases c1 : n < 0
  · go_enter Tryz.func7, Tryz.ntmps7
    go_wp2
    go_ret
    exact ⟨rfl, rfl⟩
  · by_cases c2 : 32 < n
    · go_enter Tryz.func7, Tryz.ntmps7
      go_wp2
      go_ret
      exact ⟨rfl, rfl⟩
    · obtain ⟨k, rfl⟩ := Int.eq_ofNat_of_zero_le (show 0 ≤ n by omega)
      have hq : ((x : Int) / 2 ^ k != 0) = true := by
        obtain ⟨y, rfl⟩ := Int.eq_ofNat_of_zero_le hx0
        have h3 : ¬ (y : Int) < 2 ^ k := by rcases hn with hn | hn | hn <;> first | omega | exact hn
        have h4 : ¬ y < 2 ^ k := fun h => h3 (by exact_mod_cast h)
        rw [bne_iff_ne, show (y : Int) / 2 ^ k = ((y / 2 ^ k : Nat) : Int) from by simp]
        have := Nat.div_pos (Nat.le_of_not_lt h4) (Nat.two_pow_pos k)
        omega
      clear hn
      have d1 : decide ((k : Int) < 0) = false := by simp
      have d2 : decide ((32 : Int) < (k : Int)) = false := by simp; omega
      go_enter Tryz.func7, Tryz.ntmps7
      go_wp2
      go_ret
      exact ⟨rfl, rfl⟩

theorem pad_any (n : Nat) (w : World) (h1 : n < 1125899906842624) :
    Calls Tryz.prog 38 #[.int .i64 (n : Int)] w fun e w' => e = .returned (.int .i64 (padOf n : Int)) ∧ w = w' := by
  go_enter Tryz.func38, Tryz.ntmps38
  go_wp2
  go_ret
  refine ⟨?_, rfl⟩
  have e : bits .and .i64 (-(n : Int)) 7 = (padOf n : Int) := by rw [and7]; unfold padOf; omega
  rw [← e]
  rfl

end Go.Proofs.YtpinfihmageeoaaGreat

namespace Go.Proofs.YtpinfihmageeoaaGreat
open Go.RowKit

structure Rd (w : World) (qb : Nat) (v : Value) (xs : List Nat) (p : Nat) : Prop where
  head : w.heap[qb]? = some (.cells #[v, .int .i64 (p : Int)] 84 (0, 0))
  row : w.ownsRow 0 5 1 v xs.length (u8s xs)
  apart : v.ownBlock ≠ some qb
  byte : ∀ x ∈ xs, x < 256
  small : xs.length ≤ 70368744177664
  place : p ≤ 8 * xs.length

def RdTo (w : World) (qb : Nat) (v : Value) (xs : List Nat) (p' : Nat) (w' : World) : Prop := Rd w' qb v xs p' ∧ Only (fun k => k = qb) w w'

theorem Rd.only {S : Nat → Prop} {w w' : World} {qb : Nat} {v : Value} {xs : List Nat} {p : Nat} (h : Rd w qb v xs p) (ho : Only S w w') (hn : ∀ k, Mine qb v k → ¬ S k) : Rd w' qb v xs p :=
  ⟨ho.at h.head (hn qb (.inl rfl)), ownsRow_only h.row ho (fun g hg => hn g (.inr hg)), h.apart, h.byte, h.small, h.place⟩

theorem Rd.moved {w : World} {qb : Nat} {v : Value} {xs : List Nat} {p : Nat} (h : Rd w qb v xs p) (p' : Nat) (hp : p' ≤ 8 * xs.length) (n : Nat) : RdTo w qb v xs p' ((w.drewN n).setCell ⟨qb, 1, none⟩ (.int .i64 (p' : Int))) := by
  have ho : Only (fun k => k = qb) w ((w.drewN n).setCell ⟨qb, 1, none⟩ (.int .i64 (p' : Int))) :=
    ((Only.refl (fun k => k = qb) w).drewN n).setCell (p := ⟨qb, 1, none⟩) (fun _ => rfl) _
  refine ⟨⟨two_set1 (w := w.drewN n) h.head _, ownsRow_only h.row ho (fun g hg e => h.apart (by rw [hg, e])), h.apart, h.byte, h.small, hp⟩, ho⟩

theorem Rd.moved1 {w : World} {qb : Nat} {v : Value} {xs : List Nat} {p : Nat} (h : Rd w qb v xs p) (p' : Nat) (hp : p' ≤ 8 * xs.length) : RdTo w qb v xs p' (w.setCell ⟨qb, 1, none⟩ (.int .i64 (p' : Int))).drew := by
  have ho : Only (fun k => k = qb) w (w.setCell ⟨qb, 1, none⟩ (.int .i64 (p' : Int))).drew :=
    ((Only.refl (fun k => k = qb) w).setCell (p := ⟨qb, 1, none⟩) (fun _ => rfl) _).drew
  refine ⟨⟨two_set1 (w := w) h.head _, ownsRow_only h.row ho (fun g hg e => h.apart (by rw [hg, e])), h.apart, h.byte, h.small, hp⟩, ho⟩

theorem bit_get (xs : List Nat) (p : Nat) (h : p / 8 < xs.length) (hb : ∀ x ∈ xs, x < 256) : bits .and .u8 ((xs[p / 8] : Int) / 2 ^ (p % 8)) 1 = ((bitAt xs p).toNat : Int) := by
  rw [byte_bit _ _ (hb _ (List.getElem_mem h))]
  unfold bitAt
  rw [getD_in _ _ h]

theorem next_any (w : World) (qb : Nat) (v : Value) (xs : List Nat) (p : Nat) (h : Rd w qb v xs p) (hp : p < 8 * xs.length) :
    Calls Tryz.prog 79 #[.pointer (some ⟨qb, 0, none⟩)] w fun e w' => e = .returned (.int .u8 ((bitAt xs p).toNat : Int)) ∧ RdTo w qb v xs (p + 1) w' := by
  obtain ⟨hc0, hc1, hf0, hf1⟩ := cell_two h.head
  have hrow := h.row
  have hsm := h.small
  obtain ⟨g, cap, cur, rfl, _, hg, hnc, hcm, hcs, htake⟩ := h.row.2.resolve_left (by rintro ⟨_, h0⟩; omega)
  have hlt : p / 8 < xs.length := by omega
  have hx : w.cell? ⟨g, p / 8, none⟩ = some (.int .u8 (xs[p / 8] : Int)) := by
    rw [hrow.cellAt _ (by omega), u8s_get _ _ hlt]
  have e7 : bits .and .i64 (p : Int) 7 = ((p % 8 : Nat) : Int) := by rw [and7]; omega
  have hxb := h.byte _ (List.getElem_mem hlt)
  clear hcs htake hg hcm hrow
  go_enter Tryz.func79, Tryz.ntmps79
  go_wp2
  go_quiet (fail)
  go_wp2
  go_ret
  have e1 := bit_get xs p hlt h.byte
  have e2 := h.moved (p + 1) (by omega) nq
  exact ⟨by rw [← e1]; rfl, e2⟩

theorem left_any (w : World) (qb : Nat) (v : Value) (xs : List Nat) (p : Nat) (h : Rd w qb v xs p) :
    Calls Tryz.prog 77 #[.pointer (some ⟨qb, 0, none⟩)] w fun e w' => e = .returned (.int .i64 ((8 * xs.length - p : Nat) : Int)) ∧ ∃ n, w' = w.drewN n := by
  obtain ⟨hc0, hc1, hf0, hf1⟩ := cell_two h.head
  have hsm := h.small
  have hpl := h.place
  rcases h.row.2 with ⟨rfl, h0⟩ | ⟨g, cap, cur, rfl, _, hg, hnc, hcm, hcs, htake⟩
  · go_enter Tryz.func77, Tryz.ntmps77
    go_wp2
    go_quiet (fail)
    go_wp2
    go_ret
    exact ⟨ret_int (by omega), _, rfl⟩
  · go_enter Tryz.func77, Tryz.ntmps77
    go_wp2
    go_quiet (fail)
    go_wp2
    go_ret
    exact ⟨ret_int (by omega), _, rfl⟩

theorem at_any (w : World) (qb : Nat) (v : Value) (xs : List Nat) (p : Nat) (h : Rd w qb v xs p) :
    Calls Tryz.prog 21 #[.pointer (some ⟨qb, 0, none⟩)] w fun e w' => e = .returned (.int .i64 (p : Int)) ∧ w = w' := by
  obtain ⟨hc0, hc1, hf0, hf1⟩ := cell_two h.head
  go_enter Tryz.func21, Tryz.ntmps21
  go_wp2
  go_ret
  exact ⟨rfl, rfl⟩

theorem ralign_any (w : World) (qb : Nat) (v : Value) (xs : List Nat) (p : Nat) (h : Rd w qb v xs p) :
    Calls Tryz.prog 20 #[.pointer (some ⟨qb, 0, none⟩)] w fun e w' => e = .returned (.tuple #[]) ∧ RdTo w qb v xs (p + padOf p) w' := by
  obtain ⟨hc0, hc1, hf0, hf1⟩ := cell_two h.head
  have hsm := h.small
  have hpl := h.place
  have hp8 : padOf p < 8 := by unfold padOf; omega
  have hp9 : p + padOf p ≤ 8 * xs.length := by unfold padOf; omega
  go_enter Tryz.func20, Tryz.ntmps20
  go_wp2
  go_region_with ((go_at_call 38; refine (pad_any p _ (by omega)).mono ?_; rintro e w1 ⟨rfl, rfl⟩))
  all_goals go_end0
  all_goals
    rw [IntWalk.i64_in _ (by omega)]
    have e2 := h.moved1 (p + padOf p) hp9
    rw [Int.natCast_add] at e2
    exact ⟨rfl, e2⟩

theorem gather_bit (a k : Nat) (b : Bool) (ha : a < 2 ^ k) (hk : k < 32) : bits .or .u32 (a : Int) ((b.toNat : Int) % 4294967296 * 2 ^ k % 4294967296) = ((a + b.toNat * 2 ^ k : Nat) : Int) := by
  have hb : b.toNat ≤ 1 := by cases b <;> simp
  have h2 : 2 ^ (k + 1) ≤ 2 ^ 32 := Nat.pow_le_pow_right (by omega) (by omega)
  rw [Nat.pow_succ] at h2
  have h3 : b.toNat * 2 ^ k ≤ 1 * 2 ^ k := Nat.mul_le_mul_right _ hb
  have e : (b.toNat : Int) % 4294967296 * 2 ^ k % 4294967296 = ((b.toNat * 2 ^ k : Nat) : Int) := by
    rw [show (b.toNat : Int) % 4294967296 = (b.toNat : Int) from by omega]
    rw [show (b.toNat : Int) * 2 ^ k = ((b.toNat * 2 ^ k : Nat) : Int) from by simp]
    omega
  rw [e]
  exact or_free_u32 a b.toNat k ha hb hk

theorem gather_any (w : World) (qb : Nat) (v : Value) (xs : List Nat) (p n : Nat) (h : Rd w qb v xs p) (hn : n ≤ 32) (hp : p + n ≤ 8 * xs.length) :
    Calls Tryz.prog 78 #[.int .i64 (n : Int), .func (.func 79) #[.pointer (some ⟨qb, 0, none⟩)] #[]] w fun e w' => e = .returned (.int .u32 (num (bitsAt xs p n) : Int)) ∧ RdTo w qb v xs (p + n) w' := by
  go_enter Tryz.func78, Tryz.ntmps78
  go_wp2
  go_loopw [5, 6, 8] (fun a _ i wr => ∃ k : Nat, k ≤ n ∧ i = .int .i64 (k : Int) ∧ a = .int .u32 (num (bitsAt xs p k) : Int) ∧ RdTo w qb v xs (p + k) wr) (fun _ _ i _ => n - (intOf i).toNat)
  case atStart => exact ⟨0, Nat.zero_le _, rfl, rfl, h, Only.refl _ _⟩
  case round =>
    obtain ⟨k, hk, rfl, rfl, hto⟩ := hrel
    have hb := num_bitsAt_lt xs p k
    by_cases hlt : k < n
    · go_wp2_with fail
      refine (next_any wr qb v xs (p + k) hto.1 (by omega)).mono ?_
      rintro e w2 ⟨rfl, hto2⟩
      have hto3 : RdTo w qb v xs (p + (k + 1)) w2 := ⟨hto2.1, hto.2.trans hto2.2 (fun _ _ t => t)⟩
      clear hto2 hto
      go_wp2
      go_roundw
      case rel => exact ⟨k + 1, by omega, by go_num, by rw [gather_bit _ _ _ hb (by omega), num_bitsAt_succ], hto3⟩
      case measure => simp [intOf]; omega
    · go_wp2
      go_ret
      obtain rfl : k = n := by omega
      exact ⟨rfl, hto⟩

theorem get_ok (w : World) (qb : Nat) (v : Value) (xs : List Nat) (p n : Nat) (h : Rd w qb v xs p) (hn : n ≤ 32) (hp : p + n ≤ 8 * xs.length) :
    Calls Tryz.prog 55 #[.pointer (some ⟨qb, 0, none⟩), .int .i64 (n : Int)] w fun e w' => e = .returned (.tuple #[.int .u32 (num (bitsAt xs p n) : Int), .int .i64 0]) ∧ RdTo w qb v xs (p + n) w' := by
  have d1 : decide ((n : Int) < 0) = false := by simp
  have d2 : decide ((32 : Int) < (n : Int)) = false := by simp; omega
  have d3 : decide (8 * xs.length - p < n) = false := by simp; omega
  have d4 : decide (((8 * xs.length - p : Nat) : Int) < (n : Int)) = false := by simp; omega
  go_enter Tryz.func55, Tryz.ntmps55
  go_wp2_with fail
  refine (left_any w qb v xs p h).mono ?_
  rintro e w1 ⟨rfl, nq, rfl⟩
  go_wp2_with fail
  have h1 : Rd (w.drewN nq) qb v xs p := h.only ((Only.refl (fun _ => False) w).drewN nq) (fun _ _ f => f)
  refine (gather_any _ qb v xs p n h1 hn hp).mono ?_
  rintro e w2 ⟨rfl, hto⟩
  go_wp2
  go_ret2
  exact ⟨rfl, hto.1, ((Only.refl (fun k => k = qb) w).drewN nq).trans hto.2 (fun _ _ t => t)⟩

theorem get_form (w : World) (qb : Nat) (v : Value) (xs : List Nat) (p n : Nat) (h : Rd w qb v xs p) (hn : n ≤ 32) (hp : 8 * xs.length < p + n) :
    Calls Tryz.prog 55 #[.pointer (some ⟨qb, 0, none⟩), .int .i64 (n : Int)] w fun e w' => e = .returned (.tuple #[.int .u32 0, .int .i64 2]) ∧ RdTo w qb v xs p w' := by
  have d1 : decide ((n : Int) < 0) = false := by simp
  have d2 : decide ((32 : Int) < (n : Int)) = false := by simp; omega
  have hpl := h.place
  have d3 : decide (8 * xs.length - p < n) = true := by simp; omega
  have d4 : decide (((8 * xs.length - p : Nat) : Int) < (n : Int)) = true := by simp; omega
  go_enter Tryz.func55, Tryz.ntmps55
  go_wp2_with fail
  refine (left_any w qb v xs p h).mono ?_
  rintro e w1 ⟨rfl, nq, rfl⟩
  go_wp2
  go_ret2
  exact ⟨rfl, h.only ((Only.refl (fun _ => False) w).drewN nq) (fun _ _ f => f), (Only.refl (fun k => k = qb) w).drewN nq⟩

theorem get_arg (w : World) (qb : Nat) (n : Int) (hn : n < 0 ∨ 32 < n) :
    Calls Tryz.prog 55 #[.pointer (some ⟨qb, 0, none⟩), .int .i64 n] w fun e w' => e = .returned (.tuple #[.int .u32 0, .int .i64 5]) ∧ w = w' := by
  by_cases c1 : n < 0
  · go_enter Tryz.func55, Tryz.ntmps55
    go_wp2
    go_ret2
    exact ⟨rfl, rfl⟩
  · have c2 : 32 < n := by omega
    go_enter Tryz.func55, Tryz.ntmps55
    go_wp2
    go_ret2
    exact ⟨rfl, rfl⟩

def NewRd (w : World) (xs : List Nat) (e : Ending) (w' : World) : Prop := ∃ qb v', e = .returned (.pointer (some ⟨qb, 0, none⟩)) ∧ Rd w' qb v' xs 0 ∧ Below w.heap.size w w' ∧ ∀ k, Mine qb v' k → w.heap.size ≤ k

theorem new_any (w : World) (v : Value) (xs : List Nat) (h : Reads w v (u8s xs)) (hb : ∀ x ∈ xs, x < 256) (hl : xs.length ≤ 70368744177664) :
    Calls Tryz.prog 18 #[v] w (NewRd w xs) := by
  go_enter Tryz.func18, Tryz.ntmps18
  go_wp2_with fail
  refine (clone_any w v xs h (by omega)).mono ?_
  rintro e w1 ⟨v', rfl, hown, hbel⟩
  obtain ⟨a, c, rfl⟩ := ownsRow_slice hown
  go_wp2
  go_ret
  have hlt := hown.lt
  refine ⟨w1.heap.size, _, rfl, ⟨heap_alloc_new w1 _, ?_, ?_, hb, hl, by omega⟩, hbel.alloc (by have := hbel.size; omega) _, ?_⟩
  · exact ownsRow_base (hown.alloc _)
  · intro e1
    have := (hlt _ e1).2
    omega
  · intro k hk
    have := hbel.size
    rcases hk with rfl | hk
    · omega
    · exact (hlt _ hk).1

end Go.Proofs.YtpinfihmageeoaaGreat

namespace Go.Proofs.YtpinfihmageeoaaGreat
open Go.RowKit

theorem bytes_any (w : World) (pb : Nat) (v : Value) (l : List Bool) (h : Wr w pb v l) (hl : l.length < 1125899906842000) :
    Calls Tryz.prog 9 #[.pointer (some ⟨pb, 0, none⟩)] w (NewBytes w (pk l)) := by
  obtain ⟨hc0, hc1, hf0, hf1⟩ := cell_two h.head
  go_enter Tryz.func9, Tryz.ntmps9
  go_wp2_with fail
  refine (clone_any w v (pk l) (Reads.of_owns h.row) (by rw [pk_length]; omega)).mono ?_
  rintro e w1 ⟨v', rfl, hown, hbel⟩
  go_wp2
  go_ret
  exact ⟨_, rfl, hown, hbel⟩

theorem wr_new (w : World) : Wr (w.alloc (.cells #[.slice none 0 0, .int .i64 0] 34)) w.heap.size (.slice none 0 0) [] :=
  ⟨heap_alloc_new w _, World.ownsRow_nil _ _ _ _, by simp [Value.ownBlock]⟩

theorem Wr.lt {w : World} {pb : Nat} {v : Value} {l : List Bool} (h : Wr w pb v l) {k : Nat} (hk : Mine pb v k) : k < w.heap.size := by
  rcases hk with rfl | hk
  · exact lt_of_block h.head
  · exact (h.row.lt k hk).2

theorem Rd.lt {w : World} {qb : Nat} {v : Value} {xs : List Nat} {p : Nat} (h : Rd w qb v xs p) {k : Nat} (hk : Mine qb v k) : k < w.heap.size := by
  rcases hk with rfl | hk
  · exact lt_of_block h.head
  · exact (h.row.lt k hk).2

end Go.Proofs.YtpinfihmageeoaaGreat

namespace Go.Proofs.YtpinfihmageeoaaGreat
open Go.RowKit

def wrT (pb : Nat) (l : List Bool) : Thing where
  holds w S := ∃ v, Wr w pb v l ∧ ∀ k, S k ↔ Mine pb v k
  keep h ho hd := by
    obtain ⟨v, h1, h2⟩ := h
    exact ⟨v, h1.only ho (fun k hk => hd k ((h2 k).2 hk)), h2⟩
  lt h hk := by
    obtain ⟨v, h1, h2⟩ := h
    exact h1.lt ((h2 _).1 hk)

def rdT (qb : Nat) (xs : List Nat) (p : Nat) : Thing where
  holds w S := ∃ v, Rd w qb v xs p ∧ ∀ k, S k ↔ Mine qb v k
  keep h ho hd := by
    obtain ⟨v, h1, h2⟩ := h
    exact ⟨v, h1.only ho (fun k hk => hd k ((h2 k).2 hk)), h2⟩
  lt h hk := by
    obtain ⟨v, h1, h2⟩ := h
    exact h1.lt ((h2 _).1 hk)

section
variable {B : Nat} {w0 w : World} {r : List Thing}

theorem St.wr {pb : Nat} {l : List Bool} (h : St B w0 w (wrT pb l :: r)) : ∃ v, Wr w pb v l := by
  obtain ⟨S1, ⟨v, h1, _⟩, _⟩ := h.sep
  exact ⟨v, h1⟩

theorem St.rd {qb : Nat} {xs : List Nat} {p : Nat} (h : St B w0 w (rdT qb xs p :: r)) : ∃ v, Rd w qb v xs p := by
  obtain ⟨S1, ⟨v, h1, _⟩, _⟩ := h.sep
  exact ⟨v, h1⟩

theorem St.wrTo {pb : Nat} {l l' : List Bool} {w' : World} (h : St B w0 w (wrT pb l :: r)) (f : ∀ v, Wr w pb v l → WrTo w pb v l' w') : St B w0 w' (wrT pb l' :: r) := by
  refine h.step fun S hS => ?_
  obtain ⟨v, h1, h2⟩ := hS
  obtain ⟨v', g1, g2, g3⟩ := f v h1
  refine ⟨Mine pb v', ⟨v', g1, fun _ => Iff.rfl⟩, g2.mono (fun i _ hi => (h2 i).2 hi), fun k hk => ?_⟩
  by_cases hlt : k < w.heap.size
  · exact .inl ((h2 k).2 (Mine.of_fresh g3 hlt hk))
  · exact .inr (by omega)

theorem wr_calls {f : FuncId} {args : Array Value} {pb : Nat} {l l' : List Bool} {x : Ending} (h : St B w0 w (wrT pb l :: r))
    (c : ∀ v, Wr w pb v l → Calls Tryz.prog f args w fun e w' => e = x ∧ WrTo w pb v l' w') : Calls Tryz.prog f args w fun e w' => e = x ∧ St B w0 w' (wrT pb l' :: r) := by
  obtain ⟨S1, ⟨v, h1, h2⟩, h3, h4⟩ := h.sep
  refine (c v h1).mono ?_
  rintro e w' ⟨he, v', g1, g2, g3⟩
  refine ⟨he, ?_⟩
  have hst : St B w0 w' (wrT pb l' :: r) := by
    have hb := h
    refine ⟨h.only.trans g2 (fun i _ hi => h3 i ((h2 i).2 hi)), Nat.le_trans h.size g2.size, Mine pb v', ⟨v', g1, fun _ => Iff.rfl⟩, ?_, ?_⟩
    · intro k hk
      by_cases hlt : k < w.heap.size
      · exact h3 k ((h2 k).2 (Mine.of_fresh g3 hlt hk))
      · have := h.size; unfold From; omega
    · have e1 : Sep w r (fun k => (From B k ∧ ¬ S1 k) ∧ ¬ Mine pb v' k) := Sep.mono h4 (fun k hk hs => ⟨hs, fun h' => hs.2 ((h2 k).2 (Mine.of_fresh g3 hk h'))⟩)
      exact Sep.mono (Sep.keep g2 e1 (fun k hk hm => hk.1.2 ((h2 k).2 hm))) (fun k _ hk => ⟨hk.1.1, hk.2⟩)
  exact hst

end
end Go.Proofs.YtpinfihmageeoaaGreat

namespace Go.Proofs.YtpinfihmageeoaaGreat
open Go.RowKit

theorem chunk (lx : List Bool) (k : Nat) (hk : k < (pk lx).length) : lx.take (8 * k) ++ bitsOf (pk lx)[k] (min (lx.length - 8 * k) 8) = lx.take (8 * (k + 1)) := by
  have e : min (lx.length - 8 * k) 8 = ((lx.drop (8 * k)).take 8).length := by simp; omega
  rw [pk_get, e, bitsOf_num, show 8 * (k + 1) = 8 * k + 8 from by omega, List.take_add]

def SpreadTo (w : World) (pb : Nat) (v : Value) (l' : List Bool) (w' : World) : Prop := WrTo w pb v l' w'

theorem bytes_add (w : World) (xb : Nat) (vx : Value) (lx : List Bool) (hx : Wr w xb vx lx) (hl : lx.length < 1125899906841900) :
    Calls Tryz.prog 9 #[.pointer (some ⟨xb, 0, none⟩)] w.drew fun e w' => ∃ rv, e = .returned rv ∧ w'.cell? ⟨xb, 1, none⟩ = some (.int .i64 (lx.length : Int)) ∧ w'.ownsRow w.heap.size 5 1 rv (pk lx).length (u8s (pk lx)) ∧ Below w.heap.size w w' := by
  have hx1 : Wr w.drew xb vx lx := hx.only ((Only.refl (fun _ => False) w).drew) (fun _ _ f => f)
  refine (bytes_any w.drew xb vx lx hx1 (by omega)).mono ?_
  rintro e w' ⟨rv, rfl, hown, hbel⟩
  have h2 := cell_two (hx1.only (Below.only hbel (Nat.le_refl _) (fun _ => False)) (fun _ _ f => f)).head
  exact ⟨rv, rfl, h2.2.1, hown, (Below.refl _ _).drew.trans hbel⟩

end Go.Proofs.YtpinfihmageeoaaGreat

namespace Go.Proofs.YtpinfihmageeoaaGreat
open Go.RowKit

section
variable {B : Nat} {w0 w : World} {r : List Thing}

theorem put_st {pb : Nat} {l : List Bool} (h : St B w0 w (wrT pb l :: r)) (x n : Nat) (hl : l.length + n < 1125899906842000) (hn : n ≤ 32) (hx : x < 2 ^ n) :
    Calls Tryz.prog 7 #[.pointer (some ⟨pb, 0, none⟩), .int .u32 (x : Int), .int .i64 (n : Int)] w fun e w' => e = .returned (.int .i64 0) ∧ St B w0 w' (wrT pb (l ++ bitsOf x n) :: r) :=
  wr_calls h fun v hv => put_ok w pb v l x n hv hl hn hx

theorem bytes_st {pb : Nat} {l : List Bool} (h : St B w0 w (wrT pb l :: r)) (hl : l.length < 1125899906842000) :
    Calls Tryz.prog 9 #[.pointer (some ⟨pb, 0, none⟩)] w (BytesSt B w0 (wrT pb l :: r) (pk l)) := by
  obtain ⟨v, hv⟩ := h.wr
  refine (bytes_any w pb v l hv hl).mono ?_
  rintro e w' ⟨v', rfl, hown, hbel⟩
  exact ⟨v', rfl, h.addRow hbel hown⟩

def NewSt (B : Nat) (w0 : World) (r : List Thing) (xs : List Nat) (e : Ending) (w' : World) : Prop := ∃ qb, e = .returned (.pointer (some ⟨qb, 0, none⟩)) ∧ St B w0 w' (rdT qb xs 0 :: r)

theorem new_st {v : Value} {xs : List Nat} (h : St B w0 w r) (hv : Reads w v (u8s xs)) (hb : ∀ x ∈ xs, x < 256) (hl : xs.length ≤ 70368744177664) :
    Calls Tryz.prog 18 #[v] w (NewSt B w0 r xs) := by
  refine (new_any w v xs hv hb hl).mono ?_
  rintro e w' ⟨qb, v', rfl, h1, h2, h3⟩
  exact ⟨qb, rfl, h.add (S := Mine qb v') h2 ⟨v', h1, fun _ => Iff.rfl⟩ h3⟩

theorem rd_calls {f : FuncId} {args : Array Value} {qb : Nat} {xs : List Nat} {p p' : Nat} {x : Ending} (h : St B w0 w (rdT qb xs p :: r))
    (c : ∀ v, Rd w qb v xs p → Calls Tryz.prog f args w fun e w' => e = x ∧ RdTo w qb v xs p' w') : Calls Tryz.prog f args w fun e w' => e = x ∧ St B w0 w' (rdT qb xs p' :: r) := by
  obtain ⟨S1, ⟨v, h1, h2⟩, h3, h4⟩ := h.sep
  refine (c v h1).mono ?_
  rintro e w' ⟨he, g1, g2⟩
  have hq : S1 qb := (h2 qb).2 (.inl rfl)
  refine ⟨he, h.only.trans g2 (fun i _ hi => by subst hi; exact h3 i hq), Nat.le_trans h.size g2.size, S1, ⟨v, g1, h2⟩, h3, ?_⟩
  exact Sep.keep g2 h4 (fun k hk e => hk.2 (by subst e; exact hq))

theorem get_st {qb : Nat} {xs : List Nat} {p : Nat} (h : St B w0 w (rdT qb xs p :: r)) (n : Nat) (hn : n ≤ 32) (hp : p + n ≤ 8 * xs.length) :
    Calls Tryz.prog 55 #[.pointer (some ⟨qb, 0, none⟩), .int .i64 (n : Int)] w fun e w' => e = .returned (.tuple #[.int .u32 (num (bitsAt xs p n) : Int), .int .i64 0]) ∧ St B w0 w' (rdT qb xs (p + n) :: r) :=
  rd_calls h fun v hv => get_ok w qb v xs p n hv hn hp

theorem getform_st {qb : Nat} {xs : List Nat} {p : Nat} (h : St B w0 w (rdT qb xs p :: r)) (n : Nat) (hn : n ≤ 32) (hp : 8 * xs.length < p + n) :
    Calls Tryz.prog 55 #[.pointer (some ⟨qb, 0, none⟩), .int .i64 (n : Int)] w fun e w' => e = .returned (.tuple #[.int .u32 0, .int .i64 2]) ∧ St B w0 w' (rdT qb xs p :: r) :=
  rd_calls h fun v hv => get_form w qb v xs p n hv hn hp

theorem ralign_st {qb : Nat} {xs : List Nat} {p : Nat} (h : St B w0 w (rdT qb xs p :: r)) :
    Calls Tryz.prog 20 #[.pointer (some ⟨qb, 0, none⟩)] w fun e w' => e = .returned (.tuple #[]) ∧ St B w0 w' (rdT qb xs (p + padOf p) :: r) :=
  rd_calls h fun v hv => ralign_any w qb v xs p hv

theorem at_st {qb : Nat} {xs : List Nat} {p : Nat} (h : St B w0 w (rdT qb xs p :: r)) :
    Calls Tryz.prog 21 #[.pointer (some ⟨qb, 0, none⟩)] w fun e w' => e = .returned (.int .i64 (p : Int)) ∧ w = w' := by
  obtain ⟨v, hv⟩ := h.rd
  exact at_any w qb v xs p hv

theorem left_st {qb : Nat} {xs : List Nat} {p : Nat} (h : St B w0 w (rdT qb xs p :: r)) :
    Calls Tryz.prog 77 #[.pointer (some ⟨qb, 0, none⟩)] w fun e w' => e = .returned (.int .i64 ((8 * xs.length - p : Nat) : Int)) ∧ St B w0 w' (rdT qb xs p :: r) := by
  obtain ⟨v, hv⟩ := h.rd
  refine (left_any w qb v xs p hv).mono ?_
  rintro e w' ⟨rfl, n, rfl⟩
  exact ⟨rfl, h.drewN n⟩

theorem St.newWr (h : St B w0 w r) : St B w0 (w.alloc (.cells #[.slice none 0 0, .int .i64 0] 34)) (wrT w.heap.size [] :: r) :=
  h.add (S := Mine w.heap.size (.slice none 0 0)) (below_alloc _ _) ⟨_, wr_new w, fun _ => Iff.rfl⟩ (fun k hk => by
    rcases hk with rfl | hk
    · exact Nat.le_refl _
    · simp [Value.ownBlock] at hk)

end
end Go.Proofs.YtpinfihmageeoaaGreat
