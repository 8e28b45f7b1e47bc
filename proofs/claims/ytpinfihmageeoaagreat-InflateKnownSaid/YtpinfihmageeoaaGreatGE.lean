/-
  PfxP PfxA PfxB PfxC PfxD PfxE PfxQ PfxL, one behind the other (merged by wip/merge.py). No conditions but those that each states.
-/
import Derived.Test.YtpinfihmageeoaaGreatGD
import Derived.Test.YtpinfihmageeoaaGreatGB
import Derived.Test.YtpinfihmageeoaaGreatMBits
import Derived.Maps.OwnSet
import Derived.DeepKeys4
import Derived.Test.YtpinfihmageeoaaGreatGA

namespace Go.Proofs.YtpinfihmageeoaaGreat
namespace Kraft

abbrev Leads := Nat → Nat → Option Int

def upd (f : Leads) (a n : Nat) (v : Int) : Leads := fun a' n' => if a' = a ∧ n' = n then some v else f a' n'

def down (f : Leads) (a : Nat) : Nat → Leads
  | 0 => f
  | n + 1 => down (upd f (a / 2) n (-1)) (a / 2) n

def addSym (f : Leads) (s a n : Nat) : Leads := down (upd f a n (s : Int)) a n

def tab (L : List Nat) : Nat → Leads
  | 0 => fun _ _ => none
  | i + 1 => if len L i = 0 then tab L i else addSym (tab L i) i (word L i) (len L i)

theorem down_eq : ∀ (n a : Nat) (f : Leads) (a' n' : Nat), down f a n a' n' = if n' < n ∧ a' = a / 2 ^ (n - n') then some (-1) else f a' n'
  | 0, a, f, a', n' => by unfold down; rw [if_neg (by omega)]
  | n + 1, a, f, a', n' => by
    unfold down
    rw [down_eq n (a / 2) (upd f (a / 2) n (-1)) a' n']
    have e : n' < n → a / 2 / 2 ^ (n - n') = a / 2 ^ (n + 1 - n') := fun h => by
      rw [Nat.div_div_eq_div_mul, show n + 1 - n' = (n - n') + 1 from by omega, Nat.pow_succ, Nat.mul_comm]
    by_cases h : n' < n
    · rw [e h]
      by_cases c : a' = a / 2 ^ (n + 1 - n')
      · rw [if_pos ⟨h, c⟩, if_pos ⟨by omega, c⟩]
      · rw [if_neg (by intro g; exact c g.2), if_neg (by intro g; exact c g.2)]
        unfold upd
        rw [if_neg (by omega)]
    · rw [if_neg (by omega)]
      unfold upd
      by_cases g : n' = n
      · subst g
        rw [show n' + 1 - n' = 1 from by omega, Nat.pow_one]
        by_cases c : a' = a / 2
        · rw [if_pos ⟨c, rfl⟩, if_pos ⟨by omega, c⟩]
        · rw [if_neg (by intro x; exact c x.1), if_neg (by intro x; exact c x.2)]
      · rw [if_neg (by omega), if_neg (by omega)]

theorem addSym_eq (f : Leads) (s a n a' n' : Nat) : addSym f s a n a' n' = if n' < n ∧ a' = a / 2 ^ (n - n') then some (-1) else if a' = a ∧ n' = n then some (s : Int) else f a' n' := by
  unfold addSym
  rw [down_eq]
  rfl

section
variable {L : List Nat}

theorem tab_some : ∀ (i a n : Nat) (v : Int), tab L i a n = some v → (∃ k, k < i ∧ 0 < len L k ∧ v = (k : Int) ∧ n = len L k ∧ a = word L k) ∨ (v = -1 ∧ ∃ k, k < i ∧ n < len L k ∧ a = word L k / 2 ^ (len L k - n))
  | 0, _, _, _, h => by cases h
  | i + 1, a, n, v, h => by
    unfold tab at h
    split at h
    · rcases tab_some i a n v h with ⟨k, h1, h2⟩ | ⟨h1, k, h2, h3⟩
      · exact .inl ⟨k, by omega, h2⟩
      · exact .inr ⟨h1, k, by omega, h3⟩
    · rename_i h0
      rw [addSym_eq] at h
      split at h
      · rename_i c
        exact .inr ⟨(Option.some.inj h).symm, i, by omega, c.1, c.2⟩
      · split at h
        · rename_i c
          exact .inl ⟨i, by omega, by omega, (Option.some.inj h).symm, c.2, c.1⟩
        · rcases tab_some i a n v h with ⟨k, h1, h2⟩ | ⟨h1, k, h2, h3⟩
          · exact .inl ⟨k, by omega, h2⟩
          · exact .inr ⟨h1, k, by omega, h3⟩

variable (h20 : ∀ j, len L j ≤ 20)
include h20

theorem tab_word : ∀ (i k : Nat), i ≤ L.length → k < i → 0 < len L k → tab L i (word L k) (len L k) = some (k : Int)
  | 0, _, _, hk, _ => absurd hk (by omega)
  | i + 1, k, hi, hk, h0 => by
    unfold tab
    by_cases e : k = i
    · subst e
      rw [if_neg (by omega), addSym_eq, if_neg (by omega), if_pos ⟨rfl, rfl⟩]
    · have ih := tab_word i k (by omega) (by omega) h0
      split
      · exact ih
      · rename_i c
        rw [addSym_eq, if_neg, if_neg, ih]
        · rintro ⟨g1, g2⟩
          have := free L i k (by omega) (by omega) e (by omega) (by omega) (h20 k)
          rw [g2, Nat.sub_self, Nat.pow_zero, Nat.div_one] at this
          exact this g1
        · rintro ⟨g1, g2⟩
          exact free L k i (by omega) (by omega) (fun x => e x.symm) h0 (by omega) (h20 i) g2.symm

theorem tab_within : ∀ (i k n : Nat), i ≤ L.length → k < i → n < len L k → tab L i (word L k / 2 ^ (len L k - n)) n = some (-1)
  | 0, _, _, _, hk, _ => absurd hk (by omega)
  | i + 1, k, n, hi, hk, h0 => by
    unfold tab
    by_cases e : k = i
    · subst e
      rw [if_neg (by omega), addSym_eq, if_pos ⟨h0, rfl⟩]
    · have ih := tab_within i k n (by omega) (by omega) h0
      split
      · exact ih
      · rename_i c
        rw [addSym_eq]
        split
        · rfl
        · rw [if_neg, ih]
          rintro ⟨g1, g2⟩
          have := free L i k (by omega) (by omega) e (by omega) (by omega) (h20 k)
          rw [← g2] at this
          exact this g1

end

def seek (f : Leads) : Nat → Nat → List Bool → Nat × Int × Nat
  | a, n, [] => match f a n with
    | none => (0, 0, 2)
    | some s => if s = -1 then (0, 0, 2) else (0, s, 0)
  | a, n, b :: r => match f a n with
    | none => (0, 0, 2)
    | some s => if s = -1 then ((seek f (2 * a + b.toNat) (n + 1) r).1 + 1, (seek f (2 * a + b.toNat) (n + 1) r).2) else (0, s, 0)

theorem seek_none {f : Leads} {a n : Nat} (h : f a n = none) (l : List Bool) : seek f a n l = (0, 0, 2) := by cases l <;> simp [seek, h]
theorem seek_sym {f : Leads} {a n : Nat} {s : Int} (h : f a n = some s) (hs : s ≠ -1) (l : List Bool) : seek f a n l = (0, s, 0) := by cases l <;> simp [seek, h, hs]
theorem seek_end {f : Leads} {a n : Nat} (h : f a n = some (-1)) : seek f a n [] = (0, 0, 2) := by simp [seek, h]
theorem seek_on {f : Leads} {a n : Nat} (h : f a n = some (-1)) (b : Bool) (r : List Bool) :
    seek f a n (b :: r) = ((seek f (2 * a + b.toNat) (n + 1) r).1 + 1, (seek f (2 * a + b.toNat) (n + 1) r).2) := by simp [seek, h]

theorem seek_le : ∀ (f : Leads) (l : List Bool) (a n : Nat), (seek f a n l).1 ≤ l.length
  | f, [], a, n => by
    unfold seek
    split
    · exact Nat.le_refl _
    · split <;> exact Nat.le_refl _
  | f, b :: r, a, n => by
    unfold seek
    split
    · exact Nat.zero_le _
    · split
      · have := seek_le f r (2 * a + b.toNat) (n + 1)
        simpa using this
      · exact Nat.zero_le _

def top (a n m : Nat) : List Bool := (List.range m).map fun j => a / 2 ^ (n - 1 - j) % 2 == 1

theorem top_length (a n m : Nat) : (top a n m).length = m := by simp [top]
theorem top_succ (a n m : Nat) : top a n (m + 1) = top a n m ++ [a / 2 ^ (n - 1 - m) % 2 == 1] := by simp [top, List.range_succ]

def low (a n : Nat) : Nat → List Bool
  | 0 => []
  | d + 1 => (a / 2 ^ d % 2 == 1) :: low a n d

theorem low_top (a n : Nat) : ∀ d, d ≤ n → top a n n = top a n (n - d) ++ low a n d
  | 0, _ => by simp [low]
  | d + 1, h => by
    rw [low_top a n d (by omega), show n - d = (n - (d + 1)) + 1 from by omega, top_succ, show n - 1 - (n - (d + 1)) = d from by omega, List.append_assoc]
    rfl

theorem top_low (a n : Nat) : top a n n = low a n n := by
  rw [low_top a n n (Nat.le_refl _), Nat.sub_self]
  simp [top]

theorem bit_next (a d : Nat) : a / 2 ^ d = 2 * (a / 2 ^ (d + 1)) + (a / 2 ^ d % 2 == 1 : Bool).toNat := by
  rw [Nat.pow_succ, ← Nat.div_div_eq_div_mul]
  generalize a / 2 ^ d = q
  rcases Nat.mod_two_eq_zero_or_one q with h | h
  · rw [h]; simp; omega
  · rw [h]; simp; omega

theorem seek_word {L : List Nat} (h20 : ∀ j, len L j ≤ 20) (k : Nat) (hk : k < L.length) (h0 : 0 < len L k) (r : List Bool) :
    ∀ d, d ≤ len L k → seek (tab L L.length) (word L k / 2 ^ d) (len L k - d) (low (word L k) (len L k) d ++ r) = (d, (k : Int), 0)
  | 0, _ => by
    rw [Nat.pow_zero, Nat.div_one, Nat.sub_zero]
    exact seek_sym (tab_word h20 _ k (Nat.le_refl _) hk h0) (by omega) _
  | d + 1, h => by
    have h1 := tab_within h20 L.length k (len L k - (d + 1)) (Nat.le_refl _) hk (by omega)
    rw [show len L k - (len L k - (d + 1)) = d + 1 from by omega] at h1
    show seek _ _ _ ((word L k / 2 ^ d % 2 == 1) :: (low (word L k) (len L k) d ++ r)) = _
    rw [seek_on h1, ← bit_next, show len L k - (d + 1) + 1 = len L k - d from by omega, seek_word h20 k hk h0 r d (by omega)]

theorem seek_put {L : List Nat} (h20 : ∀ j, len L j ≤ 20) (hw : weight L ≤ 1048576) (k : Nat) (hk : k < L.length) (h0 : 0 < len L k) (r : List Bool) :
    seek (tab L L.length) 0 0 (top (word L k) (len L k) (len L k) ++ r) = (len L k, (k : Int), 0) := by
  have h := seek_word h20 k hk h0 r (len L k) (Nat.le_refl _)
  rw [Nat.div_eq_of_lt (word_lt L k hk h0 (h20 k) hw), Nat.sub_self] at h
  rw [top_low]
  exact h

def pairTo (L : List Nat) (i : Nat) : List (Nat × Nat) := (List.range L.length).map fun j => if j < i then (word L j, len L j) else (0, 0)

theorem pairTo_length (L : List Nat) (i : Nat) : (pairTo L i).length = L.length := by simp [pairTo]
theorem pairTo_get (L : List Nat) (i j : Nat) (h : j < L.length) : (pairTo L i)[j]? = some (if j < i then (word L j, len L j) else (0, 0)) := by simp [pairTo, h]
theorem pairTo_zero (L : List Nat) : pairTo L 0 = List.replicate L.length (0, 0) := by
  refine List.ext_getElem (by simp [pairTo]) (fun j h1 h2 => ?_)
  simp [pairTo]
theorem pairTo_succ (L : List Nat) (i : Nat) : pairTo L (i + 1) = (pairTo L i).set i (word L i, len L i) := by
  refine List.ext_getElem? (fun j => ?_)
  by_cases h : j < L.length
  · rw [pairTo_get L _ j h, List.getElem?_set, pairTo_length, pairTo_get L i j h]
    by_cases e : i = j
    · subst e; rw [if_pos rfl, if_pos h, if_pos (by omega)]
    · rw [if_neg e]
      by_cases g : j < i
      · rw [if_pos g, if_pos (by omega)]
      · rw [if_neg g, if_neg (by omega)]
  · rw [List.getElem?_eq_none (by rw [pairTo_length]; omega), List.getElem?_eq_none (by rw [List.length_set, pairTo_length]; omega)]
theorem pairTo_skip (L : List Nat) (i : Nat) (h0 : len L i = 0) : pairTo L (i + 1) = pairTo L i := by
  unfold pairTo
  refine List.map_congr_left (fun j _ => ?_)
  by_cases e : j = i
  · subst e
    rw [if_pos (by omega), if_neg (by omega), h0]
    unfold word
    rw [if_pos h0]
  · by_cases g : j < i
    · rw [if_pos g, if_pos (by omega)]
    · rw [if_neg g, if_neg (by omega)]

end Kraft
end Go.Proofs.YtpinfihmageeoaaGreat

namespace Go.Proofs.YtpinfihmageeoaaGreat
open Go.RowKit Kraft

def pairV (a n : Nat) : Value := .agg #[.int .u32 (a : Int), .int .i64 (n : Int)]

theorem laidOut_prog : laidOutB Tryz.prog = true := by kernel_rfl
theorem row_word : (73 : TypeId) < Tryz.prog.types.size := of_decide_eq_true (by kernel_rfl)
theorem wide_word : (match Tryz.prog.underlying 73 with | some (.array _ _) | some (.struct _) => true | _ => false) = true := by rw [Tryz.underlying73]
set_option maxRecDepth 100000 in
theorem word_law : Maps.Keyed Tryz.prog 73 := Maps.Keyed.of_law (deep_law_laid laidOut_prog (m := 2) (by omega) row_word (by kernel_rfl) wide_word)

noncomputable def keyL (a n : Nat) : Lit := (keyOf Tryz.prog 73 (pairV a n)).getD (.bool false)

theorem size_pos {x y : Nat} (h : x < y) : ∃ m, y = m + 1 := ⟨y - 1, by omega⟩
theorem types_size : ∃ m, Tryz.prog.types.size = m + 1 := size_pos row_word
theorem key_word : Tryz.prog.keyType 73 = true := by kernel_rfl
theorem formed_word (a n : Nat) : (pairV a n).formed Tryz.prog 73 = true := by
  unfold pairV
  simp [Value.formed, Tryz.underlying73]
  kernel_rfl

theorem cells_word : Tryz.prog.cellsOf 73 = 2 := by kernel_rfl
theorem size_word : (Tryz.prog.info? 73).map (·.size) = some 2 := by kernel_rfl
theorem cells_u32 : Tryz.prog.cellsOf 36 = 1 := by kernel_rfl
theorem cells_int : Tryz.prog.cellsOf 3 = 1 := by kernel_rfl

theorem wf_u32 (a : Nat) (ha : a < 4294967296) : (Lit.int .u32 (a : Int)).wf = true := by
  simp [Lit.wf, IntKind.min, IntKind.max, IntKind.signed, IntKind.bits]
  omega
theorem wf_i64 (n : Nat) (hn : n < 9223372036854775808) : (Lit.int .i64 (n : Int)).wf = true := by
  simp [Lit.wf, IntKind.min, IntKind.max, IntKind.signed, IntKind.bits]
  omega

theorem keyOf_pair (a n : Nat) (ha : a < 4294967296) (hn : n < 9223372036854775808) : keyOf Tryz.prog 73 (pairV a n) = some (keyL a n) := by
  unfold keyL
  suffices h : ∃ l, keyOf Tryz.prog 73 (pairV a n) = some l by
    obtain ⟨l, hl⟩ := h
    rw [hl]; rfl
  obtain ⟨m, hm⟩ := types_size
  unfold keyOf
  rw [Tryz.underlying73, hm]
  simp only [key_word, formed_word, Bool.and_self, if_true]
  have h1 := wf_u32 a ha
  have h2 := wf_i64 n hn
  simp [Program.keyLits, Tryz.underlying73, pairV, Value.cells, cells_word, cells_u32, cells_int, h1, h2, Tryz.underlying36, Tryz.underlying3]

theorem shorter_any (w : World) (a n : Nat) (hn : 0 < n) (hn2 : n < 1000) :
    Calls Tryz.prog 44 #[pairV a n] w fun e w' => e = .returned (pairV (a / 2) (n - 1)) ∧ Below w.heap.size w w' := by
  unfold pairV
  go_enter Tryz.func44, Tryz.ntmps44
  go_wp2
  have e1 : ((n : Int) - 1) = ((n - 1 : Nat) : Int) := by omega
  have e2 : ((a : Int) / 2) = ((a / 2 : Nat) : Int) := by omega
  rw [e1, e2]
  have hr := heap_alloc2_new w (Obj.cells #[.int .u32 (a : Int), .int .i64 (n : Int)] 73) (Obj.cells #[.int .u32 ((a / 2 : Nat) : Int), .int .i64 ((n - 1 : Nat) : Int)] 73)
  refine bodyPost_ret (results_cell_row rfl _ _ (w.heap.size + 1) 73 _ (0, 0) _ ?cellAt hr Tryz.underlying73 rfl size_word) rfl ⟨rfl, ((Below.refl _ _).alloc (Nat.le_refl _) _).alloc (by simp) _⟩
  case cellAt => rfl

theorem longer_bits (a : Nat) (b : Bool) (ha : a < 2147483648) : bits .or .u32 ((a : Int) * 2) (b.toNat : Int) = ((2 * a + b.toNat : Nat) : Int) := by
  have hb : b.toNat ≤ 1 := by cases b <;> simp
  rw [show (a : Int) * 2 = ((2 * a : Nat) : Int) from by omega, u32_or_nat _ _ (by omega) (by omega)]
  congr 1
  exact (Nat.two_pow_add_eq_or_of_lt (i := 1) (by omega) a).symm

theorem longer_any (w : World) (a n : Nat) (b : Bool) (ha : a < 2147483648) (hn2 : n < 1000) :
    Calls Tryz.prog 166 #[pairV a n, .int .u32 (b.toNat : Int)] w fun e w' => e = .returned (pairV (2 * a + b.toNat) (n + 1)) ∧ Below w.heap.size w w' := by
  unfold pairV
  have hb := longer_bits a b ha
  go_enter Tryz.func166, Tryz.ntmps166
  go_wp2
  have e1 : ((n : Int) + 1) = ((n + 1 : Nat) : Int) := by omega
  have e2 : (2 * (a : Int) + (b.toNat : Int)) = ((2 * a + b.toNat : Nat) : Int) := by omega
  rw [e1, e2]
  have hr := heap_alloc2_new w (Obj.cells #[.int .u32 (a : Int), .int .i64 (n : Int)] 73) (Obj.cells #[.int .u32 ((2 * a + b.toNat : Nat) : Int), .int .i64 ((n + 1 : Nat) : Int)] 73)
  refine bodyPost_ret (results_cell_row rfl _ _ (w.heap.size + 1) 73 _ (0, 0) _ ?cellAt hr Tryz.underlying73 rfl size_word) rfl ⟨rfl, ((Below.refl _ _).alloc (Nat.le_refl _) _).alloc (by simp) _⟩
  case cellAt => rfl

def LeadsD (D : DataW Unit) (f : Leads) : Prop :=
  ∀ a n, a < 4294967296 → n < 9223372036854775808 → Maps.has D (keyL a n) = (f a n).isSome ∧ D.atKey (keyL a n) (.lit (.int .i64 0)) = .lit (.int .i64 ((f a n).getD 0))

set_option maxRecDepth 100000 in
theorem keyL_inj {a n a' n' : Nat} (ha : a < 4294967296) (hn : n < 9223372036854775808) (ha' : a' < 4294967296) (hn' : n' < 9223372036854775808) (h : keyL a n = keyL a' n') : a = a' ∧ n = n' := by
  have h1 := keyOf_pair a n ha hn
  rw [h] at h1
  have h2 := word_law.inj h1 (keyOf_pair a' n' ha' hn')
  unfold pairV at h2
  have h3 := congrArg Array.toList (Value.agg.inj h2)
  have h4 := List.cons.inj h3
  have h5 := (Value.int.inj h4.1).2
  have h6 := (Value.int.inj (List.cons.inj h4.2).1).2
  omega

theorem LeadsD.empty : LeadsD (.map []) (fun _ _ => none) := fun _ _ _ _ => ⟨rfl, rfl⟩

set_option maxRecDepth 100000 in
theorem LeadsD.put {D : DataW Unit} {f : Leads} (h : LeadsD D f) (hD : Maps.IsMap D) (a n : Nat) (v : Int) (ha : a < 4294967296) (hn : n < 9223372036854775808) :
    LeadsD (D.put (keyL a n) (.lit (.int .i64 v))) (upd f a n v) := by
  intro a' n' ha' hn'
  by_cases e : a' = a ∧ n' = n
  · have e1 := e.1
    have e2 := e.2
    subst e1 e2
    have hk := word_law.key (keyOf_pair a' n' ha' hn')
    unfold upd
    rw [if_pos ⟨rfl, rfl⟩, Maps.has_put_same hD hk, Maps.atKey_put_same hD hk]
    exact ⟨rfl, rfl⟩
  · have hne : keyL a' n' ≠ keyL a n := fun x => e (keyL_inj ha' hn' ha hn x)
    unfold upd
    rw [if_neg e, Maps.has_put_other hne, Maps.atKey_put_other hne]
    exact h a' n' ha' hn'

def pairs (ws : List (Nat × Nat)) : List Value := ws.flatMap fun p => [.int .u32 (p.1 : Int), .int .i64 (p.2 : Int)]

structure Tbl (w : World) (tb g mb : Nat) (ws : List (Nat × Nat)) (f : Leads) (m : Nat) : Prop where
  head : w.heap[tb]? = some (.cells #[.slice (some ⟨g, 0, none⟩) ws.length ws.length, .map (some mb)] 70 (0, 0))
  row : w.ownsRow 0 73 2 (.slice (some ⟨g, 0, none⟩) ws.length ws.length) ws.length (pairs ws)
  map : ∃ D, w.ownsMap Tryz.prog 73 (plainElem Tryz.prog 3) mb m D ∧ LeadsD D f
  tg : tb ≠ g
  tm : tb ≠ mb
  gm : g ≠ mb

def TblMine (tb g mb k : Nat) : Prop := k = tb ∨ k = g ∨ k = mb

theorem Tbl.only {S : Nat → Prop} {w w' : World} {tb g mb m : Nat} {ws : List (Nat × Nat)} {f : Leads} (h : Tbl w tb g mb ws f m) (ho : Only S w w') (hn : ∀ k, TblMine tb g mb k → ¬ S k) : Tbl w' tb g mb ws f m := by
  obtain ⟨D, hD, hL⟩ := h.map
  obtain ⟨es, clock, hb, F, hs, e⟩ := hD
  exact ⟨ho.at h.head (hn tb (.inl rfl)), ownsRow_only h.row ho (fun k hk => hn k (.inr (.inl (by simpa [Value.ownBlock] using hk.symm)))), ⟨D, ⟨es, clock, ho.at hb (hn mb (.inr (.inr rfl))), F, hs, e⟩, hL⟩, h.tg, h.tm, h.gm⟩

theorem Tbl.lt {w : World} {tb g mb m : Nat} {ws : List (Nat × Nat)} {f : Leads} (h : Tbl w tb g mb ws f m) {k : Nat} (hk : TblMine tb g mb k) : k < w.heap.size := by
  rcases hk with rfl | rfl | rfl
  · exact lt_of_block h.head
  · exact (h.row.lt k rfl).2
  · obtain ⟨D, hD, _⟩ := h.map
    exact hD.lt

def tblT (tb : Nat) (ws : List (Nat × Nat)) (f : Leads) (m : Nat) : Thing where
  holds w S := ∃ g mb, Tbl w tb g mb ws f m ∧ ∀ k, S k ↔ TblMine tb g mb k
  keep := by
    rintro w w' S T ⟨g, mb, h1, h2⟩ ho hd
    exact ⟨g, mb, h1.only ho (fun k hk => hd k ((h2 k).2 hk)), h2⟩
  lt := by
    rintro w S k ⟨g, mb, h1, h2⟩ hk
    exact h1.lt ((h2 k).1 hk)

def rowV (vb a n : Nat) : Thing where
  holds w S := w.heap[vb]? = some (.cells #[.int .u32 (a : Int), .int .i64 (n : Int)] 73 (0, 0)) ∧ ∀ k, S k ↔ k = vb
  keep := by
    rintro w w' S T ⟨h1, h2⟩ ho hd
    exact ⟨ho.at h1 (hd vb ((h2 vb).2 rfl)), h2⟩
  lt := by
    rintro w S k ⟨h1, h2⟩ hk
    obtain rfl := (h2 k).1 hk
    exact lt_of_block h1

section
variable {B : Nat} {w0 w : World} {r : List Thing}

theorem St.tbl {tb m : Nat} {ws : List (Nat × Nat)} {f : Leads} (h : St B w0 w (tblT tb ws f m :: r)) : ∃ g mb, Tbl w tb g mb ws f m := by
  obtain ⟨S1, ⟨g, mb, h1, _⟩, _⟩ := h.sep
  exact ⟨g, mb, h1⟩

theorem pairs_length (ws : List (Nat × Nat)) : (pairs ws).length = ws.length * 2 := by
  induction ws with
  | nil => rfl
  | cons p r ih =>
    show (_ ++ pairs r).length = _
    rw [List.length_append, ih, List.length_cons]
    simp
    omega

theorem pairs_get : ∀ (ws : List (Nat × Nat)) (i : Nat) (h : i < ws.length), (pairs ws)[i * 2]? = some (.int .u32 (ws[i].1 : Int)) ∧ (pairs ws)[i * 2 + 1]? = some (.int .i64 (ws[i].2 : Int))
  | [], i, h => absurd h (by simp)
  | p :: r, 0, _ => ⟨rfl, rfl⟩
  | p :: r, i + 1, h => by
    have ih := pairs_get r i (by simpa using h)
    rw [show (i + 1) * 2 = i * 2 + 2 from by omega]
    exact ih

theorem pairs_set : ∀ (ws : List (Nat × Nat)) (i a n : Nat), ((pairs ws).set (i * 2) (.int .u32 (a : Int))).set (i * 2 + 1) (.int .i64 (n : Int)) = pairs (ws.set i (a, n))
  | [], i, a, n => by simp [pairs]
  | p :: r, 0, a, n => rfl
  | p :: r, i + 1, a, n => by
    have ih := pairs_set r i a n
    rw [show (i + 1) * 2 = i * 2 + 2 from by omega]
    show (.int .u32 (p.1 : Int)) :: (.int .i64 (p.2 : Int)) :: (((pairs r).set (i * 2) _).set (i * 2 + 1) _) = _
    rw [ih]
    rfl

theorem Tbl.cells {tb g mb m : Nat} {ws : List (Nat × Nat)} {f : Leads} (h : Tbl w tb g mb ws f m) (i : Nat) (hi : i < ws.length) :
    w.cell? ⟨g, i * 2, none⟩ = some (.int .u32 (ws[i].1 : Int)) ∧ w.cell? ⟨g, i * 2 + 1, none⟩ = some (.int .i64 (ws[i].2 : Int)) ∧ w.frozen? ⟨g, i * 2, none⟩ = false ∧ w.frozen? ⟨g, i * 2 + 1, none⟩ = false := by
  obtain ⟨h1, h2⟩ := pairs_get ws i hi
  refine ⟨?_, ?_, h.row.frozenAt _, h.row.frozenAt _⟩
  · rw [h.row.cellAt _ (by omega)]; exact h1
  · rw [h.row.cellAt _ (by omega)]; exact h2

theorem cell_same {w : World} {tb : Nat} {a b c d : Value} {t : TypeId} (h : w.heap[tb]? = some (.cells #[a, b] t (0, 0))) (h' : w.heap[tb]? = some (.cells #[c, d] t (0, 0))) : a = c ∧ b = d := by
  rw [h] at h'
  have h1 := congrArg Array.toList (Obj.cells.inj (Option.some.inj h')).1
  have h2 := List.cons.inj h1
  exact ⟨h2.1, (List.cons.inj h2.2).1⟩

theorem Tbl.same {tb g mb m g' mb' m' : Nat} {ws ws' : List (Nat × Nat)} {f f' : Leads} (h : Tbl w tb g mb ws f m) (h' : Tbl w tb g' mb' ws' f' m') : g' = g ∧ mb' = mb := by
  obtain ⟨e1, e2⟩ := cell_same h.head h'.head
  have e3 := (Value.slice.inj e1).1
  have e4 := congrArg Addr.block (Option.some.inj e3)
  exact ⟨e4.symm, (Option.some.inj (Value.map.inj e2)).symm⟩

theorem ownsMap_other {w w' : World} {P : Program} {k : TypeId} {R : Value → Option (DataW Unit × List MemPlace)} {b n : Nat} {D : DataW Unit} (h : w.ownsMap P k R b n D) (e : w'.heap[b]? = w.heap[b]?) : w'.ownsMap P k R b n D := by
  obtain ⟨es, clock, hb, F, hs, hD⟩ := h
  exact ⟨es, clock, e.trans hb, F, hs, hD⟩

theorem St.setPair {tb m g mb : Nat} {ws : List (Nat × Nat)} {f : Leads} (st : St B w0 w (tblT tb ws f m :: r)) (hT : Tbl w tb g mb ws f m) (i a n : Nat) :
    St B w0 ((w.setCell ⟨g, i * 2, none⟩ (.int .u32 (a : Int))).setCell ⟨g, i * 2 + 1, none⟩ (.int .i64 (n : Int))) (tblT tb (ws.set i (a, n)) f m :: r) := by
  refine st.step fun S hS => ?_
  obtain ⟨g', mb', h, hSS⟩ := hS
  obtain ⟨rfl, rfl⟩ := hT.same h
  refine ⟨S, ⟨g', mb', ⟨?_, ?_, ?_, h.tg, h.tm, h.gm⟩, hSS⟩, ?_, fun k hk => .inl hk⟩
  · rw [Below.heap_setCell _ _ _ _ h.tg, Below.heap_setCell _ _ _ _ h.tg, List.length_set]
    exact h.head
  · rw [← pairs_set, List.length_set]
    exact ((h.row.stored _ _).1.stored _ _).1
  · obtain ⟨D, hD, hL⟩ := h.map
    refine ⟨D, ownsMap_other hD ?_, hL⟩
    rw [Below.heap_setCell _ _ _ _ h.gm.symm, Below.heap_setCell _ _ _ _ h.gm.symm]
  · have hg : S g' := (hSS g').2 (.inr (.inl rfl))
    exact ((Only.refl _ _).setCell (fun _ => hg) _).setCell (fun _ => hg) _

theorem St.newRowV (st : St B w0 w r) (a n : Nat) : St B w0 (w.alloc (.cells #[.int .u32 (a : Int), .int .i64 (n : Int)] 73)) (rowV w.heap.size a n :: r) :=
  st.add (S := fun k => k = w.heap.size) (below_alloc _ _) ⟨heap_alloc_new w _, fun _ => Iff.rfl⟩ (fun k hk => by omega)

theorem St.rowv {vb a n : Nat} (st : St B w0 w (rowV vb a n :: r)) : w.heap[vb]? = some (.cells #[.int .u32 (a : Int), .int .i64 (n : Int)] 73 (0, 0)) := by
  obtain ⟨S1, h1, _⟩ := st.sep
  exact h1.1

theorem St.setRowV {vb a n : Nat} (st : St B w0 w (rowV vb a n :: r)) (a' n' : Nat) :
    St B w0 ((w.setCell ⟨vb, 0, none⟩ (.int .u32 (a' : Int))).setCell ⟨vb, 1, none⟩ (.int .i64 (n' : Int))) (rowV vb a' n' :: r) := by
  refine st.step fun S hS => ⟨S, ⟨?_, hS.2⟩, ?_, fun k hk => .inl hk⟩
  · rw [heap_setCell_same _ vb 1 _ 73 _ (heap_setCell_same _ vb 0 _ 73 _ hS.1)]
    rfl
  · have hg : S vb := (hS.2 vb).2 rfl
    exact ((Only.refl _ _).setCell (fun _ => hg) _).setCell (fun _ => hg) _

theorem St.mapped {tb m g mb : Nat} {ws : List (Nat × Nat)} {f : Leads} (st : St B w0 w (tblT tb ws f m :: r)) (hT : Tbl w tb g mb ws f m) {w' : World} {f' : Leads} {m' : Nat}
    (h : ∃ D, w'.ownsMap Tryz.prog 73 (plainElem Tryz.prog 3) mb m' D ∧ LeadsD D f') (hg : w.grownBy w' (some mb)) : St B w0 w' (tblT tb ws f' m' :: r) := by
  refine st.step fun S hS => ?_
  obtain ⟨g', mb', h1, hSS⟩ := hS
  obtain ⟨rfl, rfl⟩ := hT.same h1
  have ho : Only (fun k => k = mb') w w' := ⟨hg.os, hg.tape, hg.output, hg.size, fun k hk hn => hg.block k hk (fun e => hn (Option.some.inj e))⟩
  refine ⟨S, ⟨g', mb', ⟨ho.at h1.head h1.tm, ownsRow_only h1.row ho (fun k hk e => h1.gm ?_), h, h1.tg, h1.tm, h1.gm⟩, hSS⟩, ?_, fun k hk => .inl hk⟩
  · subst e
    simpa [Value.ownBlock] using hk
  · exact ⟨hg.os, hg.tape, hg.output, hg.size, fun k hk hn => hg.block k hk (fun e => hn ((hSS k).2 (.inr (.inr (Option.some.inj e)))))⟩

theorem St.putRow {tb m g mb : Nat} {ws : List (Nat × Nat)} {f : Leads} (st : St B w0 w (tblT tb ws f m :: r)) (hT : Tbl w tb g mb ws f m) (a n : Nat) (v : Int)
    (hw : (Lit.int .i64 v).wf = true) (ha : a < 4294967296) (hn : n < 9223372036854775808) (hmm : m ≤ 1000000) :
    ∃ w', (Instr.mapUpdate 68 (.map (some mb)) (.agg #[.int .u32 (a : Int), .int .i64 (n : Int)]) (.int .i64 v)).run Tryz.prog w = .ok () w' ∧ St B w0 w' (tblT tb ws (upd f a n v) (m + 1) :: r) := by
  obtain ⟨D, hD, hL⟩ := hT.map
  obtain ⟨w', h1, h2, h3⟩ := hD.update word_law Tryz.underlying68 (by unfold maxLen; omega) (keyOf_pair a n ha hn) (plainElem_int Tryz.underlying3 hw)
  exact ⟨w', h1, st.mapped hT ⟨_, h2, hL.put hD.isMap a n v ha hn⟩ h3⟩

theorem Tbl.drew {tb m g mb : Nat} {ws : List (Nat × Nat)} {f : Leads} (h : Tbl w tb g mb ws f m) : Tbl w.drew tb g mb ws f m := ⟨h.head, h.row, h.map, h.tg, h.tm, h.gm⟩

end

set_option maxRecDepth 100000 in
theorem tadd_st {B : Nat} {w0 w : World} {r : List Thing} {tb m : Nat} {ws : List (Nat × Nat)} {f : Leads} (st : St B w0 w (tblT tb ws f m :: r)) (i a n : Nat) (hi : i < ws.length) (hws : ws.length ≤ 512) (ha : a < 1048576) (hn : n ≤ 20) (hm : m ≤ 100000) :
    Calls Tryz.prog 28 #[.pointer (some ⟨tb, 0, none⟩), .int .i64 (i : Int), pairV a n] w fun e w' => e = .returned (.tuple #[]) ∧ St B w0 w' (tblT tb (ws.set i (a, n)) (addSym f i a n) (m + n + 1) :: r) := by
  obtain ⟨g, mb, h⟩ := st.tbl
  obtain ⟨hc0, hc1, hf0, hf1⟩ := cell_two h.head
  obtain ⟨gc0, gc1, gf0, gf1⟩ := h.cells i hi
  have htg := h.tg
  have hlt : g < w.heap.size := h.lt (.inr (.inl rfl))
  have htb : tb < w.heap.size := h.lt (.inl rfl)
  have s1 := ((st.setPair h i a n).newRowV a n).drew
  have hwf := wf_i64 i (by omega)
  unfold pairV
  go_enter Tryz.func28, Tryz.ntmps28
  go_wp2
  go_region
  generalize hW : (((w.setCell ⟨g, i * 2, none⟩ (.int .u32 (a : Int))).setCell ⟨g, i * 2 + 1, none⟩ (.int .i64 (n : Int))).alloc (.cells #[.int .u32 (a : Int), .int .i64 (n : Int)] 73)).drew = W1 at s1 ⊢
  rw [show ((w.setCell ⟨g, i * 2, none⟩ (.int .u32 (a : Int))).setCell ⟨g, i * 2 + 1, none⟩ (.int .i64 (n : Int))).heap.size = w.heap.size from by simp [World.setCell]] at s1
  obtain ⟨vb, hvb⟩ : ∃ vb, vb = w.heap.size := ⟨_, rfl⟩
  rw [← hvb] at s1 ⊢
  clear hW hc0 hc1 hf0 hf1 gc0 gc1 gf0 gf1 htg hlt htb hvb h
  have s2 := s1.swap
  obtain ⟨g1, mb1, h1⟩ := s2.tbl
  obtain ⟨hc0, hc1, hf0, hf1⟩ := cell_two h1.head
  obtain ⟨vc0, vc1, vf0, vf1⟩ := cell_two s1.rowv
  obtain ⟨w2, hrun, s3⟩ := s2.drew.putRow h1.drew a n (i : Int) hwf (by omega) (by omega) (by omega)
  go_wp2
  go_region
  clear hrun hc0 hc1 hf0 hf1 vc0 vc1 vf0 vf1 s1 s2 h1
  go_wp2
  go_loopw [] (fun wr => ∃ k A F, k ≤ n ∧ A < 1048576 ∧ down F A k = addSym f i a n ∧ St B w0 wr (tblT tb (ws.set i (a, n)) F (m + 1 + (n - k)) :: rowV vb A k :: r)) (fun wr => match wr.cell? ⟨vb, 1, none⟩ with | some v => (intOf v).toNat | none => 0)
  case atStart => exact ⟨n, a, _, Nat.le_refl _, ha, rfl, by rw [Nat.sub_self]; exact s3⟩
  case round =>
    obtain ⟨k, A, F, hk, hA, hF, s4⟩ := hrel
    obtain ⟨vc0, vc1, vf0, vf1⟩ := cell_two s4.swap.rowv
    by_cases hk0 : k = 0
    · subst hk0
      go_wp2
      go_end0
      refine ⟨rfl, ?_⟩
      rw [Nat.sub_zero, show m + 1 + n = m + n + 1 from by omega] at s4
      unfold down at hF
      rw [hF] at s4
      exact s4.swap.drop
    · have hpos : 0 < k := by omega
      go_wp2_with fail
      have hsh := shorter_any wr A k hpos (by omega)
      obtain ⟨A1, hA1⟩ : ∃ A1, A1 = A / 2 := ⟨_, rfl⟩
      obtain ⟨k1, hk1⟩ : ∃ k1, k = k1 + 1 := ⟨k - 1, by omega⟩
      rw [← hA1, show k - 1 = k1 from by omega] at hsh
      have hA2 : A1 < 1048576 := by omega
      have HA := Lib.hid hA1
      have HV := Lib.hid vc1
      clear hA1
      refine hsh.mono ?_
      rintro e w3 ⟨rfl, hbel⟩
      unfold pairV
      have s5 := s4.quiet hbel
      obtain ⟨xc0, xc1, xf0, xf1⟩ := cell_two s5.swap.rowv
      go_wp2
      have s6 := (s5.swap.setRowV A1 k1).swap
      generalize (w3.setCell ⟨vb, 0, none⟩ (.int .u32 (A1 : Int))).setCell ⟨vb, 1, none⟩ (.int .i64 (k1 : Int)) = w4 at s6 ⊢
      clear hsh xc0 xc1 xf0 xf1 vc0 vc1 vf0 vf1 s5 s4 hbel
      obtain ⟨g2, mb2, h2⟩ := s6.tbl
      obtain ⟨hc0, hc1, hf0, hf1⟩ := cell_two h2.head
      obtain ⟨vc0, vc1, vf0, vf1⟩ := cell_two s6.swap.rowv
      obtain ⟨w5, hrun, s7⟩ := s6.drew.putRow h2.drew A1 k1 (-1) (by decide) (by omega) (by omega) (by omega)
      go_region
      clear hrun hc0 hc1 hf0 hf1 s6 h2 vc0 vc1 vf0 vf1
      go_wp2
      have hv := cell_two s7.swap.rowv
      go_roundw
      case rel =>
        refine ⟨k1, A1, upd F A1 k1 (-1), by omega, hA2, ?_, ?_⟩
        · rw [← hF, hk1, HA.out]
          rfl
        · rw [show m + 1 + (n - k1) = m + 1 + (n - k) + 1 from by omega]
          exact s7
      case measure =>
        rw [hv.2.1, HV.out]
        show (intOf (.int .i64 (k1 : Int))).toNat < (intOf (.int .i64 (k : Int))).toNat
        simp [intOf]
        omega

end Go.Proofs.YtpinfihmageeoaaGreat

namespace Go.Proofs.YtpinfihmageeoaaGreat
open Go.RowKit Kraft

abbrev tblL (tb : Nat) (L : List Nat) : Thing := tblT tb (pairTo L L.length) (tab L L.length) 20000

theorem ownsMap_le {w : World} {P : Program} {k : TypeId} {R : Value → Option (DataW Unit × List MemPlace)} {b n n' : Nat} {D : DataW Unit} (h : w.ownsMap P k R b n D) (hn : n ≤ n') : w.ownsMap P k R b n' D := h.mono hn

theorem St.tblMono {B : Nat} {w0 w : World} {r : List Thing} {tb m m' : Nat} {ws : List (Nat × Nat)} {f : Leads} (st : St B w0 w (tblT tb ws f m :: r)) (hm : m ≤ m') : St B w0 w (tblT tb ws f m' :: r) :=
  st.step fun S hS => by
    obtain ⟨g, mb, h, hSS⟩ := hS
    obtain ⟨D, hD, hL⟩ := h.map
    exact ⟨S, ⟨g, mb, ⟨h.head, h.row, ⟨D, hD.mono hm, hL⟩, h.tg, h.tm, h.gm⟩, hSS⟩, Only.refl _ _, fun k hk => .inl hk⟩

theorem madePairs (n : Nat) : (madeCells #[Value.int .u32 0, Value.int .i64 0] (n * 2)).toList = pairs (List.replicate n (0, 0)) := by
  apply List.ext_getElem?
  intro j
  by_cases hj : j < n * 2
  · have hr : (List.replicate n ((0 : Nat), (0 : Nat))).length = n := by simp
    obtain ⟨h1, h2⟩ := pairs_get (List.replicate n (0, 0)) (j / 2) (by omega)
    rcases Nat.mod_two_eq_zero_or_one j with h | h
    · rw [show j / 2 * 2 = j from by omega] at h1
      rw [h1]
      simp [madeCells, hj, h]
    · rw [show j / 2 * 2 + 1 = j from by omega] at h2
      rw [h2]
      simp [madeCells, hj, h]
  · rw [List.getElem?_eq_none (by simp [madeCells]; omega), List.getElem?_eq_none (by rw [pairs_length]; simp; omega)]

theorem infoWord : (Tryz.prog.info? 73).map (fun i => (i.zero, i.size, i.bytes)) = some (some (.agg #[.int .u32 0, .int .i64 0]), 2, 16) := by kernel_rfl

def NewTbl (w : World) (L : List Nat) (e : Ending) (w' : World) : Prop :=
  (wordsErr L ≠ 0 ∧ e = .returned (.tuple #[.pointer none, .int .i64 (wordsErr L : Int)]) ∧ Below w.heap.size w w') ∨
    (wordsErr L = 0 ∧ ∃ tb, e = .returned (.tuple #[.pointer (some ⟨tb, 0, none⟩), .int .i64 0]) ∧ St w.heap.size w w' [tblL tb L])

theorem len_le_of {L : List Nat} (h : may L = true) (j : Nat) : len L j ≤ 20 := by
  unfold len
  by_cases hj : j < L.length
  · rw [List.getD_eq_getElem?_getD, List.getElem?_eq_getElem hj]
    exact ((may_iff L).1 h).2 _ (List.getElem_mem hj)
  · rw [List.getD_eq_getElem?_getD, List.getElem?_eq_none (by omega)]
    exact Nat.zero_le _

theorem len_get (L : List Nat) (j : Nat) (hj : j < L.length) : len L j = L[j] := by
  unfold len
  rw [List.getD_eq_getElem?_getD, List.getElem?_eq_getElem hj]
  rfl

theorem run_makeMap0 {P : Program} {w : World} (t : TypeId) : (Instr.makeMap t none).run P w = .ok (.map (some w.heap.size)) (w.alloc (.map #[] 0)) := by
  simp [Instr.makeMap]

theorem St.newTbl {B : Nat} {w0 w : World} {r : List Thing} {g : Nat} {ws : List (Nat × Nat)} (st : St B w0 w (rowT 73 2 (.slice (some ⟨g, 0, none⟩) ws.length ws.length) ws.length (pairs ws) :: r)) :
    St B w0 ((w.alloc (.map #[] 0)).alloc (.cells #[.slice (some ⟨g, 0, none⟩) ws.length ws.length, .map (some w.heap.size)] 70)) (tblT (w.heap.size + 1) ws (fun _ _ => none) 0 :: r) := by
  refine st.step fun S hS => ?_
  have hg : g < w.heap.size := (hS.1.lt g rfl).2
  have ho : Only S w ((w.alloc (.map #[] 0)).alloc (.cells #[.slice (some ⟨g, 0, none⟩) ws.length ws.length, .map (some w.heap.size)] 70)) := ((Only.refl S w).alloc _).alloc _
  have ho2 : Only (fun _ => False) w ((w.alloc (.map #[] 0)).alloc (.cells #[.slice (some ⟨g, 0, none⟩) ws.length ws.length, .map (some w.heap.size)] 70)) := ((Only.refl _ w).alloc _).alloc _
  refine ⟨TblMine (w.heap.size + 1) g w.heap.size, ⟨g, w.heap.size, ⟨heap_alloc2_new w _ _, ownsRow_only hS.1 ho2 (fun _ _ f => f), ⟨.map [], ?_, LeadsD.empty⟩, by omega, by omega, by omega⟩, fun _ => Iff.rfl⟩, ho, ?_⟩
  · exact (World.ownsMap_made w Tryz.prog 73 (plainElem (H := Unit) Tryz.prog 3)).alloc _
  · rintro k (rfl | rfl | rfl)
    · exact .inr (by omega)
    · exact .inl ((hS.2 k).2 rfl)
    · exact .inr (by omega)

set_option maxRecDepth 100000 in
set_option maxHeartbeats 2000000 in
theorem tnew_any (w : World) (v : Value) (L : List Nat) (h : ByteRow w v L) (hl : L.length ≤ 140737488355328) :
    Calls Tryz.prog 10 #[v] w (NewTbl w L) := by
  go_enter Tryz.func10, Tryz.ntmps10
  go_wp2_with fail
  refine (words_st (St.start w) v L h hl).mono ?_
  rintro e w1 ⟨v1, rfl, s1⟩
  by_cases hE : wordsErr L = 0
  · obtain ⟨hm, hw⟩ := wordsErr_ok hE
    obtain ⟨hL512, hL20⟩ := (may_iff L).1 hm
    rw [wordsOf_ok hE, words_length] at s1
    obtain ⟨i0, hi, hz0, hz1, hz2⟩ := info_parts infoWord
    have hmk : i0.bytes * L.length ≤ 281474976710656 := by rw [hz2]; omega
    have hmx : L.length ≤ maxLen := by unfold maxLen; omega
    have h1 := h.below (s1.below (Nat.le_refl _)) (Nat.le_refl _)
    rw [hE]
    obtain ⟨ad, cap, rfl, -, -, hat⟩ := id h1
    have HAT := Lib.hid hat
    clear hat
    go_wp2_with (at_make; refine wpList_make_full _ rfl _ _ 67 rfl w1.heap.size 73 i0 (.agg #[.int .u32 0, .int .i64 0]) 2 Tryz.underlying67 hi hz0 hz1 _ _ _ _ L.length rfl rfl rfl rfl hmk hmx (Nat.le_refl _) ?_)
    intro w2 hown hgrow
    have s2 : St w.heap.size w w2 (rowT 73 2 (.slice (some ⟨w1.heap.size, 0, none⟩) L.length L.length) L.length (pairs (List.replicate L.length (0, 0))) :: [rowT 36 1 v1 L.length (u32s (words L))]) := by
      rw [madePairs] at hown
      exact s1.addRow ((Below.refl w1.heap.size w1).grown hgrow (Nat.le_refl _) (by simp)) hown
    have s3 := St.newTbl (ws := List.replicate L.length (0, 0)) (by rw [List.length_replicate]; exact s2)
    rw [List.length_replicate] at s3
    clear hown hgrow hi hz0 hz1 hz2 hmk hmx
    have hmap := run_makeMap0 (P := Tryz.prog) (w := w2) 68
    go_wp2
    rw [← pairTo_zero] at s3
    generalize ((w2.alloc (.map #[] 0)).alloc (.cells #[.slice (some ⟨w1.heap.size, 0, none⟩) L.length L.length, .map (some w2.heap.size)] 70)) = W3 at s3 ⊢
    obtain ⟨tb, htb⟩ : ∃ tb, tb = w2.heap.size + 1 := ⟨_, rfl⟩
    rw [← htb] at s3
    simp only [← htb]
    obtain ⟨a1, c1, rfl⟩ := ownsRow_slice s1.row
    clear htb hmap s2 s1 h1 HAT
    have h20 := len_le_of hm
    go_loopw [7, 8, 25] (fun _ _ i wr => ∃ k : Nat, k ≤ L.length ∧ i = .int .i64 (k : Int) ∧ St w.heap.size w wr (tblT tb (pairTo L k) (tab L k) (21 * k) :: [rowT 36 1 (.slice a1 L.length c1) L.length (u32s (words L))])) (fun _ _ i _ => L.length - (intOf i).toNat)
    case atStart => exact ⟨0, Nat.zero_le _, rfl, s3⟩
    case round =>
      obtain ⟨k, hk, rfl, t1⟩ := hrel
      by_cases hlt : k < L.length
      · have h1 := h.below (t1.below (Nat.le_refl _)) (Nat.le_refl _)
        obtain ⟨ad', cap', e1, -, -, hat⟩ := h1
        obtain ⟨hbyte, b, off, rfl, hx⟩ := hat k hlt
        obtain ⟨rfl, -, rfl⟩ := Value.slice.inj e1
        have t2 := t1.swap
        obtain ⟨g0, cap0, e2, hcap0⟩ := t2.rowShape (by omega)
        obtain ⟨rfl, -, rfl⟩ := Value.slice.inj e2
        have hword : wr.cell? ⟨g0, k, none⟩ = some (.int .u32 (word L k : Int)) := by
          rw [t2.row.cellAt k (by omega), u32s_get _ _ (by rw [words_length]; exact hlt), words_at]
        have hlenk := len_get L k hlt
        have HX := Lib.hid hx
        by_cases h0 : L[k] = 0
        · go_wp2
          refine ⟨⟨k + 1, by omega, by go_num, ?_⟩, by simp [intOf]; omega⟩
          rw [pairTo_skip L k (by omega), show tab L (k + 1) = tab L k from by rw [tab, if_pos (by omega)]]
          exact t1.tblMono (by omega)
        · have hwl : word L k < 1048576 := Nat.lt_of_lt_of_le (word_lt L k hlt (by omega) (h20 k) hw) (Nat.pow_le_pow_right (n := 2) (by omega) (h20 k))
          have hadd := tadd_st t1 k (word L k) L[k] (by rw [pairTo_length]; exact hlt) (by rw [pairTo_length]; exact hL512) hwl (by rw [← hlenk]; exact h20 k) (by omega)
          unfold pairV at hadd
          go_wp2_with fail
          refine hadd.mono ?_
          rintro e w3 ⟨rfl, t3⟩
          go_wp2
          refine ⟨⟨k + 1, by omega, by go_num, ?_⟩, by simp [intOf]; omega⟩
          rw [pairTo_succ L k, show tab L (k + 1) = addSym (tab L k) k (word L k) (len L k) from by rw [tab, if_neg (by omega)], hlenk]
          exact t3.tblMono (by have := h20 k; omega)
      · obtain rfl : k = L.length := by omega
        have t2 := t1.swap.drop.tblMono (m' := 20000) (by omega)
        go_wp2
        go_ret2
        exact .inr ⟨hE, tb, rfl, t2⟩
  · have hb := s1.below (Nat.le_refl _)
    go_wp2
    go_ret2
    exact .inl ⟨hE, rfl, hb⟩

def NewTblSt (B : Nat) (w0 : World) (r : List Thing) (L : List Nat) (e : Ending) (w' : World) : Prop :=
  (wordsErr L ≠ 0 ∧ e = .returned (.tuple #[.pointer none, .int .i64 (wordsErr L : Int)]) ∧ St B w0 w' r) ∨
    (wordsErr L = 0 ∧ ∃ tb, e = .returned (.tuple #[.pointer (some ⟨tb, 0, none⟩), .int .i64 0]) ∧ St B w0 w' (tblL tb L :: r))

theorem tnew_st {B : Nat} {w0 w : World} {r : List Thing} (st : St B w0 w r) (v : Value) (L : List Nat) (h : ByteRow w v L) (hl : L.length ≤ 140737488355328) :
    Calls Tryz.prog 10 #[v] w (NewTblSt B w0 r L) := by
  refine (tnew_any w v L h hl).mono ?_
  rintro e w' (⟨h1, h2, h3⟩ | ⟨h1, tb, h2, h3⟩)
  · exact .inl ⟨h1, h2, st.quiet h3⟩
  · obtain ⟨S1, g1, g2, _⟩ := h3.sep
    exact .inr ⟨h1, tb, h2, st.add (h3.below (Nat.le_refl _)) g1 g2⟩

def bitsAtSym (L : List Nat) (i : Int) : Nat := if i < 0 then 0 else len L i.toNat

theorem tbits_nil (w : World) (i : Int) : Calls Tryz.prog 45 #[.pointer none, .int .i64 i] w fun e w' => e = .returned (.int .i64 0) ∧ w = w' := by
  go_enter Tryz.func45, Tryz.ntmps45
  go_wp2
  go_ret
  exact ⟨rfl, rfl⟩

theorem tbits_any {w : World} {tb g mb m : Nat} {L : List Nat} {f : Leads} (h : Tbl w tb g mb (pairTo L L.length) f m) (i : Int) :
    Calls Tryz.prog 45 #[.pointer (some ⟨tb, 0, none⟩), .int .i64 i] w fun e w' => e = .returned (.int .i64 (bitsAtSym L i : Int)) ∧ w = w' := by
  obtain ⟨hc0, hc1, hf0, hf1⟩ := cell_two h.head
  unfold bitsAtSym
  rw [pairTo_length] at hc0
  by_cases h0 : i < 0
  · rw [if_pos h0]
    go_enter Tryz.func45, Tryz.ntmps45
    go_wp2
    go_ret
    exact ⟨rfl, rfl⟩
  · rw [if_neg h0]
    obtain ⟨k, rfl⟩ : ∃ k : Nat, i = (k : Int) := ⟨i.toNat, by omega⟩
    rw [Int.toNat_natCast]
    by_cases hk : k < L.length
    · obtain ⟨gc0, gc1, gf0, gf1⟩ := h.cells k (by rw [pairTo_length]; exact hk)
      have e1 : (pairTo L L.length)[k]'(by rw [pairTo_length]; exact hk) = (word L k, len L k) := by
        have := pairTo_get L L.length k hk
        rw [if_pos hk] at this
        exact (List.getElem?_eq_some_iff.1 this).2
      rw [e1] at gc0 gc1
      clear e1
      go_enter Tryz.func45, Tryz.ntmps45
      go_wp2
      go_ret
      exact ⟨rfl, rfl⟩
    · rw [show len L k = 0 from by unfold len; rw [List.getD_eq_getElem?_getD, List.getElem?_eq_none (by omega)]; rfl]
      go_enter Tryz.func45, Tryz.ntmps45
      go_wp2
      go_ret
      exact ⟨rfl, rfl⟩

theorem St.tblHead {B : Nat} {w0 w : World} {r : List Thing} {tb : Nat} {L : List Nat} (st : St B w0 w (tblL tb L :: r)) : ∃ g mb, Tbl w tb g mb (pairTo L L.length) (tab L L.length) 20000 := st.tbl

theorem pairTo_at (L : List Nat) (k : Nat) (hk : k < L.length) : (pairTo L L.length)[k]'(by rw [pairTo_length]; exact hk) = (word L k, len L k) := by
  have := pairTo_get L L.length k hk
  rw [if_pos hk] at this
  exact (List.getElem?_eq_some_iff.1 this).2

theorem bitsAtSym_in {L : List Nat} {i : Int} (h : 0 < bitsAtSym L i) : ∃ k : Nat, i = (k : Int) ∧ k < L.length ∧ bitsAtSym L i = len L k := by
  unfold bitsAtSym at h ⊢
  by_cases h0 : i < 0
  · rw [if_pos h0] at h; omega
  · rw [if_neg h0] at h ⊢
    refine ⟨i.toNat, by omega, ?_, rfl⟩
    by_cases hk : i.toNat < L.length
    · exact hk
    · rw [show len L i.toNat = 0 from by unfold len; rw [List.getD_eq_getElem?_getD, List.getElem?_eq_none (by omega)]; rfl] at h
      omega

end Go.Proofs.YtpinfihmageeoaaGreat

namespace Go.Proofs.YtpinfihmageeoaaGreat
open Go.RowKit Kraft

def putErr (L : List Nat) (i : Int) : Nat := if bitsAtSym L i = 0 then 5 else 0

def wordBits (L : List Nat) (i : Int) : List Bool := top (word L i.toNat) (bitsAtSym L i) (bitsAtSym L i)

theorem wordBits_length (L : List Nat) (i : Int) : (wordBits L i).length = bitsAtSym L i := top_length _ _ _

theorem bit_of (x d : Nat) (hx : x < 1048576) : bits .and .u32 ((x : Int) / 2 ^ d) 1 = ((x / 2 ^ d % 2 : Nat) : Int) := by
  have e : (x : Int) / 2 ^ d = ((x / 2 ^ d : Nat) : Int) := by simp
  have hz : x / 2 ^ d < 1048576 := Nat.lt_of_le_of_lt (Nat.div_le_self _ _) hx
  rw [e]
  generalize x / 2 ^ d = q at hz
  have := u32_and_nat q 1 (by omega) (by omega)
  rw [Nat.and_one_is_mod] at this
  exact this

namespace Low

set_option maxRecDepth 100000 in
theorem put_st {B : Nat} {w0 w : World} {r : List Thing} {tb pb : Nat} {L : List Nat} {l : List Bool} (st : St B w0 w (wrT pb l :: tblL tb L :: r)) (i : Int) (h20 : ∀ j, len L j ≤ 20) (hw : weight L ≤ 1048576) (hl : l.length < 562949953421312) :
    Calls Tryz.prog 29 #[.pointer (some ⟨tb, 0, none⟩), .pointer (some ⟨pb, 0, none⟩), .int .i64 i, .func (.func 7) #[.pointer (some ⟨pb, 0, none⟩)] #[]] w
      fun e w' => e = .returned (.int .i64 (putErr L i : Int)) ∧ St B w0 w' (wrT pb (l ++ wordBits L i) :: tblL tb L :: r) := by
  obtain ⟨g, mb, h⟩ := st.swap.tbl
  by_cases h0 : bitsAtSym L i = 0
  · unfold putErr wordBits
    rw [if_pos h0, h0]
    have hb := tbits_any h i
    rw [h0] at hb
    go_enter Tryz.func29, Tryz.ntmps29
    go_wp2_with fail
    refine hb.mono ?_
    rintro e w1 ⟨rfl, rfl⟩
    go_wp2
    go_ret
    exact ⟨rfl, by simpa [top] using st⟩
  · obtain ⟨k, rfl, hk, hbk⟩ := bitsAtSym_in (Nat.pos_of_ne_zero h0)
    unfold putErr wordBits
    rw [if_neg h0, hbk, Int.toNat_natCast]
    rw [hbk] at h0
    have hb := tbits_any h (k : Int)
    rw [hbk] at hb
    obtain ⟨hc0, hc1, hf0, hf1⟩ := cell_two h.head
    obtain ⟨gc0, gc1, gf0, gf1⟩ := h.cells k (by rw [pairTo_length]; exact hk)
    rw [pairTo_at L k hk] at gc0 gc1
    rw [pairTo_length] at hc0
    have hwl : word L k < 1048576 := Nat.lt_of_lt_of_le (word_lt L k hk (by omega) (h20 k) hw) (Nat.pow_le_pow_right (n := 2) (by omega) (h20 k))
    have hn20 := h20 k
    generalize hwd : word L k = x at *
    generalize hnn : len L k = n at *
    have hz : ((n : Int) == 0) = false := by rw [beq_eq_false_iff_ne]; omega
    go_enter Tryz.func29, Tryz.ntmps29
    go_wp2_with fail
    refine hb.mono ?_
    rintro e w1 ⟨rfl, rfl⟩
    go_wp2
    go_loopw [11, 12] (fun iv _ wr => ∃ c : Nat, c ≤ n ∧ iv = .int .i64 ((c : Int) - 1) ∧ St B w0 wr (wrT pb (l ++ top x n (n - c)) :: tblL tb L :: r)) (fun iv _ _ => (intOf iv + 1).toNat)
    case atStart => exact ⟨n, Nat.le_refl _, rfl, by simpa [top] using st⟩
    case round =>
      obtain ⟨c, hc, rfl, t1⟩ := hrel
      by_cases hc0 : c = 0
      · subst hc0
        rw [show ((0 : Nat) : Int) - 1 = -1 from rfl]
        go_wp2
        go_ret
        exact ⟨rfl, t1⟩
      · obtain ⟨d, rfl⟩ : ∃ d, c = d + 1 := ⟨c - 1, by omega⟩
        rw [show (((d + 1 : Nat) : Int) - 1) = (d : Int) from by omega]
        have hd20 : d < 20 := by omega
        have hbit := bit_of x d hwl
        have hput := Go.Proofs.YtpinfihmageeoaaGreat.put_st t1 (x / 2 ^ d % 2) 1 (by rw [List.length_append, top_length]; omega) (by omega) (by omega)
        rw [show ((x / 2 ^ d % 2 : Nat) : Int) = (x : Int) / 2 ^ d % 2 from by simp] at hput hbit
        have HB : l ++ top x n (n - (d + 1)) ++ bitsOf (x / 2 ^ d % 2) 1 = l ++ top x n (n - d) := by
          rw [List.append_assoc, show n - d = (n - (d + 1)) + 1 from by omega, top_succ, show n - 1 - (n - (d + 1)) = d from by omega]
          congr 2
          rcases Nat.mod_two_eq_zero_or_one (x / 2 ^ d) with hh | hh <;> rw [hh] <;> rfl
        rw [HB] at hput
        clear HB
        go_wp2_with fail
        refine hput.mono ?_
        rintro e w2 ⟨rfl, t2⟩
        go_wp2
        go_roundw
        case rel => exact ⟨d, by omega, by go_num, t2⟩
        case measure => simp [intOf]

theorem tput_st {B : Nat} {w0 w : World} {r : List Thing} {tb pb : Nat} {L : List Nat} {l : List Bool} (st : St B w0 w (wrT pb l :: tblL tb L :: r)) (i : Int) (h20 : ∀ j, len L j ≤ 20) (hw : weight L ≤ 1048576) (hl : l.length < 562949953421312) :
    Calls Tryz.prog 11 #[.pointer (some ⟨tb, 0, none⟩), .pointer (some ⟨pb, 0, none⟩), .int .i64 i] w
      fun e w' => e = .returned (.int .i64 (putErr L i : Int)) ∧ St B w0 w' (wrT pb (l ++ wordBits L i) :: tblL tb L :: r) := by
  go_enter Tryz.func11, Tryz.ntmps11
  go_wp2_with fail
  refine (put_st st i h20 hw hl).mono ?_
  rintro e w1 ⟨rfl, s1⟩
  go_wp2
  go_ret
  exact ⟨rfl, s1⟩

theorem tput_nilT (w : World) (p : Option Addr) (i : Int) : Calls Tryz.prog 11 #[.pointer none, .pointer p, .int .i64 i] w fun e w' => e = .returned (.int .i64 8) ∧ w = w' := by
  go_enter Tryz.func11, Tryz.ntmps11
  go_wp2
  go_ret
  go_wp2

theorem tput_nilW (w : World) (tb : Nat) (i : Int) : Calls Tryz.prog 11 #[.pointer (some ⟨tb, 0, none⟩), .pointer none, .int .i64 i] w fun e w' => e = .returned (.int .i64 8) ∧ w = w' := by
  go_enter Tryz.func11, Tryz.ntmps11
  go_wp2
  go_ret
  go_wp2

end Low
end Go.Proofs.YtpinfihmageeoaaGreat

namespace Go.Proofs.YtpinfihmageeoaaGreat
open Go.RowKit Kraft

def rest (f : Nat → Bool) (m p : Nat) : List Bool := (List.range (m - p)).map fun j => f (p + j)

theorem rest_end (f : Nat → Bool) (m p : Nat) (h : m ≤ p) : rest f m p = [] := by unfold rest; rw [show m - p = 0 from by omega]; rfl
theorem rest_on (f : Nat → Bool) (m p : Nat) (h : p < m) : rest f m p = f p :: rest f m (p + 1) := by
  unfold rest
  rw [show m - p = (m - (p + 1)) + 1 from by omega, List.range_succ_eq_map, List.map_cons, List.map_map, Nat.add_zero]
  congr 1
  refine List.map_congr_left (fun j _ => ?_)
  show f (p + (j + 1)) = f (p + 1 + j)
  congr 1
  omega
theorem rest_length (f : Nat → Bool) (m p : Nat) : (rest f m p).length = m - p := by simp [rest]

theorem zero_int (w : World) : (zeroValue 3).run Tryz.prog w = .ok (.int .i64 0) w := by kernel_rfl

theorem Tbl.look {w : World} {tb g mb m : Nat} {ws : List (Nat × Nat)} {f : Leads} (h : Tbl w tb g mb ws f m) (a n : Nat) (ha : a < 4294967296) (hn : n < 9223372036854775808) :
    (Instr.lookup 68 (.map (some mb)) (.agg #[.int .u32 (a : Int), .int .i64 (n : Int)]) true).run Tryz.prog w = .ok (.tuple #[.int .i64 ((f a n).getD 0), .bool (f a n).isSome]) w := by
  obtain ⟨D, hD, hL⟩ := h.map
  obtain ⟨v, ps, h1, h2⟩ := hD.look_ok word_law Tryz.underlying68 (zero_int w) (plainElem_int Tryz.underlying3 (by decide)) (keyOf_pair a n ha hn)
  obtain ⟨c, rfl, h3, h4⟩ := plainElem_int_inv Tryz.underlying3 h2
  obtain ⟨l1, l2⟩ := hL a n ha hn
  have h5 := congrArg Prod.fst h3
  rw [l2] at h5
  have h6 := (Lit.int.inj (DataW.lit.inj h5)).2
  unfold pairV at h1
  rw [h1, l1, h6]

namespace Low

def got (L : List Nat) (xs : List Nat) (p : Nat) : Nat × Int × Nat := seek (tab L L.length) 0 0 (rest (bitAt xs) (8 * xs.length) p)

theorem num_one (xs : List Nat) (p : Nat) : num (bitsAt xs p 1) = (bitAt xs p).toNat := by
  rw [num_bitsAt_succ]
  simp [bitsAt, num]

set_option maxRecDepth 100000 in
theorem get_any {B : Nat} {w0 w : World} {r : List Thing} {tb qb : Nat} {L xs : List Nat} {p : Nat} (st : St B w0 w (rdT qb xs p :: tblL tb L :: r)) (h20 : ∀ j, len L j ≤ 20) :
    Calls Tryz.prog 151 #[.pointer (some ⟨tb, 0, none⟩), .pointer (some ⟨qb, 0, none⟩), .func (.func 55) #[.pointer (some ⟨qb, 0, none⟩)] #[]] w
      fun e w' => e = .returned (.tuple #[.int .i64 (got L xs p).2.1, .int .i64 ((got L xs p).2.2 : Int)]) ∧ St B w0 w' (rdT qb xs (p + (got L xs p).1) :: tblL tb L :: r) := by
  have s1 : St B w0 (w.alloc (.cells #[.int .u32 0, .int .i64 0] 73)) (rowV w.heap.size 0 0 :: rdT qb xs p :: tblL tb L :: r) := st.newRowV 0 0
  obtain ⟨g, mb, h⟩ := st.swap.tbl
  obtain ⟨hc0, hc1, hf0, hf1⟩ := cell_two h.head
  clear hc0 hc1 hf0 hf1 h
  unfold got
  obtain ⟨v0, hrd⟩ := st.rd
  have hpl := hrd.place
  clear hrd
  generalize hR : seek (tab L L.length) 0 0 (rest (bitAt xs) (8 * xs.length) p) = R
  obtain ⟨Rk, Rs, Re⟩ := R
  go_enter Tryz.func151, Tryz.ntmps151
  go_wp2
  generalize (w.alloc (.cells #[.int .u32 0, .int .i64 0] 73)) = W1 at s1 ⊢
  obtain ⟨vb, hvb⟩ : ∃ vb, vb = w.heap.size := ⟨_, rfl⟩
  rw [← hvb] at s1
  simp only [← hvb]
  clear hvb
  go_loopw [] (fun wr => ∃ a n, n ≤ 20 ∧ a < 2 ^ n ∧ p + n ≤ 8 * xs.length ∧ (Rk, Rs, Re) = (n + (seek (tab L L.length) a n (rest (bitAt xs) (8 * xs.length) (p + n))).1, (seek (tab L L.length) a n (rest (bitAt xs) (8 * xs.length) (p + n))).2) ∧ St B w0 wr (rowV vb a n :: rdT qb xs (p + n) :: tblL tb L :: r)) (fun wr => match wr.cell? ⟨vb, 1, none⟩ with | some v => 21 - (intOf v).toNat | none => 0)
  case atStart => exact ⟨0, 0, by omega, by omega, by omega, by rw [← hR]; simp, s1⟩
  case round =>
    obtain ⟨a, n, hn, ha, hpn, hS, t1⟩ := hrel
    obtain ⟨g, mb, h⟩ := t1.third.tbl
    obtain ⟨hc0, hc1, hf0, hf1⟩ := cell_two h.head
    obtain ⟨vc0, vc1, vf0, vf1⟩ := cell_two t1.rowv
    have ha20 : a < 1048576 := Nat.lt_of_lt_of_le ha (Nat.pow_le_pow_right (n := 2) (by omega) hn)
    have hlook := h.drew.look a n (by omega) (by omega)
    have HA := Lib.hid ha
    clear ha
    rcases hT : tab L L.length a n with _ | s
    · rw [hT] at hlook
      rw [seek_none hT] at hS
      obtain ⟨rfl, e2⟩ := Prod.mk.inj hS
      obtain ⟨rfl, rfl⟩ := Prod.mk.inj e2
      simp only [Option.getD_none, Option.isSome_none] at hlook
      go_wp2
      go_region
      go_wp2
      go_ret2
      exact ⟨rfl, t1.drop.drew⟩
    · rw [hT] at hlook
      simp only [Option.getD_some, Option.isSome_some] at hlook
      by_cases hs : s = -1
      · subst hs
        have hn19 : n < 20 := by
          rcases tab_some _ a n _ hT with ⟨k, _, _, e, _⟩ | ⟨_, k, hk, hlt, _⟩
          · omega
          · have := h20 k; omega
        by_cases hend : p + n < 8 * xs.length
        · rw [rest_on _ _ _ hend, seek_on hT] at hS
          go_wp2
          go_region
          have t2 := t1.drew.swap
          generalize wr.drew = wz at t2 ⊢
          have hget := Go.Proofs.YtpinfihmageeoaaGreat.get_st t2 1 (by omega) (by omega)
          rw [num_one] at hget
          have hb1 : (bitAt xs (p + n)).toNat ≤ 1 := by cases bitAt xs (p + n) <;> simp
          generalize bitAt xs (p + n) = bt at hget hS hb1
          go_wp2_with fail
          refine hget.mono ?_
          rintro e w2 ⟨rfl, t3⟩
          obtain ⟨vc0', vc1', vf0', vf1'⟩ := cell_two t3.swap.rowv
          have hlong := longer_any w2 a n bt (by omega) (by omega)
          unfold pairV at hlong
          go_wp2_with fail
          refine hlong.mono ?_
          rintro e w3 ⟨rfl, hbel⟩
          have t4 := t3.quiet hbel
          obtain ⟨xc0, xc1, xf0, xf1⟩ := cell_two t4.swap.rowv
          have t5 := t4.swap.setRowV (2 * a + bt.toNat) (n + 1)
          go_wp2
          have hv := (cell_two t5.rowv).2.1
          rw [show ((2 * a + bt.toNat : Nat) : Int) = 2 * (a : Int) + (bt.toNat : Int) from by omega, show ((n + 1 : Nat) : Int) = (n : Int) + 1 from by omega] at t5 hv
          refine ⟨⟨2 * a + bt.toNat, n + 1, by omega, ?_, by omega, ?_, t5⟩, ?_⟩
          · have := HA.out
            rw [Nat.pow_succ]
            omega
          · rw [hS, show p + (n + 1) = p + n + 1 from by omega]
            refine Prod.mk.injEq .. ▸ ⟨by omega, rfl⟩
          · rw [hv, vc1]
            show 21 - (intOf (.int .i64 ((n : Int) + 1))).toNat < 21 - (intOf (.int .i64 (n : Int))).toNat
            simp [intOf]
            omega
        · rw [rest_end _ _ _ (by omega), seek_end hT] at hS
          obtain ⟨rfl, e2⟩ := Prod.mk.inj hS
          obtain ⟨rfl, rfl⟩ := Prod.mk.inj e2
          go_wp2
          go_region
          have t2 := t1.drew.swap
          generalize wr.drew = wz at t2 ⊢
          have hget := getform_st t2 1 (by omega) (by omega)
          go_wp2_with fail
          refine hget.mono ?_
          rintro e w2 ⟨rfl, t3⟩
          go_wp2
          go_ret2
          exact ⟨rfl, t3.swap.drop⟩
      · have hne : (s != -1) = true := by simpa using hs
        rw [seek_sym hT hs] at hS
        obtain ⟨rfl, e2⟩ := Prod.mk.inj hS
        obtain ⟨rfl, rfl⟩ := Prod.mk.inj e2
        go_wp2
        go_region
        go_wp2
        go_ret2
        exact ⟨rfl, t1.drop.drew⟩

theorem tget_st {B : Nat} {w0 w : World} {r : List Thing} {tb qb : Nat} {L xs : List Nat} {p : Nat} (st : St B w0 w (rdT qb xs p :: tblL tb L :: r)) (h20 : ∀ j, len L j ≤ 20) :
    Calls Tryz.prog 136 #[.pointer (some ⟨tb, 0, none⟩), .pointer (some ⟨qb, 0, none⟩)] w
      fun e w' => e = .returned (.tuple #[.int .i64 (got L xs p).2.1, .int .i64 ((got L xs p).2.2 : Int)]) ∧ St B w0 w' (rdT qb xs (p + (got L xs p).1) :: tblL tb L :: r) := by
  go_enter Tryz.func136, Tryz.ntmps136
  go_wp2_with fail
  refine (get_any st h20).mono ?_
  rintro e w1 ⟨rfl, s1⟩
  go_wp2
  go_ret2
  exact ⟨rfl, s1⟩

theorem tget_nilT (w : World) (p : Option Addr) : Calls Tryz.prog 136 #[.pointer none, .pointer p] w fun e w' => e = .returned (.tuple #[.int .i64 0, .int .i64 8]) ∧ w = w' := by
  go_enter Tryz.func136, Tryz.ntmps136
  go_wp2
  go_ret2
  go_wp2

theorem tget_nilR (w : World) (tb : Nat) : Calls Tryz.prog 136 #[.pointer (some ⟨tb, 0, none⟩), .pointer none] w fun e w' => e = .returned (.tuple #[.int .i64 0, .int .i64 8]) ∧ w = w' := by
  go_enter Tryz.func136, Tryz.ntmps136
  go_wp2
  go_ret2
  go_wp2

end Low
end Go.Proofs.YtpinfihmageeoaaGreat

namespace Go.Proofs.YtpinfihmageeoaaGreat
open Go.RowKit Kraft

namespace High

def got (L : List Nat) (xs : List Nat) (p : Nat) : Nat × Int × Nat := seek (tab L L.length) 0 0 (rest (Msb.bitAt xs) (8 * xs.length) p)

theorem num_one (xs : List Nat) (p : Nat) : Msb.num (Msb.bitsAt xs p 1) = (Msb.bitAt xs p).toNat := by
  rw [Msb.num_bitsAt_succ]
  simp [Msb.bitsAt, Msb.num]

end High
end Go.Proofs.YtpinfihmageeoaaGreat

namespace Go.Proofs.YtpinfihmageeoaaGreat
open Kraft

theorem rest_split (f : Nat → Bool) (m p : Nat) : ∀ M : List Bool, p + M.length ≤ m → (∀ j, j < M.length → f (p + j) = M.getD j false) → rest f m p = M ++ rest f m (p + M.length)
  | [], _, _ => rfl
  | b :: M, h, hf => by
    rw [List.length_cons] at h
    have h0 := hf 0 (by simp)
    have ih := rest_split f m (p + 1) M (by omega) (fun j hj => by
      have := hf (j + 1) (by rw [List.length_cons]; omega)
      rw [show p + 1 + j = p + (j + 1) from by omega, this]
      rfl)
    rw [rest_on _ _ _ (by omega), ih, List.length_cons, show p + 1 + M.length = p + (M.length + 1) from by omega]
    rw [show f p = b from h0]
    rfl

def enc (L : List Nat) (D : List Nat) : List Bool := D.flatMap fun (s : Nat) => wordBits L (s : Int)

theorem enc_snoc (L D : List Nat) (s : Nat) : enc L (D ++ [s]) = enc L D ++ wordBits L (s : Int) := by simp [enc]
theorem bitsAtSym_nat (L : List Nat) (s : Nat) : bitsAtSym L (s : Int) = len L s := by
  unfold bitsAtSym
  rw [if_neg (by omega), Int.toNat_natCast]
theorem wordBits_nat (L : List Nat) (s : Nat) : wordBits L (s : Int) = top (word L s) (len L s) (len L s) := by
  unfold wordBits
  rw [bitsAtSym_nat, Int.toNat_natCast]
theorem wordBits_none (L : List Nat) (s : Nat) (h : len L s = 0) : wordBits L (s : Int) = [] := by
  rw [wordBits_nat, h]
  rfl
theorem enc_at (L D : List Nat) (k : Nat) (hk : k < D.length) : enc L D = enc L (D.take k) ++ wordBits L ((D[k] : Nat) : Int) ++ enc L (D.drop (k + 1)) := by
  have e : D = D.take k ++ D[k] :: D.drop (k + 1) := by rw [List.getElem_cons_drop, List.take_append_drop]
  exact (congrArg (enc L) e).trans (by unfold enc; rw [List.flatMap_append, List.flatMap_cons, List.append_assoc])
theorem enc_take (L D : List Nat) (k : Nat) (hk : k < D.length) : (enc L (D.take (k + 1))).length = (enc L (D.take k)).length + len L D[k] := by
  rw [List.take_succ_eq_append_getElem hk, enc_snoc, List.length_append, wordBits_length, bitsAtSym_nat]

namespace Low

theorem bitAt_more (l : List Bool) (bh : List Nat) (p : Nat) (h : p < l.length) : bitAt (pk l ++ bh) p = l.getD p false := by
  rw [← bitAt_pk]
  unfold bitAt
  congr 3
  have : p / 8 < (pk l).length := by rw [pk_length]; omega
  rw [getD_in _ _ (by rw [List.length_append]; omega), getD_in _ _ this, List.getElem_append_left this]

theorem got_row {L : List Nat} (h20 : ∀ j, len L j ≤ 20) (hw : weight L ≤ 1048576) (A C : List Bool) (bh : List Nat) (k : Nat) (hk : k < L.length) (h0 : 0 < len L k) :
    got L (pk (A ++ wordBits L (k : Int) ++ C) ++ bh) A.length = (len L k, (k : Int), 0) := by
  unfold got
  have hl : (wordBits L (k : Int)).length = len L k := by rw [wordBits_length, bitsAtSym_nat]
  rw [rest_split _ _ _ (wordBits L (k : Int)) (by rw [List.length_append, pk_length, List.length_append, List.length_append]; omega) (fun j hj => by
    rw [bitAt_more _ _ _ (by rw [List.length_append, List.length_append]; omega), getD_in _ _ hj, getD_in _ _ (by rw [List.length_append, List.length_append]; omega),
      List.getElem_append_left (by rw [List.length_append]; omega), List.getElem_append_right (by omega)]
    congr 1
    omega)]
  rw [wordBits_nat]
  exact seek_put h20 hw k hk h0 _

theorem got_enc {L : List Nat} (h20 : ∀ j, len L j ≤ 20) (hw : weight L ≤ 1048576) (D : List Nat) (hD : ∀ s ∈ D, s < L.length ∧ 0 < len L s) (bh : List Nat) (k : Nat) (hk : k < D.length) :
    got L (pk (enc L D) ++ bh) (enc L (D.take k)).length = (len L D[k], (D[k] : Int), 0) := by
  obtain ⟨h1, h2⟩ := hD _ (List.getElem_mem hk)
  rw [enc_at L D k hk]
  exact got_row h20 hw _ _ bh _ h1 h2

end Low

namespace High

theorem bitAt_more (l : List Bool) (bh : List Nat) (p : Nat) (h : p < l.length) : Msb.bitAt (Msb.pk l ++ bh) p = l.getD p false := by
  rw [← Msb.bitAt_pk]
  unfold Msb.bitAt
  congr 3
  have : p / 8 < (Msb.pk l).length := by rw [Msb.pk_length]; omega
  rw [getD_in _ _ (by rw [List.length_append]; omega), getD_in _ _ this, List.getElem_append_left this]

theorem got_row {L : List Nat} (h20 : ∀ j, len L j ≤ 20) (hw : weight L ≤ 1048576) (A C : List Bool) (bh : List Nat) (k : Nat) (hk : k < L.length) (h0 : 0 < len L k) :
    got L (Msb.pk (A ++ wordBits L (k : Int) ++ C) ++ bh) A.length = (len L k, (k : Int), 0) := by
  unfold got
  have hl : (wordBits L (k : Int)).length = len L k := by rw [wordBits_length, bitsAtSym_nat]
  rw [rest_split _ _ _ (wordBits L (k : Int)) (by rw [List.length_append, Msb.pk_length, List.length_append, List.length_append]; omega) (fun j hj => by
    rw [bitAt_more _ _ _ (by rw [List.length_append, List.length_append]; omega), getD_in _ _ hj, getD_in _ _ (by rw [List.length_append, List.length_append]; omega),
      List.getElem_append_left (by rw [List.length_append]; omega), List.getElem_append_right (by omega)]
    congr 1
    omega)]
  rw [wordBits_nat]
  exact seek_put h20 hw k hk h0 _

theorem got_enc {L : List Nat} (h20 : ∀ j, len L j ≤ 20) (hw : weight L ≤ 1048576) (D : List Nat) (hD : ∀ s ∈ D, s < L.length ∧ 0 < len L s) (bh : List Nat) (k : Nat) (hk : k < D.length) :
    got L (Msb.pk (enc L D) ++ bh) (enc L (D.take k)).length = (len L D[k], (D[k] : Int), 0) := by
  obtain ⟨h1, h2⟩ := hD _ (List.getElem_mem hk)
  rw [enc_at L D k hk]
  exact got_row h20 hw _ _ bh _ h1 h2

end High
end Go.Proofs.YtpinfihmageeoaaGreat

namespace Go.Proofs.YtpinfihmageeoaaGreat
open Go.RowKit Kraft

theorem St.litBytes {B : Nat} {w0 w : World} {r : List Thing} (st : St B w0 w r) (xs : List Nat) (hb : ∀ x ∈ xs, x < 256) :
    St B w0 (w.alloc (.cells (u8s xs).toArray 5)) r ∧ ByteRow (w.alloc (.cells (u8s xs).toArray 5)) (.slice (some ⟨w.heap.size, 0, none⟩) xs.length xs.length) xs :=
  ⟨st.alloc _, byteRow_lit w xs (0, 0) hb⟩

def exL : List Nat := [2, 1, 0, 2]
theorem exL_err : wordsErr exL = 0 := by decide +kernel
theorem exL_20 : ∀ j, len exL j ≤ 20 := len_le_of (wordsErr_ok exL_err).1
theorem exL_w : weight exL ≤ 1048576 := (wordsErr_ok exL_err).2

end Go.Proofs.YtpinfihmageeoaaGreat
