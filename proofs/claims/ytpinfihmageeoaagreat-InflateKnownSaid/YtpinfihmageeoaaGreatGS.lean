/-
  TokP TokS TokR TokC TokL TokQ TokA TokO, one behind the other (merged by wip/merge.py). No conditions but those that each states.
-/
import Derived.Lib.Hide
import Derived.Test.YtpinfihmageeoaaGreatGC
import Derived.Deep.Slices
import Derived.Deep.Fields
import Derived.ProofKit
import Derived.Test.YtpinfihmageeoaaGreatGA
import Derived.Sort.QuietTacIn
import Derived.Sort.BigQuietIn
import Derived.Deep.QuietTactic
import Derived.BigQuiet
import Derived.IntWalk

namespace Go.Proofs.YtpinfihmageeoaaGreat.Tok

def riseB (each i : Nat) : Nat := i / each - 1
def rise (first each : Nat) : Nat → Nat
  | 0 => first
  | i + 1 => rise first each i + 2 ^ riseB each i

def spansOf (first each n : Nat) : List (Nat × Nat) := (List.range n).map fun i => (rise first each i, riseB each i)

theorem spansOf_length (first each n : Nat) : (spansOf first each n).length = n := by simp [spansOf]
theorem spansOf_get (first each n i : Nat) (h : i < (spansOf first each n).length) : (spansOf first each n)[i] = (rise first each i, riseB each i) := by simp [spansOf]
theorem spansOf_take (first each n k : Nat) (hk : k < n) : (spansOf first each n).take (k + 1) = (spansOf first each n).take k ++ [(rise first each k, riseB each k)] := by
  rw [List.take_succ_eq_append_getElem (by rw [spansOf_length]; exact hk), spansOf_get]

def lenS : List (Nat × Nat) := spansOf 3 4 28 ++ [(258, 0)]
def disS : List (Nat × Nat) := spansOf 1 2 30

theorem lenS_eq : lenS = [(3, 0), (4, 0), (5, 0), (6, 0), (7, 0), (8, 0), (9, 0), (10, 0), (11, 1), (13, 1), (15, 1), (17, 1), (19, 2), (23, 2), (27, 2), (31, 2), (35, 3), (43, 3), (51, 3), (59, 3), (67, 4), (83, 4), (99, 4), (115, 4), (131, 5), (163, 5), (195, 5), (227, 5), (258, 0)] := by decide
theorem disS_eq : disS = [(1, 0), (2, 0), (3, 0), (4, 0), (5, 1), (7, 1), (9, 2), (13, 2), (17, 3), (25, 3), (33, 4), (49, 4), (65, 5), (97, 5), (129, 6), (193, 6), (257, 7), (385, 7), (513, 8), (769, 8), (1025, 9), (1537, 9), (2049, 10), (3073, 10), (4097, 11), (6145, 11), (8193, 12), (12289, 12), (16385, 13), (24577, 13)] := by decide

theorem lenS_length : lenS.length = 29 := rfl
theorem disS_length : disS.length = 30 := rfl

def upTo : List (Nat × Nat) → Nat → Nat
  | [], _ => 0
  | p :: r, n => if p.1 ≤ n then upTo r n + 1 else 0

def Rises (S : List (Nat × Nat)) : Prop := ∀ i (h : i + 1 < S.length), S[i].1 < S[i + 1].1

def pairs (f : Nat × Nat → Nat × Nat → Bool) : List (Nat × Nat) → Bool
  | [] => true
  | [_] => true
  | a :: b :: r => f a b && pairs f (b :: r)

theorem pairs_get (f : Nat × Nat → Nat × Nat → Bool) : ∀ (S : List (Nat × Nat)), pairs f S = true → ∀ i (h : i + 1 < S.length), f S[i] S[i + 1] = true
  | [], _, i, hi => absurd hi (by simp)
  | [_], _, i, hi => absurd hi (by simp)
  | a :: b :: r, h, 0, _ => by simp only [pairs, Bool.and_eq_true] at h; exact h.1
  | a :: b :: r, h, i + 1, hi => by
    simp only [pairs, Bool.and_eq_true] at h
    exact pairs_get f (b :: r) h.2 i (by simpa using hi)

theorem rises_tail {p : Nat × Nat} {r : List (Nat × Nat)} (h : Rises (p :: r)) : Rises r := fun i hi => h (i + 1) (by simpa using hi)

theorem rises_le {S : List (Nat × Nat)} (h : Rises S) : ∀ (j i : Nat) (hj : j < S.length) (hi : i ≤ j), S[i].1 ≤ S[j].1
  | 0, i, hj, hi => by obtain rfl : i = 0 := by omega
                       exact Nat.le_refl _
  | j + 1, i, hj, hi => by
    by_cases e : i = j + 1
    · subst e; exact Nat.le_refl _
    · have h1 := rises_le h j i (by omega) (by omega)
      have h2 := h j hj
      omega

theorem upTo_le (S : List (Nat × Nat)) (n : Nat) : upTo S n ≤ S.length := by
  induction S with
  | nil => exact Nat.le_refl _
  | cons p r ih => unfold upTo; split <;> simp <;> omega

theorem upTo_iff : ∀ (S : List (Nat × Nat)) (n : Nat) (_ : Rises S) (k : Nat) (hk : k < S.length), S[k].1 ≤ n ↔ k < upTo S n
  | [], _, _, k, hk => absurd hk (by simp)
  | p :: r, n, h, k, hk => by
    unfold upTo
    split
    · rename_i hp
      cases k with
      | zero => simp; exact hp
      | succ k =>
        have := upTo_iff r n (rises_tail h) k (by simpa using hk)
        simp only [List.getElem_cons_succ]
        omega
    · rename_i hp
      have h1 := rises_le h k 0 hk (Nat.zero_le _)
      simp only [List.getElem_cons_zero] at h1
      omega

theorem upTo_mono : ∀ (S : List (Nat × Nat)) (n m : Nat), n ≤ m → upTo S n ≤ upTo S m
  | [], _, _, _ => Nat.le_refl _
  | p :: r, n, m, h => by
    have := upTo_mono r n m h
    unfold upTo
    split
    · rw [if_pos (by omega)]; omega
    · omega

theorem upTo_pos (S : List (Nat × Nat)) (n : Nat) (h0 : 0 < S.length) (h : S[0].1 ≤ n) : 0 < upTo S n := by
  cases S with
  | nil => simp at h0
  | cons p r =>
    unfold upTo
    rw [if_pos (show p.1 ≤ n from h)]
    omega

def Close (S : List (Nat × Nat)) : Prop := ∀ i (h : i + 1 < S.length), S[i + 1].1 ≤ S[i].1 + 2 ^ S[i].2

theorem rises_lenS : Rises lenS := fun i h => by
  have := pairs_get (fun a b => decide (a.1 < b.1)) lenS (by rw [lenS_eq]; decide) i h
  exact of_decide_eq_true this
theorem rises_disS : Rises disS := fun i h => by
  have := pairs_get (fun a b => decide (a.1 < b.1)) disS (by rw [disS_eq]; decide) i h
  exact of_decide_eq_true this
theorem close_lenS : Close lenS := fun i h => by
  have := pairs_get (fun a b => decide (b.1 ≤ a.1 + 2 ^ a.2)) lenS (by rw [lenS_eq]; decide) i h
  exact of_decide_eq_true this
theorem close_disS : Close disS := fun i h => by
  have := pairs_get (fun a b => decide (b.1 ≤ a.1 + 2 ^ a.2)) disS (by rw [disS_eq]; decide) i h
  exact of_decide_eq_true this

def at_ (S : List (Nat × Nat)) (n : Nat) : Nat := upTo S n - 1

theorem at_lt (S : List (Nat × Nat)) (n : Nat) (h0 : 0 < S.length) : at_ S n < S.length := by
  have := upTo_le S n
  unfold at_
  omega

theorem at_says (S : List (Nat × Nat)) (n hi : Nat) (hr : Rises S) (hc : Close S) (h0 : 0 < S.length) (hlo : S[0].1 ≤ n) (hhi : n ≤ hi) (hlast : ∀ h : S.length - 1 < S.length, hi < S[S.length - 1].1 + 2 ^ S[S.length - 1].2) :
    (S[at_ S n]'(at_lt S n h0)).1 ≤ n ∧ n < (S[at_ S n]'(at_lt S n h0)).1 + 2 ^ (S[at_ S n]'(at_lt S n h0)).2 := by

  have hp := upTo_pos S n h0 hlo
  have hl := at_lt S n h0
  have e : at_ S n + 1 = upTo S n := by unfold at_; omega
  have h1 := (upTo_iff S n hr (at_ S n) hl).2 (by omega)
  refine ⟨h1, ?_⟩
  by_cases h2 : at_ S n + 1 < S.length
  · have h3 := mt (upTo_iff S n hr (at_ S n + 1) h2).1 (by omega)
    have h4 := hc (at_ S n) h2
    omega
  · have h3 : at_ S n = S.length - 1 := by omega
    have h4 := hlast (by omega)
    have h5 : S[at_ S n] = S[S.length - 1] := by simp only [h3]
    rw [h5]
    omega

def ans (S : List (Nat × Nat)) (lo hi base : Nat) (n : Int) : Nat × Nat × Nat × Nat :=
  if n < (lo : Int) ∨ (hi : Int) < n then (0, 0, 0, 5) else (base + at_ S n.toNat, (S.getD (at_ S n.toNat) (0, 0)).2, n.toNat - (S.getD (at_ S n.toNat) (0, 0)).1, 0)
def ansOf (S : List (Nat × Nat)) (base : Nat) (s : Int) : Nat × Nat × Nat :=
  if s < (base : Int) ∨ ((base + S.length : Nat) : Int) ≤ s then (0, 0, 5) else ((S.getD (s.toNat - base) (0, 0)).1, (S.getD (s.toNat - base) (0, 0)).2, 0)

abbrev lenAns (n : Int) := ans lenS 3 258 257 n
abbrev disAns (n : Int) := ans disS 1 32768 0 n
abbrev lenOfAns (s : Int) := ansOf lenS 257 s
abbrev disOfAns (s : Int) := ansOf disS 0 s

theorem ans_in (S : List (Nat × Nat)) (lo hi base n : Nat) (h1 : lo ≤ n) (h2 : n ≤ hi) (h0 : 0 < S.length) :
    ans S lo hi base (n : Int) = (base + at_ S n, (S[at_ S n]'(at_lt S n h0)).2, n - (S[at_ S n]'(at_lt S n h0)).1, 0) := by
  unfold ans
  rw [if_neg (by omega), Int.toNat_natCast, List.getD_eq_getElem?_getD, List.getElem?_eq_getElem (at_lt S n h0)]
  rfl

theorem ans_out (S : List (Nat × Nat)) (lo hi base : Nat) (n : Int) (h : n < (lo : Int) ∨ (hi : Int) < n) : ans S lo hi base n = (0, 0, 0, 5) := by
  unfold ans
  rw [if_pos h]

theorem ansOf_in (S : List (Nat × Nat)) (base k : Nat) (hk : k < S.length) : ansOf S base ((base + k : Nat) : Int) = (S[k].1, S[k].2, 0) := by
  unfold ansOf
  rw [if_neg (by omega), Int.toNat_natCast, show base + k - base = k from by omega, List.getD_eq_getElem?_getD, List.getElem?_eq_getElem hk]
  rfl

theorem ansOf_out (S : List (Nat × Nat)) (base : Nat) (s : Int) (h : s < (base : Int) ∨ ((base + S.length : Nat) : Int) ≤ s) : ansOf S base s = (0, 0, 5) := by
  unfold ansOf
  rw [if_pos h]

theorem small_spans : (∀ p ∈ lenS, p.1 < 65536 ∧ p.2 < 16) ∧ ∀ p ∈ disS, p.1 < 65536 ∧ p.2 < 16 := by
  rw [lenS_eq, disS_eq]
  decide


abbrev Tk := Int × Int × Nat

def isB (t : Tk) : Bool := decide (t.1 = 0) && decide (t.2.1 = 0)
def isR (t : Tk) : Bool := decide (t.2.2 = 0) && decide (3 ≤ t.1) && decide (t.1 ≤ 258) && decide (1 ≤ t.2.1) && decide (t.2.1 ≤ 32768)
def may (t : Tk) : Bool := isB t || isR t

def rep (d : Nat) : Nat → List Nat → List Nat
  | 0, out => out
  | n + 1, out => rep d n (out ++ [out.getD (out.length - d) 0])

theorem rep_length (d : Nat) : ∀ (n : Nat) (out : List Nat), (rep d n out).length = out.length + n
  | 0, out => rfl
  | n + 1, out => by rw [rep, rep_length d n]; simp; omega

theorem rep_add (d : Nat) : ∀ (n m : Nat) (out : List Nat), rep d m (rep d n out) = rep d (n + m) out
  | 0, m, out => by rw [rep, Nat.zero_add]
  | n + 1, m, out => by
    rw [rep, rep_add d n m, show n + 1 + m = (n + m) + 1 from by omega, rep]

theorem rep_more (d n : Nat) (out : List Nat) : rep d (n + 1) out = rep d n out ++ [(rep d n out).getD ((rep d n out).length - d) 0] := by
  rw [← rep_add d n 1]
  rfl

theorem rep_byte (d : Nat) : ∀ (n : Nat) (out : List Nat), (∀ x ∈ out, x < 256) → ∀ x ∈ rep d n out, x < 256
  | 0, _, h => h
  | n + 1, out, h => by
    rw [rep]
    refine rep_byte d n _ fun x hx => ?_
    rcases List.mem_append.1 hx with hx | hx
    · exact h x hx
    · obtain e0 : x = out.getD (out.length - d) 0 := List.mem_singleton.1 hx
      rw [e0, List.getD_eq_getElem?_getD]
      cases e : out[out.length - d]? with
      | none => simp
      | some y => exact h y (List.mem_of_getElem? e)

def say : List Nat → List Tk → Option (List Nat)
  | out, [] => some out
  | out, t :: r => if isB t then say (out ++ [t.2.2]) r else if (out.length : Int) < t.2.1 then none else say (rep t.2.1.toNat t.1.toNat out) r

theorem say_append : ∀ (l m : List Tk) (out : List Nat), say out (l ++ m) = (say out l).bind fun o => say o m
  | [], _, _ => rfl
  | t :: r, m, out => by
    rw [List.cons_append, say, say]
    split
    · exact say_append r m _
    · split
      · rfl
      · exact say_append r m _

theorem say_drop (l : List Tk) (k : Nat) (out : List Nat) (h : say [] (l.take k) = some out) : say [] l = say out (l.drop k) := by
  conv => lhs; rw [← List.take_append_drop k l]
  rw [say_append, h]
  rfl

def exErr (l : List Tk) : Nat := if l.all may = false then 5 else if say [] l = none then 2 else 0
def exAns (l : List Tk) : List Nat := if l.all may = false then [] else (say [] l).getD []

theorem ex_bad {l : List Tk} (h : l.all may = false) : exErr l = 5 ∧ exAns l = [] := by
  unfold exErr exAns
  rw [if_pos h, if_pos h]
  exact ⟨rfl, rfl⟩

theorem ex_none {l : List Tk} (hf : l.all may = true) (h : say [] l = none) : exErr l = 2 ∧ exAns l = [] := by
  have hf' : ¬ l.all may = false := by rw [hf]; simp
  unfold exErr exAns
  rw [if_neg hf', if_neg hf', if_pos h, h]
  exact ⟨rfl, rfl⟩

theorem ex_some {l : List Tk} (hf : l.all may = true) {out : List Nat} (h : say [] l = some out) : exErr l = 0 ∧ exAns l = out := by
  have hf' : ¬ l.all may = false := by rw [hf]; simp
  unfold exErr exAns
  rw [if_neg hf', if_neg hf', h]
  exact ⟨rfl, rfl⟩

theorem say_none {l : List Tk} (k : Nat) (hk : k < l.length) (out : List Nat) (h : say [] (l.take k) = some out) (hb : isB l[k] = false) (hd : (out.length : Int) < l[k].2.1) : say [] l = none := by
  rw [say_drop l k out h, List.drop_eq_getElem_cons hk, say, if_neg (by simp [hb]), if_pos hd]

theorem say_byte {l : List Tk} (k : Nat) (hk : k < l.length) (out : List Nat) (h : say [] (l.take k) = some out) (hb : isB l[k] = true) : say [] (l.take (k + 1)) = some (out ++ [l[k].2.2]) := by
  rw [List.take_succ_eq_append_getElem hk, say_append, h]
  show say out [l[k]] = _
  rw [say, if_pos hb, say]

theorem say_rep {l : List Tk} (k : Nat) (hk : k < l.length) (out : List Nat) (h : say [] (l.take k) = some out) (hb : isB l[k] = false) (hd : ¬ (out.length : Int) < l[k].2.1) : say [] (l.take (k + 1)) = some (rep l[k].2.1.toNat l[k].1.toNat out) := by
  rw [List.take_succ_eq_append_getElem hk, say_append, h]
  show say out [l[k]] = _
  rw [say, if_neg (by simp [hb]), if_neg hd, say]

theorem may_rep {t : Tk} (h : may t = true) (hb : isB t = false) : t.2.2 = 0 ∧ 3 ≤ t.1 ∧ t.1 ≤ 258 ∧ 1 ≤ t.2.1 ∧ t.2.1 ≤ 32768 := by
  unfold may at h
  rw [hb] at h
  unfold isR at h
  simp only [Bool.false_or, Bool.and_eq_true, decide_eq_true_eq] at h
  omega

theorem isB_iff {t : Tk} : isB t = true ↔ t.1 = 0 ∧ t.2.1 = 0 := by
  unfold isB
  simp

end Go.Proofs.YtpinfihmageeoaaGreat.Tok

namespace Go.Proofs.YtpinfihmageeoaaGreat.Tok
open Go.RowKit Go.ChangeShapes Go.WideShapes Go.Deep


abbrev spanV (p : Nat × Nat) : Value := .agg #[.int .i64 (p.1 : Int), .int .i64 (p.2 : Int)]

def spn (l : List (Nat × Nat)) : List Value := l.flatMap fun p => [.int .i64 (p.1 : Int), .int .i64 (p.2 : Int)]

theorem spn_length (l : List (Nat × Nat)) : (spn l).length = l.length * 2 := by
  induction l with
  | nil => rfl
  | cons p r ih =>
    show (_ ++ spn r).length = _
    rw [List.length_append, ih, List.length_cons]
    simp
    omega

theorem spn_append (l m : List (Nat × Nat)) : spn (l ++ m) = spn l ++ spn m := by simp [spn]

theorem spn_get : ∀ (l : List (Nat × Nat)) (i : Nat) (h : i < l.length), (spn l)[i * 2]? = some (.int .i64 (l[i].1 : Int)) ∧ (spn l)[i * 2 + 1]? = some (.int .i64 (l[i].2 : Int))
  | [], i, h => absurd h (by simp)
  | p :: r, 0, _ => ⟨rfl, rfl⟩
  | p :: r, i + 1, h => by
    have ih := spn_get r i (by simpa using h)
    rw [show (i + 1) * 2 = i * 2 + 2 from by omega]
    exact ih

theorem spn_one (l : List (Nat × Nat)) : ∀ u ∈ spn l, u.oneCell' = true := by
  intro u hu
  simp only [spn, List.mem_flatMap] at hu
  obtain ⟨p, _, hp⟩ := hu
  simp at hp
  rcases hp with rfl | rfl <;> rfl

def SpanRow (w : World) (v : Value) (l : List (Nat × Nat)) : Prop := ∃ b cap, v = .slice (some ⟨b, 0, none⟩) l.length cap ∧ l.length ≤ cap ∧
  ∀ (i : Nat) (h : i < l.length), w.cell? ⟨b, i * 2, none⟩ = some (.int .i64 (l[i].1 : Int)) ∧ w.cell? ⟨b, i * 2 + 1, none⟩ = some (.int .i64 (l[i].2 : Int))

theorem SpanRow.below {w w' : World} {B : Nat} {v : Value} {l : List (Nat × Nat)} (h : SpanRow w v l) (hb : RowKit.Below B w w') (hB : w.heap.size ≤ B) : SpanRow w' v l := by
  obtain ⟨b, cap, h1, h2, h4⟩ := h
  refine ⟨b, cap, h1, h2, fun i hi => ?_⟩
  obtain ⟨c1, c2⟩ := h4 i hi
  have l1 := World.block_lt_of_cell? w _ c1
  exact ⟨(hb.cell (p := ⟨b, i * 2, none⟩) (Nat.lt_of_lt_of_le l1 hB)).trans c1, (hb.cell (p := ⟨b, i * 2 + 1, none⟩) (Nat.lt_of_lt_of_le l1 hB)).trans c2⟩

theorem spanRow_owns {w : World} {base e : Nat} {v : Value} {l : List (Nat × Nat)} (h : w.ownsRow base e 2 v l.length (spn l)) (h0 : 0 < l.length) : SpanRow w v l := by
  rcases h.2 with ⟨rfl, h1⟩ | ⟨g, cap, cur, rfl, _, hg, hnc, hm, _⟩
  · omega
  · refine ⟨g, cap, rfl, hnc, fun i hi => ⟨?_, ?_⟩⟩
    · rw [h.cellAt _ (by omega), (spn_get _ _ hi).1]
    · rw [h.cellAt _ (by omega), (spn_get _ _ hi).2]

theorem infoSpan : (Tryz.prog.info? 118).map (fun i => (i.zero, i.size, i.bytes)) = some (some (.agg #[.int .i64 0, .int .i64 0]), 2, 16) := by kernel_rfl


abbrev tkV (t : Tk) : Value := .agg #[.int .i64 t.1, .int .i64 t.2.1, .int .u8 (t.2.2 : Int)]
abbrev tk3 (t : Tk) : List Value := [.int .i64 t.1, .int .i64 t.2.1, .int .u8 (t.2.2 : Int)]

def tks (l : List Tk) : List Value := l.flatMap tk3

theorem tks_length (l : List Tk) : (tks l).length = l.length * 3 := by
  induction l with
  | nil => rfl
  | cons p r ih =>
    show (_ ++ tks r).length = _
    rw [List.length_append, ih, List.length_cons]
    simp
    omega

theorem tks_append (l m : List Tk) : tks (l ++ m) = tks l ++ tks m := by simp [tks]

theorem tks_get : ∀ (l : List Tk) (i : Nat) (h : i < l.length), (tks l)[i * 3]? = some (.int .i64 l[i].1) ∧ (tks l)[i * 3 + 1]? = some (.int .i64 l[i].2.1) ∧ (tks l)[i * 3 + 2]? = some (.int .u8 (l[i].2.2 : Int))
  | [], i, h => absurd h (by simp)
  | p :: r, 0, _ => ⟨rfl, rfl, rfl⟩
  | p :: r, i + 1, h => by
    have ih := tks_get r i (by simpa using h)
    rw [show (i + 1) * 3 = i * 3 + 3 from by omega]
    exact ih

theorem tks_one (l : List Tk) : ∀ u ∈ tks l, u.oneCell' = true := by
  intro u hu
  simp only [tks, List.mem_flatMap] at hu
  obtain ⟨p, _, hp⟩ := hu
  simp at hp
  rcases hp with rfl | rfl | rfl <;> rfl

def InT (t : Tk) : Prop := (-9223372036854775808 ≤ t.1 ∧ t.1 ≤ 9223372036854775807) ∧ (-9223372036854775808 ≤ t.2.1 ∧ t.2.1 ≤ 9223372036854775807) ∧ t.2.2 < 256
def Fits (l : List Tk) : Prop := ∀ t ∈ l, InT t

def TokRow (w : World) (v : Value) (l : List Tk) : Prop := ∃ a cap, v = .slice a l.length cap ∧ l.length ≤ cap ∧ l.length ≤ maxLen ∧ (a = none → cap = 0) ∧
  ∀ (i : Nat) (h : i < l.length), InT l[i] ∧ ∃ b off, a = some ⟨b, off, none⟩ ∧ w.cell? ⟨b, off + i * 3, none⟩ = some (.int .i64 l[i].1) ∧ w.cell? ⟨b, off + i * 3 + 1, none⟩ = some (.int .i64 l[i].2.1) ∧ w.cell? ⟨b, off + i * 3 + 2, none⟩ = some (.int .u8 (l[i].2.2 : Int))

theorem TokRow.below {w w' : World} {B : Nat} {v : Value} {l : List Tk} (h : TokRow w v l) (hb : RowKit.Below B w w') (hB : w.heap.size ≤ B) : TokRow w' v l := by
  obtain ⟨a, cap, h1, h2, h0, h3, h4⟩ := h
  refine ⟨a, cap, h1, h2, h0, h3, fun i hi => ?_⟩
  obtain ⟨g, b, off, e, c1, c2, c3⟩ := h4 i hi
  have l1 := World.block_lt_of_cell? w _ c1
  exact ⟨g, b, off, e, (hb.cell (p := ⟨b, off + i * 3, none⟩) (Nat.lt_of_lt_of_le l1 hB)).trans c1, (hb.cell (p := ⟨b, off + i * 3 + 1, none⟩) (Nat.lt_of_lt_of_le l1 hB)).trans c2, (hb.cell (p := ⟨b, off + i * 3 + 2, none⟩) (Nat.lt_of_lt_of_le l1 hB)).trans c3⟩

theorem TokRow.fits {w : World} {v : Value} {l : List Tk} (h : TokRow w v l) : Fits l := by
  obtain ⟨a, cap, rfl, hc, _, hn, hat⟩ := h
  intro x hx
  obtain ⟨i, hi, rfl⟩ := List.getElem_of_mem hx
  exact (hat i hi).1

theorem tokRow_owns {w : World} {base e : Nat} {v : Value} {l : List Tk} (h : w.ownsRow base e 3 v l.length (tks l)) (hs : Fits l) : TokRow w v l := by
  rcases h.2 with ⟨rfl, h0⟩ | ⟨g, cap, cur, rfl, _, hg, hnc, hm, _⟩
  · obtain rfl : l = [] := List.eq_nil_of_length_eq_zero h0
    exact ⟨none, 0, rfl, Nat.le_refl _, Nat.zero_le _, fun _ => rfl, fun i hi => absurd hi (by simp)⟩
  · refine ⟨_, cap, rfl, hnc, by omega, (fun e => by cases e), fun i hi => ⟨hs _ (List.getElem_mem hi), g, 0, rfl, ?_, ?_, ?_⟩⟩
    · rw [Nat.zero_add, h.cellAt _ (by omega), (tks_get _ _ hi).1]
    · rw [Nat.zero_add, h.cellAt _ (by omega), (tks_get _ _ hi).2.1]
    · rw [Nat.zero_add, h.cellAt _ (by omega), (tks_get _ _ hi).2.2]

theorem tokRow_none (w : World) : TokRow w (.slice none 0 0) [] := ⟨none, 0, rfl, Nat.le_refl _, Nat.zero_le _, fun _ => rfl, fun i hi => absurd hi (by simp)⟩

abbrev tokT (v : Value) (l : List Tk) : Thing := rowT 40 3 v l.length (tks l)

section
variable {B : Nat} {w0 w : World} {r : List Thing}

theorem _root_.Go.Proofs.YtpinfihmageeoaaGreat.St.toks {v : Value} {l : List Tk} (h : St B w0 w (tokT v l :: r)) (hs : Fits l) : TokRow w v l := tokRow_owns h.row hs
end

theorem tokRow_box {w : World} {b : Nat} {l : List Tk} {e : TypeId} (h : w.heap[b]? = some (.cells (tks l).toArray e (0, 0))) (hs : Fits l) (hl : l.length ≤ maxLen) : TokRow w (.slice (some ⟨b, 0, none⟩) l.length l.length) l := by
  refine ⟨_, l.length, rfl, Nat.le_refl _, hl, (fun e => by cases e), fun i hi => ⟨hs _ (List.getElem_mem hi), b, 0, rfl, ?_, ?_, ?_⟩⟩
  · rw [Nat.zero_add, cell_of_row _ b _ (tks l).toArray e (0, 0) h]
    simpa using (tks_get l i hi).1
  · rw [Nat.zero_add, cell_of_row _ b _ (tks l).toArray e (0, 0) h]
    simpa using (tks_get l i hi).2.1
  · rw [Nat.zero_add, cell_of_row _ b _ (tks l).toArray e (0, 0) h]
    simpa using (tks_get l i hi).2.2

theorem infoTok : (Tryz.prog.info? 40).map (fun i => (i.zero, i.size, i.bytes)) = some (some (.agg #[.int .i64 0, .int .i64 0, .int .u8 0]), 3, 24) := by kernel_rfl

theorem TokRow.reads {w : World} {v : Value} {l : List Tk} (h : TokRow w v l) : ∀ a m c, v = .slice a m c → (a = none → m = 0 ∧ c = 0) ∧ ∀ b, a = some b → ∀ j u, (tks l)[j]? = some u → w.cell? (b.add j) = some u := by
  obtain ⟨a, cap, rfl, hc, _, hn, hat⟩ := h
  rintro a' m c e
  obtain ⟨rfl, rfl, rfl⟩ := Value.slice.inj e
  refine ⟨fun e => ?_, fun b hb j u hu => ?_⟩
  · have := hn e
    exact ⟨by omega, this⟩
  · subst hb
    have hj : j < l.length * 3 := by
      have := (List.getElem?_eq_some_iff.1 hu).1
      rwa [tks_length] at this
    have hi : j / 3 < l.length := by omega
    obtain ⟨_, b', off, e2, c1, c2, c3⟩ := hat (j / 3) hi
    obtain rfl := Option.some.inj e2
    obtain ⟨g1, g2, g3⟩ := tks_get l (j / 3) hi
    rw [add_none]
    have h3 : j % 3 = 0 ∨ j % 3 = 1 ∨ j % 3 = 2 := by omega
    rcases h3 with h3 | h3 | h3
    · have e3 : j / 3 * 3 = j := by omega
      rw [e3] at g1 c1
      rw [c1, ← hu, g1]
    · have e3 : j / 3 * 3 + 1 = j := by omega
      rw [e3] at g2
      rw [Nat.add_assoc, e3] at c2
      rw [c2, ← hu, g2]
    · have e3 : j / 3 * 3 + 2 = j := by omega
      rw [e3] at g3
      rw [Nat.add_assoc, e3] at c3
      rw [c3, ← hu, g3]

section
variable {H : Type} {enc : TypeId × Value → H} {W : World}

theorem cellsTok : Tryz.prog.cellsOf 40 = 3 := by kernel_rfl

theorem byte_wf {v : Int} (hv : (Lit.int .u8 v).wf = true) : ∃ x : Nat, v = (x : Int) ∧ x < 256 := by
  simp only [Lit.wf, Bool.and_eq_true, decide_eq_true_eq] at hv
  have h1 : IntKind.u8.min = 0 := rfl
  have h2 : IntKind.u8.max = 255 := rfl
  rw [h1, h2] at hv
  exact ⟨v.toNat, by omega, by omega⟩

theorem int_wf {v : Int} (hv : (Lit.int .i64 v).wf = true) : -9223372036854775808 ≤ v ∧ v ≤ 9223372036854775807 := by
  simp only [Lit.wf, Bool.and_eq_true, decide_eq_true_eq] at hv
  have e1 : IntKind.i64.min = -9223372036854775808 := rfl
  have e2 : IntKind.i64.max = 9223372036854775807 := rfl
  rw [e1, e2] at hv
  exact hv

set_option maxRecDepth 100000 in
theorem tok_of {n : Nat} {cs : List Value} {x : DataW H × List MemPlace} (h : DataW.trod enc Tryz.prog W 0 (fun _ => true) true n 40 cs = some x) :
    ∃ y : Tk, InT y ∧ cs = tk3 y := by
  obtain ⟨xs, n', _, _, hlen, hxl, hg⟩ := DataW.trod_struct Tryz.underlying40 h
  rw [cellsTok] at hlen
  match cs, hlen with
  | [c0, c1, c2], _ =>
    match xs, hxl with
    | [x0, x1, x2], _ =>
      have g0 : DataW.trod enc Tryz.prog W 0 (fun _ => true) true n' 3 (([c0, c1, c2].drop 0).take (Tryz.prog.cellsOf 3)) = some x0 := hg 0 _ rfl
      have g1 : DataW.trod enc Tryz.prog W 0 (fun _ => true) true n' 3 (([c0, c1, c2].drop 1).take (Tryz.prog.cellsOf 3)) = some x1 := hg 1 _ rfl
      have g2 : DataW.trod enc Tryz.prog W 0 (fun _ => true) true n' 5 (([c0, c1, c2].drop 2).take (Tryz.prog.cellsOf 5)) = some x2 := hg 2 _ rfl
      rw [show Tryz.prog.cellsOf 3 = 1 from by kernel_rfl] at g0 g1
      rw [show Tryz.prog.cellsOf 5 = 1 from by kernel_rfl] at g2
      obtain ⟨a0, e0, _, k0⟩ := DataW.trod_int Tryz.underlying3 g0
      obtain ⟨a1, e1, _, k1⟩ := DataW.trod_int Tryz.underlying3 g1
      obtain ⟨a2, e2, _, k2⟩ := DataW.trod_int Tryz.underlying5 g2
      simp at e0 e1 e2
      subst e0 e1 e2
      obtain ⟨y2, rfl, f2⟩ := byte_wf k2
      exact ⟨(a0, a1, y2), ⟨int_wf k0, int_wf k1, f2⟩, rfl⟩

theorem open_toks {a : Option Addr} {len cap : Nat} {d : DataW H} {p : List MemPlace} (h : DataW.Trod enc Tryz.prog W 0 (fun _ => true) true 41 (.slice a len cap) d p) : ∃ l, TokRow W (.slice a len cap) l := by
  obtain ⟨fuel, hf⟩ := h
  rcases open_slice Tryz.underlying41 hf with ⟨hcs, _⟩ | ⟨x, len', cap', m, n, D, Pl, hcs, _, hl, hm, hmm, _, hi⟩
  · simp [Value.cells] at hcs
    obtain ⟨rfl, rfl, rfl⟩ := hcs
    exact ⟨[], tokRow_none W⟩
  · simp [Value.cells] at hcs
    obtain ⟨rfl, rfl, rfl⟩ := hcs
    have hlm : len ≤ m := by rw [hmm]; simpa using hl
    rw [cellsTok] at hi
    by_cases h0 : len = 0
    · subst h0
      exact ⟨[], _, cap, rfl, by simp, by simp, (fun e => by cases e), fun i hi => absurd hi (by simp)⟩
    · have hx : x = ⟨x.block, x.off, none⟩ := by
        obtain ⟨cs, hc, ht⟩ := hi 0 (by omega)
        obtain ⟨y, _, rfl⟩ := tok_of ht
        obtain ⟨_, _, hat⟩ := World.cells?_some hc
        have h1 := hat 0 (by omega)
        have h2 : x.spot = none := by
          have := World.cell?_spot (h1.trans rfl)
          simpa [Addr.add] using this
        obtain ⟨b, o, s⟩ := x
        simpa using h2
      obtain ⟨l, h1, h2⟩ := list_of (fun i (y : Tk) => InT y ∧ W.cell? ⟨x.block, x.off + i * 3, none⟩ = some (.int .i64 y.1) ∧ W.cell? ⟨x.block, x.off + i * 3 + 1, none⟩ = some (.int .i64 y.2.1) ∧ W.cell? ⟨x.block, x.off + i * 3 + 2, none⟩ = some (.int .u8 (y.2.2 : Int))) len (fun i hin => by
        obtain ⟨cs, hc, ht⟩ := hi i (by omega)
        obtain ⟨y, hy, rfl⟩ := tok_of ht
        obtain ⟨_, _, hat⟩ := World.cells?_some hc
        rw [hx, add_none] at hat
        have c0 := hat 0 (by omega)
        have c1 := hat 1 (by omega)
        have c2 := hat 2 (by omega)
        rw [add_none] at c0 c1 c2
        exact ⟨y, hy, c0, c1, c2⟩)
      exact ⟨l, some x, cap, by rw [h1], by omega, by omega, (fun e => by cases e), fun i hi => by
        obtain ⟨f, g1, g2, g3⟩ := h2 i hi
        exact ⟨f, x.block, x.off, by rw [← hx], g1, g2, g3⟩⟩
end
end Go.Proofs.YtpinfihmageeoaaGreat.Tok

namespace Go.Proofs.YtpinfihmageeoaaGreat.Tok
open Go.RowKit Go.Shelf

attribute [local go_sem] Oper.semAt_some

set_option maxHeartbeats 1000000 in
theorem rising_any (x y z : Int) (w : World) :
    Calls Tryz.prog 64 #[.int .i64 x, .int .i64 y, .int .i64 z] w fun e w' => e = .returned (.func (.func 85) #[] #[.pointer (some ⟨w.heap.size, 0, none⟩), .pointer (some ⟨w.heap.size + 1, 0, none⟩), .pointer (some ⟨w.heap.size + 2, 0, none⟩)]) ∧
      w' = ((w.alloc (.cells #[.int .i64 x] 3)).alloc (.cells #[.int .i64 y] 3)).alloc (.cells #[.int .i64 z] 3) := by
  have hmf : ∀ (fn : Fn) (first cap : Array Value) (w : World), (Instr.makeFunc fn first cap).run Tryz.prog w = .ok (.func fn first cap) w := fun _ _ _ _ => rfl
  go_enter Tryz.func64, Tryz.ntmps64
  go_wp2
  go_ret
  exact ⟨rfl, rfl⟩



def riseL (first each k : Nat) : Nat := rise first each k
def riseN (each k : Nat) : Nat := riseB each k
def riseArgs (first each k : Nat) : Array Value := #[.int .i64 (riseL first each k : Int), .int .i64 (riseN each k : Int)]

theorem riseL_next (first each k : Nat) : riseL first each (k + 1) = riseL first each k + 2 ^ riseN each k := rfl

set_option maxRecDepth 100000 in
set_option maxHeartbeats 2000000 in
theorem rising_seq (F : Fence) (n : Nat) (h26 : F.fn 85) (hro : F.round = none) (hn : 1 ≤ n) (B1 n0 first num each : Nat) (w : World) (hB0 : B1 + 2 < n0) (hn0 : n0 ≤ w.heap.size) (hnum : num ≤ 1000) (he : 1 ≤ each) (hee : each ≤ 1000) (hsm : ∀ k, k ≤ num → riseL first each k ≤ 1000000 ∧ riseN each k ≤ 30)
    (hb1 : w.cell? ⟨B1, 0, none⟩ = some (.int .i64 (first : Int))) (hb2 : w.cell? ⟨B1 + 1, 0, none⟩ = some (.int .i64 (num : Int))) (hb3 : w.cell? ⟨B1 + 2, 0, none⟩ = some (.int .i64 (each : Int))) :
    SeqN F n Tryz.prog 85 #[.pointer (some ⟨B1, 0, none⟩), .pointer (some ⟨B1 + 1, 0, none⟩), .pointer (some ⟨B1 + 2, 0, none⟩)] (riseArgs first each) (Below n0) num w := by
  intro l J W hW hA hY h0
  refine callsIn_of_wp Tryz.func85 rfl h26 ?_ hro
  simp only [Tryz.ntmps85, List.size_toArray, List.length_cons, List.length_nil, Nat.reduceAdd, Nat.reduceSub, Array.replicate_succ, Array.replicate_zero, List.push_toArray, List.append_toArray, List.nil_append, List.cons_append]
  have c1 := (hW.cell (p := ⟨B1, 0, none⟩) (by simp only []; omega)).trans hb1
  have c2 := (hW.cell (p := ⟨B1 + 1, 0, none⟩) (by simp only []; omega)).trans hb2
  have c3 := (hW.cell (p := ⟨B1 + 2, 0, none⟩) (by simp only []; omega)).trans hb3
  have hW0 : Below n0 w W := hW.mono hn0
  have c30 := hb3
  clear hb1 hb2 hb3
  gi_wp2
  gi_loopw [5, 6, 7, 10] (fun lv _ _ iv wr => ∃ k : Nat, k ≤ num ∧ iv = .int .i64 (k : Int) ∧ lv = .int .i64 (riseL first each k : Int) ∧ J k wr ∧ Below n0 w wr)
    (fun _ _ _ iv _ => num - (intOf iv).toNat)
  case atStart => exact ⟨0, Nat.zero_le _, rfl, rfl, h0, hW0⟩
  case round =>
    obtain ⟨k, hk, rfl, rfl, hJ, hBl⟩ := hrel
    by_cases hlt : k < num
    · have d1 := (hBl.cell (p := ⟨B1 + 2, 0, none⟩) (by simp only []; omega)).trans c30
      obtain ⟨fn, tmps, assign, body, hy, hR⟩ := hY k wr hlt hJ
      have hq0 : (k : Int) / (each : Int) = ((k / each : Nat) : Int) := by simp
      have hqk : k / each ≤ k := Nat.div_le_self _ _
      have hN : riseN each k = k / each - 1 := rfl
      have hs1 := hsm k hk
      have hs2 := hsm (k + 1) hlt
      have hnx := riseL_next first each k
      unfold riseArgs at hy
      obtain ⟨lb, hlbE⟩ : ∃ lb, riseL first each (k + 1) = lb := ⟨_, rfl⟩
      rw [hlbE] at hs2 hnx
      have HLB := Lib.hid hlbE
      clear hlbE
      generalize riseL first each k = la at *
      rw [hN] at hy hs1 hnx
      clear hN hsm
      generalize k / each = q at *
      by_cases hq : q = 0
      · subst hq
        have hy : (Instr.yield l #[.int .i64 (la : Int), .int .i64 0]).run Tryz.prog wr = _ := hy
        have hlb : (la : Int) + 1 = (lb : Int) := by rw [hnx]; rfl
        have hlb2 : lb ≤ 1000000 := hs2.1
        have hla2 : la ≤ 1000000 := hs1.1
        clear hs1 hs2 hnx hqk
        gi_wp2
        refine hR.mono ?_
        rintro e W3 ⟨rfl, hJ3, hk3⟩
        clear hR hy
        gi_wp2
        exact ⟨⟨k + 1, by omega, by go_num, by rw [HLB.out], hJ3, hBl.trans hk3⟩, by simp only [intOf, Int.toNat_natCast]; omega⟩
      · obtain ⟨p, rfl⟩ : ∃ p, q = p + 1 := ⟨q - 1, by omega⟩
        rw [Nat.add_sub_cancel] at hy hs1 hnx
        obtain ⟨P, hP⟩ : ∃ P : Nat, 2 ^ p = P := ⟨_, rfl⟩
        rw [hP] at hnx
        have hP1 : (2 : Int) ^ p = (P : Int) := by rw [← hP]; simp
        have hlb : (la : Int) + (P : Int) = (lb : Int) := by omega
        have hlb2 : lb ≤ 1000000 := hs2.1
        have hla2 : la ≤ 1000000 := hs1.1
        have hp30 : p ≤ 30 := hs1.2
        have HP := Lib.hid hP
        clear hs1 hs2 hnx hqk hq hP
        gi_wp2
        refine hR.mono ?_
        rintro e W3 ⟨rfl, hJ3, hk3⟩
        clear hR hy
        gi_wp2
        exact ⟨⟨k + 1, by omega, by go_num, by rw [HLB.out], hJ3, hBl.trans hk3⟩, by simp only [intOf, Int.toNat_natCast]; omega⟩
    · obtain rfl : k = num := by omega
      gi_wp2
      go_end0
      exact ⟨⟨_, rfl⟩, hJ⟩

end Go.Proofs.YtpinfihmageeoaaGreat.Tok

namespace Go.Proofs.YtpinfihmageeoaaGreat.Tok
open Go.RowKit Go.Shelf

attribute [local go_sem] Oper.semAt_some

theorem wpListIn_append_mine {F : Fence} {nn : Nat} {P : Program} (w : World) {ops : Array Oper} {rest : List Oper} {o : Oper} {a : Act} {Q : Exit → Act → World → Prop} (hgd : o.guard = none) (s x : Operand) (t : TypeId)
    (ho : o.op = .call { callee := .builtin .append, args := #[s, x], argTypes := #[t, t] })
    (e : TypeId) (i : TypeInfo) (z : Value) (size bytes : Nat) (ht : P.underlying t = some (.slice e)) (hi : P.info? e = some i) (hz : i.zero = some z)
    (hsize : i.size = size) (hby : i.bytes = bytes) (hzs : z.cells.size = size) (hsz : 0 < size)
    (v : Value) (n : Nat) (xs : List Value) (hs : a.eval s = v) (hown : w.ownsRow 0 e size v n xs)
    (ad : Option Addr) (m c : Nat) (news : List Value) (hx : a.eval x = .slice ad m c) (hnone : ad = none → m = 0 ∧ c = 0) (hl : news.length = m * size) (hnews : ∀ b, ad = some b → ∀ j u, news[j]? = some u → w.cell? (b.add j) = some u) (h1 : ∀ u ∈ news, u.oneCell' = true)
    (h63 : n + m ≤ maxLen) (hbytes : (n + m) * bytes ≤ 140737488355328)
    (h : ∀ v' w', w'.ownsRow 0 e size v' (n + m) (xs ++ news) → w.grownBy w' v.ownBlock → Fresh w v v' → wpListIn F nn P ops Q rest (a.put o.dst v') w') : wpListIn F nn P ops Q (o :: rest) a w := by
  refine wpListIn_plain hgd fun K hK => ?_
  obtain ⟨v', w', hr, h2, h3, h4⟩ := run_append_mine (P := P) w t o.type e i z size bytes ht hi hz hsize hby hzs hsz v n xs hown ad m c news hnone hl hnews h1 h63 hbytes
  unfold Oper.wpIn
  refine ⟨?_, ?_⟩
  · simp [Oper.about, ho, resolve, Target.leads, Sem.run_pure]
  · rw [Oper.semAt_plain F _ _ (by rw [ho]; intro c hc; cases hc)]
    simp only [execOp, ho, resolve, invoke, builtin, Sem.run_bind, Sem.run_pure, Result.andThen_ok, List.map_toArray, List.map_cons, List.map_nil, hs, hx, hr]
    exact hK _ _ (h v' w' h2 h3 h4)

def HeldC (w : World) (l : List (Nat × Nat)) (X : World) : Prop :=
  ∃ v1, Boxed X w.heap.size 91 v1 ∧ X.ownsRow w.heap.size 118 2 v1 l.length (spn l) ∧ v1.ownBlock ≠ some w.heap.size ∧ Below w.heap.size w X

theorem heldC_from (w : World) (f : Nat → List (Nat × Nat)) (b : Nat) (hb : w.heap.size + 1 ≤ b) : OwnFrom b (fun k X => HeldC w (f k) X) := by
  rintro k A B row ⟨v1, h1, h2, h3, h4⟩ hg hr
  have hne : ∀ j, j < b → some j ≠ row := fun j hj e => by have := (hr j e.symm).1; omega
  refine ⟨v1, h1.kept hg (hne _ (by omega)), h2.kept hg ?_, h3, h4.grown hg h4.size (fun r e => by have := (hr r e).1; omega)⟩
  rcases h2.2 with ⟨rfl, _⟩ | ⟨g, cp, cur, rfl, _, hgg, _⟩
  · exact .inl rfl
  · refine .inr fun e => ?_
    obtain ⟨o, ho, hc⟩ := (hr g e.symm).2
    rw [hgg] at ho
    obtain rfl := Option.some.inj ho
    cases hc

theorem HeldC.next {w X X2 X3 : World} {l s : List (Nat × Nat)} {v1 v3 : Value} (h1 : Boxed X w.heap.size 91 v1) (h2 : X.ownsRow w.heap.size 118 2 v1 l.length (spn l)) (h3 : v1.ownBlock ≠ some w.heap.size) (h4 : Below w.heap.size w X)
    (hb : Below X.heap.size X X2) (hg : X2.grownBy X3 v1.ownBlock) (hf : Fresh X2 v1 v3) (h6 : X3.ownsRow 0 118 2 v3 (l.length + s.length) (spn l ++ spn s)) :
    KeepsOthers X (X3.setCell ⟨w.heap.size, 0, none⟩ v3) ∧ Below w.heap.size X (X3.setCell ⟨w.heap.size, 0, none⟩ v3) ∧ HeldC w (l ++ s) (X3.setCell ⟨w.heap.size, 0, none⟩ v3) ∧ X3.cell? ⟨w.heap.size, 0, none⟩ = some v1 ∧ X3.frozen? ⟨w.heap.size, 0, none⟩ = false := by
  have hne : some w.heap.size ≠ v1.ownBlock := fun e => h3 e.symm
  have b1 : Boxed X2 w.heap.size 91 v1 := (hb.block _ h1.lt).trans h1
  have b3 := b1.kept hg hne
  have hbg : ∀ k, v1.ownBlock = some k → w.heap.size ≤ k ∧ k < X.heap.size := fun k hk => h2.lt k hk
  have bw : Below w.heap.size X (X3.setCell ⟨w.heap.size, 0, none⟩ v3) :=
    (((hb.mono h4.size).grown hg (Nat.le_trans h4.size hb.size) (fun k hk => (hbg k hk).1))).setCell (p := ⟨w.heap.size, 0, none⟩) (Nat.le_refl _) v3
  have ho : v3.ownBlock ≠ some w.heap.size := by
    rcases hf with e | e
    · rw [e]; exact h3
    · intro e2
      have h7 := e _ e2
      have h8 := hb.size
      have h9 := h1.lt
      omega
  refine ⟨?_, bw, ⟨v3, b3.set v3, ?_, ho, h4.trans bw⟩, b3.cell, b3.frozen⟩
  · refine KeepsOthers.trans (B := X2) ⟨hb.size, fun k o hk _ => (hb.block k (lt_of_block hk)).trans hk⟩ (KeepsOthers.trans (B := X3) (KeepsOthers.of_grownBy hg fun j o hj hjo => ?_) (KeepsOthers.setCell _ _ _))
    rcases h2.2 with ⟨rfl, _⟩ | ⟨g, cp, cur, rfl, _, hgg, _⟩
    · cases hj
    · have e1 : g = j := Option.some.inj hj
      have h10 := (hb.block g (lt_of_block hgg)).trans hgg
      rw [e1, hjo] at h10
      obtain rfl := Option.some.inj h10
      rfl
  · have h7 : X3.ownsRow w.heap.size 118 2 v3 (l.length + s.length) (spn l ++ spn s) := by
      refine ⟨h6.1, ?_⟩
      rcases h6.2 with e | ⟨g, cp, cur, hv, _, hgg, rest⟩
      · exact .inl e
      · refine .inr ⟨g, cp, cur, hv, ?_, hgg, rest⟩
        have hgb : v3.ownBlock = some g := by rw [hv]; rfl
        rcases hf with e | e
        · rw [e] at hgb; exact (hbg g hgb).1
        · have := e g hgb
          have := hb.size
          have := h4.size
          omega
    rw [← spn_append, ← List.length_append] at h7
    exact h7.kept (grownBy_setCell' X3 w.heap.size v3) (.inr (fun e => ho e))

set_option maxRecDepth 100000 in
set_option maxHeartbeats 8000000 in
theorem collected_any (w : World) (B1 first num each : Nat) (hB : B1 + 2 < w.heap.size) (hnum : num ≤ 1000) (he : 1 ≤ each) (hee : each ≤ 1000) (hsm : ∀ k, k ≤ num → riseL first each k ≤ 1000000 ∧ riseN each k ≤ 30)
    (hb1 : w.cell? ⟨B1, 0, none⟩ = some (.int .i64 (first : Int))) (hb2 : w.cell? ⟨B1 + 1, 0, none⟩ = some (.int .i64 (num : Int))) (hb3 : w.cell? ⟨B1 + 2, 0, none⟩ = some (.int .i64 (each : Int))) :
    Calls Tryz.prog 63 #[.func (.func 85) #[] #[.pointer (some ⟨B1, 0, none⟩), .pointer (some ⟨B1 + 1, 0, none⟩), .pointer (some ⟨B1 + 2, 0, none⟩)]] w fun e w' => ∃ v', e = .returned v' ∧ w'.ownsRow w.heap.size 118 2 v' (spansOf first each num).length (spn (spansOf first each num)) ∧ Below w.heap.size w w' := by
  refine (callsIn_wide (n := 3)).1 ?_
  refine callsIn_of_wp_marks Tryz.func63 rfl trivial ?_ rfl
  simp only [Tryz.ntmps63, List.size_toArray, List.length_cons, List.length_nil, Nat.reduceAdd, Nat.reduceSub, Array.replicate_succ, Array.replicate_zero, List.push_toArray, List.append_toArray, List.nil_append, List.cons_append]
  gi_wp2_with fail
  have k1 := Boxed.new w 91 (.slice none 0 0)
  have hb2' : Below w.heap.size w (w.alloc (.cells #[.slice none 0 0] 91)) := (Below.refl _ w).alloc (Nat.le_refl _) _
  have z2 : (w.alloc (.cells #[.slice none 0 0] 91)).heap.size = w.heap.size + 1 := by simp
  have x1 := (hb2'.cell (p := ⟨B1, 0, none⟩) (by simp only []; omega)).trans hb1
  have x2 := (hb2'.cell (p := ⟨B1 + 1, 0, none⟩) (by simp only []; omega)).trans hb2
  have x3 := (hb2'.cell (p := ⟨B1 + 2, 0, none⟩) (by simp only []; omega)).trans hb3
  generalize w.alloc (.cells #[.slice none 0 0] 91) = w2 at *
  have hH : HeldC w ((spansOf first each num).take 0) w2 := ⟨_, k1, World.ownsRow_nil _ _ _ _, by simp [Value.ownBlock], hb2'⟩
  refine range_count rfl (by omega) (gf := 85) (lb := #[.pointer (some ⟨B1, 0, none⟩), .pointer (some ⟨B1 + 1, 0, none⟩), .pointer (some ⟨B1 + 2, 0, none⟩)]) rfl trivial (enters_of Tryz.func85 (by kernel_rfl) rfl)
    (rising_seq Fence.wide _ trivial rfl (by omega) B1 w.heap.size first num each w2 (by omega) (by omega) hnum he hee hsm x1 x2 x3) (fun h k => Below.trans h k) ?keep (Below.refl _ _) (fun _ _ => rfl)
    (fun i W' => HeldC w ((spansOf first each num).take i) W')
    (heldC_from w (fun i => (spansOf first each num).take i) _ (by omega))
    hH ?a1 ?assign ?body ?done
  case keep =>
    intro W l o o' hlW hW h3 h4
    exact belowK_b (w := w2) (by omega) W l o o' hlW hW h3 h4
  case assign =>
    intro l j X K hj hK
    unfold riseArgs
    gi_wp2
    exact hK
  case body =>
    rintro l j X hj ⟨v1, h1, h2, h3, h4⟩
    have hnext : (spansOf first each num).take (j + 1) = (spansOf first each num).take j ++ [(riseL first each j, riseN each j)] := spansOf_take first each num j hj
    rw [hnext]
    have hfl : ((spansOf first each num).take j).length ≤ 1000 := by rw [List.length_take, spansOf_length]; omega
    clear hnext hH k1 hb2' x1 x2 x3 hb1 hb2 hb3 hsm
    generalize riseL first each j = y at *
    generalize riseN each j = d at *
    generalize (spansOf first each num).take j = l0 at *
    have hlt : w.heap.size < X.heap.size := h1.lt
    obtain ⟨i0, hi, hz0, hz1, hz2⟩ := info_parts infoSpan
    have cX : X.cell? ⟨w.heap.size, 0, none⟩ = some v1 := h1.cell
    have hb : Below X.heap.size X (X.alloc (.cells #[.int .i64 (y : Int), .int .i64 (d : Int)] 118)) := (Below.refl X.heap.size X).alloc (Nat.le_refl _) _
    have hn2 : (X.alloc (.cells #[.int .i64 (y : Int), .int .i64 (d : Int)] 118)).heap[X.heap.size]? = some (.cells #[.int .i64 (y : Int), .int .i64 (d : Int)] 118 (0, 0)) := heap_alloc_new _ _
    have hnews : ∀ b, some (⟨X.heap.size, 0, none⟩ : Addr) = some b → ∀ j u, (spn [(y, d)])[j]? = some u → (X.alloc (.cells #[.int .i64 (y : Int), .int .i64 (d : Int)] 118)).cell? (b.add j) = some u := fun b hb1 j u hu => by
      obtain rfl := Option.some.inj hb1
      rw [add_none, Nat.zero_add, cell_of_row _ X.heap.size j #[.int .i64 (y : Int), .int .i64 (d : Int)] 118 (0, 0) hn2]
      simpa [spn] using hu
    have hown1 : (X.alloc (.cells #[.int .i64 (y : Int), .int .i64 (d : Int)] 118)).ownsRow 0 118 2 v1 l0.length (spn l0) := ownsRow_base (ownsRow_only h2 (Only.of_below (S := fun k => X.heap.size ≤ k) hb (fun k _ hk => hk)) (fun g hg hge => absurd hge (Nat.not_le_of_lt (h2.lt g hg).2)))
    gi_wp2_with (gi_at_builtin; refine wpListIn_append_mine _ rfl _ _ 91 rfl 118 i0 (.agg #[.int .i64 0, .int .i64 0]) 2 16 Tryz.underlying91 hi hz0 hz1 hz2 rfl (by decide) v1 l0.length (spn l0) rfl hown1 (some ⟨X.heap.size, 0, none⟩) 1 1 (spn [(y, d)]) rfl (fun e => by cases e) rfl hnews (spn_one _) (by unfold maxLen; omega) (by omega) ?_)
    intro v3 X3 h6 hg hf
    obtain ⟨xa, xc, rfl⟩ := ownsRow_slice h6
    obtain ⟨q1, q2, q3, q4, q5⟩ := HeldC.next (s := [(y, d)]) h1 h2 h3 h4 hb hg hf h6
    clear hnews hown1 h6 hg hf hn2
    gi_wp2_with fail
    exact ⟨q1, q2, q3⟩
  case done =>
    rintro D X hD ⟨v1, h1, h2, h3, h4⟩ hK
    rw [List.take_of_length_le (Nat.le_of_eq (spansOf_length first each num))] at h2
    have c1 := h1.cell
    have HK := Lib.hid h2
    clear h1 h2 h3 hH k1
    gi_wp2
    refine ⟨by simp, .inl ⟨_, _, rfl, run_takeDeferred hK, ?_⟩⟩
    refine ⟨_, results_tmp rfl _ _ _, _, rfl, ?_, ?_⟩
    · exact ownsRow_putObj HK.out (.deferred none) hK rfl
    · exact h4.trans (belowK_b (w := w2) (by omega) X D _ _ (by omega) hK rfl rfl)

end Go.Proofs.YtpinfihmageeoaaGreat.Tok

namespace Go.Proofs.YtpinfihmageeoaaGreat.Tok
open Go.RowKit

theorem rise_small : (∀ k, k ≤ 28 → riseL 3 4 k ≤ 1000000 ∧ riseN 4 k ≤ 30) ∧ ∀ k, k ≤ 30 → riseL 1 2 k ≤ 1000000 ∧ riseN 2 k ≤ 30 := by
  have h1 : ∀ k, k < 29 → riseL 3 4 k ≤ 1000000 ∧ riseN 4 k ≤ 30 := by decide
  have h2 : ∀ k, k < 31 → riseL 1 2 k ≤ 1000000 ∧ riseN 2 k ≤ 30 := by decide
  exact ⟨fun k hk => h1 k (by omega), fun k hk => h2 k (by omega)⟩

theorem boxes (w : World) (x y z : Int) : ∃ W, W = ((w.alloc (.cells #[.int .i64 x] 3)).alloc (.cells #[.int .i64 y] 3)).alloc (.cells #[.int .i64 z] 3) ∧ Below w.heap.size w W ∧ W.heap.size = w.heap.size + 3 ∧
    W.cell? ⟨w.heap.size, 0, none⟩ = some (.int .i64 x) ∧ W.cell? ⟨w.heap.size + 1, 0, none⟩ = some (.int .i64 y) ∧ W.cell? ⟨w.heap.size + 2, 0, none⟩ = some (.int .i64 z) := by
  have s1 := (St.start w).newBox #[.int .i64 x] 3
  have s2 := s1.newBox #[.int .i64 y] 3
  have s3 := s2.newBox #[.int .i64 z] 3
  have e1 : (w.alloc (.cells #[.int .i64 x] 3)).heap.size = w.heap.size + 1 := by simp
  have e2 : ((w.alloc (.cells #[.int .i64 x] 3)).alloc (.cells #[.int .i64 y] 3)).heap.size = w.heap.size + 2 := by simp
  have c0 := (s3.third.boxAt 0).1
  have c1 := (s3.swap.boxAt 0).1
  have c2 := (s3.boxAt 0).1
  rw [e1] at c1
  rw [e2] at c2
  exact ⟨_, rfl, s3.below (Nat.le_refl _), by simp, c0, c1, c2⟩

set_option maxRecDepth 100000 in
set_option maxHeartbeats 2000000 in
theorem distances_any (w : World) : Calls Tryz.prog 41 #[] w fun e w' => ∃ v', e = .returned v' ∧ w'.ownsRow w.heap.size 118 2 v' disS.length (spn disS) ∧ Below w.heap.size w w' := by
  obtain ⟨W, rfl, hb, hz, c0, c1, c2⟩ := boxes w 1 30 2
  have hc := collected_any _ w.heap.size 1 30 2 (by omega) (by omega) (by omega) (by omega) rise_small.2 c0 c1 c2
  have hD : disS = spansOf 1 2 30 := rfl
  rw [← hD] at hc
  clear hD
  generalize disS = S at *
  go_enter Tryz.func41, Tryz.ntmps41
  go_wp2_with (first | (go_at_call 64; refine (rising_any 1 30 2 _).mono ?_; rintro e w1 ⟨rfl, rfl⟩) | (go_at_call 63; refine hc.mono ?_; rintro e w2 ⟨v2, rfl, ho, hb2⟩; obtain ⟨va, vc, rfl⟩ := ownsRow_slice ho))
  go_ret
  have s2 := ((St.start w).quiet hb).addRow hb2 ho
  exact ⟨_, rfl, s2.rowFrom, s2.below (Nat.le_refl _)⟩

set_option maxRecDepth 100000 in
set_option maxHeartbeats 2000000 in
theorem lengths_any (w : World) : Calls Tryz.prog 40 #[] w fun e w' => ∃ v', e = .returned v' ∧ w'.ownsRow w.heap.size 118 2 v' lenS.length (spn lenS) ∧ Below w.heap.size w w' := by
  obtain ⟨W, rfl, hb, hz, c0, c1, c2⟩ := boxes w 3 28 4
  have hc := collected_any _ w.heap.size 3 28 4 (by omega) (by omega) (by omega) (by omega) rise_small.1 c0 c1 c2
  have hD : lenS = spansOf 3 4 28 ++ [(258, 0)] := rfl
  have hlen := Nat.le_of_eq (spansOf_length 3 4 28)
  rw [hD]
  clear hD
  generalize spansOf 3 4 28 = S at *
  obtain ⟨i0, hi, hz0, hz1, hz2⟩ := info_parts infoSpan
  go_enter Tryz.func40, Tryz.ntmps40
  go_wp2_with (first | (go_at_call 64; refine (rising_any 3 28 4 _).mono ?_; rintro e w1 ⟨rfl, rfl⟩) | (go_at_call 63; refine hc.mono ?_; rintro e w2 ⟨v2, rfl, ho, hb2⟩; obtain ⟨va, vc, rfl⟩ := ownsRow_slice ho; have s2 := ((St.start w).quiet hb).addRow hb2 ho) | (at_builtin; refine wpList_append_one rfl _ _ 91 rfl 118 i0 (.agg #[.int .i64 0, .int .i64 0]) 2 16 Tryz.underlying91 hi hz0 hz1 hz2 rfl (by decide) s2 rfl [.int .i64 258, .int .i64 0] rfl rfl (by simp [Value.oneCell']) (by unfold maxLen; omega) (by omega) ?_; intro v6 w6 s6))
  obtain ⟨xa, xc, rfl⟩ := ownsRow_slice s6.row
  go_wp2
  go_ret
  refine ⟨_, rfl, ?_, s6.below (Nat.le_refl _)⟩
  rw [spn_append, List.length_append]
  exact s6.rowFrom

end Go.Proofs.YtpinfihmageeoaaGreat.Tok

namespace Go.Proofs.YtpinfihmageeoaaGreat.Tok
open Go.RowKit

set_option maxRecDepth 100000 in
set_option maxHeartbeats 2000000 in
theorem above_any (w : World) (lb nb : Nat) (v : Value) (L : List (Nat × Nat)) (n k : Nat) (hrow : SpanRow w v L) (hl : w.cell? ⟨lb, 0, none⟩ = some v) (hn : w.cell? ⟨nb, 0, none⟩ = some (.int .i64 (n : Int))) (hk : k < L.length) :
    Calls Tryz.prog 62 #[.int .i64 (k : Int), .pointer (some ⟨lb, 0, none⟩), .pointer (some ⟨nb, 0, none⟩)] w fun e w' => e = .returned (.bool (decide (n < L[k].1))) ∧ Below w.heap.size w w' := by
  obtain ⟨b, cap, rfl, hcap, hat⟩ := hrow
  obtain ⟨c0, c1⟩ := hat k hk
  obtain ⟨y, hy⟩ : ∃ y, L[k].1 = y := ⟨_, rfl⟩
  rw [hy] at c0 ⊢
  clear hat c1 hy
  go_enter Tryz.func62, Tryz.ntmps62
  go_wp2
  go_quiet (fail)
  go_wp2
  go_ret
  exact ⟨by simp, below_drewN _⟩

set_option maxRecDepth 100000 in
set_option maxHeartbeats 2000000 in
theorem search_any (w : World) (lb nb : Nat) (v : Value) (L : List (Nat × Nat)) (n : Nat) (hrow : SpanRow w v L) (hl : w.cell? ⟨lb, 0, none⟩ = some v) (hn : w.cell? ⟨nb, 0, none⟩ = some (.int .i64 (n : Int))) (hr : Rises L) (hlen : L.length ≤ 1000) :
    Calls Tryz.prog 61 #[.int .i64 (L.length : Int), .func (.func 62) #[] #[.pointer (some ⟨lb, 0, none⟩), .pointer (some ⟨nb, 0, none⟩)]] w fun e w' => e = .returned (.int .i64 (upTo L n : Int)) ∧ Below w.heap.size w w' := by
  have hu := upTo_iff L n hr
  have hul := upTo_le L n
  generalize upTo L n = u at *
  have HU := Lib.hid hu
  clear hu hr
  go_enter Tryz.func61, Tryz.ntmps61
  go_wp2
  go_loopw [5, 6, 7] (fun iv jv _ wr => ∃ i j : Nat, iv = .int .i64 (i : Int) ∧ jv = .int .i64 (j : Int) ∧ i ≤ u ∧ u ≤ j ∧ j ≤ L.length ∧ Below w.heap.size w wr) (fun iv jv _ _ => (intOf jv).toNat - (intOf iv).toNat)
  case atStart => exact ⟨0, L.length, rfl, rfl, Nat.zero_le _, hul, Nat.le_refl _, Below.refl _ _⟩
  case round =>
    obtain ⟨i, j, rfl, rfl, hi, hj, hjl, hB⟩ := hrel
    by_cases hij : i < j
    · obtain ⟨h, hh⟩ : ∃ h, (i + j) / 2 = h := ⟨_, rfl⟩
      have hh2 : ((i : Int) + (j : Int)) / 2 = (h : Int) := by omega
      have h1 : i ≤ h := by omega
      have h2 : h < j := by omega
      have ha := above_any wr lb nb v L n h (hrow.below hB (Nat.le_refl _)) ((hB.cell (World.block_lt_of_cell? w _ hl)).trans hl) ((hB.cell (World.block_lt_of_cell? w _ hn)).trans hn) (by omega)
      have hx := HU.out h (by omega)
      by_cases hc : h < u
      · rw [decide_eq_false (by omega)] at ha
        clear hx hh
        go_wp2_with (go_at_call 62; refine ha.mono ?_; rintro e w1 ⟨rfl, hb1⟩)
        go_roundw
        case rel => exact ⟨h + 1, j, by go_num, rfl, by omega, hj, hjl, hB.trans (hb1.mono hB.size)⟩
        case measure => simp [intOf]; omega
      · rw [decide_eq_true (by omega)] at ha
        clear hx hh
        go_wp2_with (go_at_call 62; refine ha.mono ?_; rintro e w1 ⟨rfl, hb1⟩)
        go_roundw
        case rel => exact ⟨i, h, rfl, by go_num, hi, by omega, by omega, hB.trans (hb1.mono hB.size)⟩
        case measure => simp [intOf]; omega
    · obtain rfl : i = u := by omega
      go_wp2
      go_ret
      exact ⟨rfl, hB⟩

end Go.Proofs.YtpinfihmageeoaaGreat.Tok

namespace Go.Proofs.YtpinfihmageeoaaGreat.Tok
open Go.RowKit

theorem _root_.Go.RowKit.Below.drewN {B : Nat} {a w : World} (h : Below B a w) (n : Nat) : Below B a (w.drewN n) := ⟨h.os, h.tape, h.output, h.size, h.block⟩

def five (a b c d e : Bool) : Bool := a && b && c && d && e

end Go.Proofs.YtpinfihmageeoaaGreat.Tok

namespace Go.Proofs.YtpinfihmageeoaaGreat.Tok
open Go.RowKit

theorem results_tmp4 {fn : Func} {t u v x : Tmp} (h : fn.results = #[.tmp t, .tmp u, .tmp v, .tmp x]) (tmps : Array Value) (P : Program) (w : World) :
    (results fn tmps).run P w = .ok (.tuple #[tmps.getD t undef, tmps.getD u undef, tmps.getD v undef, tmps.getD x undef]) w := by
  simp [results, h]

set_option maxRecDepth 100000 in
set_option maxHeartbeats 2000000 in
theorem seek_any (w : World) (v : Value) (L : List (Nat × Nat)) (n : Nat) (hrow : SpanRow w v L) (hr : Rises L) (hlen : L.length ≤ 1000) (h0 : 0 < L.length) (hlo : L[0].1 ≤ n) (hn : n ≤ 1000000) :
    Calls Tryz.prog 39 #[v, .int .i64 (n : Int)] w fun e w' => e = .returned (.tuple #[.int .i64 (at_ L n : Int), .int .i64 ((L[at_ L n]'(at_lt L n h0)).2 : Int), .int .i64 ((n - (L[at_ L n]'(at_lt L n h0)).1 : Nat) : Int)]) ∧ Below w.heap.size w w' := by
  have s1 := (St.start w).newBox #[v] 91
  have s2 := s1.newBox #[.int .i64 (n : Int)] 3
  have hsr := hrow.below (s2.below (Nat.le_refl _)) (Nat.le_refl _)
  have hse := search_any _ w.heap.size (w.alloc (.cells #[v] 91)).heap.size v L n hsr (s2.swap.boxAt 0).1 (s2.boxAt 0).1 hr hlen
  have hz : (w.alloc (.cells #[v] 91)).heap.size = w.heap.size + 1 := by simp
  rw [hz] at hse
  have hp := upTo_pos L n h0 hlo
  have hl := at_lt L n h0
  have e1 : (upTo L n : Int) - 1 = (at_ L n : Int) := by unfold at_; omega
  have hle := (upTo_iff L n hr (at_ L n) hl).2 (by unfold at_; omega)
  have hrow2 := fun W (hb : Below w.heap.size w W) => hrow.below hb (Nat.le_refl _)
  obtain ⟨b, cap, rfl, hcap, -⟩ := hrow
  have hat : ∀ W, Below w.heap.size w W → W.cell? ⟨b, at_ L n * 2, none⟩ = some (.int .i64 (L[at_ L n].1 : Int)) ∧ W.cell? ⟨b, at_ L n * 2 + 1, none⟩ = some (.int .i64 (L[at_ L n].2 : Int)) := fun W hb => by
    obtain ⟨b', cap', e2, _, hat⟩ := hrow2 W hb
    have e3 := Option.some.inj (Value.slice.inj e2).1
    have e4 : b = b' := by injection e3
    rw [e4]
    exact hat _ hl
  clear hrow2 hsr hp
  generalize L[at_ L n].1 = y at *
  generalize L[at_ L n].2 = z at *
  have hu1 : upTo L n ≤ 1000 := Nat.le_trans (upTo_le L n) hlen
  generalize upTo L n = u at *
  generalize at_ L n = k at *
  have hd : (n : Int) - (y : Int) = ((n - y : Nat) : Int) := by omega
  generalize n - y = d at *
  clear hle hr hlo
  go_enter Tryz.func39, Tryz.ntmps39
  go_wp2_with (go_at_call 61; refine hse.mono ?_; rintro e w1 ⟨rfl, hb1⟩)
  have s3 := s2.quiet hb1
  obtain ⟨c0, c1⟩ := hat w1 (s3.below (Nat.le_refl _))
  have f0 := (s3.swap.boxAt 0).1
  have f1 := (s3.boxAt 0).1
  rw [hz] at f1
  have hb3 := s3.below (Nat.le_refl _)
  clear hat hse s1 s2 s3 hb1 hz
  go_quiet (fail)
  go_wp2
  go_ret3
  exact ⟨rfl, hb3.drewN _⟩

set_option maxRecDepth 100000 in
set_option maxHeartbeats 2000000 in
theorem spanOf_any (w : World) (v : Value) (L : List (Nat × Nat)) (base : Nat) (x : Int) (hx0 : -9223372036854775808 ≤ x) (hx1 : x ≤ 9223372036854775807) (hbase : base ≤ 1000) (hrow : SpanRow w v L) (hlen : L.length ≤ 1000) :
    Calls Tryz.prog 137 #[v, .int .i64 x, .int .i64 (base : Int)] w fun e w' => e = .returned (.tuple #[.int .i64 ((ansOf L base x).1 : Int), .int .i64 ((ansOf L base x).2.1 : Int), .int .i64 ((ansOf L base x).2.2 : Int)]) ∧ Below w.heap.size w w' := by
  by_cases h1 : x < (base : Int)
  · rw [ansOf_out L base x (.inl h1)]
    obtain ⟨b, cap, rfl, hcap, -⟩ := hrow
    go_enter Tryz.func137, Tryz.ntmps137
    go_wp2
    go_ret3
    exact ⟨rfl, Below.refl _ _⟩
  · obtain ⟨k, rfl⟩ : ∃ k : Nat, x = ((base + k : Nat) : Int) := ⟨(x - base).toNat, by omega⟩
    have e0 : ((base + k : Nat) : Int) - (base : Int) = (k : Int) := by omega
    by_cases h2 : L.length ≤ k
    · rw [ansOf_out L base _ (.inr (by omega))]
      obtain ⟨b, cap, rfl, hcap, -⟩ := hrow
      generalize ((base + k : Nat) : Int) = x at *
      go_enter Tryz.func137, Tryz.ntmps137
      go_wp2
      go_ret3
      exact ⟨rfl, Below.refl _ _⟩
    · have hk : k < L.length := by omega
      rw [ansOf_in L base k hk]
      obtain ⟨b, cap, rfl, hcap, hat⟩ := hrow
      obtain ⟨c0, c1⟩ := hat k hk
      clear hat
      generalize L[k].1 = y at *
      generalize L[k].2 = z at *
      have s1 := (St.start w).newBox #[.int .i64 (y : Int), .int .i64 (z : Int)] 118
      have f0 := (s1.boxAt 0).1
      have f1 := (s1.boxAt 1).1
      generalize ((base + k : Nat) : Int) = x at *
      go_enter Tryz.func137, Tryz.ntmps137
      go_wp2
      go_quiet (fail)
      go_wp2
      go_ret3
      exact ⟨rfl, (s1.below (Nat.le_refl _)).drewN _⟩

set_option maxRecDepth 100000 in
theorem lengthOf_any (w : World) (x : Int) (hx0 : -9223372036854775808 ≤ x) (hx1 : x ≤ 9223372036854775807) :
    Calls Tryz.prog 117 #[.int .i64 x] w fun e w' => e = .returned (.tuple #[.int .i64 ((lenOfAns x).1 : Int), .int .i64 ((lenOfAns x).2.1 : Int), .int .i64 ((lenOfAns x).2.2 : Int)]) ∧ Below w.heap.size w w' := by
  have hl := lengths_any w
  have hs := fun W v (h : SpanRow W v lenS) => spanOf_any W v lenS 257 x hx0 hx1 (by omega) h (by rw [lenS_length]; omega)
  have h0 : 0 < lenS.length := by rw [lenS_length]; omega
  unfold lenOfAns
  generalize ansOf lenS 257 x = r at *
  generalize lenS = S at *
  obtain ⟨p, q, z⟩ := r
  go_enter Tryz.func117, Tryz.ntmps117
  go_wp2_with (first | (go_at_call 40; refine hl.mono ?_; rintro e w1 ⟨v1, rfl, ho, hb1⟩; obtain ⟨va, vc, rfl⟩ := ownsRow_slice ho) | (go_at_call 137; refine (hs _ _ (spanRow_owns ho h0)).mono ?_; rintro e w2 ⟨rfl, hb2⟩))
  go_ret3
  exact ⟨rfl, hb1.trans (hb2.mono hb1.size)⟩

set_option maxRecDepth 100000 in
theorem distanceOf_any (w : World) (x : Int) (hx0 : -9223372036854775808 ≤ x) (hx1 : x ≤ 9223372036854775807) :
    Calls Tryz.prog 118 #[.int .i64 x] w fun e w' => e = .returned (.tuple #[.int .i64 ((disOfAns x).1 : Int), .int .i64 ((disOfAns x).2.1 : Int), .int .i64 ((disOfAns x).2.2 : Int)]) ∧ Below w.heap.size w w' := by
  have hl := distances_any w
  have hs := fun W v (h : SpanRow W v disS) => spanOf_any W v disS 0 x hx0 hx1 (by omega) h (by rw [disS_length]; omega)
  have h0 : 0 < disS.length := by rw [disS_length]; omega
  unfold disOfAns
  generalize ansOf disS 0 x = r at *
  generalize disS = S at *
  obtain ⟨p, q, z⟩ := r
  go_enter Tryz.func118, Tryz.ntmps118
  go_wp2_with (first | (go_at_call 41; refine hl.mono ?_; rintro e w1 ⟨v1, rfl, ho, hb1⟩; obtain ⟨va, vc, rfl⟩ := ownsRow_slice ho) | (go_at_call 137; refine (hs _ _ (spanRow_owns ho h0)).mono ?_; rintro e w2 ⟨rfl, hb2⟩))
  go_ret3
  exact ⟨rfl, hb1.trans (hb2.mono hb1.size)⟩

abbrev four (r : Nat × Nat × Nat × Nat) : Value := .tuple #[.int .i64 (r.1 : Int), .int .i64 (r.2.1 : Int), .int .i64 (r.2.2.1 : Int), .int .i64 (r.2.2.2 : Int)]

set_option maxRecDepth 100000 in
set_option maxHeartbeats 2000000 in
theorem length_any (w : World) (x : Int) (hx0 : -9223372036854775808 ≤ x) (hx1 : x ≤ 9223372036854775807) :
    Calls Tryz.prog 24 #[.int .i64 x] w fun e w' => e = .returned (four (lenAns x)) ∧ Below w.heap.size w w' := by
  by_cases hout : x < 3 ∨ 258 < x
  · have ha : lenAns x = (0, 0, 0, 5) := ans_out lenS 3 258 257 x hout
    rw [ha]
    clear ha
    by_cases h3 : x < 3
    · clear hout
      go_enter Tryz.func24, Tryz.ntmps24
      go_wp2
      refine bodyPost_ret (results_tmp4 rfl _ _ _) rfl ?_
      exact ⟨rfl, Below.refl _ _⟩
    · have h4 : 258 < x := by omega
      clear hout
      go_enter Tryz.func24, Tryz.ntmps24
      go_wp2
      refine bodyPost_ret (results_tmp4 rfl _ _ _) rfl ?_
      exact ⟨rfl, Below.refl _ _⟩
  · obtain ⟨n, rfl⟩ : ∃ n : Nat, x = (n : Int) := ⟨x.toNat, by omega⟩
    have h0 : 0 < lenS.length := by rw [lenS_length]; omega
    have ha : lenAns (n : Int) = _ := ans_in lenS 3 258 257 n (by omega) (by omega) h0
    rw [ha]
    have hl := lengths_any w
    have hlo : lenS[0].1 ≤ n := by show 3 ≤ n; omega
    have hs := fun W v (h : SpanRow W v lenS) => seek_any W v lenS n h rises_lenS (by rw [lenS_length]; omega) h0 hlo (by omega)
    have hk : at_ lenS n ≤ 29 := by have := at_lt lenS n h0; rw [lenS_length] at this; omega
    clear ha
    have h3 : 3 ≤ n := by omega
    have h4 : n ≤ 258 := by omega
    generalize (lenS[at_ lenS n]'(at_lt lenS n h0)).2 = z at *
    generalize n - (lenS[at_ lenS n]'(at_lt lenS n h0)).1 = d at *
    generalize at_ lenS n = k at *
    clear hlo
    generalize lenS = S at *
    clear hout hx0 hx1
    go_enter Tryz.func24, Tryz.ntmps24
    go_wp2_with (first | (go_at_call 40; refine hl.mono ?_; rintro e w1 ⟨v1, rfl, ho, hb1⟩; obtain ⟨va, vc, rfl⟩ := ownsRow_slice ho) | (go_at_call 39; refine (hs _ _ (spanRow_owns ho h0)).mono ?_; rintro e w2 ⟨rfl, hb2⟩))
    refine bodyPost_ret (results_tmp4 rfl _ _ _) rfl ?_
    exact ⟨by simp [four], hb1.trans (hb2.mono hb1.size)⟩

set_option maxRecDepth 100000 in
set_option maxHeartbeats 2000000 in
theorem distance_any (w : World) (x : Int) (hx0 : -9223372036854775808 ≤ x) (hx1 : x ≤ 9223372036854775807) :
    Calls Tryz.prog 25 #[.int .i64 x] w fun e w' => e = .returned (four (disAns x)) ∧ Below w.heap.size w w' := by
  by_cases hout : x < 1 ∨ 32768 < x
  · have ha : disAns x = (0, 0, 0, 5) := ans_out disS 1 32768 0 x hout
    rw [ha]
    clear ha
    by_cases h3 : x < 1
    · clear hout
      go_enter Tryz.func25, Tryz.ntmps25
      go_wp2
      refine bodyPost_ret (results_tmp4 rfl _ _ _) rfl ?_
      exact ⟨rfl, Below.refl _ _⟩
    · have h4 : 32768 < x := by omega
      clear hout
      go_enter Tryz.func25, Tryz.ntmps25
      go_wp2
      refine bodyPost_ret (results_tmp4 rfl _ _ _) rfl ?_
      exact ⟨rfl, Below.refl _ _⟩
  · obtain ⟨n, rfl⟩ : ∃ n : Nat, x = (n : Int) := ⟨x.toNat, by omega⟩
    have h0 : 0 < disS.length := by rw [disS_length]; omega
    have ha : disAns (n : Int) = _ := ans_in disS 1 32768 0 n (by omega) (by omega) h0
    rw [ha]
    have hl := distances_any w
    have hlo : disS[0].1 ≤ n := by show 1 ≤ n; omega
    have hs := fun W v (h : SpanRow W v disS) => seek_any W v disS n h rises_disS (by rw [disS_length]; omega) h0 hlo (by omega)
    have hk : at_ disS n ≤ 30 := by have := at_lt disS n h0; rw [disS_length] at this; omega
    clear ha
    have h3 : 1 ≤ n := by omega
    have h4 : n ≤ 32768 := by omega
    generalize (disS[at_ disS n]'(at_lt disS n h0)).2 = z at *
    generalize n - (disS[at_ disS n]'(at_lt disS n h0)).1 = d at *
    generalize at_ disS n = k at *
    clear hlo
    generalize disS = S at *
    clear hout hx0 hx1
    go_enter Tryz.func25, Tryz.ntmps25
    go_wp2_with (first | (go_at_call 41; refine hl.mono ?_; rintro e w1 ⟨v1, rfl, ho, hb1⟩; obtain ⟨va, vc, rfl⟩ := ownsRow_slice ho) | (go_at_call 39; refine (hs _ _ (spanRow_owns ho h0)).mono ?_; rintro e w2 ⟨rfl, hb2⟩))
    refine bodyPost_ret (results_tmp4 rfl _ _ _) rfl ?_
    exact ⟨by simp [four], hb1.trans (hb2.mono hb1.size)⟩

end Go.Proofs.YtpinfihmageeoaaGreat.Tok
