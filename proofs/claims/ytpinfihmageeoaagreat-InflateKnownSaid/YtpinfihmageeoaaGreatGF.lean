/-
  RepP RepS RepM RepA RepF RepU RepN, one behind the other (merged by wip/merge.py). No conditions but those that each states.
-/
import Derived.Test.YtpinfihmageeoaaGreatGA
import Derived.Test.YtpinfihmageeoaaGreatGC
import Derived.Deep.Slices
import Derived.Deep.Fields
import Derived.ProofKit
import Derived.Laws.CopyOwn
import Derived.Deep.QuietTactic
import Derived.BigQuiet
import Derived.IntWalk

namespace Go.Proofs.YtpinfihmageeoaaGreat.Rep

def zeros (n : Nat) : List (Nat × Nat) :=
  if 138 ≤ n then (18, 127) :: zeros (n - 138) else if 11 ≤ n then [(18, n - 11)] else if 3 ≤ n then [(17, n - 3)] else List.replicate n (0, 0)
termination_by n
decreasing_by omega

def others (k n : Nat) : List (Nat × Nat) :=
  if 6 ≤ n then (16, 3) :: others k (n - 6) else if 3 ≤ n then [(16, n - 3)] else List.replicate n (k, 0)
termination_by n
decreasing_by omega

def signs (k n : Nat) : List (Nat × Nat) := if k = 0 then zeros n else (k, 0) :: others k (n - 1)

def lead (k : Nat) : List Nat → Nat
  | [] => 0
  | a :: r => if a = k then lead k r + 1 else 0

theorem lead_le (k : Nat) : ∀ L : List Nat, lead k L ≤ L.length
  | [] => Nat.le_refl _
  | a :: r => by
    have := lead_le k r
    unfold lead
    split
    · simp; omega
    · exact Nat.zero_le _

def pack : List Nat → List (Nat × Nat)
  | [] => []
  | k :: t => signs k (lead k t + 1) ++ pack (t.drop (lead k t))
termination_by L => L.length

theorem lead_run (k : Nat) (r : List Nat) (hr : r.head? ≠ some k) : ∀ n : Nat, lead k (List.replicate n k ++ r) = n
  | 0 => by
    cases r with
    | nil => rfl
    | cons a r =>
      have : a ≠ k := fun e => hr (by rw [e]; rfl)
      simp [lead, this]
  | n + 1 => by
    rw [List.replicate_succ, List.cons_append, lead, if_pos rfl, lead_run k r hr n]

theorem pack_run (k n : Nat) (r : List Nat) (hr : r.head? ≠ some k) : pack (List.replicate (n + 1) k ++ r) = signs k (n + 1) ++ pack r := by
  rw [List.replicate_succ, List.cons_append, pack, lead_run k r hr n]
  congr 2
  rw [List.drop_append]
  simp

theorem drop_run (L : List Nat) (k : Nat) : ∀ n i : Nat, i + n ≤ L.length → (∀ m (h : m < L.length), i ≤ m → m < i + n → L[m] = k) → L.drop i = List.replicate n k ++ L.drop (i + n)
  | 0, i, _, _ => by simp
  | n + 1, i, hi, h => by
    have h1 : i < L.length := by omega
    rw [List.drop_eq_getElem_cons h1, h i h1 (Nat.le_refl _) (by omega), List.replicate_succ, List.cons_append, drop_run L k n (i + 1) (by omega) (fun m hm a b => h m hm (by omega) (by omega)), show i + 1 + n = i + (n + 1) from by omega]

theorem pack_from (L : List Nat) (i j k : Nat) (hij : i < j) (hj : j ≤ L.length) (h : ∀ m (h : m < L.length), i ≤ m → m < j → L[m] = k) (he : ∀ h : j < L.length, L[j] ≠ k) :
    pack (L.drop i) = signs k (j - i) ++ pack (L.drop j) := by
  have e := drop_run L k (j - i) i (by omega) (fun m hm a b => h m hm a (by omega))
  rw [show i + (j - i) = j from by omega] at e
  rw [e]
  obtain ⟨n, hn⟩ : ∃ n, j - i = n + 1 := ⟨j - i - 1, by omega⟩
  rw [hn]
  refine pack_run k n _ ?_
  rw [List.head?_drop]
  intro c
  obtain ⟨h1, h2⟩ := List.getElem?_eq_some_iff.1 c
  exact he h1 h2

theorem zeros_step (n : Nat) (hn : 11 ≤ n) : zeros n = (18, min n 138 - 11) :: zeros (n - min n 138) := by
  by_cases c : 138 ≤ n
  · rw [zeros, if_pos c, Nat.min_eq_right c]
  · rw [zeros, if_neg c, if_pos hn, Nat.min_eq_left (by omega), Nat.sub_self]
    rw [zeros]; simp

theorem zeros_few (n : Nat) (hn : 3 ≤ n) (h : n < 11) : zeros n = (17, min n 10 - 3) :: zeros (n - min n 10) := by
  rw [zeros, if_neg (by omega), if_neg (by omega), if_pos hn, Nat.min_eq_left (by omega), Nat.sub_self]
  rw [zeros]; simp

theorem zeros_end (n : Nat) (hn : n < 3) : zeros n = List.replicate n (0, 0) := by
  rw [zeros, if_neg (by omega), if_neg (by omega), if_neg (by omega)]

theorem others_step (k n : Nat) (hn : 3 ≤ n) : others k n = (16, min n 6 - 3) :: others k (n - min n 6) := by
  by_cases c : 6 ≤ n
  · rw [others, if_pos c, Nat.min_eq_right c]
  · rw [others, if_neg c, if_pos hn, Nat.min_eq_left (by omega), Nat.sub_self]
    rw [others]; simp

theorem others_end (k n : Nat) (hn : n < 3) : others k n = List.replicate n (k, 0) := by
  rw [others, if_neg (by omega), if_neg (by omega)]

def bitsOf' (c : Nat) : Nat := if c = 16 then 2 else if c = 17 then 3 else if c = 18 then 7 else 0
def least (c : Nat) : Nat := if c = 16 ∨ c = 17 then 3 else if c = 18 then 11 else 1
def most (c : Nat) : Nat := least c + 2 ^ bitsOf' c - 1
def fits (s : Nat × Nat) : Bool := decide (s.1 ≤ 18) && decide (s.2 < 2 ^ bitsOf' s.1)
def times (s : Nat × Nat) : Nat := least s.1 + s.2
def lengthOf (s : Nat × Nat) (out : List Nat) : Nat := if s.1 = 16 then out.getLastD 0 else if s.1 = 17 ∨ s.1 = 18 then 0 else s.1

theorem times_pos (s : Nat × Nat) : 0 < times s := by
  unfold times least
  split
  · omega
  · split <;> omega

theorem least_le (c : Nat) : 1 ≤ least c ∧ least c ≤ 11 := by
  unfold least
  split
  · omega
  · split <;> omega

theorem most_le (c : Nat) : least c ≤ most c ∧ most c ≤ least c + 127 := by
  have : 1 ≤ 2 ^ bitsOf' c ∧ 2 ^ bitsOf' c ≤ 128 := by
    unfold bitsOf'
    split
    · decide
    · split
      · decide
      · split <;> decide
  unfold most
  omega

def say (out : List Nat) : List (Nat × Nat) → Option (List Nat)
  | [] => some out
  | s :: r => if s.1 = 16 ∧ out = [] then none else say (out ++ List.replicate (times s) (lengthOf s out)) r

theorem say_longer : ∀ (l : List (Nat × Nat)) (out o : List Nat), say out l = some o → out.length + l.length ≤ o.length
  | [], out, o, h => by
    obtain rfl := Option.some.inj h
    simp
  | s :: r, out, o, h => by
    unfold say at h
    split at h
    · cases h
    · have := say_longer r _ o h
      have := times_pos s
      simp at *
      omega

def unErr (l : List (Nat × Nat)) (n : Int) : Nat := if l.all fits = false then 5 else match say [] l with
  | none => 2
  | some o => if (o.length : Int) = n then 0 else 2

def unAns (l : List (Nat × Nat)) (n : Int) : List Nat := if l.all fits = false then [] else match say [] l with
  | none => []
  | some o => if (o.length : Int) = n then o else []

theorem say_append : ∀ (l m : List (Nat × Nat)) (out : List Nat), say out (l ++ m) = (say out l).bind fun o => say o m
  | [], m, out => rfl
  | s :: r, m, out => by
    rw [List.cons_append, say, say]
    split
    · rfl
    · exact say_append r m _

theorem say_singles (k : Nat) (hk : k < 16) : ∀ (n : Nat) (out : List Nat), say out (List.replicate n (k, 0)) = some (out ++ List.replicate n k)
  | 0, out => by simp [say]
  | n + 1, out => by
    rw [List.replicate_succ, say, if_neg (by simp; omega)]
    have e1 : times (k, 0) = 1 := by
      unfold times least
      simp
      rw [if_neg (by omega), if_neg (by omega)]
    have e2 : lengthOf (k, 0) out = k := by
      unfold lengthOf
      simp
      rw [if_neg (by omega), if_neg (by omega)]
    rw [e1, e2, say_singles k hk n]
    simp [List.replicate_succ]

theorem say_zeros (n : Nat) : ∀ out : List Nat, say out (zeros n) = some (out ++ List.replicate n 0) := by
  induction n using Nat.strongRecOn with
  | ind n ih =>
    intro out
    by_cases c : 138 ≤ n
    · rw [zeros, if_pos c, say, if_neg (by simp), ih (n - 138) (by omega)]
      have e1 : times (18, 127) = 138 := by decide
      have e2 : lengthOf (18, 127) out = 0 := rfl
      rw [e1, e2, List.append_assoc, List.replicate_append_replicate, show 138 + (n - 138) = n from by omega]
    · by_cases d : 11 ≤ n
      · rw [zeros, if_neg c, if_pos d, say, if_neg (by simp), say]
        have e1 : times (18, n - 11) = n := by unfold times least; simp; omega
        have e2 : lengthOf (18, n - 11) out = 0 := rfl
        rw [e1, e2]
      · by_cases f : 3 ≤ n
        · rw [zeros, if_neg c, if_neg d, if_pos f, say, if_neg (by simp), say]
          have e1 : times (17, n - 3) = n := by unfold times least; simp; omega
          have e2 : lengthOf (17, n - 3) out = 0 := rfl
          rw [e1, e2]
        · rw [zeros_end n (by omega), say_singles 0 (by omega)]

theorem say_others (k : Nat) (hk : k < 16) (n : Nat) : ∀ out : List Nat, out.getLast? = some k → say out (others k n) = some (out ++ List.replicate n k) := by
  induction n using Nat.strongRecOn with
  | ind n ih =>
    intro out ho
    have hne : out ≠ [] := fun e => by rw [e] at ho; cases ho
    have hl : out.getLastD 0 = k := by rw [List.getLastD_eq_getLast?, ho]; rfl
    by_cases c : 6 ≤ n
    · rw [others, if_pos c, say, if_neg (by simp [hne])]
      have e1 : times (16, 3) = 6 := by decide
      have e2 : lengthOf (16, 3) out = k := by unfold lengthOf; simpa using hl
      rw [e1, e2, ih (n - 6) (by omega) _ (by simp [List.getLast?_append]), List.append_assoc, List.replicate_append_replicate, show 6 + (n - 6) = n from by omega]
    · by_cases d : 3 ≤ n
      · rw [others, if_neg c, if_pos d, say, if_neg (by simp [hne]), say]
        have e1 : times (16, n - 3) = n := by unfold times least; simp; omega
        have e2 : lengthOf (16, n - 3) out = k := by unfold lengthOf; simpa using hl
        rw [e1, e2]
      · rw [others_end k n (by omega), say_singles k hk]

theorem say_signs (k : Nat) (hk : k < 16) (n : Nat) (hn : 0 < n) (out : List Nat) : say out (signs k n) = some (out ++ List.replicate n k) := by
  unfold signs
  by_cases c : k = 0
  · subst c
    rw [if_pos rfl, say_zeros]
  · rw [if_neg c, say, if_neg (by simp; omega)]
    have e1 : times (k, 0) = 1 := by
      unfold times least
      simp
      rw [if_neg (by omega), if_neg (by omega)]
    have e2 : lengthOf (k, 0) out = k := by
      unfold lengthOf
      simp
      rw [if_neg (by omega), if_neg (by omega)]
    rw [e1, e2, say_others k hk _ _ (by simp)]
    obtain ⟨m, rfl⟩ : ∃ m, n = m + 1 := ⟨n - 1, by omega⟩
    simp [List.replicate_succ]

theorem run_front (k : Nat) : ∀ t : List Nat, t = List.replicate (lead k t) k ++ t.drop (lead k t)
  | [] => rfl
  | a :: r => by
    unfold lead
    split
    · next h =>
      subst h
      rw [List.replicate_succ, List.cons_append, List.drop_succ_cons]
      exact congrArg _ (run_front a r)
    · rfl

theorem say_pack : ∀ (m : Nat) (L : List Nat), L.length ≤ m → (∀ x ∈ L, x < 16) → ∀ out : List Nat, say out (pack L) = some (out ++ L)
  | m, [], _, _, out => by rw [pack]; simp [say]
  | 0, k :: t, h, _, _ => by simp at h
  | m + 1, k :: t, h, hL, out => by
    have h1 := lead_le k t
    simp at h
    rw [pack, say_append, say_signs k (hL k (by simp)) _ (by omega)]
    show say _ _ = _
    rw [say_pack m (t.drop (lead k t)) (by simp; omega) (fun x hx => hL x (by simp; exact .inr (List.mem_of_mem_drop hx)))]
    congr 1
    rw [List.append_assoc]
    congr 1
    rw [List.replicate_succ, List.cons_append, ← run_front]

theorem say_back (L : List Nat) (hL : ∀ x ∈ L, x < 16) : say [] (pack L) = some L := by
  have := say_pack L.length L (Nat.le_refl _) hL []
  simpa using this

theorem fits_zeros (n : Nat) : (zeros n).all fits = true := by
  induction n using Nat.strongRecOn with
  | ind n ih =>
    by_cases c : 138 ≤ n
    · rw [zeros, if_pos c, List.all_cons, ih (n - 138) (by omega)]; decide
    · by_cases d : 11 ≤ n
      · rw [zeros, if_neg c, if_pos d]; simp [fits, bitsOf']; omega
      · by_cases f : 3 ≤ n
        · rw [zeros, if_neg c, if_neg d, if_pos f]; simp [fits, bitsOf']; omega
        · rw [zeros_end n (by omega)]; simp [fits, bitsOf']

theorem fits_one (k : Nat) (hk : k < 16) : fits (k, 0) = true := by
  have : 0 < 2 ^ bitsOf' k := Nat.two_pow_pos _
  simp [fits]; omega

theorem fits_others (k : Nat) (hk : k < 16) (n : Nat) : (others k n).all fits = true := by
  induction n using Nat.strongRecOn with
  | ind n ih =>
    by_cases c : 6 ≤ n
    · rw [others, if_pos c, List.all_cons, ih (n - 6) (by omega)]; decide
    · by_cases d : 3 ≤ n
      · rw [others, if_neg c, if_pos d]; simp [fits, bitsOf']; omega
      · rw [others_end k n (by omega)]; simp [fits_one k hk]

theorem fits_signs (k : Nat) (hk : k < 16) (n : Nat) : (signs k n).all fits = true := by
  unfold signs
  split
  · exact fits_zeros n
  · rw [List.all_cons, fits_one k hk, fits_others k hk]; rfl

theorem fits_pack : ∀ (m : Nat) (L : List Nat), L.length ≤ m → (∀ x ∈ L, x < 16) → (pack L).all fits = true
  | m, [], _, _ => by rw [pack]; rfl
  | 0, k :: t, h, _ => by simp at h
  | m + 1, k :: t, h, hL => by
    simp at h
    rw [pack, List.all_append, fits_signs k (hL k (by simp)), fits_pack m (t.drop (lead k t)) (by simp; omega) (fun x hx => hL x (by simp; exact .inr (List.mem_of_mem_drop hx)))]
    rfl

theorem zeros_length (n : Nat) : (zeros n).length ≤ n ∧ (zeros n).length ≤ n / 138 + 2 := by
  induction n using Nat.strongRecOn with
  | ind n ih =>
    by_cases c : 138 ≤ n
    · have := ih (n - 138) (by omega)
      rw [zeros, if_pos c, List.length_cons]; omega
    · by_cases d : 11 ≤ n
      · rw [zeros, if_neg c, if_pos d]; simp; omega
      · by_cases f : 3 ≤ n
        · rw [zeros, if_neg c, if_neg d, if_pos f]; simp; omega
        · rw [zeros_end n (by omega)]; simp; omega

theorem others_length (k n : Nat) : (others k n).length ≤ n ∧ (others k n).length ≤ n / 6 + 2 := by
  induction n using Nat.strongRecOn with
  | ind n ih =>
    by_cases c : 6 ≤ n
    · have := ih (n - 6) (by omega)
      rw [others, if_pos c, List.length_cons]; omega
    · by_cases d : 3 ≤ n
      · rw [others, if_neg c, if_pos d]; simp; omega
      · rw [others_end k n (by omega)]; simp; omega

theorem signs_length (k n : Nat) (hn : 0 < n) : (signs k n).length ≤ n ∧ (signs k n).length ≤ if k = 0 then n / 138 + 2 else n / 6 + 3 := by
  unfold signs
  split
  · exact zeros_length n
  · have := others_length k (n - 1)
    rw [List.length_cons]
    omega

theorem pack_length : ∀ (m : Nat) (L : List Nat), L.length ≤ m → (pack L).length ≤ L.length
  | m, [], _ => by rw [pack]; exact Nat.le_refl _
  | 0, k :: t, h => by simp at h
  | m + 1, k :: t, h => by
    simp at h
    have h1 := lead_le k t
    have h2 := pack_length m (t.drop (lead k t)) (by simp; omega)
    have h3 := (signs_length k (lead k t + 1) (by omega)).1
    rw [pack, List.length_append]
    simp at h2 ⊢
    omega

theorem pack_one (k n : Nat) : (pack (List.replicate n k)).length ≤ if k = 0 then n / 138 + 2 else n / 6 + 3 := by
  cases n with
  | zero => simp [pack]
  | succ n =>
    have e := pack_run k n [] (by simp)
    rw [List.append_nil] at e
    have h := (signs_length k (n + 1) (by omega)).2
    rw [e, pack, List.append_nil]
    exact h

end Go.Proofs.YtpinfihmageeoaaGreat.Rep

namespace Go.Proofs.YtpinfihmageeoaaGreat.Rep
open Go.RowKit Go.ChangeShapes Go.WideShapes Go.Deep

abbrev signV (c x : Nat) : Value := .agg #[.int .u8 (c : Int), .int .u8 (x : Int)]

def sgn (l : List (Nat × Nat)) : List Value := l.flatMap fun p => [.int .u8 (p.1 : Int), .int .u8 (p.2 : Int)]

theorem sgn_length (l : List (Nat × Nat)) : (sgn l).length = l.length * 2 := by
  induction l with
  | nil => rfl
  | cons p r ih =>
    show (_ ++ sgn r).length = _
    rw [List.length_append, ih, List.length_cons]
    simp
    omega

theorem sgn_append (l m : List (Nat × Nat)) : sgn (l ++ m) = sgn l ++ sgn m := by simp [sgn]

theorem sgn_get : ∀ (l : List (Nat × Nat)) (i : Nat) (h : i < l.length), (sgn l)[i * 2]? = some (.int .u8 (l[i].1 : Int)) ∧ (sgn l)[i * 2 + 1]? = some (.int .u8 (l[i].2 : Int))
  | [], i, h => absurd h (by simp)
  | p :: r, 0, _ => ⟨rfl, rfl⟩
  | p :: r, i + 1, h => by
    have ih := sgn_get r i (by simpa using h)
    rw [show (i + 1) * 2 = i * 2 + 2 from by omega]
    exact ih

theorem sgn_one (l : List (Nat × Nat)) : ∀ u ∈ sgn l, u.oneCell' = true := by
  intro u hu
  simp only [sgn, List.mem_flatMap] at hu
  obtain ⟨p, _, hp⟩ := hu
  simp at hp
  rcases hp with rfl | rfl <;> rfl

def Small (l : List (Nat × Nat)) : Prop := ∀ p ∈ l, p.1 < 256 ∧ p.2 < 256

def SignRow (w : World) (v : Value) (l : List (Nat × Nat)) : Prop := ∃ a cap, v = .slice a l.length cap ∧ l.length ≤ cap ∧ l.length ≤ maxLen ∧ (a = none → cap = 0) ∧
  ∀ (i : Nat) (h : i < l.length), (l[i].1 < 256 ∧ l[i].2 < 256) ∧ ∃ b off, a = some ⟨b, off, none⟩ ∧ w.cell? ⟨b, off + i * 2, none⟩ = some (.int .u8 (l[i].1 : Int)) ∧ w.cell? ⟨b, off + i * 2 + 1, none⟩ = some (.int .u8 (l[i].2 : Int))

theorem SignRow.below {w w' : World} {B : Nat} {v : Value} {l : List (Nat × Nat)} (h : SignRow w v l) (hb : RowKit.Below B w w') (hB : w.heap.size ≤ B) : SignRow w' v l := by
  obtain ⟨a, cap, h1, h2, h0, h3, h4⟩ := h
  refine ⟨a, cap, h1, h2, h0, h3, fun i hi => ?_⟩
  obtain ⟨g, b, off, e, c1, c2⟩ := h4 i hi
  have l1 := World.block_lt_of_cell? w _ c1
  exact ⟨g, b, off, e, (hb.cell (p := ⟨b, off + i * 2, none⟩) (Nat.lt_of_lt_of_le l1 hB)).trans c1, (hb.cell (p := ⟨b, off + i * 2 + 1, none⟩) (Nat.lt_of_lt_of_le l1 hB)).trans c2⟩

theorem SignRow.small {w : World} {v : Value} {l : List (Nat × Nat)} (h : SignRow w v l) : Small l := by
  obtain ⟨a, cap, rfl, hc, _, hn, hat⟩ := h
  intro x hx
  obtain ⟨i, hi, rfl⟩ := List.getElem_of_mem hx
  exact (hat i hi).1

theorem signRow_owns {w : World} {base e : Nat} {v : Value} {l : List (Nat × Nat)} (h : w.ownsRow base e 2 v l.length (sgn l)) (hs : Small l) : SignRow w v l := by
  rcases h.2 with ⟨rfl, h0⟩ | ⟨g, cap, cur, rfl, _, hg, hnc, hm, _⟩
  · obtain rfl : l = [] := List.eq_nil_of_length_eq_zero h0
    exact ⟨none, 0, rfl, Nat.le_refl _, Nat.zero_le _, fun _ => rfl, fun i hi => absurd hi (by simp)⟩
  · refine ⟨_, cap, rfl, hnc, by omega, (fun e => by cases e), fun i hi => ⟨hs _ (List.getElem_mem hi), g, 0, rfl, ?_, ?_⟩⟩
    · rw [Nat.zero_add, h.cellAt _ (by omega), (sgn_get _ _ hi).1]
    · rw [Nat.zero_add, h.cellAt _ (by omega), (sgn_get _ _ hi).2]

theorem signRow_none (w : World) : SignRow w (.slice none 0 0) [] := ⟨none, 0, rfl, Nat.le_refl _, Nat.zero_le _, fun _ => rfl, fun i hi => absurd hi (by simp)⟩

abbrev signT (e : TypeId) (v : Value) (l : List (Nat × Nat)) : Thing := rowT e 2 v l.length (sgn l)

section
variable {B : Nat} {w0 w : World} {r : List Thing}

theorem _root_.Go.Proofs.YtpinfihmageeoaaGreat.St.signs {e : TypeId} {v : Value} {l : List (Nat × Nat)} (h : St B w0 w (signT e v l :: r)) (hs : Small l) : SignRow w v l := signRow_owns h.row hs
end

theorem signRow_lit (w : World) (l : List (Nat × Nat)) (e : TypeId) (fr : Nat × Nat) (hs : Small l) (hl : l.length ≤ maxLen) : SignRow (w.alloc (.cells (sgn l).toArray e fr)) (.slice (some ⟨w.heap.size, 0, none⟩) l.length l.length) l := by
  refine ⟨_, l.length, rfl, Nat.le_refl _, hl, (fun e => by cases e), fun i hi => ⟨hs _ (List.getElem_mem hi), w.heap.size, 0, rfl, ?_, ?_⟩⟩
  · rw [Nat.zero_add, cell_of_row _ w.heap.size _ (sgn l).toArray e fr (heap_alloc_new w _)]
    simpa using (sgn_get l i hi).1
  · rw [Nat.zero_add, cell_of_row _ w.heap.size _ (sgn l).toArray e fr (heap_alloc_new w _)]
    simpa using (sgn_get l i hi).2

section
variable {H : Type} {enc : TypeId × Value → H} {W : World}

theorem cellsSign : Tryz.prog.cellsOf 202 = 2 := by kernel_rfl

theorem byte_wf {v : Int} (hv : (Lit.int .u8 v).wf = true) : ∃ x : Nat, v = (x : Int) ∧ x < 256 := by
  simp only [Lit.wf, Bool.and_eq_true, decide_eq_true_eq] at hv
  have h1 : IntKind.u8.min = 0 := rfl
  have h2 : IntKind.u8.max = 255 := rfl
  rw [h1, h2] at hv
  exact ⟨v.toNat, by omega, by omega⟩

set_option maxRecDepth 100000 in
theorem sign_of {n : Nat} {cs : List Value} {x : DataW H × List MemPlace} (h : DataW.trod enc Tryz.prog W 0 (fun _ => true) true n 202 cs = some x) :
    ∃ y : Nat × Nat, (y.1 < 256 ∧ y.2 < 256) ∧ cs = [.int .u8 (y.1 : Int), .int .u8 (y.2 : Int)] := by
  obtain ⟨xs, n', _, _, hlen, hxl, hg⟩ := DataW.trod_struct Tryz.underlying202 h
  rw [cellsSign] at hlen
  match cs, hlen with
  | [c0, c1], _ =>
    match xs, hxl with
    | [x0, x1], _ =>
      have g0 : DataW.trod enc Tryz.prog W 0 (fun _ => true) true n' 5 (([c0, c1].drop 0).take (Tryz.prog.cellsOf 5)) = some x0 := hg 0 _ rfl
      have g1 : DataW.trod enc Tryz.prog W 0 (fun _ => true) true n' 5 (([c0, c1].drop 1).take (Tryz.prog.cellsOf 5)) = some x1 := hg 1 _ rfl
      rw [show Tryz.prog.cellsOf 5 = 1 from by kernel_rfl] at g0 g1
      obtain ⟨a0, e0, _, k0⟩ := DataW.trod_int Tryz.underlying5 g0
      obtain ⟨a1, e1, _, k1⟩ := DataW.trod_int Tryz.underlying5 g1
      simp at e0 e1
      subst e0 e1
      obtain ⟨y0, rfl, f0⟩ := byte_wf k0
      obtain ⟨y1, rfl, f1⟩ := byte_wf k1
      exact ⟨(y0, y1), ⟨f0, f1⟩, rfl⟩

set_option maxRecDepth 100000 in
theorem open_signs {a : Option Addr} {len cap : Nat} {d : DataW H} {p : List MemPlace} (h : DataW.Trod enc Tryz.prog W 0 (fun _ => true) true 199 (.slice a len cap) d p) : ∃ l, SignRow W (.slice a len cap) l := by
  obtain ⟨fuel, hf⟩ := h
  rcases open_slice Tryz.underlying199 hf with ⟨hcs, _⟩ | ⟨x, len', cap', m, n, D, Pl, hcs, _, hl, hm, hmm, _, hi⟩
  · simp [Value.cells] at hcs
    obtain ⟨rfl, rfl, rfl⟩ := hcs
    exact ⟨[], signRow_none W⟩
  · simp [Value.cells] at hcs
    obtain ⟨rfl, rfl, rfl⟩ := hcs
    have hlm : len ≤ m := by rw [hmm]; simpa using hl
    rw [cellsSign] at hi
    by_cases h0 : len = 0
    · subst h0
      exact ⟨[], _, cap, rfl, by simp, by simp, (fun e => by cases e), fun i hi => absurd hi (by simp)⟩
    · have hx : x = ⟨x.block, x.off, none⟩ := by
        obtain ⟨cs, hc, ht⟩ := hi 0 (by omega)
        obtain ⟨y, _, rfl⟩ := sign_of ht
        obtain ⟨_, _, hat⟩ := World.cells?_some hc
        have h1 := hat 0 (by omega)
        have h2 : x.spot = none := by
          have := World.cell?_spot (h1.trans rfl)
          simpa [Addr.add] using this
        obtain ⟨b, o, s⟩ := x
        simpa using h2
      obtain ⟨l, h1, h2⟩ := list_of (fun i (y : Nat × Nat) => (y.1 < 256 ∧ y.2 < 256) ∧ W.cell? ⟨x.block, x.off + i * 2, none⟩ = some (.int .u8 (y.1 : Int)) ∧ W.cell? ⟨x.block, x.off + i * 2 + 1, none⟩ = some (.int .u8 (y.2 : Int))) len (fun i hin => by
        obtain ⟨cs, hc, ht⟩ := hi i (by omega)
        obtain ⟨y, hy, rfl⟩ := sign_of ht
        obtain ⟨_, _, hat⟩ := World.cells?_some hc
        rw [hx, add_none] at hat
        have c0 := hat 0 (by omega)
        have c1 := hat 1 (by omega)
        rw [add_none] at c0 c1
        exact ⟨y, hy, c0, c1⟩)
      exact ⟨l, some x, cap, by rw [h1], by omega, by omega, (fun e => by cases e), fun i hi => by
        obtain ⟨f, g1, g2⟩ := h2 i hi
        exact ⟨f, x.block, x.off, by rw [← hx], g1, g2⟩⟩
end
end Go.Proofs.YtpinfihmageeoaaGreat.Rep

namespace Go.Proofs.YtpinfihmageeoaaGreat.Rep
open Go.RowKit

theorem and_low (n : Nat) (h : n < 4294967296) : bits .and .u64 (n : Int) 4294967295 = (n : Int) := by
  have h7 : (BitVec.ofInt 64 4294967295).toNat = 2 ^ 32 - 1 := by decide
  have key : (BitVec.ofInt 64 (n : Int) &&& BitVec.ofInt 64 4294967295).toNat = ((n : Int) % ((2 ^ 64 : Nat) : Int)).toNat % 2 ^ 32 := by
    rw [BitVec.toNat_and, BitVec.toNat_ofInt, h7, Nat.and_two_pow_sub_one_eq_mod]
  show IntKind.u64.wrap ((BitVec.ofInt 64 (n : Int) &&& BitVec.ofInt 64 4294967295).toNat : Nat) = (n : Int)
  rw [key]
  simp [IntKind.wrap, IntKind.signed, IntKind.bits]
  omega

theorem mul64_any (w : World) (n : Nat) (hn : n < 4294967296) : Calls Tryz.prog 165 #[.int .u64 1, .int .u64 (n : Int)] w fun e w' => e = .returned (.tuple #[.int .u64 0, .int .u64 (n : Int)]) ∧ w = w' := by
  have e1 : bits .and .u64 1 4294967295 = 1 := by decide
  have e2 := and_low n hn
  have e3 : bits .and .u64 0 4294967295 = 0 := by decide
  have e4 : (n : Int) / 4294967296 = 0 := by omega
  have e5 : (1 : Int) / 4294967296 = 0 := by omega
  go_enter Tryz.func165, Tryz.ntmps165
  go_wp2
  go_ret2
  exact ⟨rfl, rfl⟩

theorem mul_any (w : World) (n : Nat) (hn : n < 4294967296) : Calls Tryz.prog 150 #[.int .u64 1, .int .u64 (n : Int)] w fun e w' => e = .returned (.tuple #[.int .u64 0, .int .u64 (n : Int)]) ∧ w = w' := by
  go_enter Tryz.func150, Tryz.ntmps150
  go_wp2_with (go_at_call 165; refine (mul64_any _ n hn).mono ?_; rintro e w1 ⟨rfl, rfl⟩)
  go_ret2
  exact ⟨rfl, rfl⟩

theorem run_copy_sized {P : Program} (w : World) (dT sT ty elem : TypeId) (g o dLen dCap : Nat) (ad : Addr) (sLen sCap : Nat) (cur : Array Value) (t : TypeId) (cs : List Value) (k size : Nat)
    (hu : P.underlying dT = some (.slice elem)) (hs : (P.info? elem).map (·.size) = some size)
    (hg : w.heap[g]? = some (.cells cur t (0, 0))) (hk : k = Nat.min sLen dLen) (hn : cs.length = k * size)
    (hsrc : ∀ j v, cs[j]? = some v → w.cell? (ad.add j) = some v) (hfit : o + cs.length ≤ cur.size) (h1 : ∀ v ∈ cs, v.oneCell' = true) :
    (Builtin.copy_ #[dT, sT] ty #[.slice (some ⟨g, o, none⟩) dLen dCap, .slice (some ad) sLen sCap]).run P w =
      .ok (goInt k) (w.setRow g (cur.toList.take o ++ cs ++ cur.toList.drop (o + cs.length)).toArray) := by
  have hl := run_loadCells_list (P := P) w ad cs hsrc
  have hst := run_storeCells_at P g o t cs 0 cur w hg (by simpa using hfit) h1
  rw [hn] at hl
  cases hq : P.info? elem with
  | none => simp [hq] at hs
  | some i =>
    have hi : i.size = size := by simpa [hq] using hs
    simp [Builtin.copy_, run_underlying hu, Builtin.lenOf, Builtin.firstCells, sizeOf, typeInfo, hq, hi, ← hk, hl, hst]

theorem wpList_copy_st {P : Program} {ops : Array Oper} {rest : List Oper} {o : Oper} {a : Act} {Q : Exit → Act → World → Prop} (hgd : o.guard = none) (d s : Operand) (dT sT : TypeId)
    (ho : o.op = .call { callee := .builtin .copy, args := #[d, s], argTypes := #[dT, sT] }) (elem : TypeId) (size : Nat) (hu : P.underlying dT = some (.slice elem)) (hsz : (P.info? elem).map (·.size) = some size)
    {B : Nat} {w0 w : World} {r : List Thing} {g N : Nat} {cells : List Value} (st : St B w0 w (rowT elem size (.slice (some ⟨g, 0, none⟩) N N) N cells :: r))
    (off dLen dCap : Nat) (ad : Addr) (sLen sCap : Nat) (hd : a.eval d = .slice (some ⟨g, off, none⟩) dLen dCap) (hs : a.eval s = .slice (some ad) sLen sCap)
    (k : Nat) (hk : k = Nat.min sLen dLen) (cs : List Value) (hn : cs.length = k * size)
    (hsrc : ∀ j v, cs[j]? = some v → w.cell? (ad.add j) = some v) (hfit : off + cs.length ≤ N * size) (h1 : ∀ v ∈ cs, v.oneCell' = true)
    (h : ∀ w', St B w0 w' (rowT elem size (.slice (some ⟨g, 0, none⟩) N N) N (splice cells off cs) :: r) → wpList P ops Q rest (a.put o.dst (goInt k)) w') : wpList P ops Q (o :: rest) a w := by
  refine wpList_plain hgd fun K hK => ?_
  have hrow := st.row
  rcases hrow.2 with ⟨e1, _⟩ | ⟨g', cap, cur, e1, _, hg, hc1, hc2, hcs, htk⟩
  · cases e1
  · have e2 := Value.slice.inj e1
    have e3 : g' = g := (congrArg Addr.block (Option.some.inj e2.1)).symm
    have e4 : cap = N := e2.2.2.symm
    subst e3 e4
    have hcl : cur.toList = cells := by rw [← htk, List.take_of_length_le (by simp [hcs])]
    have hrun := run_copy_sized (P := P) w dT sT o.type elem g' off dLen dCap ad sLen sCap cur elem cs k size hu hsz hg hk hn hsrc (by rw [hcs]; exact hfit) h1
    unfold Oper.wp
    simp only [execOp, ho, resolve, invoke, builtin, Sem.run_bind, Sem.run_pure, Result.andThen_ok, List.map_toArray, List.map_cons, List.map_nil, hd, hs, hrun]
    refine hK _ _ (h _ (st.grown ?_ ?_ (Fresh.refl _ _)))
    · have hlen : (splice cells off cs).length = cap * size := by rw [length_splice _ _ _ (by rw [← hcl]; simp [hcs]; exact hfit), ← hcl]; simp [hcs]
      refine ⟨hlen, .inr ⟨g', cap, (splice cells off cs).toArray, rfl, Nat.zero_le _, ?_, Nat.le_refl _, hc2, by simp [hlen], by simp [← hlen]⟩⟩
      rw [hcl, List.append_assoc]
      exact setRow_heap w g' cur (splice cells off cs).toArray elem _ hg
    · refine ⟨rfl, rfl, rfl, by simp [World.setRow], fun k hk hne => ?_⟩
      exact setRow_other w g' k _ (fun e => hne (by rw [← e]; rfl))

theorem run_copy_none_sized {P : Program} (w : World) (dT sT ty elem : TypeId) (d a : Option Addr) (dLen dCap sLen sCap size : Nat) (hu : P.underlying dT = some (.slice elem)) (hs : (P.info? elem).map (·.size) = some size) (hn : Nat.min sLen dLen = 0) :
    (Builtin.copy_ #[dT, sT] ty #[.slice d dLen dCap, .slice a sLen sCap]).run P w = .ok (goInt 0) w := by
  cases hq : P.info? elem with
  | none => simp [hq] at hs
  | some i =>
    have hl : ∀ (x : Addr), (loadCells x 0).run P w = .ok #[] w := fun x => by simpa using run_loadCells_list (P := P) w x [] (by simp)
    cases d <;> cases a <;> simp [Builtin.copy_, run_underlying hu, Builtin.lenOf, Builtin.firstCells, sizeOf, typeInfo, hq, hn, storeCells, hl]

theorem wpList_copy_none_sized {P : Program} {w : World} {ops : Array Oper} {rest : List Oper} {o : Oper} {a : Act} {Q : Exit → Act → World → Prop} (hgd : o.guard = none) (d s : Operand) (dT sT : TypeId)
    (ho : o.op = .call { callee := .builtin .copy, args := #[d, s], argTypes := #[dT, sT] }) (elem : TypeId) (size : Nat) (hu : P.underlying dT = some (.slice elem)) (hsz : (P.info? elem).map (·.size) = some size)
    (dp sp : Option Addr) (dLen dCap sLen sCap : Nat) (hd : a.eval d = .slice dp dLen dCap) (hs : a.eval s = .slice sp sLen sCap) (hn : Nat.min sLen dLen = 0)
    (h : wpList P ops Q rest (a.put o.dst (goInt 0)) w) : wpList P ops Q (o :: rest) a w := by
  refine wpList_plain hgd fun K hK => ?_
  have hrun := run_copy_none_sized (P := P) w dT sT o.type elem dp sp dLen dCap sLen sCap size hu hsz hn
  unfold Oper.wp
  simp [execOp, ho, resolve, invoke, builtin, hd, hs, hrun, Result.andThen]
  exact hK _ _ h

def rep (k : Nat) (cs : List Value) : List Value := (List.replicate k cs).flatten

theorem rep_length (k : Nat) (cs : List Value) : (rep k cs).length = k * cs.length := by
  induction k with
  | zero => simp [rep]
  | succ k ih =>
    unfold rep at *
    rw [List.replicate_succ, List.flatten_cons, List.length_append, ih, Nat.succ_mul]
    omega

theorem rep_add (j k : Nat) (cs : List Value) : rep (j + k) cs = rep j cs ++ rep k cs := by
  unfold rep
  rw [← List.replicate_append_replicate, List.flatten_append]

theorem rep_one (k : Nat) (cs : List Value) (h : ∀ v ∈ cs, v.oneCell' = true) : ∀ v ∈ rep k cs, v.oneCell' = true := by
  intro v hv
  unfold rep at hv
  simp only [List.mem_flatten, List.mem_replicate] at hv
  obtain ⟨l, ⟨_, rfl⟩, h2⟩ := hv
  exact h v h2

theorem splice_rep (n k m : Nat) (cs zs : List Value) (hz : zs.length = cs.length) (h : n + k ≤ m) :
    splice (rep n cs ++ rep (m - n) zs) (n * cs.length) (rep k cs) = rep (n + k) cs ++ rep (m - (n + k)) zs := by
  unfold splice
  have e1 : m - n = k + (m - (n + k)) := by omega
  rw [e1, rep_add n k, rep_add k (m - (n + k)) zs, rep_length]
  have l1 := rep_length n cs
  have l2 := rep_length k zs
  rw [hz] at l2
  rw [List.take_left' l1, List.append_assoc, List.drop_append, List.drop_of_length_le (by omega), List.nil_append, List.drop_append, List.drop_of_length_le (by omega), List.nil_append, l1, l2, show n * cs.length + k * cs.length - n * cs.length - k * cs.length = 0 from by omega, List.drop_zero]

theorem rep_u8s (k y : Nat) : u8s (List.replicate k y) = rep k [.int .u8 (y : Int)] := by
  induction k with
  | zero => rfl
  | succ k ih =>
    unfold rep at *
    rw [List.replicate_succ, List.replicate_succ, List.flatten_cons, ← ih]
    rfl

theorem rep_sgn (k : Nat) (s : Nat × Nat) : sgn (List.replicate k s) = rep k [.int .u8 (s.1 : Int), .int .u8 (s.2 : Int)] := by
  induction k with
  | zero => rfl
  | succ k ih =>
    unfold rep at *
    rw [List.replicate_succ, List.replicate_succ, List.flatten_cons, ← ih]
    rfl

set_option maxRecDepth 100000 in
set_option maxHeartbeats 1000000 in
theorem repeatB_st {B : Nat} {w0 w : World} {r : List Thing} (st : St B w0 w r) (b off cap0 : Nat) (cs : List Value) (hcs : cs.length = 1) (h1 : ∀ v ∈ cs, v.oneCell' = true) (hsrc : ∀ j v, cs[j]? = some v → w.cell? ((⟨b, off, none⟩ : Addr).add j) = some v)
    (m : Nat) (hm : m ≤ 1000000) :
    Calls Tryz.prog 135 #[.slice (some ⟨b, off, none⟩) 1 cap0, .int .i64 (m : Int)] w fun e w' => ∃ v', e = .returned v' ∧ St B w0 w' (rowT 5 1 v' m (rep m cs) :: r) := by
  obtain ⟨i0, hi, hz0, hz1, hz2⟩ := info_parts info8
  have hmk : i0.bytes * m ≤ 281474976710656 := by rw [hz2]; omega
  have hmx : m ≤ maxLen := by unfold maxLen; omega
  have hu : (m : Int) % 18446744073709551616 = (m : Int) := by omega
  go_enter Tryz.func135, Tryz.ntmps135
  go_wp2_with (first | (go_at_call 150; refine (mul_any _ m (by omega)).mono ?_; rintro e w1 ⟨rfl, rfl⟩) | (at_make; refine wpList_make_full _ rfl _ _ 26 rfl w.heap.size 5 i0 (.int .u8 0) 1 Tryz.underlying26 hi hz0 hz1 _ _ _ _ m rfl rfl rfl rfl hmk hmx (Nat.le_refl _) ?_))
  intro w1 hown hgrow
  have s1 : St B w0 w1 (rowT 5 1 (.slice (some ⟨w.heap.size, 0, none⟩) m m) m (rep m [.int .u8 0]) :: r) := by
    rw [toList_madeCells_one] at hown
    have e1 : List.replicate m (Value.int .u8 0) = rep m [.int .u8 0] := by unfold rep; simp
    rw [e1] at hown
    exact st.addRow ((Below.refl w.heap.size w).grown hgrow (Nat.le_refl _) (by simp)) hown
  have hbl : 0 < m → b < w.heap.size := fun _ => by
    have h2 := hsrc 0 cs[0] (by simp)
    rw [add_none] at h2
    exact World.block_lt_of_cell? w _ h2
  have hsrc1 : ∀ j v, cs[j]? = some v → w1.cell? ((⟨b, off, none⟩ : Addr).add j) = some v := fun j v hj => by
    have h2 := hsrc j v hj
    rw [add_none] at h2 ⊢
    have h3 := World.block_lt_of_cell? w _ h2
    exact ((((Below.refl w.heap.size w).grown hgrow (Nat.le_refl _) (by simp)).cell (p := ⟨b, off + j, none⟩) h3)).trans h2
  obtain ⟨g, hg⟩ : ∃ g, g = w.heap.size := ⟨_, rfl⟩
  rw [← hg] at s1 ⊢
  clear hown hgrow hg hi hz0 hz1 hz2 hmk hmx hsrc hbl st
  by_cases h0 : m = 0
  · subst h0
    go_wp2_with (refine wpList_copy_none_sized (o := ⟨some 33, _, _, _, _, _⟩) rfl _ _ 26 26 rfl 5 1 Tryz.underlying26 (by kernel_rfl) _ _ _ _ _ _ rfl rfl rfl ?_)
    go_loopw [8] (fun n wr => n = .int .i64 0 ∧ wr = w1) (fun _ _ => 0)
    case atStart => exact ⟨rfl, rfl⟩
    case round =>
      obtain ⟨rfl, rfl⟩ := hrel
      go_wp2
      go_ret
      exact ⟨_, rfl, s1⟩
  · have hpos : 0 < m := by omega
    go_wp2_with (refine wpList_copy_st (o := ⟨some 33, _, _, _, _, _⟩) rfl _ _ 26 26 rfl 5 1 Tryz.underlying26 (by kernel_rfl) s1 0 _ _ _ _ _ rfl rfl 1 (Nat.min_eq_left hpos).symm cs (by omega) hsrc1 (by omega) h1 ?_)
    intro w2 s2
    have e1 := splice_rep 0 1 m cs [.int .u8 0] (by rw [hcs]; rfl) (by omega)
    have e2 : rep 1 cs = cs := by simp [rep]
    rw [Nat.zero_mul, e2, Nat.sub_zero, Nat.zero_add, show rep 0 cs = [] from rfl, List.nil_append] at e1
    rw [e1, show cs ++ rep (m - 1) [Value.int .u8 0] = rep 1 cs ++ rep (m - 1) [Value.int .u8 0] from by rw [e2]] at s2
    clear e1 e2 s1 hsrc1
    go_wp2
    go_loopw [8] (fun v wr => ∃ n : Nat, 1 ≤ n ∧ n ≤ m ∧ v = .int .i64 (n : Int) ∧ St B w0 wr (rowT 5 1 (.slice (some ⟨g, 0, none⟩) m m) m (rep n cs ++ rep (m - n) [.int .u8 0]) :: r)) (fun v _ => m - (intOf v).toNat)
    case atStart => exact ⟨1, Nat.le_refl _, by omega, rfl, s2⟩
    case round =>
      clear s2
      obtain ⟨n, hn1, hnm, rfl, s3⟩ := hrel
      by_cases hlt : n < m
      · obtain ⟨k, hk⟩ : ∃ k, Nat.min n (m - n) = k := ⟨_, rfl⟩
        have hk1 : k = min n (m - n) := hk.symm
        obtain ⟨d, hd⟩ : ∃ d : Nat, d = m - n := ⟨_, rfl⟩
        have hd' : (m : Int) - (n : Int) = (d : Int) := by omega
        rw [← hd] at hk hk1
        have s4 := s3.drew
        go_wp2
        refine region_seg (by kernel_rfl) [0, 1, 2, 4, 5] 5 rfl (by kernel_rfl) (by kernel_rfl) (fun _ _ d _ _ h => by cases d <;> exact h) ?_
        generalize wr.drew = wd at *
        intro K hK
        simp only [pickL, List.getElem?_cons_zero, List.getElem?_cons_succ]
        go_wp2_with fail
        refine wpAny_take (i := 3) (v := .slice (some ⟨g, n, none⟩) d d) rfl (by kernel_rfl) (by kernel_rfl) (by kernel_rfl) (fun _ _ _ h => h) (.inl ⟨rfl, fun w => by go_simp; omega⟩) ?_
        refine wpAny_take (i := 6) (v := .slice (some ⟨g, 0, none⟩) n m) rfl (by kernel_rfl) (by kernel_rfl) (by kernel_rfl) (fun _ _ _ h => h) (.inl ⟨rfl, fun w => by go_simp⟩) ?_
        refine mid_seg [7, 8, 9] 0 (by kernel_rfl) (by kernel_rfl) (fun _ _ d _ _ h => by cases d <;> exact h) ?_
        intro K hK
        simp only [pickL, List.getElem?_cons_zero, List.getElem?_cons_succ]
        have hle : k ≤ n := by omega
        have hkd : k ≤ d := by omega
        have hkp : 1 ≤ k := by omega
        have hl : (rep k cs).length = k * 1 := by rw [rep_length, hcs]
        have hsrc : ∀ j v, (rep k cs)[j]? = some v → wd.cell? ((⟨g, 0, none⟩ : Addr).add j) = some v := fun j v hj => by
          have hjl := (List.getElem?_eq_some_iff.1 hj).1
          rw [add_none, Nat.zero_add, s4.row.cellAt j (by omega), show n = k + (n - k) from by omega, rep_add, List.append_assoc, List.getElem?_append_left hjl]
          exact hj
        have hsp := splice_rep n k m cs [.int .u8 0] (by rw [hcs]; rfl) (by omega)
        rw [hcs, Nat.mul_one] at hsp
        have hfit : n + (rep k cs).length ≤ m * 1 := by omega
        have hone := rep_one k cs h1
        have hadd : (n : Int) + (k : Int) = ((n + k : Nat) : Int) := by omega
        obtain ⟨q, hq⟩ : ∃ q : Nat, n + k = q := ⟨_, rfl⟩
        rw [hq] at hsp hadd
        have hq1 : n < q := by omega
        have hqm : q ≤ m := by omega
        clear hd hd' hk1 hle hkd hkp hq s3
        go_wp2_with (refine wpList_copy_st (o := ⟨some 45, _, _, _, _, _⟩) rfl _ _ 26 26 rfl 5 1 Tryz.underlying26 (by kernel_rfl) s4 n _ _ _ _ _ rfl rfl k hk.symm (rep k cs) hl hsrc hfit hone ?_)
        intro w5 s5
        clear hsrc hsp hfit hone hl
        go_wp2
        refine wpAny_done (by kernel_rfl) ?_ 0
        go_wp2
        go_roundw
        case rel => exact ⟨q, by omega, hqm, rfl, s5⟩
        case measure => simp [intOf]; omega
      · obtain rfl : n = m := by omega
        go_wp2
        go_ret
        refine ⟨_, rfl, ?_⟩
        rw [Nat.sub_self, show rep 0 [Value.int .u8 0] = [] from rfl, List.append_nil] at s3
        exact s3

end Go.Proofs.YtpinfihmageeoaaGreat.Rep

namespace Go.Proofs.YtpinfihmageeoaaGreat.Rep
open Go.RowKit

theorem bits_any (w : World) (c : Nat) (hc : c < 256) : Calls Tryz.prog 154 #[.int .u8 (c : Int)] w fun e w' => e = .returned (.int .i64 (bitsOf' c : Int)) ∧ w = w' := by
  unfold bitsOf'
  go_enter Tryz.func154, Tryz.ntmps154
  by_cases h1 : c = 16
  · subst h1
    go_wp2
    go_ret
    exact ⟨rfl, rfl⟩
  · by_cases h2 : c = 17
    · subst h2
      go_wp2
      go_ret
      exact ⟨rfl, rfl⟩
    · by_cases h3 : c = 18
      · subst h3
        go_wp2
        go_ret
        exact ⟨rfl, rfl⟩
      · rw [if_neg h1, if_neg h2, if_neg h3]
        go_wp2
        go_ret
        exact ⟨rfl, rfl⟩

theorem least_any (w : World) (c : Nat) (hc : c < 256) : Calls Tryz.prog 176 #[.int .u8 (c : Int)] w fun e w' => e = .returned (.int .i64 (least c : Int)) ∧ w = w' := by
  unfold least
  go_enter Tryz.func176, Tryz.ntmps176
  by_cases h1 : c = 16
  · subst h1
    go_wp2
    go_ret
    exact ⟨rfl, rfl⟩
  · by_cases h2 : c = 17
    · subst h2
      go_wp2
      go_ret
      exact ⟨rfl, rfl⟩
    · by_cases h3 : c = 18
      · subst h3
        go_wp2
        go_ret
        exact ⟨rfl, rfl⟩
      · rw [if_neg (by omega), if_neg h3]
        go_wp2
        go_ret
        exact ⟨rfl, rfl⟩

def room (c : Nat) : Nat := 2 ^ bitsOf' c
theorem room_le (c : Nat) : 1 ≤ room c ∧ room c ≤ 128 := by
  unfold room bitsOf'
  split
  · decide
  · split
    · decide
    · split <;> decide

theorem _root_.Go.RowKit.Below.drewN {B : Nat} {a w : World} (h : Below B a w) (n : Nat) : Below B a (w.drewN n) := ⟨h.os, h.tape, h.output, h.size, h.block⟩

theorem bits_q (w : World) (c : Nat) (hc : c < 256) : Calls Tryz.prog 154 #[.int .u8 (c : Int)] w fun e w' => e = .returned (.int .i64 (bitsOf' c : Int)) ∧ w' = w :=
  (bits_any w c hc).mono fun _ _ h => ⟨h.1, h.2.symm⟩
theorem least_q (w : World) (c : Nat) (hc : c < 256) : Calls Tryz.prog 176 #[.int .u8 (c : Int)] w fun e w' => e = .returned (.int .i64 (least c : Int)) ∧ w' = w :=
  (least_any w c hc).mono fun _ _ h => ⟨h.1, h.2.symm⟩

set_option maxRecDepth 100000 in
theorem fits_any (w : World) (c x : Nat) (hc : c < 256) (hx : x < 256) : Calls Tryz.prog 169 #[signV c x] w fun e w' => e = .returned (.bool (fits (c, x))) ∧ Below w.heap.size w w' := by
  have hr := room_le c
  have hb : bitsOf' c ≤ 7 := by unfold bitsOf'; split <;> (try split) <;> (try split) <;> omega
  have hp : (2 : Int) ^ bitsOf' c = (room c : Int) := by unfold room; simp
  have hf : fits (c, x) = (decide (c ≤ 18) && decide (x < room c)) := rfl
  rw [hf]
  have hq := fun W => bits_q W c hc
  generalize bitsOf' c = b at *
  generalize room c = p at *
  have hw : IntKind.i64.wrap (p : Int) = (p : Int) := IntWalk.i64_in _ (by omega)
  have hx' : IntKind.i64.wrap (x : Int) = (x : Int) := IntWalk.i64_in _ (by omega)
  go_enter Tryz.func169, Tryz.ntmps169
  by_cases h18 : c ≤ 18
  · have d1 : decide ((c : Int) ≤ 18) = true := by simp; omega
    have d2 : (c : Int) ≤ 18 := by omega
    go_wp2
    go_quiet ((go_at_call 154; exact Calls.quiet_of_same (hq _)))
    go_wp2
    go_ret
    refine ⟨by simp [h18], (below_alloc w _).drewN _⟩
  · have d1 : decide ((c : Int) ≤ 18) = false := by simp; omega
    go_wp2
    go_quiet (fail)
    go_wp2
    go_ret
    refine ⟨by simp [h18], (below_alloc w _).drewN _⟩

theorem times_any (w : World) (c x : Nat) (hc : c < 256) (hx : x < 256) : Calls Tryz.prog 170 #[signV c x] w fun e w' => e = .returned (.int .i64 (times (c, x) : Int)) ∧ Below w.heap.size w w' := by
  have hl := least_le c
  have ht : times (c, x) = least c + x := rfl
  rw [ht]
  have hq := fun W => least_q W c hc
  generalize least c = q at *
  have hx' : IntKind.i64.wrap (x : Int) = (x : Int) := IntWalk.i64_in _ (by omega)
  have hw : IntKind.i64.wrap ((q : Int) + (x : Int)) = (q : Int) + (x : Int) := IntWalk.i64_in _ (by omega)
  go_enter Tryz.func170, Tryz.ntmps170
  go_wp2
  go_quiet ((go_at_call 176; exact Calls.quiet_of_same (hq _)))
  go_wp2
  go_ret
  exact ⟨ret_int (by omega), (below_alloc w _).drewN _⟩

theorem length_any (w : World) (c x : Nat) (hc : c < 256) (v : Value) (L : List Nat) (h : ByteRow w v L) (hL : c = 16 → L ≠ []) (hl : L.length ≤ 140737488355328) :
    Calls Tryz.prog 171 #[signV c x, v] w fun e w' => e = .returned (.int .u8 (lengthOf (c, x) L : Int)) ∧ Below w.heap.size w w' := by
  obtain ⟨a, cap, rfl, hcap, hn, hat⟩ := h
  have ht : lengthOf (c, x) L = if c = 16 then L.getLastD 0 else if c = 17 ∨ c = 18 then 0 else c := rfl
  rw [ht]
  go_enter Tryz.func171, Tryz.ntmps171
  by_cases h1 : c = 16
  · subst h1
    rw [if_pos rfl]
    have hne := hL rfl
    have hpos : 0 < L.length := List.length_pos_iff.2 hne
    obtain ⟨hlt, b, off, rfl, hcell⟩ := hat (L.length - 1) (by omega)
    have e1 : L.getLastD 0 = L[L.length - 1] := by rw [List.getLastD_eq_getLast?, List.getLast?_eq_getElem?, List.getElem?_eq_getElem (by omega)]; rfl
    rw [e1]
    clear e1 hat hL ht hne
    generalize L[L.length - 1] = y at *
    obtain ⟨q, hq⟩ : ∃ q : Nat, L.length = q + 1 := ⟨L.length - 1, by omega⟩
    rw [hq] at hcap hl hcell ⊢
    rw [Nat.add_sub_cancel] at hcell
    clear hq hpos
    have e2 : ((q + 1 : Nat) : Int) - 1 = (q : Int) := by omega
    have hlt2 : b < w.heap.size := World.block_lt_of_cell? w _ hcell
    go_wp2
    go_ret
    exact ⟨rfl, below_alloc w _⟩
  · rw [if_neg h1]
    clear hat
    by_cases h2 : c = 17
    · subst h2
      go_wp2
      go_ret
      exact ⟨rfl, below_alloc w _⟩
    · by_cases h3 : c = 18
      · subst h3
        go_wp2
        go_ret
        exact ⟨rfl, below_alloc w _⟩
      · rw [if_neg (by omega)]
        go_wp2
        go_ret
        exact ⟨rfl, below_alloc w _⟩

theorem times_le' (s : Nat × Nat) (h : fits s = true) : times s ≤ 138 ∧ s.1 ≤ 18 ∧ s.2 < 128 := by
  unfold fits at h
  simp only [Bool.and_eq_true, decide_eq_true_eq] at h
  have h1 := most_le s.1
  have h2 := room_le s.1
  have h3 := least_le s.1
  have h4 : s.2 < room s.1 := h.2
  unfold times
  refine ⟨by omega, h.1, by omega⟩

end Go.Proofs.YtpinfihmageeoaaGreat.Rep

namespace Go.Proofs.YtpinfihmageeoaaGreat.Rep
open Go.RowKit


theorem bad_any (w : World) (c x : Nat) (hc : c < 256) (hx : x < 256) : Calls Tryz.prog 168 #[signV c x] w fun e w' => e = .returned (.bool (!fits (c, x))) ∧ Below w.heap.size w w' := by
  have hf := fun W => fits_any W c x hc hx
  generalize fits (c, x) = f at *
  have ha := below_alloc w (.cells #[.int .u8 (c : Int), .int .u8 (x : Int)] 202)
  go_enter Tryz.func168, Tryz.ntmps168
  go_wp2_with (go_at_call 169; refine (hf _).mono ?_; rintro e w1 ⟨rfl, hb⟩)
  go_ret
  exact ⟨rfl, ha.trans (hb.mono ha.size)⟩

theorem indexS_any (w : World) (v : Value) (L : List (Nat × Nat)) (h : SignRow w v L) (hl : L.length ≤ 140737488355328) :
    Calls Tryz.prog 175 #[v, .func (.func 168) #[] #[]] w fun e w' => (∃ i : Int, e = .returned (.int .i64 i) ∧ decide (0 ≤ i) = !L.all fits) ∧ Below w.heap.size w w' := by
  have hrow := fun W hB => h.below (B := w.heap.size) (w' := W) hB (Nat.le_refl _)
  obtain ⟨a, cap, rfl, hc, hmx, hn, hat⟩ := h
  obtain ⟨t, ht⟩ : ∃ t, (!L.all fits) = t := ⟨_, rfl⟩
  rw [ht]
  have HT := Lib.hid ht
  clear ht hat
  go_enter Tryz.func175, Tryz.ntmps175
  go_wp2
  go_loopw [5, 8] (fun _ i wr => ∃ k : Nat, k ≤ L.length ∧ i = .int .i64 (k : Int) ∧ (∀ j (hj : j < L.length), j < k → fits L[j] = true) ∧ Below w.heap.size w wr) (fun _ i _ => L.length - (intOf i).toNat)
  case atStart => exact ⟨0, Nat.zero_le _, rfl, fun j _ hj => absurd hj (Nat.not_lt_zero _), Below.refl _ _⟩
  case round =>
    obtain ⟨k, hk, rfl, hb, hB⟩ := hrel
    by_cases hlt : k < L.length
    · obtain ⟨a', cap', e1, _, _, _, hat⟩ := hrow _ hB
      obtain ⟨rfl, -, rfl⟩ := Value.slice.inj e1
      obtain ⟨⟨hy0, hy1⟩, b, off, rfl, c0, c1⟩ := hat k hlt
      obtain ⟨y0, y1, hy'⟩ : ∃ y0 y1, L[k] = (y0, y1) := ⟨_, _, rfl⟩
      rw [hy'] at c0 c1 hy0 hy1
      have HB := Lib.hid hb
      have HY := Lib.hid hy'
      clear hb hy' hat hrow e1
      have hba := fun W => bad_any W y0 y1 hy0 hy1
      have HF : ∃ f, fits (y0, y1) = f := ⟨_, rfl⟩
      obtain ⟨f, hf⟩ := HF
      rw [hf] at hba
      have HF := Lib.hid hf
      clear hf
      cases f with
      | false =>
        go_wp2_with (go_at_call 168; refine (hba _).mono ?_; rintro e w1 ⟨rfl, hb1⟩)
        go_ret
        refine ⟨⟨k, rfl, ?_⟩, hB.trans (hb1.mono hB.size)⟩
        rw [← HT.out]
        have e1 : L.all fits = false := by
          rw [List.all_eq_false]
          exact ⟨L[k], List.getElem_mem hlt, by rw [HY.out, HF.out]; simp⟩
        rw [e1]
        simp
      | true =>
        go_wp2_with (go_at_call 168; refine (hba _).mono ?_; rintro e w1 ⟨rfl, hb1⟩)
        go_roundw
        case rel =>
          refine ⟨k + 1, by omega, by go_num, fun j hj hjk => ?_, hB.trans (hb1.mono hB.size)⟩
          by_cases e : j = k
          · subst e
            rw [HY.out]
            exact HF.out
          · exact HB.out j hj (by omega)
        case measure => simp [intOf]; omega
    · obtain rfl : k = L.length := by omega
      have e1 : t = false := by
        rw [← HT.out]
        have : L.all fits = true := by
          rw [List.all_eq_true]
          intro x hx
          obtain ⟨i, hi, rfl⟩ := List.getElem_of_mem hx
          exact hb i hi hi
        rw [this]; rfl
      subst e1
      go_wp2
      go_ret
      exact ⟨⟨-1, rfl, rfl⟩, hB⟩

theorem containsS_any (w : World) (v : Value) (L : List (Nat × Nat)) (h : SignRow w v L) (hl : L.length ≤ 140737488355328) :
    Calls Tryz.prog 167 #[v, .func (.func 168) #[] #[]] w fun e w' => e = .returned (.bool (!L.all fits)) ∧ Below w.heap.size w w' := by
  have hi := indexS_any w v L h hl
  obtain ⟨t, ht⟩ : ∃ t, (!L.all fits) = t := ⟨_, rfl⟩
  rw [ht] at hi ⊢
  clear ht
  go_enter Tryz.func167, Tryz.ntmps167
  go_wp2_with (go_at_call 175; refine hi.mono ?_; rintro e w1 ⟨⟨i, rfl, hd⟩, hb⟩)
  go_ret
  exact ⟨rfl, hb⟩

end Go.Proofs.YtpinfihmageeoaaGreat.Rep

namespace Go.Proofs.YtpinfihmageeoaaGreat.Rep
open Go.RowKit

theorem say_drop (l : List (Nat × Nat)) (k : Nat) (out : List Nat) (h : say [] (l.take k) = some out) : say [] l = say out (l.drop k) := by
  have e : say [] (l.take k ++ l.drop k) = say out (l.drop k) := by rw [say_append, h]; rfl
  rwa [List.take_append_drop] at e

theorem say_next (l : List (Nat × Nat)) (k : Nat) (hk : k < l.length) (out : List Nat) (h : say [] (l.take k) = some out) (hn : ¬ (l[k].1 = 16 ∧ out = [])) :
    say [] (l.take (k + 1)) = some (out ++ List.replicate (times l[k]) (lengthOf l[k] out)) := by
  rw [List.take_succ_eq_append_getElem hk, say_append, h]
  show say out [l[k]] = _
  rw [say, if_neg hn, say]

theorem unErr_bad {l : List (Nat × Nat)} (h : l.all fits = false) (n : Int) : unErr l n = 5 ∧ unAns l n = [] := by
  unfold unErr unAns
  rw [if_pos h, if_pos h]
  exact ⟨rfl, rfl⟩

theorem unErr_none {l : List (Nat × Nat)} (hf : l.all fits = true) (n : Int) (k : Nat) (hk : k < l.length) (out : List Nat) (h : say [] (l.take k) = some out) (hn : l[k].1 = 16 ∧ out = []) : unErr l n = 2 ∧ unAns l n = [] := by
  have e : say [] l = none := by
    rw [say_drop l k out h, List.drop_eq_getElem_cons hk, say, if_pos hn]
  unfold unErr unAns
  rw [if_neg (by simp [hf]), if_neg (by simp [hf]), e]
  exact ⟨rfl, rfl⟩

theorem unErr_over {l : List (Nat × Nat)} (hf : l.all fits = true) (n : Int) (k : Nat) (hk : k < l.length) (out : List Nat) (h : say [] (l.take k) = some out) (hn : ¬ (l[k].1 = 16 ∧ out = [])) (ho : n < (out.length : Int) + (times l[k] : Int)) : unErr l n = 2 ∧ unAns l n = [] := by
  have e := say_drop l (k + 1) _ (say_next l k hk out h hn)
  unfold unErr unAns
  rw [if_neg (by simp [hf]), if_neg (by simp [hf])]
  cases ho2 : say [] l with
  | none => exact ⟨rfl, rfl⟩
  | some o =>
    rw [ho2] at e
    have := say_longer _ _ _ e.symm
    rw [List.length_append, List.length_replicate] at this
    have hne : ¬ (o.length : Int) = n := by omega
    simp [hne]

theorem unErr_end {l : List (Nat × Nat)} (hf : l.all fits = true) (n : Int) (out : List Nat) (h : say [] l = some out) : unErr l n = (if (out.length : Int) = n then 0 else 2) ∧ unAns l n = if (out.length : Int) = n then out else [] := by
  have hf' : ¬ l.all fits = false := by simp [hf]
  unfold unErr unAns
  rw [if_neg hf', if_neg hf', h]
  exact ⟨rfl, rfl⟩

theorem lengthOf_lt (s : Nat × Nat) (hs : s.1 < 256) (out : List Nat) (ho : ∀ x ∈ out, x < 256) : lengthOf s out < 256 := by
  unfold lengthOf
  split
  · rcases List.eq_nil_or_concat out with rfl | ⟨ys, y, rfl⟩
    · simp
    · rw [List.concat_eq_append] at ho ⊢
      simp
      exact ho y (by simp)
  · split <;> omega

def UnpackSt (B : Nat) (w0 : World) (r : List Thing) (l : List (Nat × Nat)) (n : Int) (e : Ending) (w' : World) : Prop :=
  ∃ v', e = .returned (.tuple #[v', .int .i64 (unErr l n : Int)]) ∧ St B w0 w' (rowT 5 1 v' (unAns l n).length (u8s (unAns l n)) :: r)

theorem UnpackSt.none {B : Nat} {w0 w : World} {r : List Thing} {l : List (Nat × Nat)} {n : Int} {k : Nat} (st : St B w0 w r) (h : unErr l n = k ∧ unAns l n = []) : UnpackSt B w0 r l n (.returned (.tuple #[.slice none 0 0, .int .i64 (k : Int)])) w := by
  refine ⟨_, by rw [h.1], ?_⟩
  rw [h.2]
  exact st.addNil

set_option maxRecDepth 100000 in
set_option maxHeartbeats 4000000 in
theorem unpack_st {B : Nat} {w0 w : World} {r : List Thing} (st : St B w0 w r) (v : Value) (l : List (Nat × Nat)) (h : ∀ W, St B w0 W r → SignRow W v l) (hl : l.length ≤ 100000) (n : Int) (hn0 : -9223372036854775808 ≤ n) (hn1 : n ≤ 9223372036854775807) :
    Calls Tryz.prog 157 #[v, .int .i64 n] w (UnpackSt B w0 r l n) := by
  have hcon := containsS_any w v l (h w st) (by omega)
  have hrow := h
  obtain ⟨a, cap, rfl, hc, hmx, hnn, -⟩ := h w st
  clear h
  cases hf : l.all fits with
  | false =>
    have hE := unErr_bad hf n
    rw [hf] at hcon
    have hE := fun W (s : St B w0 W r) => UnpackSt.none s hE
    clear hrow hc hmx hnn hn0 hn1 hf hl
    go_enter Tryz.func157, Tryz.ntmps157
    go_wp2_with (go_at_call 167; refine hcon.mono ?_; rintro e w1 ⟨rfl, hb⟩)
    go_ret2
    exact hE _ (st.quiet (by assumption))
  | true =>
    rw [hf] at hcon
    obtain ⟨i0, hi, hz0, hz1, hz2⟩ := info_parts info8
    go_enter Tryz.func157, Tryz.ntmps157
    go_wp2_with (go_at_call 167; refine hcon.mono ?_; rintro e w1 ⟨rfl, hb⟩)
    have s0 := (st.quiet hb).addNil (e := 5) (size := 1)
    clear st hcon hb
    go_loopw [6, 8, 13] (fun v _ i wr => ∃ (k : Nat) (out : List Nat), k ≤ l.length ∧ i = .int .i64 (k : Int) ∧ Hid (say [] (l.take k) = some out) ∧ Hid (out = [] ∨ (out.length : Int) ≤ n) ∧ out.length ≤ k * 138 ∧ Hid (∀ x ∈ out, x < 256) ∧ St B w0 wr (rowT 5 1 v out.length (u8s out) :: r)) (fun _ _ i _ => l.length - (intOf i).toNat)
    case atStart => exact ⟨0, [], Nat.zero_le _, rfl, Lib.hid rfl, Lib.hid (.inl rfl), Nat.zero_le _, Lib.hid (fun x hx => by cases hx), s0⟩
    case round =>
      clear s0
      obtain ⟨k, out, hk, rfl, hsay, hon, hol, hob, s1⟩ := hrel
      obtain ⟨va, vc, rfl⟩ := ownsRow_slice s1.row
      have HF := Lib.hid hf
      clear hf
      by_cases hlt : k < l.length
      · obtain ⟨a', cap', e1, _, _, _, hat⟩ := hrow _ s1.drop
        obtain ⟨rfl, -, rfl⟩ := Value.slice.inj e1
        obtain ⟨⟨hy0, hy1⟩, b, off, rfl, c0, c1⟩ := hat k hlt
        obtain ⟨c, x, hs⟩ : ∃ c x, l[k] = (c, x) := ⟨_, _, rfl⟩
        rw [hs] at c0 c1 hy0 hy1
        have hfit : fits (c, x) = true := by rw [← hs]; exact List.all_eq_true.1 HF.out _ (List.getElem_mem hlt)
        have HS := Lib.hid hs
        clear hs hat e1 hrow
        have s2 := s1.newBox #[.int .u8 (c : Int), .int .u8 (x : Int)] 202
        have f0 := (s2.boxAt 0).1
        have f1 := (s2.boxAt 1).1
        have hT := times_le' (c, x) hfit
        have hT1 := times_pos (c, x)
        have htm := fun W => times_any W c x hy0 hy1
        obtain ⟨T, hTe⟩ : ∃ T, times (c, x) = T := ⟨_, rfl⟩
        rw [hTe] at hT hT1 htm
        have HT := Lib.hid hTe
        obtain ⟨d, hd⟩ : ∃ d, n - (out.length : Int) = d := ⟨_, rfl⟩
        have hd1 : -9223372036854775808 ≤ d ∧ d ≤ 9223372036854775807 := by
          rcases hon.out with e | e
          · subst e; simp at hd; omega
          · omega
        obtain ⟨hd1, hd2⟩ := hd1
        have HD := Lib.hid hd
        by_cases hno : c = 16 ∧ out = []
        · have hE := unErr_none HF.out n k hlt out hsay.out (by rw [HS.out]; exact hno)
          have hE := fun W (s : St B w0 W r) => UnpackSt.none s hE
          obtain ⟨h16, rfl⟩ := hno
          have hcase : ((c : Int) == 16) = true := by subst h16; rfl
          clear h16 hd HD hTe HT f0 f1
          go_wp2
          go_ret2
          exact hE _ (s1.drop.alloc _)
        · have hne : c = 16 → out ≠ [] := fun e1 e2 => hno ⟨e1, e2⟩
          have hcase : ((c : Int) == 16) = false ∨ (((c : Int) == 16) = true ∧ ((out.length : Int) == 0) = false) := by
            by_cases c16 : c = 16
            · refine .inr ⟨by subst c16; rfl, ?_⟩
              have := List.length_pos_iff.2 (hne c16)
              exact beq_eq_false_iff_ne.2 (by omega)
            · exact .inl (beq_eq_false_iff_ne.2 (by omega))
          have HNO := Lib.hid hno
          have HNE := Lib.hid hne
          clear hTe hno hne
          by_cases hov : d < (T : Int)
          · have hE := unErr_over HF.out n k hlt out hsay.out (by rw [HS.out]; exact HNO.out) (by rw [HS.out, HT.out]; omega)
            have hE := fun W (s : St B w0 W r) => UnpackSt.none s hE
            rcases hcase with hcase | ⟨hcase, hpos⟩
            all_goals
              go_wp2_with (go_at_call 170; refine (htm _).mono ?_; rintro e w3 ⟨rfl, hb3⟩)
              go_ret2
              exact hE _ (s2.drop.drop.quiet (by assumption))
          · rcases hcase with hcase | ⟨hcase, hpos⟩
            all_goals
              go_wp2_with (go_at_call 170; refine (htm _).mono ?_; rintro e w3 ⟨rfl, hb3⟩)
              have s4 := (s2.quiet hb3).drew
              clear f0 f1 hb3 s1 s2
              obtain ⟨sb, hsb⟩ : ∃ sb, wr.heap.size = sb := ⟨_, rfl⟩
              rw [hsb] at s4 ⊢
              clear hsb c0 c1 hd
              refine region_seg (by kernel_rfl) [0, 2] 8 rfl (by kernel_rfl) (by kernel_rfl) (fun _ _ d _ _ h => by cases d <;> exact h) ?_
              generalize w3.drew = wd at *
              intro K hK
              simp only [pickL, List.getElem?_cons_zero, List.getElem?_cons_succ]
              go_wp2_with fail
              try clear hK K
              refine wpAny_of_held (S := fun W => W.cell? ⟨sb, 0, none⟩ = some (.int .u8 (c : Int)) ∧ W.cell? ⟨sb, 1, none⟩ = some (.int .u8 (x : Int))) _ _ _ _ ?_
              refine wpAnyH_take (i := 1) (v := signV c x) rfl (by kernel_rfl) (by kernel_rfl) (by kernel_rfl) (fun _ _ _ h => h) (.inl ⟨rfl, fun W hW => by obtain ⟨k0, k1⟩ := hW; go_simp⟩) ⟨(s4.boxAt 0).1, (s4.boxAt 1).1⟩ ?_
              refine wpAnyH_take (i := 5) (v := signV c x) rfl (by kernel_rfl) (by kernel_rfl) (by kernel_rfl) (fun _ _ _ h => h) (.inl ⟨rfl, fun W hW => by obtain ⟨k0, k1⟩ := hW; go_simp⟩) ⟨(s4.boxAt 0).1, (s4.boxAt 1).1⟩ ?_
              refine held_step (j := 3) _ (by kernel_rfl) rfl ?_
              intro N hN
              have hlen := length_any wd c x hy0 _ out (s4.swap.bytesRow hob.out) HNE.out (by omega)
              have hylt := lengthOf_lt (c, x) hy0 out hob.out
              obtain ⟨y, hy⟩ : ∃ y, lengthOf (c, x) out = y := ⟨_, rfl⟩
              rw [hy] at hlen hylt
              have HY := Lib.hid hy
              clear hy
              go_wp2_with (go_at_call 171; refine hlen.mono ?_; rintro e w5 ⟨rfl, hb5⟩)
              have s5 := s4.quiet hb5
              clear hb5 s4 hlen
              refine hN _ _ ⟨(s5.boxAt 0).1, (s5.boxAt 1).1⟩ ?_
              try clear hN N
              refine held_two (i := 4) (j := 6) _ _ (by kernel_rfl) rfl rfl ?_ ?_
              case' refine_1 =>
                intro N4 hN4
                go_wp2_with fail
                have s6 := s5.newBox #[.int .u8 (y : Int)] 5
                obtain ⟨yb, hyb⟩ : ∃ yb, w5.heap.size = yb := ⟨_, rfl⟩
                rw [hyb] at s6 ⊢
                generalize w5.alloc (.cells #[.int .u8 (y : Int)] 5) = w6 at *
                clear hyb s5
                refine hN4 _ _ ⟨(s6.swap.boxAt 0).1, (s6.swap.boxAt 1).1⟩ ?_
                try clear hN4 N4
                refine held_step (j := 6) _ (by kernel_rfl) rfl ?_
                intro N6 hN6
                go_wp2_with (go_at_call 170; refine (htm _).mono ?_; rintro e w8 ⟨rfl, hb8⟩)
                have s8 := s6.quiet hb8
                clear s6 hb8
                refine hN6 _ _ ⟨(s8.swap.boxAt 0).1, (s8.swap.boxAt 1).1⟩ ?_
                try clear hN6 N6
              case' refine_2 =>
                intro N6 hN6
                go_wp2_with (go_at_call 170; refine (htm _).mono ?_; rintro e w6 ⟨rfl, hb8⟩)
                have s6 := s5.quiet hb8
                clear s5 hb8
                refine hN6 _ _ ⟨(s6.boxAt 0).1, (s6.boxAt 1).1⟩ ?_
                try clear hN6 N6
                refine held_step (j := 4) _ (by kernel_rfl) rfl ?_
                intro N4 hN4
                go_wp2_with fail
                have s8 := s6.newBox #[.int .u8 (y : Int)] 5
                obtain ⟨yb, hyb⟩ : ∃ yb, w6.heap.size = yb := ⟨_, rfl⟩
                rw [hyb] at s8 ⊢
                generalize w6.alloc (.cells #[.int .u8 (y : Int)] 5) = w8 at *
                clear hyb s6
                refine hN4 _ _ ⟨(s8.swap.boxAt 0).1, (s8.swap.boxAt 1).1⟩ ?_
                try clear hN4 N4
              all_goals
                refine held_step (j := 7) _ (by kernel_rfl) rfl ?_
                intro N7 hN7
                have hsrc : ∀ j v, [Value.int .u8 (y : Int)][j]? = some v → w8.cell? ((⟨yb, 0, none⟩ : Addr).add j) = some v := fun j v hj => by
                  rw [add_none, Nat.zero_add, (s8.boxAt j).1]
                  simpa using hj
                go_wp2_with (go_at_call 135; refine (repeatB_st s8 yb 0 1 [.int .u8 (y : Int)] rfl (by simp [Value.oneCell']) hsrc T (by omega)).mono ?_; rintro e w9 ⟨v9, rfl, s9⟩)
                clear hsrc s8
                have s9 := s9.swap.drop
                refine hN7 _ _ ⟨(s9.swap.boxAt 0).1, (s9.swap.boxAt 1).1⟩ ?_
                try clear hN7 N7
                refine held_step (j := 8) _ (by kernel_rfl) rfl ?_
                intro N8 hN8
                obtain ⟨ya, yc, rfl⟩ := ownsRow_slice s9.row
                have s10 := s9.third
                refine wpList_append_row rfl _ _ 26 rfl 5 i0 (.int .u8 0) 1 Tryz.underlying26 hi hz0 hz1 hz2 rfl s10 rfl rfl (rep_one T _ (by simp [Value.oneCell'])) (by unfold maxLen; omega) (by omega) ?_
                intro v11 w11 s11
                clear s9 s10
                have s12 := s11.swap.drop.swap
                refine hN8 _ _ ⟨(s12.boxAt 0).1, (s12.boxAt 1).1⟩ ?_
                try clear hN8 N8
                refine held_step (j := 9) _ (by kernel_rfl) rfl ?_
                intro N9 hN9
                go_wp2_with fail
                refine hN9 _ _ ⟨(s12.boxAt 0).1, (s12.boxAt 1).1⟩ ?_
                try clear hN9 N9
                refine wpAnyH_done (by kernel_rfl) ?_ 0
                go_wp2
                go_roundw
                case rel =>
                  refine ⟨k + 1, out ++ List.replicate T y, by omega, by go_num, ?_, ?_, ?_, ?_, ?_⟩
                  · have := say_next l k hlt out hsay.out (by rw [HS.out]; exact HNO.out)
                    rw [HS.out, HT.out, HY.out] at this
                    exact Lib.hid this
                  · refine Lib.hid (.inr ?_)
                    have := HD.out
                    rw [List.length_append, List.length_replicate]
                    omega
                  · rw [List.length_append, List.length_replicate]
                    omega
                  · refine Lib.hid fun z hz => ?_
                    rcases List.mem_append.1 hz with hz | hz
                    · exact hob.out z hz
                    · rw [(List.mem_replicate.1 hz).2]; exact hylt
                  · have s13 := s12.drop
                    rw [← rep_u8s, ← u8s_append] at s13
                    rw [List.length_append, List.length_replicate]
                    exact s13
                case measure => simp [intOf]; omega
      · obtain rfl : k = l.length := by omega
        have hE := unErr_end HF.out n out (by have := hsay.out; rwa [List.take_length] at this)
        clear hrow
        by_cases hn : (out.length : Int) = n
        · rw [if_pos hn, if_pos hn] at hE
          have HE := Lib.hid hE
          clear hE
          go_wp2
          go_ret2
          refine ⟨_, by rw [HE.out.1]; rfl, ?_⟩
          rw [HE.out.2]
          exact s1
        · rw [if_neg hn, if_neg hn] at hE
          have hE := UnpackSt.none s1.drop hE
          go_wp2
          go_ret2
          exact hE

end Go.Proofs.YtpinfihmageeoaaGreat.Rep

namespace Go.Proofs.YtpinfihmageeoaaGreat.Rep
open Go.RowKit

theorem infoSign : (Tryz.prog.info? 202).map (fun i => (i.zero, i.size, i.bytes)) = some (some (.agg #[.int .u8 0, .int .u8 0]), 2, 2) := by kernel_rfl

theorem made_signs (m : Nat) : (madeCells #[Value.int .u8 0, Value.int .u8 0] (m * 2)).toList = rep m [.int .u8 0, .int .u8 0] := by
  have e1 : rep m [Value.int .u8 0, Value.int .u8 0] = List.replicate (m * 2) (.int .u8 0) := by
    induction m with
    | zero => rfl
    | succ m ih =>
      rw [Nat.add_comm m 1, rep_add, ih, Nat.add_mul, ← List.replicate_append_replicate]
      rfl
  rw [e1]
  apply List.ext_getElem?
  intro j
  unfold madeCells
  by_cases h : j < m * 2
  · have h2 : j % 2 = 0 ∨ j % 2 = 1 := by omega
    rcases h2 with h2 | h2 <;> simp [h, h2]
  · simp [h]

end Go.Proofs.YtpinfihmageeoaaGreat.Rep
