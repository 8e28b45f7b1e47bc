/-
  Plain facts for stage 7: lengths as signs, and what signs say. No program. No conditions.
-/
import Derived.Test.YthmkkbaenccgiaaBits
namespace Go.Proofs.Ythmkkbaenccgiaa.Rep

/-- The signs of n lengths 0. -/
def zeros (n : Nat) : List (Nat × Nat) :=
  if 138 ≤ n then (18, 127) :: zeros (n - 138) else if 11 ≤ n then [(18, n - 11)] else if 3 ≤ n then [(17, n - 3)] else List.replicate n (0, 0)
termination_by n
decreasing_by omega

/-- The signs of n lengths k more, behind one. -/
def others (k n : Nat) : List (Nat × Nat) :=
  if 6 ≤ n then (16, 3) :: others k (n - 6) else if 3 ≤ n then [(16, n - 3)] else List.replicate n (k, 0)
termination_by n
decreasing_by omega

/-- The signs of a run. -/
def signs (k n : Nat) : List (Nat × Nat) := if k = 0 then zeros n else (k, 0) :: others k (n - 1)

/-- How many k stand at the front. -/
def lead (k : Nat) : List Nat → Nat
  | [] => 0
  | a :: r => if a = k then lead k r + 1 else 0

theorem lead_le (k : Nat) : ∀ L : List Nat, lead k L ≤ L.length
  | [] => Nat.le_refl _
  | a :: r => by
    have := lead_le k r
    unfold lead
    split
    · simp; omega
    · exact Nat.zero_le _

/-- The signs of lengths, run by run. -/
def pack : List Nat → List (Nat × Nat)
  | [] => []
  | k :: t => signs k (lead k t + 1) ++ pack (t.drop (lead k t))
termination_by L => L.length

theorem lead_run (k : Nat) (r : List Nat) (hr : r.head? ≠ some k) : ∀ n : Nat, lead k (List.replicate n k ++ r) = n
  | 0 => by
    cases r with
    | nil => rfl
    | cons a r =>
      have : a ≠ k := fun e => hr (by rw [e]; rfl)
      simp [lead, this]
  | n + 1 => by
    rw [List.replicate_succ, List.cons_append, lead, if_pos rfl, lead_run k r hr n]

theorem pack_run (k n : Nat) (r : List Nat) (hr : r.head? ≠ some k) : pack (List.replicate (n + 1) k ++ r) = signs k (n + 1) ++ pack r := by
  rw [List.replicate_succ, List.cons_append, pack, lead_run k r hr n]
  congr 2
  rw [List.drop_append]
  simp

theorem drop_run (L : List Nat) (k : Nat) : ∀ n i : Nat, i + n ≤ L.length → (∀ m (h : m < L.length), i ≤ m → m < i + n → L[m] = k) → L.drop i = List.replicate n k ++ L.drop (i + n)
  | 0, i, _, _ => by simp
  | n + 1, i, hi, h => by
    have h1 : i < L.length := by omega
    rw [List.drop_eq_getElem_cons h1, h i h1 (Nat.le_refl _) (by omega), List.replicate_succ, List.cons_append, drop_run L k n (i + 1) (by omega) (fun m hm a b => h m hm (by omega) (by omega)), show i + 1 + n = i + (n + 1) from by omega]

/-- One run of a row, from place i up to place j. -/
theorem pack_from (L : List Nat) (i j k : Nat) (hij : i < j) (hj : j ≤ L.length) (h : ∀ m (h : m < L.length), i ≤ m → m < j → L[m] = k) (he : ∀ h : j < L.length, L[j] ≠ k) :
    pack (L.drop i) = signs k (j - i) ++ pack (L.drop j) := by
  have e := drop_run L k (j - i) i (by omega) (fun m hm a b => h m hm a (by omega))
  rw [show i + (j - i) = j from by omega] at e
  rw [e]
  obtain ⟨n, hn⟩ : ∃ n, j - i = n + 1 := ⟨j - i - 1, by omega⟩
  rw [hn]
  refine pack_run k n _ ?_
  rw [List.head?_drop]
  intro c
  obtain ⟨h1, h2⟩ := List.getElem?_eq_some_iff.1 c
  exact he h1 h2

theorem zeros_step (n : Nat) (hn : 11 ≤ n) : zeros n = (18, min n 138 - 11) :: zeros (n - min n 138) := by
  by_cases c : 138 ≤ n
  · rw [zeros, if_pos c, Nat.min_eq_right c]
  · rw [zeros, if_neg c, if_pos hn, Nat.min_eq_left (by omega), Nat.sub_self]
    rw [zeros]; simp

theorem zeros_few (n : Nat) (hn : 3 ≤ n) (h : n < 11) : zeros n = (17, min n 10 - 3) :: zeros (n - min n 10) := by
  rw [zeros, if_neg (by omega), if_neg (by omega), if_pos hn, Nat.min_eq_left (by omega), Nat.sub_self]
  rw [zeros]; simp

theorem zeros_end (n : Nat) (hn : n < 3) : zeros n = List.replicate n (0, 0) := by
  rw [zeros, if_neg (by omega), if_neg (by omega), if_neg (by omega)]

theorem others_step (k n : Nat) (hn : 3 ≤ n) : others k n = (16, min n 6 - 3) :: others k (n - min n 6) := by
  by_cases c : 6 ≤ n
  · rw [others, if_pos c, Nat.min_eq_right c]
  · rw [others, if_neg c, if_pos hn, Nat.min_eq_left (by omega), Nat.sub_self]
    rw [others]; simp

theorem others_end (k n : Nat) (hn : n < 3) : others k n = List.replicate n (k, 0) := by
  rw [others, if_neg (by omega), if_neg (by omega)]

/-- How many bits the extra of a code has. -/
def bitsOf' (c : Nat) : Nat := if c = 16 then 2 else if c = 17 then 3 else if c = 18 then 7 else 0
/-- How many lengths a sign of a code says at least. -/
def least (c : Nat) : Nat := if c = 16 ∨ c = 17 then 3 else if c = 18 then 11 else 1
def most (c : Nat) : Nat := least c + 2 ^ bitsOf' c - 1
/-- Whether a sign may be. -/
def fits (s : Nat × Nat) : Bool := decide (s.1 ≤ 18) && decide (s.2 < 2 ^ bitsOf' s.1)
def times (s : Nat × Nat) : Nat := least s.1 + s.2
/-- Which length a sign says behind these. -/
def lengthOf (s : Nat × Nat) (out : List Nat) : Nat := if s.1 = 16 then out.getLastD 0 else if s.1 = 17 ∨ s.1 = 18 then 0 else s.1

theorem times_pos (s : Nat × Nat) : 0 < times s := by
  unfold times least
  split
  · omega
  · split <;> omega

theorem least_le (c : Nat) : 1 ≤ least c ∧ least c ≤ 11 := by
  unfold least
  split
  · omega
  · split <;> omega

theorem most_le (c : Nat) : least c ≤ most c ∧ most c ≤ least c + 127 := by
  have : 1 ≤ 2 ^ bitsOf' c ∧ 2 ^ bitsOf' c ≤ 128 := by
    unfold bitsOf'
    split
    · decide
    · split
      · decide
      · split <;> decide
  unfold most
  omega

/-- What signs say, behind these lengths. -/
def say (out : List Nat) : List (Nat × Nat) → Option (List Nat)
  | [] => some out
  | s :: r => if s.1 = 16 ∧ out = [] then none else say (out ++ List.replicate (times s) (lengthOf s out)) r

theorem say_longer : ∀ (l : List (Nat × Nat)) (out o : List Nat), say out l = some o → out.length + l.length ≤ o.length
  | [], out, o, h => by
    obtain rfl := Option.some.inj h
    simp
  | s :: r, out, o, h => by
    unfold say at h
    split at h
    · cases h
    · have := say_longer r _ o h
      have := times_pos s
      simp at *
      omega

/-- The answer's error. -/
def unErr (l : List (Nat × Nat)) (n : Int) : Nat := if l.all fits = false then 5 else match say [] l with
  | none => 2
  | some o => if (o.length : Int) = n then 0 else 2

/-- The answer's lengths. -/
def unAns (l : List (Nat × Nat)) (n : Int) : List Nat := if l.all fits = false then [] else match say [] l with
  | none => []
  | some o => if (o.length : Int) = n then o else []

theorem say_append : ∀ (l m : List (Nat × Nat)) (out : List Nat), say out (l ++ m) = (say out l).bind fun o => say o m
  | [], m, out => rfl
  | s :: r, m, out => by
    rw [List.cons_append, say, say]
    split
    · rfl
    · exact say_append r m _

theorem say_singles (k : Nat) (hk : k < 16) : ∀ (n : Nat) (out : List Nat), say out (List.replicate n (k, 0)) = some (out ++ List.replicate n k)
  | 0, out => by simp [say]
  | n + 1, out => by
    rw [List.replicate_succ, say, if_neg (by simp; omega)]
    have e1 : times (k, 0) = 1 := by
      unfold times least
      simp
      rw [if_neg (by omega), if_neg (by omega)]
    have e2 : lengthOf (k, 0) out = k := by
      unfold lengthOf
      simp
      rw [if_neg (by omega), if_neg (by omega)]
    rw [e1, e2, say_singles k hk n]
    simp [List.replicate_succ]

theorem say_zeros (n : Nat) : ∀ out : List Nat, say out (zeros n) = some (out ++ List.replicate n 0) := by
  induction n using Nat.strongRecOn with
  | ind n ih =>
    intro out
    by_cases c : 138 ≤ n
    · rw [zeros, if_pos c, say, if_neg (by simp), ih (n - 138) (by omega)]
      have e1 : times (18, 127) = 138 := by decide
      have e2 : lengthOf (18, 127) out = 0 := rfl
      rw [e1, e2, List.append_assoc, List.replicate_append_replicate, show 138 + (n - 138) = n from by omega]
    · by_cases d : 11 ≤ n
      · rw [zeros, if_neg c, if_pos d, say, if_neg (by simp), say]
        have e1 : times (18, n - 11) = n := by unfold times least; simp; omega
        have e2 : lengthOf (18, n - 11) out = 0 := rfl
        rw [e1, e2]
      · by_cases f : 3 ≤ n
        · rw [zeros, if_neg c, if_neg d, if_pos f, say, if_neg (by simp), say]
          have e1 : times (17, n - 3) = n := by unfold times least; simp; omega
          have e2 : lengthOf (17, n - 3) out = 0 := rfl
          rw [e1, e2]
        · rw [zeros_end n (by omega), say_singles 0 (by omega)]

theorem say_others (k : Nat) (hk : k < 16) (n : Nat) : ∀ out : List Nat, out.getLast? = some k → say out (others k n) = some (out ++ List.replicate n k) := by
  induction n using Nat.strongRecOn with
  | ind n ih =>
    intro out ho
    have hne : out ≠ [] := fun e => by rw [e] at ho; cases ho
    have hl : out.getLastD 0 = k := by rw [List.getLastD_eq_getLast?, ho]; rfl
    by_cases c : 6 ≤ n
    · rw [others, if_pos c, say, if_neg (by simp [hne])]
      have e1 : times (16, 3) = 6 := by decide
      have e2 : lengthOf (16, 3) out = k := by unfold lengthOf; simpa using hl
      rw [e1, e2, ih (n - 6) (by omega) _ (by simp [List.getLast?_append]), List.append_assoc, List.replicate_append_replicate, show 6 + (n - 6) = n from by omega]
    · by_cases d : 3 ≤ n
      · rw [others, if_neg c, if_pos d, say, if_neg (by simp [hne]), say]
        have e1 : times (16, n - 3) = n := by unfold times least; simp; omega
        have e2 : lengthOf (16, n - 3) out = k := by unfold lengthOf; simpa using hl
        rw [e1, e2]
      · rw [others_end k n (by omega), say_singles k hk]

theorem say_signs (k : Nat) (hk : k < 16) (n : Nat) (hn : 0 < n) (out : List Nat) : say out (signs k n) = some (out ++ List.replicate n k) := by
  unfold signs
  by_cases c : k = 0
  · subst c
    rw [if_pos rfl, say_zeros]
  · rw [if_neg c, say, if_neg (by simp; omega)]
    have e1 : times (k, 0) = 1 := by
      unfold times least
      simp
      rw [if_neg (by omega), if_neg (by omega)]
    have e2 : lengthOf (k, 0) out = k := by
      unfold lengthOf
      simp
      rw [if_neg (by omega), if_neg (by omega)]
    rw [e1, e2, say_others k hk _ _ (by simp)]
    obtain ⟨m, rfl⟩ : ∃ m, n = m + 1 := ⟨n - 1, by omega⟩
    simp [List.replicate_succ]

theorem run_front (k : Nat) : ∀ t : List Nat, t = List.replicate (lead k t) k ++ t.drop (lead k t)
  | [] => rfl
  | a :: r => by
    unfold lead
    split
    · next h =>
      subst h
      rw [List.replicate_succ, List.cons_append, List.drop_succ_cons]
      exact congrArg _ (run_front a r)
    · rfl

theorem say_pack : ∀ (m : Nat) (L : List Nat), L.length ≤ m → (∀ x ∈ L, x < 16) → ∀ out : List Nat, say out (pack L) = some (out ++ L)
  | m, [], _, _, out => by rw [pack]; simp [say]
  | 0, k :: t, h, _, _ => by simp at h
  | m + 1, k :: t, h, hL, out => by
    have h1 := lead_le k t
    simp at h
    rw [pack, say_append, say_signs k (hL k (by simp)) _ (by omega)]
    show say _ _ = _
    rw [say_pack m (t.drop (lead k t)) (by simp; omega) (fun x hx => hL x (by simp; exact .inr (List.mem_of_mem_drop hx)))]
    congr 1
    rw [List.append_assoc]
    congr 1
    rw [List.replicate_succ, List.cons_append, ← run_front]

theorem say_back (L : List Nat) (hL : ∀ x ∈ L, x < 16) : say [] (pack L) = some L := by
  have := say_pack L.length L (Nat.le_refl _) hL []
  simpa using this

theorem fits_zeros (n : Nat) : (zeros n).all fits = true := by
  induction n using Nat.strongRecOn with
  | ind n ih =>
    by_cases c : 138 ≤ n
    · rw [zeros, if_pos c, List.all_cons, ih (n - 138) (by omega)]; decide
    · by_cases d : 11 ≤ n
      · rw [zeros, if_neg c, if_pos d]; simp [fits, bitsOf']; omega
      · by_cases f : 3 ≤ n
        · rw [zeros, if_neg c, if_neg d, if_pos f]; simp [fits, bitsOf']; omega
        · rw [zeros_end n (by omega)]; simp [fits, bitsOf']

theorem fits_one (k : Nat) (hk : k < 16) : fits (k, 0) = true := by
  have : 0 < 2 ^ bitsOf' k := Nat.two_pow_pos _
  simp [fits]; omega

theorem fits_others (k : Nat) (hk : k < 16) (n : Nat) : (others k n).all fits = true := by
  induction n using Nat.strongRecOn with
  | ind n ih =>
    by_cases c : 6 ≤ n
    · rw [others, if_pos c, List.all_cons, ih (n - 6) (by omega)]; decide
    · by_cases d : 3 ≤ n
      · rw [others, if_neg c, if_pos d]; simp [fits, bitsOf']; omega
      · rw [others_end k n (by omega)]; simp [fits_one k hk]

theorem fits_signs (k : Nat) (hk : k < 16) (n : Nat) : (signs k n).all fits = true := by
  unfold signs
  split
  · exact fits_zeros n
  · rw [List.all_cons, fits_one k hk, fits_others k hk]; rfl

theorem fits_pack : ∀ (m : Nat) (L : List Nat), L.length ≤ m → (∀ x ∈ L, x < 16) → (pack L).all fits = true
  | m, [], _, _ => by rw [pack]; rfl
  | 0, k :: t, h, _ => by simp at h
  | m + 1, k :: t, h, hL => by
    simp at h
    rw [pack, List.all_append, fits_signs k (hL k (by simp)), fits_pack m (t.drop (lead k t)) (by simp; omega) (fun x hx => hL x (by simp; exact .inr (List.mem_of_mem_drop hx)))]
    rfl

theorem zeros_length (n : Nat) : (zeros n).length ≤ n ∧ (zeros n).length ≤ n / 138 + 2 := by
  induction n using Nat.strongRecOn with
  | ind n ih =>
    by_cases c : 138 ≤ n
    · have := ih (n - 138) (by omega)
      rw [zeros, if_pos c, List.length_cons]; omega
    · by_cases d : 11 ≤ n
      · rw [zeros, if_neg c, if_pos d]; simp; omega
      · by_cases f : 3 ≤ n
        · rw [zeros, if_neg c, if_neg d, if_pos f]; simp; omega
        · rw [zeros_end n (by omega)]; simp; omega

theorem others_length (k n : Nat) : (others k n).length ≤ n ∧ (others k n).length ≤ n / 6 + 2 := by
  induction n using Nat.strongRecOn with
  | ind n ih =>
    by_cases c : 6 ≤ n
    · have := ih (n - 6) (by omega)
      rw [others, if_pos c, List.length_cons]; omega
    · by_cases d : 3 ≤ n
      · rw [others, if_neg c, if_pos d]; simp; omega
      · rw [others_end k n (by omega)]; simp; omega

theorem signs_length (k n : Nat) (hn : 0 < n) : (signs k n).length ≤ n ∧ (signs k n).length ≤ if k = 0 then n / 138 + 2 else n / 6 + 3 := by
  unfold signs
  split
  · exact zeros_length n
  · have := others_length k (n - 1)
    rw [List.length_cons]
    omega

theorem pack_length : ∀ (m : Nat) (L : List Nat), L.length ≤ m → (pack L).length ≤ L.length
  | m, [], _ => by rw [pack]; exact Nat.le_refl _
  | 0, k :: t, h => by simp at h
  | m + 1, k :: t, h => by
    simp at h
    have h1 := lead_le k t
    have h2 := pack_length m (t.drop (lead k t)) (by simp; omega)
    have h3 := (signs_length k (lead k t + 1) (by omega)).1
    rw [pack, List.length_append]
    simp at h2 ⊢
    omega

/-- One run's signs are as few as its kind allows. -/
theorem pack_one (k n : Nat) : (pack (List.replicate n k)).length ≤ if k = 0 then n / 138 + 2 else n / 6 + 3 := by
  cases n with
  | zero => simp [pack]
  | succ n =>
    have e := pack_run k n [] (by simp)
    rw [List.append_nil] at e
    have h := (signs_length k (n + 1) (by omega)).2
    rw [e, pack, List.append_nil]
    exact h

end Go.Proofs.Ythmkkbaenccgiaa.Rep
