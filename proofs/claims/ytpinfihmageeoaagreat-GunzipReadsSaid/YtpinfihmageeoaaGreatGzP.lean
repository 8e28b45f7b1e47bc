/-
  Plain facts about gzip files as rows of numbers: what they say. No program. No conditions.
-/
import Derived.Test.YtpinfihmageeoaaGreatGO
import Derived.Test.YtpinfihmageeoaaGreatGU
namespace Go.Proofs.YtpinfihmageeoaaGreat.Gu
open Kraft Hd Inf Fr

/-- What is read of a head is read with more behind it. -/
theorem get_more {xs : List Nat} (hb : ∀ x ∈ xs, x < 256) {s : Rs} (h : Fr.get xs = some s) (ys : List Nat) : Fr.get (xs ++ ys) = some s := by
  obtain ⟨h1, h2, h3, h4, h5⟩ := got hb h
  obtain ⟨p, g, wr⟩ := s
  simp only at h1 h2 h3 h4 h5
  cases hs : g.sum with
  | false =>
    obtain ⟨e1, e2⟩ := h4 hs
    have e3 := get_plain h2 h1 hs (xs.drop p ++ ys)
    rw [← e2, ← List.append_assoc, List.take_append_drop, List.length_take, Nat.min_eq_left h3] at e3
    rw [e3, e1]
  | true =>
    obtain ⟨e1, e2, e3⟩ := h5 hs
    have hl : (laid g 8).length + 2 ≤ xs.length := by omega
    have e4 := get_sum h2 h1 hs (sl xs (laid g 8).length 2) (xs.drop p ++ ys) (sl_length hl)
    rw [← List.append_assoc, ← e2, ← List.append_assoc, List.take_append_drop, ← e1, ← e3] at e4
    exact e4

/-- A member: how many bytes it has, what it says, whether its head's sum is another one, whether its tail is. -/
structure Mem where
  used : Nat
  out : List Nat
  head : Bool
  tail : Bool

/-- The member with which bytes begin. -/
def memAt (xs : List Nat) : Option Mem :=
  (Fr.get xs).bind fun s => (infl (xs.drop s.p)).bind fun y =>
    if xs.length < s.p + used y.1 + 8 then none else some ⟨s.p + used y.1 + 8, y.2, s.wrong, decide (tailOf y.2 ≠ sl xs (s.p + used y.1) 8)⟩

theorem memAt_head {xs : List Nat} (h : Fr.get xs = none) : memAt xs = none := by unfold memAt; rw [h]; rfl
theorem memAt_stream {xs : List Nat} {s : Rs} (h : Fr.get xs = some s) (hi : infl (xs.drop s.p) = none) : memAt xs = none := by unfold memAt; rw [h, Option.bind_some, hi]; rfl
theorem memAt_short {xs : List Nat} {s : Rs} {q : Nat} {o : List Nat} (h : Fr.get xs = some s) (hi : infl (xs.drop s.p) = some (q, o)) (hl : xs.length < s.p + used q + 8) : memAt xs = none := by
  unfold memAt
  rw [h, Option.bind_some, hi, Option.bind_some, if_pos hl]
theorem memAt_yes {xs : List Nat} {s : Rs} {q : Nat} {o : List Nat} (h : Fr.get xs = some s) (hi : infl (xs.drop s.p) = some (q, o)) (hl : s.p + used q + 8 ≤ xs.length) :
    memAt xs = some ⟨s.p + used q + 8, o, s.wrong, decide (tailOf o ≠ sl xs (s.p + used q) 8)⟩ := by
  unfold memAt
  rw [h, Option.bind_some, hi, Option.bind_some, if_neg (by simp only; omega)]

theorem memAt_of {xs : List Nat} {m : Mem} (h : memAt xs = some m) : ∃ s q, Fr.get xs = some s ∧ infl (xs.drop s.p) = some (q, m.out) ∧ s.p + used q + 8 ≤ xs.length ∧ m = ⟨s.p + used q + 8, m.out, s.wrong, decide (tailOf m.out ≠ sl xs (s.p + used q) 8)⟩ := by
  cases hg : Fr.get xs with
  | none => rw [memAt_head hg] at h; cases h
  | some s =>
    cases hi : infl (xs.drop s.p) with
    | none => rw [memAt_stream hg hi] at h; cases h
    | some y =>
      obtain ⟨q, o⟩ := y
      by_cases hl : s.p + used q + 8 ≤ xs.length
      · rw [memAt_yes hg hi hl] at h
        obtain rfl := Option.some.inj h
        exact ⟨s, q, rfl, hi, hl, rfl⟩
      · rw [memAt_short hg hi (by omega)] at h; cases h

theorem memAt_some {xs : List Nat} {m : Mem} (h : memAt xs = some m) : 8 ≤ m.used ∧ m.used ≤ xs.length := by
  obtain ⟨s, q, _, _, hl, e⟩ := memAt_of h
  rw [e]
  exact ⟨by simp only; omega, hl⟩

theorem memAt_byte {xs : List Nat} {m : Mem} (h : memAt xs = some m) : ∀ x ∈ m.out, x < 256 := by
  obtain ⟨s, q, _, hi, _, _⟩ := memAt_of h
  exact infl_byte hi

theorem memAt_more {xs : List Nat} (hb : ∀ x ∈ xs, x < 256) {m : Mem} (h : memAt xs = some m) (ys : List Nat) : memAt (xs ++ ys) = some m := by
  obtain ⟨s, q, hg, hi, hl, e⟩ := memAt_of h
  have h1 := get_more hb hg ys
  have h2 : infl ((xs ++ ys).drop s.p) = some (q, m.out) := by
    rw [List.drop_append_of_le_length (by omega)]
    have h3 := (infl_some hi).2.1
    have := infl_behind hi (xs.drop s.p).length h3 ys
    rwa [List.take_length] at this
  rw [memAt_yes h1 h2 (by rw [List.length_append]; omega)]
  have h4 : sl (xs ++ ys) (s.p + used q) 8 = sl xs (s.p + used q) 8 := by
    unfold sl
    rw [List.drop_append_of_le_length (by omega), List.take_append_of_le_length (by rw [List.length_drop]; omega)]
  rw [h4]
  exact congrArg some e.symm

/-- The members, as far as there are any. -/
def goods (xs : List Nat) : List Mem :=
  match _h : memAt xs with
  | none => []
  | some m => m :: goods (xs.drop m.used)
termination_by xs.length
decreasing_by
  have := memAt_some _h
  rw [List.length_drop]
  omega

theorem goods_none {xs : List Nat} (h : memAt xs = none) : goods xs = [] := by
  rw [goods]
  split
  · rfl
  · rename_i m h2; rw [h] at h2; cases h2
theorem goods_some {xs : List Nat} {m : Mem} (h : memAt xs = some m) : goods xs = m :: goods (xs.drop m.used) := by
  rw [goods]
  split
  · rename_i h2; rw [h] at h2; cases h2
  · rename_i m2 h2
    rw [h] at h2
    obtain rfl := Option.some.inj h2
    rfl
theorem goods_nil : goods [] = [] := by
  refine goods_none ?_
  cases h : memAt [] with
  | none => rfl
  | some m => have := memAt_some h; simp at this; omega

def total (ms : List Mem) : Nat := (ms.map Mem.used).sum
def outs (ms : List Mem) : List Nat := ms.flatMap Mem.out
def wrongs : Nat → List Mem → Bool
  | _, [] => false
  | k, m :: ms => (m.head || (decide (m.out.length ≤ k) && m.tail)) || wrongs (k - m.out.length) ms

theorem total_cons (m : Mem) (ms : List Mem) : total (m :: ms) = m.used + total ms := by simp [total]
theorem total_app (ms ns : List Mem) : total (ms ++ ns) = total ms + total ns := by simp [total]
theorem outs_cons (m : Mem) (ms : List Mem) : outs (m :: ms) = m.out ++ outs ms := by simp [outs]
theorem outs_app (ms ns : List Mem) : outs (ms ++ ns) = outs ms ++ outs ns := by simp [outs]

theorem wrongs_app : ∀ (ms ns : List Mem) (k : Nat), wrongs k (ms ++ ns) = (wrongs k ms || wrongs (k - (outs ms).length) ns)
  | [], ns, k => by simp [wrongs, outs]
  | m :: ms, ns, k => by
    rw [List.cons_append, wrongs, wrongs_app ms ns, wrongs, outs_cons, List.length_append, Nat.sub_add_eq, Bool.or_assoc, Bool.or_assoc, Bool.or_assoc]

theorem wrongs_all : ∀ (ms : List Mem) (k : Nat), (outs ms).length ≤ k → wrongs k ms = ms.any fun m => m.head || m.tail
  | [], _, _ => rfl
  | m :: ms, k, h => by
    rw [outs_cons, List.length_append] at h
    rw [wrongs, wrongs_all ms _ (by omega), List.any_cons, decide_eq_true (by omega), Bool.true_and]

theorem total_le : ∀ (n : Nat) (xs : List Nat), xs.length ≤ n → total (goods xs) ≤ xs.length
  | n, xs, hn => by
    cases h : memAt xs with
    | none => rw [goods_none h]; simp [total]
    | some m =>
      have h1 := memAt_some h
      rw [goods_some h, total_cons]
      cases n with
      | zero => omega
      | succ n =>
        have := total_le n (xs.drop m.used) (by rw [List.length_drop]; omega)
        rw [List.length_drop] at this
        omega

/-- Behind so many members. -/
theorem goods_at : ∀ (k : Nat) (xs : List Nat), k ≤ (goods xs).length → total ((goods xs).take k) ≤ xs.length ∧ goods (xs.drop (total ((goods xs).take k))) = (goods xs).drop k
  | 0, xs, _ => by simp [total]
  | k + 1, xs, hk => by
    cases h : memAt xs with
    | none => rw [goods_none h] at hk; simp at hk
    | some m =>
      have h1 := memAt_some h
      rw [goods_some h] at hk ⊢
      simp only [List.length_cons] at hk
      obtain ⟨e1, e2⟩ := goods_at k (xs.drop m.used) (by omega)
      rw [List.length_drop] at e1
      rw [List.take_succ_cons, total_cons, List.drop_succ_cons, ← e2, List.drop_drop]
      exact ⟨by omega, rfl⟩

theorem goods_byte : ∀ (n : Nat) (xs : List Nat), xs.length ≤ n → ∀ m ∈ goods xs, ∀ x ∈ m.out, x < 256
  | n, xs, hn, m, hm => by
    cases h : memAt xs with
    | none => rw [goods_none h] at hm; cases hm
    | some m2 =>
      have h1 := memAt_some h
      rw [goods_some h] at hm
      rcases List.mem_cons.1 hm with rfl | hm
      · exact memAt_byte h
      · cases n with
        | zero => omega
        | succ n => exact goods_byte n (xs.drop m2.used) (by rw [List.length_drop]; omega) m hm

theorem outs_byte (xs : List Nat) : ∀ x ∈ outs (goods xs), x < 256 := by
  intro x hx
  obtain ⟨m, hm, hx⟩ := List.mem_flatMap.1 hx
  exact goods_byte _ xs (Nat.le_refl _) m hm x hx

theorem goods_app : ∀ (n : Nat) (xs ys : List Nat), xs.length ≤ n → (∀ x ∈ xs, x < 256) → total (goods xs) = xs.length → goods (xs ++ ys) = goods xs ++ goods ys
  | n, xs, ys, hn, hb, ht => by
    cases h : memAt xs with
    | none =>
      rw [goods_none h] at ht ⊢
      have : xs = [] := List.length_eq_zero_iff.1 (by simpa [total] using ht.symm)
      subst this
      rfl
    | some m =>
      have h1 := memAt_some h
      rw [goods_some h, total_cons] at ht
      rw [goods_some (memAt_more hb h ys), goods_some h, List.drop_append_of_le_length h1.2]
      cases n with
      | zero => omega
      | succ n =>
        rw [goods_app n (xs.drop m.used) ys (by rw [List.length_drop]; omega) (fun x hx => hb x (List.mem_of_mem_drop hx)) (by rw [List.length_drop]; omega)]
        rfl

/-- What a file's members are, if it is one. -/
def file (xs : List Nat) : Option (List Mem) := if total (goods xs) = xs.length ∧ xs.length ≠ 0 then some (goods xs) else none

theorem file_of {xs : List Nat} {ms : List Mem} (h : file xs = some ms) : goods xs = ms ∧ total ms = xs.length ∧ xs.length ≠ 0 := by
  unfold file at h
  split at h
  · rename_i hc
    obtain rfl := Option.some.inj h
    exact ⟨rfl, hc⟩
  · cases h

theorem file_yes {xs : List Nat} {ms : List Mem} (h : goods xs = ms) (ht : total ms = xs.length) (h0 : xs.length ≠ 0) : file xs = some ms := by
  unfold file
  rw [h, if_pos ⟨ht, h0⟩]

theorem file_no {xs : List Nat} (h : ¬ (total (goods xs) = xs.length ∧ xs.length ≠ 0)) : file xs = none := by
  unfold file
  rw [if_neg h]

theorem file_app {xs ys : List Nat} {ms ns : List Mem} (hb : ∀ x ∈ xs, x < 256) (h1 : file xs = some ms) (h2 : file ys = some ns) : file (xs ++ ys) = some (ms ++ ns) := by
  obtain ⟨e1, e2, e3⟩ := file_of h1
  obtain ⟨f1, f2, f3⟩ := file_of h2
  refine file_yes ?_ ?_ ?_
  · rw [goods_app _ xs ys (Nat.le_refl _) hb (by rw [e1]; exact e2), e1, f1]
  · rw [total_app, List.length_append, e2, f2]
  · rw [List.length_append]; omega

/-! Members that are laid. -/

/-- The last block, stored. -/
def lastBytes (b : List Nat) : List Nat := [1, b.length % 256, b.length / 256, 255 - b.length % 256, 255 - b.length / 256] ++ b

theorem lastBytes_length (b : List Nat) : (lastBytes b).length = 5 + b.length := by unfold lastBytes; rw [List.length_append]; rfl

theorem lastBytes_byte {b : List Nat} (hb : ∀ x ∈ b, x < 256) (hn : b.length ≤ 65535) : ∀ x ∈ lastBytes b, x < 256 := by
  intro x hx
  rcases List.mem_append.1 hx with h | h
  · simp only [List.mem_cons, List.not_mem_nil, or_false] at h
    omega
  · exact hb x h

theorem last_bits (b : List Nat) (hb : ∀ x ∈ b, x < 256) (hn : b.length ≤ 65535) :
    row (lastBytes b) = bitsOf 1 3 ++ bitsOf 0 5 ++ bitsOf b.length 16 ++ bitsOf (65535 - b.length) 16 ++ b.flatMap fun x => bitsOf x 8 := by
  have hh := lastBytes_byte hb hn
  unfold lastBytes at hh ⊢
  rw [row_bytes _ hh, List.flatMap_append]
  have e1 := bitsOf_parts b.length 8 8 (by omega)
  have e2 := bitsOf_parts (65535 - b.length) 8 8 (by omega)
  rw [show 8 + 8 = 16 from rfl, show 2 ^ 8 = 256 from rfl] at e1 e2
  rw [show (65535 - b.length) % 256 = 255 - b.length % 256 from by omega, show (65535 - b.length) / 256 = 255 - b.length / 256 from by omega] at e2
  rw [e1, e2, show bitsOf 1 3 ++ bitsOf 0 5 = bitsOf 1 8 from rfl]
  simp only [List.flatMap_cons, List.flatMap_nil, List.append_nil, List.append_assoc]

theorem block_last (C : List Bool) (b : List Nat) (hb : ∀ x ∈ b, x < 256) (hn : b.length ≤ 65535) (V : List Bool)
    (hV : V = bitsOf 1 3 ++ bitsOf 0 5 ++ bitsOf b.length 16 ++ bitsOf (65535 - b.length) 16 ++ b.flatMap fun x => bitsOf x 8) :
    blockAt (V ++ C) 0 [] = some (true, V.length, b) := by
  have hVl : V.length = 40 + 8 * b.length := by rw [hV]; simp only [List.length_append, bitsOf_length, bytes_bits_length]
  have hR : (V ++ C).length = V.length + C.length := List.length_append
  have e3 : bitsOf 1 3 = bitsOf 1 1 ++ bitsOf 0 2 := rfl
  have k0 : nm (V ++ C) 0 1 = 1 := nm_put [] (bitsOf 0 2 ++ bitsOf 0 5 ++ bitsOf b.length 16 ++ bitsOf (65535 - b.length) 16 ++ (b.flatMap fun x => bitsOf x 8) ++ C) 1 1 (by decide) _ _ (by rw [hV, e3]; simp only [List.append_assoc, List.nil_append]) rfl
  have k1 : nm (V ++ C) (0 + 1) 2 = 0 := nm_put (bitsOf 1 1) (bitsOf 0 5 ++ bitsOf b.length 16 ++ bitsOf (65535 - b.length) 16 ++ (b.flatMap fun x => bitsOf x 8) ++ C) 0 2 (by decide) _ _ (by rw [hV, e3]; simp only [List.append_assoc]) (by rw [bitsOf_length])
  have k2 : nm (V ++ C) (0 + 3 + 5) 16 = b.length := nm_put (bitsOf 1 3 ++ bitsOf 0 5) (bitsOf (65535 - b.length) 16 ++ (b.flatMap fun x => bitsOf x 8) ++ C) b.length 16 (by omega) _ _ (by rw [hV]; simp only [List.append_assoc]) (by simp only [List.length_append, bitsOf_length])
  have k3 : nm (V ++ C) (0 + 3 + 5 + 16) 16 = 65535 - b.length := nm_put (bitsOf 1 3 ++ bitsOf 0 5 ++ bitsOf b.length 16) ((b.flatMap fun x => bitsOf x 8) ++ C) (65535 - b.length) 16 (by omega) _ _ (by rw [hV]; simp only [List.append_assoc]) (by simp only [List.length_append, bitsOf_length])
  have k4 : bytesAt (V ++ C) (0 + 3 + 5 + 32) b.length = b := by
    have := bytesAt_put b (bitsOf 1 3 ++ bitsOf 0 5 ++ bitsOf b.length 16 ++ bitsOf (65535 - b.length) 16) C hb
    rw [show (bitsOf 1 3 ++ bitsOf 0 5 ++ bitsOf b.length 16 ++ bitsOf (65535 - b.length) 16).length = 0 + 3 + 5 + 32 from by simp only [List.length_append, bitsOf_length]] at this
    rw [hV]
    simp only [List.append_assoc] at this ⊢
    exact this
  unfold blockAt
  rw [if_neg (by omega), k0, k1, if_pos rfl]
  unfold storedAt
  rw [up8_of _ 5 (by omega) (by omega), k2, k3, k4, if_neg (by omega), if_neg (by omega), if_neg (by omega)]
  simp only [Option.map_some]
  rw [show 0 + 3 + 5 + 32 + 8 * b.length = V.length from by omega]
  rfl

theorem infl_last (b : List Nat) (hb : ∀ x ∈ b, x < 256) (hn : b.length ≤ 65535) (ys : List Nat) : infl (lastBytes b ++ ys) = some (8 * (5 + b.length), b) := by
  have hblk := block_last (row ys) b hb hn (row (lastBytes b)) (last_bits b hb hn)
  unfold infl
  rw [row_app, strm_end hblk, row_length, lastBytes_length]

theorem used_last (n : Nat) : used (8 * (5 + n)) = 5 + n := by unfold used; omega

/-- A member that is laid: its head, its bytes stored, a tail. -/
theorem memAt_laid {H : List Nat} {g : Gz} {wr : Bool} (hg : ∀ R, Fr.get (H ++ R) = some ⟨H.length, g, wr⟩) (b : List Nat) (hb : ∀ x ∈ b, x < 256) (hn : b.length ≤ 65535) (t : List Nat) (ht : t.length = 8) (ys : List Nat) :
    memAt (H ++ (lastBytes b ++ (t ++ ys))) = some ⟨H.length + (5 + b.length) + 8, b, wr, decide (tailOf b ≠ t)⟩ := by
  have hi : infl ((H ++ (lastBytes b ++ (t ++ ys))).drop H.length) = some (8 * (5 + b.length), b) := by rw [List.drop_left]; exact infl_last b hb hn _
  have := memAt_yes (hg (lastBytes b ++ (t ++ ys))) hi (by rw [used_last]; simp only [List.length_append, lastBytes_length, ht]; omega)
  rw [this, used_last]
  have h4 : sl (H ++ (lastBytes b ++ (t ++ ys))) (H.length + (5 + b.length)) 8 = t := by
    unfold sl
    rw [← List.append_assoc, List.drop_left' (by rw [List.length_append, lastBytes_length]), List.take_left' ht]
  rw [h4]

/-- A member whose tail is cut is none. -/
theorem memAt_less {H : List Nat} {g : Gz} {wr : Bool} (hg : ∀ R, Fr.get (H ++ R) = some ⟨H.length, g, wr⟩) (b : List Nat) (hb : ∀ x ∈ b, x < 256) (hn : b.length ≤ 65535) (t : List Nat) (ht : t.length < 8) :
    memAt (H ++ (lastBytes b ++ t)) = none := by
  have hi : infl ((H ++ (lastBytes b ++ t)).drop H.length) = some (8 * (5 + b.length), b) := by rw [List.drop_left]; exact infl_last b hb hn _
  exact memAt_short (hg (lastBytes b ++ t)) hi (by rw [used_last]; simp only [List.length_append, lastBytes_length]; omega)

/-- A member, stored. -/
def stored (h : Gz) (b : List Nat) : List Nat := bytesOf h ++ (lastBytes b ++ tailOf b)

theorem stored_length (h : Gz) (b : List Nat) : (stored h b).length = (bytesOf h).length + (5 + b.length) + 8 := by
  unfold stored
  rw [List.length_append, List.length_append, lastBytes_length, tailOf_length]
  omega

theorem stored_byte {h : Gz} (hf : Fits h) (hm : may h = true) {b : List Nat} (hb : ∀ x ∈ b, x < 256) (hn : b.length ≤ 65535) : ∀ x ∈ stored h b, x < 256 := by
  intro x hx
  rcases List.mem_append.1 hx with h1 | h1
  · exact laid_byte hf ((may_iff h).1 hm).1 9 x h1
  · rcases List.mem_append.1 h1 with h1 | h1
    · exact lastBytes_byte hb hn x h1
    · exact tailOf_byte b x h1

def mem (h : Gz) (b : List Nat) : Mem := ⟨(bytesOf h).length + (5 + b.length) + 8, b, false, false⟩

theorem memAt_stored {h : Gz} (hf : Fits h) (hm : may h = true) (b : List Nat) (hb : ∀ x ∈ b, x < 256) (hn : b.length ≤ 65535) (ys : List Nat) : memAt (stored h b ++ ys) = some (mem h b) := by
  unfold stored
  rw [List.append_assoc, List.append_assoc, memAt_laid (get_put hf hm) b hb hn (tailOf b) (tailOf_length b) ys]
  simp [mem]

/-- Members, stored, one behind the other. -/
theorem goods_stored {h : Gz} (hf : Fits h) (hm : may h = true) : ∀ (l : List (List Nat)), (∀ b ∈ l, (∀ x ∈ b, x < 256) ∧ b.length ≤ 65535) → ∀ ys, goods (l.flatMap (stored h) ++ ys) = l.map (mem h) ++ goods ys
  | [], _, ys => rfl
  | b :: l, hl, ys => by
    obtain ⟨h1, h2⟩ := hl b List.mem_cons_self
    rw [List.flatMap_cons, List.append_assoc, goods_some (memAt_stored hf hm b h1 h2 _), show (mem h b).used = (stored h b).length from (stored_length h b).symm, List.drop_left,
      goods_stored hf hm l (fun b' hb' => hl b' (List.mem_cons_of_mem _ hb')) ys]
    rfl

theorem total_stored (h : Gz) (l : List (List Nat)) : total (l.map (mem h)) = (l.flatMap (stored h)).length := by
  induction l with
  | nil => rfl
  | cons b l ih =>
    rw [List.map_cons, total_cons, ih, List.flatMap_cons, List.length_append, stored_length]
    rfl

theorem outs_stored (h : Gz) (l : List (List Nat)) : outs (l.map (mem h)) = l.flatten := by
  induction l with
  | nil => rfl
  | cons b l ih => rw [List.map_cons, outs_cons, ih]; rfl

theorem any_stored (h : Gz) (l : List (List Nat)) : ((l.map (mem h)).any fun m => m.head || m.tail) = false := by
  induction l with
  | nil => rfl
  | cons b l ih => rw [List.map_cons, List.any_cons, ih]; rfl

theorem file_stored {h : Gz} (hf : Fits h) (hm : may h = true) (l : List (List Nat)) (h0 : l ≠ []) (hl : ∀ b ∈ l, (∀ x ∈ b, x < 256) ∧ b.length ≤ 65535) : file (l.flatMap (stored h)) = some (l.map (mem h)) := by
  have h1 := goods_stored hf hm l hl []
  rw [List.append_nil, goods_nil, List.append_nil] at h1
  refine file_yes h1 (total_stored h l) ?_
  cases l with
  | nil => exact absurd rfl h0
  | cons b l => rw [List.flatMap_cons, List.length_append, stored_length]; omega

/-- The last one's tail is cut. -/
theorem file_less {h : Gz} (hf : Fits h) (hm : may h = true) (l : List (List Nat)) (b : List Nat) (hl : ∀ c ∈ l ++ [b], (∀ x ∈ c, x < 256) ∧ c.length ≤ 65535) :
    file (((l ++ [b]).flatMap (stored h)).take (((l ++ [b]).flatMap (stored h)).length - 1)) = none := by
  obtain ⟨hb, hn⟩ := hl b (by simp)
  have e1 : (l ++ [b]).flatMap (stored h) = l.flatMap (stored h) ++ stored h b := by rw [List.flatMap_append]; simp
  have e2 : ((l ++ [b]).flatMap (stored h)).take (((l ++ [b]).flatMap (stored h)).length - 1) = l.flatMap (stored h) ++ (bytesOf h ++ (lastBytes b ++ (tailOf b).take 7)) := by
    have hs := stored_length h b
    have h7 : (stored h b).length - 1 = (bytesOf h).length + ((lastBytes b).length + 7) := by rw [hs, lastBytes_length]; omega
    rw [e1, List.length_append, show (l.flatMap (stored h)).length + (stored h b).length - 1 = (l.flatMap (stored h)).length + ((stored h b).length - 1) from by omega, List.take_length_add_append, h7]
    unfold stored
    rw [List.take_length_add_append, List.take_length_add_append]
  rw [e2]
  have h7 : ((tailOf b).take 7).length = 7 := by rw [List.length_take, tailOf_length]; rfl
  have h2 := goods_stored hf hm l (fun c hc => hl c (by simp [hc])) (bytesOf h ++ (lastBytes b ++ (tailOf b).take 7))
  rw [goods_none (memAt_less (get_put hf hm) b hb hn _ (by omega)), List.append_nil] at h2
  refine file_no ?_
  rw [h2, total_stored, List.length_append, List.length_append, List.length_append, lastBytes_length]
  omega

/-- The last one's tail is another one. -/
theorem file_tail {h : Gz} (hf : Fits h) (hm : may h = true) (l : List (List Nat)) (b t : List Nat) (ht : t.length = 8) (hne : tailOf b ≠ t) (hl : ∀ c ∈ l ++ [b], (∀ x ∈ c, x < 256) ∧ c.length ≤ 65535) :
    file (l.flatMap (stored h) ++ (bytesOf h ++ (lastBytes b ++ t))) = some (l.map (mem h) ++ [⟨(bytesOf h).length + (5 + b.length) + 8, b, false, true⟩]) := by
  obtain ⟨hb, hn⟩ := hl b (by simp)
  have h2 := goods_stored hf hm l (fun c hc => hl c (by simp [hc])) (bytesOf h ++ (lastBytes b ++ t))
  have h3 := memAt_laid (get_put hf hm) b hb hn t ht []
  rw [List.append_nil] at h3
  rw [goods_some h3, List.drop_of_length_le (by simp only [List.length_append, lastBytes_length, ht]; omega), goods_nil, decide_eq_true hne] at h2
  refine file_yes h2 ?_ ?_
  · rw [total_app, total_stored]
    simp only [total, List.map_cons, List.map_nil, List.sum_cons, List.sum_nil, List.length_append, lastBytes_length, ht]
    omega
  · simp only [List.length_append, lastBytes_length, ht]
    omega

/-- One member. -/
theorem file_one {H : List Nat} {g : Gz} {wr : Bool} (hg : ∀ R, Fr.get (H ++ R) = some ⟨H.length, g, wr⟩) (b : List Nat) (hb : ∀ x ∈ b, x < 256) (hn : b.length ≤ 65535) :
    file (H ++ (lastBytes b ++ tailOf b)) = some [⟨H.length + (5 + b.length) + 8, b, wr, false⟩] := by
  have h3 := memAt_laid hg b hb hn (tailOf b) (tailOf_length b) []
  rw [List.append_nil] at h3
  have h4 := goods_some h3
  rw [List.drop_of_length_le (by simp only [List.length_append, lastBytes_length, tailOf_length]; omega), goods_nil] at h4
  simp only [ne_eq, not_true, decide_false] at h4
  refine file_yes h4 ?_ ?_
  · simp only [total, List.map_cons, List.map_nil, List.sum_cons, List.sum_nil, List.length_append, lastBytes_length, tailOf_length]
    omega
  · simp only [List.length_append, lastBytes_length, tailOf_length]
    omega

/-- A head whose sum's last bit is turned. -/
theorem get_head {h : Gz} (hf : Fits h) (hm : may h = true) (hs : h.sum = true) (R : List Nat) :
    Fr.get ((bytesOf h).set ((bytesOf h).length - 1) ((bytesOf h).getD ((bytesOf h).length - 1) 0 ^^^ 1) ++ R) = some ⟨((bytesOf h).set ((bytesOf h).length - 1) ((bytesOf h).getD ((bytesOf h).length - 1) 0 ^^^ 1)).length, h, true⟩ := by
  have hb : ∀ x ∈ bytesOf h, x < 256 := laid_byte hf ((may_iff h).1 hm).1 9
  have h1 := get_turned hf hm hs 0 0 (by omega) (by omega)
  rw [Nat.sub_zero, Nat.pow_zero] at h1
  rw [List.length_set]
  refine get_more (fun x hx => ?_) h1 R
  rcases List.mem_or_eq_of_mem_set hx with h2 | rfl
  · exact hb x h2
  · have h3 : (bytesOf h).getD ((bytesOf h).length - 1) 0 < 256 := by
      rw [List.getD_eq_getElem?_getD]
      cases h4 : (bytesOf h)[(bytesOf h).length - 1]? with
      | none => simp
      | some y => exact hb y (List.mem_of_getElem? h4)
    exact Nat.xor_lt_two_pow (n := 8) h3 (by decide)

end Go.Proofs.YtpinfihmageeoaaGreat.Gu
