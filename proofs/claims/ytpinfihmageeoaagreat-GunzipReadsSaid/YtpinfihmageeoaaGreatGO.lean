/-
  InfS InfT InfU InfX, one behind the other (merged by wip/merge.py). No conditions but those that each states.
-/
import Derived.Test.YtpinfihmageeoaaGreatGN
import Derived.Test.YtpinfihmageeoaaGreatGW
import Derived.Test.YtpinfihmageeoaaGreatGD
import Derived.Test.YtpinfihmageeoaaGreatGA
import Derived.Test.YtpinfihmageeoaaGreatGA

namespace Go.Proofs.YtpinfihmageeoaaGreat.Inf
open Kraft Hd

def infl (xs : List Nat) : Option (Nat × List Nat) := strm (row xs) 0 []

def used (q : Nat) : Nat := (q + 7) / 8

theorem infl_some {xs : List Nat} {q : Nat} {o : List Nat} (h : infl xs = some (q, o)) : 1 ≤ used q ∧ used q ≤ xs.length ∧ q ≤ 8 * used q ∧ 8 * (used q - 1) < q ∧ q ≤ 8 * xs.length := by
  have := strm_some h
  rw [row_length] at this
  unfold used
  omega

theorem row_take_eq {xs ys : List Nat} {q : Nat} (h : ∀ i, i < q → bitAt ys i = bitAt xs i) (hx : q ≤ 8 * xs.length) (hy : q ≤ 8 * ys.length) : Sees (row xs) (row ys) 0 q := by
  refine Sees.of_take (by rw [row_length]; exact hx) (by rw [row_length]; exact hy) ?_
  refine List.ext_getElem (by rw [List.length_take, List.length_take, row_length, row_length]; omega) fun i h1 h2 => ?_
  rw [List.length_take, row_length] at h1
  rw [List.getElem_take, List.getElem_take, row_get, row_get]
  exact h i (by omega)

theorem infl_behind {xs : List Nat} {q : Nat} {o : List Nat} (h : infl xs = some (q, o)) (k : Nat) (hk : used q ≤ k) (ys : List Nat) : infl (xs.take k ++ ys) = some (q, o) := by
  have h1 := infl_some h
  refine strm_same h (row_take_eq (q := q) (fun i hi => ?_) (by omega) (by rw [List.length_append, List.length_take]; omega)) (Nat.le_refl _)
  have hk8 : i / 8 < (xs.take k).length := by rw [List.length_take]; omega
  unfold bitAt
  rw [List.getD_eq_getElem?_getD, List.getD_eq_getElem?_getD, List.getElem?_append_left hk8, List.getElem?_take_of_lt (by omega)]

theorem infl_cut {xs : List Nat} {q : Nat} {o : List Nat} (h : infl xs = some (q, o)) (k : Nat) (hk : k < used q) : infl (xs.take k) = none := by
  have h1 := infl_some h
  unfold infl
  rw [row_take xs k (by omega)]
  exact strm_cut h _ (by omega)

def turned (xs : List Nat) (u m : Nat) : List Nat := xs.take (u - 1) ++ [xs.getD (u - 1) 0 ^^^ m]

theorem turned_length {xs : List Nat} {u m : Nat} (h1 : 1 ≤ u) (h2 : u ≤ xs.length) : (turned xs u m).length = u := by
  unfold turned
  rw [List.length_append, List.length_take, List.length_singleton]
  omega

theorem bit_test (x i : Nat) : (x / 2 ^ i % 2 == 1) = x.testBit i := by
  rw [Nat.testBit_eq_decide_div_mod_eq]
  rcases Nat.mod_two_eq_zero_or_one (x / 2 ^ i) with h | h <;> rw [h] <;> rfl

theorem turned_low {xs : List Nat} {u m i : Nat} (h2 : u ≤ xs.length) (hi : i < 8 * (u - 1)) : bitAt (turned xs u m) i = bitAt xs i := by
  unfold bitAt turned
  simp only [List.getD_eq_getElem?_getD]
  rw [List.getElem?_append_left (by rw [List.length_take]; omega), List.getElem?_take_of_lt (by omega)]

theorem turned_last {xs : List Nat} {u m t : Nat} (h1 : 1 ≤ u) (h2 : u ≤ xs.length) (ht : t < 8) : bitAt (turned xs u m) (8 * (u - 1) + t) = (bitAt xs (8 * (u - 1) + t)).xor (m.testBit t) := by
  unfold bitAt turned
  rw [show (8 * (u - 1) + t) / 8 = u - 1 from by omega, show (8 * (u - 1) + t) % 8 = t from by omega, bit_test, bit_test, List.getD_eq_getElem?_getD,
    List.getElem?_append_right (by rw [List.length_take]; omega), List.length_take, show u - 1 - min (u - 1) xs.length = 0 from by omega]
  show (xs.getD (u - 1) 0 ^^^ m).testBit t = _
  rw [Nat.testBit_xor]

theorem turned_sees {xs : List Nat} {q u m : Nat} (h1 : 1 ≤ u) (h2 : u ≤ xs.length) (hq : q ≤ 8 * u) (hm : ∀ t, t < q - 8 * (u - 1) → m.testBit t = false) : Sees (row xs) (row (turned xs u m)) 0 q := by
  refine row_take_eq (fun i hi => ?_) (by omega) (by rw [turned_length h1 h2]; exact hq)
  by_cases hlow : i < 8 * (u - 1)
  · exact turned_low h2 hlow
  · obtain ⟨t, rfl⟩ : ∃ t, i = 8 * (u - 1) + t := ⟨i - 8 * (u - 1), by omega⟩
    rw [turned_last h1 h2 (by omega), hm t (by omega)]
    simp

def Alike (q : Nat) (o : List Nat) (x : Option (Nat × List Nat)) : Prop := ∃ q' o', x = some (q', o') ∧ o'.take 4000 = o.take 4000 ∧ o'.length = o.length ∧ used q' = used q

theorem Alike.refl (q : Nat) (o : List Nat) : Alike q o (some (q, o)) := ⟨q, o, rfl, rfl, rfl, rfl⟩

theorem nm_bits {xs : List Nat} {p : Nat} {i : Nat} (n : Nat) (hp : p + n ≤ 8 * xs.length) (hi : i < n) : (nm (row xs) p n).testBit i = bitAt xs (p + i) := by
  rw [nm_row xs p n hp, ← bit_test]
  have h := num_bit (bitsAt xs p n) i
  rw [h, List.getD_eq_getElem?_getD, List.getElem?_eq_getElem (by rw [bitsAt_length]; exact hi), Option.getD_some, bitsAt_get]
  cases bitAt xs (p + i) <;> rfl

theorem nm_turned {xs : List Nat} {u m : Nat} (h1 : 1 ≤ u) (h2 : u ≤ xs.length) (hm : m < 256) : nm (row (turned xs u m)) (8 * (u - 1)) 8 = nm (row xs) (8 * (u - 1)) 8 ^^^ m := by
  refine Nat.eq_of_testBit_eq fun i => ?_
  have hl := nm_lt (row (turned xs u m)) (8 * (u - 1)) 8
  have hl2 := nm_lt (row xs) (8 * (u - 1)) 8
  by_cases hi : i < 8
  · rw [nm_bits 8 (by rw [turned_length h1 h2]; omega) hi, Nat.testBit_xor, nm_bits 8 (by omega) hi, turned_last h1 h2 hi]
  · have hlt : nm (row xs) (8 * (u - 1)) 8 ^^^ m < 2 ^ 8 := Nat.xor_lt_two_pow hl2 hm
    rw [Nat.testBit_lt_two_pow (Nat.lt_of_lt_of_le hl (Nat.pow_le_pow_right (by omega) (by omega))), Nat.testBit_lt_two_pow (Nat.lt_of_lt_of_le hlt (Nat.pow_le_pow_right (by omega) (by omega)))]

theorem bytesAt_succ (R : List Bool) (p n : Nat) : bytesAt R p (n + 1) = bytesAt R p n ++ [nm R (p + 8 * n) 8] := by
  unfold bytesAt
  rw [List.range_succ, List.map_append]
  rfl

theorem stored_turned {R S : List Bool} {p q : Nat} {out o : List Nat} (h : storedAt R p out = some (q, o)) (hs : Sees R S 0 (q - 8)) (hS : S.length = q) :
    (nm R (up8 p) 16 = 0 ∧ (nm S (q - 8) 8 ≠ nm R (q - 8) 8 → storedAt S p out = none)) ∨ nm R (up8 p) 16 ≠ 0 ∧ ∃ a, o = a ++ [nm R (q - 8) 8] ∧ storedAt S p out = some (q, a ++ [nm S (q - 8) 8]) := by
  obtain ⟨h1, h2, h3, h4⟩ := stored_some h
  obtain ⟨P, hP⟩ : ∃ P, up8 p = P := ⟨_, rfl⟩
  rw [hP] at h1 h3 h4
  have e1 : nm S P 16 = nm R P 16 := by
    have := nm_sees (p := P) (n := 16) hs (by omega)
    simpa using this
  cases hn : nm R P 16 with
  | zero =>
    left
    refine ⟨by rw [hP]; exact hn, fun hne => ?_⟩
    rw [hn] at h1 h4
    unfold storedAt
    rw [hP, if_neg (by omega), e1, hn, if_pos]
    intro h5
    apply hne
    have f : ∀ T : List Bool, T.length ≥ P + 32 → nm T (P + 16) 16 = nm T (P + 16) 8 + nm T (P + 24) 8 * 256 := by
      intro T hT
      unfold nm
      have e : (T.drop (P + 16)).take 16 = (T.drop (P + 16)).take 8 ++ (T.drop (P + 24)).take 8 := by
        rw [show T.drop (P + 24) = (T.drop (P + 16)).drop 8 from by rw [List.drop_drop], ← List.take_add]
      rw [e, num_append]
      congr 2
      rw [List.length_take, List.length_drop, show min 8 (T.length - (P + 16)) = 8 from by omega]
    have e2 : nm S (P + 16) 8 = nm R (P + 16) 8 := by
      have := nm_sees (p := P + 16) (n := 8) hs (by omega)
      simpa using this
    have f1 := f S (by omega)
    have f2 := f R (by omega)
    rw [show q - 8 = P + 24 from by omega]
    omega
  | succ n =>
    right
    rw [hn] at h1 h3 h4
    rw [bytesAt_succ, ← List.append_assoc, show P + 32 + 8 * n = q - 8 from by omega] at h3
    refine ⟨by rw [hP, hn]; exact Nat.succ_ne_zero _, out ++ bytesAt R (P + 32) n, h3, ?_⟩
    unfold storedAt
    have e2 : nm S (P + 16) 16 = nm R (P + 16) 16 := by
      have := nm_sees (p := P + 16) (n := 16) hs (by omega)
      simpa using this
    have e3 : bytesAt S (P + 32) n = bytesAt R (P + 32) n := by
      have := bytesAt_sees (p := P + 32) (n := n) hs (by omega)
      simpa using this
    rw [hP, if_neg (by omega), e1, e2, hn, if_neg (by omega), if_neg (by omega), bytesAt_succ, e3, List.append_assoc, show P + 32 + 8 * n = q - 8 from by omega]
    congr 2
    omega

theorem block_flip {R S : List Bool} {p q : Nat} {out o : List Nat} (h : blockAt R p out = some (true, q, o)) (hk : nm R (p + 1) 2 ≠ 0) (hs : Sees R S 0 (q - 1)) (hne : S[q - 1]? ≠ R[q - 1]?) :
    ∀ q' o', strm S p out = some (q', o') → o.length < o'.length := by
  intro q' o' h'
  unfold blockAt at h
  split at h
  · cases h
  · rename_i h0
    obtain ⟨x, hx, e⟩ := Option.map_eq_some_iff.1 h
    obtain ⟨e0, e⟩ := Prod.mk.inj e
    subst e
    try rw [if_neg hk] at hx
    have hq : p + 3 < q := by
      split at hx
      · exact (syms_some hx).1
      · split at hx
        · obtain ⟨y, hy, hz⟩ := Option.bind_eq_some_iff.1 hx
          have h1 := syms_some hz
          have h2 := head_more hy []
          omega
        · cases hx
    have ht := hs.there
    have e1 : nm S p 1 = nm R p 1 := by simpa using nm_sees (p := p) (n := 1) hs (by omega)
    have e2 : nm S (p + 1) 2 = nm R (p + 1) 2 := by simpa using nm_sees (p := p + 1) (n := 2) hs (by omega)
    have hbl : blockAt S p out = ((if nm R (p + 1) 2 = 1 then syms fixP fixQ S (p + 3) out else if nm R (p + 1) 2 = 2 then (headAt S (p + 3)).bind fun y => syms y.1 y.2.1 S y.2.2 out else none).map fun x => (true, x)) := by
      unfold blockAt
      rw [if_neg (by omega), e1, e2, if_neg hk, e0]
    have hend : ∀ z, (if nm R (p + 1) 2 = 1 then syms fixP fixQ S (p + 3) out else if nm R (p + 1) 2 = 2 then (headAt S (p + 3)).bind fun y => syms y.1 y.2.1 S y.2.2 out else none) = z → ∃ w, z = some w ∧ w = (q', o') := by
      intro z hz
      rw [hz] at hbl
      cases z with
      | none => rw [Option.map_none] at hbl; rw [strm_none hbl] at h'; cases h'
      | some w =>
        rw [Option.map_some] at hbl
        obtain ⟨w1, w2⟩ := w
        rw [strm_end hbl] at h'
        exact ⟨_, rfl, Option.some.inj h'⟩
    split at hx
    · rename_i c1
      obtain ⟨w, hw, rfl⟩ := hend _ rfl
      rw [if_pos c1] at hw
      exact syms_flip hx hs hne _ _ hw
    · rename_i c1
      split at hx
      · rename_i c2
        obtain ⟨y, hy, hz⟩ := Option.bind_eq_some_iff.1 hx
        have h1 := syms_some hz
        have hh := head_sees hy hs (by omega)
        simp only [Nat.add_zero] at hh
        obtain ⟨w, hw, rfl⟩ := hend _ rfl
        rw [if_neg c1, if_pos c2, hh, Option.bind_some] at hw
        exact syms_flip hz hs hne _ _ hw
      · cases hx

theorem turned_all {xs : List Nat} {q : Nat} {o : List Nat} (h : infl xs = some (q, o)) :
    (∃ u, u < 8 ∧ (∀ m, m < 256 → (∀ t, t < 8 - u → m.testBit t = false) → Alike q o (infl (turned xs (used q) m))) ∧ ¬ Alike q o (infl (turned xs (used q) (2 ^ (7 - u))))) ∨
    (∀ m, m < 256 → Alike q o (infl (turned xs (used q) m))) := by
  have hb := infl_some h
  have hlow : ∀ m, (∀ t, t < q - 8 * (used q - 1) → m.testBit t = false) → infl (turned xs (used q) m) = some (q, o) := fun m hm => strm_same h (turned_sees hb.1 hb.2.1 hb.2.2.1 hm) (Nat.le_refl _)
  obtain ⟨p', out', h1, h2, h3⟩ := strm_last h
  have hbl := block_some h2
  by_cases hk : nm (row xs) (p' + 1) 2 = 0
  · -- stored
    have hst : storedAt (row xs) (p' + 3) out' = some (q, o) := by
      unfold blockAt at h2
      split at h2
      · cases h2
      · obtain ⟨x, hx, e⟩ := Option.map_eq_some_iff.1 h2
        try rw [if_pos hk] at hx
        rw [hx, (Prod.mk.inj e).2]
    obtain ⟨g1, g2, _, _⟩ := stored_some hst
    have hu8 := up8_le (p' + 3)
    have hq8 : q = 8 * used q := by unfold used; omega
    have hp3 : p' + 3 ≤ q - 8 := by omega
    have hlastbit : decide (nm (row xs) p' 1 = 1) = true := by
      unfold blockAt at h2
      split at h2
      · cases h2
      · obtain ⟨x, hx, e⟩ := Option.map_eq_some_iff.1 h2
        exact (Prod.mk.inj e).1
    -- of any turned byte
    have hany : ∀ m, m < 256 → ∀ z, storedAt (row (turned xs (used q) m)) (p' + 3) out' = z → infl (turned xs (used q) m) = z := by
      intro m hm z hz
      have hs : Sees (row xs) (row (turned xs (used q) m)) 0 (q - 8) := turned_sees hb.1 hb.2.1 (by omega) (fun t ht => by omega)
      unfold infl
      rw [h3 _ (hs.mono (by omega))]
      have e1 : nm (row (turned xs (used q) m)) p' 1 = nm (row xs) p' 1 := by simpa using nm_sees (p := p') (n := 1) hs (by omega)
      have e2 : nm (row (turned xs (used q) m)) (p' + 1) 2 = nm (row xs) (p' + 1) 2 := by simpa using nm_sees (p := p' + 1) (n := 2) hs (by omega)
      have ht := hs.there
      have hbk : blockAt (row (turned xs (used q) m)) p' out' = z.map fun x => (true, x) := by
        unfold blockAt
        rw [if_neg (by omega), e1, e2, if_pos hk, hz, hlastbit]
      cases z with
      | none => exact strm_none hbk
      | some w => obtain ⟨w1, w2⟩ := w; exact strm_end hbk
    have hturn : ∀ m, m < 256 → _ := fun m hm => stored_turned hst (S := row (turned xs (used q) m)) (turned_sees hb.1 hb.2.1 (by omega) (fun t ht => by omega)) (by rw [row_length, turned_length hb.1 hb.2.1]; exact hq8.symm)
    have hnm : ∀ m, m < 256 → nm (row (turned xs (used q) m)) (q - 8) 8 = nm (row xs) (q - 8) 8 ^^^ m := fun m hm => by
      have := nm_turned hb.1 hb.2.1 hm
      rwa [show 8 * (used q - 1) = q - 8 from by omega] at this
    by_cases hall : ∀ m, m < 256 → Alike q o (infl (turned xs (used q) m))
    · exact .inr hall
    · refine .inl ⟨0, by omega, fun m hm ht => ?_, fun hal => hall fun m hm => ?_⟩
      · rw [hlow m (fun t ht2 => ht t (by omega))]
        exact Alike.refl _ _
      · obtain ⟨q', o', k1, k2, k3, k4⟩ := hal
        have hx128 : ∀ x : Nat, x ^^^ 2 ^ (7 - 0) ≠ x := fun x hx => by
          have := congrArg (fun y => Nat.testBit y 7) hx
          simp only [Nat.testBit_xor] at this
          rw [show (2 ^ (7 - 0) : Nat).testBit 7 = true from by decide] at this
          cases hb7 : x.testBit 7 <;> rw [hb7] at this <;> exact absurd this (by decide)
        rcases hturn (2 ^ (7 - 0)) (by decide) with ⟨_, hn⟩ | ⟨hn0, a, ha, hsa⟩
        · have hno := hn (by rw [hnm _ (by decide)]; exact hx128 _)
          rw [hany _ (by decide) _ hno] at k1
          cases k1
        · rw [hany _ (by decide) _ hsa] at k1
          obtain ⟨rfl, rfl⟩ := Prod.mk.inj (Option.some.inj k1)
          have ha4 : 4000 ≤ a.length := by
            rcases Nat.lt_or_ge a.length 4000 with hlt | hge
            · exfalso
              rw [ha] at k2
              have := congrArg (fun l => l[a.length]?) k2
              rw [List.getElem?_take_of_lt hlt, List.getElem?_take_of_lt hlt, List.getElem?_append_right (Nat.le_refl _), List.getElem?_append_right (Nat.le_refl _), Nat.sub_self] at this
              simp only [List.getElem?_cons_zero, Option.some.injEq] at this
              rw [hnm _ (by decide)] at this
              exact hx128 _ this
            · exact hge
          rcases hturn m hm with ⟨hn, _⟩ | ⟨_, a', ha', hsa'⟩
          · exact absurd hn hn0
          · have haa : a' = a := by
              rw [ha] at ha'
              exact (List.append_inj_left' ha' rfl).symm
            subst haa
            rw [hany _ hm _ hsa']
            refine ⟨_, _, rfl, ?_, ?_, rfl⟩
            · rw [ha, List.take_append_of_le_length ha4, List.take_append_of_le_length ha4]
            · rw [ha]; simp
  · -- symbols
    left
    refine ⟨8 * used q - q, by omega, fun m hm ht => ?_, fun hal => ?_⟩
    · rw [hlow m (fun t ht2 => ht t (by omega))]
      exact Alike.refl _ _
    · obtain ⟨q', o', k1, k2, k3, k4⟩ := hal
      have hs : Sees (row xs) (row (turned xs (used q) (2 ^ (7 - (8 * used q - q))))) 0 (q - 1) := turned_sees hb.1 hb.2.1 (by omega) (fun t ht => by rw [Nat.testBit_two_pow]; exact decide_eq_false (by omega))
      have hne : (row (turned xs (used q) (2 ^ (7 - (8 * used q - q)))))[q - 1]? ≠ (row xs)[q - 1]? := by
        rw [List.getElem?_eq_getElem (by rw [row_length, turned_length hb.1 hb.2.1]; omega), List.getElem?_eq_getElem (by rw [row_length]; omega), row_get, row_get]
        intro e
        have e := Option.some.inj e
        obtain ⟨t, ht⟩ : ∃ t, q - 1 = 8 * (used q - 1) + t := ⟨q - 1 - 8 * (used q - 1), by omega⟩
        rw [ht, turned_last hb.1 hb.2.1 (by omega), Nat.testBit_two_pow, decide_eq_true (by omega)] at e
        cases hbb : bitAt xs (8 * (used q - 1) + t) <;> rw [hbb] at e <;> exact absurd e (by decide)
      unfold infl at k1
      rw [h3 _ (hs.mono (by
        have : p' + 3 < q := by
          rcases Nat.lt_or_ge (p' + 3) q with g | g
          · exact g
          · exfalso
            unfold blockAt at h2
            split at h2
            · cases h2
            · obtain ⟨x, hx, e⟩ := Option.map_eq_some_iff.1 h2
              have e := (Prod.mk.inj e).2
              subst e
              try rw [if_neg hk] at hx
              split at hx
              · have := (syms_some hx).1; omega
              · split at hx
                · obtain ⟨y, hy, hz⟩ := Option.bind_eq_some_iff.1 hx
                  have h1 := syms_some hz
                  have h2 := head_more hy []
                  omega
                · cases hx
        omega))] at k1
      have := block_flip h2 hk hs hne _ _ k1
      omega

theorem turned_free {xs : List Nat} {q : Nat} {o : List Nat} (h : infl xs = some (q, o)) (j : Nat) (hg : ∀ i, i < j → Alike q o (infl (turned xs (used q) (2 ^ (7 - i))))) (fill : Nat) :
    Alike q o (infl (turned xs (used q) (fill * 2 ^ (8 - j) % 256))) := by
  have hlt : fill * 2 ^ (8 - j) % 256 < 256 := Nat.mod_lt _ (by decide)
  rcases turned_all h with ⟨u, hu, h1, h2⟩ | h1
  · have hju : j ≤ u := by
      rcases Nat.lt_or_ge u j with g | g
      · exact absurd (hg u g) h2
      · exact g
    refine h1 _ hlt fun t ht => ?_
    rw [show (256 : Nat) = 2 ^ 8 from rfl, Nat.testBit_mod_two_pow, Nat.testBit_mul_two_pow]
    simp
    omega
  · exact h1 _ hlt

end Go.Proofs.YtpinfihmageeoaaGreat.Inf

namespace Go.Proofs.YtpinfihmageeoaaGreat.Inf
open Kraft Hd

theorem row_app (xs ys : List Nat) : row (xs ++ ys) = row xs ++ row ys := by
  refine List.ext_getElem (by rw [List.length_append, row_length, row_length, row_length, List.length_append]; omega) fun i h1 h2 => ?_
  rw [row_get]
  by_cases hi : i < 8 * xs.length
  · rw [List.getElem_append_left (by rw [row_length]; exact hi), row_get, bitAt_in _ _ _ hi]
  · rw [List.getElem_append_right (by rw [row_length]; omega), row_get]
    rw [row_length, List.length_append] at h1
    simp only [row_length]
    unfold bitAt
    simp only [List.getD_eq_getElem?_getD]
    rw [List.getElem?_append_right (by omega), show i / 8 - xs.length = (i - 8 * xs.length) / 8 from by omega, show i % 8 = (i - 8 * xs.length) % 8 from by omega]

theorem row_one (x : Nat) (hx : x < 256) : row [x] = bitsOf x 8 := by
  refine List.ext_getElem (by rw [row_length, bitsOf_length]; rfl) fun i h1 h2 => ?_
  rw [row_length] at h1
  simp only [List.length_singleton, Nat.mul_one] at h1
  rw [row_get]
  unfold bitAt
  rw [show i / 8 = 0 from by omega, show i % 8 = i from by omega]
  show (x / 2 ^ i % 2 == 1) = _
  have h := num_bit (bitsOf x 8) i
  rw [num_bitsOf_lt hx, List.getD_eq_getElem?_getD, List.getElem?_eq_getElem h2, Option.getD_some] at h
  rw [h]
  cases (bitsOf x 8)[i] <;> rfl

theorem row_bytes : ∀ (b : List Nat), (∀ x ∈ b, x < 256) → row b = b.flatMap fun x => bitsOf x 8
  | [], _ => by simp [row, rest]
  | x :: b, h => by
    rw [show x :: b = [x] ++ b from rfl, row_app, row_one x (h x (by simp)), row_bytes b (fun y hy => h y (List.mem_cons_of_mem _ hy))]
    rfl

theorem bytes_bits_length (b : List Nat) : (b.flatMap fun x => bitsOf x 8).length = 8 * b.length := by
  induction b with
  | nil => rfl
  | cons x b ih => rw [List.flatMap_cons, List.length_append, ih, bitsOf_length, List.length_cons]; omega

theorem bytesAt_put : ∀ (b : List Nat) (A C : List Bool), (∀ x ∈ b, x < 256) → bytesAt (A ++ (b.flatMap fun x => bitsOf x 8) ++ C) A.length b.length = b := by
  intro b A C hb
  refine List.ext_getElem (bytesAt_length _ _ _) fun i h1 h2 => ?_
  rw [show (bytesAt (A ++ (b.flatMap fun x => bitsOf x 8) ++ C) A.length b.length)[i] = nm (A ++ (b.flatMap fun x => bitsOf x 8) ++ C) (A.length + 8 * i) 8 from by simp [bytesAt]]
  have e : b = b.take i ++ b[i] :: b.drop (i + 1) := by rw [List.getElem_cons_drop, List.take_append_drop]
  have e2 : (b.flatMap fun x => bitsOf x 8) = (b.take i).flatMap (fun x => bitsOf x 8) ++ (bitsOf b[i] 8 ++ (b.drop (i + 1)).flatMap fun x => bitsOf x 8) := by
    conv => lhs; rw [e]
    rw [List.flatMap_append, List.flatMap_cons]
  rw [e2]
  refine nm_put (A ++ (b.take i).flatMap fun x => bitsOf x 8) (((b.drop (i + 1)).flatMap fun x => bitsOf x 8) ++ C) b[i] 8 (hb _ (List.getElem_mem _)) _ _ (by simp only [List.append_assoc]) ?_
  rw [List.length_append, bytes_bits_length, List.length_take]
  omega

theorem up8_of (p : Nat) (pad : Nat) (h : (p + pad) % 8 = 0) (hp : pad < 8) : up8 p = p + pad := by unfold up8; omega

theorem block_stored (A C : List Bool) (b : List Nat) (hb : ∀ x ∈ b, x < 256) (hn : b.length ≤ 65535) (pad : Nat) (hp : (A.length + 3 + pad) % 8 = 0) (hp8 : pad < 8) (out : List Nat) (V : List Bool)
    (hV : V = bitsOf 0 3 ++ bitsOf 0 pad ++ bitsOf b.length 16 ++ bitsOf (65535 - b.length) 16 ++ b.flatMap fun x => bitsOf x 8) :
    blockAt (A ++ V ++ C) A.length out = some (false, A.length + V.length, out ++ b) := by
  have hVl : V.length = 3 + pad + 32 + 8 * b.length := by rw [hV]; simp only [List.length_append, bitsOf_length, bytes_bits_length]
  have hR : (A ++ V ++ C).length = A.length + V.length + C.length := by simp only [List.length_append]
  have e3 : bitsOf 0 3 = bitsOf 0 1 ++ bitsOf 0 2 := rfl
  have k0 : nm (A ++ V ++ C) A.length 1 = 0 := nm_put A (bitsOf 0 2 ++ bitsOf 0 pad ++ bitsOf b.length 16 ++ bitsOf (65535 - b.length) 16 ++ (b.flatMap fun x => bitsOf x 8) ++ C) 0 1 (by decide) _ _ (by rw [hV, e3]; simp only [List.append_assoc]) rfl
  have k1 : nm (A ++ V ++ C) (A.length + 1) 2 = 0 := nm_put (A ++ bitsOf 0 1) (bitsOf 0 pad ++ bitsOf b.length 16 ++ bitsOf (65535 - b.length) 16 ++ (b.flatMap fun x => bitsOf x 8) ++ C) 0 2 (by decide) _ _ (by rw [hV, e3]; simp only [List.append_assoc]) (by rw [List.length_append, bitsOf_length])
  have k2 : nm (A ++ V ++ C) (A.length + 3 + pad) 16 = b.length := nm_put (A ++ bitsOf 0 3 ++ bitsOf 0 pad) (bitsOf (65535 - b.length) 16 ++ (b.flatMap fun x => bitsOf x 8) ++ C) b.length 16 (by omega) _ _ (by rw [hV]; simp only [List.append_assoc]) (by simp only [List.length_append, bitsOf_length])
  have k3 : nm (A ++ V ++ C) (A.length + 3 + pad + 16) 16 = 65535 - b.length := nm_put (A ++ bitsOf 0 3 ++ bitsOf 0 pad ++ bitsOf b.length 16) ((b.flatMap fun x => bitsOf x 8) ++ C) (65535 - b.length) 16 (by omega) _ _ (by rw [hV]; simp only [List.append_assoc]) (by simp only [List.length_append, bitsOf_length])
  have k4 : bytesAt (A ++ V ++ C) (A.length + 3 + pad + 32) b.length = b := by
    have := bytesAt_put b (A ++ bitsOf 0 3 ++ bitsOf 0 pad ++ bitsOf b.length 16 ++ bitsOf (65535 - b.length) 16) C hb
    rw [show (A ++ bitsOf 0 3 ++ bitsOf 0 pad ++ bitsOf b.length 16 ++ bitsOf (65535 - b.length) 16).length = A.length + 3 + pad + 32 from by simp only [List.length_append, bitsOf_length]] at this
    rw [hV]
    simp only [List.append_assoc] at this ⊢
    exact this
  unfold blockAt
  rw [if_neg (by omega), k0, k1, if_pos rfl]
  unfold storedAt
  rw [up8_of _ pad hp hp8, k2, k3, k4, if_neg (by omega), if_neg (by omega), if_neg (by omega)]
  simp only [Option.map_some]
  rw [show A.length + 3 + pad + 32 + 8 * b.length = A.length + V.length from by omega]
  rfl

theorem fixP_reads : Reads fixP := ⟨fun j => by
  have : ∀ j, j < 288 → len fixP j ≤ 20 := by decide +kernel
  by_cases h : j < 288
  · exact this j h
  · unfold len; rw [List.getD_eq_getElem?_getD, List.getElem?_eq_none (by rw [show fixP.length = 288 from by decide +kernel]; omega)]; exact Nat.zero_le _, by decide +kernel⟩
theorem fixQ_reads : Reads fixQ := ⟨fun j => by
  have : ∀ j, j < 32 → len fixQ j ≤ 20 := by decide +kernel
  by_cases h : j < 32
  · exact this j h
  · unfold len; rw [List.getD_eq_getElem?_getD, List.getElem?_eq_none (by rw [show fixQ.length = 32 from by decide +kernel]; omega)]; exact Nat.zero_le _, by decide +kernel⟩

theorem fix_len : (∀ j, j < 288 → j < fixP.length ∧ 0 < len fixP j) ∧ ∀ j, j < 32 → j < fixQ.length ∧ 0 < len fixQ j := by
  have h1 : ∀ j, j < 288 → 0 < len fixP j := by decide +kernel
  have h2 : ∀ j, j < 32 → 0 < len fixQ j := by decide +kernel
  have h3 : fixP.length = 288 := by decide +kernel
  have h4 : fixQ.length = 32 := by decide +kernel
  exact ⟨fun j hj => ⟨by omega, h1 j hj⟩, fun j hj => ⟨by omega, h2 j hj⟩⟩

theorem fix_has {t : Tok.Tk} (hm : Tok.may t = true) (hb : t.2.2 < 256) : Has fixP fixQ t := by
  unfold Has
  cases h : Tok.isB t with
  | true =>
    rw [if_pos rfl]
    exact ⟨hb, fix_len.1 _ (by omega)⟩
  | false =>
    simp only [Bool.false_eq_true, if_false]
    obtain ⟨_, l1, l2, d1, d2⟩ := Tok.may_rep hm h
    obtain ⟨n, hn⟩ : ∃ n : Nat, t.1 = (n : Int) := ⟨t.1.toNat, by omega⟩
    obtain ⟨f, hf⟩ : ∃ f : Nat, t.2.1 = (f : Int) := ⟨t.2.1.toNat, by omega⟩
    rw [hn, hf]
    obtain ⟨i, hi, e1, _⟩ := len_says n (by omega) (by omega)
    obtain ⟨j, hj, g1, _⟩ := dis_says f (by omega) (by omega)
    rw [e1, g1]
    exact ⟨fix_len.1 _ (by simp only; omega), fix_len.2 _ (by simp only; omega)⟩

theorem block_fixed (A C : List Bool) (l : List Tok.Tk) (ht : ∀ t ∈ l, Tok.may t = true ∧ t.2.2 < 256) (out o : List Nat) (hs : Tok.say out l = some o) (V : List Bool) (hV : V = bitsOf 2 3 ++ laidBits fixP fixQ l) :
    blockAt (A ++ V ++ C) A.length out = some (false, A.length + V.length, o) := by
  have hR : (A ++ V ++ C).length = A.length + 3 + (laidBits fixP fixQ l).length + C.length := by rw [hV]; simp only [List.length_append, bitsOf_length]; omega
  have e3 : bitsOf 2 3 = bitsOf 0 1 ++ bitsOf 1 2 := rfl
  have k0 : nm (A ++ V ++ C) A.length 1 = 0 := nm_put A (bitsOf 1 2 ++ laidBits fixP fixQ l ++ C) 0 1 (by decide) _ _ (by rw [hV, e3]; simp only [List.append_assoc]) rfl
  have k1 : nm (A ++ V ++ C) (A.length + 1) 2 = 1 := nm_put (A ++ bitsOf 0 1) (laidBits fixP fixQ l ++ C) 1 2 (by decide) _ _ (by rw [hV, e3]; simp only [List.append_assoc]) (by rw [List.length_append, bitsOf_length])
  have k2 := syms_put fixP_reads fixQ_reads (fix_len.1 256 (by decide)) l (A ++ bitsOf 2 3) C out o (fun t h => ⟨(ht t h).1, fix_has (ht t h).1 (ht t h).2⟩) hs
  unfold blockAt
  rw [if_neg (by omega), k0, k1, if_neg (by decide), if_pos rfl]
  rw [List.length_append, bitsOf_length] at k2
  rw [show A ++ V ++ C = A ++ bitsOf 2 3 ++ laidBits fixP fixQ l ++ C from by rw [hV]; simp only [List.append_assoc], k2, hV]
  simp only [Option.map_some, List.length_append, bitsOf_length]
  congr 3
  omega

theorem block_dynamic (A C H : List Bool) {P Q : List Nat} (hH : ∀ A C : List Bool, headAt (A ++ H ++ C) A.length = some (P, Q, A.length + H.length)) (hP : Reads P) (hQ : Reads Q) (he : 256 < P.length ∧ 0 < len P 256)
    (l : List Tok.Tk) (ht : ∀ t ∈ l, Tok.may t = true ∧ Has P Q t) (out o : List Nat) (hs : Tok.say out l = some o) (V : List Bool) (hV : V = bitsOf 5 3 ++ H ++ laidBits P Q l) :
    blockAt (A ++ V ++ C) A.length out = some (true, A.length + V.length, o) := by
  have hR : (A ++ V ++ C).length = A.length + 3 + H.length + (laidBits P Q l).length + C.length := by rw [hV]; simp only [List.length_append, bitsOf_length]; omega
  have e3 : bitsOf 5 3 = bitsOf 1 1 ++ bitsOf 2 2 := rfl
  have k0 : nm (A ++ V ++ C) A.length 1 = 1 := nm_put A (bitsOf 2 2 ++ H ++ laidBits P Q l ++ C) 1 1 (by decide) _ _ (by rw [hV, e3]; simp only [List.append_assoc]) rfl
  have k1 : nm (A ++ V ++ C) (A.length + 1) 2 = 2 := nm_put (A ++ bitsOf 1 1) (H ++ laidBits P Q l ++ C) 2 2 (by decide) _ _ (by rw [hV, e3]; simp only [List.append_assoc]) (by rw [List.length_append, bitsOf_length])
  have k2 := syms_put hP hQ he l (A ++ bitsOf 5 3 ++ H) C out o ht hs
  have k3 := hH (A ++ bitsOf 5 3) (laidBits P Q l ++ C)
  unfold blockAt
  rw [if_neg (by omega), k0, k1, if_neg (by decide), if_neg (by decide), if_pos rfl]
  simp only [List.length_append, bitsOf_length] at k2 k3
  rw [show A ++ V ++ C = A ++ bitsOf 5 3 ++ H ++ laidBits P Q l ++ C from by rw [hV]; simp only [List.append_assoc]]
  rw [← List.append_assoc (A ++ bitsOf 5 3 ++ H)] at k3
  rw [k3]
  simp only [Option.bind_some]
  rw [k2, hV]
  simp only [Option.map_some, List.length_append, bitsOf_length]
  congr 3
  omega

end Go.Proofs.YtpinfihmageeoaaGreat.Inf

namespace Go.Proofs.YtpinfihmageeoaaGreat.Inf
open Kraft Hd

theorem bitsOf_parts (v a b : Nat) (hv : v < 2 ^ (a + b)) : bitsOf v (a + b) = bitsOf (v % 2 ^ a) a ++ bitsOf (v / 2 ^ a) b := by
  have h1 : num (bitsOf (v % 2 ^ a) a ++ bitsOf (v / 2 ^ a) b) = v := by
    rw [num_append, num_bitsOf_lt (Nat.mod_lt _ (Nat.two_pow_pos _)), num_bitsOf_lt (Nat.div_lt_of_lt_mul (by rw [← Nat.pow_add]; exact hv)), bitsOf_length]
    have := Nat.div_add_mod v (2 ^ a)
    rw [Nat.mul_comm] at this
    omega
  have h2 := bitsOf_num (bitsOf (v % 2 ^ a) a ++ bitsOf (v / 2 ^ a) b)
  rw [h1, List.length_append, bitsOf_length, bitsOf_length] at h2
  exact h2

def storedBytes (b : List Nat) : List Nat := [0, b.length % 256, b.length / 256, 255 - b.length % 256, 255 - b.length / 256] ++ b

theorem stored_bits (b : List Nat) (hb : ∀ x ∈ b, x < 256) (hn : b.length ≤ 65535) :
    row (storedBytes b) = bitsOf 0 3 ++ bitsOf 0 5 ++ bitsOf b.length 16 ++ bitsOf (65535 - b.length) 16 ++ b.flatMap fun x => bitsOf x 8 := by
  unfold storedBytes
  have hh : ∀ x ∈ [0, b.length % 256, b.length / 256, 255 - b.length % 256, 255 - b.length / 256] ++ b, x < 256 := by
    intro x hx
    rcases List.mem_append.1 hx with h | h
    · simp only [List.mem_cons, List.not_mem_nil, or_false] at h
      omega
    · exact hb x h
  rw [row_bytes _ hh, List.flatMap_append]
  have e1 := bitsOf_parts b.length 8 8 (by omega)
  have e2 := bitsOf_parts (65535 - b.length) 8 8 (by omega)
  rw [show 8 + 8 = 16 from rfl, show 2 ^ 8 = 256 from rfl] at e1 e2
  rw [show (65535 - b.length) % 256 = 255 - b.length % 256 from by omega, show (65535 - b.length) / 256 = 255 - b.length / 256 from by omega] at e2
  rw [e1, e2, show bitsOf 0 3 ++ bitsOf 0 5 = bitsOf 0 8 from rfl]
  simp only [List.flatMap_cons, List.flatMap_nil, List.append_nil, List.append_assoc]

theorem infl_ahead {xs b : List Nat} {q : Nat} {o : List Nat} (h : infl xs = some (q, o)) (hb : ∀ x ∈ b, x < 256) (hn : b.length ≤ 65535) :
    infl (storedBytes b ++ xs) = some (q + 8 * (5 + b.length), b ++ o) := by
  have hV := stored_bits b hb hn
  have h1 := infl_some h
  have hblk := block_stored [] (row xs) b hb hn 5 (by rfl) (by omega) [] (row (storedBytes b)) hV
  rw [List.nil_append, List.length_nil, Nat.zero_add, List.nil_append, row_length] at hblk
  unfold infl
  rw [row_app, strm_on hblk]
  have hl : (storedBytes b).length = 5 + b.length := by unfold storedBytes; rw [List.length_append]; rfl
  have hs := strm_sees (pre := b) h (Sees.ahead (row (storedBytes b)) (row xs)) (by rw [row_length]; omega) (by rw [row_length]; omega)
  rw [row_length, hl, Nat.zero_add, List.append_nil] at hs
  rw [hl]
  exact hs

theorem used_ahead (q n : Nat) : used (q + 8 * (5 + n)) = used q + n + 5 := by unfold used; omega

theorem strm_laid (b : List Nat) (hb : ∀ x ∈ b, x < 256) (hn : b.length ≤ 65535) (l : List Tok.Tk) (ht : ∀ t ∈ l, Tok.may t = true ∧ t.2.2 < 256) {o1 o2 : List Nat} (h1 : Tok.say b l = some o1) (h2 : Tok.say o1 l = some o2)
    (H : List Bool) {P Q : List Nat} (hH : ∀ A C : List Bool, headAt (A ++ H ++ C) A.length = some (P, Q, A.length + H.length)) (hP : Reads P) (hQ : Reads Q) (he : 256 < P.length ∧ 0 < len P 256) (hHas : ∀ t ∈ l, Has P Q t)
    (C V1 V2 V3 : List Bool) (e1 : V1 = bitsOf 0 3 ++ bitsOf 0 5 ++ bitsOf b.length 16 ++ bitsOf (65535 - b.length) 16 ++ b.flatMap fun x => bitsOf x 8) (e2 : V2 = bitsOf 2 3 ++ laidBits fixP fixQ l) (e3 : V3 = bitsOf 5 3 ++ H ++ laidBits P Q l) :
    strm (V1 ++ V2 ++ V3 ++ C) 0 [] = some ((V1 ++ V2 ++ V3).length, o2) := by
  have k1 := block_stored [] (V2 ++ V3 ++ C) b hb hn 5 (by rfl) (by omega) [] V1 e1
  have k2 := block_fixed V1 (V3 ++ C) l ht b o1 h1 V2 e2
  have k3 := block_dynamic (V1 ++ V2) C H hH hP hQ he l (fun t h => ⟨(ht t h).1, hHas t h⟩) o1 o2 h2 V3 e3
  rw [List.nil_append, List.length_nil, Nat.zero_add, List.nil_append] at k1
  simp only [List.append_assoc, List.length_append] at k1 k2 k3 ⊢
  rw [strm_on k1, strm_on k2, strm_end k3]
  congr 2
  omega

theorem say_bytes (b : List Nat) : ∀ (out : List Nat) (T : List Tok.Tk), (∀ t ∈ T, Tok.isB t = true) → T.map (fun t => t.2.2) = b → Tok.say out T = some (out ++ b) := by
  induction b with
  | nil =>
    intro out T _ h
    cases T with
    | nil => simp [Tok.say]
    | cons t T => cases h
  | cons x b ih =>
    intro out T hT h
    cases T with
    | nil => cases h
    | cons t T =>
      obtain ⟨e1, e2⟩ := List.cons.inj h
      have := ih (out ++ [x]) T (fun t ht => hT t (List.mem_cons_of_mem _ ht)) e2
      have hB := hT t (List.mem_cons_self ..)
      have e1 : t.2.2 = x := e1
      rw [Tok.say]
      simp only [hB, if_true]
      rw [e1, this, List.append_assoc]
      rfl

end Go.Proofs.YtpinfihmageeoaaGreat.Inf

namespace Go.Proofs.YtpinfihmageeoaaGreat
open Go.RowKit

namespace Inf
open Kraft Hd

variable {R : List Bool}

theorem len_top (c x : Nat) (h1 : 257 ≤ c) (h2 : c ≤ 285) (hx : x < 2 ^ lenB c) : lenB c ≤ 5 ∧ lenL c + x ≤ 258 := by
  have : ∀ i, i ≤ 28 → lenB (257 + i) ≤ 5 ∧ lenL (257 + i) + 2 ^ lenB (257 + i) ≤ 259 := by unfold lenB lenL; rw [Tok.lenS_eq]; decide
  have h := this (c - 257) (by omega)
  rw [show 257 + (c - 257) = c from by omega] at h
  omega
theorem lenB_le (c : Nat) (h1 : 257 ≤ c) (h2 : c ≤ 285) : lenB c ≤ 5 := (len_top c 0 h1 h2 (Nat.two_pow_pos _)).1
theorem dis_top (d y : Nat) (h : d ≤ 29) (hy : y < 2 ^ disB d) : disB d ≤ 13 ∧ disL d + y ≤ 32768 := by
  have : ∀ i, i ≤ 29 → disB i ≤ 13 ∧ disL i + 2 ^ disB i ≤ 32769 := by unfold disB disL; rw [Tok.disS_eq]; decide
  have h := this d h
  omega
theorem disB_le (d : Nat) (h : d ≤ 29) : disB d ≤ 13 := (dis_top d 0 h (Nat.two_pow_pos _)).1

theorem step_bad {P Q : List Nat} {q : Nat} {o : List Nat} (h : symAt P R q = none) : step P Q R q o = none := by unfold step; rw [h]; rfl
theorem step_eob {P Q : List Nat} {q q' : Nat} {o : List Nat} (h : symAt P R q = some (256, q')) : step P Q R q o = some (true, q', o) := by unfold step; rw [h]; rfl
theorem step_lit {P Q : List Nat} {q q' c : Nat} {o : List Nat} (h : symAt P R q = some (c, q')) (hc : c < 256) : step P Q R q o = some (false, q', o ++ [c]) := by
  unfold step; rw [h]
  simp only [Option.bind_some]
  rw [if_neg (by omega), if_pos hc]
theorem step_over {P Q : List Nat} {q q' c : Nat} {o : List Nat} (h : symAt P R q = some (c, q')) (hc : 285 < c) : step P Q R q o = none := by
  unfold step; rw [h]
  simp only [Option.bind_some]
  rw [if_neg (by omega), if_neg (by omega), if_pos hc]
theorem step_len {P Q : List Nat} {q q' c : Nat} {o : List Nat} (h : symAt P R q = some (c, q')) (h1 : 256 < c) (h2 : c ≤ 285) :
    step P Q R q o = (numAt R q' (lenB c)).bind fun x => (farAt Q R x.2).bind fun y => if o.length < y.1 then none else some (false, y.2, Tok.rep y.1 (lenL c + x.1) o) := by
  unfold step; rw [h]
  simp only [Option.bind_some]
  rw [if_neg (by omega), if_neg (by omega), if_neg (by omega)]

theorem syms_len {P Q : List Nat} {q q' : Nat} {o o' : List Nat} (h : step P Q R q o = some (false, q', o')) : q < q' ∧ q' ≤ R.length := ⟨(step_some h).1, (step_some h).2.1⟩


theorem weight_single {L : List Nat} (h : single L = true) : weight L ≤ 1048576 := by
  unfold single at h
  simp only [Bool.and_eq_true, decide_eq_true_eq] at h
  have key : ∀ n, sumTo (fun j => Kraft.part (len L j)) n ≤ somes L n * 524288 := by
    intro n
    induction n with
    | zero => exact Nat.zero_le _
    | succ n ih =>
      unfold somes at ih ⊢
      rw [sumTo, sumTo]
      have := part_le (len L n)
      by_cases hz : len L n = 0
      · simp only [hz, if_true]
        rw [show Kraft.part 0 = 0 from rfl]
        omega
      · simp only [hz, if_false]
        omega
  have := key L.length
  rw [h.1] at this
  unfold weight
  omega

theorem mayH_fits {P Q : List Nat} (h : mayH P Q = true) : wordsErr P = 0 ∧ wordsErr Q = 0 := by
  obtain ⟨h1, h2, h3, h4, _, h6, h7⟩ := mayH_len h
  unfold mayH at h
  simp only [Bool.and_eq_true, Bool.or_eq_true] at h
  refine ⟨wordsErr_fits ((may_iff P).2 ⟨by omega, fun x hx => by have := h6 x hx; omega⟩) ?_, wordsErr_fits ((may_iff Q).2 ⟨by omega, fun x hx => by have := h7 x hx; omega⟩) ?_⟩
  · rcases h.2.1 with g | g
    · unfold full at g; simp only [decide_eq_true_eq] at g; omega
    · exact weight_single g
  · rcases h.2.2 with (g | g) | g
    · unfold full at g; simp only [decide_eq_true_eq] at g; omega
    · simp only [decide_eq_true_eq] at g; omega
    · exact weight_single g

theorem fix_fits : wordsErr fixP = 0 ∧ wordsErr fixQ = 0 := by
  refine ⟨wordsErr_fits (by decide +kernel) fixP_reads.2, wordsErr_fits (by decide +kernel) fixQ_reads.2⟩


theorem step_far {P Q : List Nat} {R : List Bool} {p p' : Nat} {out out' : List Nat} {b : Bool} (h : step P Q R p out = some (b, p', out')) : out'.length ≤ out.length + 258 := by
  unfold step at h
  obtain ⟨⟨c, p1⟩, h1, h2⟩ := Option.bind_eq_some_iff.1 h
  simp only at h2
  split at h2
  · obtain ⟨_, e2⟩ := Prod.mk.inj (Option.some.inj h2)
    obtain ⟨_, e3⟩ := Prod.mk.inj e2
    rw [← e3]; omega
  · split at h2
    · obtain ⟨_, e2⟩ := Prod.mk.inj (Option.some.inj h2)
      obtain ⟨_, e3⟩ := Prod.mk.inj e2
      rw [← e3]; simp
    · split at h2
      · cases h2
      · obtain ⟨⟨x, p2⟩, h3, h4⟩ := Option.bind_eq_some_iff.1 h2
        obtain ⟨⟨f, p3⟩, h5, h6⟩ := Option.bind_eq_some_iff.1 h4
        simp only at h6
        split at h6
        · cases h6
        · obtain ⟨_, e2⟩ := Prod.mk.inj (Option.some.inj h6)
          obtain ⟨_, e3⟩ := Prod.mk.inj e2
          obtain ⟨_, _, hx⟩ := numAt_le h3
          have := nm_lt R p1 (lenB c)
          rw [← hx] at this
          have := (len_top c x (by omega) (by omega) this).2
          rw [← e3, Tok.rep_length]
          simp only at *
          omega

theorem syms_far {P Q : List Nat} {R : List Bool} {p q : Nat} {out o : List Nat} (h : syms P Q R p out = some (q, o)) : o.length ≤ out.length + 258 * (q - p) := by
  have := syms_ind (P := P) (Q := Q) (R := R) (C := fun p out q o => p < q ∧ o.length ≤ out.length + 258 * (q - p)) (fun p p' out out' hp h => by
      have h1 := (step_some h).1
      have h2 := step_far h
      exact ⟨h1, by omega⟩) (fun p p' out out' q o hp h _ ⟨g1, g2⟩ => by
      have h1 := (step_some h).1
      have h2 := step_far h
      exact ⟨by omega, by omega⟩) _ p out q o (Nat.le_refl _) h
  exact this.2

theorem block_far {R : List Bool} {p q : Nat} {out o : List Nat} {b : Bool} (h : blockAt R p out = some (b, q, o)) : o.length ≤ out.length + 258 * (q - p) := by
  unfold blockAt at h
  split at h
  · cases h
  · obtain ⟨⟨q1, o1⟩, h1, h2⟩ := Option.map_eq_some_iff.1 h
    obtain ⟨_, e2⟩ := Prod.mk.inj h2
    obtain ⟨rfl, rfl⟩ := Prod.mk.inj e2
    split at h1
    · obtain ⟨g1, g2, g3, _⟩ := stored_some h1
      rw [g3, List.length_append, bytesAt_length]
      have := up8_le (p + 3)
      omega
    · split at h1
      · have := syms_far h1
        have := syms_some h1
        omega
      · split at h1
        · obtain ⟨y, g1, g2⟩ := Option.bind_eq_some_iff.1 h1
          have := syms_far g2
          have := syms_some g2
          have := (head_more g1 []).2.2.1
          omega
        · cases h1


theorem step_byte {P Q : List Nat} {p p' : Nat} {out out' : List Nat} {b : Bool} (h : step P Q R p out = some (b, p', out')) (ho : ∀ x ∈ out, x < 256) : ∀ x ∈ out', x < 256 := by
  unfold step at h
  obtain ⟨⟨c, p1⟩, h1, h2⟩ := Option.bind_eq_some_iff.1 h
  simp only at h2
  split at h2
  · obtain ⟨_, e2⟩ := Prod.mk.inj (Option.some.inj h2)
    obtain ⟨_, e3⟩ := Prod.mk.inj e2
    rw [← e3]; exact ho
  · split at h2
    · rename_i hc
      obtain ⟨_, e2⟩ := Prod.mk.inj (Option.some.inj h2)
      obtain ⟨_, e3⟩ := Prod.mk.inj e2
      rw [← e3]
      intro x hx
      rcases List.mem_append.1 hx with g | g
      · exact ho x g
      · rw [List.mem_singleton.1 g]; exact hc
    · split at h2
      · cases h2
      · obtain ⟨⟨x, p2⟩, h3, h4⟩ := Option.bind_eq_some_iff.1 h2
        obtain ⟨⟨f, p3⟩, h5, h6⟩ := Option.bind_eq_some_iff.1 h4
        simp only at h6
        split at h6
        · cases h6
        · obtain ⟨_, e2⟩ := Prod.mk.inj (Option.some.inj h6)
          obtain ⟨_, e3⟩ := Prod.mk.inj e2
          rw [← e3]
          exact Tok.rep_byte _ _ _ ho

theorem syms_byte {P Q : List Nat} {p q : Nat} {out o : List Nat} (h : syms P Q R p out = some (q, o)) (ho : ∀ x ∈ out, x < 256) : ∀ x ∈ o, x < 256 :=
  syms_ind (P := P) (Q := Q) (R := R) (C := fun _ out _ o => (∀ x ∈ out, x < 256) → ∀ x ∈ o, x < 256) (fun _ _ _ _ _ h ho => step_byte h ho) (fun _ _ _ _ _ _ _ h _ ih ho => ih (step_byte h ho)) _ p out q o (Nat.le_refl _) h ho

theorem bytesAt_byte (R : List Bool) (p n : Nat) : ∀ x ∈ bytesAt R p n, x < 256 := by
  intro x hx
  unfold bytesAt at hx
  obtain ⟨i, _, rfl⟩ := List.mem_map.1 hx
  exact nm_lt R (p + 8 * i) 8

theorem block_byte {p q : Nat} {out o : List Nat} {b : Bool} (h : blockAt R p out = some (b, q, o)) (ho : ∀ x ∈ out, x < 256) : ∀ x ∈ o, x < 256 := by
  unfold blockAt at h
  split at h
  · cases h
  · obtain ⟨⟨q1, o1⟩, h1, h2⟩ := Option.map_eq_some_iff.1 h
    obtain ⟨_, e2⟩ := Prod.mk.inj h2
    obtain ⟨rfl, rfl⟩ := Prod.mk.inj e2
    split at h1
    · obtain ⟨_, _, g3, _⟩ := stored_some h1
      rw [g3]
      intro x hx
      rcases List.mem_append.1 hx with g | g
      · exact ho x g
      · exact bytesAt_byte _ _ _ x g
    · split at h1
      · exact syms_byte h1 ho
      · split at h1
        · obtain ⟨y, _, g2⟩ := Option.bind_eq_some_iff.1 h1
          exact syms_byte g2 ho
        · cases h1

theorem strm_byte {p q : Nat} {out o : List Nat} (h : strm R p out = some (q, o)) (ho : ∀ x ∈ out, x < 256) : ∀ x ∈ o, x < 256 :=
  strm_ind (R := R) (C := fun _ out _ o => (∀ x ∈ out, x < 256) → ∀ x ∈ o, x < 256) (fun _ _ _ _ h ho => block_byte h ho) (fun _ _ _ _ _ _ h _ ih ho => ih (block_byte h ho)) _ p out q o (Nat.le_refl _) h ho

theorem strm_far {p q : Nat} {out o : List Nat} (h : strm R p out = some (q, o)) : o.length ≤ out.length + 258 * (q - p) := by
  have := strm_ind (R := R) (C := fun p out q o => p < q ∧ o.length ≤ out.length + 258 * (q - p)) (fun p q out o h => ⟨(block_some h).1, block_far h⟩) (fun p p' out out' q o h _ ⟨g1, g2⟩ => by
      have h1 := (block_some h).1
      have h2 := block_far h
      exact ⟨by omega, by omega⟩) _ p out q o (Nat.le_refl _) h
  exact this.2

theorem infl_byte {xs : List Nat} {q : Nat} {o : List Nat} (h : infl xs = some (q, o)) : ∀ x ∈ o, x < 256 := strm_byte h (fun _ hx => by cases hx)
theorem infl_far {xs : List Nat} {q : Nat} {o : List Nat} (h : infl xs = some (q, o)) : o.length ≤ 258 * q := by
  have := strm_far h
  simpa using this

end Inf
end Go.Proofs.YtpinfihmageeoaaGreat
