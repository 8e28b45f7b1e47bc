/-
  Contracts of package lcp: Common; the document's Least. No conditions but that rows are small.
-/
import Derived.Test.YtfifkbadniekfaaLcpP
import Derived.Test.YtfifkbadniekfaaSufH
namespace Go.Proofs.Ytfifkbadniekfaa.Lcp
set_option linter.unusedVariables false
open Go.RowKit Go.Proofs.Ytfifkbadniekfaa.Suf

theorem fold_min : ∀ (l : List Int) (x : Int), (l.foldl min x = x ∨ l.foldl min x ∈ l) ∧ l.foldl min x ≤ x ∧ ∀ y ∈ l, l.foldl min x ≤ y
  | [], x => ⟨.inl rfl, by simp, fun y hy => by cases hy⟩
  | a :: l, x => by
    obtain ⟨h1, h2, h3⟩ := fold_min l (min x a)
    rw [List.foldl_cons]
    refine ⟨?_, by omega, fun y hy => ?_⟩
    · rcases h1 with h1 | h1
      · rw [h1]
        rcases Int.le_total x a with h | h
        · exact .inl (by omega)
        · exact .inr (by rw [show min x a = a by omega]; exact List.mem_cons_self ..)
      · exact .inr (List.mem_cons_of_mem _ h1)
    · rcases List.mem_cons.1 hy with rfl | hy
      · omega
      · exact h3 y hy

theorem fold_least {H : List Int} {i j : Nat} (hij : i < j) {x : Int} (hj : H[j]? = some x) : Least H i j (((H.drop (i + 1)).take (j - (i + 1))).foldl min x) := by
  obtain ⟨h1, h2, h3⟩ := fold_min ((H.drop (i + 1)).take (j - (i + 1))) x
  generalize ((H.drop (i + 1)).take (j - (i + 1))).foldl min x = m at *
  have hl := (List.getElem?_eq_some_iff.1 hj).1
  refine ⟨?_, fun k v a1 a2 a3 => ?_⟩
  · rcases h1 with h1 | h1
    · exact ⟨j, hij, Nat.le_refl _, by rw [hj, h1]⟩
    · obtain ⟨t, ht, e⟩ := List.mem_iff_getElem.1 h1
      have ht' : t < j - (i + 1) := by
        rw [List.length_take, List.length_drop] at ht
        omega
      refine ⟨i + 1 + t, by omega, by omega, ?_⟩
      rw [← e, List.getElem_take, List.getElem_drop, List.getElem?_eq_getElem]
  · by_cases e : k = j
    · subst e
      rw [hj] at a3
      have := Option.some.inj a3
      omega
    · refine h3 v (List.mem_iff_getElem?.2 ⟨k - (i + 1), ?_⟩)
      rw [List.getElem?_take_of_lt (by omega), List.getElem?_drop, show i + 1 + (k - (i + 1)) = k by omega, a3]

theorem intSub {w : World} {a : Option Addr} {len cap : Nat} {xs : List Int} (h : IntRow w (.slice a len cap) xs) (p n : Nat) (hp : p + n ≤ xs.length) (hc : ¬ cap = p) : IntRow w (.slice (a.map (·.add p)) n (cap - p)) ((xs.drop p).take n) := by
  obtain ⟨a', cap', e, h1, hn, hat⟩ := h
  obtain ⟨rfl, rfl, rfl⟩ := Value.slice.inj e
  have hl : ((xs.drop p).take n).length = n := by rw [List.length_take, List.length_drop]; omega
  refine ⟨_, cap - p, by rw [hl], by omega, ?_, fun i hi => ?_⟩
  · intro e1
    cases a with
    | none => have := hn rfl; omega
    | some x => simp at e1
  · rw [hl] at hi
    obtain ⟨hb, b, off, rfl, c0⟩ := hat (p + i) (by omega)
    have hg : ((xs.drop p).take n)[i]'(by omega) = xs[p + i]'(by omega) := by simp
    refine ⟨by rw [hg]; exact hb, b, off + p, ?_, by rw [hg, Nat.add_assoc]; exact c0⟩
    rw [Option.map_some, add_none]

theorem intAt {w : World} {v : Value} {xs : List Int} (h : IntRow w v xs) : ∃ a c, v = .slice a xs.length c ∧ xs.length ≤ c ∧ ∀ i (hi : i < xs.length), (-9223372036854775808 ≤ xs[i] ∧ xs[i] ≤ 9223372036854775807) ∧ ∃ b off, a = some ⟨b, off, none⟩ ∧ w.cell? ⟨b, off + i, none⟩ = some (.int .i64 xs[i]) := by
  obtain ⟨a, c, e, h1, _, hat⟩ := h
  exact ⟨a, c, e, h1, hat⟩

set_option maxRecDepth 100000 in
set_option maxHeartbeats 1000000 in
/-- least: the least of numbers. -/
theorem least_any (w : World) (z : Int) (v : Value) (xs : List Int) (h : IntRow w v xs) (hx : xs.length ≤ 1000000) :
    Calls Try.prog 22 #[.int .i64 z, v] w fun e w' => e = .returned (.int .i64 (xs.foldl min z)) ∧ w' = w := by
  obtain ⟨va, vc, rfl, hc, hat⟩ := intAt h
  have HA := Lib.hid hat
  clear hat h
  obtain ⟨n, hn⟩ : ∃ n, xs.length = n := ⟨_, rfl⟩
  rw [hn] at hx hc
  have HN := Lib.hid hn
  rw [hn]
  clear hn
  go_enter Try.func22, Try.ntmps22
  go_wp2
  go_loopw [0, 9] (fun y i wr => ∃ (k : Nat) (m : Int), k ≤ n ∧ i = .int .i64 (k : Int) ∧ y = .int .i64 m ∧ Hid ((xs.take k).foldl min z = m) ∧ wr = w) (fun _ i _ => n - (intOf i).toNat)
  case atStart => exact ⟨0, z, by omega, rfl, rfl, Lib.hid rfl, rfl⟩
  case round =>
    obtain ⟨k, m, hk, rfl, rfl, hm, rfl⟩ := hrel
    by_cases hlt : k < n
    · obtain ⟨_, b, off, rfl, c0⟩ := HA.out k (by rw [HN.out]; exact hlt)
      have hnext : (xs.take (k + 1)).foldl min z = min m (xs[k]'(by rw [HN.out]; exact hlt)) := by
        rw [List.take_succ_eq_append_getElem (by rw [HN.out]; exact hlt), List.foldl_append, hm.out]; rfl
      have HX := Lib.hid hnext
      clear hnext
      generalize xs[k]'(by rw [HN.out]; exact hlt) = y at *
      have hmin : (if y < m then y else m) = min m y := by split <;> omega
      go_wp2
      go_roundw
      case rel => exact ⟨k + 1, min m y, by omega, by go_num, by simp only [hmin] at *; try rfl, HX, trivial⟩
      case measure => simp [intOf]; omega
    · obtain rfl : n = k := by omega
      have he : xs.foldl min z = m := by have := hm.out; rwa [List.take_of_length_le (by rw [HN.out]; omega)] at this
      have HE := Lib.hid he
      clear he
      go_wp2
      go_ret
      exact ⟨by rw [HE.out]; rfl, rfl⟩

/-- What Common answers. -/
def ComAns (xs : List Int) (p q : Int) (e : Ending) : Prop :=
  ((p < 0 ∨ q ≤ p ∨ (xs.length : Int) ≤ q) ∧ e = .returned (.tuple #[.int .i64 0, .int .i64 5])) ∨
  ∃ (i j : Nat) (m : Int), p = (i : Int) ∧ q = (j : Int) ∧ i < j ∧ j < xs.length ∧ Least xs i j m ∧ e = .returned (.tuple #[.int .i64 m, .int .i64 0])

set_option maxRecDepth 100000 in
set_option maxHeartbeats 1000000 in
/-- Common: the least of the heights behind p, up to q. -/
theorem common_any (w : World) (v : Value) (xs : List Int) (h : IntRow w v xs) (hx : xs.length ≤ 1000000) (p q : Int) :
    Calls Try.prog 13 #[v, .int .i64 p, .int .i64 q] w fun e w' => ComAns xs p q e ∧ ∃ k, w' = w.drewN k := by
  obtain ⟨va, vc, rfl, hc, hat⟩ := intAt h
  obtain ⟨n, hn⟩ : ∃ n, xs.length = n := ⟨_, rfl⟩
  by_cases c1 : p < 0
  · clear hat h
    rw [hn]
    go_enter Try.func13, Try.ntmps13
    go_wp2
    go_ret2
    exact ⟨.inl ⟨.inl c1, rfl⟩, 0, rfl⟩
  by_cases c2 : q ≤ p
  · clear hat h
    rw [hn]
    go_enter Try.func13, Try.ntmps13
    go_wp2
    go_ret2
    exact ⟨.inl ⟨.inr (.inl c2), rfl⟩, 0, rfl⟩
  by_cases c3 : (n : Int) ≤ q
  · clear hat h
    rw [hn]
    go_enter Try.func13, Try.ntmps13
    go_wp2
    go_ret2
    exact ⟨.inl ⟨.inr (.inr (by rw [hn]; exact c3)), rfl⟩, 0, rfl⟩
  obtain ⟨i, rfl⟩ : ∃ i : Nat, p = (i : Int) := ⟨p.toNat, by omega⟩
  obtain ⟨j, rfl⟩ : ∃ j : Nat, q = (j : Int) := ⟨q.toNat, by omega⟩
  have hij : i < j := by omega
  have hj : j < n := by omega
  obtain ⟨_, b, off, rfl, c0⟩ := hat j (by omega)
  have hlast : xs[j]? = some (xs[j]'(by omega)) := List.getElem?_eq_getElem _
  have hL := fold_least hij hlast
  have hvc : ¬ vc = i + 1 := by omega
  have hsub := intSub h (i + 1) (j - (i + 1)) (by omega) hvc
  have hcall := fun m => least_any (w.drewN m) (xs[j]'(by omega)) _ _ (IntRow.below hsub (below_drewN m) (Nat.le_refl _)) (by rw [List.length_take]; omega)
  rw [Option.map_some, add_none] at hcall
  generalize ((xs.drop (i + 1)).take (j - (i + 1))).foldl min (xs[j]'(by omega)) = m at *
  generalize xs[j]'(by omega) = z at *
  have HL := Lib.hid (And.intro hL hn)
  rw [hn] at hc hx ⊢
  clear hL hat h hsub hlast hn
  obtain ⟨d, hd⟩ : ∃ d, j - (i + 1) = d := ⟨_, rfl⟩
  rw [hd] at hcall
  have hcall' : ∀ k, Calls Try.prog 22 #[.int .i64 z, .slice (some ⟨b, off + (i + 1), none⟩) d (vc - (i + 1))] (w.drewN k) fun e w' => e = .returned (.int .i64 m) ∧ w' = w.drewN k := hcall
  clear hcall
  have i1 : (i : Int) + 1 ≤ (j : Int) := by omega
  have i2 : (j : Int) < (n : Int) := by omega
  have i3 : (j : Int) ≤ (vc : Int) := by omega
  go_enter Try.func13, Try.ntmps13
  go_wp2
  go_quiet ((go_at_call 22; exact Calls.quiet_of_same (hcall' _)))
  go_wp2
  go_ret2
  exact ⟨.inr ⟨i, j, m, rfl, rfl, hij, by rw [HL.out.2]; exact hj, HL.out.1, rfl⟩, _, rfl⟩

set_option maxRecDepth 100000 in
set_option maxHeartbeats 1000000 in
/-- The document's Least. -/
theorem refLeast_any (w : World) (v : Value) (xs : List Int) (h : IntRow w v xs) (hx : xs.length ≤ 1000000) (p q : Int) :
    Calls Try.prog 14 #[v, .int .i64 p, .int .i64 q] w fun e w' => ComAns xs p q e ∧ w' = w := by
  obtain ⟨va, vc, rfl, hc, hat⟩ := intAt h
  obtain ⟨n, hn⟩ : ∃ n, xs.length = n := ⟨_, rfl⟩
  clear h
  by_cases c1 : p < 0
  · clear hat
    rw [hn]
    go_enter Try.func14, Try.ntmps14
    go_wp2
    go_ret2
    exact ⟨.inl ⟨.inl c1, rfl⟩, rfl⟩
  by_cases c2 : q ≤ p
  · clear hat
    rw [hn]
    go_enter Try.func14, Try.ntmps14
    go_wp2
    go_ret2
    exact ⟨.inl ⟨.inr (.inl c2), rfl⟩, rfl⟩
  by_cases c3 : (n : Int) ≤ q
  · clear hat
    rw [hn]
    go_enter Try.func14, Try.ntmps14
    go_wp2
    go_ret2
    exact ⟨.inl ⟨.inr (.inr (by rw [hn]; exact c3)), rfl⟩, rfl⟩
  obtain ⟨i, rfl⟩ : ∃ i : Nat, p = (i : Int) := ⟨p.toNat, by omega⟩
  obtain ⟨j, rfl⟩ : ∃ j : Nat, q = (j : Int) := ⟨q.toNat, by omega⟩
  have hij : i < j := by omega
  have hj : j < n := by omega
  obtain ⟨_, b, off, rfl, c0⟩ := hat (i + 1) (by omega)
  have hat2 : ∀ k, k < n → ∃ z, xs[k]? = some z ∧ w.cell? ⟨b, off + k, none⟩ = some (.int .i64 z) := fun k hk => by
    obtain ⟨_, b', off', e, c⟩ := hat k (by omega)
    obtain ⟨rfl, rfl⟩ : b = b' ∧ off = off' := by simpa using e
    exact ⟨_, List.getElem?_eq_getElem _, c⟩
  have HA := Lib.hid hat2
  have hfirst : xs[i + 1]? = some (xs[i + 1]'(by omega)) := List.getElem?_eq_getElem _
  have h0 : (∃ k, i < k ∧ k ≤ j ∧ xs[k]? = some (xs[i + 1]'(by omega))) ∧ ∀ k v, i < k → k < i + 1 → xs[k]? = some v → (xs[i + 1]'(by omega)) ≤ v := ⟨⟨i + 1, by omega, by omega, hfirst⟩, fun k v a1 a2 => by omega⟩
  have H0 := Lib.hid h0
  clear h0 hat hat2
  generalize xs[i + 1]'(by omega) = z at *
  have HN := Lib.hid hn
  rw [hn] at hc hx ⊢
  clear hfirst hn
  have i1 : (i : Int) + 1 < (n : Int) := by omega
  go_enter Try.func14, Try.ntmps14
  go_wp2
  go_loopw [8, 9] (fun y k wr => ∃ (m : Int) (t : Nat), i + 1 ≤ t ∧ t ≤ j + 1 ∧ y = .int .i64 m ∧ k = .int .i64 (t : Int) ∧ Hid ((∃ k, i < k ∧ k ≤ j ∧ xs[k]? = some m) ∧ ∀ k v, i < k → k < t → xs[k]? = some v → m ≤ v) ∧ wr = w) (fun _ k _ => j + 1 - (intOf k).toNat)
  case atStart => exact ⟨z, i + 1, by omega, by omega, rfl, by go_num, H0, rfl⟩
  case round =>
    clear H0 c0
    obtain ⟨m, t, ht1, ht2, rfl, rfl, hm, rfl⟩ := hrel
    by_cases hlt : t ≤ j
    · obtain ⟨y, hy, c0⟩ := HA.out t (by omega)
      have HY := Lib.hid hy
      clear hy
      have i2 : (t : Int) < (n : Int) := by omega
      have i3 : (t : Int) ≤ (j : Int) := by omega
      by_cases hlow : y < m
      · go_wp2
        go_roundw
        case rel =>
          refine ⟨y, t + 1, by omega, by omega, rfl, by go_num, Lib.hid ⟨⟨t, by omega, hlt, HY.out⟩, fun k v a1 a2 a3 => ?_⟩, trivial⟩
          by_cases e : k = t
          · subst e
            rw [HY.out] at a3
            have := Option.some.inj a3
            omega
          · have := hm.out.2 k v a1 (by omega) a3
            omega
        case measure => simp [intOf]; omega
      · go_wp2
        go_roundw
        case rel =>
          refine ⟨m, t + 1, by omega, by omega, rfl, by go_num, Lib.hid ⟨hm.out.1, fun k v a1 a2 a3 => ?_⟩, trivial⟩
          by_cases e : k = t
          · subst e
            rw [HY.out] at a3
            have := Option.some.inj a3
            omega
          · exact hm.out.2 k v a1 (by omega) a3
        case measure => simp [intOf]; omega
    · have i3 : ¬ (t : Int) ≤ (j : Int) := by omega
      go_wp2
      go_ret2
      exact ⟨.inr ⟨i, j, m, rfl, rfl, hij, by rw [HN.out]; exact hj, ⟨hm.out.1, fun k v a1 a2 a3 => hm.out.2 k v a1 (by omega) a3⟩, rfl⟩, rfl⟩

end Go.Proofs.Ytfifkbadniekfaa.Lcp
