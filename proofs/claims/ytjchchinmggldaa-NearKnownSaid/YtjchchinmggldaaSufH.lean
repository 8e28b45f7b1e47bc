/-
  Slices of int of either sign, of the call's own; pressworkref13.Same; package sufsort's Places, and the document's. No conditions but that rows are small.
-/
import Derived.Test.YtjchchinmggldaaSufG
namespace Go.Proofs.Ytjchchinmggldaa.Suf
open Go.RowKit

def iVals (xs : List Int) : List Value := xs.map fun (x : Int) => Value.int .i64 x
theorem iVals_length (xs : List Int) : (iVals xs).length = xs.length := by simp [iVals]
theorem iVals_get (xs : List Int) (i : Nat) (h : i < xs.length) : (iVals xs)[i]? = some (.int .i64 xs[i]) := by simp [iVals, h]
theorem iVals_one (xs : List Int) : ∀ u ∈ iVals xs, u.oneCell' = true := by
  intro u hu
  simp only [iVals, List.mem_map] at hu
  obtain ⟨x, _, rfl⟩ := hu
  rfl

theorem readsInts {w : World} {v : Value} {xs : List Int} (h : IntRow w v xs) : Reads w v (iVals xs) := by
  obtain ⟨a, cap, rfl, hc, hn, hat⟩ := h
  cases a with
  | none =>
    have := hn rfl
    have h0 : xs = [] := List.eq_nil_of_length_eq_zero (by omega)
    subst h0 this
    exact .inl ⟨rfl, rfl⟩
  | some a =>
    refine .inr ⟨a, cap, by rw [iVals_length], fun j u hu => ?_⟩
    have hj : j < xs.length := by
      have := (List.getElem?_eq_some_iff.1 hu).1
      rwa [iVals_length] at this
    obtain ⟨_, b, off, e, hcell⟩ := hat j hj
    obtain rfl := Option.some.inj e
    rw [add_none, hcell, ← hu, iVals_get _ _ hj]

theorem wpList_copyInts {ops : Array Oper} {rest : List Oper} {o : Oper} {a : Act} {Q : Exit → Act → World → Prop} (hw : Region.wanted o (yielded ops a.tmps) = true) (s x : Operand)
    (ho : o.op = .call { callee := .builtin .append, args := #[s, x], argTypes := #[22, 22] })
    {B : Nat} {w0 w2 : World} {r : List Thing} (st : St B w0 w2 r) {v : Value} {xs : List Int} (h0 : IntRow w2 v xs) (hs : a.eval s = .slice (some ⟨w2.heap.size, 0, none⟩) 0 0) (hx : a.eval x = v) (hl : xs.length ≤ 1000000)
    (K : ∀ v' w', St B w0 w' (rowT 3 1 v' xs.length (iVals xs) :: r) → wpList Try.prog ops Q rest (a.put o.dst v') w') : wpList Try.prog ops Q (o :: rest) a (w2.alloc (.cells #[] 3)) := by
  have s1 : St B w0 (w2.alloc (.cells #[] 3)) (rowT 3 1 (.slice (some ⟨w2.heap.size, 0, none⟩) 0 0) 0 [] :: r) :=
    st.addRow (below_alloc w2 _) (World.ownsRow_made w2 #[] 0 (Nat.le_refl _) (by unfold maxLen; omega) rfl)
  have h := h0.below (below_alloc w2 (.cells #[] 3)) (Nat.le_refl _)
  obtain ⟨i0, hi, hz0, hz1, hz2⟩ := info_parts infoI
  have hr := readsInts h
  obtain ⟨ad, cap, rfl, hc, hn, hat⟩ := h
  refine wpList_append_mineW _ hw s x 22 ho 3 i0 (.int .i64 0) 1 8 Try.underlying22 hi hz0 hz1 hz2 rfl (by decide) _ 0 [] hs s1.row ad xs.length cap (iVals xs) hx ?_ (by rw [iVals_length]; omega) ?_ (iVals_one xs) (by unfold maxLen; omega) (by omega) ?_
  · intro e1
    have := hn e1
    exact ⟨by omega, this⟩
  · intro b hb j u hu
    rcases hr with ⟨e1, e2⟩ | ⟨a', cap', e1, e2⟩
    · rw [e2] at hu; simp at hu
    · have e3 : ad = some a' := (Value.slice.inj e1).1
      rw [hb] at e3
      obtain rfl := Option.some.inj e3
      exact e2 j u hu
  · intro v' w' g1 g2 g3
    have s2 := s1.grown g1 g2 g3
    rw [Nat.zero_add, List.nil_append] at s2
    exact K v' w' s2

theorem intRow_of {w : World} {base n : Nat} {e : TypeId} {v : Value} {xs : List Int} (h : w.ownsRow base e 1 v n (iVals xs)) (hl : xs.length = n) (hx : ∀ x ∈ xs, -9223372036854775808 ≤ x ∧ x ≤ 9223372036854775807) : IntRow w v xs := by
  subst hl
  rcases h.2 with ⟨rfl, h0⟩ | ⟨g, cap, cur, rfl, _, hg, hnc, _⟩
  · obtain rfl : xs = [] := List.eq_nil_of_length_eq_zero h0
    exact ⟨none, 0, rfl, Nat.le_refl _, fun _ => rfl, fun i hi => absurd hi (by simp)⟩
  · refine ⟨_, cap, rfl, hnc, (fun e => by cases e), fun i hi => ⟨hx _ (List.getElem_mem hi), g, 0, rfl, ?_⟩⟩
    rw [Nat.zero_add, h.cellAt i (by omega), iVals_get _ _ hi]

/-- A row of the call's own at block g, of n numbers of either sign. -/
abbrev intsT (g n : Nat) (xs : List Int) : Thing := rowT 3 1 (.slice (some ⟨g, 0, none⟩) n n) n (iVals xs)

theorem intCell {B : Nat} {w0 w : World} {g n : Nat} {xs : List Int} {r : List Thing} (h : St B w0 w (intsT g n xs :: r)) (i : Nat) (hl : xs.length = n) (hi : i < n) :
    w.cell? ⟨g, i, none⟩ = some (.int .i64 (xs[i]'(by omega))) ∧ w.frozen? ⟨g, i, none⟩ = false := by
  refine ⟨?_, h.row.frozenAt i⟩
  rw [h.row.cellAt i (by omega), iVals_get _ _ (by omega)]

theorem putInt {B : Nat} {w0 w : World} {g n : Nat} {xs : List Int} {r : List Thing} (h : St B w0 w (intsT g n xs :: r)) (i : Nat) (x : Int) : St B w0 (w.setCell ⟨g, i, none⟩ (.int .i64 x)) (intsT g n (xs.set i x) :: r) := by
  have := h.stored i (.int .i64 x)
  rwa [show (iVals xs).set i (.int .i64 x) = iVals (xs.set i x) from by simp [iVals, List.map_set]] at this

theorem iVals_nums (xs : List Nat) : iVals (xs.map fun x : Nat => (x : Int)) = i64s xs := by simp [iVals, i64s]

theorem NumRow.intRow {w : World} {v : Value} {xs : List Nat} (h : NumRow w v xs) (hx : ∀ x ∈ xs, x ≤ 1000000) : IntRow w v (xs.map fun x : Nat => (x : Int)) := h.ints fun x hx' => by have := hx x hx'; omega

set_option maxRecDepth 100000 in
set_option maxHeartbeats 1000000 in
/-- Same: are two rows the same? -/
theorem same_any (w : World) (u v : Value) (xs ys : List Int) (hu : IntRow w u xs) (hv : IntRow w v ys) (hx : xs.length ≤ 1000000) :
    Calls Try.prog 9 #[u, v] w fun e w' => e = .returned (.bool (decide (xs = ys))) ∧ ∃ k, w' = w.drewN k := by
  obtain ⟨ua, uc, rfl⟩ : ∃ a c, u = .slice a xs.length c := by obtain ⟨a, c, e, _⟩ := hu; exact ⟨a, c, e⟩
  obtain ⟨va, vc, rfl⟩ : ∃ a c, v = .slice a ys.length c := by obtain ⟨a, c, e, _⟩ := hv; exact ⟨a, c, e⟩
  have hread : ∀ i (h : i < xs.length) (h' : i < ys.length), ∃ b off b' off', ua = some ⟨b, off, none⟩ ∧ w.cell? ⟨b, off + i, none⟩ = some (.int .i64 xs[i]) ∧ va = some ⟨b', off', none⟩ ∧ w.cell? ⟨b', off' + i, none⟩ = some (.int .i64 ys[i]) := by
    intro i h h'
    obtain ⟨a, c, e, _, _, hat⟩ := hu
    obtain ⟨rfl, -, -⟩ := Value.slice.inj e
    obtain ⟨_, b, off, e1, e2⟩ := hat i h
    obtain ⟨a', c', e', _, _, hat'⟩ := hv
    obtain ⟨rfl, -, -⟩ := Value.slice.inj e'
    obtain ⟨_, b', off', e3, e4⟩ := hat' i h'
    exact ⟨b, off, b', off', e1, e2, e3, e4⟩
  have HR := Lib.hid hread
  clear hread hu hv
  by_cases hl : xs.length = ys.length
  · have HL := Lib.hid hl
    obtain ⟨n, hn⟩ : ∃ n, xs.length = n := ⟨_, rfl⟩
    have hn2 : ys.length = n := by rw [← hl, hn]
    rw [hn, hn2]
    have HN := Lib.hid (And.intro hn hn2)
    have hn6 : n ≤ 1000000 := by omega
    clear hl hn hn2 hx
    go_enter Try.func9, Try.ntmps9
    go_wp2
    go_loopw [5] (fun i wr => ∃ k m : Nat, k ≤ n ∧ i = .int .i64 (k : Int) ∧ Hid (xs.take k = ys.take k) ∧ wr = w.drewN m) (fun i _ => n - (intOf i).toNat)
    case atStart => exact ⟨0, 0, by omega, rfl, Lib.hid rfl, rfl⟩
    case round =>
      obtain ⟨k, m, hk, rfl, ht, rfl⟩ := hrel
      by_cases hlt : k < n
      · obtain ⟨b, off, b', off', rfl, c0, rfl, c1⟩ := HR.out k (by rw [HN.out.1]; exact hlt) (by rw [HN.out.2]; exact hlt)
        have hx1 : k < xs.length := by rw [HN.out.1]; exact hlt
        have hy1 : k < ys.length := by rw [HN.out.2]; exact hlt
        have hnext : xs[k] = ys[k] → xs.take (k + 1) = ys.take (k + 1) := fun e => by
          rw [List.take_succ_eq_append_getElem hx1, List.take_succ_eq_append_getElem hy1, ht.out, e]
        have hnot : xs[k] ≠ ys[k] → xs ≠ ys := fun e e' => by subst e'; exact e rfl
        have HX := Lib.hid (And.intro hnext hnot)
        clear hnext hnot
        generalize xs[k] = x at *
        generalize ys[k] = y at *
        clear hx1 hy1
        by_cases e : x = y
        · have hstep := HX.out.1 e
          subst e
          have HS := Lib.hid hstep
          clear hstep
          go_wp2
          go_region
          go_wp2
          go_roundw
          case rel => exact ⟨k + 1, m + 1, by omega, by go_num, HS, rfl⟩
          case measure => simp [intOf]; omega
        · have hne := HX.out.2 e
          have hne2 : decide (xs = ys) = false := decide_eq_false hne
          have H2 := Lib.hid hne2
          clear hne hne2
          have e2 : ¬ y = x := fun h => e h.symm
          go_wp2
          go_region
          go_wp2
          go_ret
          exact ⟨by rw [H2.out]; rfl, m + 1, rfl⟩
      · obtain rfl : n = k := by omega
        have he : decide (xs = ys) = true := decide_eq_true (by have := ht.out; rwa [List.take_of_length_le (by rw [HN.out.1]; omega), List.take_of_length_le (by rw [HN.out.2]; omega)] at this)
        have HE := Lib.hid he
        clear he
        go_wp2
        go_ret
        exact ⟨by rw [HE.out]; rfl, m, rfl⟩
  · have hne2 : decide (xs = ys) = false := decide_eq_false fun e => hl (by rw [e])
    have H2 := Lib.hid hne2
    clear hne2
    go_enter Try.func9, Try.ntmps9
    go_wp2
    go_ret
    exact ⟨by rw [H2.out]; rfl, 0, rfl⟩

end Go.Proofs.Ytjchchinmggldaa.Suf
