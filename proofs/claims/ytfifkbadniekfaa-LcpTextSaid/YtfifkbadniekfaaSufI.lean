/-
  Contracts of package sufsort's Places, and of the document's. No conditions but that rows are small.
-/
import Derived.Test.YtfifkbadniekfaaSufH
namespace Go.Proofs.Ytfifkbadniekfaa.Suf
open Go.RowKit

/-- J says where each number stands in a row of all numbers below its length. -/
def Inv (xs : List Int) (J : List Nat) : Prop := J.length = xs.length ∧ ∀ i (h : i < J.length), xs[J[i]]? = some (i : Int)

theorem Inv.lt {xs : List Int} {J : List Nat} (h : Inv xs J) {i : Nat} (hi : i < J.length) : J[i] < xs.length := (List.getElem?_eq_some_iff.1 (h.2 i hi)).1

theorem Inv.at {xs : List Int} {J : List Nat} (h : Inv xs J) {p : Nat} (hp : p < xs.length) : ∃ i, ∃ hi : i < J.length, xs[p]? = some (i : Int) ∧ J[i] = p := by
  have hnd : J.Nodup := by
    refine List.pairwise_iff_getElem.2 fun i j hi hj hij e => ?_
    have h1 := h.2 i hi
    have h2 := h.2 j hj
    rw [e, h2] at h1
    have := Option.some.inj h1
    omega
  have hmem := nodup_all xs.length J hnd h.1 (fun x hx => by
    obtain ⟨i, hi, rfl⟩ := List.mem_iff_getElem.1 hx
    exact h.lt hi) p hp
  obtain ⟨i, hi, e⟩ := List.mem_iff_getElem.1 hmem
  exact ⟨i, hi, by rw [← e]; exact h.2 i hi, e⟩

theorem Inv.one {xs : List Int} {J J' : List Nat} (h : Inv xs J) (h' : Inv xs J') : J = J' := by
  refine List.ext_getElem (by rw [h.1, h'.1]) fun i h1 h2 => ?_
  obtain ⟨k, hk, e1, e2⟩ := h.at (h'.lt h2)
  rw [h'.2 i h2] at e1
  have : i = k := by have := Option.some.inj e1; omega
  subst this
  exact e2

/-- Places of Places. -/
theorem Inv.back {I J : List Nat} (h : Inv (I.map fun x : Nat => (x : Int)) J) : Inv (J.map fun x : Nat => (x : Int)) I := by
  have hl : J.length = I.length := by simpa using h.1
  refine ⟨by simp [hl], fun i hi => ?_⟩
  obtain ⟨k, hk, e1, e2⟩ := h.at (p := i) (by simpa using hi)
  have e3 : I[i] = k := by
    rw [List.getElem?_map, List.getElem?_eq_getElem hi] at e1
    simp at e1
    omega
  rw [e3, List.getElem?_map, List.getElem?_eq_getElem hk, e2]
  rfl

theorem inv_whole {n : Nat} {R : Nat → Nat → Prop} {O : List Nat} (h : Whole n R O) (hR : ∀ x, ¬ R x x) : ∃ J, Inv (O.map fun x : Nat => (x : Int)) J := by
  obtain ⟨J, h1, h2⟩ := list_of (fun i (p : Nat) => O[p]? = some i) n (fun i hi => by
    obtain ⟨p, hp, e⟩ := List.mem_iff_getElem.1 (h.all hR i hi)
    exact ⟨p, by rw [List.getElem?_eq_getElem hp, e]⟩)
  refine ⟨J, by rw [h1, List.length_map, h.len], fun i hi => ?_⟩
  rw [List.getElem?_map, h2 i (by omega)]
  rfl

/-- The places as far as k numbers have been looked at. -/
def Far (xs : List Int) (k : Nat) (Q : List Int) : Prop :=
  Q.length = xs.length ∧ (∀ i, i < k → ∃ v : Nat, xs[i]? = some (v : Int) ∧ v < xs.length ∧ Q[v]? = some (i : Int)) ∧ ∀ v, v < xs.length → Q[v]? = some (-1) ∨ ∃ i, i < k ∧ Q[v]? = some (i : Int) ∧ xs[i]? = some (v : Int)

theorem far_step {xs : List Int} {k v : Nat} {Q : List Int} (h : Far xs k Q) (hk : k < xs.length) (hx : xs[k]? = some (v : Int)) (hv : v < xs.length) (hq : ∀ q, Q[v]? = some q → q < 0) : Far xs (k + 1) (Q.set v (k : Int)) := by
  obtain ⟨h1, h2, h3⟩ := h
  refine ⟨by simpa using h1, fun i hi => ?_, fun u hu => ?_⟩
  · by_cases e : i = k
    · subst e
      exact ⟨v, hx, hv, by rw [List.getElem?_set_self (by omega)]⟩
    · obtain ⟨u, e1, e2, e3⟩ := h2 i (by omega)
      refine ⟨u, e1, e2, ?_⟩
      rw [List.getElem?_set_ne, e3]
      intro e4
      subst e4
      have := hq _ e3
      omega
  · by_cases e : v = u
    · subst e
      exact .inr ⟨k, by omega, by rw [List.getElem?_set_self (by omega)], hx⟩
    · rw [List.getElem?_set_ne e]
      rcases h3 u hu with h4 | ⟨i, h4, h5⟩
      · exact .inl h4
      · exact .inr ⟨i, by omega, h5⟩

theorem far_end {xs : List Int} {Q : List Int} (h : Far xs xs.length Q) : ∃ J : List Nat, Inv xs J ∧ Q = J.map fun x : Nat => (x : Int) := by
  obtain ⟨h1, h2, h3⟩ := h
  obtain ⟨V, v1, v2⟩ := list_of (fun i (v : Nat) => xs[i]? = some (v : Int) ∧ v < xs.length ∧ Q[v]? = some (i : Int)) xs.length (fun i hi => h2 i hi)
  have hnd : V.Nodup := by
    refine List.pairwise_iff_getElem.2 fun i j hi hj hij e => ?_
    have e1 := (v2 i (by omega)).2.2
    have e2 := (v2 j (by omega)).2.2
    rw [e, e2] at e1
    have := Option.some.inj e1
    omega
  have hall := nodup_all xs.length V hnd v1 (fun x hx => by
    obtain ⟨i, hi, rfl⟩ := List.mem_iff_getElem.1 hx
    exact (v2 i (by omega)).2.1)
  obtain ⟨J, j1, j2⟩ := list_of (fun v (i : Nat) => Q[v]? = some (i : Int) ∧ xs[i]? = some (v : Int)) xs.length (fun v hv => by
    obtain ⟨i, hi, e⟩ := List.mem_iff_getElem.1 (hall v hv)
    subst e
    exact ⟨i, (v2 i (by omega)).2.2, (v2 i (by omega)).1⟩)
  refine ⟨J, ⟨j1, fun i hi => (j2 i (by omega)).2⟩, ?_⟩
  refine List.ext_getElem? fun i => ?_
  by_cases hi : i < xs.length
  · rw [(j2 i (by omega)).1, List.getElem?_map, List.getElem?_eq_getElem (by omega)]; rfl
  · rw [List.getElem?_eq_none (by omega), List.getElem?_eq_none (by rw [List.length_map]; omega)]

theorem no_inv_out {xs : List Int} {k : Nat} {x : Int} (hx : xs[k]? = some x) (h : x < 0 ∨ (xs.length : Int) ≤ x) (J : List Nat) : ¬ Inv xs J := fun hJ => by
  obtain ⟨i, hi, e1, _⟩ := hJ.at (List.getElem?_eq_some_iff.1 hx).1
  rw [hx] at e1
  have := Option.some.inj e1
  have := hJ.1
  omega

theorem no_inv_twice {xs : List Int} {p q : Nat} {x : Int} (hp : xs[p]? = some x) (hq : xs[q]? = some x) (h : p ≠ q) (J : List Nat) : ¬ Inv xs J := fun hJ => by
  obtain ⟨i, hi, e1, e2⟩ := hJ.at (List.getElem?_eq_some_iff.1 hp).1
  obtain ⟨j, hj, e3, e4⟩ := hJ.at (List.getElem?_eq_some_iff.1 hq).1
  rw [hp] at e1
  rw [hq] at e3
  have : i = j := by have := Option.some.inj e1; have := Option.some.inj e3; omega
  subst this
  omega

theorem no_inv_none {xs : List Int} {i : Nat} (hi : i < xs.length) (h : ∀ p : Nat, xs[p]? ≠ some (i : Int)) (J : List Nat) : ¬ Inv xs J := fun hJ => h _ (hJ.2 i (by rw [hJ.1]; exact hi))

theorem no_inv_far {xs : List Int} {k v : Nat} {Q : List Int} {q : Int} (h : Far xs k Q) (hx : xs[k]? = some (v : Int)) (hq : Q[v]? = some q) (h0 : 0 ≤ q) (J : List Nat) : ¬ Inv xs J := by
  have hv : v < xs.length := by rw [← h.1]; exact (List.getElem?_eq_some_iff.1 hq).1
  rcases h.2.2 v hv with e | ⟨i, hi, e1, e2⟩
  · rw [hq] at e; have := Option.some.inj e; omega
  · exact no_inv_twice e2 hx (by omega) J

/-- What Places leaves. -/
def PlacesSt (B : Nat) (w0 : World) (r : List Thing) (xs : List Int) (en : Ending) (w' : World) : Prop :=
  (∃ J, Inv xs J ∧ NumsNew B w0 r J en w') ∨ ((∀ J, ¬ Inv xs J) ∧ en = .returned (.slice none 0 0) ∧ St B w0 w' r)

/-- n times -1, as far as k. -/
def negs (n k : Nat) : List Int := (List.range n).map fun i => if i < k then -1 else 0
theorem negs_length (n k : Nat) : (negs n k).length = n := by simp [negs]
theorem negs_set (n k : Nat) : (negs n k).set k (-1) = negs n (k + 1) := by
  refine List.ext_getElem (by simp [negs]) (fun j h3 h4 => ?_)
  rw [List.getElem_set]
  simp only [negs, List.getElem_map, List.getElem_range]
  split
  · rename_i e; subst e; simp
  · split <;> split <;> omega
theorem negs_far (xs : List Int) : Far xs 0 (negs xs.length xs.length) := by
  refine ⟨negs_length .., fun i hi => absurd hi (by omega), fun v hv => .inl ?_⟩
  simp [negs, hv]

section
variable {B : Nat} {w0 w : World} {r : List Thing}

set_option maxRecDepth 100000 in
set_option maxHeartbeats 2000000 in
/-- Places: where each number stands. -/
theorem places_st (st : St B w0 w r) (v : Value) (xs : List Int) (hv : ∀ W, St B w0 W r → IntRow W v xs) (hx : xs.length ≤ 1000000) : Calls Try.prog 19 #[v] w (PlacesSt B w0 r xs) := by
  obtain ⟨i0, hi, hz0, hz1, hz2⟩ := info_parts infoI
  obtain ⟨n, hn⟩ : ∃ n, xs.length = n := ⟨_, rfl⟩
  have hmk : i0.bytes * n ≤ 281474976710656 := by rw [hz2]; omega
  have hmx : n ≤ maxLen := by unfold maxLen; omega
  obtain ⟨va, vc, rfl⟩ : ∃ a c, v = .slice a xs.length c := by obtain ⟨a, c, e, _⟩ := hv w st; exact ⟨a, c, e⟩
  have hread : ∀ W, St B w0 W r → ∀ k, k < n → ∃ x : Int, xs[k]? = some x ∧ (-9223372036854775808 ≤ x ∧ x ≤ 9223372036854775807) ∧ ∃ b off, va = some ⟨b, off, none⟩ ∧ W.cell? ⟨b, off + k, none⟩ = some (.int .i64 x) := by
    intro W t k h
    rw [← hn] at h
    obtain ⟨a, c, e, _, _, hat⟩ := hv W t
    obtain ⟨rfl, -, -⟩ := Value.slice.inj e
    obtain ⟨hr, b, off, e1, e2⟩ := hat k h
    exact ⟨xs[k], List.getElem?_eq_getElem h, hr, b, off, e1, e2⟩
  have HR := Lib.hid hread
  clear hread hv
  rw [hn] at hx
  rw [hn]
  have h0 := negs_far xs
  rw [hn] at h0
  have H0 := Lib.hid h0
  clear h0
  have HN := Lib.hid hn
  clear hn
  go_enter Try.func19, Try.ntmps19
  go_wp2_with (at_make; refine wpList_make_full _ rfl _ _ 23 rfl w.heap.size 3 i0 (.int .i64 0) 1 Try.underlying23 hi hz0 hz1 _ _ _ _ n rfl rfl rfl rfl hmk hmx (Nat.le_refl _) ?_)
  intro w1 hown hg
  have s1 : St B w0 w1 (intsT w.heap.size n (negs n 0) :: r) := by
    have h := st.madeNums hown hg
    have e : iVals (negs n 0) = i64s (List.replicate n 0) := by
      rw [← iVals_nums]
      congr 1
      refine List.ext_getElem (by simp [negs]) fun j _ _ => by simp [negs]
    show St B w0 w1 (rowT _ 1 _ _ (iVals (negs n 0)) :: r)
    rw [e]
    exact h
  clear hown hg hi hz0 hz1 hz2 hmk hmx st
  generalize w.heap.size = g at s1
  go_wp2
  go_loopw [4, 12] (fun _ i wr => ∃ k : Nat, k ≤ n ∧ i = .int .i64 (k : Int) ∧ St B w0 wr (intsT g n (negs n k) :: r)) (fun _ i _ => n - (intOf i).toNat)
  case atStart => exact ⟨0, by omega, rfl, s1⟩
  case round =>
    obtain ⟨k, hk, rfl, s2⟩ := hrel
    clear s1
    by_cases hlt : k < n
    · have hset := negs_set n k
      obtain ⟨d0, f0⟩ := intCell s2 k (negs_length ..) hlt
      have s3 := putInt s2 k (-1)
      rw [hset] at s3
      clear hset s2
      generalize (negs n k)[k]'(by rw [negs_length]; omega) = z at d0
      have HS := Lib.hid s3
      clear s3
      go_wp2
      go_roundw
      case rel => exact ⟨k + 1, by omega, by go_num, HS.out⟩
      case measure => simp [intOf]; omega
    · obtain rfl : n = k := by omega
      go_wp2
      go_loopw [5, 6, 21] (fun _ _ i wr => ∃ (k : Nat) (Q : List Int), k ≤ n ∧ i = .int .i64 (k : Int) ∧ Hid (Far xs k Q) ∧ St B w0 wr (intsT g n Q :: r)) (fun _ _ i _ => n - (intOf i).toNat)
      case atStart => exact ⟨0, _, by omega, rfl, H0, s2⟩
      case round =>
        clear s2 H0
        obtain ⟨k, Q, hk, rfl, hF, s3⟩ := hrel
        have hQl : Q.length = n := by rw [hF.out.1, HN.out]
        by_cases hlt : k < n
        · obtain ⟨x, hxk, ⟨hx1, hx2⟩, b, off, rfl, c0⟩ := HR.out wr s3.drop k hlt
          by_cases h0 : x < 0
          · have hno := no_inv_out hxk (.inl h0)
            have HO := Lib.hid hno
            clear hno
            go_wp2
            go_ret
            exact .inr ⟨HO.out, rfl, s3.drop⟩
          · by_cases h1 : (n : Int) ≤ x
            · have hno := no_inv_out hxk (.inr (by rw [HN.out]; exact h1))
              have HO := Lib.hid hno
              clear hno
              go_wp2
              go_ret
              exact .inr ⟨HO.out, rfl, s3.drop⟩
            · obtain ⟨y, rfl⟩ : ∃ y : Nat, x = (y : Int) := ⟨x.toNat, by omega⟩
              have hyn : y < n := by omega
              obtain ⟨d0, f0⟩ := intCell s3 y hQl hyn
              have hqy : Q[y]? = some (Q[y]'(by omega)) := List.getElem?_eq_getElem _
              generalize Q[y]'(by omega) = q at *
              by_cases h2 : 0 ≤ q
              · have hno := no_inv_far hF.out hxk hqy h2
                have HO := Lib.hid hno
                clear hno hqy
                go_wp2
                go_ret
                exact .inr ⟨HO.out, rfl, s3.drop⟩
              · have hst := far_step hF.out (by rw [HN.out]; exact hlt) hxk (by rw [HN.out]; exact hyn) (fun q' e => by rw [hqy] at e; have := Option.some.inj e; omega)
                have s4 := putInt s3 y (k : Int)
                have HS := Lib.hid (And.intro s4 hst)
                clear s3 s4 hst hqy
                go_wp2
                go_roundw
                case rel => exact ⟨k + 1, _, by omega, by go_num, Lib.hid HS.out.2, HS.out.1⟩
                case measure => simp [intOf]; omega
        · obtain rfl : n = k := by omega
          have hend := far_end (by rw [HN.out]; exact hF.out : Far xs xs.length Q)
          have HE := Lib.hid hend
          clear hend
          go_wp2
          go_ret
          obtain ⟨J, hJ, e⟩ := HE.out
          have hJl : J.length = n := by rw [hJ.1, HN.out]
          refine .inl ⟨J, hJ, g, by rw [hJl]; rfl, ?_⟩
          show St B w0 wr (rowT _ 1 _ _ (i64s J) :: r)
          rw [hJl, ← iVals_nums, ← e]
          exact s3

end
end Go.Proofs.Ytfifkbadniekfaa.Suf
