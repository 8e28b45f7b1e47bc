/-
  Contract of pressworkref13.Places. No conditions but that rows are small.
-/
import Derived.Test.YthcbmkbgchobfaaSufI
namespace Go.Proofs.Ythcbmkbgchobfaa.Suf
open Go.RowKit

/-- The first k numbers have been found, each once. -/
def Found (xs : List Int) (k : Nat) (L : List Nat) : Prop := L.length = xs.length ∧ ∀ i, i < k → ∃ v, L[i]? = some v ∧ xs[v]? = some (i : Int)

/-- So often has a number been seen among the first p. -/
def Seen (xs : List Int) (k p c : Nat) (L : List Nat) : Prop :=
  c ≤ p ∧ ((c = 0 ∧ ∀ q : Nat, q < p → xs[q]? ≠ some (k : Int)) ∨ (c = 1 ∧ ∃ v, v < p ∧ L[k]? = some v ∧ xs[v]? = some (k : Int)) ∨ (2 ≤ c ∧ ∃ a b : Nat, a ≠ b ∧ xs[a]? = some (k : Int) ∧ xs[b]? = some (k : Int)))

theorem seen_other {xs : List Int} {k p c : Nat} {L : List Nat} (h : Seen xs k p c L) (hx : xs[p]? ≠ some (k : Int)) : Seen xs k (p + 1) c L := by
  obtain ⟨h0, h⟩ := h
  refine ⟨by omega, ?_⟩
  rcases h with ⟨h1, h2⟩ | ⟨h1, v, h2, h3⟩ | h
  · refine .inl ⟨h1, fun q hq => ?_⟩
    by_cases e : q = p
    · subst e; exact hx
    · exact h2 q (by omega)
  · exact .inr (.inl ⟨h1, v, by omega, h3⟩)
  · exact .inr (.inr h)

theorem seen_hit {xs : List Int} {k p c : Nat} {L : List Nat} (h : Seen xs k p c L) (hx : xs[p]? = some (k : Int)) (hk : k < L.length) : Seen xs k (p + 1) (c + 1) (L.set k p) := by
  obtain ⟨h0, h⟩ := h
  refine ⟨by omega, ?_⟩
  rcases h with ⟨h1, h2⟩ | ⟨h1, v, h2, h3, h4⟩ | ⟨h1, h2⟩
  · exact .inr (.inl ⟨by omega, p, by omega, by rw [List.getElem?_set_self hk], hx⟩)
  · exact .inr (.inr ⟨by omega, v, p, by omega, h4, hx⟩)
  · exact .inr (.inr ⟨by omega, h2⟩)

theorem found_set {xs : List Int} {k p : Nat} {L : List Nat} (h : Found xs k L) : Found xs k (L.set k p) := by
  refine ⟨by simpa using h.1, fun i hi => ?_⟩
  obtain ⟨v, h1, h2⟩ := h.2 i hi
  exact ⟨v, by rw [List.getElem?_set_ne (by omega)]; exact h1, h2⟩

theorem found_next {xs : List Int} {k : Nat} {L : List Nat} (h : Found xs k L) (hs : Seen xs k xs.length 1 L) : Found xs (k + 1) L := by
  refine ⟨h.1, fun i hi => ?_⟩
  by_cases e : i = k
  · subst e
    rcases hs.2 with ⟨h1, _⟩ | ⟨_, v, _, h3, h4⟩ | ⟨h1, _⟩
    · omega
    · exact ⟨v, h3, h4⟩
    · omega
  · exact h.2 i (by omega)

theorem found_end {xs : List Int} {L : List Nat} (h : Found xs xs.length L) : Inv xs L := by
  refine ⟨h.1, fun i hi => ?_⟩
  obtain ⟨v, h1, h2⟩ := h.2 i (by rw [← h.1]; exact hi)
  rw [List.getElem?_eq_getElem hi] at h1
  rw [Option.some.inj h1]
  exact h2

theorem no_inv_seen {xs : List Int} {k c : Nat} {L : List Nat} (hk : k < xs.length) (hs : Seen xs k xs.length c L) (hc : c ≠ 1) (J : List Nat) : ¬ Inv xs J := by
  rcases hs.2 with ⟨_, h2⟩ | ⟨h1, _⟩ | ⟨_, a, b, h1, h2, h3⟩
  · refine no_inv_none hk (fun p e => ?_) J
    exact h2 p (List.getElem?_eq_some_iff.1 e).1 e
  · omega
  · exact no_inv_twice h2 h3 h1 J

section
variable {B : Nat} {w0 w : World} {r : List Thing}

set_option maxRecDepth 100000 in
set_option maxHeartbeats 2000000 in
/-- The document's Places. -/
theorem refPlaces_st (st : St B w0 w r) (v : Value) (xs : List Int) (hv : ∀ W, St B w0 W r → IntRow W v xs) (hx : xs.length ≤ 1000000) : Calls Try.prog 15 #[v] w (PlacesSt B w0 r xs) := by
  obtain ⟨i0, hi, hz0, hz1, hz2⟩ := info_parts infoI
  obtain ⟨n, hn⟩ : ∃ n, xs.length = n := ⟨_, rfl⟩
  have hmk : i0.bytes * n ≤ 281474976710656 := by rw [hz2]; omega
  have hmx : n ≤ maxLen := by unfold maxLen; omega
  obtain ⟨va, vc, rfl⟩ : ∃ a c, v = .slice a xs.length c := by obtain ⟨a, c, e, _⟩ := hv w st; exact ⟨a, c, e⟩
  have hread : ∀ W, St B w0 W r → ∀ k, k < n → ∃ x : Int, xs[k]? = some x ∧ (-9223372036854775808 ≤ x ∧ x ≤ 9223372036854775807) ∧ ∃ b off, va = some ⟨b, off, none⟩ ∧ W.cell? ⟨b, off + k, none⟩ = some (.int .i64 x) := by
    intro W t k h
    rw [← hn] at h
    obtain ⟨a, c, e, _, _, hat⟩ := hv W t
    obtain ⟨rfl, -, -⟩ := Value.slice.inj e
    obtain ⟨hr, b, off, e1, e2⟩ := hat k h
    exact ⟨xs[k], List.getElem?_eq_getElem h, hr, b, off, e1, e2⟩
  have HR := Lib.hid hread
  clear hread hv
  rw [hn] at hx
  rw [hn]
  have h0 : Found xs 0 (List.replicate n 0) := ⟨by rw [List.length_replicate, hn], fun i hi => absurd hi (by omega)⟩
  have H0 := Lib.hid h0
  clear h0
  have HN := Lib.hid hn
  clear hn
  go_enter Try.func15, Try.ntmps15
  go_wp2_with (at_make; refine wpList_make_full _ rfl _ _ 24 rfl w.heap.size 3 i0 (.int .i64 0) 1 Try.underlying24 hi hz0 hz1 _ _ _ _ n rfl rfl rfl rfl hmk hmx (Nat.le_refl _) ?_)
  intro w1 hown hg
  have s1 := st.madeNums hown hg
  clear hown hg hi hz0 hz1 hz2 hmk hmx st
  generalize w.heap.size = g at s1
  go_wp2
  go_loopw [4] (fun i wr => ∃ (k : Nat) (L : List Nat), k ≤ n ∧ i = .int .i64 (k : Int) ∧ Hid (Found xs k L) ∧ St B w0 wr (numsT 3 g n L :: r)) (fun i _ => n - (intOf i).toNat)
  case atStart => exact ⟨0, _, by omega, rfl, H0, s1⟩
  case round =>
    clear s1 H0
    obtain ⟨k, L, hk, rfl, hF, s2⟩ := hrel
    by_cases hlt : k < n
    · go_wp2
      go_loopw [5, 6] (fun cv pv wr => ∃ (p c : Nat) (L : List Nat), p ≤ n ∧ c ≤ p ∧ pv = .int .i64 (p : Int) ∧ cv = .int .i64 (c : Int) ∧ Hid (Found xs k L) ∧ Hid (Seen xs k p c L) ∧ St B w0 wr (numsT 3 g n L :: r)) (fun _ pv _ => n - (intOf pv).toNat)
      case atStart => exact ⟨0, 0, L, by omega, by omega, rfl, rfl, hF, Lib.hid ⟨by omega, .inl ⟨rfl, fun q hq => absurd hq (by omega)⟩⟩, s2⟩
      case round =>
        clear s2 hF L
        obtain ⟨p, c, L, hp, hc, rfl, rfl, hF, hS, s3⟩ := hrel
        have hLl : L.length = n := by rw [hF.out.1, HN.out]
        by_cases hlt2 : p < n
        · obtain ⟨x, hxp, ⟨hx1, hx2⟩, b, off, rfl, c0⟩ := HR.out wr s3.drop p hlt2
          by_cases e : x = (k : Int)
          · subst e
            have hs2 := seen_hit hS.out hxp (by rw [hLl]; exact hlt)
            have hf2 := found_set (p := p) hF.out
            obtain ⟨d0, f0⟩ := s3.numCell k hLl hlt
            have s4 := s3.putNum k p
            have HS := Lib.hid (And.intro s4 (And.intro hf2 hs2))
            clear s3 s4 hs2 hf2 hxp
            generalize L[k]'_ = y at d0
            go_wp2
            go_roundw
            case rel => exact ⟨p + 1, c + 1, _, by omega, by omega, by go_num, by go_num, Lib.hid HS.out.2.1, Lib.hid HS.out.2.2, HS.out.1⟩
            case measure => simp [intOf]; omega
          · have hs2 := seen_other hS.out (by rw [hxp]; intro e'; exact e (Option.some.inj e'))
            have HS := Lib.hid hs2
            clear hs2 hxp
            go_wp2
            go_roundw
            case rel => exact ⟨p + 1, c, L, by omega, by omega, by go_num, rfl, hF, HS, s3⟩
            case measure => simp [intOf]; omega
        · obtain rfl : n = p := by omega
          by_cases hc1 : c = 1
          · have hf2 := found_next hF.out (by rw [HN.out, ← hc1]; exact hS.out)
            have HS := Lib.hid hf2
            clear hf2
            subst hc1
            go_wp2
            go_roundw
            case rel => exact ⟨k + 1, L, by omega, by go_num, HS, s3⟩
            case measure => simp [intOf]; omega
          · have hno := no_inv_seen (by rw [HN.out]; exact hlt) (by rw [HN.out]; exact hS.out) hc1
            have HO := Lib.hid hno
            clear hno
            go_wp2
            go_ret
            exact .inr ⟨HO.out, rfl, s3.drop⟩
    · obtain rfl : n = k := by omega
      have hJ := found_end (by rw [HN.out]; exact hF.out : Found xs xs.length L)
      have hJl : L.length = n := by rw [hJ.1, HN.out]
      have HJ := Lib.hid (And.intro hJ hJl)
      clear hJ hJl
      go_wp2
      go_ret
      exact .inl ⟨L, HJ.out.1, g, by rw [HJ.out.2]; rfl, by rw [HJ.out.2]; exact s2⟩

end
end Go.Proofs.Ythcbmkbgchobfaa.Suf
