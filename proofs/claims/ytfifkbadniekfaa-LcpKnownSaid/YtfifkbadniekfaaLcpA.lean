/-
  Contracts of package lcp: with how many of the same bytes two texts begin; the document's own count. No conditions but that rows are small.
-/
import Derived.Test.YtfifkbadniekfaaLcpP
import Derived.Test.YtfifkbadniekfaaSufH
namespace Go.Proofs.Ytfifkbadniekfaa.Lcp
open Go.RowKit Go.Proofs.Ytfifkbadniekfaa.Suf

theorem rowAt {w : World} {v : Value} {xs : List Nat} (h : ByteRow w v xs) : ∃ a c, v = .slice a xs.length c ∧ ∀ i (hi : i < xs.length), ∃ b off, a = some ⟨b, off, none⟩ ∧ w.cell? ⟨b, off + i, none⟩ = some (.int .u8 (xs[i] : Int)) := by
  obtain ⟨a, c, e, _, _, hat⟩ := h
  exact ⟨a, c, e, fun i hi => (hat i hi).2⟩

set_option maxRecDepth 100000 in
set_option maxHeartbeats 2000000 in
/-- alike: with how many of the same bytes both begin. -/
theorem alike_any (w : World) (u v : Value) (xs ys : List Nat) (hu : ByteRow w u xs) (hv : ByteRow w v ys) (hx : xs.length ≤ 1000000) (hy : ys.length ≤ 1000000) :
    Calls Try.prog 27 #[u, v] w fun e w' => e = .returned (.int .i64 (alike xs ys : Int)) ∧ ∃ k, w' = w.drewN k := by
  obtain ⟨ua, uc, rfl, hru⟩ := rowAt hu
  obtain ⟨va, vc, rfl, hrv⟩ := rowAt hv
  have HU := Lib.hid hru
  have HV := Lib.hid hrv
  clear hru hrv hu hv
  obtain ⟨n, hn⟩ : ∃ n, xs.length = n := ⟨_, rfl⟩
  obtain ⟨m, hm⟩ : ∃ n, ys.length = n := ⟨_, rfl⟩
  rw [hn] at hx
  rw [hm] at hy
  have HN := Lib.hid (And.intro hn hm)
  rw [hn, hm]
  clear hn hm
  go_enter Try.func27, Try.ntmps27
  go_wp2
  go_loopw [5] (fun i wr => ∃ k q : Nat, k ≤ n ∧ k ≤ m ∧ i = .int .i64 (k : Int) ∧ Hid (∀ j, j < k → Both xs ys j) ∧ wr = w.drewN q) (fun i _ => n - (intOf i).toNat)
  case atStart => exact ⟨0, 0, by omega, by omega, rfl, Lib.hid fun j hj => absurd hj (by omega), rfl⟩
  case round =>
    obtain ⟨k, q, hk, hk2, rfl, hB, rfl⟩ := hrel
    by_cases h1 : k < n
    · by_cases h2 : k < m
      · obtain ⟨b, off, rfl, c0⟩ := HU.out k (by rw [HN.out.1]; exact h1)
        obtain ⟨b', off', rfl, c1⟩ := HV.out k (by rw [HN.out.2]; exact h2)
        have e0 : xs[k]? = some (xs[k]'(by rw [HN.out.1]; exact h1)) := List.getElem?_eq_getElem _
        have e1 : ys[k]? = some (ys[k]'(by rw [HN.out.2]; exact h2)) := List.getElem?_eq_getElem _
        have E := Lib.hid (And.intro e0 e1)
        clear e0 e1
        generalize xs[k]'(by rw [HN.out.1]; exact h1) = x at *
        generalize ys[k]'(by rw [HN.out.2]; exact h2) = y at *
        by_cases e : x = y
        · subst e
          go_wp2
          go_region
          go_wp2
          go_roundw
          case rel =>
            refine ⟨k + 1, q + 1, by omega, by omega, by go_num, Lib.hid fun j hj => ?_, rfl⟩
            by_cases e : j = k
            · subst e; exact ⟨x, E.out.1, E.out.2⟩
            · exact hB.out j (by omega)
          case measure => simp [intOf]; omega
        · have hne : alike xs ys = k := alike_is hB.out (fun ⟨z, z1, z2⟩ => e (by rw [E.out.1] at z1; rw [E.out.2] at z2; exact (Option.some.inj z1).trans (Option.some.inj z2).symm))
          have H := Lib.hid hne
          clear hne
          go_wp2
          go_region
          go_wp2
          go_ret
          exact ⟨by rw [H.out]; rfl, q + 1, rfl⟩
      · have hne : alike xs ys = k := alike_is hB.out (fun ⟨z, z1, z2⟩ => by have := (List.getElem?_eq_some_iff.1 z2).1; have := HN.out.2; omega)
        have H := Lib.hid hne
        clear hne
        go_wp2
        go_region
        go_wp2
        go_ret
        exact ⟨by rw [H.out]; rfl, q + 1, rfl⟩
    · have hne : alike xs ys = k := alike_is hB.out (fun ⟨z, z1, z2⟩ => by have := (List.getElem?_eq_some_iff.1 z1).1; have := HN.out.1; omega)
      have H := Lib.hid hne
      clear hne
      go_wp2
      go_region
      go_wp2
      go_ret
      exact ⟨by rw [H.out]; rfl, q + 1, rfl⟩

set_option maxRecDepth 100000 in
set_option maxHeartbeats 2000000 in
/-- The document's Common. -/
theorem refCommon_any (w : World) (u : Value) (b : List Nat) (hu : ByteRow w u b) (hb : b.length ≤ 1000000) (p r : Nat) (hp : p ≤ b.length) (hr : r ≤ b.length) :
    Calls Try.prog 16 #[u, .int .i64 (p : Int), .int .i64 (r : Int)] w fun e w' => e = .returned (.int .i64 (com b p r : Int)) ∧ ∃ k, w' = w.drewN k := by
  obtain ⟨ua, uc, rfl, hru⟩ := rowAt hu
  have HU := Lib.hid hru
  clear hru hu
  obtain ⟨n, hn⟩ : ∃ n, b.length = n := ⟨_, rfl⟩
  rw [hn] at hb hp hr
  have HN := Lib.hid hn
  rw [hn]
  clear hn
  go_enter Try.func16, Try.ntmps16
  go_wp2
  go_loopw [7] (fun i wr => ∃ k q : Nat, p + k ≤ n ∧ r + k ≤ n ∧ i = .int .i64 (k : Int) ∧ Hid (∀ j, j < k → Both (b.drop p) (b.drop r) j) ∧ wr = w.drewN q) (fun i _ => n - (intOf i).toNat)
  case atStart => exact ⟨0, 0, by omega, by omega, rfl, Lib.hid fun j hj => absurd hj (by omega), rfl⟩
  case round =>
    obtain ⟨k, q, hk, hk2, rfl, hB, rfl⟩ := hrel
    have hkn : k ≤ n := by omega
    by_cases h1 : p + k < n
    · have i1 : (p : Int) + (k : Int) < (n : Int) := by omega
      by_cases h2 : r + k < n
      · have i2 : (r : Int) + (k : Int) < (n : Int) := by omega
        obtain ⟨bb, off, rfl, c0⟩ := HU.out (p + k) (by rw [HN.out]; exact h1)
        obtain ⟨bb', off', hbb, c1⟩ := HU.out (r + k) (by rw [HN.out]; exact h2)
        obtain ⟨rfl, rfl⟩ : bb = bb' ∧ off = off' := by simpa using hbb
        clear hbb
        have e0 : b[p + k]? = some (b[p + k]'(by rw [HN.out]; exact h1)) := List.getElem?_eq_getElem _
        have e1 : b[r + k]? = some (b[r + k]'(by rw [HN.out]; exact h2)) := List.getElem?_eq_getElem _
        have E := Lib.hid (And.intro e0 e1)
        clear e0 e1
        generalize b[p + k]'(by rw [HN.out]; exact h1) = x at *
        generalize b[r + k]'(by rw [HN.out]; exact h2) = y at *
        by_cases e : x = y
        · subst e
          go_wp2
          go_region
          go_wp2
          go_roundw
          case rel =>
            refine ⟨k + 1, q + 1, by omega, by omega, by go_num, Lib.hid fun j hj => ?_, rfl⟩
            by_cases e : j = k
            · subst e; exact (both_drop _ _ _ _).2 ⟨x, E.out.1, E.out.2⟩
            · exact hB.out j (by omega)
          case measure => simp [intOf]; omega
        · have hne : com b p r = k := alike_is hB.out (fun h => by
            obtain ⟨z, z1, z2⟩ := (both_drop _ _ _ _).1 h
            exact e (by rw [E.out.1] at z1; rw [E.out.2] at z2; exact (Option.some.inj z1).trans (Option.some.inj z2).symm))
          have H := Lib.hid hne
          clear hne
          go_wp2
          go_region
          go_wp2
          go_ret
          exact ⟨by rw [H.out]; rfl, q + 1, rfl⟩
      · have hne : com b p r = k := alike_is hB.out (fun h => by
          obtain ⟨z, z1, z2⟩ := (both_drop _ _ _ _).1 h
          have := (List.getElem?_eq_some_iff.1 z2).1; have := HN.out; omega)
        have i2 : decide ((r : Int) + (k : Int) < (n : Int)) = false := by simp; omega
        have H := Lib.hid hne
        clear hne
        go_wp2
        go_region
        go_wp2
        go_ret
        exact ⟨by rw [H.out]; rfl, q + 1, rfl⟩
    · have hne : com b p r = k := alike_is hB.out (fun h => by
        obtain ⟨z, z1, z2⟩ := (both_drop _ _ _ _).1 h
        have := (List.getElem?_eq_some_iff.1 z1).1; have := HN.out; omega)
      have i1 : decide ((p : Int) + (k : Int) < (n : Int)) = false := by simp; omega
      have H := Lib.hid hne
      clear hne
      go_wp2
      go_region
      go_wp2
      go_ret
      exact ⟨by rw [H.out]; rfl, q + 1, rfl⟩

end Go.Proofs.Ytfifkbadniekfaa.Lcp
