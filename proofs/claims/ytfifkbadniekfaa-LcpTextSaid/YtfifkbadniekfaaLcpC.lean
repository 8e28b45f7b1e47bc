/-
  Contracts of package lcp: is an order that of the ends? No conditions but that rows are small.
-/
import Derived.Test.YtfifkbadniekfaaLcpP
import Derived.Test.YtfifkbadniekfaaSufH
namespace Go.Proofs.Ytfifkbadniekfaa.Lcp
open Go.RowKit Go.Proofs.Ytfifkbadniekfaa.Suf

theorem rowNth {w : World} {v : Value} {xs : List Nat} (h : ByteRow w v xs) : ∃ a c, v = .slice a xs.length c ∧ ∀ i, i < xs.length → nth xs i < 256 ∧ ∃ b off, a = some ⟨b, off, none⟩ ∧ w.cell? ⟨b, off + i, none⟩ = some (.int .u8 (nth xs i : Int)) := by
  obtain ⟨a, c, e, _, _, hat⟩ := h
  exact ⟨a, c, e, fun i hi => by rw [nth_lt hi]; exact hat i hi⟩

theorem numNth {w : World} {v : Value} {xs : List Nat} (h : NumRow w v xs) : ∃ a c, v = .slice a xs.length c ∧ ∀ i, i < xs.length → ∃ b off, a = some ⟨b, off, none⟩ ∧ w.cell? ⟨b, off + i, none⟩ = some (.int .i64 (nth xs i : Int)) := by
  obtain ⟨a, c, e, _, _, hat⟩ := h
  exact ⟨a, c, e, fun i hi => by rw [nth_lt hi]; exact hat i hi⟩

set_option maxRecDepth 100000 in
set_option maxHeartbeats 1000000 in
/-- Where what is behind a place stands. -/
theorem behind_any (w : World) (bb sb : Nat) (a : Option Addr) (n c : Nat) (u : Value) (J : List Nat) (hb : w.cell? ⟨bb, 0, none⟩ = some (.slice a n c)) (hs : w.cell? ⟨sb, 0, none⟩ = some u) (hu : NumRow w u J) (hJ : J.length = n) (hn : n ≤ 1000000) (p : Nat) (hp : p < n) :
    Calls Try.prog 25 #[.int .i64 (p : Int), .pointer (some ⟨bb, 0, none⟩), .pointer (some ⟨sb, 0, none⟩)] w fun e w' => e = .returned (.int .i64 (rk n J p)) ∧ w' = w := by
  obtain ⟨sa, sc, rfl, hat⟩ := numNth hu
  rw [hJ] at hs hat
  clear hu hJ
  by_cases e : p + 1 = n
  · have hr : rk n J p = -1 := by unfold rk; rw [if_pos e]
    rw [hr]
    have i1 : (p : Int) + 1 = (n : Int) := by omega
    clear hat
    go_enter Try.func25, Try.ntmps25
    go_wp2_with fail
    go_ret
    exact ⟨rfl, rfl⟩
  · have hr : rk n J p = (nth J (p + 1) : Int) := by unfold rk; rw [if_neg e]
    rw [hr]
    obtain ⟨b, off, rfl, c0⟩ := hat (p + 1) (by omega)
    clear hat
    generalize nth J (p + 1) = y at *
    have i1 : ¬ (p : Int) + 1 = (n : Int) := by omega
    have i2 : (p : Int) + 1 < (n : Int) := by omega
    go_enter Try.func25, Try.ntmps25
    go_wp2_with fail
    go_ret
    exact ⟨rfl, rfl⟩

/-- What rises leaves. -/
def RisesSt (B : Nat) (w0 : World) (r : List Thing) (b O J : List Nat) (e : Ending) (w' : World) : Prop :=
  ∃ t : Bool, (t = true ↔ ∀ i, i + 1 < b.length → Good b J (nth O i) (nth O (i + 1))) ∧ e = .returned (.bool t) ∧ St B w0 w' r

section
variable {B : Nat} {w0 w : World} {r : List Thing}

set_option maxRecDepth 100000 in
set_option maxHeartbeats 4000000 in
/-- rises: is an order of all places that of the ends? -/
theorem rises_st (st : St B w0 w r) (v u sv : Value) (b O J : List Nat) (hv : ∀ W, St B w0 W r → ByteRow W v b) (hu : ∀ W, St B w0 W r → NumRow W u O) (hs : ∀ W, St B w0 W r → NumRow W sv J)
    (hb : b.length ≤ 1000000) (hO : O.length = b.length) (hJ : J.length = b.length) (hof : ∀ i, i < b.length → nth O i < b.length) :
    Calls Try.prog 20 #[v, u, sv] w (RisesSt B w0 r b O J) := by
  obtain ⟨va, vc, rfl⟩ : ∃ a c, v = .slice a b.length c := by obtain ⟨a, c, e, _⟩ := hv w st; exact ⟨a, c, e⟩
  obtain ⟨ua, uc, rfl⟩ : ∃ a c, u = .slice a O.length c := by obtain ⟨a, c, e, _⟩ := hu w st; exact ⟨a, c, e⟩
  obtain ⟨sa, sc, rfl⟩ : ∃ a c, sv = .slice a J.length c := by obtain ⟨a, c, e, _⟩ := hs w st; exact ⟨a, c, e⟩
  obtain ⟨n, hn⟩ : ∃ n, b.length = n := ⟨_, rfl⟩
  rw [hn] at hO hJ hof hb
  rw [hJ] at hs ⊢
  have hV : ∀ W, St B w0 W r → ∀ i, i < n → nth b i < 256 ∧ ∃ bb off, va = some ⟨bb, off, none⟩ ∧ W.cell? ⟨bb, off + i, none⟩ = some (.int .u8 (nth b i : Int)) := fun W t i hi => by
    obtain ⟨a, c, e, h⟩ := rowNth (hv W t)
    obtain ⟨rfl, -, -⟩ := Value.slice.inj e
    exact h i (by omega)
  have hU : ∀ W, St B w0 W r → ∀ i, i < n → ∃ bb off, ua = some ⟨bb, off, none⟩ ∧ W.cell? ⟨bb, off + i, none⟩ = some (.int .i64 (nth O i : Int)) := fun W t i hi => by
    obtain ⟨a, c, e, h⟩ := numNth (hu W t)
    obtain ⟨rfl, -, -⟩ := Value.slice.inj e
    exact h i (by omega)
  have HV := Lib.hid hV
  have HU := Lib.hid hU
  have HS := Lib.hid hs
  have HO := Lib.hid hof
  have HJ := Lib.hid hJ
  clear hV hU hv hu hs hof hJ
  rw [hO]
  have HN := Lib.hid hn
  rw [hn]
  clear hn hO
  obtain ⟨bb, hbb⟩ : ∃ x, w.heap.size = x := ⟨_, rfl⟩
  obtain ⟨sb, hsb⟩ : ∃ x, (w.alloc (.cells #[.slice va n vc] 22)).heap.size = x := ⟨_, rfl⟩
  have s1 := (st.newBox #[.slice va n vc] 22).newBox #[.slice sa n sc] 23
  rw [hbb, hsb] at s1
  clear st
  go_enter Try.func20, Try.ntmps20
  have hmf : ∀ (fn : Fn) (first cap : Array Value) (w : World), (Instr.makeFunc fn first cap).run Try.prog w = .ok (.func fn first cap) w := fun _ _ _ _ => rfl
  go_wp2
  generalize (w.alloc (.cells #[.slice va n vc] 22)).alloc (.cells #[.slice sa n sc] 23) = w2 at *
  go_loopw [8] (fun i wr => ∃ k : Nat, (k + 1 ≤ n ∨ k = 0) ∧ i = .int .i64 ((k : Int) + 1) ∧ Hid (∀ i, i < k → Good b J (nth O i) (nth O (i + 1))) ∧ St B w0 wr (boxT sb #[.slice sa n sc] 23 :: boxT bb #[.slice va n vc] 22 :: r)) (fun i _ => n - (intOf i).toNat)
  case atStart => exact ⟨0, .inr rfl, rfl, Lib.hid fun i hi => absurd hi (by omega), s1⟩
  case round =>
    clear s1
    obtain ⟨k, hk, rfl, hG, s2⟩ := hrel
    by_cases hlt : k + 1 < n
    · obtain ⟨ob, oo, rfl, c0⟩ := HU.out wr s2.drop.drop k (by omega)
      obtain ⟨ob', oo', e1, c1⟩ := HU.out wr s2.drop.drop (k + 1) hlt
      obtain ⟨rfl, rfl⟩ : ob = ob' ∧ oo = oo' := by simpa using e1
      have hp := HO.out k (by omega)
      have hq := HO.out (k + 1) hlt
      have hgood : (∀ i, i < k + 1 → Good b J (nth O i) (nth O (i + 1))) ↔ Good b J (nth O k) (nth O (k + 1)) := ⟨fun h => h k (by omega), fun h i hi => by
        by_cases e : i = k
        · subst e; exact h
        · exact hG.out i (by omega)⟩
      have hbad : ¬ Good b J (nth O k) (nth O (k + 1)) → ¬ ∀ i, i + 1 < b.length → Good b J (nth O i) (nth O (i + 1)) := fun h h' => h (h' k (by rw [HN.out]; exact hlt))
      have HG := Lib.hid hgood
      have HB := Lib.hid hbad
      clear hgood hbad e1
      have hk1 : (k : Int) < (n : Int) := by omega
      have hk2 : (k : Int) + 1 < (n : Int) := by omega
      generalize nth O k = p at *
      generalize nth O (k + 1) = q at *
      go_wp2
      go_region
      have s3 := s2.drew
      clear s2 c0 c1
      generalize wr.drew = wd at *
      obtain ⟨hp8, vb, vo, rfl, d0⟩ := HV.out wd s3.drop.drop p hp
      obtain ⟨hq8, vb', vo', e2, d1⟩ := HV.out wd s3.drop.drop q hq
      obtain ⟨rfl, rfl⟩ : vb = vb' ∧ vo = vo' := by simpa using e2
      clear e2
      have k0 := (s3.boxAt 0).1
      have k1 := (s3.swap.boxAt 0).1
      simp only [List.getElem?_toArray, List.getElem?_cons_zero] at k0 k1
      have hcp : ∀ m, Calls Try.prog 25 #[.int .i64 (p : Int), .pointer (some ⟨bb, 0, none⟩), .pointer (some ⟨sb, 0, none⟩)] (wd.drewN m) fun e w' => e = .returned (.int .i64 (rk n J p)) ∧ w' = wd.drewN m := fun m =>
        behind_any (wd.drewN m) bb sb _ n vc _ J k1 k0 (HS.out _ (s3.drewN m).drop.drop) HJ.out hb p hp
      have hcq : ∀ m, Calls Try.prog 25 #[.int .i64 (q : Int), .pointer (some ⟨bb, 0, none⟩), .pointer (some ⟨sb, 0, none⟩)] (wd.drewN m) fun e w' => e = .returned (.int .i64 (rk n J q)) ∧ w' = wd.drewN m := fun m =>
        behind_any (wd.drewN m) bb sb _ n vc _ J k1 k0 (HS.out _ (s3.drewN m).drop.drop) HJ.out hb q hq
      have hgd : Good b J p q ↔ nth b p < nth b q ∨ nth b p = nth b q ∧ rk n J p < rk n J q := by unfold Good; rw [HN.out]
      have GD := Lib.hid hgd
      clear hgd
      have i1 : (p : Int) < (n : Int) := by omega
      have i2 : (q : Int) < (n : Int) := by omega
      generalize nth b p = x at *
      generalize nth b q = y at *
      generalize rk n J p = s at *
      generalize rk n J q = t at *
      by_cases hxy : y < x
      · have H := Lib.hid (HB.out fun h => by rcases GD.out.1 h with h | h <;> omega)
        have g1 : decide ((y : Int) < (x : Int)) = true := by simp; omega
        go_wp2
        go_quiet (fail)
        go_wp2
        go_ret
        exact ⟨false, ⟨fun e => (by cases e), fun e => absurd e H.out⟩, rfl, (s3.drewN nq).drop.drop⟩
      · by_cases hlt2 : x < y
        · have H := Lib.hid (HG.out.2 (GD.out.2 (.inl hlt2)))
          have g1 : decide ((y : Int) < (x : Int)) = false := by simp; omega
          have g2 : ((x : Int) == (y : Int)) = false := by simp; omega
          go_wp2
          go_quiet (fail)
          go_wp2
          go_roundw
          case rel => exact ⟨k + 1, by omega, by go_num, H, s3.drewN nq⟩
          case measure => simp [intOf]; omega
        · obtain rfl : x = y := by omega
          have g1 : decide ((x : Int) < (x : Int)) = false := by simp
          by_cases hst : s < t
          · have H := Lib.hid (HG.out.2 (GD.out.2 (.inr ⟨rfl, hst⟩)))
            have g3 : decide (t ≤ s) = false := by simp; omega
            go_wp2
            go_quiet ((go_at_call 25; first | with_reducible exact Calls.quiet_of_same (hcp _) | with_reducible exact Calls.quiet_of_same (hcq _)))
            go_wp2
            go_roundw
            case rel => exact ⟨k + 1, by omega, by go_num, H, s3.drewN nq⟩
            case measure => simp [intOf]; omega
          · have H := Lib.hid (HB.out fun h => by rcases GD.out.1 h with h | h <;> omega)
            have g3 : decide (t ≤ s) = true := by simp; omega
            go_wp2
            go_quiet ((go_at_call 25; first | with_reducible exact Calls.quiet_of_same (hcp _) | with_reducible exact Calls.quiet_of_same (hcq _)))
            go_wp2
            go_ret
            exact ⟨false, ⟨fun e => (by cases e), fun e => absurd e H.out⟩, rfl, (s3.drewN nq).drop.drop⟩
    · have H : Hid (∀ i, i + 1 < b.length → Good b J (nth O i) (nth O (i + 1))) := Lib.hid fun i hi => hG.out i (by have := HN.out; omega)
      go_wp2
      go_ret
      exact ⟨true, ⟨fun _ => H.out, fun _ => rfl⟩, rfl, s2.drop.drop⟩

end
end Go.Proofs.Ytfifkbadniekfaa.Lcp
