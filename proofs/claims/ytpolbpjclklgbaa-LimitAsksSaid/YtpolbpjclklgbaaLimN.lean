/-
  Contracts of package pressworklaw05: choice. No conditions but those of the calls.
-/
import Derived.Test.YtpolbpjclklgbaaLimM
namespace Go.Proofs.Ytpolbpjclklgbaa.Limit
open Go.RowKit
open Go.Proofs.Ytpolbpjclklgbaa.Kraft

/-- How many of the first k are above 0. -/
def posN (F : List Nat) (k : Nat) : Nat := sumTo (fun i => if 0 < nth F i then 1 else 0) k

theorem posN_all (F : List Nat) : posN F F.length = (pos F).length := by
  induction F with
  | nil => rfl
  | cons f F ih =>
    unfold posN at ih ⊢
    rw [List.length_cons, Nat.add_comm F.length 1, sumTo_split]
    have : sumTo (fun j => if 0 < nth (f :: F) (1 + j) then 1 else 0) F.length = sumTo (fun i => if 0 < nth F i then 1 else 0) F.length := sumTo_congr fun i _ => by
      rw [Nat.add_comm 1 i]; rfl
    rw [this, ih]
    unfold pos
    by_cases h : 0 < f
    · rw [List.filter_cons_of_pos (by simpa using h), List.length_cons]
      simp [sumTo, nth, h]; omega
    · rw [List.filter_cons_of_neg (by simpa using h)]
      simp [sumTo, nth, h]

theorem posN_le (F : List Nat) (k : Nat) : posN F k ≤ k := by
  have := sumTo_bound (f := fun i => if 0 < nth F i then 1 else 0) (c := 1) (n := k) (fun j _ => by split <;> omega)
  unfold posN; omega

theorem posN_succ (F : List Nat) (k : Nat) : posN F (k + 1) = posN F k + if 0 < nth F k then 1 else 0 := by unfold posN; rw [sumTo]

/-- The first two of what a choice is. -/
def Fits (F O : List Nat) (L k : Nat) : Prop := ∀ i, i < k → (0 < nth O i ↔ 0 < nth F i) ∧ nth O i ≤ L

theorem choice_of {F O : List Nat} {L : Nat} (hl : O.length = F.length) (h : Fits F O L F.length) (hf : 2 ≤ (pos F).length → kraft L O = 2 ^ L) (ho : (pos F).length < 2 → ∀ i, i < F.length → nth O i ≤ 1) : Choice F L O :=
  ⟨hl, fun i hi => (h i hi).1, fun i hi => (h i hi).2, hf, ho⟩

set_option maxRecDepth 100000 in
set_option maxHeartbeats 4000000 in
/-- choice. -/
theorem choice_any (w : World) (v u : Value) (F O : List Nat) (L : Nat) (h : NumRow w v F) (g : ByteRow w u O) (hL : 1 ≤ L ∧ L ≤ 17) (hn : F.length ≤ 512) :
    Calls Try.prog 9 #[v, u, .int .i64 (L : Int)] w fun e w' => ∃ b, e = .returned (.bool b) ∧ (b = true ↔ Choice F L O) ∧ ∃ n, w' = w.drewN n := by
  have HG := Lib.hid g
  have HH := Lib.hid h
  obtain ⟨a, cap, rfl, hc, hnn, -⟩ := h
  obtain ⟨a2, cap2, rfl, hc2, hnn2, -⟩ := g
  go_enter Try.func9, Try.ntmps9
  by_cases hl : O.length = F.length
  · rw [hl]
    go_wp2
    go_loopw [7, 8] (fun s i wr => ∃ k n : Nat, k ≤ F.length ∧ i = .int .i64 (k : Int) ∧ s = .int .i64 (posN F k : Int) ∧ Fits F O L k ∧ wr = w.drewN n) (fun _ i _ => F.length - (intOf i).toNat)
    case atStart => exact ⟨0, 0, by omega, rfl, rfl, fun i hi => absurd hi (by omega), rfl⟩
    case round =>
      obtain ⟨k, n, hk, rfl, rfl, hfit, rfl⟩ := hrel
      have HF := Lib.hid hfit
      clear hfit
      by_cases hlt : k < F.length
      · obtain ⟨a', cap', e', _, _, hat⟩ := HH.out
        obtain ⟨rfl, -, rfl⟩ := Value.slice.inj e'
        obtain ⟨b0, off, rfl, c0⟩ := hat k hlt
        obtain ⟨a3, cap3, e3, _, _, hat3⟩ := HG.out
        obtain ⟨rfl, -, rfl⟩ := Value.slice.inj e3
        obtain ⟨hb, b1, off1, rfl, c1⟩ := hat3 k (by omega)
        have hple := posN_le F k
        have HP := Lib.hid (posN_succ F k)
        have HS : ((0 < nth O k ↔ 0 < nth F k) ∧ nth O k ≤ L) → Fits F O L (k + 1) := fun hh i hi => by
          by_cases e : i = k
          · subst e; exact hh
          · exact HF.out i (by omega)
        have HX : ¬ ((0 < nth O k ↔ 0 < nth F k) ∧ nth O k ≤ L) → ¬ Choice F L O := fun hh hC => hh ⟨hC.some k hlt, hC.limit k hlt⟩
        rw [nth_lt hlt, nth_lt (by omega)] at HS HX
        rw [nth_lt hlt] at HP
        have HS := Lib.hid HS
        have HX := Lib.hid HX
        clear hat hat3 e' e3
        generalize posN F k = s at *
        generalize F[k] = f at *
        generalize O[k]'(by omega) = o at *
        have d0 : decide ((k : Int) < (F.length : Int)) = true := by simp; omega
        have c0' : (w.drewN n).cell? ⟨b0, off + k, none⟩ = some (.int .i64 (f : Int)) := c0
        have c1' : (w.drewN n).cell? ⟨b1, off1 + k, none⟩ = some (.int .u8 (o : Int)) := c1
        clear c0 c1
        obtain ⟨wq, hwq⟩ : ∃ wq, w.drewN n = wq := ⟨_, rfl⟩
        rw [hwq] at c0' c1' ⊢
        have HQ := Lib.hid hwq
        clear hwq
        by_cases ho : 0 < o
        · have d1 : decide (0 < (o : Int)) = true := by simp; omega
          by_cases hf : 0 < f
          · have d2 : decide (0 < (f : Int)) = true := by simp; omega
            by_cases hm : L < o
            · have d3 : decide ((L : Int) < (o : Int)) = true := by simp; omega
              have hN := HX.out (fun hh => by omega)
              have HN := Lib.hid hN
              clear hN
              go_wp2
              go_quiet (fail)
              go_wp2
              go_ret
              exact ⟨false, rfl, by simpa using HN.out, n + nq, by rw [← HQ.out]; simp [World.drewN, Nat.add_assoc]⟩
            · have d3 : decide ((L : Int) < (o : Int)) = false := by simp; omega
              have hS := Lib.hid (HS.out ⟨⟨fun _ => hf, fun _ => ho⟩, by omega⟩)
              go_wp2
              go_quiet (fail)
              go_wp2
              go_roundw
              case rel => exact ⟨k + 1, n + nq, by omega, by go_num, by rw [HP.out, if_pos hf]; go_num, hS.out, by rw [← HQ.out]; simp [World.drewN, Nat.add_assoc]⟩
              case measure => simp [intOf]; omega
          · have d2 : decide (0 < (f : Int)) = false := by simp; omega
            have HN := Lib.hid (HX.out (fun hh => hf (hh.1.1 ho)))
            go_wp2
            go_quiet (fail)
            go_wp2
            go_ret
            exact ⟨false, rfl, by simpa using HN.out, n + nq, by rw [← HQ.out]; simp [World.drewN, Nat.add_assoc]⟩
        · have d1 : decide (0 < (o : Int)) = false := by simp; omega
          by_cases hf : 0 < f
          · have d2 : decide (0 < (f : Int)) = true := by simp; omega
            have HN := Lib.hid (HX.out (fun hh => ho (hh.1.2 hf)))
            go_wp2
            go_quiet (fail)
            go_wp2
            go_ret
            exact ⟨false, rfl, by simpa using HN.out, n + nq, by rw [← HQ.out]; simp [World.drewN, Nat.add_assoc]⟩
          · have d2 : decide (0 < (f : Int)) = false := by simp; omega
            have d3 : decide ((L : Int) < (o : Int)) = false := by simp; omega
            have hS := Lib.hid (HS.out ⟨⟨fun h => absurd h ho, fun h => absurd h hf⟩, by omega⟩)
            go_wp2
            go_quiet (fail)
            go_wp2
            go_roundw
            case rel => exact ⟨k + 1, n + nq, by omega, by go_num, by rw [HP.out, if_neg hf]; rfl, hS.out, by rw [← HQ.out]; simp [World.drewN, Nat.add_assoc]⟩
            case measure => simp [intOf]; omega
      · obtain rfl : k = F.length := by omega
        have hpa := posN_all F
        rw [hpa]
        clear hpa
        have HO := Lib.hid (fun (h2 : (pos F).length < 2) (ho : ∀ i, i < F.length → nth O i ≤ 1) => choice_of hl HF.out (fun h => by omega) (fun _ => ho))
        have HO2 := Lib.hid (fun (h2 : (pos F).length < 2) (hC : Choice F L O) => hC.one h2)
        have HK := Lib.hid (fun (h2 : ¬ (pos F).length < 2) (hk : kraft L O = 2 ^ L) => choice_of hl HF.out (fun _ => hk) (fun h => by omega))
        have HK2 := Lib.hid (fun (h2 : ¬ (pos F).length < 2) (hC : Choice F L O) => hC.full (by omega))
        have HFU := Lib.hid (full_iff O L hL.2 (by omega) (fun i hi => (HF.out i (by omega)).2))
        have hcle : (pos F).length ≤ F.length := List.length_filter_le _ _
        generalize (pos F).length = c at *
        obtain ⟨wq, hwq⟩ : ∃ wq, w.drewN n = wq := ⟨_, rfl⟩
        have HQ := Lib.hid hwq
        rw [hwq]
        clear hwq
        by_cases h2 : c < 2
        · have d0 : decide ((c : Int) < 2) = true := by simp; omega
          have HO := Lib.hid (HO.out h2)
          have HO2 := Lib.hid (HO2.out h2)
          go_wp2
          go_loopw [9] (fun i wr => ∃ k : Nat, k ≤ F.length ∧ i = .int .i64 (k : Int) ∧ (∀ j, j < k → nth O j ≤ 1) ∧ wr = wq) (fun i _ => F.length - (intOf i).toNat)
          case atStart => exact ⟨0, by omega, rfl, fun j hj => absurd hj (by omega), rfl⟩
          case round =>
            obtain ⟨k, hk, rfl, hall, rfl⟩ := hrel
            have HA := Lib.hid hall
            clear hall
            by_cases hlt : k < F.length
            · obtain ⟨a3, cap3, e3, _, _, hat3⟩ := HG.out
              obtain ⟨rfl, -, rfl⟩ := Value.slice.inj e3
              obtain ⟨hb, b1, off1, rfl, c1⟩ := hat3 k (by omega)
              have h1 : 1 < nth O k → ¬ Choice F L O := fun hh hC => by have := HO2.out hC k hlt; omega
              have h3 : nth O k ≤ 1 → ∀ j, j < k + 1 → nth O j ≤ 1 := fun hh j hj => by
                by_cases e : j = k
                · subst e; exact hh
                · exact HA.out j (by omega)
              rw [nth_lt (by omega)] at h1 h3
              have h1 := Lib.hid h1
              have h3 := Lib.hid h3
              clear hat3 e3
              generalize O[k]'(by omega) = o at *
              have c1' : (w.drewN n).cell? ⟨b1, off1 + k, none⟩ = some (.int .u8 (o : Int)) := c1
              rw [HQ.out] at c1'
              clear c1
              have d1 : decide ((k : Int) < (F.length : Int)) = true := by simp; omega
              by_cases hx : 1 < o
              · have HN := Lib.hid (h1.out hx)
                go_wp2
                go_ret
                exact ⟨false, rfl, by simpa using HN.out, n, HQ.out.symm⟩
              · go_wp2
                go_roundw
                case rel => exact ⟨k + 1, by omega, by go_num, h3.out (by omega), trivial⟩
                case measure => simp [intOf]; omega
            · obtain rfl : k = F.length := by omega
              have HC := Lib.hid (HO.out HA.out)
              go_wp2
              go_ret
              exact ⟨true, rfl, by simpa using HC.out, n, HQ.out.symm⟩
        · have d0 : decide ((c : Int) < 2) = false := by simp; omega
          have HK := Lib.hid (HK.out h2)
          have HK2 := Lib.hid (HK2.out h2)
          have hcl := classify_any wq _ O (HG.out.below (by rw [← HQ.out]; exact (⟨rfl, rfl, rfl, Nat.le_refl _, fun _ _ => rfl⟩ : Below w.heap.size w (w.drewN n))) (Nat.le_refl _)) (by omega)
          rw [hl] at hcl
          by_cases hfull : kraft L O = 2 ^ L
          · have HC := Lib.hid (HK.out hfull)
            rw [HFU.out.2 hfull] at hcl
            clear hfull
            go_wp2_with (go_at_call 11; refine hcl.mono ?_; rintro e w1 ⟨rfl, rfl⟩)
            go_ret
            exact ⟨true, rfl, by simpa using HC.out, n, HQ.out.symm⟩
          · have HC := Lib.hid (fun hC => hfull (HK2.out hC))
            have hne : classAns O ≠ .tuple #[.int .u8 2, .int .i64 0] := fun e => hfull (HFU.out.1 e)
            clear hfull
            unfold classAns at hcl hne
            by_cases hm : may O = true
            · rw [if_pos hm] at hcl hne
              have h5 : class_ (weight O) ≠ 2 := fun e => hne (by rw [e]; rfl)
              have d5 : ((class_ (weight O) : Int) == 2) = false := by simp; omega
              generalize class_ (weight O) = y at *
              clear hne
              go_wp2_with (go_at_call 11; refine hcl.mono ?_; rintro e w1 ⟨rfl, rfl⟩)
              go_ret
              exact ⟨false, rfl, by simpa using HC.out, n, HQ.out.symm⟩
            · rw [if_neg hm] at hcl
              clear hne
              go_wp2_with (go_at_call 11; refine hcl.mono ?_; rintro e w1 ⟨rfl, rfl⟩)
              go_ret
              exact ⟨false, rfl, by simpa using HC.out, n, HQ.out.symm⟩
  · have hN : ¬ Choice F L O := fun hC => hl hC.length
    have d0 : ((O.length : Int) == (F.length : Int)) = false := by simp; omega
    have d1 : ((O.length : Int) != (F.length : Int)) = true := by simp; omega
    go_wp2
    go_ret
    exact ⟨false, rfl, by simpa using hN, 0, rfl⟩

theorem kraft_ge (L : Nat) (O : List Nat) : (pos O).length ≤ kraft L O := by
  induction O with
  | nil => simp [pos]
  | cons o O ih =>
    rw [kraft_cons]
    unfold pos at ih ⊢
    by_cases h : o = 0
    · subst h
      rw [List.filter_cons_of_neg (by simp), if_pos rfl]
      omega
    · rw [List.filter_cons_of_pos (by simp; omega), if_neg h, List.length_cons]
      have := Nat.two_pow_pos (L - o)
      omega

/-- Where there is a choice there are not too many symbols. -/
theorem choice_few {F O : List Nat} {L : Nat} (h : Choice F L O) : (pos F).length ≤ 2 ^ L := by
  by_cases h2 : 2 ≤ (pos F).length
  · have h1 := kraft_ge L O
    rw [h.full h2, pos_length_eq h.length h.some] at h1
    exact h1
  · have := Nat.two_pow_pos L
    omega

/-- Lengths of such frequencies, of a state. -/
theorem lengths_ok {B : Nat} {w0 w : World} {r : List Thing} (st : St B w0 w r) (v : Value) (xs : List Int) (L : Nat) (h : IntRow w v xs) (hx : ∀ x ∈ xs, 0 ≤ x ∧ x ≤ 1099511627776) (hn : xs.length ≤ 512) (hL : 1 ≤ L ∧ L ≤ 17) (hp : (pos (xs.map Int.toNat)).length ≤ 2 ^ L) :
    Calls Try.prog 7 #[v, .int .i64 (L : Int)] w fun e w' => ∃ u, e = .returned (.tuple #[u, .int .i64 0]) ∧ St B w0 w' (rowT 5 1 u xs.length (u8s (lengths (xs.map Int.toNat) (rare (xs.map Int.toNat)) L)) :: r) := by
  have hf : fitsB xs (L : Int) = true := (fitsB_iff xs L).2 ⟨by omega, hn, hx⟩
  have he : errOf xs (L : Int) = 0 := errOf_ok hf (by simpa using hp)
  have ha := lensAns_ok he
  refine (lengths_st st v xs (L : Int) h).mono ?_
  rintro e w' ⟨u, rfl, s⟩
  refine ⟨u, by rw [he]; rfl, ?_⟩
  have e1 : (Int.toNat (L : Int)) = L := by simp
  rw [ha, lengths_length, List.length_map, e1] at s
  exact s

theorem lengths_bytes (F S : List Nat) (L : Nat) (h : Rare F S) (hL : 1 ≤ L ∧ L ≤ 17) (hp : (pos F).length ≤ 2 ^ L) : ∀ x ∈ lengths F S L, x < 256 := by
  intro x hx
  obtain ⟨i, hi, rfl⟩ := nth_mem hx
  have := (lengths_choice h hL.1 (by rw [pos_perm_length h]; exact hp)).limit i (by rwa [lengths_length] at hi)
  omega

end Go.Proofs.Ytpolbpjclklgbaa.Limit
