/-
  Contracts of package limit: which frequencies may be; what symbols weigh; things two and two. No conditions but those of the calls.
-/
import Derived.Test.YtpcbhmkalofkmaaGreatGH
import Derived.Test.YtpcbhmkalofkmaaGreatInts
namespace Go.Proofs.YtpcbhmkalofkmaaGreat.Limit
open Go.RowKit

/-- May frequencies and a limit be? -/
def fitsB (xs : List Int) (L : Int) : Bool := decide (1 ≤ L ∧ L ≤ 17) && decide (xs.length ≤ 512) && xs.all fun x => decide (0 ≤ x) && decide (x ≤ 1099511627776)

theorem fitsB_iff (xs : List Int) (L : Int) : fitsB xs L = true ↔ (1 ≤ L ∧ L ≤ 17) ∧ xs.length ≤ 512 ∧ ∀ x ∈ xs, 0 ≤ x ∧ x ≤ 1099511627776 := by simp [fitsB, and_assoc]

theorem fitsB_not {xs : List Int} {L : Int} (h : ¬ ((1 ≤ L ∧ L ≤ 17) ∧ xs.length ≤ 512 ∧ ∀ x ∈ xs, 0 ≤ x ∧ x ≤ 1099511627776)) : fitsB xs L = false := by
  cases e : fitsB xs L with
  | false => rfl
  | true => exact absurd ((fitsB_iff xs L).1 e) h

set_option maxRecDepth 100000 in
set_option maxHeartbeats 1000000 in
/-- fits: whether the frequencies and the limit may be. -/
theorem fits_any (w : World) (v : Value) (xs : List Int) (L : Int) (h : IntRow w v xs) :
    Calls Tryz.prog 61 #[v, .int .i64 L] w fun e w' => e = .returned (.bool (fitsB xs L)) ∧ w = w' := by
  obtain ⟨a, cap, rfl, hc, hn, hat⟩ := h
  go_enter Tryz.func61, Tryz.ntmps61
  by_cases h1 : L < 1
  · have hF := fitsB_not (xs := xs) (L := L) (fun h => by omega)
    go_wp2
    go_ret
    exact ⟨by first | rfl | (rw [hF]; rfl), rfl⟩
  · by_cases h2 : 17 < L
    · have hF := fitsB_not (xs := xs) (L := L) (fun h => by omega)
      go_wp2
      go_ret
      exact ⟨by first | rfl | (rw [hF]; rfl), rfl⟩
    · by_cases h5 : 512 < xs.length
      · have hF := fitsB_not (xs := xs) (L := L) (fun h => by omega)
        go_wp2
        go_ret
        exact ⟨by first | rfl | (rw [hF]; rfl), rfl⟩
      · go_wp2
        go_loopw [6, 20] (fun _ i wr => ∃ k : Nat, k ≤ xs.length ∧ i = .int .i64 (k : Int) ∧ (∀ j (hj : j < xs.length), j < k → 0 ≤ xs[j] ∧ xs[j] ≤ 1099511627776) ∧ wr = w) (fun _ i _ => xs.length - (intOf i).toNat)
        case atStart => exact ⟨0, by omega, rfl, fun j _ hj => absurd hj (by omega), rfl⟩
        case round =>
          obtain ⟨k, hk, rfl, hall, rfl⟩ := hrel
          have HA := Lib.hid hall
          clear hall
          by_cases hlt : k < xs.length
          · obtain ⟨hx, b0, off, rfl, c0⟩ := hat k hlt
            have H1 : ¬ (0 ≤ xs[k] ∧ xs[k] ≤ 1099511627776) → fitsB xs L = false := fun h => fitsB_not (fun g => h (g.2.2 _ (List.getElem_mem hlt)))
            have H2 : 0 ≤ xs[k] ∧ xs[k] ≤ 1099511627776 → ∀ j (hj : j < xs.length), j < k + 1 → 0 ≤ xs[j] ∧ xs[j] ≤ 1099511627776 := fun h j hj hjk => by
              by_cases e : j = k
              · subst e; exact h
              · exact HA.out j hj (by omega)
            have H1 := Lib.hid H1
            have H2 := Lib.hid H2
            generalize xs[k] = x at hx c0 H1 H2
            by_cases hx0 : x < 0
            · go_wp2
              go_ret
              exact ⟨by rw [H1.out (by omega)]; rfl, rfl⟩
            · by_cases hx1 : 1099511627776 < x
              · go_wp2
                go_ret
                exact ⟨by rw [H1.out (by omega)]; rfl, rfl⟩
              · go_wp2
                go_roundw
                case rel => exact ⟨k + 1, by omega, by go_num, H2.out (by omega), trivial⟩
                case measure => simp [intOf]; omega
          · obtain rfl : k = xs.length := by omega
            have e : fitsB xs L = true := (fitsB_iff xs L).2 ⟨by omega, by omega, fun x hx => by
              obtain ⟨i, hi, rfl⟩ := List.getElem_of_mem hx
              exact HA.out i hi hi⟩
            go_wp2
            go_ret
            exact ⟨by rw [e]; rfl, rfl⟩

theorem info64 : (Tryz.prog.info? 2).map (fun i => (i.zero, i.size, i.bytes)) = some (some (.int .i64 0), 1, 8) := by kernel_rfl
theorem infoInt : (Tryz.prog.info? 3).map (fun i => (i.zero, i.size, i.bytes)) = some (some (.int .i64 0), 1, 8) := by kernel_rfl

/-- A row whose first k are laid. -/
def laidTo (xs : List Nat) (k : Nat) : List Nat := xs.take k ++ List.replicate (xs.length - k) 0

theorem laidTo_length (xs : List Nat) (k : Nat) : (laidTo xs k).length = xs.length := by
  unfold laidTo; rw [List.length_append, List.length_take, List.length_replicate]; omega
theorem laidTo_zero (xs : List Nat) : laidTo xs 0 = List.replicate xs.length 0 := by simp [laidTo]
theorem laidTo_all (xs : List Nat) : laidTo xs xs.length = xs := by simp [laidTo]
theorem laidTo_set (xs : List Nat) (k : Nat) (hk : k < xs.length) : (laidTo xs k).set k xs[k] = laidTo xs (k + 1) := by
  unfold laidTo
  refine List.ext_getElem (by simp; omega) fun i h1 h2 => ?_
  have hi : i < xs.length := by simp at h2; omega
  rw [List.getElem_set]
  by_cases e : k = i
  · subst e
    rw [if_pos rfl, List.getElem_append_left (by simp; omega)]
    simp
  · rw [if_neg e]
    by_cases c : i < k
    · rw [List.getElem_append_left (by simp; omega), List.getElem_append_left (by simp; omega)]
      simp
    · rw [List.getElem_append_right (by simp; omega), List.getElem_append_right (by simp; omega)]
      simp

/-- A new row of numbers, of type e. -/
def NumsSt (e : TypeId) (B : Nat) (w0 : World) (r : List Thing) (xs : List Nat) (en : Ending) (w' : World) : Prop := ∃ g, en = .returned (.slice (some ⟨g, 0, none⟩) xs.length xs.length) ∧ St B w0 w' (numsT e g xs.length xs :: r)

theorem paired_set (xs : List Nat) (k : Nat) (hk : k < xs.length / 2) (h1 : 2 * k < xs.length) (h2 : 2 * k + 1 < xs.length) : (laidTo (paired xs) k).set k (xs[2 * k] + xs[2 * k + 1]) = laidTo (paired xs) (k + 1) := by
  have hk' : k < (paired xs).length := by rw [paired_length]; exact hk
  have e : (paired xs)[k] = xs[2 * k] + xs[2 * k + 1] := by
    rw [← nth_lt hk', paired_nth hk, nth_lt h1, nth_lt h2]
  rw [← laidTo_set _ _ hk', e]

set_option maxRecDepth 100000 in
set_option maxHeartbeats 1000000 in
/-- paired: things two and two. -/
theorem paired_st {B : Nat} {w0 w : World} {r : List Thing} (st : St B w0 w r) (v : Value) (xs : List Nat) (h : NumRow w v xs) (hl : xs.length ≤ 1000000) (hx : ∀ x ∈ xs, x ≤ 1152921504606846976) :
    Calls Tryz.prog 107 #[v] w (NumsSt 2 B w0 r (paired xs)) := by
  obtain ⟨i0, hi, hz0, hz1, hz2⟩ := info_parts info64
  obtain ⟨n, hn⟩ : ∃ n, xs.length / 2 = n := ⟨_, rfl⟩
  have hpl : (paired xs).length = n := by rw [paired_length, hn]
  have hmk : i0.bytes * n ≤ 281474976710656 := by rw [hz2]; omega
  have hmx : n ≤ maxLen := by unfold maxLen; omega
  obtain ⟨a, cap, rfl, hc, hnn, hat⟩ := id h
  go_enter Tryz.func107, Tryz.ntmps107
  have hdiv : (xs.length : Int) / 2 = (n : Int) := by omega
  have H := Lib.hid h
  clear h
  have HX := Lib.hid hx
  clear hx
  go_wp2_with (at_make; refine wpList_make_full _ rfl _ _ 119 rfl w.heap.size 2 i0 (.int .i64 0) 1 Tryz.underlying119 hi hz0 hz1 _ _ _ _ n rfl rfl ?_ ?_ hmk hmx (Nat.le_refl _) ?_)
  · rfl
  · rfl
  intro w1 hown hg
  have s1 : St B w0 w1 (numsT 2 w.heap.size n (laidTo (paired xs) 0) :: r) := by
    rw [laidTo_zero, hpl]; exact st.madeNums hown hg
  have b1 : Below w.heap.size w w1 := (Below.refl w.heap.size w).grown hg (Nat.le_refl _) (by simp)
  clear hown hg hi hz0 hz1 hz2 hmk hmx
  generalize hgs : w.heap.size = g at s1 b1
  go_wp2
  go_loopw [4, 11] (fun _ i wr => ∃ k : Nat, k ≤ n ∧ i = .int .i64 (k : Int) ∧ St B w0 wr (numsT 2 g n (laidTo (paired xs) k) :: r) ∧ Below g w wr) (fun _ i _ => n - (intOf i).toNat)
  case atStart => exact ⟨0, by omega, rfl, s1, b1⟩
  case round =>
    obtain ⟨k, hk, rfl, s2, b2⟩ := hrel
    clear s1 b1
    by_cases hlt : k < n
    · obtain ⟨a', cap', e', _, _, hat'⟩ := H.out.below b2 (by omega)
      obtain ⟨rfl, -, rfl⟩ := Value.slice.inj e'
      obtain ⟨b0, off, rfl, c0⟩ := hat' (2 * k) (by omega)
      obtain ⟨b1, off1, e1, c1⟩ := hat' (2 * k + 1) (by omega)
      obtain ⟨rfl, rfl⟩ : b0 = b1 ∧ off = off1 := by simpa using e1
      have x0 := HX.out _ (List.getElem_mem (show 2 * k < xs.length by omega))
      have x1 := HX.out _ (List.getElem_mem (show 2 * k + 1 < xs.length by omega))
      have hset := paired_set xs k (by omega) (by omega) (by omega)
      obtain ⟨d0, f0⟩ := s2.numCell k (by rw [laidTo_length, hpl]) hlt
      have s3 := s2.putNum k (xs[2 * k]'(by omega) + xs[2 * k + 1]'(by omega))
      rw [hset] at s3
      have b3 := b2.setCell (p := ⟨g, k, none⟩) (Nat.le_refl _) (.int .i64 ((xs[2 * k]'(by omega) + xs[2 * k + 1]'(by omega) : Nat) : Int))
      clear hat hat' e1 e' hset s2 b2
      generalize xs[2 * k]'(by omega) = y0 at *
      generalize xs[2 * k + 1]'(by omega) = y1 at *
      generalize (laidTo (paired xs) k)[k]'(by rw [laidTo_length]; omega) = z at d0
      have HS := Lib.hid (And.intro s3 b3)
      clear s3 b3
      go_wp2
      go_region
      go_wp2
      go_roundw
      case rel => exact ⟨k + 1, by omega, by go_num, HS.out.1.drew, HS.out.2.drew⟩
      case measure => simp [intOf]; omega
    · obtain rfl : k = n := by omega
      go_wp2
      go_ret
      have e := laidTo_all (paired xs)
      rw [hpl] at e
      rw [e] at s2
      rw [← hpl] at s2
      refine ⟨g, ?_, s2⟩
      rw [hpl]; rfl

set_option maxRecDepth 100000 in
set_option maxHeartbeats 1000000 in
/-- weightsOf: what these symbols weigh. -/
theorem weightsOf_st {B : Nat} {w0 w : World} {r : List Thing} (st : St B w0 w r) (v u : Value) (F S : List Nat) (h : NumRow w v F) (h2 : NumRow w u S) (hl : S.length ≤ 1000000) (hS : ∀ s ∈ S, s < F.length) :
    Calls Tryz.prog 64 #[v, u] w (NumsSt 2 B w0 r (S.map (nth F))) := by
  obtain ⟨i0, hi, hz0, hz1, hz2⟩ := info_parts info64
  obtain ⟨n, hn⟩ : ∃ n, S.length = n := ⟨_, rfl⟩
  have hpl : (S.map (nth F)).length = n := by rw [List.length_map, hn]
  have hmk : i0.bytes * n ≤ 281474976710656 := by rw [hz2]; omega
  have hmx : n ≤ maxLen := by unfold maxLen; omega
  obtain ⟨a, cap, rfl, hc, hnn, hat⟩ := id h
  obtain ⟨a2, cap2, rfl, hc2, hnn2, hat2⟩ := id h2
  rw [hn]
  go_enter Tryz.func64, Tryz.ntmps64
  have H := Lib.hid h
  have H2 := Lib.hid h2
  have HS := Lib.hid hS
  clear h h2 hS
  go_wp2_with (at_make; refine wpList_make_full _ rfl _ _ 119 rfl w.heap.size 2 i0 (.int .i64 0) 1 Tryz.underlying119 hi hz0 hz1 _ _ _ _ n rfl rfl rfl rfl hmk hmx (Nat.le_refl _) ?_)
  intro w1 hown hg
  have s1 : St B w0 w1 (numsT 2 w.heap.size n (laidTo (S.map (nth F)) 0) :: r) := by
    rw [laidTo_zero, hpl]; exact st.madeNums hown hg
  have b1 : Below w.heap.size w w1 := (Below.refl w.heap.size w).grown hg (Nat.le_refl _) (by simp)
  clear hown hg hi hz0 hz1 hz2 hmk hmx
  generalize hgs : w.heap.size = g at s1 b1
  go_wp2
  go_loopw [6, 7, 13] (fun _ _ i wr => ∃ k : Nat, k ≤ n ∧ i = .int .i64 (k : Int) ∧ St B w0 wr (numsT 2 g n (laidTo (S.map (nth F)) k) :: r) ∧ Below g w wr) (fun _ _ i _ => n - (intOf i).toNat)
  case atStart => exact ⟨0, by omega, rfl, s1, b1⟩
  case round =>
    obtain ⟨k, hk, rfl, s2, b2⟩ := hrel
    clear s1 b1
    by_cases hlt : k < n
    · obtain ⟨a', cap', e', _, _, hat'⟩ := H2.out.below b2 (by omega)
      obtain ⟨rfl, -, rfl⟩ := Value.slice.inj e'
      obtain ⟨b0, off, rfl, c0⟩ := hat' k (by omega)
      have hs := HS.out _ (List.getElem_mem (show k < S.length by omega))
      obtain ⟨a3, cap3, e3, _, _, hat3⟩ := H.out.below b2 (by omega)
      obtain ⟨rfl, -, rfl⟩ := Value.slice.inj e3
      obtain ⟨b5, off5, rfl, c5⟩ := hat3 _ hs
      have hset := laidTo_set (S.map (nth F)) k (by omega)
      rw [List.getElem_map, nth_lt hs] at hset
      obtain ⟨d0, f0⟩ := s2.numCell k (by rw [laidTo_length, hpl]) hlt
      have s3 := s2.putNum k (F[S[k]'(by omega)]'hs)
      rw [hset] at s3
      have b3 := b2.setCell (p := ⟨g, k, none⟩) (Nat.le_refl _) (.int .i64 ((F[S[k]'(by omega)]'hs : Nat) : Int))
      clear hat hat2 hat' hat3 e' e3 hset s2 b2
      generalize hy : F[S[k]'(by omega)]'hs = y0 at *
      clear hy
      generalize S[k]'(by omega) = y1 at *
      generalize (laidTo (S.map (nth F)) k)[k]'(by rw [laidTo_length]; omega) = z at d0
      have HR := Lib.hid (And.intro s3 b3)
      clear s3 b3
      go_wp2
      go_roundw
      case rel => exact ⟨k + 1, by omega, by go_num, HR.out.1, HR.out.2⟩
      case measure => simp [intOf]; omega
    · obtain rfl : k = n := by omega
      go_wp2
      go_ret
      have e := laidTo_all (S.map (nth F))
      rw [hpl] at e
      rw [e] at s2
      rw [← hpl] at s2
      refine ⟨g, ?_, s2⟩
      rw [hpl]; rfl

end Go.Proofs.YtpcbhmkalofkmaaGreat.Limit
