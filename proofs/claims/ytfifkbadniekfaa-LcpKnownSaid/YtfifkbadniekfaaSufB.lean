/-
  Contracts of package sufsort: places in order of their ranks, by counting. No conditions but that rows are small.
-/
import Derived.Test.YtfifkbadniekfaaSufA
namespace Go.Proofs.Ytfifkbadniekfaa.Suf
open Go.RowKit

/-- How many of the first k have the number ahead. -/
def tally (P : List Nat) (f : Nat → Nat) (k v : Nat) : Nat := if v = 0 then 0 else kin (P.take k) f (v - 1)
/-- .. summed up to j. -/
def summed (P : List Nat) (f : Nat → Nat) (j v : Nat) : Nat := if v ≤ j then low P f v else kin P f (v - 1)
/-- Where the next one of a number comes. -/
def starts (P : List Nat) (f : Nat → Nat) (m k v : Nat) : Nat := if v ≤ m then low P f v + kin (P.take k) f v else kin P f (v - 1)

theorem tally_step (P : List Nat) (f : Nat → Nat) (k n : Nat) (h : k < P.length) : (tab n (tally P f k)).set (f P[k] + 1) (tally P f k (f P[k] + 1) + 1) = tab n (tally P f (k + 1)) := by
  refine tab_set _ _ _ _ _ ?_ ?_
  · simp [tally, kin_take P f k _ h]
  · intro v _ hv
    unfold tally
    split
    · rfl
    · rw [kin_take P f k _ h, if_neg (by omega)]; rfl

theorem summed_step (P : List Nat) (f : Nat → Nat) (j n : Nat) : (tab n (summed P f j)).set (j + 1) (summed P f j (j + 1) + summed P f j j) = tab n (summed P f (j + 1)) := by
  refine tab_set _ _ _ _ _ ?_ ?_
  · simp [summed, low_succ, show ¬ j + 1 ≤ j by omega]; omega
  · intro v _ hv
    unfold summed
    split
    · rw [if_pos (by omega)]
    · rw [if_neg (by omega)]

theorem starts_step (P : List Nat) (f : Nat → Nat) (m k n : Nat) (h : k < P.length) (hm : f P[k] ≤ m) : (tab n (starts P f m k)).set (f P[k]) (starts P f m k (f P[k]) + 1) = tab n (starts P f m (k + 1)) := by
  refine tab_set _ _ _ _ _ ?_ ?_
  · simp [starts, kin_take P f k _ h, hm]; omega
  · intro v _ hv
    unfold starts
    split
    · rw [kin_take P f k _ h, if_neg (by omega)]; rfl
    · rfl

section
variable {B : Nat} {w0 w : World} {r : List Thing}

set_option maxRecDepth 100000 in
set_option maxHeartbeats 4000000 in
/-- counted: places in order of their ranks, like ones as they came. -/
theorem counted_st (st : St B w0 w r) (v u : Value) (P R : List Nat) (hv : ∀ W, St B w0 W r → NumRow W v P) (hu : ∀ W, St B w0 W r → NumRow W u R) (m : Nat) (hm : m ≤ 1000000) (hP : P.length ≤ 1000000) (hin : ∀ p ∈ P, p < R.length) (hle : ∀ p ∈ P, nth R p ≤ m) :
    Calls Try.prog 29 #[v, u, .int .i64 (m : Int)] w (NumsNew B w0 r (bucket P (nth R) m)) := by
  obtain ⟨i0, hi, hz0, hz1, hz2⟩ := info_parts infoI
  obtain ⟨f, hf⟩ : ∃ f, nth R = f := ⟨_, rfl⟩
  have hlen : (bucket P f m).length = P.length := by rw [bucket_length, low_all]; exact fun p hp => by have := hle p hp; rw [hf] at this; omega
  obtain ⟨n, hn⟩ : ∃ n, P.length = n := ⟨_, rfl⟩
  obtain ⟨N, hN⟩ : ∃ N, m + 2 = N := ⟨_, rfl⟩
  have hmN : (m : Int) + 2 = (N : Int) := by omega
  have hmk : i0.bytes * N ≤ 281474976710656 := by rw [hz2]; omega
  have hmx : N ≤ maxLen := by unfold maxLen; omega
  have hmk2 : i0.bytes * n ≤ 281474976710656 := by rw [hz2]; omega
  have hmx2 : n ≤ maxLen := by unfold maxLen; omega
  obtain ⟨va, vc, rfl⟩ : ∃ a c, v = .slice a P.length c := by obtain ⟨a, c, e, _⟩ := hv w st; exact ⟨a, c, e⟩
  obtain ⟨ua, uc, rfl⟩ : ∃ a c, u = .slice a R.length c := by obtain ⟨a, c, e, _⟩ := hu w st; exact ⟨a, c, e⟩
  have hread : ∀ W, St B w0 W r → ∀ k (h : k < P.length), ∃ b off b' off', va = some ⟨b, off, none⟩ ∧ W.cell? ⟨b, off + k, none⟩ = some (.int .i64 (P[k] : Int)) ∧ ua = some ⟨b', off', none⟩ ∧ W.cell? ⟨b', off' + P[k], none⟩ = some (.int .i64 (f P[k] : Int)) := by
    intro W t k h
    obtain ⟨a, c, e, _, _, hat⟩ := hv W t
    obtain ⟨rfl, -, -⟩ := Value.slice.inj e
    obtain ⟨b, off, e1, e2⟩ := hat k h
    obtain ⟨a', c', e', _, _, hat'⟩ := hu W t
    obtain ⟨rfl, -, -⟩ := Value.slice.inj e'
    have h1 := hin _ (List.getElem_mem h)
    obtain ⟨b', off', e3, e4⟩ := hat' P[k] h1
    refine ⟨b, off, b', off', e1, e2, e3, ?_⟩
    rw [e4, ← hf, nth_lt h1]
  have HR := Lib.hid hread
  clear hread hv hu
  have hlek : ∀ k (h : k < P.length), f P[k] ≤ m := fun k h => by rw [← hf]; exact hle _ (List.getElem_mem h)
  have HLE := Lib.hid hlek
  have hpin : ∀ k (h : k < P.length), P[k] < R.length := fun k h => hin _ (List.getElem_mem h)
  have HPI := Lib.hid hpin
  have HEND : Hid (∀ L, Laid P f m n L → L = bucket P f m) := Lib.hid fun L h => laid_end (by rw [hn]; exact h) (fun p hp => by have := hle p hp; rwa [hf] at this)
  rw [hf]
  clear hlek hpin hle hin hf
  rw [hn]
  have hkm : ∀ k, k ≤ n → ∀ v, kin (P.take k) f v ≤ 1000000 := fun k _ v => by have := kin_le (P.take k) f v; rw [List.length_take] at this; omega
  have HK := Lib.hid hkm
  have hlm : ∀ v, low P f v ≤ n := fun v => by rw [← hn]; exact low_le P f v
  have HL := Lib.hid hlm
  have hkn : ∀ v, kin P f v ≤ n := fun v => by rw [← hn]; exact kin_le P f v
  have HKN := Lib.hid hkn
  clear hkm hlm hkn
  have hn6 : n ≤ 1000000 := hn ▸ hP
  have HN := Lib.hid hn
  clear hn
  go_enter Try.func29, Try.ntmps29
  go_wp2_with (at_make; refine wpList_make_full _ rfl _ _ 23 rfl w.heap.size 3 i0 (.int .i64 0) 1 Try.underlying23 hi hz0 hz1 _ _ _ _ N rfl rfl ?_ ?_ hmk hmx (Nat.le_refl _) ?_)
  · rfl
  · rfl
  intro w1 hown hg
  have s1 := st.madeNums hown hg
  rw [tab_zeros N (tally P f 0) (fun v _ => by simp [tally, kin])] at s1
  clear hown hg hmk hmx st
  generalize w.heap.size = g at s1
  go_wp2
  go_loopw [9, 20] (fun _ i wr => ∃ k : Nat, k ≤ n ∧ i = .int .i64 (k : Int) ∧ St B w0 wr (numsT 3 g N (tab N (tally P f k)) :: r)) (fun _ i _ => n - (intOf i).toNat)
  case atStart => exact ⟨0, by omega, rfl, s1⟩
  case round =>
    obtain ⟨k, hk, rfl, s2⟩ := hrel
    clear s1
    by_cases hlt : k < n
    · have hkP : k < P.length := by rw [HN.out]; exact hlt
      obtain ⟨b, off, b', off', rfl, c0, rfl, c1⟩ := HR.out wr s2.drop k hkP
      have hset := tally_step P f k N hkP
      have hle := HLE.out k hkP
      have hp := HPI.out k hkP
      generalize P[k] = p at *
      have hq : tally P f k (f p + 1) ≤ 1000000 := by simp only [tally, Nat.add_one_ne_zero, if_false]; exact HK.out k (by omega) _
      obtain ⟨d0, f0⟩ := s2.numCell (f p + 1) (tab_length ..) (by omega)
      rw [tab_get] at d0
      have s3 := s2.putNum (f p + 1) (tally P f k (f p + 1) + 1)
      rw [hset] at s3
      clear hset s2
      generalize tally P f k (f p + 1) = z at *
      generalize f p = q at *
      have HS := Lib.hid s3
      clear s3
      go_wp2
      go_roundw
      case rel => exact ⟨k + 1, by omega, by go_num, HS.out⟩
      case measure => simp [intOf]; omega
    · obtain rfl : n = k := by omega
      rw [tab_same N _ (summed P f 0) (fun v _ => by unfold tally summed; rw [← HN.out, List.take_length]; by_cases e : v = 0; · subst e; simp [low_zero]
                                                     · rw [if_neg e, if_neg (by omega)])] at s2
      go_wp2
      go_loopw [10, 36] (fun _ i wr => ∃ j : Nat, j ≤ m ∧ i = .int .i64 (j : Int) ∧ St B w0 wr (numsT 3 g N (tab N (summed P f j)) :: r)) (fun _ i _ => m - (intOf i).toNat)
      case atStart => exact ⟨0, by omega, rfl, s2⟩
      case round =>
        obtain ⟨j, hj, rfl, s3⟩ := hrel
        clear s2
        by_cases hlt : j < m
        · have hset := summed_step P f j N
          have hq : summed P f j (j + 1) ≤ 1000000 := by have := HKN.out j; simp only [summed, show ¬ j + 1 ≤ j by omega, if_false, Nat.add_sub_cancel]; omega
          have hq2 : summed P f j j ≤ 1000000 := by have := HL.out j; simp only [summed, Nat.le_refl, if_true]; omega
          obtain ⟨d0, f0⟩ := s3.numCell (j + 1) (tab_length ..) (by omega)
          obtain ⟨d1, -⟩ := s3.numCell j (tab_length ..) (by omega)
          rw [tab_get] at d0 d1
          have s4 := s3.putNum (j + 1) (summed P f j (j + 1) + summed P f j j)
          rw [hset] at s4
          clear hset s3
          generalize summed P f j (j + 1) = y at *
          generalize summed P f j j = z at *
          have HS := Lib.hid s4
          clear s4
          go_wp2
          go_region
          go_wp2
          go_roundw
          case rel => exact ⟨j + 1, by omega, by go_num, HS.out.drew⟩
          case measure => simp [intOf]; omega
        · obtain rfl : m = j := by omega
          rw [tab_same N _ (starts P f m 0) (fun v _ => by unfold summed starts; split <;> simp [kin])] at s3
          go_wp2_with (at_make; refine wpList_make_full _ rfl _ _ 23 rfl wr.heap.size 3 i0 (.int .i64 0) 1 Try.underlying23 hi hz0 hz1 _ _ _ _ n rfl rfl rfl rfl hmk2 hmx2 (Nat.le_refl _) ?_)
          intro w3 hown hg
          have s4 := s3.madeNums hown hg
          clear hown hg hi hz0 hz1 hz2 hmk2 hmx2 s3
          generalize wr.heap.size = g2 at s4
          have h0 : Laid P f m 0 (List.replicate n 0) := ⟨by rw [List.length_replicate, HN.out], fun v j _ hj => by simp [kin] at hj⟩
          have H0 := Lib.hid h0
          clear h0
          go_wp2
          go_loopw [13, 14, 56] (fun _ _ i wr => ∃ (k : Nat) (L : List Nat), k ≤ n ∧ i = .int .i64 (k : Int) ∧ Hid (Laid P f m k L) ∧ St B w0 wr (numsT 3 g2 n L :: numsT 3 g N (tab N (starts P f m k)) :: r)) (fun _ _ i _ => n - (intOf i).toNat)
          case atStart => exact ⟨0, _, by omega, rfl, H0, s4⟩
          case round =>
            obtain ⟨k, L, hk, rfl, hL, s5⟩ := hrel
            clear s4 H0
            have hLl : L.length = n := by rw [hL.out.1, HN.out]
            by_cases hlt : k < n
            · have hkP : k < P.length := by rw [HN.out]; exact hlt
              obtain ⟨b, off, b', off', rfl, c0, rfl, c1⟩ := HR.out wr s5.drop.drop k hkP
              have hle := HLE.out k hkP
              have hstep := laid_step hL.out hkP
              have hset := starts_step P f m k N hkP hle
              have hp := HPI.out k hkP
              have hz : starts P f m k (f P[k]) = low P f (f P[k]) + kin (P.take k) f (f P[k]) := by rw [starts, if_pos hle]
              have hzn : low P f (f P[k]) + kin (P.take k) f (f P[k]) < n := by
                have h1 := (kin_at P f k hkP).1
                have h2 := low_succ P f (f P[k])
                have h3 := HL.out (f P[k] + 1)
                omega
              rw [hz] at hset
              generalize P[k] = p at *
              obtain ⟨d0, f0⟩ := s5.swap.numCell (f p) (tab_length ..) (by omega)
              rw [tab_get, hz] at d0
              obtain ⟨e0, f1⟩ := s5.numCell (low P f (f p) + kin (P.take k) f (f p)) hLl hzn
              have s6 := s5.putNum (low P f (f p) + kin (P.take k) f (f p)) p
              have d1 := (s6.swap.numCell (f p) (tab_length ..) (by omega)).1
              rw [tab_get, hz] at d1
              have f2 := (s6.swap.numCell (f p) (tab_length ..) (by omega)).2
              have s7 := s6.swap.putNum (f p) (low P f (f p) + kin (P.take k) f (f p) + 1)
              rw [hset] at s7
              clear hz hset s5 s6
              generalize L[low P f (f p) + kin (P.take k) f (f p)]'_ = y at *
              have HT := Lib.hid hstep
              clear hstep
              have HS := Lib.hid s7
              clear s7
              generalize low P f (f p) + kin (P.take k) f (f p) = z at *
              generalize f p = q at *
              go_wp2
              go_roundw
              case rel => exact ⟨k + 1, _, by omega, by go_num, Lib.hid HT.out, HS.out.swap⟩
              case measure => simp [intOf]; omega
            · obtain rfl : n = k := by omega
              have e := HEND.out L hL.out
              go_wp2
              go_ret
              refine ⟨g2, ?_, ?_⟩
              · rw [hlen, HN.out]; rfl
              · rw [← e, hLl]; exact s5.swap.drop

end
end Go.Proofs.Ytfifkbadniekfaa.Suf
