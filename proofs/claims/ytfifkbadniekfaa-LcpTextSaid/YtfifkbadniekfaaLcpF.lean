/-
  Contract of the document's Heights. No conditions but that rows are small.
-/
import Derived.Test.YtfifkbadniekfaaLcpE
import Derived.Test.YtfifkbadniekfaaSufL
namespace Go.Proofs.Ytfifkbadniekfaa.Lcp
open Go.RowKit Go.Proofs.Ytfifkbadniekfaa.Suf

/-- The heights up to the k-th. -/
def hUpto (b O : List Nat) (k : Nat) : List Nat := tab O.length fun i => if i ≤ k then hAt b O i else 0
theorem hUpto_length (b O : List Nat) (k : Nat) : (hUpto b O k).length = O.length := tab_length ..
theorem hUpto_zero (b O : List Nat) : List.replicate O.length 0 = hUpto b O 0 := tab_zeros _ _ fun v _ => by
  by_cases e : v ≤ 0
  · rw [if_pos e, hAt, if_pos (by omega)]
  · rw [if_neg e]
theorem hUpto_step (b O : List Nat) (k : Nat) : (hUpto b O k).set (k + 1) (com b (nth O k) (nth O (k + 1))) = hUpto b O (k + 1) := by
  refine tab_set _ _ _ _ _ ?_ fun v hv hne => ?_
  · rw [if_pos (Nat.le_refl _)]; simp [hAt]
  · by_cases e : v ≤ k
    · rw [if_pos e, if_pos (by omega)]
    · rw [if_neg e, if_neg (by omega)]
theorem hUpto_end (b O : List Nat) (k : Nat) (h : O.length ≤ k + 1) : hUpto b O k = hts b O := tab_same _ _ _ fun v hv => by rw [if_pos (by omega)]

section
variable {B : Nat} {w0 w : World} {r : List Thing}

set_option maxRecDepth 100000 in
set_option maxHeartbeats 4000000 in
/-- The document's Heights. -/
theorem refHeights_st (st : St B w0 w r) (v u : Value) (b : List Nat) (xs : List Int) (hv : ∀ W, St B w0 W r → ByteRow W v b) (hu : ∀ W, St B w0 W r → IntRow W u xs) (hb : b.length ≤ 1000) (hx : xs.length ≤ 1000000) :
    Calls Try.prog 10 #[v, u] w (HeightsSt B w0 r b xs) := by
  obtain ⟨va, vc, rfl⟩ : ∃ a c, v = .slice a b.length c := by obtain ⟨a, c, e, _⟩ := hv w st; exact ⟨a, c, e⟩
  obtain ⟨ua, uc, rfl⟩ : ∃ a c, u = .slice a xs.length c := by obtain ⟨a, c, e, _⟩ := hu w st; exact ⟨a, c, e⟩
  have hor := orderEnd_st st _ b hv hb
  have HV := Lib.hid hv
  have HU := Lib.hid hu
  obtain ⟨m, hm⟩ : ∃ m, xs.length = m := ⟨_, rfl⟩
  obtain ⟨n, hn⟩ : ∃ n, b.length = n := ⟨_, rfl⟩
  have HL := Lib.hid (And.intro hm hn)
  rw [hm] at hx ⊢
  rw [hn] at hb hor ⊢
  clear hv hu hm hn
  obtain ⟨i0, hi, hz0, hz1, hz2⟩ := info_parts infoI
  have hmk : i0.bytes * n ≤ 281474976710656 := by rw [hz2]; omega
  have hmx : n ≤ maxLen := by unfold maxLen; omega
  go_enter Try.func10, Try.ntmps10
  go_wp2_with fail
  refine hor.mono ?_
  rintro e w1 ⟨O, vo, hO, rfl, s1⟩
  clear hor
  have hOm : ∀ x ∈ O, x ≤ 1000000 := fun x hx => by have := hO.mem x hx; rw [HL.out.2] at this; omega
  have hOl : O.length = n := by rw [hO.len, HL.out.2]
  have hsm := same_any w1 (.slice ua m uc) vo xs _ (by have := HU.out w1 s1.drop; rwa [HL.out.1] at this) (NumRow.intRow s1.numRow hOm) (by rw [HL.out.1]; exact hx)
  by_cases heq : xs = (O.map fun x : Nat => (x : Int))
  rotate_left
  · rw [show decide (xs = (O.map fun x : Nat => (x : Int))) = false from decide_eq_false heq] at hsm
    have hno : ∀ O' : List Nat, xs = (O'.map fun x : Nat => (x : Int)) → ¬ Whole b.length (Ahead false b) O' := fun O' e h => heq (by rw [e, Whole.one (fun _ _ h h' => h.asymm h') h hO])
    have HNO := Lib.hid hno
    clear hno heq hOm hO hOl
    go_wp2_with fail
    refine hsm.mono ?_
    rintro e w2 ⟨rfl, j, rfl⟩
    clear hsm
    go_wp2_with fail
    go_ret2
    exact .inr ⟨HNO.out, rfl, (s1.drewN j).drop⟩
  rw [show decide (xs = (O.map fun x : Nat => (x : Int))) = true from decide_eq_true heq] at hsm
  have hmn : m = n := by rw [← HL.out.1, heq, List.length_map, hOl]
  subst hmn
  have HX := Lib.hid (And.intro heq (And.intro hO hOl))
  go_wp2_with fail
  refine hsm.mono ?_
  rintro e w2 ⟨rfl, j, rfl⟩
  have s2 := (s1.drewN j).drop
  clear hsm s1 heq hOm hO hOl st
  generalize w1.drewN j = w2 at *
  have hU : ∀ W, St B w0 W r → ∀ i, i < m → nth O i < m ∧ ∃ x off, ua = some ⟨x, off, none⟩ ∧ W.cell? ⟨x, off + i, none⟩ = some (.int .i64 (nth O i : Int)) := fun W t i hi => by
    obtain ⟨a, c, e, _, _, hat⟩ := HU.out W t
    obtain ⟨rfl, -, -⟩ := Value.slice.inj e
    obtain ⟨_, x, off, e1, e2⟩ := hat i (by rw [HL.out.1]; exact hi)
    refine ⟨by have := Whole.at HX.out.2.1 (i := i) (by rw [HL.out.2]; exact hi); rwa [HL.out.2] at this, x, off, e1, ?_⟩
    rw [e2]
    congr 2
    have h1 : xs[i]? = some (nth O i : Int) := by rw [HX.out.1, List.getElem?_map, List.getElem?_eq_getElem (by rw [HX.out.2.2]; exact hi), nth_lt (by rw [HX.out.2.2]; exact hi)]; rfl
    rw [List.getElem?_eq_getElem (by rw [HL.out.1]; exact hi)] at h1
    exact Option.some.inj h1
  have HU2 := Lib.hid hU
  clear hU
  go_wp2_with (at_make; refine wpList_make_full _ rfl _ _ 23 rfl w2.heap.size 3 i0 (.int .i64 0) 1 Try.underlying23 hi hz0 hz1 _ _ _ _ m rfl rfl rfl rfl hmk hmx (Nat.le_refl _) ?_)
  intro w3 hown hg
  have s3 := s2.madeNums hown hg
  clear hown hg hi hz0 hz1 hz2 hmk hmx
  generalize w2.heap.size = g at s3
  have h0 := hUpto_zero b O
  rw [HX.out.2.2] at h0
  rw [h0] at s3
  clear h0 s2
  go_wp2
  go_loopw [7] (fun i wr => ∃ k : Nat, (k + 1 ≤ m ∨ k = 0) ∧ i = .int .i64 ((k : Int) + 1) ∧ St B w0 wr (numsT 3 g m (hUpto b O k) :: r)) (fun i _ => m - (intOf i).toNat)
  case atStart => exact ⟨0, .inr rfl, rfl, s3⟩
  case round =>
    clear s3
    obtain ⟨k, hk, rfl, s4⟩ := hrel
    by_cases hlt : k + 1 < m
    · obtain ⟨hp, ob, oo, rfl, c0⟩ := HU2.out wr s4.drop k (by omega)
      obtain ⟨hq, ob', oo', e1, c1⟩ := HU2.out wr s4.drop (k + 1) hlt
      obtain ⟨rfl, rfl⟩ : ob = ob' ∧ oo = oo' := by simpa using e1
      have hcall : ∀ W, St B w0 W r → Calls Try.prog 16 #[.slice va m vc, .int .i64 (nth O k : Int), .int .i64 (nth O (k + 1) : Int)] W fun e w' => e = .returned (.int .i64 (com b (nth O k) (nth O (k + 1)) : Int)) ∧ ∃ j, w' = W.drewN j := fun W t => by
        have := refCommon_any W (.slice va b.length vc) b (HV.out W t) (by rw [HL.out.2]; omega) (nth O k) (nth O (k + 1)) (by rw [HL.out.2]; omega) (by rw [HL.out.2]; omega)
        rwa [HL.out.2] at this
      have hstep := hUpto_step b O k
      have hlen : (hUpto b O k).length = m := by rw [hUpto_length, HX.out.2.2]
      have hput := fun W (t : St B w0 W (numsT 3 g m (hUpto b O k) :: r)) => t.putNum (k + 1) (com b (nth O k) (nth O (k + 1)))
      rw [hstep] at hput
      have hget := fun W (t : St B w0 W (numsT 3 g m (hUpto b O k) :: r)) => t.numCell (k + 1) hlen hlt
      have hcl : Calls Try.prog 16 #[.slice va m vc, .int .i64 (nth O k : Int), .int .i64 (nth O (k + 1) : Int)] wr.drew fun e w' => e = .returned (.int .i64 (com b (nth O k) (nth O (k + 1)) : Int)) ∧ St B w0 w' (numsT 3 g m (hUpto b O k) :: r) := (hcall _ s4.drew.drop).mono fun _ _ ⟨h1, j, h2⟩ => ⟨h1, by rw [h2]; exact s4.drew.drewN j⟩
      clear hcall hstep e1 s4
      generalize (hUpto b O k)[k + 1]'(by rw [hlen]; exact hlt) = old at *
      clear hlen
      generalize com b (nth O k) (nth O (k + 1)) = c at *
      generalize nth O k = p at *
      generalize nth O (k + 1) = q at *
      have hk1 : (k : Int) < (m : Int) := by omega
      have hk2 : (k : Int) + 1 < (m : Int) := by omega
      have hwk : IntKind.i64.wrap (k : Int) = (k : Int) := IntWalk.i64_in _ (by omega)
      have HP := Lib.hid hput
      have HG := Lib.hid hget
      clear hput hget
      go_wp2
      go_region_with (go_at_call 16; refine hcl.mono ?_; rintro e wx ⟨rfl, t1⟩; have d1 := (HG.out wx t1).1; have f1 := (HG.out wx t1).2)
      all_goals have s6 := HP.out _ t1
      all_goals clear hcl t1 d1 f1 c0 c1
      all_goals go_wp2
      all_goals go_roundw
      all_goals first
        | exact ⟨k + 1, by omega, by go_num, s6⟩
        | (simp [intOf]; omega)
    · have he := hUpto_end b O k (by rw [HX.out.2.2]; omega)
      rw [he] at s4
      have HS := Lib.hid s4
      clear s4 he
      go_wp2
      go_ret2
      refine .inl ⟨O, g, HX.out.1, HX.out.2.1, ?_, ?_⟩
      · rw [HL.out.2]; rfl
      · rw [HL.out.2]; exact HS.out

end
end Go.Proofs.Ytfifkbadniekfaa.Lcp
