/-
  LimM LimN HdH, one behind the other (merged by wip/merge.py). No conditions but those that each states.
-/
import Derived.Test.YtpcbhmkalofkmaaGreatLimL
import Derived.Test.YtpcbhmkalofkmaaGreatGD
import Derived.Test.YtpcbhmkalofkmaaGreatGA
import Derived.Test.YtpcbhmkalofkmaaGreatGJ
import Derived.Test.YtpcbhmkalofkmaaGreatGK
import Derived.Test.YtpcbhmkalofkmaaGreatGK
import Derived.Test.YtpcbhmkalofkmaaGreatGG

/-
  Contracts of package pressworklaw05: picks, sum, choice. No conditions but those of the calls.
-/
namespace Go.Proofs.YtpcbhmkalofkmaaGreat.Limit
open Go.RowKit
open Go.Proofs.YtpcbhmkalofkmaaGreat.Kraft

/-- Lengths of frequencies that are known: by their weights, the lightest first. -/
theorem lengths_known (F W E C : List Nat) (L : Nat) (hW : W.Perm (pos F)) (hU : W.Pairwise (· ≤ ·)) (hC : countsOf W L = C) (hE : E.length = F.length)
    (h : ∀ i, i < F.length → if 0 < nth F i then ∀ p, p < W.length → nth W p = nth F i → lenAt C p = nth E i else nth E i = 0) : lengths F (rare F) L = E := by
  have hr := rare_is F
  have hw : (rare F).map (nth F) = W := List.Perm.eq_of_pairwise (le := (· ≤ ·)) (fun _ _ _ _ h1 h2 => Nat.le_antisymm h1 h2) hr.up hU (hr.weights.trans hW.symm)
  refine List.ext_getElem (by rw [lengths_length, hE]) fun i h1 h2 => ?_
  rw [← nth_lt h1, ← nth_lt h2]
  have hi : i < F.length := by rwa [lengths_length] at h1
  have hh := h i hi
  by_cases h0 : 0 < nth F i
  · rw [if_pos h0] at hh
    obtain ⟨p, hp, hpi⟩ := rare_at hr hi h0
    have hm : nth W p = nth F i := by rw [← hw, nth_map _ hp, hpi]
    have := hh p (by rw [← hw]; simpa using hp) hm
    rw [← this, ← hC, ← hw, ← hpi]
    exact lengths_at hr L hp
  · rw [if_neg h0] at hh
    rw [hh, lengths_zero hr L i hi (by omega)]

theorem known_3321 : lengths [1, 1, 2, 4] (rare [1, 1, 2, 4]) 3 = [3, 3, 2, 1] :=
  lengths_known _ [1, 1, 2, 4] _ [4, 3, 2] 3 (List.Perm.refl _) (by decide) (by kernel_rfl) rfl (by decide)

theorem rare_len (F : List Nat) : (rare F).length = (pos F).length := pos_perm_length (rare_is F)

/-- Where the error is none. -/
theorem errOf_ok {xs : List Int} {L : Int} (h : fitsB xs L = true) (hf : (pos (xs.map Int.toNat)).length ≤ 2 ^ L.toNat) : errOf xs L = 0 := by
  have hn : ¬ 2 ^ L.toNat < (pos (xs.map Int.toNat)).length := Nat.not_lt.2 hf
  unfold errOf
  rw [h, rare_len, if_neg hn]
  rfl

theorem lensAns_ok {xs : List Int} {L : Int} (h : errOf xs L = 0) : lensAns xs L = lengths (xs.map Int.toNat) (rare (xs.map Int.toNat)) L.toNat := by
  unfold lensAns; rw [if_pos h]

/-- What lengths cost. -/
theorem cost_le (F O : List Nat) (hF : ∀ f ∈ F, f ≤ 2199023255552) (hO : ∀ o ∈ O, o < 256) (hl : O.length = F.length) (k : Nat) (hk : k ≤ F.length) : sumTo (fun i => nth F i * nth O i) k ≤ k * 562949953421312 := by
  refine sumTo_bound fun i hi => ?_
  have h1 := hF _ (List.getElem_mem (show i < F.length by omega))
  have h2 := hO _ (List.getElem_mem (show i < O.length by omega))
  rw [nth_lt (by omega), nth_lt (by omega)]
  have := Nat.mul_le_mul h1 (Nat.le_of_lt h2)
  omega

/-! choice. -/

theorem weight_kraft (O : List Nat) (L : Nat) (hL : L ≤ 20) (h : ∀ i, i < O.length → nth O i ≤ L) : weight O = kraft L O * 2 ^ (20 - L) := by
  have e : weight O = sumTo (fun j => Kraft.part (nth O j)) O.length := rfl
  rw [e]
  unfold kraft
  rw [Nat.mul_comm, ← sumTo_mul]
  refine sumTo_congr fun j hj => ?_
  have := h j hj
  by_cases h0 : nth O j = 0
  · rw [if_pos h0, h0]; rfl
  · rw [part_eq _ (by omega), if_neg h0, ← Nat.pow_add]
    congr 1
    omega

theorem full_iff (O : List Nat) (L : Nat) (hL : L ≤ 17) (hl : O.length ≤ 512) (h : ∀ i, i < O.length → nth O i ≤ L) : classAns O = .tuple #[.int .u8 2, .int .i64 0] ↔ kraft L O = 2 ^ L := by
  have hm : may O = true := (may_iff O).2 ⟨hl, fun x hx => by
    obtain ⟨i, hi, rfl⟩ := nth_mem hx
    have := h i hi
    omega⟩
  have hw := weight_kraft O L (by omega) h
  have hp : 2 ^ L * 2 ^ (20 - L) = 1048576 := by rw [← Nat.pow_add, show L + (20 - L) = 20 from by omega]
  have hz : 0 < 2 ^ (20 - L) := Nat.two_pow_pos _
  unfold classAns
  rw [if_pos hm]
  constructor
  · intro e
    have e1 : class_ (weight O) = 2 := by
      simp at e
      omega
    have e2 : weight O = 1048576 := by
      unfold class_ at e1
      split at e1
      · omega
      · split at e1
        · omega
        · split at e1 <;> omega
    rw [e2, ← hp] at hw
    exact (Nat.eq_of_mul_eq_mul_right hz hw).symm
  · intro e
    rw [e, hp] at hw
    rw [hw]
    rfl

end Go.Proofs.YtpcbhmkalofkmaaGreat.Limit

/-
  Contracts of package pressworklaw05: choice. No conditions but those of the calls.
-/
namespace Go.Proofs.YtpcbhmkalofkmaaGreat.Limit
open Go.RowKit
open Go.Proofs.YtpcbhmkalofkmaaGreat.Kraft

/-- How many of the first k are above 0. -/
def posN (F : List Nat) (k : Nat) : Nat := sumTo (fun i => if 0 < nth F i then 1 else 0) k

theorem posN_all (F : List Nat) : posN F F.length = (pos F).length := by
  induction F with
  | nil => rfl
  | cons f F ih =>
    unfold posN at ih ⊢
    rw [List.length_cons, Nat.add_comm F.length 1, sumTo_split]
    have : sumTo (fun j => if 0 < nth (f :: F) (1 + j) then 1 else 0) F.length = sumTo (fun i => if 0 < nth F i then 1 else 0) F.length := sumTo_congr fun i _ => by
      rw [Nat.add_comm 1 i]; rfl
    rw [this, ih]
    unfold pos
    by_cases h : 0 < f
    · rw [List.filter_cons_of_pos (by simpa using h), List.length_cons]
      simp [sumTo, nth, h]; omega
    · rw [List.filter_cons_of_neg (by simpa using h)]
      simp [sumTo, nth, h]

theorem posN_le (F : List Nat) (k : Nat) : posN F k ≤ k := by
  have := sumTo_bound (f := fun i => if 0 < nth F i then 1 else 0) (c := 1) (n := k) (fun j _ => by split <;> omega)
  unfold posN; omega

theorem posN_succ (F : List Nat) (k : Nat) : posN F (k + 1) = posN F k + if 0 < nth F k then 1 else 0 := by unfold posN; rw [sumTo]

/-- The first two of what a choice is. -/
def Fits (F O : List Nat) (L k : Nat) : Prop := ∀ i, i < k → (0 < nth O i ↔ 0 < nth F i) ∧ nth O i ≤ L

theorem choice_of {F O : List Nat} {L : Nat} (hl : O.length = F.length) (h : Fits F O L F.length) (hf : 2 ≤ (pos F).length → kraft L O = 2 ^ L) (ho : (pos F).length < 2 → ∀ i, i < F.length → nth O i ≤ 1) : Choice F L O :=
  ⟨hl, fun i hi => (h i hi).1, fun i hi => (h i hi).2, hf, ho⟩

theorem kraft_ge (L : Nat) (O : List Nat) : (pos O).length ≤ kraft L O := by
  induction O with
  | nil => simp [pos]
  | cons o O ih =>
    rw [kraft_cons]
    unfold pos at ih ⊢
    by_cases h : o = 0
    · subst h
      rw [List.filter_cons_of_neg (by simp), if_pos rfl]
      omega
    · rw [List.filter_cons_of_pos (by simp; omega), if_neg h, List.length_cons]
      have := Nat.two_pow_pos (L - o)
      omega

/-- Where there is a choice there are not too many symbols. -/
theorem choice_few {F O : List Nat} {L : Nat} (h : Choice F L O) : (pos F).length ≤ 2 ^ L := by
  by_cases h2 : 2 ≤ (pos F).length
  · have h1 := kraft_ge L O
    rw [h.full h2, pos_length_eq h.length h.some] at h1
    exact h1
  · have := Nat.two_pow_pos L
    omega

/-- Lengths of such frequencies, of a state. -/
theorem lengths_ok {B : Nat} {w0 w : World} {r : List Thing} (st : St B w0 w r) (v : Value) (xs : List Int) (L : Nat) (h : IntRow w v xs) (hx : ∀ x ∈ xs, 0 ≤ x ∧ x ≤ 1099511627776) (hn : xs.length ≤ 512) (hL : 1 ≤ L ∧ L ≤ 17) (hp : (pos (xs.map Int.toNat)).length ≤ 2 ^ L) :
    Calls Tryz.prog 38 #[v, .int .i64 (L : Int)] w fun e w' => ∃ u, e = .returned (.tuple #[u, .int .i64 0]) ∧ St B w0 w' (rowT 5 1 u xs.length (u8s (lengths (xs.map Int.toNat) (rare (xs.map Int.toNat)) L)) :: r) := by
  have hf : fitsB xs (L : Int) = true := (fitsB_iff xs L).2 ⟨by omega, hn, hx⟩
  have he : errOf xs (L : Int) = 0 := errOf_ok hf (by simpa using hp)
  have ha := lensAns_ok he
  refine (lengths_st st v xs (L : Int) h).mono ?_
  rintro e w' ⟨u, rfl, s⟩
  refine ⟨u, by rw [he]; rfl, ?_⟩
  have e1 : (Int.toNat (L : Int)) = L := by simp
  rw [ha, lengths_length, List.length_map, e1] at s
  exact s

theorem lengths_bytes (F S : List Nat) (L : Nat) (h : Rare F S) (hL : 1 ≤ L ∧ L ≤ 17) (hp : (pos F).length ≤ 2 ^ L) : ∀ x ∈ lengths F S L, x < 256 := by
  intro x hx
  obtain ⟨i, hi, rfl⟩ := nth_mem hx
  have := (lengths_choice h hL.1 (by rw [pos_perm_length h]; exact hp)).limit i (by rwa [lengths_length] at hi)
  omega

end Go.Proofs.YtpcbhmkalofkmaaGreat.Limit

/-
  Contracts of package header: Put, Get, Size. No conditions but that rows are small.
-/
namespace Go.Proofs.YtpcbhmkalofkmaaGreat.Hd
open Go.RowKit Kraft Limit

/-- How often each Code comes. -/
def freqOf (p q : List Nat) : List Nat := freqs (Rep.pack (p ++ q))
/-- The lengths of the signs' words. -/
def lensOf' (p q : List Nat) : List Nat := lengths (freqOf p q) (rare (freqOf p q)) 7
/-- The bits that Put lays. -/
def hbits (p q : List Nat) : List Bool := headBits (lensOf' p q) (zOf (lensOf' p q)) (Rep.pack (p ++ q)) p.length q.length

theorem freq_few (p q : List Nat) : (pos (freqOf p q)).length ≤ 2 ^ 7 := by
  have : (pos (freqOf p q)).length ≤ (freqOf p q).length := List.length_filter_le _ _
  unfold freqOf at this
  rw [freqs_length] at this
  unfold freqOf
  omega

theorem lens_choice (p q : List Nat) : Choice (freqOf p q) 7 (lensOf' p q) := by
  have hr := rare_is (freqOf p q)
  exact lengths_choice hr (by omega) (by rw [pos_perm_length hr]; exact freq_few p q)

theorem lens_pos {p q : List Nat} (h : mayH p q = true) : ∃ c, c < 19 ∧ len (lensOf' p q) c ≠ 0 := by
  obtain ⟨c, d, hc, _, _, h1, _⟩ := two_codes h
  refine ⟨c, hc, ?_⟩
  have := ((lens_choice p q).some c (by unfold freqOf; rw [freqs_length]; exact hc)).2 (by unfold freqOf; rw [freqs_nth _ _ hc]; exact h1)
  show nth _ c ≠ 0
  omega

theorem tells_bits {p q : List Nat} (h : mayH p q = true) : Tells (lensOf' p q) (zOf (lensOf' p q)) (Rep.pack (p ++ q)) p q := by
  obtain ⟨h1, h2, h3⟩ := zOf_spec (lens_pos h)
  exact tells_pack h (lens_choice p q) h1 h2 h3

theorem hbits_at {p q : List Nat} (h : mayH p q = true) (A C : List Bool) : headAt (A ++ hbits p q ++ C) A.length = some (p, q, A.length + (hbits p q).length) :=
  head_put (tells_bits h) h A C

theorem hbits_small {p q : List Nat} (h : mayH p q = true) : (hbits p q).length ≤ 14 + 57 + 15 * (p.length + q.length) := by
  have h1 := head_small (tells_bits h)
  have h2 := Rep.pack_length _ (p ++ q) (Nat.le_refl _)
  rw [List.length_append] at h2
  unfold hbits
  omega

section
variable {B : Nat} {w0 w : World} {r : List Thing}

theorem hput_nil (w : World) (v1 v2 : Value) : Calls Tryz.prog 16 #[.pointer none, v1, v2] w fun e w' => e = .returned (.int .i64 8) ∧ Below w.heap.size w w' := by
  go_enter Tryz.func16, Tryz.ntmps16
  go_wp2
  go_ret
  exact ⟨rfl, Below.refl _ _⟩

set_option maxRecDepth 100000 in
set_option maxHeartbeats 2000000 in
theorem hput_st {pb : Nat} {l : List Bool} (st : St B w0 w (wrT pb l :: r)) (hl : l.length ≤ 1000000) {v1 v2 : Value} {p q : List Nat} (h1 : ∀ W, St B w0 W r → ByteRow W v1 p) (h2 : ∀ W, St B w0 W r → ByteRow W v2 q) (hp : p.length ≤ 100000) (hq : q.length ≤ 100000) :
    Calls Tryz.prog 16 #[.pointer (some ⟨pb, 0, none⟩), v1, v2] w fun e w' => e = .returned (.int .i64 ((if mayH p q then 0 else 5 : Nat) : Int)) ∧ St B w0 w' (wrT pb (l ++ if mayH p q then hbits p q else []) :: r) := by
  have hmb := mayBe_any w v1 v2 p q (h1 _ st.drop) (h2 _ st.drop) (by omega) (by omega)
  cases hm : mayH p q with
  | false =>
    rw [hm] at hmb
    simp only [Bool.false_eq_true, if_false, List.append_nil]
    go_enter Tryz.func16, Tryz.ntmps16
    go_wp2_with (go_at_call 39; refine hmb.mono ?_; rintro e w1 ⟨rfl, rfl⟩)
    go_ret
    exact ⟨rfl, st⟩
  | true =>
    rw [hm] at hmb
    simp only [if_true]
    obtain ⟨p1, p2, q1, q2, _, hp15, hq15⟩ := mayH_len hm
    have hT := tells_bits hm
    have hpos := lens_pos hm
    have hsm := hbits_small hm
    have h15 : ∀ x ∈ p ++ q, x < 16 := fun x hx => by
      rcases List.mem_append.1 hx with g | g
      · have := hp15 x g; omega
      · have := hq15 x g; omega
    have hany : ((p ++ q).any fun x => decide (15 < x)) = false := by
      rw [List.any_eq_false]
      intro x hx
      have := h15 x hx
      simp
      omega
    have hpk : Rep.packErr (p ++ q) = 0 ∧ Rep.packOf (p ++ q) = Rep.pack (p ++ q) := by
      unfold Rep.packErr Rep.packOf
      rw [hany]
      exact ⟨rfl, rfl⟩
    have hpl := Rep.pack_length _ (p ++ q) (Nat.le_refl _)
    rw [List.length_append] at hpl
    have hsmall : Rep.Small (Rep.pack (p ++ q)) := by
      have := Rep.packOf_small (p ++ q)
      rw [hpk.2] at this
      exact this
    have h19 : ∀ s ∈ Rep.pack (p ++ q), s.1 < 19 := fun s hs => by
      have := (hT.word s hs).1
      have h := hT.len19
      omega
    have hF : freqOf p q = freqs (Rep.pack (p ++ q)) := rfl
    have hFl : (freqOf p q).length = 19 := by rw [hF, freqs_length]
    have hFb : ∀ x ∈ freqOf p q, x ≤ 1000 := fun x hx => by
      rw [hF] at hx
      unfold freqs at hx
      obtain ⟨c, _, rfl⟩ := List.mem_map.1 hx
      have := cnt_le (Rep.pack (p ++ q)) c
      omega
    have hmap : ((freqOf p q).map fun x : Nat => (x : Int)).map Int.toNat = freqOf p q := by rw [List.map_map]; exact (List.map_congr_left (fun x _ => by simp)).trans (List.map_id _)
    have hLdef : lengths (freqOf p q) (rare (freqOf p q)) 7 = lensOf' p q := rfl
    have hfew := freq_few p q
    have hbd : hbits p q = headBits (lensOf' p q) (zOf (lensOf' p q)) (Rep.pack (p ++ q)) p.length q.length := rfl
    have hwe : wordsErr (lensOf' p q) = 0 := by
      unfold wordsErr
      have hmay : may (lensOf' p q) = true := by
        rw [may_iff]
        exact ⟨by rw [hT.len19]; omega, fun x hx => by have := hT.low7 x hx; omega⟩
      rw [hmay, hT.full]
      rfl
    obtain ⟨u1, e1, hv1, -⟩ := h1 _ st.drop
    obtain ⟨u2, e2, hv2, -⟩ := h2 _ st.drop
    subst hv1 hv2
    generalize hbits p q = HBS at *
    generalize hMM : Rep.pack (p ++ q) = M at *
    generalize hFF : freqOf p q = F at *
    generalize hLL : lensOf' p q = L at *
    have H1 := Lib.hid h1
    have H2 := Lib.hid h2
    have HT := Lib.hid hT
    have HP := Lib.hid hpos
    have HK := Lib.hid hpk
    have HS := Lib.hid hsmall
    have H19 := Lib.hid h19
    have HF := Lib.hid hF
    have HFL := Lib.hid hFl
    have HFB := Lib.hid hFb
    have HMP := Lib.hid hmap
    have HLD := Lib.hid hLdef
    have HFW := Lib.hid hfew
    have HBD := Lib.hid hbd
    have HWE := Lib.hid hwe
    have HPL := Lib.hid hpl
    clear h1 h2 hT hpos hpk hsmall h19 hF hFl hFb hmap hLdef hfew hbd hwe h15 hany hp15 hq15 hMM hFF hLL
    have s1 := st.newBox #[.slice u1 p.length e1, .slice u2 q.length e2] 22
    have hcc := concat_st s1 (fun W s => H1.out W s.drop) (fun W s => H2.out W s.drop) (by omega) hp hq
    clear st
    obtain ⟨gb, hgb⟩ : ∃ gb, gb = w.heap.size := ⟨_, rfl⟩
    rw [← hgb] at s1 hcc
    go_enter Tryz.func16, Tryz.ntmps16
    go_wp2_with (go_at_call 39; refine hmb.mono ?_; rintro e w1 ⟨rfl, rfl⟩)
    rw [← hgb]
    clear hgb
    refine hcc.mono ?_
    rintro e w1 ⟨u, rfl, s2⟩
    clear hcc s1 hmb
    have hrow := s2.bytesRow (fun x hx => by
      have h := HK.out.1
      unfold Rep.packErr at h
      rcases hh : ((p ++ q).any fun x => decide (15 < x)) with _ | _
      · rw [List.any_eq_false] at hh
        have := hh x hx
        simp at this
        omega
      · rw [hh] at h; simp at h)
    have hpack := Rep.pack_st s2 u (p ++ q) hrow (by rw [List.length_append]; omega)
    rw [HK.out.1, HK.out.2] at hpack
    go_wp2_with fail
    refine hpack.mono ?_
    rintro e w2 ⟨v', rfl, s3⟩
    clear hpack hrow
    have s4 : St B w0 w2 (Rep.signT 131 v' M :: wrT pb l :: r) := ((s3.front 1).drop.front 1).drop
    clear s2 s3
    have hho := howOften_st s4 v' M (fun W s => St.signs s HS.out) H19.out (by omega)
    rw [← HF.out] at hho
    go_wp2_with fail
    refine hho.mono ?_
    rintro e w3 ⟨g, rfl, s5⟩
    clear hho s4
    have hnr : NumRow w3 (.slice (some ⟨g, 0, none⟩) 19 19) F := by
      have h := s5.row
      have hFL := HFL.out
      rw [← hFL] at h ⊢
      exact numRow_owns h
    have hir := hnr.ints (fun x hx => by have := HFB.out x hx; omega)
    have hlen := lengths_ok s5 _ _ 7 hir (fun x hx => by
      obtain ⟨y, hy, rfl⟩ := List.mem_map.1 hx
      have := HFB.out y hy
      omega) (by rw [List.length_map, HFL.out]; omega) (by omega) (by rw [HMP.out]; exact HFW.out)
    rw [HMP.out, List.length_map, HFL.out, HLD.out] at hlen
    go_wp2_with fail
    refine hlen.mono ?_
    rintro e w4 ⟨ul, rfl, s6⟩
    clear hlen hir hnr
    have s7 := (s6.front 1).drop
    change St B w0 w4 (rowT 5 1 ul 19 (u8s L) :: Rep.signT 131 v' M :: wrT pb l :: r) at s7
    clear s5 s6
    have hlrow : ∀ W (R : List Thing), St B w0 W (rowT 5 1 ul 19 (u8s L) :: R) → ByteRow W ul L := fun W R s => by
      have h := s.row
      rw [← HT.out.len19] at h
      exact byteRow_owns h (fun x hx => by have := HT.out.low7 x hx; omega)
    have HLR := Lib.hid hlrow
    have hnew := tnew_st s7 ul L (hlrow _ _ s7) (by rw [HT.out.len19]; omega)
    clear hlrow
    go_wp2_with fail
    refine hnew.mono ?_
    rintro e w5 (⟨hx, _⟩ | ⟨_, tb, rfl, s8⟩)
    · exact absurd HWE.out hx
    clear hnew s7
    have s9 := s8.front 3
    change St B w0 w5 (wrT pb l :: tblL tb L :: rowT 5 1 ul 19 (u8s L) :: Rep.signT 131 v' M :: r) at s9
    clear s8
    have hput := put_st s9 (p.length - 257) 5 (by omega) (by omega) (by omega)
    rw [show ((p.length - 257 : Nat) : Int) = (p.length : Int) - 257 from by omega] at hput
    go_wp2_with fail
    refine hput.mono ?_
    rintro e w6 ⟨rfl, s10⟩
    clear hput s9
    have hput := put_st s10 (q.length - 1) 5 (by rw [List.length_append, bitsOf_length]; omega) (by omega) (by omega)
    rw [show ((q.length - 1 : Nat) : Int) = (q.length : Int) - 1 from by omega] at hput
    go_wp2_with fail
    refine hput.mono ?_
    rintro e w7 ⟨rfl, s11⟩
    clear hput s10
    have hpt := putTold_st s11 ul (fun W s => HLR.out W _ (s.front 1)) HT.out.len19 HT.out.low7 HP.out (by rw [List.length_append, List.length_append, bitsOf_length, bitsOf_length]; omega)
    go_wp2_with fail
    refine hpt.mono ?_
    rintro e w8 ⟨rfl, s12⟩
    clear hpt s11
    have hz := zOf_spec HP.out
    have hps := putSigns_st s12 v' M (fun W s => St.signs (s.front 1) HS.out) (fun j => by have := len_small HT.out.low7 (by decide) j; omega) (by rw [HT.out.full]; omega) (fun s hs => ⟨H19.out s hs, (HT.out.word s hs).2⟩) (by omega) (by
      rw [List.length_append, List.length_append, List.length_append, List.length_append, bitsOf_length, bitsOf_length, bitsOf_length, lensBits_length]; omega)
    go_wp2_with fail
    refine hps.mono ?_
    rintro e w9 ⟨rfl, s13⟩
    clear hps s12
    have s14 := (((s13.front 1).drop.front 1).drop.front 1).drop
    go_wp2
    go_ret
    refine ⟨rfl, ?_⟩
    rw [HBD.out]
    unfold headBits
    have e : l ++ (bitsOf (p.length - 257) 5 ++ bitsOf (q.length - 1) 5 ++ bitsOf (zOf L - 4) 4 ++ lensBits L (zOf L) ++ encS L M) = l ++ bitsOf (p.length - 257) 5 ++ bitsOf (q.length - 1) 5 ++ (bitsOf (zOf L - 4) 4 ++ lensBits L (zOf L)) ++ encS L M := by simp only [List.append_assoc]
    rw [e]
    exact s14

end
end Go.Proofs.YtpcbhmkalofkmaaGreat.Hd
