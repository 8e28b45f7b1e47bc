/-
  Symbols by the best lengths come back, in as many bits as their cost: the walk of PrefixBest. No conditions.
-/
import Derived.Test.YtakkfdibiboofaaPfxQ
import Derived.Test.YtakkfdibiboofaaPfxL
import Derived.Test.YtakkfdibiboofaaIntsA
import Derived.Test.YtakkfdibiboofaaLimN
namespace Go.Proofs.Ytakkfdibiboofaa.prefixBest
open Go.RowKit Kraft
open Go.Proofs.Ytakkfdibiboofaa.Limit (nth lengths rare pos Choice lengths_choice rare_is lengths_length lengths_bytes lengths_ok pos_perm_length weight_kraft nth_lt kraft_cons pos_length_eq)

theorem kraft_le (M : Nat) (O : List Nat) : Limit.kraft M O ≤ (pos O).length * 2 ^ M := by
  induction O with
  | nil => simp [Limit.kraft, Limit.pos, sumTo]
  | cons o O ih =>
    rw [kraft_cons]
    unfold pos at ih ⊢
    by_cases h : o = 0
    · subst h
      rw [List.filter_cons_of_neg (by simp), if_pos rfl]
      omega
    · rw [List.filter_cons_of_pos (by simp; omega), if_neg h, List.length_cons, Nat.succ_mul]
      have := Nat.pow_le_pow_right (n := 2) (by omega) (Nat.sub_le M o)
      omega

theorem len_nth (L : List Nat) (j : Nat) : len L j = nth L j := rfl

/-- The lengths of a choice are those of a table. -/
theorem choice_words {F O : List Nat} {M : Nat} (h : Choice F M O) (hn : F.length ≤ 512) (hM : M ≤ 17) : wordsErr O = 0 := by
  have hl := h.length
  have hle : ∀ i, i < O.length → nth O i ≤ M := fun i hi => h.limit i (by omega)
  refine wordsErr_fits ((may_iff O).2 ⟨by omega, fun x hx => ?_⟩) ?_
  · obtain ⟨i, hi, rfl⟩ := List.getElem_of_mem hx
    have := hle i hi
    rw [nth_lt hi] at this
    omega
  · rw [weight_kraft O M (by omega) hle]
    have e : (1048576 : Nat) = 2 ^ M * 2 ^ (20 - M) := by rw [← Nat.pow_add, show M + (20 - M) = 20 from by omega]
    rw [e]
    refine Nat.mul_le_mul_right _ ?_
    by_cases h2 : 2 ≤ (pos F).length
    · rw [h.full h2]
      exact Nat.le_refl _
    · have h1 := kraft_le M O
      rw [pos_length_eq h.length h.some] at h1
      have h3 : (pos F).length * 2 ^ M ≤ 1 * 2 ^ M := Nat.mul_le_mul_right _ (by omega)
      omega

/-- Each symbol as often as its frequency says. -/
def rep (F : List Nat) (i : Nat) : List Nat := (List.range i).flatMap fun j => List.replicate (nth F j) j

theorem rep_succ (F : List Nat) (i : Nat) : rep F (i + 1) = rep F i ++ List.replicate (nth F i) i := by simp [rep, List.range_succ]

theorem rep_split (F : List Nat) (i k : Nat) (hk : k < nth F i) : ∀ n, i < n → ∃ T, rep F n = (rep F i ++ List.replicate k i) ++ i :: T
  | 0, h => absurd h (by omega)
  | n + 1, h => by
    by_cases e : i = n
    · subst e
      refine ⟨List.replicate (nth F i - k - 1) i, ?_⟩
      have e : List.replicate (nth F i) i = List.replicate k i ++ i :: List.replicate (nth F i - k - 1) i := by
        rw [← List.replicate_succ, List.replicate_append_replicate]
        congr 1
        omega
      rw [rep_succ, e, List.append_assoc]
    · obtain ⟨T, hT⟩ := rep_split F i k hk n (by omega)
      exact ⟨T ++ List.replicate (nth F n) n, by rw [rep_succ, hT, List.append_assoc]; rfl⟩

theorem rep_length (F : List Nat) (h : ∀ i, nth F i < 8) : ∀ i, (rep F i).length ≤ 8 * i
  | 0 => by simp [rep]
  | i + 1 => by
    have ih := rep_length F h i
    have := h i
    rw [rep_succ, List.length_append, List.length_replicate]
    omega

theorem enc_le {L : List Nat} (h20 : ∀ j, len L j ≤ 20) : ∀ D : List Nat, (enc L D).length ≤ 20 * D.length
  | [] => Nat.zero_le _
  | s :: D => by
    have ih := enc_le h20 D
    have := h20 s
    show (wordBits L (s : Int) ++ enc L D).length ≤ _
    rw [List.length_append, wordBits_length, bitsAtSym_nat, List.length_cons]
    omega

set_option maxRecDepth 100000 in
set_option maxHeartbeats 4000000 in
theorem walk (w : World) (v0 : Value) (xs : List Nat) (h0 : ByteRow w v0 xs) (mo : Int) (hmo : (Lit.int .u8 mo).wf = true) :
    Calls Try.prog 6 #[v0, .int .u8 mo] w fun e w' => e = .returned (.bool true) ∧ Below w.heap.size w w' := by
  have H0 := Lib.hid h0
  obtain ⟨a0, cap0, rfl, hc0, hn0, -⟩ := h0
  obtain ⟨y, rfl, hy⟩ : ∃ y : Nat, mo = (y : Int) ∧ y < 256 := by
    simp only [Lit.wf, Bool.and_eq_true, decide_eq_true_eq] at hmo
    have e1 : IntKind.u8.min = 0 := rfl
    have e2 : IntKind.u8.max = 255 := rfl
    rw [e1, e2] at hmo
    exact ⟨mo.toNat, by omega, by omega⟩
  by_cases c0 : 40 < xs.length
  · go_enter Try.func6, Try.ntmps6
    go_wp2
    go_ret
    exact ⟨rfl, Below.refl _ _⟩
  have d0 : decide (40 < (xs.length : Int)) = false := by simp; omega
  obtain ⟨m6, hm6, h6, h17⟩ : ∃ m6 : Nat, 6 + (y : Int) % 12 = (m6 : Int) ∧ 6 ≤ m6 ∧ m6 ≤ 17 := ⟨6 + y % 12, by omega, by omega, by omega⟩
  obtain ⟨F, hF⟩ : ∃ F, F = xs.map (· % 8) := ⟨_, rfl⟩
  have hFl : F.length = xs.length := by rw [hF]; simp
  have hF8 : ∀ i, nth F i < 8 := fun i => by
    unfold Limit.nth
    rw [hF, List.getD_eq_getElem?_getD, List.getElem?_map]
    cases xs[i]? with
    | none => simp
    | some y => simp; omega
  go_enter Try.func6, Try.ntmps6
  go_wp2
  go_loopw [5, 6] (fun fv iv wr => ∃ k : Nat, k ≤ xs.length ∧ iv = .int .i64 (k : Int) ∧ St w.heap.size w wr (rowT 3 1 fv k (i64s (F.take k)) :: [])) (fun _ iv _ => xs.length - (intOf iv).toNat)
  case atStart => exact ⟨0, Nat.zero_le _, rfl, (St.start w).addNil⟩
  case round =>
    obtain ⟨k, hk, rfl, t1⟩ := hrel
    by_cases hlt : k < xs.length
    · obtain ⟨a0', cap0', e1, -, -, hat⟩ := H0.out.below (t1.below (Nat.le_refl _)) (Nat.le_refl _)
      obtain ⟨hx256, b0, off0, rfl, hx0⟩ := hat k hlt
      obtain ⟨rfl, -, rfl⟩ := Value.slice.inj e1
      clear hat e1
      obtain ⟨f, hf, hFk⟩ : ∃ f : Nat, (xs[k] : Int) % 8 = (f : Int) ∧ F.take (k + 1) = F.take k ++ [f] := by
        refine ⟨xs[k] % 8, by omega, ?_⟩
        rw [List.take_succ_eq_append_getElem (by omega)]
        congr 2
        simp [hF]
      have HF := Lib.hid hFk
      have HF2 := Lib.hid hF
      clear hF hFk
      obtain ⟨i0, hi, hz0, hz1, hz2⟩ := info_parts infoI
      go_wp2_with (at_builtin; refine wpList_append_one rfl _ _ 43 rfl 3 i0 (.int .i64 0) 1 8 Try.underlying43 hi hz0 hz1 hz2 rfl (by decide) t1 rfl [.int .i64 (f : Int)] rfl rfl ?oneCell (by unfold maxLen; omega) (by omega) ?_)
      case oneCell => intro u hu; simp at hu; subst hu; rfl
      intro v' w5 t5
      go_wp2
      refine ⟨⟨k + 1, by omega, by go_num, ?_⟩, by simp [intOf]; omega⟩
      rw [HF.out, i64s_append]
      exact t5
    · obtain rfl : k = xs.length := by omega
      rw [List.take_of_length_le (by omega), ← hFl] at t1
      obtain ⟨af, cf, rfl⟩ := ownsRow_slice t1.row
      have hnr : NumRow wr (.slice af F.length cf) F := t1.numRow
      have hpl : (pos F).length ≤ 2 ^ m6 := Nat.le_trans (Nat.le_trans (List.length_filter_le _ _) (by omega : F.length ≤ 2 ^ 6)) (Nat.pow_le_pow_right (n := 2) (by omega) h6)
      have hir := hnr.ints (fun x hx => by
        obtain ⟨i, hi, rfl⟩ := List.getElem_of_mem hx
        have := hF8 i
        rw [nth_lt hi] at this
        omega)
      have hlen := lengths_ok t1 _ _ m6 hir (fun x hx => by
        obtain ⟨z, hz, rfl⟩ := List.mem_map.1 hx
        obtain ⟨i, hi, rfl⟩ := List.getElem_of_mem hz
        have := hF8 i
        rw [nth_lt hi] at this
        omega) (by rw [List.length_map]; omega) ⟨by omega, h17⟩
      rw [show (F.map fun x : Nat => (x : Int)).map Int.toNat = F from by rw [List.map_map]; exact (List.map_congr_left fun x _ => Int.toNat_natCast x).trans (List.map_id F)] at hlen
      have hlen2 := hlen hpl
      clear hlen
      have hlen := hlen2
      clear hlen2
      rw [List.length_map] at hlen
      have hch := lengths_choice (rare_is F) (L := m6) (by omega) (by rw [pos_perm_length (rare_is F)]; exact hpl)
      have hby := lengths_bytes F (rare F) m6 (rare_is F) ⟨by omega, h17⟩ hpl
      have hll : (lengths F (rare F) m6).length = F.length := lengths_length _ _ _
      generalize lengths F (rare F) m6 = O at hlen hch hby hll
      have hE := choice_words hch (by omega) h17
      have h20 := len_le_of (wordsErr_ok hE).1
      have hw := (wordsErr_ok hE).2
      have hF40 : F.length ≤ 40 := by omega
      have HL := Lib.hid hll
      clear hF hFl hir hnr hll
      go_wp2_with fail
      refine hlen.mono ?_
      rintro e w3 ⟨u, rfl, t2⟩
      have hrow : ByteRow w3 u O := byteRow_owns (by rw [HL.out]; exact t2.row) hby
      obtain ⟨au, cu, rfl⟩ := ownsRow_slice t2.row
      have hnew := tnew_st t2 _ O hrow (by rw [HL.out]; omega)
      clear hlen
      go_wp2_with fail
      refine hnew.mono ?_
      rintro e w4 (⟨h, _⟩ | ⟨_, tb, rfl, t3⟩)
      · exact absurd hE h
      clear hnew hrow t1 t2
      have t4 := t3.mnewWr
      obtain ⟨pa, hpa⟩ : ∃ pa, w4.heap.size = pa := ⟨_, rfl⟩
      rw [hpa] at t4
      go_wp2
      generalize w4.alloc (.cells #[.slice none 0 0, .int .i64 0] 47) = w5 at t4 ⊢
      clear hpa t3
      have hcell : ∀ (wx : World) (W : List Bool) (i : Nat) (hi : i < F.length) (g : Nat) (c : Nat), St w.heap.size w wx (Msb.wrT pa W :: tblL tb O :: rowT 5 1 (.slice au F.length cu) F.length (u8s O) :: rowT 3 1 (.slice (some ⟨g, 0, none⟩) F.length c) F.length (i64s F) :: []) → wx.cell? ⟨g, i, none⟩ = some (.int .i64 (nth F i : Int)) := fun wx W i hi g c tx => by
        rw [(tx.front 3).row.cellAt i (by omega), i64s_get _ _ hi, nth_lt hi]
      have hcell2 : ∀ (wx : World) (W : List Bool) (i : Nat) (hi : i < F.length) (g : Nat) (c : Nat) (v : Value), St w.heap.size w wx (Msb.wrT pa W :: tblL tb O :: rowT 5 1 (.slice (some ⟨g, 0, none⟩) F.length c) F.length (u8s O) :: rowT 3 1 v F.length (i64s F) :: []) → wx.cell? ⟨g, i, none⟩ = some (.int .u8 (nth O i : Int)) := fun wx W i hi g c v tx => by
        have := HL.out
        rw [(tx.front 2).row.cellAt i (by omega), u8s_get _ _ (by omega), nth_lt (by omega)]
      have hrl := rep_length F hF8
      go_loopw [12, 13] (fun cv iv wz => ∃ i : Nat, i ≤ F.length ∧ iv = .int .i64 (i : Int) ∧ cv = .int .i64 ((enc O (rep F i)).length : Int) ∧ St w.heap.size w wz (Msb.wrT pa (enc O (rep F i)) :: tblL tb O :: rowT 5 1 (.slice au F.length cu) F.length (u8s O) :: rowT 3 1 (.slice af F.length cf) F.length (i64s F) :: [])) (fun _ iv _ => F.length - (intOf iv).toNat)
      case atStart => exact ⟨0, Nat.zero_le _, rfl, rfl, t4⟩
      case round =>
        obtain ⟨i, hi, rfl, rfl, t5⟩ := hrel
        clear t4
        by_cases hlt2 : i < F.length
        · obtain ⟨gf, cf', ef, hcf⟩ := (t5.front 3).rowShape (by omega)
          obtain ⟨rfl, -, rfl⟩ := Value.slice.inj ef
          obtain ⟨gu, cu', eu, hcu⟩ := (t5.front 2).rowShape (by omega)
          obtain ⟨rfl, -, rfl⟩ := Value.slice.inj eu
          have hl0 : nth F i ≠ 0 → 0 < nth O i := fun h => (hch.some i hlt2).2 (by omega)
          have h8 := hF8 i
          have hri := hrl i
          clear ef eu
          go_wp2
          go_loopw [12, 14] (fun cv kv wx => ∃ k : Nat, k ≤ nth F i ∧ kv = .int .i64 (k : Int) ∧ cv = .int .i64 ((enc O (rep F i ++ List.replicate k i)).length : Int) ∧ St w.heap.size w wx (Msb.wrT pa (enc O (rep F i ++ List.replicate k i)) :: tblL tb O :: rowT 5 1 (.slice (some ⟨gu, 0, none⟩) F.length cu) F.length (u8s O) :: rowT 3 1 (.slice (some ⟨gf, 0, none⟩) F.length cf) F.length (i64s F) :: [])) (fun _ kv _ => nth F i - (intOf kv).toNat)
          case atStart => exact ⟨0, Nat.zero_le _, rfl, by simp, by simpa using t5⟩
          case round =>
            obtain ⟨k, hk2, rfl, rfl, t6⟩ := hrel
            have hcf1 := hcell _ _ i hlt2 gf cf t6
            clear t5
            by_cases hlt3 : k < nth F i
            · have hlb := enc_le h20 (rep F i ++ List.replicate k i)
              rw [List.length_append, List.length_replicate] at hlb
              have hput := High.tput_st t6 (i : Int) h20 hw (by omega)
              have hpe : putErr O (i : Int) = 0 := by
                unfold putErr
                rw [bitsAtSym_nat, if_neg]
                have := hl0 (by omega)
                show nth O i ≠ 0
                omega
              rw [hpe, ← enc_snoc, List.append_assoc, ← List.replicate_succ'] at hput
              clear hpe
              go_wp2_with fail
              refine hput.mono ?_
              rintro e w7 ⟨rfl, t7⟩
              have hcu1 := hcell2 _ _ i hlt2 gu cu _ t7
              have ho20 : nth O i ≤ 20 := h20 i
              have hlb2 : (enc O (rep F i ++ List.replicate k i)).length ≤ 10000 := by omega
              have hC : (enc O (rep F i ++ List.replicate (k + 1) i)).length = (enc O (rep F i ++ List.replicate k i)).length + nth O i := by
                rw [List.replicate_succ', ← List.append_assoc, enc_snoc, List.length_append, wordBits_length, bitsAtSym_nat]
                rfl
              have HC := Lib.hid hC
              clear hput hC
              go_wp2
              exact ⟨⟨k + 1, by omega, by go_num, by rw [HC.out, Int.natCast_add], t7⟩, by simp [intOf]; omega⟩
            · obtain rfl : k = nth F i := by omega
              rw [← rep_succ] at t6
              go_wp2
              exact ⟨⟨i + 1, by omega, by go_num, by rw [rep_succ], t6⟩, by simp [intOf]; omega⟩
        · obtain rfl : i = F.length := by omega
          have hlb := enc_le h20 (rep F F.length)
          have hr0 := hrl F.length
          have hpk : (Msb.pk (enc O (rep F F.length))).length ≤ 10000 := by rw [Msb.pk_length]; omega
          go_wp2_with fail
          refine (Msb.bytes_st t5 (by omega)).mono ?_
          rintro e w6 ⟨v6, rfl, t6⟩
          have hr := Reads.of_owns t6.row
          go_wp2_with fail
          refine (Msb.new_st t6 hr (Msb.pk_lt _) (by omega)).mono ?_
          rintro e w8 ⟨qy, rfl, t8⟩
          have t9 : St w.heap.size w w8 (Msb.rdT qy (Msb.pk (enc O (rep F F.length)) ++ []) (enc O (rep F 0)).length :: tblL tb O :: Msb.wrT pa (enc O (rep F F.length)) :: rowT 3 1 (.slice af F.length cf) F.length (i64s F) :: []) := by
            rw [List.append_nil]
            exact (((t8.front 1).drop.front 3).drop.front 2).front 1
          clear t5 t6 t8 hr
          go_wp2
          go_loopw [16] (fun iv wz => ∃ i : Nat, i ≤ F.length ∧ iv = .int .i64 (i : Int) ∧ St w.heap.size w wz (Msb.rdT qy (Msb.pk (enc O (rep F F.length)) ++ []) (enc O (rep F i)).length :: tblL tb O :: Msb.wrT pa (enc O (rep F F.length)) :: rowT 3 1 (.slice af F.length cf) F.length (i64s F) :: [])) (fun iv _ => F.length - (intOf iv).toNat)
          case atStart => exact ⟨0, Nat.zero_le _, rfl, t9⟩
          case round =>
            obtain ⟨i, hi, rfl, t5⟩ := hrel
            clear t9
            by_cases hlt2 : i < F.length
            · obtain ⟨gf, cf', ef, hcf⟩ := (t5.front 3).rowShape (by omega)
              obtain ⟨rfl, -, rfl⟩ := Value.slice.inj ef
              have hl0 : nth F i ≠ 0 → 0 < nth O i := fun h => (hch.some i hlt2).2 (by omega)
              have hOl : i < O.length := by have := HL.out; omega
              have h8 := hF8 i
              clear ef
              go_wp2
              go_loopw [17] (fun kv wx => ∃ k : Nat, k ≤ nth F i ∧ kv = .int .i64 (k : Int) ∧ St w.heap.size w wx (Msb.rdT qy (Msb.pk (enc O (rep F F.length)) ++ []) (enc O (rep F i ++ List.replicate k i)).length :: tblL tb O :: Msb.wrT pa (enc O (rep F F.length)) :: rowT 3 1 (.slice (some ⟨gf, 0, none⟩) F.length cf) F.length (i64s F) :: [])) (fun kv _ => nth F i - (intOf kv).toNat)
              case atStart => exact ⟨0, Nat.zero_le _, rfl, by simpa using t5⟩
              case round =>
                obtain ⟨k, hk2, rfl, t6⟩ := hrel
                have hcf1 : wr.cell? ⟨gf, i, none⟩ = some (.int .i64 (nth F i : Int)) := by
                  rw [(t6.front 3).row.cellAt i (by omega), i64s_get _ _ hlt2, nth_lt hlt2]
                clear t5
                by_cases hlt3 : k < nth F i
                · have hget := High.tget_st t6 h20
                  have hg : High.got O (Msb.pk (enc O (rep F F.length)) ++ []) (enc O (rep F i ++ List.replicate k i)).length = (len O i, (i : Int), 0) := by
                    obtain ⟨T, hT⟩ := rep_split F i k hlt3 F.length hlt2
                    have e : enc O (rep F F.length) = enc O (rep F i ++ List.replicate k i) ++ wordBits O (i : Int) ++ enc O T := by
                      rw [hT]
                      unfold enc
                      rw [List.flatMap_append, List.flatMap_cons, List.append_assoc]
                    rw [e]
                    exact High.got_row h20 hw _ _ [] i hOl (hl0 (by omega))
                  have hC : (enc O (rep F i ++ List.replicate (k + 1) i)).length = (enc O (rep F i ++ List.replicate k i)).length + len O i := by
                    rw [List.replicate_succ', ← List.append_assoc, enc_snoc, List.length_append, wordBits_length, bitsAtSym_nat]
                  rw [hg] at hget
                  simp only [← hC] at hget
                  clear hC hg
                  go_wp2_with fail
                  refine hget.mono ?_
                  rintro e w7 ⟨rfl, t7⟩
                  clear hget
                  go_wp2
                  exact ⟨⟨k + 1, by omega, by go_num, t7⟩, by simp [intOf]; omega⟩
                · obtain rfl : k = nth F i := by omega
                  rw [← rep_succ] at t6
                  go_wp2
                  exact ⟨⟨i + 1, by omega, by go_num, t6⟩, by simp [intOf]; omega⟩
            · go_wp2_with fail
              refine (Msb.len_st (t5.front 2)).mono ?_
              rintro e w9 ⟨rfl, rfl⟩
              go_wp2_with fail
              refine (puts_any wr).mono ?_
              rintro e w9 ⟨rfl, hb⟩
              go_wp2
              go_ret
              exact ⟨rfl, (t5.quiet hb).below (Nat.le_refl _)⟩

end Go.Proofs.Ytakkfdibiboofaa.prefixBest
