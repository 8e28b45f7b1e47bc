/-
  The walk of TokenRepeats. No conditions.
-/
import Derived.Test.YtmooiheomecieaaTokX
import Derived.Test.YtmooiheomecieaaTokB
import Derived.Test.YtmooiheomecieaaHeld
import Derived.Test.YtmooiheomecieaaRegion
namespace Go.Proofs.Ytmooiheomecieaa.tokenRepeats
open Go.RowKit Tok

/-! What a repetition says. -/

theorem rep_front (d : Nat) : ∀ (n : Nat) (L : List Nat), ∃ E, rep d n L = L ++ E
  | 0, L => ⟨[], by rw [rep, List.append_nil]⟩
  | n + 1, L => by
    obtain ⟨E, hE⟩ := rep_front d n (L ++ [L.getD (L.length - d) 0])
    exact ⟨_, by rw [rep, hE, List.append_assoc]⟩

theorem rep_back (d : Nat) (L : List Nat) (h1 : 1 ≤ d) (h2 : d ≤ L.length) : ∀ (n i : Nat), L.length ≤ i → i < L.length + n → (rep d n L)[i]? = (rep d n L)[i - d]?
  | 0, i, h3, h4 => absurd h4 (by omega)
  | n + 1, i, h3, h4 => by
    have hl := rep_length d n L
    rw [rep_more]
    by_cases h5 : i < L.length + n
    · rw [List.getElem?_append_left (by omega), List.getElem?_append_left (by omega)]
      exact rep_back d L h1 h2 n i h3 h5
    · obtain rfl : i = (rep d n L).length := by omega
      rw [List.getElem?_append_right (Nat.le_refl _), List.getElem?_append_left (by omega), Nat.sub_self, List.getD_eq_getElem?_getD]
      rw [List.getElem?_eq_getElem (show (rep d n L).length - d < (rep d n L).length by omega)]
      rfl

/-- A byte as a token. -/
def tb (x : Nat) : Tk := (0, 0, x)

theorem say_bytes : ∀ (xs out : List Nat), say out (xs.map tb) = some (out ++ xs)
  | [], out => by simp [say]
  | x :: r, out => by
    rw [List.map_cons, say, if_pos (by rfl), say_bytes r]
    simp [tb]

theorem may_bytes (xs : List Nat) (t : Tk) (ht : may t = true) : (xs.map tb ++ [t]).all may = true := by
  rw [List.all_append, List.all_map]
  have h : xs.all (may ∘ tb) = true := by
    rw [List.all_eq_true]
    intro x _
    rfl
  rw [h]
  simp [ht]

theorem may_of {n d : Nat} (h1 : 3 ≤ n) (h2 : n ≤ 258) (h3 : 1 ≤ d) (h4 : d ≤ 32768) : may ((n : Int), (d : Int), 0) = true := by
  unfold may isR
  simp only [Bool.or_eq_true, Bool.and_eq_true, decide_eq_true_eq]
  exact .inr ⟨⟨⟨⟨trivial, by omega⟩, by omega⟩, by omega⟩, by omega⟩

theorem isB_of {n d : Nat} (h1 : 3 ≤ n) : isB ((n : Int), (d : Int), 0) = false := by
  unfold isB
  have : decide ((n : Int) = 0) = false := decide_eq_false (by omega)
  simp only [this, Bool.false_and]

theorem good (xs : List Nat) (n d : Nat) (h1 : 3 ≤ n) (h2 : n ≤ 258) (h3 : 1 ≤ d) (h4 : d ≤ xs.length) (h5 : xs.length ≤ 300) : exErr (xs.map tb ++ [((n : Int), (d : Int), 0)]) = 0 ∧ exAns (xs.map tb ++ [((n : Int), (d : Int), 0)]) = rep d n xs := by
  refine ex_some (may_bytes xs _ (may_of h1 h2 h3 (by omega))) ?_
  rw [say_append, say_bytes]
  show say ([] ++ xs) [((n : Int), (d : Int), 0)] = _
  rw [List.nil_append, say, isB_of h1, if_neg (by simp), if_neg (by simp only []; omega), say]
  simp

theorem bad (xs : List Nat) (n : Nat) (h1 : 3 ≤ n) (h2 : n ≤ 258) (h5 : xs.length ≤ 300) : exErr (xs.map tb ++ [((n : Int), ((xs.length + 1 : Nat) : Int), 0)]) = 2 ∧ exAns (xs.map tb ++ [((n : Int), ((xs.length + 1 : Nat) : Int), 0)]) = [] := by
  refine ex_none (may_bytes xs _ (may_of h1 h2 (by omega) (by omega))) ?_
  rw [say_append, say_bytes]
  show say ([] ++ xs) [((n : Int), ((xs.length + 1 : Nat) : Int), 0)] = _
  rw [List.nil_append, say, isB_of h1, if_neg (by simp), if_pos (by simp only []; omega)]

theorem fits_bytes (xs : List Nat) (t : Tk) (hx : ∀ x ∈ xs, x < 256) (ht : InT t) : Fits (xs.map tb ++ [t]) := by
  intro y hy
  rcases List.mem_append.1 hy with hy | hy
  · obtain ⟨x, h1, rfl⟩ := List.mem_map.1 hy
    refine ⟨by simp [tb], by simp [tb], hx x h1⟩
  · obtain rfl := List.mem_singleton.1 hy
    exact ht

theorem u16_wf {v : Int} (hv : (Lit.int .u16 v).wf = true) : ∃ x : Nat, v = (x : Int) ∧ x < 65536 := by
  simp only [Lit.wf, Bool.and_eq_true, decide_eq_true_eq] at hv
  have h1 : IntKind.u16.min = 0 := rfl
  have h2 : IntKind.u16.max = 65535 := rfl
  rw [h1, h2] at hv
  exact ⟨v.toNat, by omega, by omega⟩

set_option maxRecDepth 100000 in
set_option maxHeartbeats 8000000 in
theorem walk (w : World) (v : Value) (xs : List Nat) (hb : ByteRow w v xs) (x : Int) (hx : (Lit.int .u16 x).wf = true) (y : Int) (hy : (Lit.int .u16 y).wf = true) :
    Calls Try.prog 7 #[v, .int .u16 x, .int .u16 y] w fun e w' => e = .returned (.bool true) ∧ Below w.heap.size w w' := by
  obtain ⟨n0, rfl, hn0⟩ := u16_wf hx
  obtain ⟨d0, rfl, hd0⟩ := u16_wf hy
  clear hx hy
  have hsays := fun W => says_any W
  have HB := fun W hB => hb.below (B := w.heap.size) (w' := W) hB (Nat.le_refl _)
  have hby := hb.byte
  obtain ⟨a, cap, rfl, hc, -, -⟩ := id hb
  by_cases c1 : 300 < xs.length
  · go_enter Try.func7, Try.ntmps7
    go_wp2_with (go_at_call 17; refine (hsays _).mono ?_; rintro e w9 ⟨rfl, b9⟩)
    go_ret
    exact ⟨rfl, b9⟩
  · by_cases c2 : xs.length = 0
    · rw [c2] at hc c1 ⊢
      go_enter Try.func7, Try.ntmps7
      go_wp2_with (go_at_call 17; refine (hsays _).mono ?_; rintro e w9 ⟨rfl, b9⟩)
      go_ret
      exact ⟨rfl, b9⟩
    · have hlp : 0 < xs.length := by omega
      have hl3 : xs.length ≤ 300 := by omega
      have hne : ((xs.length : Int) == 0) = false := beq_eq_false_iff_ne.2 (by omega)
      obtain ⟨r1, hr1⟩ : ∃ r1, n0 % 256 = r1 := ⟨_, rfl⟩
      have hr2 : (n0 : Int) % 256 = (r1 : Int) := by omega
      obtain ⟨N, hN⟩ : ∃ N, 3 + r1 = N := ⟨_, rfl⟩
      have hN1 : (3 : Int) + (r1 : Int) = (N : Int) := by omega
      have hN2 : 3 ≤ N := by omega
      have hN3 : N ≤ 258 := by omega
      obtain ⟨r3, hr3⟩ : ∃ r3, d0 % xs.length = r3 := ⟨_, rfl⟩
      have hr4 : (d0 : Int) % (xs.length : Int) = (r3 : Int) := by rw [← hr3]; simp
      have hr5 : r3 < xs.length := by rw [← hr3]; exact Nat.mod_lt _ hlp
      obtain ⟨F, hF⟩ : ∃ F, 1 + r3 = F := ⟨_, rfl⟩
      have hF1 : (1 : Int) + (r3 : Int) = (F : Int) := by omega
      have hF2 : 1 ≤ F := by omega
      have hF3 : F ≤ xs.length := by omega
      clear hr1 hN hr3 hF c1 c2
      have HG := Lib.hid (good xs N F hN2 hN3 hF2 hF3 hl3)
      have HBAD := Lib.hid (bad xs N hN2 hN3 hl3)
      have s0 := (St.start w).addNil (e := 37) (size := 3)
      go_enter Try.func7, Try.ntmps7
      go_wp2
      clear hr2 hN1 hr4 hr5 hF1
      go_loopw [9, 10] (fun lv i wr => ∃ k : Nat, k ≤ xs.length ∧ i = .int .i64 (k : Int) ∧ St w.heap.size w wr [tokT lv ((xs.take k).map tb)]) (fun _ i _ => xs.length - (intOf i).toNat)
      case atStart => exact ⟨0, Nat.zero_le _, rfl, s0⟩
      case round =>
        clear s0
        obtain ⟨k, hk, rfl, s1⟩ := hrel
        obtain ⟨va, vc, rfl⟩ := ownsRow_slice s1.row
        by_cases hlt : k < xs.length
        · obtain ⟨a', cap', e1, _, _, hat⟩ := HB _ (s1.below (Nat.le_refl _))
          obtain ⟨rfl, -, rfl⟩ := Value.slice.inj e1
          obtain ⟨hy, b, off, rfl, hcell⟩ := hat _ hlt
          obtain ⟨z, hz⟩ : ∃ z, xs[k] = z := ⟨_, rfl⟩
          rw [hz] at hcell hy
          have hnx : (xs.take (k + 1)).map tb = (xs.take k).map tb ++ [(0, 0, z)] := by
            rw [List.take_succ_eq_append_getElem hlt, List.map_append, hz]
            rfl
          have HNX := Lib.hid hnx
          have hll : ((xs.take k).map tb).length ≤ 100000000 := by rw [List.length_map, List.length_take]; omega
          generalize (xs.take k).map tb = L at *
          clear hat e1 hz hnx HB hsays hby hb
          go_wp2_with (at_builtin; refine wpList_append_tok rfl _ _ rfl s1 rfl (0, 0, z) rfl hll ?_; intro v2 w2 s2)
          exact ⟨⟨k + 1, by omega, by go_num, by rw [HNX.out]; exact s2⟩, by simp [intOf]; omega⟩
        · obtain rfl : k = xs.length := by omega
          rw [List.take_length] at s1 ⊢
          rw [List.length_map] at s1 ⊢
          have hfit1 : Fits (xs.map tb ++ [((N : Int), (F : Int), 0)]) := fits_bytes xs _ hby (by unfold InT; simp only []; omega)
          have hfit2 : Fits (xs.map tb ++ [((N : Int), ((xs.length + 1 : Nat) : Int), 0)]) := fits_bytes xs _ hby (by unfold InT; simp only []; omega)
          have hll : (xs.map tb).length ≤ 100000000 := by rw [List.length_map]; omega
          have hl0 : 0 < (xs.map tb).length := by rw [List.length_map]; omega
          clear hlt hk hb
          go_wp2_with (at_builtin; refine wpList_append_fork rfl _ _ rfl s1 rfl hl0 ((N : Int), (F : Int), 0) rfl hll ?_; intro v2 w2 s2)
          have hx := expand_st s2 v2 (xs.map tb ++ [((N : Int), (F : Int), 0)]) (fun W s => s.forked hfit1) (by rw [List.length_append, List.length_map]; simp; omega)
          unfold ExpandSt at hx
          rw [HG.out.1, HG.out.2] at hx
          refine hx.mono ?_
          rintro e w3 ⟨v3, rfl, s3⟩
          clear hx s1 s2
          have hlen := rep_length F N xs
          obtain ⟨E, hE⟩ := rep_front F N xs
          have hbk := fun i h1 h2 => rep_back F xs hF2 hF3 N i h1 h2
          generalize rep F N xs = out at *
          obtain ⟨m, hm⟩ : ∃ m, out.length = m := ⟨_, rfl⟩
          rw [hm] at s3 hlen
          obtain ⟨g, gc, rfl, hgc⟩ := s3.rowShape (by omega)
          have hmN : (xs.length : Int) + (N : Int) = (m : Int) := by omega
          have HLEN := Lib.hid hlen
          have HM := Lib.hid hm
          have hm6 : m ≤ 600 := by omega
          have hle : xs.length ≤ m := by omega
          have hgl : xs.length ≤ gc := by omega
          clear hlen hm
          go_wp2_with fail
          have s4 := s3.drew
          have hfr : w3.drew.ownsRow 0 5 1 (.slice (some ⟨g, 0, none⟩) xs.length gc) xs.length (u8s xs) := by
            obtain ⟨q, hq⟩ : ∃ q, m = xs.length + q := ⟨m - xs.length, by omega⟩
            have h8 := s4.row
            rw [hq, hE, u8s_append] at h8
            exact ownsRow_front h8 (by rw [u8s_length]; omega)
          have t1 := run_string w3.drew _ xs (Reads.of_owns hfr)
          have t2 := run_string w3.drew _ xs (HB _ (s4.below (Nat.le_refl _))).reads
          obtain ⟨sL, hsL⟩ : ∃ sL, strOf xs = sL := ⟨_, rfl⟩
          rw [hsL] at t1 t2
          have HS4 := Lib.hid s4
          have HHB := Lib.hid HB
          clear hfr hsL s3 s4 HB
          refine region_seg (by kernel_rfl) [0, 1, 2, 3, 5, 7] 15 rfl (by kernel_rfl) (by kernel_rfl) (fun _ _ d _ _ h => by cases d <;> exact h) ?_
          generalize w3.drew = wd at *
          intro K hK
          simp only [pickL, List.getElem?_cons_zero, List.getElem?_cons_succ]
          go_wp2_with fail
          try clear hK K
          refine wpAny_take (i := 4) (v := .int .i64 (m : Int)) rfl (by kernel_rfl) (by kernel_rfl) (by kernel_rfl) (fun _ _ _ h => h) (.inl ⟨rfl, fun w => by go_simp⟩) ?_
          refine mid_seg [6, 8, 9, 10, 11, 12, 13, 17] 6 (by kernel_rfl) (by kernel_rfl) (fun _ _ d _ _ h => by cases d <;> exact h) ?_
          intro K hK
          simp only [pickL, List.getElem?_cons_zero, List.getElem?_cons_succ]
          go_wp2_with fail
          try clear hK K
          refine wpAny_take (i := 14) (v := .int .i64 (xs.length : Int)) rfl (by kernel_rfl) (by kernel_rfl) (by kernel_rfl) (fun _ _ _ h => h) (.inl ⟨rfl, fun w => by go_simp⟩) ?_
          refine wpAny_take (i := 15) (v := .slice (some ⟨g, 0, none⟩) xs.length gc) rfl (by kernel_rfl) (by kernel_rfl) (by kernel_rfl) (fun _ _ _ h => h) (.inl ⟨rfl, fun w => by go_simp⟩) ?_
          refine wpAny_of_held (S := fun W => (convert 33 9 (.slice (some ⟨g, 0, none⟩) xs.length gc)).run Try.prog W = .ok (.string sL) W ∧ (convert 33 9 (.slice a xs.length cap)).run Try.prog W = .ok (.string sL) W) _ _ _ _ ?_
          refine wpAnyH_take (i := 16) (v := .string sL) rfl (by kernel_rfl) (by kernel_rfl) (by kernel_rfl) (fun _ _ _ h => h) (.inl ⟨rfl, fun W hW => by obtain ⟨k1, k2⟩ := hW; go_simp⟩) ⟨t1, t2⟩ ?_
          refine wpAnyH_take (i := 18) (v := .string sL) rfl (by kernel_rfl) (by kernel_rfl) (by kernel_rfl) (fun _ _ _ h => h) (.inl ⟨rfl, fun W hW => by obtain ⟨k1, k2⟩ := hW; go_simp⟩) ⟨t1, t2⟩ ?_
          refine wpAnyH_take (i := 19) (v := .bool false) rfl (by kernel_rfl) (by kernel_rfl) (by kernel_rfl) (fun _ _ _ h => h) (.inl ⟨rfl, fun W hW => by go_simp⟩) ⟨t1, t2⟩ ?_
          refine wpAnyH_take (i := 20) (v := .bool false) rfl (by kernel_rfl) (by kernel_rfl) (by kernel_rfl) (fun _ _ _ h => h) (.inl ⟨rfl, fun W hW => by go_simp⟩) ⟨t1, t2⟩ ?_
          refine wpAnyH_done (by kernel_rfl) ?_ 0
          clear t1 t2
          simp only [Act.put, List.setIfInBounds_toArray]
          go_wp2
          go_loopw [13] (fun iv wr => ∃ i : Nat, xs.length ≤ i ∧ i ≤ m ∧ iv = .int .i64 (i : Int) ∧ St w.heap.size w wr [rowT 5 1 (.slice (some ⟨g, 0, none⟩) m gc) m (u8s out), forkT (.slice va xs.length vc) v2 (xs.map tb) ((N : Int), (F : Int), 0)]) (fun iv _ => m - (intOf iv).toNat)
          case atStart => exact ⟨xs.length, Nat.le_refl _, hle, rfl, HS4.out⟩
          case round =>
            clear HS4
            obtain ⟨i, hi0, hi1, rfl, s5⟩ := hrel
            by_cases hlt : i < m
            · obtain ⟨q, hq⟩ : ∃ q, i - F = q := ⟨_, rfl⟩
              have hq1 : (i : Int) - (F : Int) = (q : Int) := by omega
              have hqm : q < m := by omega
              obtain ⟨p, hp⟩ : ∃ p, out[i]? = some p := ⟨_, List.getElem?_eq_getElem (by rw [HM.out]; exact hlt)⟩
              have hp2 : out[q]? = some p := by rw [← hq, ← hbk i hi0 (by have := HLEN.out; omega)]; exact hp
              have s6 := s5.drew
              have d0 : wr.drew.cell? ⟨g, i, none⟩ = some (.int .u8 (p : Int)) := by
                rw [s6.row.cellAt i (by omega)]
                obtain ⟨h1, h2⟩ := List.getElem?_eq_some_iff.1 hp
                rw [u8s_get _ _ h1, h2]
              have d1 : wr.drew.cell? ⟨g, q, none⟩ = some (.int .u8 (p : Int)) := by
                rw [s6.row.cellAt q (by omega)]
                obtain ⟨h1, h2⟩ := List.getElem?_eq_some_iff.1 hp2
                rw [u8s_get _ _ h1, h2]
              have HS6 := Lib.hid s6
              clear s5 s6 hp hp2 hq hbk hfit1 hfit2
              go_wp2
              refine region_seg (by kernel_rfl) [0, 1, 4, 5, 6] 6 rfl (by kernel_rfl) (by kernel_rfl) (fun _ _ d _ _ h => by cases d <;> exact h) ?_
              generalize wr.drew = wd at *
              intro K hK
              simp only [pickL, List.getElem?_cons_zero, List.getElem?_cons_succ]
              go_wp2_with fail
              try clear hK K
              refine wpAny_of_held (S := fun W => W.cell? ⟨g, i, none⟩ = some (.int .u8 (p : Int)) ∧ W.cell? ⟨g, q, none⟩ = some (.int .u8 (p : Int))) _ _ _ _ ?_
              refine wpAnyH_take (i := 2) (v := .pointer (some ⟨g, i, none⟩)) rfl (by kernel_rfl) (by kernel_rfl) (by kernel_rfl) (fun _ _ _ h => h) (.inl ⟨rfl, fun W hW => by obtain ⟨k1, k2⟩ := hW; go_simp⟩) ⟨d0, d1⟩ ?_
              refine wpAnyH_take (i := 7) (v := .int .i64 (q : Int)) rfl (by kernel_rfl) (by kernel_rfl) (by kernel_rfl) (fun _ _ _ h => h) (.inl ⟨rfl, fun W hW => by obtain ⟨k1, k2⟩ := hW; go_simp; exact IntWalk.i64_in _ (by omega)⟩) ⟨d0, d1⟩ ?_
              refine wpAnyH_take (i := 3) (v := .int .u8 (p : Int)) rfl (by kernel_rfl) (by kernel_rfl) (by kernel_rfl) (fun _ _ _ h => h) (.inl ⟨rfl, fun W hW => by obtain ⟨k1, k2⟩ := hW; go_simp⟩) ⟨d0, d1⟩ ?_
              refine wpAnyH_take (i := 8) (v := .pointer (some ⟨g, q, none⟩)) rfl (by kernel_rfl) (by kernel_rfl) (by kernel_rfl) (fun _ _ _ h => h) (.inl ⟨rfl, fun W hW => by obtain ⟨k1, k2⟩ := hW; go_simp⟩) ⟨d0, d1⟩ ?_
              refine wpAnyH_take (i := 9) (v := .int .u8 (p : Int)) rfl (by kernel_rfl) (by kernel_rfl) (by kernel_rfl) (fun _ _ _ h => h) (.inl ⟨rfl, fun W hW => by obtain ⟨k1, k2⟩ := hW; go_simp⟩) ⟨d0, d1⟩ ?_
              refine wpAnyH_take (i := 10) (v := .bool false) rfl (by kernel_rfl) (by kernel_rfl) (by kernel_rfl) (fun _ _ _ h => h) (.inl ⟨rfl, fun W hW => by go_simp⟩) ⟨d0, d1⟩ ?_
              refine wpAnyH_done (by kernel_rfl) ?_ 0
              clear d0 d1
              simp only [Act.put, List.setIfInBounds_toArray]
              go_wp2
              exact ⟨⟨i + 1, by omega, by omega, by go_num, HS6.out⟩, by simp [intOf]; omega⟩
            · obtain rfl : i = m := by omega
              have s6 := s5.swap.unfork
              clear hbk s5 hfit1
              obtain ⟨M, hM⟩ : ∃ M, xs.length + 1 = M := ⟨_, rfl⟩
              have hM1 : (xs.length : Int) + 1 = (M : Int) := by omega
              rw [hM] at hfit2 HBAD
              clear hM
              go_wp2_with (at_builtin; refine wpList_append_tok rfl _ _ rfl s6 rfl ((N : Int), (M : Int), 0) rfl hll ?_; intro v7 w7 s7)
              have hx := expand_st s7 v7 (xs.map tb ++ [((N : Int), (M : Int), 0)]) (fun W s => s.toks hfit2) (by rw [List.length_append, List.length_map]; simp; omega)
              unfold ExpandSt at hx
              rw [HBAD.out.1, HBAD.out.2] at hx
              refine hx.mono ?_
              rintro e w8 ⟨v8, rfl, s8⟩
              have hbw := s8.below (Nat.le_refl _)
              clear hx s6 s7 s8
              go_wp2_with (go_at_call 17; refine (hsays _).mono ?_; rintro e w9 ⟨rfl, b9⟩)
              go_ret
              exact ⟨rfl, Below.andThen hbw b9⟩

end Go.Proofs.Ytmooiheomecieaa.tokenRepeats
