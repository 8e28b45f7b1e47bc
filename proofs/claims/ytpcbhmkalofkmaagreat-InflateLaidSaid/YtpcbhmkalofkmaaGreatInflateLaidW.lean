/-
  What the layers below lay is read as the bytes: the walk of InflateLaid. No conditions.
-/
import Derived.Test.YtpcbhmkalofkmaaGreatInflateLaidP
import Derived.Test.YtpcbhmkalofkmaaGreatGR
import Derived.Test.YtpcbhmkalofkmaaGreatTokE
namespace Go.Proofs.YtpcbhmkalofkmaaGreat.inflateLaid
open Go.RowKit Kraft Hd Inf Limit

theorem rowN {B : Nat} {w0 w : World} {r : List Thing} {v : Value} {n : Nat} {xs : List Nat} (h : St B w0 w (rowT 5 1 v n (u8s xs) :: r)) (hn : xs.length = n) (hb : ∀ x ∈ xs, x < 256) : ByteRow w v xs :=
  byteRow_owns (by rw [hn]; exact h.row) hb

theorem fixP_b : ∀ x ∈ fixP, x < 256 := by decide +kernel
theorem fixQ_b : ∀ x ∈ fixQ, x < 256 := by decide +kernel

theorem held_call {P : Program} {ops : Array Oper} {Q : Exit → Act → World → Prop} {md : Region.Mode} {S : World → Prop} {j : Nat} (oj : Oper) {fuel : Nat} {listed : Array Bool} {a : Act} {w : World} (hr : Region.ready md ops listed = [j]) (hj : ops[j]? = some oj)
    (hw : Region.wanted oj (yielded ops a.tmps) = true) (f : FuncId) (args : Array Value) (hrun : (execOp a.eval oj).run P w = .ok (.enter f args) w) {Post : Ending → World → Prop} (hc : Calls P f args w Post)
    (h : ∀ e w', Post e w' → ∃ v, e = .returned v ∧ S w' ∧ wpAnyH P md ops Q S fuel (listed.setIfInBounds j true) (a.put oj.dst v) w') : wpAnyH P md ops Q S (fuel + 1) listed a w :=
  held_step oj hr hj fun N hN => by
    unfold wpList
    rw [if_pos hw]
    left
    unfold Oper.wp
    rw [hrun, Oper.upon_enter]
    refine hc.mono fun e w'' hh => ?_
    obtain ⟨v, rfl, h1, h2⟩ := h _ _ hh
    exact hN _ _ h1 h2

set_option maxRecDepth 100000 in
set_option maxHeartbeats 8000000 in
theorem walk (w : World) (v0 : Value) (xs : List Nat) (h0 : ByteRow w v0 xs) (v1 : Value) (l : List Tok.Tk) (h1 : Tok.TokRow w v1 l) (v2 : Value) (ys : List Nat) (h2 : ByteRow w v2 ys) :
    Calls Tryz.prog 4 #[v0, v1, v2] w fun e w' => e = .returned (.bool true) ∧ Below w.heap.size w w' := by
  have hB := Nat.le_refl w.heap.size
  have HB0 := fun W (hb : Below w.heap.size w W) => h0.below hb hB
  have HL0 := fun W (hb : Below w.heap.size w W) => h1.below hb hB
  have HY0 := fun W (hb : Below w.heap.size w W) => h2.below hb hB
  have hxb := h0.byte
  have hfit := h1.fits
  obtain ⟨a0, cap0, rfl, hc0, hn0, -⟩ := h0
  obtain ⟨a1, cap1, rfl, hc1, hm1, hn1, -⟩ := h1
  obtain ⟨a2, cap2, rfl, hc2, hn2, -⟩ := h2
  by_cases c0 : 300 < l.length
  · go_enter Tryz.func4, Tryz.ntmps4
    go_wp2
    go_ret
    exact ⟨rfl, Below.refl _ _⟩
  by_cases c1 : 300 < xs.length
  · go_enter Tryz.func4, Tryz.ntmps4
    go_wp2
    go_ret
    exact ⟨rfl, Below.refl _ _⟩
  by_cases c2 : 40 < ys.length
  · go_enter Tryz.func4, Tryz.ntmps4
    go_wp2
    go_ret
    exact ⟨rfl, Below.refl _ _⟩
  have hl3 : l.length ≤ 300 := by omega
  have hx3 : xs.length ≤ 300 := by omega
  have hy4 : ys.length ≤ 40 := by omega
  have HFIT := Lib.hid hfit
  have HXB := Lib.hid hxb
  have HB := Lib.hid HB0
  have HL := Lib.hid HL0
  have HY := Lib.hid HY0
  clear hfit hxb HB0 HL0 HY0
  have s0 := (St.start w).addNil (e := 33) (size := 3)
  go_enter Tryz.func4, Tryz.ntmps4
  go_wp2
  clear c0 c1 c2
  go_loopw [7, 8] (fun lv i wr => ∃ k : Nat, k ≤ xs.length ∧ i = .int .i64 (k : Int) ∧ St w.heap.size w wr [Tok.tokT lv ((xs.take k).map tb)]) (fun _ i _ => xs.length - (intOf i).toNat)
  case atStart => exact ⟨0, Nat.zero_le _, rfl, s0⟩
  case round =>
    clear s0
    obtain ⟨k, hk, rfl, s1⟩ := hrel
    obtain ⟨va, vc, rfl⟩ := ownsRow_slice s1.row
    by_cases hlt : k < xs.length
    · obtain ⟨a', cap', e1, _, _, hat⟩ := HB.out _ (s1.below (Nat.le_refl _))
      obtain ⟨rfl, -, rfl⟩ := Value.slice.inj e1
      obtain ⟨hy, b, off, rfl, hcell⟩ := hat _ hlt
      obtain ⟨z, hz⟩ : ∃ z, xs[k] = z := ⟨_, rfl⟩
      rw [hz] at hcell hy
      have hnx : (xs.take (k + 1)).map tb = (xs.take k).map tb ++ [(0, 0, z)] := by
        rw [List.take_succ_eq_append_getElem hlt, List.map_append, hz]
        rfl
      have HNX := Lib.hid hnx
      have hll : ((xs.take k).map tb).length ≤ 100000000 := by rw [List.length_map, List.length_take]; omega
      generalize (xs.take k).map tb = L at *
      clear hat e1 hz hnx HB
      go_wp2_with (at_builtin; refine Tok.wpList_append_tok rfl _ _ rfl s1 rfl (0, 0, z) rfl hll ?_; intro v2 w2 s2)
      exact ⟨⟨k + 1, by omega, by go_num, by rw [HNX.out]; exact s2⟩, by simp [intOf]; omega⟩
    · obtain rfl : k = xs.length := by omega
      rw [List.take_length] at s1 ⊢
      have hTl : (xs.map tb).length = xs.length := by rw [List.length_map]
      have hAf : Tok.Fits (xs.map tb ++ l ++ l) := by
        intro t ht
        rcases List.mem_append.1 ht with ht | ht
        · rcases List.mem_append.1 ht with ht | ht
          · obtain ⟨x, hx, rfl⟩ := List.mem_map.1 ht
            exact ⟨by simp [tb], by simp [tb], HXB.out x hx⟩
          · exact HFIT.out t ht
        · exact HFIT.out t ht
      have HAF := Lib.hid hAf
      have HTL := Lib.hid hTl
      clear hAf hTl
      rw [List.length_map] at s1 ⊢
      obtain ⟨T, hT⟩ : ∃ T, xs.map tb = T := ⟨_, rfl⟩
      rw [hT] at HAF HTL s1
      have HT := Lib.hid hT
      clear hT
      have hTn : T.length ≤ 300 := by have := HTL.out; omega
      go_wp2_with (at_builtin; refine wpList_append_toks rfl _ _ rfl s1 (HL.out _ (s1.below hB)) rfl rfl (by omega) ?_)
      intro v3 w3 s2
      obtain ⟨vb, vd, rfl⟩ := ownsRow_slice s2.row
      rw [List.length_append] at s2 ⊢
      clear s1
      go_wp2_with (at_builtin; refine wpList_append_toks rfl _ _ rfl s2 (HL.out _ (s2.below hB)) rfl rfl (by rw [List.length_append]; omega) ?_)
      intro v4 w4 s3
      obtain ⟨ve, vf, rfl⟩ := ownsRow_slice s3.row
      rw [List.length_append, List.length_append] at s3 ⊢
      rw [← List.append_assoc] at s3
      clear s2
      go_wp2_with fail
      refine (Tok.expand_st s3 _ (T ++ l ++ l) (fun W s => s.toks HAF.out) (by simp only [List.length_append]; omega)).mono ?_
      rintro e w5 ⟨vw, rfl, s4⟩
      have s5 := s4.swap.drop
      clear s3 s4
      have hbel := s5.below hB
      have hERR : Tok.exErr (T ++ l ++ l) = 5 ∨ Tok.exErr (T ++ l ++ l) = 2 ∨ (Tok.exErr (T ++ l ++ l) = 0 ∧ ∃ o, Tok.say [] (T ++ l ++ l) = some o ∧ Tok.exAns (T ++ l ++ l) = o ∧ (T ++ l ++ l).all Tok.may = true) := by
        cases hall : (T ++ l ++ l).all Tok.may with
        | false => exact .inl (Tok.ex_bad hall).1
        | true =>
          cases hsay : Tok.say [] (T ++ l ++ l) with
          | none => exact .inr (.inl (Tok.ex_none hall hsay).1)
          | some o => exact .inr (.inr ⟨(Tok.ex_some hall hsay).1, o, rfl, (Tok.ex_some hall hsay).2, rfl⟩)
      rcases hERR with he | he | ⟨he, o, hsay, hans, hall⟩
      · rw [he]
        clear he s5
        go_wp2_with (go_at_call 9; refine (reads_any _).mono ?_; rintro e w7 ⟨rfl, hb7⟩)
        go_ret
        exact ⟨rfl, hbel.trans (hb7.mono hbel.size)⟩
      · rw [he]
        clear he s5
        go_wp2_with (go_at_call 9; refine (reads_any _).mono ?_; rintro e w7 ⟨rfl, hb7⟩)
        go_ret
        exact ⟨rfl, hbel.trans (hb7.mono hbel.size)⟩
      rw [he]
      rw [hans] at s5
      obtain ⟨wa, wc, rfl⟩ := ownsRow_slice s5.row
      have hmay : ∀ t ∈ l, Tok.may t = true := fun t ht => List.all_eq_true.1 hall t (List.mem_append.2 (.inr ht))
      have hlen := allB_le xs l hmay
      have hol : o.length ≤ 300000 := by
        have h9 := say_long (T ++ l ++ l) [] o (fun t ht => List.all_eq_true.1 hall t ht) hsay
        simp only [List.length_append, List.length_nil] at h9
        omega
      have hinf := infl_laid xs HXB.out (by omega) l (fun t ht => ⟨hmay t ht, (HFIT.out t ht).2.2⟩) (by rw [HT.out]; exact hsay) ys
      have hob := infl_byte hinf
      have HINF := Lib.hid hinf
      have HOB := Lib.hid hob
      have HMAY := Lib.hid hmay
      have HLEN := Lib.hid hlen
      clear hinf hob hmay hlen hall hsay hans he hTn HAF HT HTL
      have s6 := s5.newWr
      obtain ⟨pb, hpb⟩ : ∃ pb, pb = w5.heap.size := ⟨_, rfl⟩
      rw [← hpb] at s6
      clear s5
      go_wp2_with fail
      rw [← hpb]
      refine (put_st s6 0 3 (by simp) (by omega) (by omega)).mono ?_
      rintro e w6 ⟨rfl, s7⟩
      clear s6 hpb
      go_wp2_with fail
      refine (walign_st s7 (by simp only [List.length_append, bitsOf_length, List.length_nil]; omega)).mono ?_
      rintro e w7 ⟨rfl, s8⟩
      rw [List.nil_append, show bitsOf 0 (padOf (bitsOf 0 3).length) = bitsOf 0 5 from rfl] at s8
      clear s7
      go_wp2_with fail
      refine (put_st s8 xs.length 16 (by simp only [List.length_append, bitsOf_length]; omega) (by omega) (by omega)).mono ?_
      rintro e w8 ⟨rfl, s9⟩
      clear s8
      have hp9 := put_st s9 (65535 - xs.length) 16 (by simp only [List.length_append, bitsOf_length]; omega) (by omega) (by omega)
      rw [show ((65535 - xs.length : Nat) : Int) = 65535 - (xs.length : Int) from by omega] at hp9
      go_wp2_with fail
      refine hp9.mono ?_
      rintro e w9 ⟨rfl, s10⟩
      clear s9 hp9
      go_wp2
      obtain ⟨A0, hA0⟩ : ∃ A0, bitsOf 0 3 ++ bitsOf 0 5 ++ bitsOf xs.length 16 ++ bitsOf (65535 - xs.length) 16 = A0 := ⟨_, rfl⟩
      rw [hA0] at s10
      have hA0l : A0.length = 40 := by rw [← hA0]; simp only [List.length_append, bitsOf_length]
      have hsto : A0 ++ xs.flatMap (fun x => bitsOf x 8) = stoB xs := by rw [← hA0]; rfl
      have HSTO := Lib.hid hsto
      clear hA0 hsto
      go_loopw [12] (fun i wr => ∃ (k : Nat) (A : List Bool), k ≤ xs.length ∧ i = .int .i64 (k : Int) ∧ Hid (A0 ++ (xs.take k).flatMap (fun x => bitsOf x 8) = A) ∧ A.length = 40 + 8 * k ∧ St w.heap.size w wr [wrT pb A, rowT 5 1 (.slice wa o.length wc) o.length (u8s o)]) (fun i _ => xs.length - (intOf i).toNat)
      case atStart => exact ⟨0, A0, Nat.zero_le _, rfl, Lib.hid (by simp), by omega, s10⟩
      case round =>
        clear s10
        obtain ⟨k, A, hk, rfl, hA, hAl, s1⟩ := hrel
        by_cases hlt : k < xs.length
        · obtain ⟨a', cap', e1, _, _, hat⟩ := HB.out _ (s1.below hB)
          obtain ⟨rfl, -, rfl⟩ := Value.slice.inj e1
          obtain ⟨hy, b, off, rfl, hcell⟩ := hat _ hlt
          obtain ⟨z, hz⟩ : ∃ z, xs[k] = z := ⟨_, rfl⟩
          rw [hz] at hcell hy
          have hnx : A0 ++ (xs.take (k + 1)).flatMap (fun x => bitsOf x 8) = A ++ bitsOf z 8 := by
            rw [← hA.out, List.take_succ_eq_append_getElem hlt, hz, List.flatMap_append, List.append_assoc]
            simp
          have HNX := Lib.hid hnx
          have hp := put_st s1 z 8 (by omega) (by omega) (by omega)
          clear hat e1 hz hnx HB s1
          go_wp2_with fail
          refine hp.mono ?_
          rintro e w10 ⟨rfl, s2⟩
          clear hp
          go_wp2
          exact ⟨⟨k + 1, A ++ bitsOf z 8, by omega, by go_num, HNX, by rw [List.length_append, bitsOf_length]; omega, s2⟩, by simp [intOf]; omega⟩
        · obtain rfl : k = xs.length := by omega
          rw [List.take_length] at hA
          have hA2 : A = stoB xs := by rw [← hA.out, HSTO.out]
          clear HSTO hA
          subst hA2
          have hlay2 := laid_le (reads_of fix_fits.1) (reads_of fix_fits.2) l HMAY.out
          have hbf := mayH_fits (best_may l)
          have hlay3 := laid_le (reads_of hbf.1) (reads_of hbf.2) l HMAY.out
          have hhs := hbits_small (best_may l)
          rw [bestP_length, bestQ_length] at hhs
          have hHP : ∀ W r', St w.heap.size w W r' → Tok.TokRow W (.slice a1 l.length cap1) l := fun W r' s => HL.out W (s.below hB)
          have HHP := Lib.hid hHP
          clear hHP
          have hp := put_st s1 2 3 (by omega) (by omega) (by omega)
          clear s1
          go_wp2_with fail
          refine hp.mono ?_
          rintro e w10 ⟨rfl, s2⟩
          clear hp
          go_wp2_with fail
          refine (fixedL_st s2).mono ?_
          rintro e w11 ⟨gf, hf, rfl, s3⟩
          clear s2
          have hy1 := lay_st (l := l) (P := fixP) (Q := fixQ) s3.third (by rw [List.length_append, bitsOf_length]; omega) (v1 := .slice a1 l.length cap1) (v2 := .slice (some ⟨gf, 0, none⟩) 288 288) (v3 := .slice (some ⟨hf, 0, none⟩) 32 32) (fun W s => HHP.out W _ s) (fun W s => rowN s fixP_length fixP_b) (fun W s => rowN s.drop fixQ_length fixQ_b) (by omega) HMAY.out (by rw [fixP_length]; omega) (by rw [fixQ_length]; omega) (reads_of fix_fits.1) (reads_of fix_fits.2) fix_fits.1 fix_fits.2
          clear s3
          go_wp2_with fail
          refine hy1.mono ?_
          rintro e w12 ⟨rfl, s4⟩
          have s5 := s4.swap.drop.swap.drop
          clear hy1 s4
          have hp := put_st s5 5 3 (by simp only [List.length_append, bitsOf_length]; omega) (by omega) (by omega)
          clear s5
          go_wp2_with fail
          refine hp.mono ?_
          rintro e w13 ⟨rfl, s6⟩
          clear hp
          go_wp2_with fail
          refine (best_st s6 (fun W s => HHP.out W _ s) (by omega) HMAY.out).mono ?_
          rintro e w14 ⟨u1, u2, rfl, s7⟩
          have hpt := hput_st (p := bestP l) (q := bestQ l) s7.third (by simp only [List.length_append, bitsOf_length]; omega) (v1 := u1) (v2 := u2) (fun W s => rowN s (bestP_length l) (best_byte l).1) (fun W s => rowN s.drop (bestQ_length l) (best_byte l).2) (by rw [bestP_length]; omega) (by rw [bestQ_length]; omega)
          rw [best_may] at hpt
          simp only [if_true] at hpt
          clear s6 s7
          go_wp2_with fail
          refine hpt.mono ?_
          rintro e w15 ⟨rfl, s8⟩
          clear hpt
          have hy2 := lay_st (l := l) (P := bestP l) (Q := bestQ l) s8 (by simp only [List.length_append, bitsOf_length]; omega) (v1 := .slice a1 l.length cap1) (v2 := u1) (v3 := u2) (fun W s => HHP.out W _ s) (fun W s => rowN s (bestP_length l) (best_byte l).1) (fun W s => rowN s.drop (bestQ_length l) (best_byte l).2) (by omega) HMAY.out (by rw [bestP_length]; omega) (by rw [bestQ_length]; omega) (reads_of hbf.1) (reads_of hbf.2) hbf.1 hbf.2
          clear s8
          go_wp2_with fail
          refine hy2.mono ?_
          rintro e w16 ⟨rfl, s9⟩
          have s10 := s9.swap.drop.swap.drop
          rw [show stoB xs ++ bitsOf 2 3 ++ laidBits fixP fixQ l ++ bitsOf 5 3 ++ hbits (bestP l) (bestQ l) ++ laidBits (bestP l) (bestQ l) l = allB xs l from by unfold allB fixB dynB; simp only [List.append_assoc]] at s10
          clear hy2 s9 hlay2 hlay3 hhs hbf hAl
          have hlen := HLEN.out
          obtain ⟨V, hV⟩ : ∃ V, allB xs l = V := ⟨_, rfl⟩
          have hinf := HINF.out
          rw [hV] at hlen hinf s10
          clear HLEN HINF hV
          have HI := Lib.hid hinf
          clear hinf
          obtain ⟨Z, hZ⟩ : ∃ Z, pk V = Z := ⟨_, rfl⟩
          have hZl : Z.length = (V.length + 7) / 8 := by rw [← hZ, pk_length]
          have hZb : ∀ x ∈ Z, x < 256 := by rw [← hZ]; exact pk_lt V
          have hby := fun W r' (s : St w.heap.size w W (wrT pb V :: r')) => bytes_st s (by omega)
          rw [hZ] at hby HI
          have HBY := Lib.hid hby
          have HZB := Lib.hid hZb
          have HZL := Lib.hid hZl
          have hZ6 : Z.length ≤ 6000 := by omega
          clear hby hZ hZb hZl
          go_wp2_with fail
          refine (HBY.out _ _ s10).mono ?_
          rintro e w17 ⟨v17, rfl, s11⟩
          obtain ⟨pa, pc, rfl⟩ := ownsRow_slice s11.row
          clear s10
          go_wp2_with (at_builtin; refine wpList_append_bytes rfl _ _ rfl s11 (HY.out _ (s11.below hB)) rfl rfl (by omega) ?_)
          intro v18 w18 s12 _ _
          rw [← u8s_append] at s12
          have hyb := (HY.out _ (s12.below hB)).byte
          have hZY : ∀ x ∈ Z ++ ys, x < 256 := fun x hx => (List.mem_append.1 hx).elim (HZB.out x) (hyb x)
          have hi := inflate_says (xs := Z ++ ys) s12 v18 (fun W s => rowN s (by rw [List.length_append]) hZY) (by rw [List.length_append]; omega) o.length o.length Z.length (by omega) HI.out (Nat.le_refl _) rfl (by rw [HZL.out]; rfl)
          have hls := s12.drop
          clear s11 s12 hyb hZY
          go_wp2_with fail
          refine hi.mono ?_
          rintro e w19 ⟨fa, fc, rfl, s13⟩
          have s14 := s13.newBox (flowC (.slice fa o.length fc) o.length Z.length) 24
          clear hi hls s13
          have s16 : St w.heap.size w (w19.alloc (.cells (flowC (.slice fa o.length fc) o.length Z.length) 24)) [wrT pb V, boxT w19.heap.size (flowC (.slice fa o.length fc) o.length Z.length) 24, rowT 5 1 (.slice fa o.length fc) o.length (u8s o), rowT 5 1 (.slice wa o.length wc) o.length (u8s o)] := s14.third.drop.third
          clear s14 HHP HB HL HY HMAY HFIT HXB HI HOB HZB HZL hlen hZ6
          go_wp2
          obtain ⟨bb, hbb⟩ : ∃ bb, w19.heap.size = bb := ⟨_, rfl⟩
          rw [hbb] at s16 ⊢
          have hS : ∀ W, St w.heap.size w W [wrT pb V, boxT bb (flowC (.slice fa o.length fc) o.length Z.length) 24, rowT 5 1 (.slice fa o.length fc) o.length (u8s o), rowT 5 1 (.slice wa o.length wc) o.length (u8s o)] → W.cell? ⟨bb, 0, none⟩ = some (.slice fa o.length fc) ∧ W.cell? ⟨bb, 1, none⟩ = some (.int .i64 (o.length : Int)) ∧ W.cell? ⟨bb, 2, none⟩ = some (.int .i64 (Z.length : Int)) ∧ (convert 22 9 (.slice fa o.length fc)).run Tryz.prog W = .ok (.string (strOf o)) W ∧ (convert 22 9 (.slice wa o.length wc)).run Tryz.prog W = .ok (.string (strOf o)) W := fun W s =>
            ⟨(St.boxAt (s.front 1) 0).1, (St.boxAt (s.front 1) 1).1, (St.boxAt (s.front 1) 2).1, run_string _ _ _ (Reads.of_owns (St.row (s.front 2))), run_string _ _ _ (Reads.of_owns (St.row (s.front 3)))⟩
          have s17 := s16.drew
          have x1 := hS _ s17
          have HS := Lib.hid hS
          clear hS s16
          refine region_seg (by kernel_rfl) [0] 27 rfl (by kernel_rfl) (by kernel_rfl) (fun _ _ d _ _ h => by cases d <;> exact h) ?_
          intro K hK
          simp only [pickL, List.getElem?_cons_zero]
          go_wp2_with fail
          try clear hK K
          generalize (w19.alloc _).drew = wd at s17 x1 ⊢
          clear hbb
          refine wpAny_of_held (S := fun W => W.cell? ⟨bb, 0, none⟩ = some (.slice fa o.length fc) ∧ W.cell? ⟨bb, 1, none⟩ = some (.int .i64 (o.length : Int)) ∧ W.cell? ⟨bb, 2, none⟩ = some (.int .i64 (Z.length : Int)) ∧ (convert 22 9 (.slice fa o.length fc)).run Tryz.prog W = .ok (.string (strOf o)) W ∧ (convert 22 9 (.slice wa o.length wc)).run Tryz.prog W = .ok (.string (strOf o)) W) _ _ _ _ ?_
          refine wpAnyH_take (i := 1) (v := .bool true) rfl (by kernel_rfl) (by kernel_rfl) (by kernel_rfl) (fun _ _ _ h => h) (.inl ⟨by kernel_rfl, fun W hW => by go_simp⟩) x1 ?_
          refine wpAnyH_take (i := 2) (v := .bool true) rfl (by kernel_rfl) (by kernel_rfl) (by kernel_rfl) (fun _ _ _ h => h) (.inl ⟨by kernel_rfl, fun W hW => by go_simp⟩) x1 ?_
          refine wpAnyH_take (i := 3) (v := .pointer (some ⟨bb, 0, none⟩)) rfl (by kernel_rfl) (by kernel_rfl) (by kernel_rfl) (fun _ _ _ h => h) (.inl ⟨by kernel_rfl, fun W hW => by go_simp⟩) x1 ?_
          refine wpAnyH_take (i := 4) (v := .slice fa o.length fc) rfl (by kernel_rfl) (by kernel_rfl) (by kernel_rfl) (fun _ _ _ h => h) (.inl ⟨by kernel_rfl, fun W hW => by obtain ⟨k0, k1, k2, k3, k4⟩ := hW; go_simp⟩) x1 ?_
          refine wpAnyH_take (i := 5) (v := .string (strOf o)) rfl (by kernel_rfl) (by kernel_rfl) (by kernel_rfl) (fun _ _ _ h => h) (.inl ⟨by kernel_rfl, fun W hW => by obtain ⟨k0, k1, k2, k3, k4⟩ := hW; go_simp⟩) x1 ?_
          refine wpAnyH_take (i := 6) (v := .slice wa o.length wc) rfl (by kernel_rfl) (by kernel_rfl) (by kernel_rfl) (fun _ _ _ h => h) (.inl ⟨by kernel_rfl, fun W hW => by go_simp⟩) x1 ?_
          refine wpAnyH_take (i := 7) (v := .string (strOf o)) rfl (by kernel_rfl) (by kernel_rfl) (by kernel_rfl) (fun _ _ _ h => h) (.inl ⟨by kernel_rfl, fun W hW => by obtain ⟨k0, k1, k2, k3, k4⟩ := hW; go_simp⟩) x1 ?_
          refine wpAnyH_take (i := 8) (v := .bool true) rfl (by kernel_rfl) (by kernel_rfl) (by kernel_rfl) (fun _ _ _ h => h) (.inl ⟨by kernel_rfl, fun W hW => by go_simp⟩) x1 ?_
          refine wpAnyH_take (i := 9) (v := .bool true) rfl (by kernel_rfl) (by kernel_rfl) (by kernel_rfl) (fun _ _ _ h => h) (.inl ⟨by kernel_rfl, fun W hW => by go_simp⟩) x1 ?_
          refine wpAnyH_take (i := 10) (v := .bool true) rfl (by kernel_rfl) (by kernel_rfl) (by kernel_rfl) (fun _ _ _ h => h) (.inl ⟨by kernel_rfl, fun W hW => by go_simp⟩) x1 ?_
          refine wpAnyH_take (i := 11) (v := .pointer (some ⟨bb, 1, none⟩)) rfl (by kernel_rfl) (by kernel_rfl) (by kernel_rfl) (fun _ _ _ h => h) (.inl ⟨by kernel_rfl, fun W hW => by go_simp⟩) x1 ?_
          refine wpAnyH_take (i := 12) (v := .int .i64 (o.length : Int)) rfl (by kernel_rfl) (by kernel_rfl) (by kernel_rfl) (fun _ _ _ h => h) (.inl ⟨by kernel_rfl, fun W hW => by obtain ⟨k0, k1, k2, k3, k4⟩ := hW; go_simp⟩) x1 ?_
          refine wpAnyH_take (i := 13) (v := .slice wa o.length wc) rfl (by kernel_rfl) (by kernel_rfl) (by kernel_rfl) (fun _ _ _ h => h) (.inl ⟨by kernel_rfl, fun W hW => by go_simp⟩) x1 ?_
          refine wpAnyH_take (i := 14) (v := .int .i64 (o.length : Int)) rfl (by kernel_rfl) (by kernel_rfl) (by kernel_rfl) (fun _ _ _ h => h) (.inl ⟨by kernel_rfl, fun W hW => by go_simp⟩) x1 ?_
          refine wpAnyH_take (i := 15) (v := .bool true) rfl (by kernel_rfl) (by kernel_rfl) (by kernel_rfl) (fun _ _ _ h => h) (.inl ⟨by kernel_rfl, fun W hW => by go_simp⟩) x1 ?_
          refine wpAnyH_take (i := 16) (v := .bool true) rfl (by kernel_rfl) (by kernel_rfl) (by kernel_rfl) (fun _ _ _ h => h) (.inl ⟨by kernel_rfl, fun W hW => by go_simp⟩) x1 ?_
          refine wpAnyH_take (i := 17) (v := .bool true) rfl (by kernel_rfl) (by kernel_rfl) (by kernel_rfl) (fun _ _ _ h => h) (.inl ⟨by kernel_rfl, fun W hW => by go_simp⟩) x1 ?_
          refine wpAnyH_take (i := 18) (v := .pointer (some ⟨bb, 2, none⟩)) rfl (by kernel_rfl) (by kernel_rfl) (by kernel_rfl) (fun _ _ _ h => h) (.inl ⟨by kernel_rfl, fun W hW => by go_simp⟩) x1 ?_
          refine wpAnyH_take (i := 19) (v := .int .i64 (Z.length : Int)) rfl (by kernel_rfl) (by kernel_rfl) (by kernel_rfl) (fun _ _ _ h => h) (.inl ⟨by kernel_rfl, fun W hW => by obtain ⟨k0, k1, k2, k3, k4⟩ := hW; go_simp⟩) x1 ?_
          refine held_call (j := 20) _ (by kernel_rfl) rfl (by kernel_rfl) 17 #[.pointer (some ⟨pb, 0, none⟩)] (by kernel_rfl) (HBY.out _ _ s17) ?_
          rintro e w20 ⟨v20, rfl, s20⟩
          obtain ⟨ra, rc, hv20⟩ := ownsRow_slice s20.row
          subst hv20
          have s21 := s20.drop
          have x2 := HS.out _ s21
          refine ⟨_, rfl, x2, ?_⟩
          clear s17 s20 x1
          refine wpAnyH_take (i := 21) (v := .int .i64 (Z.length : Int)) rfl (by kernel_rfl) (by kernel_rfl) (by kernel_rfl) (fun _ _ _ h => h) (.inl ⟨by kernel_rfl, fun W hW => by go_simp⟩) x2 ?_
          refine wpAnyH_take (i := 22) (v := .bool true) rfl (by kernel_rfl) (by kernel_rfl) (by kernel_rfl) (fun _ _ _ h => h) (.inl ⟨by kernel_rfl, fun W hW => by go_simp⟩) x2 ?_
          refine wpAnyH_take (i := 23) (v := .bool true) rfl (by kernel_rfl) (by kernel_rfl) (by kernel_rfl) (fun _ _ _ h => h) (.inl ⟨by kernel_rfl, fun W hW => by go_simp⟩) x2 ?_
          refine wpAnyH_take (i := 24) (v := .bool true) rfl (by kernel_rfl) (by kernel_rfl) (by kernel_rfl) (fun _ _ _ h => h) (.inl ⟨by kernel_rfl, fun W hW => by go_simp⟩) x2 ?_
          refine held_call (j := 25) _ (by kernel_rfl) rfl (by kernel_rfl) 9 #[] (by kernel_rfl) (reads_any _) ?_
          rintro e w25 ⟨rfl, hb25⟩
          have s22 := s21.quiet hb25
          have x3 := HS.out _ s22
          refine ⟨_, rfl, x3, ?_⟩
          clear x2 s21 hb25
          refine wpAnyH_take (i := 26) (v := .bool true) rfl (by kernel_rfl) (by kernel_rfl) (by kernel_rfl) (fun _ _ _ h => h) (.inl ⟨by kernel_rfl, fun W hW => by go_simp⟩) x3 ?_
          refine wpAnyH_take (i := 27) (v := .bool true) rfl (by kernel_rfl) (by kernel_rfl) (by kernel_rfl) (fun _ _ _ h => h) (.inl ⟨by kernel_rfl, fun W hW => by go_simp⟩) x3 ?_
          refine wpAnyH_done (by kernel_rfl) ?_ 0
          have hfin := s22.below hB
          clear s22 x3 HS HBY
          go_simp
          go_wp2
          go_ret
          exact ⟨rfl, hfin⟩

end Go.Proofs.YtpcbhmkalofkmaaGreat.inflateLaid
