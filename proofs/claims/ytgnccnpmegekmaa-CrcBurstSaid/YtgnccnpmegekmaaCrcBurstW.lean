/-
  Bytes that differ only within 32 bits one behind the other have another sum: the walk of CrcBurst. No conditions.
-/
import Derived.Test.YtgnccnpmegekmaaCrcN
import Derived.Test.YtgnccnpmegekmaaCrcF
namespace Go.Proofs.Ytgnccnpmegekmaa.crcBurst
open Go.RowKit Go.Proofs.Ytgnccnpmegekmaa.Crc

/-- A row of the call's own at block g, of n bytes, with room for c. -/
abbrev rowC (g n c : Nat) (xs : List Nat) : Thing := rowT 5 1 (.slice (some ⟨g, 0, none⟩) n c) n (u8s xs)

theorem rowC_cell {B : Nat} {w0 w : World} {g n c : Nat} {xs : List Nat} {r : List Thing} (h : St B w0 w (rowC g n c xs :: r)) (i : Nat) (hl : xs.length = n) (hi : i < n) :
    w.cell? ⟨g, i, none⟩ = some (.int .u8 (xs.getD i 0 : Int)) ∧ w.frozen? ⟨g, i, none⟩ = false := by
  refine ⟨?_, h.row.frozenAt i⟩
  rw [h.row.cellAt i (by omega), u8s_get _ _ (by omega), getD_in _ _ (by omega)]

theorem rowC_put {B : Nat} {w0 w : World} {g n c : Nat} {xs : List Nat} {r : List Thing} (h : St B w0 w (rowC g n c xs :: r)) (i x : Nat) : St B w0 (w.setCell ⟨g, i, none⟩ (.int .u8 (x : Int))) (rowC g n c (xs.set i x) :: r) := by
  have := h.stored i (.int .u8 (x : Int))
  rwa [← u8s_set] at this

theorem rowC_apart {B : Nat} {w0 w : World} {g1 n1 c1 g2 n2 c2 : Nat} {xs ys : List Nat} {r : List Thing} (h : St B w0 w (rowC g1 n1 c1 xs :: rowC g2 n2 c2 ys :: r)) : g1 ≠ g2 := by
  obtain ⟨S1, h1, _, S2, h3, h4, _⟩ := h.sep
  intro e
  subst e
  exact (h4 g1 ((h3.2 g1).2 rfl)).2 ((h1.2 g1).2 rfl)

theorem rowC_bytes {B : Nat} {w0 w : World} {g n c : Nat} {xs : List Nat} {r : List Thing} (h : St B w0 w (rowC g n c xs :: r)) (hl : xs.length = n) (hb : ∀ x ∈ xs, x < 256) : ByteRow w (.slice (some ⟨g, 0, none⟩) n c) xs := by
  subst hl
  exact byteRow_owns h.row hb

abbrev lows (F pat k : Nat) (xs : List Nat) : List Nat := flip (fun j => j) F pat k xs
abbrev highs (F pat k : Nat) (xs : List Nat) : List Nat := flip (fun j => 7 - j) F pat k xs

/-- The two rows behind k bits. -/
abbrev rows2 (gc cc gd cd : Nat) (F pat k : Nat) (xs : List Nat) : List Thing := [rowC gd xs.length cd (highs F pat k xs), rowC gc xs.length cc (lows F pat k xs)]

theorem pow_low (j : Nat) (h : j < 8) : 2 ^ j < 256 := Nat.pow_lt_pow_right (by omega) (show j < 8 from h)

theorem mem_of_getD {l : List Nat} (h : ∀ i, l.getD i 0 < 256) : ∀ x ∈ l, x < 256 := by
  intro x hx
  obtain ⟨i, hi, rfl⟩ := List.getElem_of_mem hx
  have := h i
  rwa [getD_in _ _ hi] at this

theorem getD_of_mem {l : List Nat} (h : ∀ x ∈ l, x < 256) (i : Nat) : l.getD i 0 < 256 := by
  by_cases c : i < l.length
  · rw [getD_in _ _ c]; exact h _ (List.getElem_mem c)
  · rw [getD_out _ _ (by omega)]; omega

-- MARK
set_option maxRecDepth 100000 in
set_option maxHeartbeats 4000000 in
theorem walkPos (w : World) (v : Value) (xs : List Nat) (hb : ByteRow w v xs) (at_ : Int) (pat : Nat) (hpat : pat < 4294967296) (h5 : xs.length ≤ 5000) (h0 : 0 < xs.length) (F : Nat) (hF : F < 8 * xs.length) (ht : Int.tmod at_ (8 * (xs.length : Int)) = (F : Int)) :
    Calls Try.prog 5 #[v, .int .i64 at_, .int .u32 (pat : Int)] w fun e w' => e = .returned (.bool true) ∧ Below w.heap.size w w' := by
  have hbyte := hb.byte
  obtain ⟨a, cap, rfl, hc, -⟩ := id hb
  have hl : xs.length ≤ 140737488355328 := by omega
  have hdA : decide ((5000 : Int) < (xs.length : Int)) = false := by simp; omega
  have hdB : ((xs.length : Int) == 0) = false := by rw [beq_eq_false_iff_ne]; omega
  have HB := Lib.hid hb
  have HY := Lib.hid hbyte
  clear hb hbyte
  go_enter Try.func5, Try.ntmps5
  go_wp2_with (at_builtin; refine wpList_copy rfl _ _ rfl (St.start w) HB.out rfl rfl hl ?_)
  intro v1 w1 s1
  obtain ⟨gc, cc, rfl, hcc⟩ := s1.rowShape h0
  go_wp2_with (at_builtin; refine wpList_copy rfl _ _ rfl s1 (HB.out.below (s1.below (Nat.le_refl _)) (Nat.le_refl _)) rfl rfl hl ?_)
  intro v2 w2 s2
  obtain ⟨gd, cd, rfl, hcd⟩ := s2.rowShape h0
  have s3 : St w.heap.size w w2 (rows2 gc cc gd cd F pat 0 xs) := s2
  have ne := rowC_apart s3
  have ne' : gc ≠ gd := fun e => ne e.symm
  clear s1 s2
  go_wp2
  go_loopw [11, 12] (fun u i wr => ∃ k : Nat, k ≤ 32 ∧ F + k ≤ 8 * xs.length ∧ i = .int .i64 (k : Int) ∧ u = .bool (anyBit pat k) ∧ St w.heap.size w wr (rows2 gc cc gd cd F pat k xs)) (fun _ i _ => 32 - (intOf i).toNat)
  case atStart => exact ⟨0, by omega, by omega, rfl, rfl, s3⟩
  case round =>
    obtain ⟨k, hk, hFk, rfl, rfl, t1⟩ := hrel
    clear s3
    by_cases hgo : k < 32 ∧ F + k < 8 * xs.length
    · obtain ⟨hk32, hlt⟩ := hgo
      have hdC : decide ((k : Int) < 32) = true := by simp; omega
      have hdD : decide ((F : Int) + (k : Int) < 8 * (xs.length : Int)) = true := by simp; omega
      have hc1 : bits .and .u32 ((pat : Int) / 2 ^ k) 1 = ((pat / 2 ^ k % 2 : Nat) : Int) := by
        have e : ((pat : Int) / 2 ^ k) = ((pat / 2 ^ k : Nat) : Int) := by simp
        rw [e]
        exact and1_u32 _ (Nat.lt_of_le_of_lt (Nat.div_le_self _ _) hpat)
      by_cases hbit : pat.testBit k = true
      · have hm : pat / 2 ^ k % 2 = 1 := by rw [Nat.testBit_eq_decide_div_mod_eq] at hbit; simpa using hbit
        rw [hm] at hc1
        have t2 : ∀ y z, (lows F pat k xs).getD ((F + k) / 8) 0 = y → (highs F pat k xs).getD ((F + k) / 8) 0 = z → St w.heap.size w ((((wr.setCell ⟨gc, (F + k) / 8, none⟩ (.int .u8 ((y ^^^ 2 ^ ((F + k) % 8) : Nat) : Int)))).setCell ⟨gd, (F + k) / 8, none⟩ (.int .u8 ((z ^^^ 2 ^ (7 - (F + k) % 8) : Nat) : Int))).drew.drew) (rows2 gc cc gd cd F pat (k + 1) xs) := by
          rintro y z rfl rfl
          have u1 := rowC_put t1.swap ((F + k) / 8) ((lows F pat k xs).getD ((F + k) / 8) 0 ^^^ 2 ^ ((F + k) % 8))
          have u2 := (rowC_put u1.swap ((F + k) / 8) ((highs F pat k xs).getD ((F + k) / 8) 0 ^^^ 2 ^ (7 - (F + k) % 8))).drew.drew
          unfold rows2 lows highs
          rw [Crc.flip, Crc.flip, if_pos hbit, if_pos hbit]
          exact u2
        obtain ⟨d1, g1⟩ := rowC_cell t1 ((F + k) / 8) (flip_length _ _ _ _ _) (by omega)
        obtain ⟨c1, f1⟩ := rowC_cell t1.swap ((F + k) / 8) (flip_length _ _ _ _ _) (by omega)
        have hy := flip_byte (fun j => j) (fun _ h => h) F pat k xs (getD_of_mem HY.out) ((F + k) / 8)
        have hz := flip_byte (fun j => 7 - j) (fun _ h => by omega) F pat k xs (getD_of_mem HY.out) ((F + k) / 8)
        obtain ⟨y, ey⟩ : ∃ y, (lows F pat k xs).getD ((F + k) / 8) 0 = y := ⟨_, rfl⟩
        obtain ⟨z, ez⟩ : ∃ z, (highs F pat k xs).getD ((F + k) / 8) 0 = z := ⟨_, rfl⟩
        have t3 := t2 y z ey ez
        rw [ey] at c1 hy
        rw [ez] at d1 hz
        have hj : (F + k) % 8 < 8 := Nat.mod_lt _ (by omega)
        have hq : (F + k) / 8 < xs.length := by omega
        have eq1 : ((F : Int) + (k : Int)) / 8 = (((F + k) / 8 : Nat) : Int) := by omega
        have ej1 : ((F : Int) + (k : Int)) % 8 = (((F + k) % 8 : Nat) : Int) := by omega
        clear t1 t2 ey ez hm
        generalize (F + k) / 8 = q at t3 c1 d1 f1 g1 hq eq1
        generalize (F + k) % 8 = j at t3 hj ej1
        have x1 := u8_xor_nat y (2 ^ j) hy (pow_low j hj)
        have x2 := u8_xor_nat z (2 ^ (7 - j)) hz (pow_low (7 - j) (by omega))
        have x3 : (2 : Int) ^ j % 256 = ((2 ^ j : Nat) : Int) := by
          have h1 := pow_low j hj
          have e : (2 : Int) ^ j = ((2 ^ j : Nat) : Int) := by simp
          rw [e]
          generalize 2 ^ j = b at h1
          omega
        have x4 : (128 : Int) / 2 ^ j = ((2 ^ (7 - j) : Nat) : Int) := by
          have e : (2 : Nat) ^ 7 = 2 ^ j * 2 ^ (7 - j) := by rw [← Nat.pow_add, show j + (7 - j) = 7 from by omega]
          have e2 : (128 : Nat) / 2 ^ j = 2 ^ (7 - j) := by rw [show (128 : Nat) = 2 ^ 7 from rfl, e, Nat.mul_div_cancel_left _ (Nat.two_pow_pos j)]
          rw [← e2]; simp
        generalize 2 ^ j = a1 at x1 x3 t3
        generalize 2 ^ (7 - j) = a2 at x2 x4 t3
        generalize y ^^^ a1 = y2 at x1 t3
        generalize z ^^^ a2 = z2 at x2 t3
        have ha : anyBit pat (k + 1) = true := by rw [anyBit, hbit]; simp
        have HT := Lib.hid (And.intro t3 ha)
        clear t3 ha
        go_wp2
        go_region
        go_wp2
        go_region
        go_wp2
        refine ⟨⟨k + 1, by omega, by omega, by go_num, by rw [HT.out.2], HT.out.1⟩, by simp [intOf]; omega⟩
      · have hm : pat / 2 ^ k % 2 = 0 := by
          rw [Nat.testBit_eq_decide_div_mod_eq] at hbit
          have := of_decide_eq_false (by simpa using hbit : decide (pat / 2 ^ k % 2 = 1) = false)
          omega
        rw [hm] at hc1
        have t2 : St w.heap.size w wr (rows2 gc cc gd cd F pat (k + 1) xs) := by
          unfold rows2 lows highs
          rw [Crc.flip, Crc.flip, if_neg hbit, if_neg hbit]
          exact t1
        have ha : anyBit pat (k + 1) = anyBit pat k := by rw [anyBit]; simp [hbit]
        have HT := Lib.hid (And.intro t2 ha)
        clear t1 t2 ha
        go_wp2
        refine ⟨⟨k + 1, by omega, by omega, by go_num, by rw [HT.out.2], HT.out.1⟩, by simp [intOf]; omega⟩
    · by_cases hk32 : k < 32
      · have hdC : decide ((k : Int) < 32) = true := by simp; omega
        have hdD : decide ((F : Int) + (k : Int) < 8 * (xs.length : Int)) = false := by simp; omega
        have hlow : ((lowSum xs : Int) == (lowSum (lows F pat k xs) : Int)) = !(anyBit pat k) := by
          have h := low_burst F pat k hk xs hFk
          cases hu : anyBit pat k
          · rw [show lowSum xs = lowSum (lows F pat k xs) from h.2 hu]; simp
          · have hn : lowSum xs ≠ lowSum (lows F pat k xs) := fun e => by rw [h.1 e] at hu; cases hu
            rw [Bool.not_true, beq_eq_false_iff_ne]
            omega
        have hhigh : ((highSum xs : Int) == (highSum (highs F pat k xs) : Int)) = !(anyBit pat k) := by
          have h := high_burst F pat k hk xs hFk
          cases hu : anyBit pat k
          · rw [show highSum xs = highSum (highs F pat k xs) from h.2 hu]; simp
          · have hn : highSum xs ≠ highSum (highs F pat k xs) := fun e => by rw [h.1 e] at hu; cases hu
            rw [Bool.not_true, beq_eq_false_iff_ne]
            omega
        have bl : ∀ x ∈ lows F pat k xs, x < 256 := mem_of_getD (flip_byte (fun j => j) (fun _ h => h) F pat k xs (getD_of_mem HY.out))
        have bh : ∀ x ∈ highs F pat k xs, x < 256 := mem_of_getD (flip_byte (fun j => 7 - j) (fun _ h => by omega) F pat k xs (getD_of_mem HY.out))
        have ll : (lows F pat k xs).length = xs.length := flip_length _ _ _ _ _
        have lh : (highs F pat k xs).length = xs.length := flip_length _ _ _ _ _
        unfold rows2 at t1
        generalize lows F pat k xs = ys at hlow bl ll t1
        generalize highs F pat k xs = zs at hhigh bh lh t1
        generalize anyBit pat k = u at hlow hhigh
        have HP := Lib.hid (And.intro bl (And.intro bh (And.intro ll lh)))
        clear bl bh ll lh
        have hw : ∀ {w' : World} {r : List Thing}, St w.heap.size w w' r → ByteRow w' _ xs := fun {_} {_} st => HB.out.below (st.below (Nat.le_refl _)) (Nat.le_refl _)
        cases u
        · rw [Bool.not_false, beq_iff_eq] at hlow hhigh
          go_wp2_with fail
          refine (low_st t1 (hw t1) hl).mono ?_
          rintro e w5 ⟨rfl, t2, -⟩
          clear t1
          go_wp2_with fail
          refine (low_st t2 (rowC_bytes t2.swap HP.out.2.2.1 HP.out.1) (by rw [HP.out.2.2.1]; exact hl)).mono ?_
          rintro e w6 ⟨rfl, t3, -⟩
          clear t2
          go_wp2_with fail
          refine (high_st t3 (hw t3) hl).mono ?_
          rintro e w7 ⟨rfl, t4, -⟩
          clear t3
          go_wp2_with fail
          refine (high_st t4 (rowC_bytes t4 HP.out.2.2.2 HP.out.2.1) (by rw [HP.out.2.2.2]; exact hl)).mono ?_
          rintro e w8 ⟨rfl, t5, -⟩
          clear t4
          go_wp2_with fail
          refine (sums_st t5).mono ?_
          rintro e w9 ⟨rfl, t6⟩
          clear t5
          go_wp2
          go_ret
          exact ⟨rfl, t6.below (Nat.le_refl _)⟩
        · rw [Bool.not_true, beq_eq_false_iff_ne] at hlow hhigh
          go_wp2_with fail
          refine (low_st t1 (hw t1) hl).mono ?_
          rintro e w5 ⟨rfl, t2, -⟩
          clear t1
          go_wp2_with fail
          refine (low_st t2 (rowC_bytes t2.swap HP.out.2.2.1 HP.out.1) (by rw [HP.out.2.2.1]; exact hl)).mono ?_
          rintro e w6 ⟨rfl, t3, -⟩
          clear t2
          go_wp2_with fail
          refine (high_st t3 (hw t3) hl).mono ?_
          rintro e w7 ⟨rfl, t4, -⟩
          clear t3
          go_wp2_with fail
          refine (high_st t4 (rowC_bytes t4 HP.out.2.2.2 HP.out.2.1) (by rw [HP.out.2.2.2]; exact hl)).mono ?_
          rintro e w8 ⟨rfl, t5, -⟩
          clear t4
          go_wp2_with fail
          refine (sums_st t5).mono ?_
          rintro e w9 ⟨rfl, t6⟩
          clear t5
          go_wp2
          go_ret
          refine ⟨?_, t6.below (Nat.le_refl _)⟩
          show Ending.returned (.bool ((lowSum xs : Int) != (lowSum ys : Int) && (highSum xs : Int) != (highSum zs : Int))) = _
          rw [show ((lowSum xs : Int) != (lowSum ys : Int)) = true from bne_iff_ne.2 hlow, show ((highSum xs : Int) != (highSum zs : Int)) = true from bne_iff_ne.2 hhigh]
          rfl
      · have hdC : decide ((k : Int) < 32) = false := by simp; omega
        have hlow : ((lowSum xs : Int) == (lowSum (lows F pat k xs) : Int)) = !(anyBit pat k) := by
          have h := low_burst F pat k hk xs hFk
          cases hu : anyBit pat k
          · rw [show lowSum xs = lowSum (lows F pat k xs) from h.2 hu]; simp
          · have hn : lowSum xs ≠ lowSum (lows F pat k xs) := fun e => by rw [h.1 e] at hu; cases hu
            rw [Bool.not_true, beq_eq_false_iff_ne]
            omega
        have hhigh : ((highSum xs : Int) == (highSum (highs F pat k xs) : Int)) = !(anyBit pat k) := by
          have h := high_burst F pat k hk xs hFk
          cases hu : anyBit pat k
          · rw [show highSum xs = highSum (highs F pat k xs) from h.2 hu]; simp
          · have hn : highSum xs ≠ highSum (highs F pat k xs) := fun e => by rw [h.1 e] at hu; cases hu
            rw [Bool.not_true, beq_eq_false_iff_ne]
            omega
        have bl : ∀ x ∈ lows F pat k xs, x < 256 := mem_of_getD (flip_byte (fun j => j) (fun _ h => h) F pat k xs (getD_of_mem HY.out))
        have bh : ∀ x ∈ highs F pat k xs, x < 256 := mem_of_getD (flip_byte (fun j => 7 - j) (fun _ h => by omega) F pat k xs (getD_of_mem HY.out))
        have ll : (lows F pat k xs).length = xs.length := flip_length _ _ _ _ _
        have lh : (highs F pat k xs).length = xs.length := flip_length _ _ _ _ _
        unfold rows2 at t1
        generalize lows F pat k xs = ys at hlow bl ll t1
        generalize highs F pat k xs = zs at hhigh bh lh t1
        generalize anyBit pat k = u at hlow hhigh
        have HP := Lib.hid (And.intro bl (And.intro bh (And.intro ll lh)))
        clear bl bh ll lh
        have hw : ∀ {w' : World} {r : List Thing}, St w.heap.size w w' r → ByteRow w' _ xs := fun {_} {_} st => HB.out.below (st.below (Nat.le_refl _)) (Nat.le_refl _)
        cases u
        · rw [Bool.not_false, beq_iff_eq] at hlow hhigh
          go_wp2_with fail
          refine (low_st t1 (hw t1) hl).mono ?_
          rintro e w5 ⟨rfl, t2, -⟩
          clear t1
          go_wp2_with fail
          refine (low_st t2 (rowC_bytes t2.swap HP.out.2.2.1 HP.out.1) (by rw [HP.out.2.2.1]; exact hl)).mono ?_
          rintro e w6 ⟨rfl, t3, -⟩
          clear t2
          go_wp2_with fail
          refine (high_st t3 (hw t3) hl).mono ?_
          rintro e w7 ⟨rfl, t4, -⟩
          clear t3
          go_wp2_with fail
          refine (high_st t4 (rowC_bytes t4 HP.out.2.2.2 HP.out.2.1) (by rw [HP.out.2.2.2]; exact hl)).mono ?_
          rintro e w8 ⟨rfl, t5, -⟩
          clear t4
          go_wp2_with fail
          refine (sums_st t5).mono ?_
          rintro e w9 ⟨rfl, t6⟩
          clear t5
          go_wp2
          go_ret
          exact ⟨rfl, t6.below (Nat.le_refl _)⟩
        · rw [Bool.not_true, beq_eq_false_iff_ne] at hlow hhigh
          go_wp2_with fail
          refine (low_st t1 (hw t1) hl).mono ?_
          rintro e w5 ⟨rfl, t2, -⟩
          clear t1
          go_wp2_with fail
          refine (low_st t2 (rowC_bytes t2.swap HP.out.2.2.1 HP.out.1) (by rw [HP.out.2.2.1]; exact hl)).mono ?_
          rintro e w6 ⟨rfl, t3, -⟩
          clear t2
          go_wp2_with fail
          refine (high_st t3 (hw t3) hl).mono ?_
          rintro e w7 ⟨rfl, t4, -⟩
          clear t3
          go_wp2_with fail
          refine (high_st t4 (rowC_bytes t4 HP.out.2.2.2 HP.out.2.1) (by rw [HP.out.2.2.2]; exact hl)).mono ?_
          rintro e w8 ⟨rfl, t5, -⟩
          clear t4
          go_wp2_with fail
          refine (sums_st t5).mono ?_
          rintro e w9 ⟨rfl, t6⟩
          clear t5
          go_wp2
          go_ret
          refine ⟨?_, t6.below (Nat.le_refl _)⟩
          show Ending.returned (.bool ((lowSum xs : Int) != (lowSum ys : Int) && (highSum xs : Int) != (highSum zs : Int))) = _
          rw [show ((lowSum xs : Int) != (lowSum ys : Int)) = true from bne_iff_ne.2 hlow, show ((highSum xs : Int) != (highSum zs : Int)) = true from bne_iff_ne.2 hhigh]
          rfl


set_option maxRecDepth 100000 in
set_option maxHeartbeats 4000000 in
theorem walkNeg (w : World) (v : Value) (xs : List Nat) (hb : ByteRow w v xs) (at_ : Int) (pat : Nat) (hpat : pat < 4294967296) (h5 : xs.length ≤ 5000) (h0 : 0 < xs.length) (F : Nat) (hF : F < 8 * xs.length) (t : Int) (ht : Int.tmod at_ (8 * (xs.length : Int)) = t) (d1 : decide (t < 0) = true) (e1 : t + 8 * (xs.length : Int) = (F : Int)) :
    Calls Try.prog 5 #[v, .int .i64 at_, .int .u32 (pat : Int)] w fun e w' => e = .returned (.bool true) ∧ Below w.heap.size w w' := by
  have hbyte := hb.byte
  obtain ⟨a, cap, rfl, hc, -⟩ := id hb
  have hl : xs.length ≤ 140737488355328 := by omega
  have hdA : decide ((5000 : Int) < (xs.length : Int)) = false := by simp; omega
  have hdB : ((xs.length : Int) == 0) = false := by rw [beq_eq_false_iff_ne]; omega
  have HB := Lib.hid hb
  have HY := Lib.hid hbyte
  clear hb hbyte
  go_enter Try.func5, Try.ntmps5
  go_wp2_with (at_builtin; refine wpList_copy rfl _ _ rfl (St.start w) HB.out rfl rfl hl ?_)
  intro v1 w1 s1
  obtain ⟨gc, cc, rfl, hcc⟩ := s1.rowShape h0
  go_wp2_with (at_builtin; refine wpList_copy rfl _ _ rfl s1 (HB.out.below (s1.below (Nat.le_refl _)) (Nat.le_refl _)) rfl rfl hl ?_)
  intro v2 w2 s2
  obtain ⟨gd, cd, rfl, hcd⟩ := s2.rowShape h0
  have s3 : St w.heap.size w w2 (rows2 gc cc gd cd F pat 0 xs) := s2
  have ne := rowC_apart s3
  have ne' : gc ≠ gd := fun e => ne e.symm
  clear s1 s2
  go_wp2
  go_loopw [11, 12] (fun u i wr => ∃ k : Nat, k ≤ 32 ∧ F + k ≤ 8 * xs.length ∧ i = .int .i64 (k : Int) ∧ u = .bool (anyBit pat k) ∧ St w.heap.size w wr (rows2 gc cc gd cd F pat k xs)) (fun _ i _ => 32 - (intOf i).toNat)
  case atStart => exact ⟨0, by omega, by omega, rfl, rfl, s3⟩
  case round =>
    obtain ⟨k, hk, hFk, rfl, rfl, t1⟩ := hrel
    clear s3
    by_cases hgo : k < 32 ∧ F + k < 8 * xs.length
    · obtain ⟨hk32, hlt⟩ := hgo
      have hdC : decide ((k : Int) < 32) = true := by simp; omega
      have hdD : decide ((F : Int) + (k : Int) < 8 * (xs.length : Int)) = true := by simp; omega
      have hc1 : bits .and .u32 ((pat : Int) / 2 ^ k) 1 = ((pat / 2 ^ k % 2 : Nat) : Int) := by
        have e : ((pat : Int) / 2 ^ k) = ((pat / 2 ^ k : Nat) : Int) := by simp
        rw [e]
        exact and1_u32 _ (Nat.lt_of_le_of_lt (Nat.div_le_self _ _) hpat)
      by_cases hbit : pat.testBit k = true
      · have hm : pat / 2 ^ k % 2 = 1 := by rw [Nat.testBit_eq_decide_div_mod_eq] at hbit; simpa using hbit
        rw [hm] at hc1
        have t2 : ∀ y z, (lows F pat k xs).getD ((F + k) / 8) 0 = y → (highs F pat k xs).getD ((F + k) / 8) 0 = z → St w.heap.size w ((((wr.setCell ⟨gc, (F + k) / 8, none⟩ (.int .u8 ((y ^^^ 2 ^ ((F + k) % 8) : Nat) : Int)))).setCell ⟨gd, (F + k) / 8, none⟩ (.int .u8 ((z ^^^ 2 ^ (7 - (F + k) % 8) : Nat) : Int))).drew.drew) (rows2 gc cc gd cd F pat (k + 1) xs) := by
          rintro y z rfl rfl
          have u1 := rowC_put t1.swap ((F + k) / 8) ((lows F pat k xs).getD ((F + k) / 8) 0 ^^^ 2 ^ ((F + k) % 8))
          have u2 := (rowC_put u1.swap ((F + k) / 8) ((highs F pat k xs).getD ((F + k) / 8) 0 ^^^ 2 ^ (7 - (F + k) % 8))).drew.drew
          unfold rows2 lows highs
          rw [Crc.flip, Crc.flip, if_pos hbit, if_pos hbit]
          exact u2
        obtain ⟨d1, g1⟩ := rowC_cell t1 ((F + k) / 8) (flip_length _ _ _ _ _) (by omega)
        obtain ⟨c1, f1⟩ := rowC_cell t1.swap ((F + k) / 8) (flip_length _ _ _ _ _) (by omega)
        have hy := flip_byte (fun j => j) (fun _ h => h) F pat k xs (getD_of_mem HY.out) ((F + k) / 8)
        have hz := flip_byte (fun j => 7 - j) (fun _ h => by omega) F pat k xs (getD_of_mem HY.out) ((F + k) / 8)
        obtain ⟨y, ey⟩ : ∃ y, (lows F pat k xs).getD ((F + k) / 8) 0 = y := ⟨_, rfl⟩
        obtain ⟨z, ez⟩ : ∃ z, (highs F pat k xs).getD ((F + k) / 8) 0 = z := ⟨_, rfl⟩
        have t3 := t2 y z ey ez
        rw [ey] at c1 hy
        rw [ez] at d1 hz
        have hj : (F + k) % 8 < 8 := Nat.mod_lt _ (by omega)
        have hq : (F + k) / 8 < xs.length := by omega
        have eq1 : ((F : Int) + (k : Int)) / 8 = (((F + k) / 8 : Nat) : Int) := by omega
        have ej1 : ((F : Int) + (k : Int)) % 8 = (((F + k) % 8 : Nat) : Int) := by omega
        clear t1 t2 ey ez hm
        generalize (F + k) / 8 = q at t3 c1 d1 f1 g1 hq eq1
        generalize (F + k) % 8 = j at t3 hj ej1
        have x1 := u8_xor_nat y (2 ^ j) hy (pow_low j hj)
        have x2 := u8_xor_nat z (2 ^ (7 - j)) hz (pow_low (7 - j) (by omega))
        have x3 : (2 : Int) ^ j % 256 = ((2 ^ j : Nat) : Int) := by
          have h1 := pow_low j hj
          have e : (2 : Int) ^ j = ((2 ^ j : Nat) : Int) := by simp
          rw [e]
          generalize 2 ^ j = b at h1
          omega
        have x4 : (128 : Int) / 2 ^ j = ((2 ^ (7 - j) : Nat) : Int) := by
          have e : (2 : Nat) ^ 7 = 2 ^ j * 2 ^ (7 - j) := by rw [← Nat.pow_add, show j + (7 - j) = 7 from by omega]
          have e2 : (128 : Nat) / 2 ^ j = 2 ^ (7 - j) := by rw [show (128 : Nat) = 2 ^ 7 from rfl, e, Nat.mul_div_cancel_left _ (Nat.two_pow_pos j)]
          rw [← e2]; simp
        generalize 2 ^ j = a1 at x1 x3 t3
        generalize 2 ^ (7 - j) = a2 at x2 x4 t3
        generalize y ^^^ a1 = y2 at x1 t3
        generalize z ^^^ a2 = z2 at x2 t3
        have ha : anyBit pat (k + 1) = true := by rw [anyBit, hbit]; simp
        have HT := Lib.hid (And.intro t3 ha)
        clear t3 ha
        go_wp2
        go_region
        go_wp2
        go_region
        go_wp2
        refine ⟨⟨k + 1, by omega, by omega, by go_num, by rw [HT.out.2], HT.out.1⟩, by simp [intOf]; omega⟩
      · have hm : pat / 2 ^ k % 2 = 0 := by
          rw [Nat.testBit_eq_decide_div_mod_eq] at hbit
          have := of_decide_eq_false (by simpa using hbit : decide (pat / 2 ^ k % 2 = 1) = false)
          omega
        rw [hm] at hc1
        have t2 : St w.heap.size w wr (rows2 gc cc gd cd F pat (k + 1) xs) := by
          unfold rows2 lows highs
          rw [Crc.flip, Crc.flip, if_neg hbit, if_neg hbit]
          exact t1
        have ha : anyBit pat (k + 1) = anyBit pat k := by rw [anyBit]; simp [hbit]
        have HT := Lib.hid (And.intro t2 ha)
        clear t1 t2 ha
        go_wp2
        refine ⟨⟨k + 1, by omega, by omega, by go_num, by rw [HT.out.2], HT.out.1⟩, by simp [intOf]; omega⟩
    · by_cases hk32 : k < 32
      · have hdC : decide ((k : Int) < 32) = true := by simp; omega
        have hdD : decide ((F : Int) + (k : Int) < 8 * (xs.length : Int)) = false := by simp; omega
        have hlow : ((lowSum xs : Int) == (lowSum (lows F pat k xs) : Int)) = !(anyBit pat k) := by
          have h := low_burst F pat k hk xs hFk
          cases hu : anyBit pat k
          · rw [show lowSum xs = lowSum (lows F pat k xs) from h.2 hu]; simp
          · have hn : lowSum xs ≠ lowSum (lows F pat k xs) := fun e => by rw [h.1 e] at hu; cases hu
            rw [Bool.not_true, beq_eq_false_iff_ne]
            omega
        have hhigh : ((highSum xs : Int) == (highSum (highs F pat k xs) : Int)) = !(anyBit pat k) := by
          have h := high_burst F pat k hk xs hFk
          cases hu : anyBit pat k
          · rw [show highSum xs = highSum (highs F pat k xs) from h.2 hu]; simp
          · have hn : highSum xs ≠ highSum (highs F pat k xs) := fun e => by rw [h.1 e] at hu; cases hu
            rw [Bool.not_true, beq_eq_false_iff_ne]
            omega
        have bl : ∀ x ∈ lows F pat k xs, x < 256 := mem_of_getD (flip_byte (fun j => j) (fun _ h => h) F pat k xs (getD_of_mem HY.out))
        have bh : ∀ x ∈ highs F pat k xs, x < 256 := mem_of_getD (flip_byte (fun j => 7 - j) (fun _ h => by omega) F pat k xs (getD_of_mem HY.out))
        have ll : (lows F pat k xs).length = xs.length := flip_length _ _ _ _ _
        have lh : (highs F pat k xs).length = xs.length := flip_length _ _ _ _ _
        unfold rows2 at t1
        generalize lows F pat k xs = ys at hlow bl ll t1
        generalize highs F pat k xs = zs at hhigh bh lh t1
        generalize anyBit pat k = u at hlow hhigh
        have HP := Lib.hid (And.intro bl (And.intro bh (And.intro ll lh)))
        clear bl bh ll lh
        have hw : ∀ {w' : World} {r : List Thing}, St w.heap.size w w' r → ByteRow w' _ xs := fun {_} {_} st => HB.out.below (st.below (Nat.le_refl _)) (Nat.le_refl _)
        cases u
        · rw [Bool.not_false, beq_iff_eq] at hlow hhigh
          go_wp2_with fail
          refine (low_st t1 (hw t1) hl).mono ?_
          rintro e w5 ⟨rfl, t2, -⟩
          clear t1
          go_wp2_with fail
          refine (low_st t2 (rowC_bytes t2.swap HP.out.2.2.1 HP.out.1) (by rw [HP.out.2.2.1]; exact hl)).mono ?_
          rintro e w6 ⟨rfl, t3, -⟩
          clear t2
          go_wp2_with fail
          refine (high_st t3 (hw t3) hl).mono ?_
          rintro e w7 ⟨rfl, t4, -⟩
          clear t3
          go_wp2_with fail
          refine (high_st t4 (rowC_bytes t4 HP.out.2.2.2 HP.out.2.1) (by rw [HP.out.2.2.2]; exact hl)).mono ?_
          rintro e w8 ⟨rfl, t5, -⟩
          clear t4
          go_wp2_with fail
          refine (sums_st t5).mono ?_
          rintro e w9 ⟨rfl, t6⟩
          clear t5
          go_wp2
          go_ret
          exact ⟨rfl, t6.below (Nat.le_refl _)⟩
        · rw [Bool.not_true, beq_eq_false_iff_ne] at hlow hhigh
          go_wp2_with fail
          refine (low_st t1 (hw t1) hl).mono ?_
          rintro e w5 ⟨rfl, t2, -⟩
          clear t1
          go_wp2_with fail
          refine (low_st t2 (rowC_bytes t2.swap HP.out.2.2.1 HP.out.1) (by rw [HP.out.2.2.1]; exact hl)).mono ?_
          rintro e w6 ⟨rfl, t3, -⟩
          clear t2
          go_wp2_with fail
          refine (high_st t3 (hw t3) hl).mono ?_
          rintro e w7 ⟨rfl, t4, -⟩
          clear t3
          go_wp2_with fail
          refine (high_st t4 (rowC_bytes t4 HP.out.2.2.2 HP.out.2.1) (by rw [HP.out.2.2.2]; exact hl)).mono ?_
          rintro e w8 ⟨rfl, t5, -⟩
          clear t4
          go_wp2_with fail
          refine (sums_st t5).mono ?_
          rintro e w9 ⟨rfl, t6⟩
          clear t5
          go_wp2
          go_ret
          refine ⟨?_, t6.below (Nat.le_refl _)⟩
          show Ending.returned (.bool ((lowSum xs : Int) != (lowSum ys : Int) && (highSum xs : Int) != (highSum zs : Int))) = _
          rw [show ((lowSum xs : Int) != (lowSum ys : Int)) = true from bne_iff_ne.2 hlow, show ((highSum xs : Int) != (highSum zs : Int)) = true from bne_iff_ne.2 hhigh]
          rfl
      · have hdC : decide ((k : Int) < 32) = false := by simp; omega
        have hlow : ((lowSum xs : Int) == (lowSum (lows F pat k xs) : Int)) = !(anyBit pat k) := by
          have h := low_burst F pat k hk xs hFk
          cases hu : anyBit pat k
          · rw [show lowSum xs = lowSum (lows F pat k xs) from h.2 hu]; simp
          · have hn : lowSum xs ≠ lowSum (lows F pat k xs) := fun e => by rw [h.1 e] at hu; cases hu
            rw [Bool.not_true, beq_eq_false_iff_ne]
            omega
        have hhigh : ((highSum xs : Int) == (highSum (highs F pat k xs) : Int)) = !(anyBit pat k) := by
          have h := high_burst F pat k hk xs hFk
          cases hu : anyBit pat k
          · rw [show highSum xs = highSum (highs F pat k xs) from h.2 hu]; simp
          · have hn : highSum xs ≠ highSum (highs F pat k xs) := fun e => by rw [h.1 e] at hu; cases hu
            rw [Bool.not_true, beq_eq_false_iff_ne]
            omega
        have bl : ∀ x ∈ lows F pat k xs, x < 256 := mem_of_getD (flip_byte (fun j => j) (fun _ h => h) F pat k xs (getD_of_mem HY.out))
        have bh : ∀ x ∈ highs F pat k xs, x < 256 := mem_of_getD (flip_byte (fun j => 7 - j) (fun _ h => by omega) F pat k xs (getD_of_mem HY.out))
        have ll : (lows F pat k xs).length = xs.length := flip_length _ _ _ _ _
        have lh : (highs F pat k xs).length = xs.length := flip_length _ _ _ _ _
        unfold rows2 at t1
        generalize lows F pat k xs = ys at hlow bl ll t1
        generalize highs F pat k xs = zs at hhigh bh lh t1
        generalize anyBit pat k = u at hlow hhigh
        have HP := Lib.hid (And.intro bl (And.intro bh (And.intro ll lh)))
        clear bl bh ll lh
        have hw : ∀ {w' : World} {r : List Thing}, St w.heap.size w w' r → ByteRow w' _ xs := fun {_} {_} st => HB.out.below (st.below (Nat.le_refl _)) (Nat.le_refl _)
        cases u
        · rw [Bool.not_false, beq_iff_eq] at hlow hhigh
          go_wp2_with fail
          refine (low_st t1 (hw t1) hl).mono ?_
          rintro e w5 ⟨rfl, t2, -⟩
          clear t1
          go_wp2_with fail
          refine (low_st t2 (rowC_bytes t2.swap HP.out.2.2.1 HP.out.1) (by rw [HP.out.2.2.1]; exact hl)).mono ?_
          rintro e w6 ⟨rfl, t3, -⟩
          clear t2
          go_wp2_with fail
          refine (high_st t3 (hw t3) hl).mono ?_
          rintro e w7 ⟨rfl, t4, -⟩
          clear t3
          go_wp2_with fail
          refine (high_st t4 (rowC_bytes t4 HP.out.2.2.2 HP.out.2.1) (by rw [HP.out.2.2.2]; exact hl)).mono ?_
          rintro e w8 ⟨rfl, t5, -⟩
          clear t4
          go_wp2_with fail
          refine (sums_st t5).mono ?_
          rintro e w9 ⟨rfl, t6⟩
          clear t5
          go_wp2
          go_ret
          exact ⟨rfl, t6.below (Nat.le_refl _)⟩
        · rw [Bool.not_true, beq_eq_false_iff_ne] at hlow hhigh
          go_wp2_with fail
          refine (low_st t1 (hw t1) hl).mono ?_
          rintro e w5 ⟨rfl, t2, -⟩
          clear t1
          go_wp2_with fail
          refine (low_st t2 (rowC_bytes t2.swap HP.out.2.2.1 HP.out.1) (by rw [HP.out.2.2.1]; exact hl)).mono ?_
          rintro e w6 ⟨rfl, t3, -⟩
          clear t2
          go_wp2_with fail
          refine (high_st t3 (hw t3) hl).mono ?_
          rintro e w7 ⟨rfl, t4, -⟩
          clear t3
          go_wp2_with fail
          refine (high_st t4 (rowC_bytes t4 HP.out.2.2.2 HP.out.2.1) (by rw [HP.out.2.2.2]; exact hl)).mono ?_
          rintro e w8 ⟨rfl, t5, -⟩
          clear t4
          go_wp2_with fail
          refine (sums_st t5).mono ?_
          rintro e w9 ⟨rfl, t6⟩
          clear t5
          go_wp2
          go_ret
          refine ⟨?_, t6.below (Nat.le_refl _)⟩
          show Ending.returned (.bool ((lowSum xs : Int) != (lowSum ys : Int) && (highSum xs : Int) != (highSum zs : Int))) = _
          rw [show ((lowSum xs : Int) != (lowSum ys : Int)) = true from bne_iff_ne.2 hlow, show ((highSum xs : Int) != (highSum zs : Int)) = true from bne_iff_ne.2 hhigh]
          rfl


set_option maxRecDepth 100000 in
theorem walkNone (w : World) (v : Value) (xs : List Nat) (hb : ByteRow w v xs) (at_ pat : Int) (hn : 5000 < xs.length ∨ xs.length = 0) :
    Calls Try.prog 5 #[v, .int .i64 at_, .int .u32 pat] w fun e w' => e = .returned (.bool true) ∧ Below w.heap.size w w' := by
  obtain ⟨a, cap, rfl, hc, -⟩ := hb
  by_cases c1 : 5000 < xs.length
  · have hdA : decide ((5000 : Int) < (xs.length : Int)) = true := by simp; omega
    go_enter Try.func5, Try.ntmps5
    go_wp2_with fail
    refine (sums_st (St.start w)).mono ?_
    rintro e w1 ⟨rfl, s1⟩
    go_wp2
    go_ret
    exact ⟨rfl, s1.below (Nat.le_refl _)⟩
  · have hdA : decide ((5000 : Int) < (xs.length : Int)) = false := by simp; omega
    have hdB : ((xs.length : Int) == 0) = true := by rw [beq_iff_eq]; omega
    go_enter Try.func5, Try.ntmps5
    go_wp2_with fail
    refine (sums_st (St.start w)).mono ?_
    rintro e w1 ⟨rfl, s1⟩
    go_wp2
    go_ret
    exact ⟨rfl, s1.below (Nat.le_refl _)⟩

theorem walk (w : World) (v : Value) (xs : List Nat) (hb : ByteRow w v xs) (at_ : Int) (_ : (Lit.int .i64 at_).wf = true) (p : Int) (hp : (Lit.int .u32 p).wf = true) :
    Calls Try.prog 5 #[v, .int .i64 at_, .int .u32 p] w fun e w' => e = .returned (.bool true) ∧ Below w.heap.size w w' := by
  by_cases hn : 5000 < xs.length ∨ xs.length = 0
  · exact walkNone w v xs hb at_ p hn
  · obtain ⟨pat, rfl, hpat⟩ := nat_of_u32 hp
    have h5 : xs.length ≤ 5000 := by omega
    have h0 : 0 < xs.length := by omega
    obtain ⟨t, ht⟩ : ∃ t, Int.tmod at_ (8 * (xs.length : Int)) = t := ⟨_, rfl⟩
    have b1 : t < 8 * (xs.length : Int) := by rw [← ht]; exact Int.tmod_lt_of_pos _ (by omega)
    have b2 : -(8 * (xs.length : Int)) < t := by
      have h := Int.tmod_lt_of_pos (-at_) (show 0 < 8 * (xs.length : Int) by omega)
      rw [Int.neg_tmod, ht] at h
      omega
    by_cases hneg : t < 0
    · obtain ⟨F, hF⟩ := Int.eq_ofNat_of_zero_le (show 0 ≤ t + 8 * (xs.length : Int) by omega)
      exact walkNeg w v xs hb at_ pat hpat h5 h0 F (by omega) t ht (by simpa using hneg) hF
    · obtain ⟨F, hF⟩ := Int.eq_ofNat_of_zero_le (show 0 ≤ t by omega)
      exact walkPos w v xs hb at_ pat hpat h5 h0 F (by omega) (by rw [ht, hF])

end Go.Proofs.Ytgnccnpmegekmaa.crcBurst
