/-
  Three rows of like length, added without carry: the walk of CrcThree. No conditions.
-/
import Derived.Test.YtgnccnpmegekmaaCrcN
namespace Go.Proofs.Ytgnccnpmegekmaa.crcThree
open Go.RowKit Go.Proofs.Ytgnccnpmegekmaa.Crc

def fz (xs ys zs : List Nat) (i : Nat) : Nat := xs.getD i 0 ^^^ ys.getD i 0 ^^^ zs.getD i 0

/-- The three rows, of which the first k bytes are said. -/
abbrev rows3 (gx gy gz : Nat) (xs ys zs : List Nat) (k : Nat) : List Thing :=
  [bytesT gz xs.length (fill (fz xs ys zs) xs.length k), bytesT gy xs.length (fill (fun i => zs.getD i 0) xs.length k), bytesT gx xs.length (fill (fun i => ys.getD i 0) xs.length k)]

theorem getD_byte (l : List Nat) (h : ∀ x ∈ l, x < 256) (i : Nat) : l.getD i 0 < 256 := by
  by_cases c : i < l.length
  · rw [getD_in _ _ c]; exact h _ (List.getElem_mem c)
  · rw [getD_out _ _ (by omega)]; omega

theorem padded_byte (l : List Nat) (n : Nat) (h : ∀ x ∈ l, x < 256) : ∀ x ∈ (List.range n).map (fun i => l.getD i 0), x < 256 := by
  intro x hx
  obtain ⟨i, _, rfl⟩ := List.mem_map.1 hx
  exact getD_byte l h i

theorem padded_add (xs ys zs : List Nat) : (List.range xs.length).map (fz xs ys zs) = addBytes (addBytes xs ((List.range xs.length).map fun i => ys.getD i 0)) ((List.range xs.length).map fun i => zs.getD i 0) := by
  unfold addBytes
  apply List.ext_getElem
  · simp
  intro i h1 h2
  have hi : i < xs.length := by simpa using h1
  simp only [List.getElem_zipWith, List.getElem_map, List.getElem_range]
  unfold fz
  rw [getD_in xs 0 hi]

theorem low_lt (xs : List Nat) : lowSum xs < 4294967296 := (lowReg _ ^^^ ones).isLt
theorem high_lt (xs : List Nat) : highSum xs < 4294967296 := (highReg _ ^^^ ones).isLt

theorem _root_.Go.Proofs.Ytgnccnpmegekmaa.St.bytesAt {B : Nat} {w0 w : World} {g n : Nat} {xs : List Nat} {r : List Thing} (h : St B w0 w (bytesT g n xs :: r)) (hl : xs.length = n) (hb : ∀ x ∈ xs, x < 256) : ByteRow w (.slice (some ⟨g, 0, none⟩) n n) xs := by
  subst hl
  exact byteRow_owns h.row hb

set_option maxRecDepth 100000 in
set_option maxHeartbeats 2000000 in
theorem walk (w : World) (va : Value) (xs : List Nat) (ha : ByteRow w va xs) (vb : Value) (ys : List Nat) (hb : ByteRow w vb ys) (vc : Value) (zs : List Nat) (hc : ByteRow w vc zs) :
    Calls Try.prog 7 #[va, vb, vc] w fun e w' => e = .returned (.bool true) ∧ Below w.heap.size w w' := by
  have abyte := ha.byte
  have bbyte := hb.byte
  have cbyte := hc.byte
  obtain ⟨aa, acap, rfl, ac, -, aat⟩ := id ha
  obtain ⟨ba, bcap, rfl, bc, -, bat⟩ := id hb
  obtain ⟨ca, ccap, rfl, cc, -, cat⟩ := id hc
  by_cases c1 : 5000 < xs.length
  · go_enter Try.func7, Try.ntmps7
    go_wp2
    go_ret
    exact ⟨rfl, Below.refl _ _⟩
  · have hl : xs.length ≤ 140737488355328 := by omega
    have HA := Lib.hid (And.intro ha aat)
    have HB := Lib.hid bat
    have HC := Lib.hid cat
    have HY := Lib.hid (And.intro abyte (And.intro bbyte cbyte))
    clear ha hb hc aat bat cat abyte bbyte cbyte
    obtain ⟨i0, hi, hz0, hz1, hz2⟩ := info_parts info8
    have hmk : i0.bytes * xs.length ≤ 281474976710656 := by rw [hz2]; omega
    have hmx : xs.length ≤ maxLen := by unfold maxLen; omega
    go_enter Try.func7, Try.ntmps7
    go_wp2_with (at_make; refine wpList_make_full _ rfl _ _ 22 rfl w.heap.size 5 i0 (.int .u8 0) 1 Try.underlying22 hi hz0 hz1 _ _ _ _ xs.length rfl rfl rfl rfl hmk hmx (Nat.le_refl _) ?_)
    intro w1 hown hgrow
    have s1 := (St.start w).made hown hgrow
    clear hown hgrow
    go_wp2_with (at_make; refine wpList_make_full _ rfl _ _ 22 rfl w1.heap.size 5 i0 (.int .u8 0) 1 Try.underlying22 hi hz0 hz1 _ _ _ _ xs.length rfl rfl rfl rfl hmk hmx (Nat.le_refl _) ?_)
    intro w2 hown hgrow
    have s2 := s1.made hown hgrow
    clear hown hgrow s1
    go_wp2_with (at_make; refine wpList_make_full _ rfl _ _ 22 rfl w2.heap.size 5 i0 (.int .u8 0) 1 Try.underlying22 hi hz0 hz1 _ _ _ _ xs.length rfl rfl rfl rfl hmk hmx (Nat.le_refl _) ?_)
    intro w3 hown hgrow
    have s3 := s2.made hown hgrow
    clear hown hgrow s2 hi hz0 hz1 hz2 hmk hmx
    obtain ⟨gy, hgy⟩ : ∃ g, g = w1.heap.size := ⟨_, rfl⟩
    obtain ⟨gz, hgz⟩ : ∃ g, g = w2.heap.size := ⟨_, rfl⟩
    rw [← hgy, ← hgz] at s3
    simp only [← hgy, ← hgz]
    clear hgy hgz
    have s4 : St w.heap.size w w3 (rows3 w.heap.size gy gz xs ys zs 0) := by
      unfold rows3
      rw [fill_zero, fill_zero, fill_zero]
      exact s3
    clear s3
    go_wp2
    go_loopw [10] (fun i wr => ∃ k : Nat, k ≤ xs.length ∧ i = .int .i64 (k : Int) ∧ St w.heap.size w wr (rows3 w.heap.size gy gz xs ys zs k)) (fun i _ => xs.length - (intOf i).toNat)
    case atStart => exact ⟨0, by omega, rfl, s4⟩
    case round =>
      obtain ⟨k, hk, rfl, t1⟩ := hrel
      clear s4
      by_cases hlt : k < xs.length
      · obtain ⟨hx, b0, off, rfl, d0⟩ := HA.out.2 k hlt
        have a1 := t1.apart
        have a2 := t1.third.apart
        have a3 := t1.swap.third.apart
        have a4 : gy ≠ gz := fun e => a1 e.symm
        have a5 : gz ≠ w.heap.size := fun e => a2 e.symm
        have a6 : gy ≠ w.heap.size := fun e => a3 e.symm
        have b5 := t1.inB
        have b6 := t1.swap.inB
        have l0 : b0 < w.heap.size := World.block_lt_of_cell? w _ d0
        have e0 := (t1.below (Nat.le_refl _)).cell (p := ⟨b0, off + k, none⟩) l0
        rw [d0] at e0
        have fx : xs.getD k 0 = xs[k] := getD_in _ _ hlt
        generalize xs[k] = x at hx e0 fx d0
        obtain ⟨cz, kz⟩ := t1.rowCell k (fill_length _ _ _) hlt
        obtain ⟨cy, ky⟩ := t1.swap.rowCell k (fill_length _ _ _) hlt
        obtain ⟨cx, kx⟩ := t1.third.rowCell k (fill_length _ _ _) hlt
        rw [fill_at _ _ _ hlt] at cx cy cz
        have hd : decide ((k : Int) < (xs.length : Int)) = true := by simp; omega
        -- MARK
        by_cases hB : k < ys.length
        · by_cases hC : k < zs.length
          · obtain ⟨hy, b1, off1, rfl, d1⟩ := HB.out k hB
            have e1 := (t1.below (Nat.le_refl _)).cell (p := ⟨b1, off1 + k, none⟩) (World.block_lt_of_cell? w _ d1)
            rw [d1] at e1
            have l1 : b1 < w.heap.size := World.block_lt_of_cell? w _ d1
            have fy : ys.getD k 0 = ys[k] := getD_in _ _ hB
            obtain ⟨hz, b2, off2, rfl, d2⟩ := HC.out k hC
            have e2 := (t1.below (Nat.le_refl _)).cell (p := ⟨b2, off2 + k, none⟩) (World.block_lt_of_cell? w _ d2)
            rw [d2] at e2
            have l2 : b2 < w.heap.size := World.block_lt_of_cell? w _ d2
            have fz' : zs.getD k 0 = zs[k] := getD_in _ _ hC
            generalize ys[k] = y at hy e1 fy d1
            generalize zs[k] = z at hz e2 fz' d2
            have hf : fz xs ys zs k = x ^^^ y ^^^ z := by unfold fz; rw [fx, fy, fz']
            have n0x : b0 ≠ w.heap.size := by omega
            have n0y : b0 ≠ gy := by omega
            have n0z : b0 ≠ gz := by omega
            have m0x : w.heap.size ≠ b0 := by omega
            have m0y : gy ≠ b0 := by omega
            have m0z : gz ≠ b0 := by omega
            have n1x : b1 ≠ w.heap.size := by omega
            have m1x : w.heap.size ≠ b1 := by omega
            have n2x : b2 ≠ w.heap.size := by omega
            have m2x : w.heap.size ≠ b2 := by omega
            have n2y : b2 ≠ gy := by omega
            have m2y : gy ≠ b2 := by omega
            have t2 := t1.third.put k y
            rw [show y = (fun i => ys.getD i 0) k from fy.symm, fill_succ] at t2
            have t3 := t2.third.put k z
            rw [show z = (fun i => zs.getD i 0) k from fz'.symm, fill_succ] at t3
            rw [show (fun i => ys.getD i 0) k = y from fy] at t3
            rw [show (fun i => zs.getD i 0) k = z from fz'] at t3
            have t4 := (t3.third.put k (x ^^^ y ^^^ z)).drew
            rw [← hf, fill_succ, hf] at t4
            have HT := Lib.hid t4
            have x1 : bits .xor .u8 (x : Int) (y : Int) = ((x ^^^ y : Nat) : Int) := u8_xor_nat x y hx (by omega)
            have hxy : x ^^^ y < 256 := Nat.xor_lt_two_pow (n := 8) hx (by omega)
            have x2 : bits .xor .u8 ((x ^^^ y : Nat) : Int) (z : Int) = ((x ^^^ y ^^^ z : Nat) : Int) := u8_xor_nat (x ^^^ y) z hxy (by omega)
            generalize hp : x ^^^ y ^^^ z = p at x2 HT
            generalize hq : x ^^^ y = q at x1 x2
            clear t1 t2 t3 t4 hf hp hq fy fz' fx hxy d0 d1 d2
            go_wp2
            go_region
            go_wp2
            refine ⟨⟨k + 1, by omega, by go_num, HT.out⟩, by simp [intOf]; omega⟩
          · obtain ⟨hy, b1, off1, rfl, d1⟩ := HB.out k hB
            have e1 := (t1.below (Nat.le_refl _)).cell (p := ⟨b1, off1 + k, none⟩) (World.block_lt_of_cell? w _ d1)
            rw [d1] at e1
            have l1 : b1 < w.heap.size := World.block_lt_of_cell? w _ d1
            have fy : ys.getD k 0 = ys[k] := getD_in _ _ hB
            have fz' : zs.getD k 0 = 0 := getD_out _ _ (by omega)
            generalize ys[k] = y at hy e1 fy d1
            have hf : fz xs ys zs k = x ^^^ y ^^^ 0 := by unfold fz; rw [fx, fy, fz']
            have n0x : b0 ≠ w.heap.size := by omega
            have n0y : b0 ≠ gy := by omega
            have n0z : b0 ≠ gz := by omega
            have m0x : w.heap.size ≠ b0 := by omega
            have m0y : gy ≠ b0 := by omega
            have m0z : gz ≠ b0 := by omega
            have n1x : b1 ≠ w.heap.size := by omega
            have m1x : w.heap.size ≠ b1 := by omega
            have t2 := t1.third.put k y
            rw [show y = (fun i => ys.getD i 0) k from fy.symm, fill_succ] at t2
            have t3 := t2.third
            rw [fill_none (fun i => zs.getD i 0) _ k fz'] at t3
            rw [show (fun i => ys.getD i 0) k = y from fy] at t3
            have t4 := (t3.third.put k (x ^^^ y ^^^ 0)).drew
            rw [← hf, fill_succ, hf] at t4
            have HT := Lib.hid t4
            have x1 : bits .xor .u8 (x : Int) (y : Int) = ((x ^^^ y : Nat) : Int) := u8_xor_nat x y hx (by omega)
            have hxy : x ^^^ y < 256 := Nat.xor_lt_two_pow (n := 8) hx (by omega)
            have x2 : bits .xor .u8 ((x ^^^ y : Nat) : Int) 0 = ((x ^^^ y ^^^ 0 : Nat) : Int) := u8_xor_nat (x ^^^ y) 0 hxy (by omega)
            generalize hp : x ^^^ y ^^^ 0 = p at x2 HT
            generalize hq : x ^^^ y = q at x1 x2
            clear t1 t2 t3 t4 hf hp hq fy fz' fx hxy d0 d1
            go_wp2
            go_region
            go_wp2
            refine ⟨⟨k + 1, by omega, by go_num, HT.out⟩, by simp [intOf]; omega⟩
        · by_cases hC : k < zs.length
          · have fy : ys.getD k 0 = 0 := getD_out _ _ (by omega)
            obtain ⟨hz, b2, off2, rfl, d2⟩ := HC.out k hC
            have e2 := (t1.below (Nat.le_refl _)).cell (p := ⟨b2, off2 + k, none⟩) (World.block_lt_of_cell? w _ d2)
            rw [d2] at e2
            have l2 : b2 < w.heap.size := World.block_lt_of_cell? w _ d2
            have fz' : zs.getD k 0 = zs[k] := getD_in _ _ hC
            generalize zs[k] = z at hz e2 fz' d2
            have hf : fz xs ys zs k = x ^^^ 0 ^^^ z := by unfold fz; rw [fx, fy, fz']
            have n0x : b0 ≠ w.heap.size := by omega
            have n0y : b0 ≠ gy := by omega
            have n0z : b0 ≠ gz := by omega
            have m0x : w.heap.size ≠ b0 := by omega
            have m0y : gy ≠ b0 := by omega
            have m0z : gz ≠ b0 := by omega
            have n2x : b2 ≠ w.heap.size := by omega
            have m2x : w.heap.size ≠ b2 := by omega
            have n2y : b2 ≠ gy := by omega
            have m2y : gy ≠ b2 := by omega
            have t2 := t1.third
            rw [fill_none (fun i => ys.getD i 0) _ k fy] at t2
            have t3 := t2.third.put k z
            rw [show z = (fun i => zs.getD i 0) k from fz'.symm, fill_succ] at t3
            rw [show (fun i => zs.getD i 0) k = z from fz'] at t3
            have t4 := (t3.third.put k (x ^^^ 0 ^^^ z)).drew
            rw [← hf, fill_succ, hf] at t4
            have HT := Lib.hid t4
            have x1 : bits .xor .u8 (x : Int) 0 = ((x ^^^ 0 : Nat) : Int) := u8_xor_nat x 0 hx (by omega)
            have hxy : x ^^^ 0 < 256 := Nat.xor_lt_two_pow (n := 8) hx (by omega)
            have x2 : bits .xor .u8 ((x ^^^ 0 : Nat) : Int) (z : Int) = ((x ^^^ 0 ^^^ z : Nat) : Int) := u8_xor_nat (x ^^^ 0) z hxy (by omega)
            generalize hp : x ^^^ 0 ^^^ z = p at x2 HT
            generalize hq : x ^^^ 0 = q at x1 x2
            clear t1 t2 t3 t4 hf hp hq fy fz' fx hxy d0 d2
            go_wp2
            go_region
            go_wp2
            refine ⟨⟨k + 1, by omega, by go_num, HT.out⟩, by simp [intOf]; omega⟩
          · have fy : ys.getD k 0 = 0 := getD_out _ _ (by omega)
            have fz' : zs.getD k 0 = 0 := getD_out _ _ (by omega)
            have hf : fz xs ys zs k = x ^^^ 0 ^^^ 0 := by unfold fz; rw [fx, fy, fz']
            have n0x : b0 ≠ w.heap.size := by omega
            have n0y : b0 ≠ gy := by omega
            have n0z : b0 ≠ gz := by omega
            have m0x : w.heap.size ≠ b0 := by omega
            have m0y : gy ≠ b0 := by omega
            have m0z : gz ≠ b0 := by omega
            have t2 := t1.third
            rw [fill_none (fun i => ys.getD i 0) _ k fy] at t2
            have t3 := t2.third
            rw [fill_none (fun i => zs.getD i 0) _ k fz'] at t3
            have t4 := (t3.third.put k (x ^^^ 0 ^^^ 0)).drew
            rw [← hf, fill_succ, hf] at t4
            have HT := Lib.hid t4
            have x1 : bits .xor .u8 (x : Int) 0 = ((x ^^^ 0 : Nat) : Int) := u8_xor_nat x 0 hx (by omega)
            have hxy : x ^^^ 0 < 256 := Nat.xor_lt_two_pow (n := 8) hx (by omega)
            have x2 : bits .xor .u8 ((x ^^^ 0 : Nat) : Int) 0 = ((x ^^^ 0 ^^^ 0 : Nat) : Int) := u8_xor_nat (x ^^^ 0) 0 hxy (by omega)
            generalize hp : x ^^^ 0 ^^^ 0 = p at x2 HT
            generalize hq : x ^^^ 0 = q at x1 x2
            clear t1 t2 t3 t4 hf hp hq fy fz' fx hxy d0
            go_wp2
            go_region
            go_wp2
            refine ⟨⟨k + 1, by omega, by go_num, HT.out⟩, by simp [intOf]; omega⟩
        -- END
      · obtain rfl : k = xs.length := by omega
        unfold rows3 at t1
        rw [fill_full, fill_full, fill_full] at t1
        obtain ⟨abyte, bbyte, cbyte⟩ := HY.out
        obtain ⟨X, hX⟩ : ∃ X, (List.range xs.length).map (fun i => ys.getD i 0) = X := ⟨_, rfl⟩
        obtain ⟨Y, hY⟩ : ∃ Y, (List.range xs.length).map (fun i => zs.getD i 0) = Y := ⟨_, rfl⟩
        obtain ⟨Z, hZ⟩ : ∃ Z, (List.range xs.length).map (fz xs ys zs) = Z := ⟨_, rfl⟩
        have lX : X.length = xs.length := by rw [← hX, List.length_map, List.length_range]
        have lY : Y.length = xs.length := by rw [← hY, List.length_map, List.length_range]
        have lZ : Z.length = xs.length := by rw [← hZ, List.length_map, List.length_range]
        have bX : ∀ x ∈ X, x < 256 := by rw [← hX]; exact padded_byte _ _ bbyte
        have bY : ∀ x ∈ Y, x < 256 := by rw [← hY]; exact padded_byte _ _ cbyte
        have bZ : ∀ x ∈ Z, x < 256 := by
          rw [← hZ]
          intro x hx
          obtain ⟨i, _, rfl⟩ := List.mem_map.1 hx
          exact Nat.xor_lt_two_pow (n := 8) (Nat.xor_lt_two_pow (n := 8) (getD_byte _ abyte i) (getD_byte _ bbyte i)) (getD_byte _ cbyte i)
        have eZ : Z = addBytes (addBytes xs X) Y := by rw [← hZ, ← hX, ← hY]; exact padded_add xs ys zs
        have o1 := low_three xs X Y lX.symm lY.symm
        have o2 := high_three xs X Y lX.symm lY.symm
        rw [← eZ] at o1 o2
        rw [hX, hY, hZ] at t1
        have q1 := u32_xor_nat (lowSum xs) (lowSum X) (low_lt _) (low_lt _)
        have q2 := u32_xor_nat (lowSum xs ^^^ lowSum X) (lowSum Y) (Nat.xor_lt_two_pow (n := 32) (low_lt _) (low_lt _)) (low_lt _)
        have q3 := u32_xor_nat (highSum xs) (highSum X) (high_lt _) (high_lt _)
        have q4 := u32_xor_nat (highSum xs ^^^ highSum X) (highSum Y) (Nat.xor_lt_two_pow (n := 32) (high_lt _) (high_lt _)) (high_lt _)
        rw [← o1] at q2
        rw [← o2] at q4
        generalize lowSum xs ^^^ lowSum X = r1 at q1 q2
        generalize highSum xs ^^^ highSum X = r2 at q3 q4
        have HP := Lib.hid (And.intro lX (And.intro lY (And.intro lZ (And.intro bX (And.intro bY bZ)))))
        clear o1 o2 eZ lX lY lZ bX bY bZ hX hY hZ abyte bbyte cbyte
        have hw : ∀ {w' : World} {r : List Thing}, St w.heap.size w w' r → ByteRow w' _ xs := fun {_} {_} st => HA.out.1.below (st.below (Nat.le_refl _)) (Nat.le_refl _)
        go_wp2_with fail
        refine (low_st t1 (t1.bytesAt HP.out.2.2.1 HP.out.2.2.2.2.2) (by rw [HP.out.2.2.1]; exact hl)).mono ?_
        rintro e w5 ⟨rfl, t2, -⟩
        clear t1
        go_wp2_with fail
        refine (low_st t2 (hw t2) hl).mono ?_
        rintro e w6 ⟨rfl, t3, -⟩
        clear t2
        go_wp2_with fail
        refine (low_st t3 (t3.third.bytesAt HP.out.1 HP.out.2.2.2.1) (by rw [HP.out.1]; exact hl)).mono ?_
        rintro e w7 ⟨rfl, t4, -⟩
        clear t3
        go_wp2_with fail
        refine (low_st t4 (t4.swap.bytesAt HP.out.2.1 HP.out.2.2.2.2.1) (by rw [HP.out.2.1]; exact hl)).mono ?_
        rintro e w8 ⟨rfl, t5, -⟩
        clear t4
        go_wp2_with fail
        refine (high_st t5 (t5.bytesAt HP.out.2.2.1 HP.out.2.2.2.2.2) (by rw [HP.out.2.2.1]; exact hl)).mono ?_
        rintro e w9 ⟨rfl, t6, -⟩
        clear t5
        go_wp2_with fail
        refine (high_st t6 (hw t6) hl).mono ?_
        rintro e w10 ⟨rfl, t7, -⟩
        clear t6
        go_wp2_with fail
        refine (high_st t7 (t7.third.bytesAt HP.out.1 HP.out.2.2.2.1) (by rw [HP.out.1]; exact hl)).mono ?_
        rintro e w11 ⟨rfl, t8, -⟩
        clear t7
        go_wp2_with fail
        refine (high_st t8 (t8.swap.bytesAt HP.out.2.1 HP.out.2.2.2.2.1) (by rw [HP.out.2.1]; exact hl)).mono ?_
        rintro e w12 ⟨rfl, t9, -⟩
        clear t8
        go_wp2_with fail
        refine (sums_st t9).mono ?_
        rintro e w13 ⟨rfl, t10⟩
        clear t9
        go_wp2
        go_ret
        exact ⟨rfl, t10.below (Nat.le_refl _)⟩

end Go.Proofs.Ytgnccnpmegekmaa.crcThree
