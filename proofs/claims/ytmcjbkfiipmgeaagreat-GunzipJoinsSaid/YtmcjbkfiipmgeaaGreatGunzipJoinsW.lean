/-
  Two files, one behind the other: the walk of GunzipJoins. No conditions. (Written by wip/gen_gjoins.py.)
-/
import Derived.Test.YtmcjbkfiipmgeaaGreatGzJ
namespace Go.Proofs.YtmcjbkfiipmgeaaGreat.gunzipJoins
open Go.RowKit Kraft Hd Inf Fr Gu

theorem u16_nat {v : Int} (hv : (Lit.int .u16 v).wf = true) : ∃ x : Nat, v = (x : Int) ∧ x < 65536 := by
  simp only [Lit.wf, Bool.and_eq_true, decide_eq_true_eq] at hv
  have h1 : IntKind.u16.min = 0 := rfl
  have h2 : IntKind.u16.max = 65535 := rfl
  rw [h1, h2] at hv
  exact ⟨v.toNat, by omega, by omega⟩

set_option maxRecDepth 100000 in
set_option maxHeartbeats 16000000 in
theorem walk (w : World) (v0 : Value) (xs : List Nat) (h0 : ByteRow w v0 xs) (v1 : Value) (ys : List Nat) (h1 : ByteRow w v1 ys) (kk : Int) (hkk : (Lit.int .u16 kk).wf = true) :
    Calls Tryz.prog 6 #[v0, v1, .int .u16 kk] w fun e w' => e = .returned (.bool true) ∧ Below w.heap.size w w' := by
  have hB := Nat.le_refl w.heap.size
  obtain ⟨kn, rfl, hkn⟩ := u16_nat hkk
  clear hkk
  have HX := Lib.hid (fun W (hb : Below w.heap.size w W) => h0.below hb hB)
  have HY := Lib.hid (fun W (hb : Below w.heap.size w W) => h1.below hb hB)
  have hxb := h0.byte
  have hyb := h1.byte
  have hrow0 := h0
  obtain ⟨xa, xc, rfl, -⟩ := h0
  obtain ⟨ya, yc, rfl, -⟩ := h1
  by_cases c0 : 400 < xs.length
  · go_enter Tryz.func6, Tryz.ntmps6
    go_wp2
    go_ret
    exact ⟨rfl, Below.refl _ _⟩
  by_cases c1 : 400 < ys.length
  · go_enter Tryz.func6, Tryz.ntmps6
    go_wp2
    go_ret
    exact ⟨rfl, Below.refl _ _⟩
  have hg1 := gunzip_st (St.start w) (.slice xa xs.length xc) xs hrow0 (by omega) 4000 (by omega)
  unfold GzSt at hg1
  go_enter Tryz.func6, Tryz.ntmps6
  go_wp2_with fail
  refine hg1.mono ?_
  cases hfx : file xs with
  | none =>
    rintro e w1 ⟨rfl, s1⟩
    have s2 := s1.newBox #[.slice none 0 0, .int .i64 0, .int .i64 0, .bool false] 28
    have hg2 := gunzip_st s2 (.slice ya ys.length yc) ys (HY.out _ (s2.below hB)) (by omega) 4000 (by omega)
    unfold GzSt at hg2
    clear hg1 s1
    go_wp2_with fail
    refine hg2.mono ?_
    cases hfy : file ys with
    | none =>
      rintro e w2 ⟨rfl, s3⟩
      have s4 := s3.newBox #[.slice none 0 0, .int .i64 0, .int .i64 0, .bool false] 28
      have hs0 := same_eq (w2.alloc (.cells #[.slice none 0 0, .int .i64 0, .int .i64 0, .bool false] 28)) (.slice none 0 0) (.slice none 0 0) [] 0 0 false (byteRow_none _) (byteRow_none _)
      clear hg2 s2 s3
      have k0 : (w2.alloc (.cells #[.slice none 0 0, .int .i64 0, .int .i64 0, .bool false] 28)).cell? ⟨w1.heap.size, 0, none⟩ = some (.slice none 0 0) := (St.boxAt (s4.front 1) 0).1
      have k1 : (w2.alloc (.cells #[.slice none 0 0, .int .i64 0, .int .i64 0, .bool false] 28)).cell? ⟨w1.heap.size, 1, none⟩ = some (.int .i64 0) := (St.boxAt (s4.front 1) 1).1
      have k2 : (w2.alloc (.cells #[.slice none 0 0, .int .i64 0, .int .i64 0, .bool false] 28)).cell? ⟨w1.heap.size, 2, none⟩ = some (.int .i64 0) := (St.boxAt (s4.front 1) 2).1
      have k3 : (w2.alloc (.cells #[.slice none 0 0, .int .i64 0, .int .i64 0, .bool false] 28)).cell? ⟨w1.heap.size, 3, none⟩ = some (.bool false) := (St.boxAt (s4.front 1) 3).1
      have hbel := s4.below hB
      go_wp2_with fail
      refine hs0.mono ?_
      rintro e w3 ⟨rfl, hb3⟩
      clear k0 k1 k2 k3 hs0
      go_wp2_with fail
      refine (opens_any _).mono ?_
      rintro e w4 ⟨rfl, hb4⟩
      go_wp2
      go_ret
      exact ⟨rfl, (hbel.trans (hb3.mono hbel.size)).trans (hb4.mono (hbel.trans (hb3.mono hbel.size)).size)⟩
    | some ns =>
      rintro e w2 ⟨oa, oc, rfl, s3⟩
      obtain ⟨t2, ht2⟩ : ∃ t, ((outs ns).take 4000).length = t := ⟨_, rfl⟩
      obtain ⟨z2, hz2⟩ : ∃ z, (outs ns).length = z := ⟨_, rfl⟩
      obtain ⟨b2, hb2⟩ : ∃ z, wrongs 4000 ns = z := ⟨_, rfl⟩
      rw [ht2] at s3
      simp only [ht2, hz2, hb2]
      have s4 := s3.newBox #[.slice oa t2 oc, .int .i64 (z2 : Int), .int .i64 (ys.length : Int), .bool b2] 28
      have hs0 := same_eq (w2.alloc (.cells #[.slice oa t2 oc, .int .i64 (z2 : Int), .int .i64 (ys.length : Int), .bool b2] 28)) (.slice none 0 0) (.slice none 0 0) [] 0 0 false (byteRow_none _) (byteRow_none _)
      clear hg2 s2 s3
      have k0 : (w2.alloc (.cells #[.slice oa t2 oc, .int .i64 (z2 : Int), .int .i64 (ys.length : Int), .bool b2] 28)).cell? ⟨w1.heap.size, 0, none⟩ = some (.slice none 0 0) := (St.boxAt (s4.front 2) 0).1
      have k1 : (w2.alloc (.cells #[.slice oa t2 oc, .int .i64 (z2 : Int), .int .i64 (ys.length : Int), .bool b2] 28)).cell? ⟨w1.heap.size, 1, none⟩ = some (.int .i64 0) := (St.boxAt (s4.front 2) 1).1
      have k2 : (w2.alloc (.cells #[.slice oa t2 oc, .int .i64 (z2 : Int), .int .i64 (ys.length : Int), .bool b2] 28)).cell? ⟨w1.heap.size, 2, none⟩ = some (.int .i64 0) := (St.boxAt (s4.front 2) 2).1
      have k3 : (w2.alloc (.cells #[.slice oa t2 oc, .int .i64 (z2 : Int), .int .i64 (ys.length : Int), .bool b2] 28)).cell? ⟨w1.heap.size, 3, none⟩ = some (.bool false) := (St.boxAt (s4.front 2) 3).1
      have hbel := s4.below hB
      go_wp2_with fail
      refine hs0.mono ?_
      rintro e w3 ⟨rfl, hb3⟩
      clear k0 k1 k2 k3 hs0
      go_wp2_with fail
      refine (opens_any _).mono ?_
      rintro e w4 ⟨rfl, hb4⟩
      go_wp2
      go_ret
      exact ⟨rfl, (hbel.trans (hb3.mono hbel.size)).trans (hb4.mono (hbel.trans (hb3.mono hbel.size)).size)⟩
  | some ms =>
    rintro e w1 ⟨oa, oc, rfl, s1⟩
    have hzx : (outs ms).length ≤ 2064 * 400 := by
      obtain ⟨e1, e2, -⟩ := file_of hfx
      have := goods_far _ xs (Nat.le_refl _)
      rw [e1] at this
      omega
    obtain ⟨t1, ht1⟩ : ∃ t, ((outs ms).take 4000).length = t := ⟨_, rfl⟩
    obtain ⟨z1, hz1⟩ : ∃ z, (outs ms).length = z := ⟨_, rfl⟩
    obtain ⟨b1, hb1⟩ : ∃ z, wrongs 4000 ms = z := ⟨_, rfl⟩
    rw [ht1] at s1
    rw [hz1] at hzx
    simp only [ht1, hz1, hb1]
    have s2 := s1.newBox #[.slice oa t1 oc, .int .i64 (z1 : Int), .int .i64 (xs.length : Int), .bool b1] 28
    have hg2 := gunzip_st s2 (.slice ya ys.length yc) ys (HY.out _ (s2.below hB)) (by omega) 4000 (by omega)
    unfold GzSt at hg2
    clear hg1 s1
    go_wp2_with fail
    refine hg2.mono ?_
    cases hfy : file ys with
    | none =>
      rintro e w2 ⟨rfl, s3⟩
      have s4 := s3.newBox #[.slice none 0 0, .int .i64 0, .int .i64 0, .bool false] 28
      clear hg2 s2 s3
      have hbel := s4.below hB
      go_wp2_with fail
      refine (opens_any _).mono ?_
      rintro e w4 ⟨rfl, hb4⟩
      go_wp2
      go_ret
      exact ⟨rfl, hbel.trans (hb4.mono hbel.size)⟩
    | some ns =>
      rintro e w2 ⟨ob, od, rfl, s3⟩
      have hzy : (outs ns).length ≤ 2064 * 400 := by
        obtain ⟨e1, e2, -⟩ := file_of hfy
        have := goods_far _ ys (Nat.le_refl _)
        rw [e1] at this
        omega
      have hfile := file_app hxb hfx hfy
      obtain ⟨t2, ht2⟩ : ∃ t, ((outs ns).take 4000).length = t := ⟨_, rfl⟩
      obtain ⟨z2, hz2⟩ : ∃ z, (outs ns).length = z := ⟨_, rfl⟩
      obtain ⟨b2, hb2⟩ : ∃ z, wrongs 4000 ns = z := ⟨_, rfl⟩
      rw [ht2] at s3
      rw [hz2] at hzy
      simp only [ht2, hz2, hb2]
      have s4 := s3.newBox #[.slice ob t2 od, .int .i64 (z2 : Int), .int .i64 (ys.length : Int), .bool b2] 28
      clear hg2 s2 s3
      have k0 : (w2.alloc (.cells #[.slice ob t2 od, .int .i64 (z2 : Int), .int .i64 (ys.length : Int), .bool b2] 28)).cell? ⟨w1.heap.size, 0, none⟩ = some (.slice oa t1 oc) := (St.boxAt (s4.front 2) 0).1
      have k1 : (w2.alloc (.cells #[.slice ob t2 od, .int .i64 (z2 : Int), .int .i64 (ys.length : Int), .bool b2] 28)).cell? ⟨w1.heap.size, 1, none⟩ = some (.int .i64 (z1 : Int)) := (St.boxAt (s4.front 2) 1).1
      by_cases hbig : 4000 < z1 + z2
      · have hbI : (4000 : Int) < (z1 : Int) + (z2 : Int) := by omega
        have hbel := s4.below hB
        go_wp2_with fail
        refine (opens_any _).mono ?_
        rintro e w4 ⟨rfl, hb4⟩
        go_wp2
        go_ret
        exact ⟨rfl, hbel.trans (hb4.mono hbel.size)⟩
      · have hbI : ¬ (4000 : Int) < (z1 : Int) + (z2 : Int) := by omega
        have hA1 : (outs ms).take 4000 = outs ms := List.take_of_length_le (by omega)
        have hA2 : (outs ns).take 4000 = outs ns := List.take_of_length_le (by omega)
        have ht1z : t1 = z1 := by rw [← ht1, hA1, hz1]
        have ht2z : t2 = z2 := by rw [← ht2, hA2, hz2]
        subst ht1z ht2z
        obtain ⟨A, hA, hAl⟩ : ∃ A, outs (ms ++ ns) = A ∧ A.length = t1 + t2 := ⟨_, rfl, by rw [outs_app, List.length_append, hz1, hz2]⟩
        have hAb : ∀ x ∈ A, x < 256 := by
          intro x hx
          rw [← hA, ← (file_of hfile).1] at hx
          exact outs_byte _ x hx
        have hwr : wrongs 4000 (ms ++ ns) = (b1 || b2) := by
          rw [wrongs_all _ _ (by rw [hA, hAl]; omega), List.any_append, ← wrongs_all ms 4000 (by omega), ← wrongs_all ns 4000 (by omega), hb1, hb2]
        have hss : strOf (outs ms) ++ strOf (outs ns) = strOf A := by rw [← hA, outs_app]; exact Inf.strOf_app _ _
        have hl1 : (strOf (outs ms)).size ≤ 4000 := by rw [Inf.strOf_size]; omega
        have hl2 : (strOf (outs ns)).size ≤ 4000 := by rw [Inf.strOf_size]; omega
        rw [hA1, hA2] at s4
        clear hA1 hA2 ht1 ht2
        obtain ⟨sx, hsx⟩ : ∃ s, strOf (outs ms) = s := ⟨_, rfl⟩
        obtain ⟨sy, hsy⟩ : ∃ s, strOf (outs ns) = s := ⟨_, rfl⟩
        obtain ⟨sA, hsA⟩ : ∃ s, strOf A = s := ⟨_, rfl⟩
        obtain ⟨Z, hZ, hZl, hZb⟩ : ∃ Z, xs ++ ys = Z ∧ Z.length = xs.length + ys.length ∧ ∀ x ∈ Z, x < 256 := ⟨_, rfl, List.length_append, fun x hx => (List.mem_append.1 hx).elim (hxb x) (hyb x)⟩
        rw [hZ] at hfile
        have hZs : Z.length ≤ 800 := by omega
        have HZ := Lib.hid (And.intro hZ hZl)
        have HAL := Lib.hid hAl
        clear hZ hZl hAl hfx hfy
        have hrowx := HX.out _ (s4.below hB)
        have hsz : Value.slice (some ⟨w2.heap.size + 1, 0, none⟩) 0 0 = Value.slice (some ⟨(w2.alloc (.cells #[.slice ob t2 od, .int .i64 (t2 : Int), .int .i64 (ys.length : Int), .bool b2] 28)).heap.size, 0, none⟩) 0 0 := by simp
        go_wp2_with (at_builtin; refine wpList_copyW rfl (.tmp 63) (.tmp 64) rfl s4 hrowx rfl rfl (by omega) ?_)
        intro v5 w5 s5
        clear hsz
        obtain ⟨pa, pc, rfl⟩ : ∃ a c, v5 = .slice a xs.length c := ownsRow_slice s5.row
        have hrowy := HY.out _ (s5.below hB)
        go_wp2_with (at_builtin; refine wpList_append_bytes rfl _ _ rfl s5 hrowy rfl rfl (by omega) ?_)
        intro v6 w6 s6 _ _
        rw [← u8s_append, (HZ.out).1, ← (HZ.out).2] at s6
        obtain ⟨za, zc, rfl⟩ : ∃ a c, v6 = .slice a Z.length c := ownsRow_slice s6.row
        obtain ⟨bx, hbx⟩ : ∃ b, (b1 || b2) = b := ⟨_, rfl⟩
        rw [hbx] at hwr
        have HBX := Lib.hid hbx
        clear hbx
        have hg3 := gunzip_says s6 (.slice za Z.length zc) Z (byteRow_owns s6.row hZb) (by omega) 4000 (t1 + t2) (t1 + t2) Z.length bx (by omega) (o := A) hfile (by rw [hA]; exact List.take_of_length_le (by rw [HAL.out]; omega)) HAL.out (by rw [hA]; exact HAL.out) rfl hwr
        obtain ⟨z3, hz3⟩ : ∃ z, t1 + t2 = z := ⟨_, rfl⟩
        have hz3I : (t1 : Int) + (t2 : Int) = (z3 : Int) := by omega
        rw [hz3] at hg3
        have hz3b : z3 ≤ 4000 := by omega
        clear hrowx hrowy s4 s5 k0 k1
        have hZZ : ((xs.length : Int) + (ys.length : Int)) = (Z.length : Int) := by have := HZ.out.2; omega
        have hZN : xs.length + ys.length = Z.length := by have := HZ.out.2; omega
        go_wp2_with fail
        refine hg3.mono ?_
        rintro e w7 ⟨ox, od7, rfl, s7⟩
        have s8 := s7.newBox #[.slice ox z3 od7, .int .i64 (z3 : Int), .int .i64 (Z.length : Int), .bool bx] 28
        clear hg3 s6 s7
        cases b1 with
        | true =>
          have e : bx = true := by rw [← HBX.out]; rfl
          subst e
          have q1 := run_string _ _ _ (Reads.of_owns (St.row (s8.front 6)))
          have q2 := run_string _ _ _ (Reads.of_owns (St.row (s8.front 4)))
          have q3 := run_string _ _ _ (Reads.of_owns (St.row (s8.front 1)))
          rw [hsx] at q1
          rw [hsy] at q2
          rw [hsA] at q3
          have k0 : (w7.alloc (.cells #[.slice ox z3 od7, .int .i64 (z3 : Int), .int .i64 (Z.length : Int), .bool true] 28)).cell? ⟨w1.heap.size, 0, none⟩ = some (.slice oa t1 oc) := (St.boxAt (s8.front 5) 0).1
          have k1 : (w7.alloc (.cells #[.slice ox z3 od7, .int .i64 (z3 : Int), .int .i64 (Z.length : Int), .bool true] 28)).cell? ⟨w1.heap.size, 1, none⟩ = some (.int .i64 (t1 : Int)) := (St.boxAt (s8.front 5) 1).1
          have k3 : (w7.alloc (.cells #[.slice ox z3 od7, .int .i64 (z3 : Int), .int .i64 (Z.length : Int), .bool true] 28)).cell? ⟨w1.heap.size, 3, none⟩ = some (.bool true) := (St.boxAt (s8.front 5) 3).1
          have j0 : (w7.alloc (.cells #[.slice ox z3 od7, .int .i64 (z3 : Int), .int .i64 (Z.length : Int), .bool true] 28)).cell? ⟨w2.heap.size, 0, none⟩ = some (.slice ob t2 od) := (St.boxAt (s8.front 3) 0).1
          have j1 : (w7.alloc (.cells #[.slice ox z3 od7, .int .i64 (z3 : Int), .int .i64 (Z.length : Int), .bool true] 28)).cell? ⟨w2.heap.size, 1, none⟩ = some (.int .i64 (t2 : Int)) := (St.boxAt (s8.front 3) 1).1
          have j3 : (w7.alloc (.cells #[.slice ox z3 od7, .int .i64 (z3 : Int), .int .i64 (Z.length : Int), .bool true] 28)).cell? ⟨w2.heap.size, 3, none⟩ = some (.bool b2) := (St.boxAt (s8.front 3) 3).1
          obtain ⟨n, hn, hnb⟩ : ∃ n, kn % 4001 = n ∧ n < 4001 := ⟨_, rfl, by omega⟩
          have hn2 : (kn : Int) % 4001 = (n : Int) := by omega
          have hn3 : (kn : Int).tmod 4001 = (n : Int) := by rw [Int.tmod_eq_emod_of_nonneg (by omega)]; exact hn2
          have hrz := (St.row (s8.front 2))
          obtain ⟨o, ho⟩ : ∃ o, A.take n = o := ⟨_, rfl⟩
          obtain ⟨m, hm, hmz, hmn⟩ : ∃ m, o.length = m ∧ m ≤ z3 ∧ m = min n z3 := ⟨_, rfl, by rw [← ho, List.length_take, HAL.out, hz3]; omega, by rw [← ho, List.length_take, HAL.out, hz3]⟩
          have hob : ∀ x ∈ o, x < 256 := fun x hx => hAb x (by rw [← ho] at hx; exact List.mem_of_mem_take hx)
          have hg4 := gunzip_says s8 (.slice za Z.length zc) Z (byteRow_owns hrz hZb) (by omega) n m z3 Z.length (wrongs n (ms ++ ns)) (by omega) (o := o) hfile (by rw [hA]; exact ho) hm (by rw [hA, HAL.out, hz3]) rfl rfl
          obtain ⟨w4, hw4⟩ : ∃ b, wrongs n (ms ++ ns) = b := ⟨_, rfl⟩
          rw [hw4] at hg4
          have HN := Lib.hid (And.intro hn (And.intro hmn hw4))
          have HS := Lib.hid (And.intro hsx (And.intro hsy (And.intro hsA (And.intro ho hm))))
          have HZ3 := Lib.hid hz3
          rw [hsx, hsy, hsA] at hss
          rw [hsx] at hl1
          rw [hsy] at hl2
          clear hrz hn hmn hw4 hsx hsy hsA ho hm hz3 hz1 hz2 hA hb1 hb2 hwr hZZ hZN
          go_wp2_with fail
          refine hg4.mono ?_
          rintro e w9 ⟨oy, od9, rfl, s9⟩
          have s10 := s9.newBox #[.slice oy m od9, .int .i64 (z3 : Int), .int .i64 (Z.length : Int), .bool w4] 28
          clear hg4 s8 s9 k0 k1 k3 j0 j1 j3 q1 q2 q3
          go_wp2_with fail
          obtain ⟨YB, hYB⟩ : ∃ b, w9.heap.size = b := ⟨_, rfl⟩
          obtain ⟨XB, hXB⟩ : ∃ b, w7.heap.size = b := ⟨_, rfl⟩
          rw [hYB, hXB] at s10
          try rw [hYB]
          try rw [hXB]
          clear hYB hXB
          have hS : ∀ W T, St w.heap.size w W (boxT YB #[.slice oy m od9, .int .i64 (z3 : Int), .int .i64 (Z.length : Int), .bool w4] 28 :: rowT 5 1 (.slice oy m od9) m (u8s o) :: boxT XB #[.slice ox z3 od7, .int .i64 (z3 : Int), .int .i64 (Z.length : Int), .bool true] 28 :: rowT 5 1 (.slice ox z3 od7) z3 (u8s A) :: T) →
              W.cell? ⟨YB, 0, none⟩ = some (.slice oy m od9) ∧ W.cell? ⟨YB, 1, none⟩ = some (.int .i64 (z3 : Int)) ∧ W.cell? ⟨YB, 2, none⟩ = some (.int .i64 (Z.length : Int)) ∧ W.cell? ⟨XB, 0, none⟩ = some (.slice ox z3 od7) ∧ W.cell? ⟨XB, 1, none⟩ = some (.int .i64 (z3 : Int)) ∧ W.cell? ⟨XB, 2, none⟩ = some (.int .i64 (Z.length : Int)) ∧
              (convert 26 9 (.slice oy m od9)).run Tryz.prog W = .ok (.string (strOf o)) W ∧ (convert 26 9 (.slice ox m od7)).run Tryz.prog W = .ok (.string (strOf o)) W := by
            intro W T t
            refine ⟨(St.boxAt t 0).1, (St.boxAt t 1).1, (St.boxAt t 2).1, (St.boxAt (t.front 2) 0).1, (St.boxAt (t.front 2) 1).1, (St.boxAt (t.front 2) 2).1, run_string _ _ _ (Reads.of_owns (St.row (t.front 1))), ?_⟩
            have h9 : W.ownsRow 0 5 1 (.slice ox A.length od7) A.length (u8s A) := by
              rw [HAL.out, HZ3.out]
              exact St.row (t.front 3)
            have h8 := byteRow_first (byteRow_owns h9 hAb) m (by rw [HAL.out, HZ3.out]; exact hmz)
            have h7 : A.take m = o := by
              obtain ⟨-, -, -, ho, hm⟩ := HS.out
              rw [← ho, ← hm, ← ho, List.length_take, List.take_eq_take_iff]
              omega
            rw [h7] at h8
            exact run_string _ _ _ h8.reads
          have hmI : (m : Int) ≤ (z3 : Int) := by omega
          have hmin : min (n : Int) (z3 : Int) = (m : Int) := by have := HN.out.2.1; omega
          have hmin2 : (if z3 < n then (z3 : Int) else (n : Int)) = (m : Int) := by have := HN.out.2.1; split <;> omega
          obtain ⟨so, hso⟩ : ∃ s, strOf o = s := ⟨_, rfl⟩
          simp only [hso] at hS
          have s12 := s10
          clear s10
          generalize w9.alloc (.cells #[.slice oy m od9, .int .i64 (z3 : Int), .int .i64 (Z.length : Int), .bool w4] 28) = wd at *
          obtain ⟨y0, y1, y2, x0, x1, x2, c1, c2⟩ := hS _ _ s12
          have c3 : ∀ k, (convert 26 9 (.slice oy m od9)).run Tryz.prog (wd.drewN k) = .ok (.string so) (wd.drewN k) := fun k => (hS _ _ (s12.drewN k)).2.2.2.2.2.2.1
          have c4 : ∀ k, (convert 26 9 (.slice ox m od7)).run Tryz.prog (wd.drewN k) = .ok (.string so) (wd.drewN k) := fun k => (hS _ _ (s12.drewN k)).2.2.2.2.2.2.2
          have c5 := (hS _ _ s12.drew).2.2.2.2.2.2.1
          have c6 := (hS _ _ s12.drew).2.2.2.2.2.2.2
          have hod : m ≤ od7 := by
            have h9 : wd.ownsRow 0 5 1 (.slice ox A.length od7) A.length (u8s A) := by
              rw [HAL.out, HZ3.out]
              exact St.row (s12.front 3)
            obtain ⟨a', c', e', hc', -⟩ := byteRow_owns h9 hAb
            obtain ⟨-, -, rfl⟩ := Value.slice.inj e'
            rw [HAL.out, HZ3.out] at hc'
            omega
          have hodI : (m : Int) ≤ (od7 : Int) := by omega
          have hbel := s12.below hB
          clear s12 hS
          go_still_tail 40, (by kernel_rfl)
          go_wp2_with (go_at_call 20; refine (opens_any _).mono ?_; rintro e w11 ⟨rfl, hb11⟩)
          go_ret
          refine ⟨rfl, ?_⟩
          first
            | exact hbel.drew.trans (hb11.mono hbel.drew.size)
            | exact (hbel.drewN _).trans (hb11.mono (hbel.drewN _).size)
            | exact (hbel.drew.drewN _).trans (hb11.mono (hbel.drew.drewN _).size)
        | false =>
          have e : b2 = bx := by rw [← HBX.out]; rfl
          subst e
          have q1 := run_string _ _ _ (Reads.of_owns (St.row (s8.front 6)))
          have q2 := run_string _ _ _ (Reads.of_owns (St.row (s8.front 4)))
          have q3 := run_string _ _ _ (Reads.of_owns (St.row (s8.front 1)))
          rw [hsx] at q1
          rw [hsy] at q2
          rw [hsA] at q3
          have k0 : (w7.alloc (.cells #[.slice ox z3 od7, .int .i64 (z3 : Int), .int .i64 (Z.length : Int), .bool b2] 28)).cell? ⟨w1.heap.size, 0, none⟩ = some (.slice oa t1 oc) := (St.boxAt (s8.front 5) 0).1
          have k1 : (w7.alloc (.cells #[.slice ox z3 od7, .int .i64 (z3 : Int), .int .i64 (Z.length : Int), .bool b2] 28)).cell? ⟨w1.heap.size, 1, none⟩ = some (.int .i64 (t1 : Int)) := (St.boxAt (s8.front 5) 1).1
          have k3 : (w7.alloc (.cells #[.slice ox z3 od7, .int .i64 (z3 : Int), .int .i64 (Z.length : Int), .bool b2] 28)).cell? ⟨w1.heap.size, 3, none⟩ = some (.bool false) := (St.boxAt (s8.front 5) 3).1
          have j0 : (w7.alloc (.cells #[.slice ox z3 od7, .int .i64 (z3 : Int), .int .i64 (Z.length : Int), .bool b2] 28)).cell? ⟨w2.heap.size, 0, none⟩ = some (.slice ob t2 od) := (St.boxAt (s8.front 3) 0).1
          have j1 : (w7.alloc (.cells #[.slice ox z3 od7, .int .i64 (z3 : Int), .int .i64 (Z.length : Int), .bool b2] 28)).cell? ⟨w2.heap.size, 1, none⟩ = some (.int .i64 (t2 : Int)) := (St.boxAt (s8.front 3) 1).1
          have j3 : (w7.alloc (.cells #[.slice ox z3 od7, .int .i64 (z3 : Int), .int .i64 (Z.length : Int), .bool b2] 28)).cell? ⟨w2.heap.size, 3, none⟩ = some (.bool b2) := (St.boxAt (s8.front 3) 3).1
          obtain ⟨n, hn, hnb⟩ : ∃ n, kn % 4001 = n ∧ n < 4001 := ⟨_, rfl, by omega⟩
          have hn2 : (kn : Int) % 4001 = (n : Int) := by omega
          have hn3 : (kn : Int).tmod 4001 = (n : Int) := by rw [Int.tmod_eq_emod_of_nonneg (by omega)]; exact hn2
          have hrz := (St.row (s8.front 2))
          obtain ⟨o, ho⟩ : ∃ o, A.take n = o := ⟨_, rfl⟩
          obtain ⟨m, hm, hmz, hmn⟩ : ∃ m, o.length = m ∧ m ≤ z3 ∧ m = min n z3 := ⟨_, rfl, by rw [← ho, List.length_take, HAL.out, hz3]; omega, by rw [← ho, List.length_take, HAL.out, hz3]⟩
          have hob : ∀ x ∈ o, x < 256 := fun x hx => hAb x (by rw [← ho] at hx; exact List.mem_of_mem_take hx)
          have hg4 := gunzip_says s8 (.slice za Z.length zc) Z (byteRow_owns hrz hZb) (by omega) n m z3 Z.length (wrongs n (ms ++ ns)) (by omega) (o := o) hfile (by rw [hA]; exact ho) hm (by rw [hA, HAL.out, hz3]) rfl rfl
          obtain ⟨w4, hw4⟩ : ∃ b, wrongs n (ms ++ ns) = b := ⟨_, rfl⟩
          rw [hw4] at hg4
          have HN := Lib.hid (And.intro hn (And.intro hmn hw4))
          have HS := Lib.hid (And.intro hsx (And.intro hsy (And.intro hsA (And.intro ho hm))))
          have HZ3 := Lib.hid hz3
          rw [hsx, hsy, hsA] at hss
          rw [hsx] at hl1
          rw [hsy] at hl2
          clear hrz hn hmn hw4 hsx hsy hsA ho hm hz3 hz1 hz2 hA hb1 hb2 hwr hZZ hZN
          go_wp2_with fail
          refine hg4.mono ?_
          rintro e w9 ⟨oy, od9, rfl, s9⟩
          have s10 := s9.newBox #[.slice oy m od9, .int .i64 (z3 : Int), .int .i64 (Z.length : Int), .bool w4] 28
          clear hg4 s8 s9 k0 k1 k3 j0 j1 j3 q1 q2 q3
          go_wp2_with fail
          obtain ⟨YB, hYB⟩ : ∃ b, w9.heap.size = b := ⟨_, rfl⟩
          obtain ⟨XB, hXB⟩ : ∃ b, w7.heap.size = b := ⟨_, rfl⟩
          rw [hYB, hXB] at s10
          try rw [hYB]
          try rw [hXB]
          clear hYB hXB
          have hS : ∀ W T, St w.heap.size w W (boxT YB #[.slice oy m od9, .int .i64 (z3 : Int), .int .i64 (Z.length : Int), .bool w4] 28 :: rowT 5 1 (.slice oy m od9) m (u8s o) :: boxT XB #[.slice ox z3 od7, .int .i64 (z3 : Int), .int .i64 (Z.length : Int), .bool b2] 28 :: rowT 5 1 (.slice ox z3 od7) z3 (u8s A) :: T) →
              W.cell? ⟨YB, 0, none⟩ = some (.slice oy m od9) ∧ W.cell? ⟨YB, 1, none⟩ = some (.int .i64 (z3 : Int)) ∧ W.cell? ⟨YB, 2, none⟩ = some (.int .i64 (Z.length : Int)) ∧ W.cell? ⟨XB, 0, none⟩ = some (.slice ox z3 od7) ∧ W.cell? ⟨XB, 1, none⟩ = some (.int .i64 (z3 : Int)) ∧ W.cell? ⟨XB, 2, none⟩ = some (.int .i64 (Z.length : Int)) ∧
              (convert 26 9 (.slice oy m od9)).run Tryz.prog W = .ok (.string (strOf o)) W ∧ (convert 26 9 (.slice ox m od7)).run Tryz.prog W = .ok (.string (strOf o)) W := by
            intro W T t
            refine ⟨(St.boxAt t 0).1, (St.boxAt t 1).1, (St.boxAt t 2).1, (St.boxAt (t.front 2) 0).1, (St.boxAt (t.front 2) 1).1, (St.boxAt (t.front 2) 2).1, run_string _ _ _ (Reads.of_owns (St.row (t.front 1))), ?_⟩
            have h9 : W.ownsRow 0 5 1 (.slice ox A.length od7) A.length (u8s A) := by
              rw [HAL.out, HZ3.out]
              exact St.row (t.front 3)
            have h8 := byteRow_first (byteRow_owns h9 hAb) m (by rw [HAL.out, HZ3.out]; exact hmz)
            have h7 : A.take m = o := by
              obtain ⟨-, -, -, ho, hm⟩ := HS.out
              rw [← ho, ← hm, ← ho, List.length_take, List.take_eq_take_iff]
              omega
            rw [h7] at h8
            exact run_string _ _ _ h8.reads
          have hmI : (m : Int) ≤ (z3 : Int) := by omega
          have hmin : min (n : Int) (z3 : Int) = (m : Int) := by have := HN.out.2.1; omega
          have hmin2 : (if z3 < n then (z3 : Int) else (n : Int)) = (m : Int) := by have := HN.out.2.1; split <;> omega
          obtain ⟨so, hso⟩ : ∃ s, strOf o = s := ⟨_, rfl⟩
          simp only [hso] at hS
          have s12 := s10
          clear s10
          generalize w9.alloc (.cells #[.slice oy m od9, .int .i64 (z3 : Int), .int .i64 (Z.length : Int), .bool w4] 28) = wd at *
          obtain ⟨y0, y1, y2, x0, x1, x2, c1, c2⟩ := hS _ _ s12
          have c3 : ∀ k, (convert 26 9 (.slice oy m od9)).run Tryz.prog (wd.drewN k) = .ok (.string so) (wd.drewN k) := fun k => (hS _ _ (s12.drewN k)).2.2.2.2.2.2.1
          have c4 : ∀ k, (convert 26 9 (.slice ox m od7)).run Tryz.prog (wd.drewN k) = .ok (.string so) (wd.drewN k) := fun k => (hS _ _ (s12.drewN k)).2.2.2.2.2.2.2
          have c5 := (hS _ _ s12.drew).2.2.2.2.2.2.1
          have c6 := (hS _ _ s12.drew).2.2.2.2.2.2.2
          have hod : m ≤ od7 := by
            have h9 : wd.ownsRow 0 5 1 (.slice ox A.length od7) A.length (u8s A) := by
              rw [HAL.out, HZ3.out]
              exact St.row (s12.front 3)
            obtain ⟨a', c', e', hc', -⟩ := byteRow_owns h9 hAb
            obtain ⟨-, -, rfl⟩ := Value.slice.inj e'
            rw [HAL.out, HZ3.out] at hc'
            omega
          have hodI : (m : Int) ≤ (od7 : Int) := by omega
          have hbel := s12.below hB
          clear s12 hS
          go_still_tail 40, (by kernel_rfl)
          go_wp2_with (go_at_call 20; refine (opens_any _).mono ?_; rintro e w11 ⟨rfl, hb11⟩)
          go_ret
          refine ⟨rfl, ?_⟩
          first
            | exact hbel.drew.trans (hb11.mono hbel.drew.size)
            | exact (hbel.drewN _).trans (hb11.mono (hbel.drewN _).size)
            | exact (hbel.drew.drewN _).trans (hb11.mono (hbel.drew.drewN _).size)
end Go.Proofs.YtmcjbkfiipmgeaaGreat.gunzipJoins
