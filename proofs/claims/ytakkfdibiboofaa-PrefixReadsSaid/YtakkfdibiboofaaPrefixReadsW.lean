/-
  New's errors, and every Get of both orders, one behind the other, and where the reader stands: the walk of PrefixReads. No conditions.
-/
import Derived.Test.YtakkfdibiboofaaPfxU
namespace Go.Proofs.Ytakkfdibiboofaa.prefixReads
open Go.RowKit Kraft

theorem got_low (L xs : List Nat) (p : Nat) : Low.got L xs p = seek (tab L L.length) 0 0 ((bitsBoth xs true).drop p) := by
  unfold Low.got
  rw [rest_drop]
  rfl

theorem got_high (L xs : List Nat) (p : Nat) : High.got L xs p = seek (tab L L.length) 0 0 ((bitsBoth xs false).drop p) := by
  unfold High.got
  rw [rest_drop]
  rfl

theorem bitsBoth_length (xs : List Nat) (low : Bool) : (bitsBoth xs low).length = 8 * xs.length := by unfold bitsBoth; rw [rest_length]; omega

theorem row_addr {w : World} {b : Nat} {a : Option Addr} {n c : Nat} {xs : List Value} (h : w.ownsRow b 5 1 (.slice a n c) n xs) : a = none ∨ ∃ g o, a = some ⟨g, o, none⟩ := by
  rcases h.2 with ⟨e, _⟩ | ⟨g, cap, cur, e, _⟩
  · exact .inl (Value.slice.inj e).1
  · exact .inr ⟨g, 0, (Value.slice.inj e).1⟩

theorem byteRow_nb {w : World} {base n : Nat} {v : Value} {xs : List Nat} (h : w.ownsRow base 5 1 v n (u8s xs)) (hn : xs.length = n) (hb : ∀ x ∈ xs, x < 256) : ByteRow w v xs :=
  byteRow_owns (by rw [hn]; exact h) hb

set_option maxRecDepth 100000 in
set_option maxHeartbeats 8000000 in
theorem walk (w : World) (v0 : Value) (L : List Nat) (h0 : ByteRow w v0 L) (v1 : Value) (bs : List Nat) (h1 : ByteRow w v1 bs) (mo : Int) (hmo : (Lit.int .u8 mo).wf = true) :
    Calls Try.prog 3 #[v0, v1, .int .u8 mo] w fun e w' => e = .returned (.bool true) ∧ Below w.heap.size w w' := by
  have H0 := Lib.hid h0
  have H1 := Lib.hid h1
  have hby := h1.byte
  obtain ⟨a0, cap0, rfl, hc0, hn0, -⟩ := h0
  obtain ⟨a1, cap1, rfl, hc1, hn1, -⟩ := h1
  obtain ⟨y, rfl, hy⟩ : ∃ y : Nat, mo = (y : Int) ∧ y < 256 := by
    simp only [Lit.wf, Bool.and_eq_true, decide_eq_true_eq] at hmo
    have e1 : IntKind.u8.min = 0 := rfl
    have e2 : IntKind.u8.max = 255 := rfl
    rw [e1, e2] at hmo
    exact ⟨mo.toNat, by omega, by omega⟩
  by_cases c0 : 60 < L.length ∧ L.length ≤ 512
  · obtain ⟨c0a, c0b⟩ := c0
    go_enter Try.func3, Try.ntmps3
    go_wp2
    go_ret
    exact ⟨rfl, Below.refl _ _⟩
  by_cases c1 : 600 < L.length
  · have c1a : 60 < L.length := by omega
    have c1b : ¬ L.length ≤ 512 := by omega
    go_enter Try.func3, Try.ntmps3
    go_wp2
    go_ret
    exact ⟨rfl, Below.refl _ _⟩
  have d1 : decide (600 < (L.length : Int)) = false := by simp; omega
  by_cases c6 : 60 < L.length
  · have dA : decide (60 < (L.length : Int)) = true := by simp; omega
    have dB : decide ((L.length : Int) ≤ 512) = false := by simp; omega
    have hE5 : wordsErr L = 5 := wordsErr_may (may_long (by omega))
    have hE : wordsErr L ≠ 0 := by omega
    by_cases c2 : 40 < bs.length
    · go_enter Try.func3, Try.ntmps3
      go_wp2
      go_ret
      exact ⟨rfl, Below.refl _ _⟩
    have d2 : decide (40 < (bs.length : Int)) = false := by simp; omega
    go_enter Try.func3, Try.ntmps3
    go_wp2_with (at_builtin; refine wpList_copyW rfl _ _ rfl (St.start w) H0.out rfl rfl (by omega) ?_)
    intro v2 w2 s1
    have hnew := tnew_st s1 _ L (byteRow_owns s1.row H0.out.byte) (by omega)
    go_wp2_with fail
    refine hnew.mono ?_
    rintro e w3 (⟨_, rfl, s2⟩ | ⟨h, _⟩)
    case inr => exact absurd h hE
    -- the copy is turned; nothing hangs on it
    obtain ⟨ai, ci, rfl⟩ := ownsRow_slice s2.row
    go_wp2
    go_loopw [10] (fun iv wr => ∃ (k : Nat) (X : List Nat), k ≤ L.length ∧ iv = .int .i64 (k : Int) ∧ X.length = L.length ∧ St w.heap.size w wr (rowT 5 1 (.slice ai L.length ci) L.length (u8s X) :: [])) (fun iv _ => L.length - (intOf iv).toNat)
    case atStart => exact ⟨0, L, Nat.zero_le _, rfl, rfl, s2⟩
    case round =>
      obtain ⟨k, X, hk, rfl, hX, t1⟩ := hrel
      have HX := Lib.hid hX
      clear hX
      by_cases hlt : k < L.length
      · obtain ⟨g, cap, e, hcap⟩ := t1.rowShape (by omega)
        obtain ⟨rfl, -, rfl⟩ := Value.slice.inj e
        have hx : wr.cell? ⟨g, k, none⟩ = some (.int .u8 (X[k]'(by rw [HX.out]; exact hlt) : Int)) := by
          have := HX.out
          rw [t1.row.cellAt k (by omega), u8s_get _ _ (by omega)]
        have hfx := t1.row.frozenAt k
        have t2 := t1.stored k (.int .u8 1)
        rw [show (u8s X).set k (.int .u8 1) = u8s (X.set k 1) from (u8s_set X k 1).symm] at t2
        go_wp2
        exact ⟨⟨k + 1, X.set k 1, by omega, by go_num, by rw [List.length_set]; exact HX.out, t2⟩, by simp [intOf]; omega⟩
      · obtain rfl : k = L.length := by omega
        have hrows := refRows_st t1 _ L (H0.out.below (t1.below (Nat.le_refl _)) (Nat.le_refl _)) (by omega)
        have hne : ((wordsErr L : Int) != 0) = true := by simpa using hE
        have heq : ((wordsErr L : Int) == 0) = false := by rw [beq_eq_false_iff_ne]; omega
        go_wp2_with fail
        refine hrows.mono ?_
        rintro e w2 (⟨_, rfl, t2⟩ | ⟨h, _⟩)
        case inr => exact absurd h hE
        go_wp2_with fail
        refine (puts_any w2).mono ?_
        rintro e w3 ⟨rfl, hb⟩
        go_wp2
        go_ret
        exact ⟨rfl, (t2.quiet hb).below (Nat.le_refl _)⟩
  have dA : decide (60 < (L.length : Int)) = false := by simp; omega
  by_cases c2 : 40 < bs.length
  · go_enter Try.func3, Try.ntmps3
    go_wp2
    go_ret
    exact ⟨rfl, Below.refl _ _⟩
  have d2 : decide (40 < (bs.length : Int)) = false := by simp; omega
  go_enter Try.func3, Try.ntmps3
  go_wp2_with (at_builtin; refine wpList_copyW rfl _ _ rfl (St.start w) H0.out rfl rfl (by omega) ?_)
  intro v2 w2 s1
  have hnew := tnew_st s1 _ L (byteRow_owns s1.row H0.out.byte) (by omega)
  go_wp2_with fail
  refine hnew.mono ?_
  rintro e w3 (⟨hE, rfl, s2⟩ | ⟨hE, tb, rfl, s2⟩)
  · -- the copy is turned; nothing hangs on it
    obtain ⟨ai, ci, rfl⟩ := ownsRow_slice s2.row
    go_wp2
    go_loopw [10] (fun iv wr => ∃ (k : Nat) (X : List Nat), k ≤ L.length ∧ iv = .int .i64 (k : Int) ∧ X.length = L.length ∧ St w.heap.size w wr (rowT 5 1 (.slice ai L.length ci) L.length (u8s X) :: [])) (fun iv _ => L.length - (intOf iv).toNat)
    case atStart => exact ⟨0, L, Nat.zero_le _, rfl, rfl, s2⟩
    case round =>
      obtain ⟨k, X, hk, rfl, hX, t1⟩ := hrel
      have HX := Lib.hid hX
      clear hX
      by_cases hlt : k < L.length
      · obtain ⟨g, cap, e, hcap⟩ := t1.rowShape (by omega)
        obtain ⟨rfl, -, rfl⟩ := Value.slice.inj e
        have hx : wr.cell? ⟨g, k, none⟩ = some (.int .u8 (X[k]'(by rw [HX.out]; exact hlt) : Int)) := by
          have := HX.out
          rw [t1.row.cellAt k (by omega), u8s_get _ _ (by omega)]
        have hfx := t1.row.frozenAt k
        have t2 := t1.stored k (.int .u8 1)
        rw [show (u8s X).set k (.int .u8 1) = u8s (X.set k 1) from (u8s_set X k 1).symm] at t2
        go_wp2
        exact ⟨⟨k + 1, X.set k 1, by omega, by go_num, by rw [List.length_set]; exact HX.out, t2⟩, by simp [intOf]; omega⟩
      · obtain rfl : k = L.length := by omega
        have hrows := refRows_st t1 _ L (H0.out.below (t1.below (Nat.le_refl _)) (Nat.le_refl _)) (by omega)
        have hne : ((wordsErr L : Int) != 0) = true := by simpa using hE
        have heq : ((wordsErr L : Int) == 0) = false := by rw [beq_eq_false_iff_ne]; omega
        go_wp2_with fail
        refine hrows.mono ?_
        rintro e w2 (⟨_, rfl, t2⟩ | ⟨h, _⟩)
        case inr => exact absurd h hE
        go_wp2_with fail
        refine (puts_any w2).mono ?_
        rintro e w3 ⟨rfl, hb⟩
        go_wp2
        go_ret
        exact ⟨rfl, (t2.quiet hb).below (Nat.le_refl _)⟩
  have h20 := len_le_of (wordsErr_ok hE).1
  have hw := (wordsErr_ok hE).2
  have s3 := s2.swap
  -- the copy is turned; nothing hangs on it
  obtain ⟨ai, ci, rfl⟩ := ownsRow_slice s3.row
  go_wp2
  go_loopw [10] (fun iv wr => ∃ (k : Nat) (X : List Nat), k ≤ L.length ∧ iv = .int .i64 (k : Int) ∧ X.length = L.length ∧ St w.heap.size w wr (rowT 5 1 (.slice ai L.length ci) L.length (u8s X) :: tblL tb L :: [])) (fun iv _ => L.length - (intOf iv).toNat)
  case atStart => exact ⟨0, L, Nat.zero_le _, rfl, rfl, s3⟩
  case round =>
    obtain ⟨k, X, hk, rfl, hX, t1⟩ := hrel
    have HX := Lib.hid hX
    clear hX
    by_cases hlt : k < L.length
    · obtain ⟨g, cap, e, hcap⟩ := t1.rowShape (by omega)
      obtain ⟨rfl, -, rfl⟩ := Value.slice.inj e
      have hx : wr.cell? ⟨g, k, none⟩ = some (.int .u8 (X[k]'(by rw [HX.out]; exact hlt) : Int)) := by
        have := HX.out
        rw [t1.row.cellAt k (by omega), u8s_get _ _ (by omega)]
      have hfx := t1.row.frozenAt k
      have t2 := t1.stored k (.int .u8 1)
      rw [show (u8s X).set k (.int .u8 1) = u8s (X.set k 1) from (u8s_set X k 1).symm] at t2
      go_wp2
      exact ⟨⟨k + 1, X.set k 1, by omega, by go_num, by rw [List.length_set]; exact HX.out, t2⟩, by simp [intOf]; omega⟩
    · obtain rfl : k = L.length := by omega
      have hbs : ∀ wx l, St w.heap.size w wx l → ByteRow wx (.slice a1 bs.length cap1) bs := fun wx l tx => H1.out.below (tx.below (Nat.le_refl _)) (Nat.le_refl _)
      have HBS := Lib.hid hbs
      have hL60 : L.length ≤ 60 := by omega
      clear hbs s1 s2 s3 hnew
      have t2 := t1.drop
      have hrows := refRows_st t2 _ L (H0.out.below (t2.below (Nat.le_refl _)) (Nat.le_refl _)) (by omega)
      go_wp2_with fail
      refine hrows.mono ?_
      rintro e w4 (⟨h, _⟩ | ⟨_, vr, rfl, t3⟩)
      · exact absurd hE h
      obtain ⟨va, cr, hvr⟩ : ∃ a c, vr = .slice a L.length c := by
        obtain ⟨vs, hR⟩ := t3.rows
        obtain ⟨a, c, e⟩ := ownsRow_slice hR.row
        rw [rowsOf_length] at e
        exact ⟨a, c, e⟩
      subst hvr
      clear hrows t1 t2
      go_wp2_with fail
      refine (new_st t3 (HBS.out _ _ t3).reads hby (by omega)).mono ?_
      rintro e w5 ⟨qx, rfl, t4⟩
      go_wp2_with fail
      refine (Msb.new_st t4 (HBS.out _ _ t4).reads hby (by omega)).mono ?_
      rintro e w6 ⟨qy, rfl, t5⟩
      go_wp2_with fail
      refine (bits_st t5 _ bs (HBS.out _ _ t5) true (by omega)).mono ?_
      rintro e w7 ⟨vc, rfl, t6⟩
      go_wp2_with fail
      refine (bits_st t6 _ bs (HBS.out _ _ t6) false (by omega)).mono ?_
      rintro e w8 ⟨vd, rfl, t7⟩
      obtain ⟨ac, cc, rfl⟩ := ownsRow_slice t6.row
      obtain ⟨ad, cd, rfl⟩ := ownsRow_slice t7.row
      have lC : (nats (bitsBoth bs true)).length = 8 * bs.length := by rw [nats_length, bitsBoth_length]
      have lD : (nats (bitsBoth bs false)).length = 8 * bs.length := by rw [nats_length, bitsBoth_length]
      rw [lC, lD] at t7
      rw [lC, lD]
      have t8 : St w.heap.size w w8 (rdT qx bs 0 :: tblL tb L :: Msb.rdT qy bs 0 :: rowsT (.slice va L.length cr) (rowsOf L) :: rowT 5 1 (.slice ac (8 * bs.length) cc) (8 * bs.length) (u8s (nats (bitsBoth bs true))) :: rowT 5 1 (.slice ad (8 * bs.length) cd) (8 * bs.length) (u8s (nats (bitsBoth bs false))) :: []) := ((((t7.front 1).front 4).front 3).front 5).front 5
      clear t3 t4 t5 t6 t7 lC lD
      obtain ⟨m, hm, hm61⟩ : ∃ m : Nat, (y : Int) % 61 = (m : Int) ∧ m ≤ 60 := ⟨y % 61, by omega, by omega⟩
      obtain ⟨nb, hnb⟩ : ∃ nb, nb = 8 * bs.length := ⟨_, rfl⟩
      rw [← hnb] at t8
      simp only [← hnb]
      have HNB := Lib.hid hnb
      have hnb2 : nb ≤ 320 := by omega
      clear hnb
      go_wp2
      go_loopw [17, 18, 19] (fun av tv iv wx => ∃ k p q : Nat, k ≤ m ∧ iv = .int .i64 (k : Int) ∧ av = .int .i64 (p : Int) ∧ tv = .int .i64 (q : Int) ∧ p ≤ nb ∧ q ≤ nb ∧ St w.heap.size w wx (rdT qx bs p :: tblL tb L :: Msb.rdT qy bs q :: rowsT (.slice va L.length cr) (rowsOf L) :: rowT 5 1 (.slice ac nb cc) nb (u8s (nats (bitsBoth bs true))) :: rowT 5 1 (.slice ad nb cd) nb (u8s (nats (bitsBoth bs false))) :: [])) (fun _ _ iv _ => m - (intOf iv).toNat)
      case atStart => exact ⟨0, 0, 0, Nat.zero_le _, rfl, rfl, rfl, Nat.zero_le _, Nat.zero_le _, t8⟩
      case round =>
        obtain ⟨k, p, q, hk, rfl, rfl, rfl, hp, hq, t9⟩ := hrel
        clear t8
        by_cases hlt : k < m
        · have hlow := Low.tget_st t9 h20
          have hle := seek_le (tab L L.length) ((bitsBoth bs true).drop p) 0 0
          rw [List.length_drop, bitsBoth_length, ← HNB.out] at hle
          have href := fun (wx : World) (tx : St w.heap.size w wx (rdT qx bs (p + (seek (tab L L.length) 0 0 ((bitsBoth bs true).drop p)).1) :: tblL tb L :: Msb.rdT qy bs q :: rowsT (.slice va L.length cr) (rowsOf L) :: rowT 5 1 (.slice ac nb cc) nb (u8s (nats (bitsBoth bs true))) :: rowT 5 1 (.slice ad nb cd) nb (u8s (nats (bitsBoth bs false))) :: [])) =>
            refGet_rows (w := wx) (va := va) (cr := cr) h20 hw (by omega) (St.rowsAll (tx.front 3)) (byteRow_nb (tx.front 4).row (by rw [nats_length, bitsBoth_length, HNB.out]) (nats_lt _)) (row_addr (tx.front 4).row) (by rw [bitsBoth_length, HNB.out]) (by omega) p hp
          rw [got_low] at hlow
          generalize seek (tab L L.length) 0 0 ((bitsBoth bs true).drop p) = G at hlow href hle
          obtain ⟨Gk, Gs, Ge⟩ := G
          have HREF := Lib.hid href
          clear href
          go_wp2_with fail
          refine hlow.mono ?_
          rintro e w9 ⟨rfl, t10⟩
          go_wp2_with fail
          refine (HREF.out w9 t10).mono ?_
          rintro e w10 ⟨rfl, k10, rfl⟩
          have t11 := t10.drewN k10
          have hat := at_st t11
          generalize w9.drewN k10 = w11 at t11 hat ⊢
          clear t10 hlow HREF
          go_wp2_with fail
          refine hat.mono ?_
          rintro e w12 ⟨rfl, rfl⟩
          clear hat t9
          have t12 : St w.heap.size w w11 (Msb.rdT qy bs q :: tblL tb L :: rdT qx bs (p + Gk) :: rowsT (.slice va L.length cr) (rowsOf L) :: rowT 5 1 (.slice ac nb cc) nb (u8s (nats (bitsBoth bs true))) :: rowT 5 1 (.slice ad nb cd) nb (u8s (nats (bitsBoth bs false))) :: []) := (t11.front 1).front 2
          have hhigh := High.tget_st t12 h20
          have hle2 := seek_le (tab L L.length) ((bitsBoth bs false).drop q) 0 0
          rw [List.length_drop, bitsBoth_length, ← HNB.out] at hle2
          have href2 := fun (wx : World) (tx : St w.heap.size w wx (Msb.rdT qy bs (q + (seek (tab L L.length) 0 0 ((bitsBoth bs false).drop q)).1) :: tblL tb L :: rdT qx bs (p + Gk) :: rowsT (.slice va L.length cr) (rowsOf L) :: rowT 5 1 (.slice ac nb cc) nb (u8s (nats (bitsBoth bs true))) :: rowT 5 1 (.slice ad nb cd) nb (u8s (nats (bitsBoth bs false))) :: [])) =>
            refGet_rows (w := wx) (va := va) (cr := cr) h20 hw (by omega) (St.rowsAll (tx.front 3)) (byteRow_nb (tx.front 5).row (by rw [nats_length, bitsBoth_length, HNB.out]) (nats_lt _)) (row_addr (tx.front 5).row) (by rw [bitsBoth_length, HNB.out]) (by omega) q hq
          rw [got_high] at hhigh
          generalize seek (tab L L.length) 0 0 ((bitsBoth bs false).drop q) = G2 at hhigh href2 hle2
          obtain ⟨Hk, Hs, He⟩ := G2
          have HREF := Lib.hid href2
          clear href2 t11
          go_wp2_with fail
          refine hhigh.mono ?_
          rintro e w13 ⟨rfl, t13⟩
          go_wp2_with fail
          refine (HREF.out w13 t13).mono ?_
          rintro e w14 ⟨rfl, k14, rfl⟩
          have t14 := t13.drewN k14
          have hat := Msb.at_st t14
          generalize w13.drewN k14 = w15 at t14 hat ⊢
          clear t13 hhigh HREF t12
          go_wp2_with fail
          refine hat.mono ?_
          rintro e w16 ⟨rfl, rfl⟩
          clear hat
          have t15 := (t14.front 1).front 2
          go_wp2
          exact ⟨⟨k + 1, p + Gk, q + Hk, by omega, by go_num, by go_num, by go_num, by omega, by omega, t15⟩, by simp [intOf]; omega⟩
        · obtain rfl : k = m := by omega
          go_wp2_with fail
          refine (puts_any wr).mono ?_
          rintro e w9 ⟨rfl, hb⟩
          go_wp2
          go_ret
          exact ⟨rfl, (t9.quiet hb).below (Nat.le_refl _)⟩

end Go.Proofs.Ytakkfdibiboofaa.prefixReads
