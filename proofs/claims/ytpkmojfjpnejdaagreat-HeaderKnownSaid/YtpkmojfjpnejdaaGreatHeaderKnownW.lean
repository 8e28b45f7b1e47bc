/-
  The chapter's examples; what may not be; nil: the walk of HeaderKnown. No conditions.
-/
import Derived.Test.YtpkmojfjpnejdaaGreatGL
namespace Go.Proofs.YtpkmojfjpnejdaaGreat.headerKnown
open Go.RowKit Kraft Hd

/-- n zeros. -/
def Zs (n : Nat) : List Nat := List.replicate n 0
theorem Zs_length (n : Nat) : (Zs n).length = n := by simp [Zs]
theorem Zs_byte (n : Nat) : ∀ x ∈ Zs n, x < 256 := fun x hx => by rw [List.eq_of_mem_replicate hx]; omega

theorem byteRow_cut {w : World} {a : Option Addr} {n c m : Nat} {X : List Nat} (h : ByteRow w (.slice a n c) X) (hm : m ≤ n) : ByteRow w (.slice a m c) (X.take m) := by
  obtain ⟨a', c', e, hc, hn, hat⟩ := h
  obtain ⟨rfl, e2, rfl⟩ := Value.slice.inj e
  refine ⟨a, c, by rw [List.length_take]; congr 1; omega, by rw [List.length_take]; omega, hn, fun i hi => ?_⟩
  have hi' : i < X.length := by rw [List.length_take] at hi; omega
  rw [List.getElem_take]
  exact hat i hi'

theorem set_byte {X : List Nat} (h : ∀ x ∈ X, x < 256) (i y : Nat) (hy : y < 256) : ∀ x ∈ X.set i y, x < 256 := fun x hx => by
  rcases List.mem_or_eq_of_mem_set hx with g | g
  · exact h x g
  · omega

/-- 'make([]byte, n)' where it is wanted. -/
theorem wpList_makeW {ops : Array Oper} {rest : List Oper} {o : Oper} {a : Act} {Q : Exit → Act → World → Prop} (hw : Region.wanted o (yielded ops a.tmps) = true) (n : Nat)
    (hop : o.op = Op.makeSlice 22 (.const (.int .i64 (n : Int))) (.const (.int .i64 (n : Int)))) (hn : n ≤ 1000)
    {B : Nat} {w0 w : World} {r : List Thing} (st : St B w0 w r)
    (h : ∀ w', St B w0 w' (bytesT w.heap.size n (Zs n) :: r) → wpList Tryz.prog ops Q rest (a.put o.dst (.slice (some ⟨w.heap.size, 0, none⟩) n n)) w') : wpList Tryz.prog ops Q (o :: rest) a w := by
  obtain ⟨i0, hi, hz0, hz1, hz2⟩ := info_parts info8
  refine BigFrame.wpList_want hw fun K hK => ?_
  obtain ⟨w', hrun, r1, r2⟩ := run_make_full (P := Tryz.prog) w w.heap.size 22 5 i0 (.int .u8 0) 1 Tryz.underlying22 hi hz0 hz1 .i64 .i64 n (by rw [hz2]; omega) (by unfold maxLen; omega) (Nat.le_refl _)
  rw [Nat.mul_one] at r1
  have s := st.made (n := n) r1 r2
  unfold Oper.wp
  simp [execOp, hop, Act.eval, hrun, Result.andThen]
  exact hK _ _ (h w' s)

section
variable {B : Nat} {w0 w : World} {r : List Thing}

theorem bytesRowN {v : Value} {n : Nat} {xs : List Nat} (h : St B w0 w (rowT 5 1 v n (u8s xs) :: r)) (hn : xs.length = n) (hb : ∀ x ∈ xs, x < 256) : ByteRow w v xs :=
  byteRow_owns (by rw [hn]; exact h.row) hb

/-- A cell of a row of the call's own, and the row behind a store. -/
theorem rowAt {g n c : Nat} {xs : List Nat} (h : St B w0 w (rowT 5 1 (.slice (some ⟨g, 0, none⟩) n c) n (u8s xs) :: r)) (i : Nat) (hl : xs.length = n) (hi : i < n) (x : Nat) :
    (∃ y : Nat, w.cell? ⟨g, i, none⟩ = some (.int .u8 (y : Int))) ∧ w.frozen? ⟨g, i, none⟩ = false ∧ St B w0 (w.setCell ⟨g, i, none⟩ (.int .u8 (x : Int))) (rowT 5 1 (.slice (some ⟨g, 0, none⟩) n c) n (u8s (xs.set i x)) :: r) := by
  refine ⟨⟨xs[i]'(by omega), ?_⟩, h.row.frozenAt i, ?_⟩
  · rw [h.row.cellAt i (by omega), u8s_get _ _ (by omega)]
  · have := h.stored i (.int .u8 (x : Int))
    rwa [← u8s_set] at this

theorem put_bad {pb : Nat} (st : St B w0 w (wrT pb [] :: r)) {v1 v2 : Value} {p q : List Nat} (h1 : ∀ W, St B w0 W r → ByteRow W v1 p) (h2 : ∀ W, St B w0 W r → ByteRow W v2 q) (hp : p.length ≤ 1000) (hq : q.length ≤ 1000) (hm : mayH p q = false) :
    Calls Tryz.prog 17 #[.pointer (some ⟨pb, 0, none⟩), v1, v2] w fun e w' => e = .returned (.int .i64 5) ∧ St B w0 w' (wrT pb [] :: r) := by
  have h := hput_st st (by simp) h1 h2 (by omega) (by omega)
  rw [hm] at h
  refine h.mono ?_
  rintro e w' ⟨rfl, s⟩
  exact ⟨rfl, by simpa using s⟩

end

set_option maxRecDepth 100000 in
set_option maxHeartbeats 8000000 in
theorem walk (w : World) : Calls Tryz.prog 8 #[] w fun e w' => e = .returned (.bool true) ∧ Below w.heap.size w w' := by
  have hB := Nat.le_refl w.heap.size
  obtain ⟨X0, hX0⟩ : ∃ X, X = P0 := ⟨_, rfl⟩
  have hX0l : X0.length = 257 := by rw [hX0]; exact P0_length
  have hX0b : ∀ x ∈ X0, x < 256 := by rw [hX0]; exact P0_byte
  have HX0 := Lib.hid hX0
  clear hX0
  go_enter Tryz.func8, Tryz.ntmps8
  go_wp2_with fail
  refine (plain_st (St.start w)).mono ?_
  rintro e w1 ⟨g, b, rfl, s1⟩
  rw [← HX0.out] at s1
  have s2 := s1.newWr
  clear s1
  go_wp2_with (at_builtin; refine wpList_copyW rfl _ _ rfl s2 (bytesRowN s2.drop hX0l hX0b) (by simp [Act.eval]) rfl (by omega) ?_)
  intro v4 w4 s4
  clear s2
  generalize w1.heap.size = pb at *
  obtain ⟨g4, c4, rfl, hc4⟩ := s4.rowShape (by omega)
  obtain ⟨⟨y4, f4⟩, f4', s5⟩ := rowAt s4 1 hX0l (by omega) 1
  clear s4
  go_wp2_with (at_builtin; refine wpList_copyW rfl _ _ rfl s5 (bytesRowN s5.drop.drop hX0l hX0b) (by simp [Act.eval]) rfl (by omega) ?_)
  intro v6 w6 s6
  clear s5 f4 f4'
  obtain ⟨g6, c6, rfl, hc6⟩ := s6.rowShape (by omega)
  obtain ⟨⟨y6, f6⟩, f6', s7⟩ := rowAt s6 0 hX0l (by omega) 2
  clear s6
  go_wp2_with (at_builtin; refine wpList_copyW rfl _ _ rfl s7 (bytesRowN s7.drop.drop.drop hX0l hX0b) (by simp [Act.eval]) rfl (by omega) ?_)
  intro v8 w8 s8
  clear s7 f6 f6'
  obtain ⟨g8, c8, rfl, hc8⟩ := s8.rowShape (by omega)
  obtain ⟨⟨y8, f8⟩, f8', s9⟩ := rowAt s8 0 hX0l (by omega) 16
  clear s8
  go_wp2_with (at_make; refine wpList_makeW rfl 257 rfl (by omega) s9 ?_)
  intro w10 s10
  clear s9 f8 f8'
  generalize w8.heap.size = gO at *
  obtain ⟨⟨yO, fO⟩, fO', s11⟩ := rowAt s10 256 (Zs_length 257) (by omega) 1
  clear s10
  have m1 : mayH (X0.take 256) [0] = false := by rw [HX0.out]; decide +kernel
  have m2 : mayH (Zs 257) [0] = false := by decide +kernel
  have m3 : mayH (X0.set 1 1) [0] = false := by rw [HX0.out]; decide +kernel
  have m4 : mayH (X0.set 0 2) [0] = false := by rw [HX0.out]; decide +kernel
  have m5 : mayH (X0.set 0 16) [0] = false := by rw [HX0.out]; decide +kernel
  have m6 : mayH (Zs 287) [0] = false := by decide +kernel
  have m7 : mayH X0 [] = false := by rw [HX0.out]; decide +kernel
  have m8 : mayH X0 (Zs 31) = false := by rw [HX0.out]; decide +kernel
  have m9 : mayH X0 [2] = false := by rw [HX0.out]; decide +kernel
  have m10 : mayH X0 [1, 1, 1] = false := by rw [HX0.out]; decide +kernel
  have m11 : mayH ((Zs 257).set 256 1) [1] = true := by decide +kernel
  have l3 : (X0.set 1 1).length = 257 := by rw [List.length_set]; exact hX0l
  have l4 : (X0.set 0 2).length = 257 := by rw [List.length_set]; exact hX0l
  have l5 : (X0.set 0 16).length = 257 := by rw [List.length_set]; exact hX0l
  have l11 : ((Zs 257).set 256 1).length = 257 := by rw [List.length_set]; exact Zs_length 257
  have b3 := set_byte hX0b 1 1 (by omega)
  have b4 := set_byte hX0b 0 2 (by omega)
  have b5 := set_byte hX0b 0 16 (by omega)
  have b11 := set_byte (Zs_byte 257) 256 1 (by omega)
  generalize X0.set 1 1 = OV at *
  generalize X0.set 0 2 = UN at *
  generalize X0.set 0 16 = LO at *
  generalize (Zs 257).set 256 1 = ON at *
  obtain ⟨R, hR⟩ : ∃ R : List Thing, R = [rowT 5 1 (.slice (some ⟨gO, 0, none⟩) 257 257) 257 (u8s ON), rowT 5 1 (.slice (some ⟨g8, 0, none⟩) 257 c8) 257 (u8s LO), rowT 5 1 (.slice (some ⟨g6, 0, none⟩) 257 c6) 257 (u8s UN),
    rowT 5 1 (.slice (some ⟨g4, 0, none⟩) 257 c4) 257 (u8s OV), bytesT g 257 X0, bytesT b 1 [0]] := ⟨_, rfl⟩
  have hrows : ∀ W, St w.heap.size w W R → (ByteRow W (.slice (some ⟨g, 0, none⟩) 257 257) X0 ∧ ByteRow W (.slice (some ⟨b, 0, none⟩) 1 1) [0]) ∧ (ByteRow W (.slice (some ⟨g4, 0, none⟩) 257 c4) OV ∧ ByteRow W (.slice (some ⟨g6, 0, none⟩) 257 c6) UN) ∧ (ByteRow W (.slice (some ⟨g8, 0, none⟩) 257 c8) LO ∧ ByteRow W (.slice (some ⟨gO, 0, none⟩) 257 257) ON) := by
    intro W s
    rw [hR] at s
    exact ⟨⟨bytesRowN (s.front 4) hX0l hX0b, bytesRowN (s.front 5) rfl (by decide)⟩, ⟨bytesRowN (s.front 3) l3 b3, bytesRowN (s.front 2) l4 b4⟩, bytesRowN (s.front 1) l5 b5, bytesRowN s l11 b11⟩
  have s12 : St w.heap.size w (w10.setCell ⟨gO, 256, none⟩ (.int .u8 ((1 : Nat) : Int))) (wrT pb [] :: R) := by rw [hR]; exact s11.front 4
  have HR := Lib.hid hrows
  have M1 := Lib.hid m1
  have M2 := Lib.hid m2
  have M3 := Lib.hid m3
  have M4 := Lib.hid m4
  have M5 := Lib.hid m5
  have M6 := Lib.hid m6
  have M7 := Lib.hid m7
  have M8 := Lib.hid m8
  have M9 := Lib.hid m9
  have M10 := Lib.hid m10
  have M11 := Lib.hid m11
  have L0 := Lib.hid (And.intro hX0l (And.intro l3 (And.intro l4 (And.intro l5 l11))))
  clear s11 hR hrows m1 m2 m3 m4 m5 m6 m7 m8 m9 m10 m11 hX0l l3 l4 l5 l11 hX0b b3 b4 b5 b11
  go_wp2_with fail
  refine (put_bad s12 (fun W s => byteRow_cut (m := 256) (HR.out W s).1.1 (by omega)) (fun W s => (HR.out W s).1.2) (by rw [List.length_take]; omega) (by simp) M1.out).mono ?_
  rintro e xt1 ⟨rfl, t1⟩
  clear s12 fO fO'
  go_wp2_with (at_make; refine wpList_makeW rfl 257 rfl (by omega) t1 ?_)
  intro xga y1
  generalize xt1.heap.size = ga at *
  have t2 := y1.swap
  clear t1 y1
  go_wp2_with fail
  refine (put_bad t2 (fun W s => bytesRowN s (Zs_length 257) (Zs_byte 257)) (fun W s => (HR.out W s.drop).1.2) (by rw [Zs_length]; omega) (by simp) M2.out).mono ?_
  rintro e xt3 ⟨rfl, t3⟩
  clear t2
  go_wp2_with fail
  refine (put_bad t3 (fun W s => (HR.out W s.drop).2.1.1) (fun W s => (HR.out W s.drop).1.2) (by have := L0.out; omega) (by simp) M3.out).mono ?_
  rintro e xt4 ⟨rfl, t4⟩
  clear t3
  go_wp2_with fail
  refine (put_bad t4 (fun W s => (HR.out W s.drop).2.1.2) (fun W s => (HR.out W s.drop).1.2) (by have := L0.out; omega) (by simp) M4.out).mono ?_
  rintro e xt5 ⟨rfl, t5⟩
  clear t4
  go_wp2_with fail
  refine (put_bad t5 (fun W s => (HR.out W s.drop).2.2.1) (fun W s => (HR.out W s.drop).1.2) (by have := L0.out; omega) (by simp) M5.out).mono ?_
  rintro e xt6 ⟨rfl, t6⟩
  clear t5
  go_wp2_with (at_make; refine wpList_makeW rfl 287 rfl (by omega) t6 ?_)
  intro xgb y6
  generalize xt6.heap.size = gb at *
  have t7 := y6.swap
  clear t6 y6
  go_wp2_with fail
  refine (put_bad t7 (fun W s => bytesRowN s (Zs_length 287) (Zs_byte 287)) (fun W s => (HR.out W s.drop.drop).1.2) (by rw [Zs_length]; omega) (by simp) M6.out).mono ?_
  rintro e xt8 ⟨rfl, t8⟩
  clear t7
  go_wp2_with fail
  refine (put_bad t8 (fun W s => (HR.out W s.drop.drop).1.1) (fun W s => byteRow_none W) (by have := L0.out; omega) (by simp) M7.out).mono ?_
  rintro e xt9 ⟨rfl, t9⟩
  clear t8
  go_wp2_with (at_make; refine wpList_makeW rfl 31 rfl (by omega) t9 ?_)
  intro xgc y9
  generalize xt9.heap.size = gc at *
  have t10 := y9.swap
  clear t9 y9
  go_wp2_with fail
  refine (put_bad t10 (fun W s => (HR.out W s.drop.drop.drop).1.1) (fun W s => bytesRowN s (Zs_length 31) (Zs_byte 31)) (by have := L0.out; omega) (by rw [Zs_length]; omega) M8.out).mono ?_
  rintro e xt11 ⟨rfl, t11⟩
  clear t10
  have y11 := (t11.litRow [2] (by unfold maxLen; decide)).swap
  clear t11
  go_wp2_with fail
  refine (put_bad y11 (fun W s => (HR.out W s.drop.drop.drop.drop).1.1) (fun W s => bytesRowN s rfl (by decide)) (by have := L0.out; omega) (by simp) M9.out).mono ?_
  rintro e xt12 ⟨rfl, t12⟩
  clear y11
  have y12 := (t12.litRow [1, 1, 1] (by unfold maxLen; decide)).swap
  clear t12
  go_wp2_with fail
  refine (put_bad y12 (fun W s => (HR.out W s.drop.drop.drop.drop.drop).1.1) (fun W s => bytesRowN s rfl (by decide)) (by have := L0.out; omega) (by simp) M10.out).mono ?_
  rintro e xt13 ⟨rfl, t13⟩
  clear y12
  clear M1 M2 M3 M4 M5 M6 M7 M8 M9 M10
  have hl0 := len_st t13
  go_wp2_with (go_at_call 20; refine hl0.mono ?_; rintro e xl ⟨rfl, rfl⟩)
  have yA := (t13.litRow [1] (by unfold maxLen; decide)).swap
  clear t13 hl0
  have hput := hput_st yA (by simp) (v1 := .slice (some ⟨gO, 0, none⟩) 257 257) (p := ON) (q := [1]) (fun W s => (HR.out W s.drop.drop.drop.drop.drop.drop).2.2.2) (fun W s => bytesRowN s rfl (by decide)) (by have := L0.out; omega) (by simp)
  rw [M11.out] at hput
  simp only [if_true, List.nil_append] at hput
  have hsm := hbits_small M11.out
  have hat := fun A C => hbits_at M11.out A C
  have hHl0 : (hbits ON [1]).length ≤ 6000 := by have := L0.out; simp at hsm; omega
  generalize hbits ON [1] = H at *
  have HAT : headAt (row (pk H)) 0 = some (ON, [1], H.length) := by
    obtain ⟨C, hC⟩ := row_pk H
    have := hat [] C
    rw [List.nil_append, List.length_nil, Nat.zero_add, ← hC] at this
    exact this
  have HAT := Lib.hid HAT
  clear hat hsm yA
  refine hput.mono ?_
  rintro e x20 ⟨rfl, s20⟩
  clear hput
  go_wp2_with fail
  refine (bytes_st s20 (by omega)).mono ?_
  rintro e x21 ⟨v21, rfl, s21⟩
  clear s20
  go_wp2_with fail
  refine (new_st s21 (Reads.of_owns s21.row) (pk_lt _) (by rw [pk_length]; omega)).mono ?_
  rintro e x22 ⟨qb, rfl, s22⟩
  clear s21
  go_wp2_with fail
  refine (hget_st s22 (by rw [pk_length]; omega) (Nat.zero_le _)).mono ?_
  intro e x23 hg
  unfold GotSt at hg
  rw [HAT.out] at hg
  obtain ⟨va, vb, rfl, s23⟩ := hg
  simp only at s23
  clear s22
  go_wp2_with fail
  refine (hget_nil x23).mono ?_
  rintro e x24 ⟨rfl, hb24⟩
  have s24 := s23.quiet hb24
  clear s23 hb24
  go_wp2_with fail
  refine (hput_nil x24 _ _).mono ?_
  rintro e x25 ⟨rfl, hb25⟩
  obtain ⟨T, sT, hT⟩ : ∃ T, St w.heap.size w x25 T ∧ ∀ W, St w.heap.size w W T → (ByteRow W va ON ∧ ByteRow W vb [1]) ∧ ByteRow W (.slice (some ⟨gO, 0, none⟩) 257 257) ON :=
    ⟨_, s24.quiet hb25, fun W s => ⟨s.pair, (HR.out W s.drop.drop.drop.drop.drop.drop.drop.drop.drop.drop).2.2.2⟩⟩
  have HT := Lib.hid hT
  clear s24 hb25 hT HR HAT M11 L0 HX0
  go_wp2_with (at_make; refine wpList_makeW rfl 60 rfl (by omega) sT ?_)
  intro x26 s26
  clear sT
  generalize x25.heap.size = gf at *
  go_wp2
  go_loopw [18] (fun iv wr => ∃ (k : Nat) (X : List Nat), k ≤ 60 ∧ iv = .int .i64 (k : Int) ∧ Hid (X.length = 60) ∧ Hid (∀ i, i < k → X[i]? = some 255) ∧ St w.heap.size w wr (bytesT gf 60 X :: T)) (fun iv _ => 60 - (intOf iv).toNat)
  case atStart => exact ⟨0, Zs 60, Nat.zero_le _, rfl, Lib.hid (Zs_length 60), Lib.hid (fun i hi => absurd hi (by omega)), s26⟩
  case round =>
    clear s26
    obtain ⟨k, X, hk, rfl, hXl, hX, sX⟩ := hrel
    by_cases hlt : k < 60
    · obtain ⟨⟨y, f0⟩, f1, sY⟩ := rowAt sX k hXl.out hlt 255
      have HXl : Hid ((X.set k 255).length = 60) := Lib.hid (by rw [List.length_set]; exact hXl.out)
      have HX : Hid (∀ i, i < k + 1 → (X.set k 255)[i]? = some 255) := Lib.hid (fun i hi => by
        rw [List.getElem?_set]
        by_cases e : k = i
        · subst e; rw [if_pos rfl, if_pos (by rw [hXl.out]; exact hlt)]
        · rw [if_neg e]; exact hX.out i (by omega))
      generalize X.set k 255 = Y at *
      clear hX hXl sX
      go_wp2
      exact ⟨⟨k + 1, Y, by omega, by go_num, HXl, HX, sY⟩, by simp [intOf]; omega⟩
    · obtain rfl : k = 60 := by omega
      have hXe : X = List.replicate 60 255 := List.ext_getElem? (fun i => by
        by_cases hi : i < 60
        · rw [hX.out i hi, List.getElem?_replicate, if_pos hi]
        · rw [List.getElem?_eq_none (by rw [hXl.out]; omega), List.getElem?_eq_none (by simp; omega)])
      have hn1 : headAt (row X) 0 = none := by rw [hXe]; decide +kernel
      have hXb : ∀ x ∈ X, x < 256 := fun x hx => by rw [hXe] at hx; rw [List.eq_of_mem_replicate hx]; omega
      have hn2 : headAt (row (Zs 60)) 0 = none := by decide +kernel
      have HN1 := Lib.hid hn1
      have HN2 := Lib.hid hn2
      have hrd := Reads.of_owns sX.row
      have hXl60 := hXl.out
      have hnew := new_st sX hrd hXb (by omega)
      clear hXe hn1 hn2 hX hrd hXl60 hlt hk
      go_wp2_with fail
      refine hnew.mono ?_
      rintro e x30 ⟨q30, rfl, s30⟩
      clear hnew sX
      go_wp2_with fail
      refine (hget_st s30 (by rw [hXl.out]; omega) (Nat.zero_le _)).mono ?_
      intro e x31 hg
      unfold GotSt at hg
      rw [HN1.out] at hg
      obtain ⟨rfl, p31, s31⟩ := hg
      clear s30
      go_wp2_with (at_make; refine wpList_makeW rfl 60 rfl (by omega) s31 ?_)
      intro x32 s32
      clear s31
      generalize x31.heap.size = gz at *
      go_wp2_with fail
      refine (new_st s32 (Reads.of_owns s32.row) (Zs_byte 60) (by rw [Zs_length]; omega)).mono ?_
      rintro e x33 ⟨q33, rfl, s33⟩
      clear s32
      go_wp2_with fail
      refine (hget_st s33 (by rw [Zs_length]; omega) (Nat.zero_le _)).mono ?_
      intro e x34 hg
      unfold GotSt at hg
      rw [HN2.out] at hg
      obtain ⟨rfl, p34, s34⟩ := hg
      clear s33
      obtain ⟨⟨z1, z2⟩, z3⟩ := HT.out _ s34.drop.drop.drop.drop
      have r1 := run_string x34 _ _ z1.reads
      have r2 := run_string x34 _ _ z2.reads
      have r3 := run_string x34 _ _ z3.reads
      rw [show strOf [1] = ⟨#[1]⟩ from by decide] at r2
      have hhd := heads_any x34
      have hbel := s34.below hB
      generalize strOf ON = S0 at *
      clear s34 z1 z2 z3
      go_wp2_with (go_at_call 14; refine hhd.mono ?_; rintro e x35 ⟨rfl, hb35⟩)
      go_ret
      exact ⟨rfl, hbel.trans (hb35.mono hbel.size)⟩

end Go.Proofs.YtpkmojfjpnejdaaGreat.headerKnown
