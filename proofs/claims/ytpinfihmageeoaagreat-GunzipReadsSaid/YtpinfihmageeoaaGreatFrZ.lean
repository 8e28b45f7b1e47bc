/-
  The document's Get. No conditions but that rows are small. (Written by wip/gen_frz.py.)
-/
import Derived.Test.YtpinfihmageeoaaGreatFrL
import Derived.Deep.Cut
namespace Go.Proofs.YtpinfihmageeoaaGreat.Fr
open Go.RowKit Crc

section
variable {B : Nat} {w0 w : World} {r : List Thing} {xs : List Nat}

/-- A head of which these fields alone are set. -/
abbrev pl (E N C : List Nat) (sm : Bool) : Gz := ⟨false, 0, 0, 0, E, N, C, 0, sm⟩

/-- A reader behind the first ten bytes. -/
abbrev mk (F T X O p : Nat) (E N C : List Nat) : Rs := ⟨p, ⟨F % 2 == 1, T, X, O, E, N, C, F / 4, F / 2 % 2 == 1⟩, false⟩

theorem byteRow_some {W : World} {a : Option Addr} {len cap : Nat} (h : ByteRow W (.slice a len cap) xs) (hl : 0 < xs.length) : ∃ b off, a = some ⟨b, off, none⟩ := by
  obtain ⟨a', cap', e, hc, hn, hat⟩ := h
  obtain ⟨rfl, rfl, rfl⟩ := Value.slice.inj e
  obtain ⟨-, b, off, rfl, -⟩ := hat 0 hl
  exact ⟨b, off, rfl⟩

theorem byteRow_cell {W : World} {b off len cap : Nat} (h : ByteRow W (.slice (some ⟨b, off, none⟩) len cap) xs) (i : Nat) (hi : i < xs.length) : W.cell? ⟨b, off + i, none⟩ = some (.int .u8 (xs[i] : Int)) := by
  obtain ⟨a', cap', e, hc, hn, hat⟩ := h
  obtain ⟨rfl, rfl, rfl⟩ := Value.slice.inj e
  obtain ⟨-, b', off', e2, c⟩ := hat i hi
  obtain ⟨rfl, rfl, -⟩ := Addr.mk.inj (Option.some.inj e2)
  exact c

theorem byteRow_at {W : World} {b off len cap : Nat} (h : ByteRow W (.slice (some ⟨b, off, none⟩) len cap) xs) (p n : Nat) (hp : p + n ≤ xs.length) (hc : p < cap) : ByteRow W (.slice (some ⟨b, off + p, none⟩) n (cap - p)) (sl xs p n) := by
  have h2 := byteRow_sub h p n hp
  rw [if_neg (by omega), Option.map_some, add_none] at h2
  exact h2

theorem byteRow_low {W : World} {b off len cap : Nat} (h : ByteRow W (.slice (some ⟨b, off, none⟩) len cap) xs) (d : Nat) (hd : d ≤ xs.length) : ByteRow W (.slice (some ⟨b, off, none⟩) d cap) (xs.take d) := by
  have hs := byteRow_sub (p := 0) (n := d) h (by omega)
  have ha : (if cap = 0 then (some ⟨b, off, none⟩ : Option Addr) else (some ⟨b, off, none⟩ : Option Addr).map (·.add 0)) = some ⟨b, off, none⟩ := by
    split
    · rfl
    · simp [Addr.add]
  rw [ha, Nat.sub_zero] at hs
  unfold sl at hs
  rw [List.drop_zero] at hs
  exact hs

theorem value_at (w : World) (v : Value) (xs : List Nat) (h : ByteRow w v xs) (h4 : xs.length ≤ 4) :
    Calls Tryz.prog 48 #[v] w fun e w' => e = .returned (.int .u32 (val xs : Int)) ∧ w = w' :=
  (value_any w v xs h h4).mono fun _ _ h => ⟨h.1, h.2.symm⟩

theorem step6 {F T X O p : Nat} {E : List Nat} (hb : F / 8 % 2 = 1) : rdStep xs 6 (mk F T X O p E [] []) = (zeroAt (xs.drop p)).map fun z => mk F T X O (p + z + 1) E (sl xs p z) [] := by
  unfold rdStep textR
  simp only
  rw [if_pos (by omega)]
  cases zeroAt (xs.drop p) <;> rfl

theorem step6n {F T X O p : Nat} {E : List Nat} (hb : ¬ F / 8 % 2 = 1) : rdStep xs 6 (mk F T X O p E [] []) = some (mk F T X O p E [] []) := by
  unfold rdStep textR
  simp only
  rw [if_neg (by omega)]
  rfl

theorem step7 {F T X O p : Nat} {E N : List Nat} (hb : F / 16 % 2 = 1) : rdStep xs 7 (mk F T X O p E N []) = (zeroAt (xs.drop p)).map fun z => mk F T X O (p + z + 1) E N (sl xs p z) := by
  unfold rdStep textR
  simp only
  rw [if_pos (by omega)]
  cases zeroAt (xs.drop p) <;> rfl

theorem step7n {F T X O p : Nat} {E N : List Nat} (hb : ¬ F / 16 % 2 = 1) : rdStep xs 7 (mk F T X O p E N []) = some (mk F T X O p E N []) := by
  unfold rdStep textR
  simp only
  rw [if_neg (by omega)]
  rfl

theorem zero_at (w : World) (v : Value) (xs : List Nat) (h : ByteRow w v xs) (hl : xs.length ≤ 1000000) (p : Nat) (hp : p ≤ xs.length) :
    Calls Tryz.prog 49 #[v, .int .i64 (p : Int)] w fun e w' => e = .returned (.int .i64 (zI xs p)) ∧ w = w' :=
  (zero_any w v xs h hl p hp).mono fun _ _ h => ⟨h.1, h.2.symm⟩

theorem ten_of (h : 10 ≤ xs.length) : sl xs 0 3 = [xs[0], xs[1], xs[2]] ∧ val (sl xs 3 1) = xs[3] ∧ val (sl xs 8 1) = xs[8] ∧ val (sl xs 9 1) = xs[9] := by
  match xs, h with
  | a0 :: a1 :: a2 :: a3 :: a4 :: a5 :: a6 :: a7 :: a8 :: a9 :: t, _ => simp [sl, val]

set_option maxHeartbeats 4000000 in
theorem setHead {n : Nat} (st : St B w0 w (boxT n noHead 80 :: r)) (h : Gz) (ev : Value) :
    St B w0 (((((((((w.setCell ⟨n, 0, none⟩ (.bool h.text)).setCell ⟨n, 1, none⟩ (.int .u32 (h.time : Int))).setCell ⟨n, 2, none⟩ (.int .u8 (h.xfl : Int))).setCell ⟨n, 3, none⟩ (.int .u8 (h.os : Int))).setCell ⟨n, 4, none⟩ (ev)).setCell ⟨n, 5, none⟩ (.string (strOf h.name))).setCell ⟨n, 6, none⟩ (.string (strOf h.comment))).setCell ⟨n, 7, none⟩ (.int .u8 (h.has : Int))).setCell ⟨n, 8, none⟩ (.bool h.sum)) (boxT n (headC h ev) 80 :: r) := by
  have t1 : St B w0 (w.setCell ⟨n, 0, none⟩ (.bool h.text)) (boxT n #[.bool h.text, .int .u32 0, .int .u8 0, .int .u8 0, .slice none 0 0, .string ⟨#[]⟩, .string ⟨#[]⟩, .int .u8 0, .bool false] 80 :: r) := St.setBoxAt st 0 _
  have t2 : St B w0 ((w.setCell ⟨n, 0, none⟩ (.bool h.text)).setCell ⟨n, 1, none⟩ (.int .u32 (h.time : Int))) (boxT n #[.bool h.text, .int .u32 (h.time : Int), .int .u8 0, .int .u8 0, .slice none 0 0, .string ⟨#[]⟩, .string ⟨#[]⟩, .int .u8 0, .bool false] 80 :: r) := St.setBoxAt t1 1 _
  have t3 : St B w0 (((w.setCell ⟨n, 0, none⟩ (.bool h.text)).setCell ⟨n, 1, none⟩ (.int .u32 (h.time : Int))).setCell ⟨n, 2, none⟩ (.int .u8 (h.xfl : Int))) (boxT n #[.bool h.text, .int .u32 (h.time : Int), .int .u8 (h.xfl : Int), .int .u8 0, .slice none 0 0, .string ⟨#[]⟩, .string ⟨#[]⟩, .int .u8 0, .bool false] 80 :: r) := St.setBoxAt t2 2 _
  have t4 : St B w0 ((((w.setCell ⟨n, 0, none⟩ (.bool h.text)).setCell ⟨n, 1, none⟩ (.int .u32 (h.time : Int))).setCell ⟨n, 2, none⟩ (.int .u8 (h.xfl : Int))).setCell ⟨n, 3, none⟩ (.int .u8 (h.os : Int))) (boxT n #[.bool h.text, .int .u32 (h.time : Int), .int .u8 (h.xfl : Int), .int .u8 (h.os : Int), .slice none 0 0, .string ⟨#[]⟩, .string ⟨#[]⟩, .int .u8 0, .bool false] 80 :: r) := St.setBoxAt t3 3 _
  have t5 : St B w0 (((((w.setCell ⟨n, 0, none⟩ (.bool h.text)).setCell ⟨n, 1, none⟩ (.int .u32 (h.time : Int))).setCell ⟨n, 2, none⟩ (.int .u8 (h.xfl : Int))).setCell ⟨n, 3, none⟩ (.int .u8 (h.os : Int))).setCell ⟨n, 4, none⟩ (ev)) (boxT n #[.bool h.text, .int .u32 (h.time : Int), .int .u8 (h.xfl : Int), .int .u8 (h.os : Int), ev, .string ⟨#[]⟩, .string ⟨#[]⟩, .int .u8 0, .bool false] 80 :: r) := St.setBoxAt t4 4 _
  have t6 : St B w0 ((((((w.setCell ⟨n, 0, none⟩ (.bool h.text)).setCell ⟨n, 1, none⟩ (.int .u32 (h.time : Int))).setCell ⟨n, 2, none⟩ (.int .u8 (h.xfl : Int))).setCell ⟨n, 3, none⟩ (.int .u8 (h.os : Int))).setCell ⟨n, 4, none⟩ (ev)).setCell ⟨n, 5, none⟩ (.string (strOf h.name))) (boxT n #[.bool h.text, .int .u32 (h.time : Int), .int .u8 (h.xfl : Int), .int .u8 (h.os : Int), ev, .string (strOf h.name), .string ⟨#[]⟩, .int .u8 0, .bool false] 80 :: r) := St.setBoxAt t5 5 _
  have t7 : St B w0 (((((((w.setCell ⟨n, 0, none⟩ (.bool h.text)).setCell ⟨n, 1, none⟩ (.int .u32 (h.time : Int))).setCell ⟨n, 2, none⟩ (.int .u8 (h.xfl : Int))).setCell ⟨n, 3, none⟩ (.int .u8 (h.os : Int))).setCell ⟨n, 4, none⟩ (ev)).setCell ⟨n, 5, none⟩ (.string (strOf h.name))).setCell ⟨n, 6, none⟩ (.string (strOf h.comment))) (boxT n #[.bool h.text, .int .u32 (h.time : Int), .int .u8 (h.xfl : Int), .int .u8 (h.os : Int), ev, .string (strOf h.name), .string (strOf h.comment), .int .u8 0, .bool false] 80 :: r) := St.setBoxAt t6 6 _
  have t8 : St B w0 ((((((((w.setCell ⟨n, 0, none⟩ (.bool h.text)).setCell ⟨n, 1, none⟩ (.int .u32 (h.time : Int))).setCell ⟨n, 2, none⟩ (.int .u8 (h.xfl : Int))).setCell ⟨n, 3, none⟩ (.int .u8 (h.os : Int))).setCell ⟨n, 4, none⟩ (ev)).setCell ⟨n, 5, none⟩ (.string (strOf h.name))).setCell ⟨n, 6, none⟩ (.string (strOf h.comment))).setCell ⟨n, 7, none⟩ (.int .u8 (h.has : Int))) (boxT n #[.bool h.text, .int .u32 (h.time : Int), .int .u8 (h.xfl : Int), .int .u8 (h.os : Int), ev, .string (strOf h.name), .string (strOf h.comment), .int .u8 (h.has : Int), .bool false] 80 :: r) := St.setBoxAt t7 7 _
  have t9 : St B w0 (((((((((w.setCell ⟨n, 0, none⟩ (.bool h.text)).setCell ⟨n, 1, none⟩ (.int .u32 (h.time : Int))).setCell ⟨n, 2, none⟩ (.int .u8 (h.xfl : Int))).setCell ⟨n, 3, none⟩ (.int .u8 (h.os : Int))).setCell ⟨n, 4, none⟩ (ev)).setCell ⟨n, 5, none⟩ (.string (strOf h.name))).setCell ⟨n, 6, none⟩ (.string (strOf h.comment))).setCell ⟨n, 7, none⟩ (.int .u8 (h.has : Int))).setCell ⟨n, 8, none⟩ (.bool h.sum)) (boxT n #[.bool h.text, .int .u32 (h.time : Int), .int .u8 (h.xfl : Int), .int .u8 (h.os : Int), ev, .string (strOf h.name), .string (strOf h.comment), .int .u8 (h.has : Int), .bool h.sum] 80 :: r) := St.setBoxAt t8 8 _
  exact t9

theorem headFz {n : Nat} {cs : Array Value} (st : St B w0 w (boxT n cs 80 :: r)) : w.frozen? ⟨n, 0, none⟩ = false ∧ w.frozen? ⟨n, 1, none⟩ = false ∧ w.frozen? ⟨n, 2, none⟩ = false ∧ w.frozen? ⟨n, 3, none⟩ = false ∧ w.frozen? ⟨n, 4, none⟩ = false ∧ w.frozen? ⟨n, 5, none⟩ = false ∧ w.frozen? ⟨n, 6, none⟩ = false ∧ w.frozen? ⟨n, 7, none⟩ = false ∧ w.frozen? ⟨n, 8, none⟩ = false :=
  ⟨(st.boxAt 0).2, (st.boxAt 1).2, (st.boxAt 2).2, (st.boxAt 3).2, (st.boxAt 4).2, (st.boxAt 5).2, (st.boxAt 6).2, (st.boxAt 7).2, (st.boxAt 8).2⟩

theorem wp_any {P : Program} {c : Code} {Q : Exit → Act → World → Prop} {a : Act} {L : List Thing} {W : World} (t : St B w0 W L) (h : ∀ W, St B w0 W L → c.wp P Q a W) : c.wp P Q a W := h _ t

theorem post_any {P : Program} {f : Go.Func} {G : Ending → World → Prop} {e : Exit} {a : Act} {L : List Thing} {W : World} (t : St B w0 W L) (h : ∀ W, St B w0 W L → bodyPost P f G e a W) : bodyPost P f G e a W := h _ t

set_option maxRecDepth 100000 in
set_option maxHeartbeats 16000000 in
theorem refGet_st (st : St B w0 w r) (v : Value) (xs : List Nat) (hv : ∀ W, St B w0 W r → ByteRow W v xs) (hx : xs.length ≤ 1000000) :
    Calls Tryz.prog 32 #[v] w (GetSt B w0 r (get xs)) := by
  obtain ⟨X, hX⟩ : ∃ X, get xs = X := ⟨_, rfl⟩
  rw [hX]
  have HX := Lib.hid hX
  clear hX
  have hbyte := (hv w st).byte
  obtain ⟨va, vc, hv0⟩ : ∃ a c, v = .slice a xs.length c := by obtain ⟨a, c, e, _⟩ := hv w st; exact ⟨a, c, e⟩
  subst hv0
  have hvc : xs.length ≤ vc := by obtain ⟨a, c, e, h, _⟩ := hv w st; obtain ⟨-, -, rfl⟩ := Value.slice.inj e; exact h
  obtain ⟨n, hn⟩ : ∃ n, w.heap.size = n := ⟨_, rfl⟩
  have s2 := ((st.newBox noHead 80).addNil (e := 5) (size := 1)).newBox noHead 80
  have z1 : (w.alloc (.cells noHead 80)).heap.size = n + 1 := by simp [hn]
  rw [z1, hn] at s2
  clear z1 st
  go_enter Tryz.func32, Tryz.ntmps32
  go_upto_region 2 with fail
  clear hn
  generalize hw2 : (w.alloc (.cells noHead 80)).alloc (.cells noHead 80) = w2 at *
  clear hw2
  generalize n + 1 = n2 at *
  have hrow := hv w2 s2.drop.drop.drop
  obtain ⟨b, hb⟩ : ∃ b : Bool, b = !(decide (10 ≤ xs.length ∧ sl xs 0 3 = [31, 139, 8] ∧ val (sl xs 3 1) < 32)) := ⟨_, rfl⟩
  have HB := Lib.hid hb
  clear hb
  go_cut [39] from 13 (fun c wx => c = .bool b ∧ wx = w2)
  case first =>
    clear hv HX
    by_cases hlen : xs.length < 10
    · obtain rfl : b = true := by rw [HB.out]; simp; omega
      go_wp2
      go_meet
      exact ⟨rfl, rfl⟩
    · obtain ⟨bb, off, rfl⟩ := byteRow_some hrow (by omega)
      have hl : 10 ≤ xs.length := by omega
      have hl2 : ¬ (xs.length : Int) < 10 := by omega
      obtain ⟨g1, g2, -, -⟩ := ten_of hl
      have c0 := byteRow_cell hrow 0 (by omega)
      have c1 := byteRow_cell hrow 1 (by omega)
      have c2 := byteRow_cell hrow 2 (by omega)
      have c3 := byteRow_cell hrow 3 (by omega)
      rw [Nat.add_zero] at c0
      obtain ⟨x0, h0⟩ : ∃ x, xs[0] = x := ⟨_, rfl⟩
      obtain ⟨x1, h1⟩ : ∃ x, xs[1] = x := ⟨_, rfl⟩
      obtain ⟨x2, h2⟩ : ∃ x, xs[2] = x := ⟨_, rfl⟩
      obtain ⟨x3, h3⟩ : ∃ x, xs[3] = x := ⟨_, rfl⟩
      have hb : b = !(decide (x0 = 31 ∧ x1 = 139 ∧ x2 = 8 ∧ x3 < 32)) := by
        rw [HB.out, g1, g2, h0, h1, h2, h3]
        congr 1
        rw [decide_eq_decide]
        simp [hl, and_assoc]
      rw [h0] at c0
      rw [h1] at c1
      rw [h2] at c2
      rw [h3] at c3
      have H2 := Lib.hid hb
      clear HB hb g1 g2 h0 h1 h2 h3 hrow
      by_cases d0 : x0 = 31
      · subst d0
        by_cases d1 : x1 = 139
        · subst d1
          by_cases d2 : x2 = 8
          · subst d2
            by_cases d3 : x3 < 32
            · obtain rfl : b = false := by rw [H2.out]; simp [d3]
              have hd : ¬ (31 : Int) < (x3 : Int) := by omega
              go_wp2
              go_meet
              exact ⟨rfl, rfl⟩
            · obtain rfl : b = true := by rw [H2.out]; simp [d3]
              have hd : (31 : Int) < (x3 : Int) := by omega
              go_wp2
              go_meet
              exact ⟨rfl, rfl⟩
          · obtain rfl : b = true := by rw [H2.out]; simp [d2]
            have hd : ¬ (x2 : Int) = 8 := by omega
            go_wp2
            go_meet
            exact ⟨rfl, rfl⟩
        · obtain rfl : b = true := by rw [H2.out]; simp [d1]
          have hd : ¬ (x1 : Int) = 139 := by omega
          go_wp2
          go_meet
          exact ⟨rfl, rfl⟩
      · obtain rfl : b = true := by rw [H2.out]; simp [d0]
        have hd : ¬ (x0 : Int) = 31 := by omega
        go_wp2
        go_meet
        exact ⟨rfl, rfl⟩
  case rest =>
  obtain ⟨rfl, rfl⟩ := hcut
  cases b with
  | true =>
    have e0 : X = none := by
      rw [← HX.out]
      refine get_none (k := 5) (by omega) ?_
      rw [after_five, if_neg (fun hc => by have := HB.out; rw [decide_eq_true hc] at this; cases this)]
    subst e0
    obtain ⟨k0, k1, k2, k3, k4, k5, k6, k7, k8⟩ := headAt (h := Gz.nil) (ev := .slice none 0 0) s2
    have t1 := s2.front 2
    obtain ⟨j0, j1, j2, j3, j4, j5, j6, j7, j8⟩ := headAt (h := Gz.nil) (ev := .slice none 0 0) t1
    obtain ⟨f0, f1, f2, f3, f4, f5, f6, f7, f8⟩ := headFz t1
    have t2 := setHead t1 Gz.nil (.slice none 0 0)
    clear t1 s2 hv
    go_wp2
    refine post_any t2 ?_
    intro W t3
    clear t2 f0 f1 f2 f3 f4 f5 f6 f7 f8 j0 j1 j2 j3 j4 j5 j6 j7 j8 k0 k1 k2 k3 k4 k5 k6 k7 k8
    obtain ⟨j0, j1, j2, j3, j4, j5, j6, j7, j8⟩ := headAt (h := Gz.nil) (ev := .slice none 0 0) t3
    exact bodyPost_ret (v := .tuple #[.agg (headC Gz.nil (.slice none 0 0)), .int .i64 0, .bool false, .int .i64 2]) (by simp [results, Tryz.results32, go_sem, j0, j1, j2, j3, j4, j5, j6, j7, j8]) rfl ⟨rfl, t3.drop.drop.drop⟩
  | false =>
    obtain ⟨hl, h3, hF⟩ : 10 ≤ xs.length ∧ sl xs 0 3 = [31, 139, 8] ∧ val (sl xs 3 1) < 32 := by
      have := HB.out
      simp only [Bool.false_eq, Bool.not_eq_false', decide_eq_true_eq] at this
      exact this
    have h5 : after xs 5 = some (mk (val (sl xs 3 1)) (val (sl xs 4 4)) (val (sl xs 8 1)) (val (sl xs 9 1)) 10 [] [] []) := by
      rw [after_five, if_pos ⟨hl, h3, hF⟩]
    obtain ⟨-, e3, e8, e9⟩ := ten_of hl
    have hT := sl_val hbyte (p := 4) (n := 4) (by omega)
    have hXf := sl_val hbyte (p := 8) (n := 1) (by omega)
    have hO := sl_val hbyte (p := 9) (n := 1) (by omega)
    obtain ⟨F, eF⟩ : ∃ F, val (sl xs 3 1) = F := ⟨_, rfl⟩
    obtain ⟨T, eT⟩ : ∃ T, val (sl xs 4 4) = T := ⟨_, rfl⟩
    obtain ⟨Xf, eX⟩ : ∃ T, val (sl xs 8 1) = T := ⟨_, rfl⟩
    obtain ⟨O, eO⟩ : ∃ T, val (sl xs 9 1) = T := ⟨_, rfl⟩
    rw [eF, eT, eX, eO] at h5
    rw [eF] at hF e3
    rw [eT] at hT
    rw [eX] at hXf e8
    rw [eO] at hO e9
    have H5 := Lib.hid h5
    have HT := Lib.hid eT
    have E3 := Lib.hid e3.symm
    have E8 := Lib.hid e8.symm
    have E9 := Lib.hid e9.symm
    clear h3 h5 eF eT eX eO e3 e8 e9 HB hrow
    obtain ⟨bb, off, rfl⟩ := byteRow_some (hv _ s2.drop.drop.drop) (by omega)
    have c3 := byteRow_cell (hv _ s2.drop.drop.drop) 3 (by omega)
    rw [E3.out] at c3
    go_upto_if 47 with fail
    have HV := Lib.hid hv
    clear hv
    go_cut [8] from 13 (fun at' wx => ∃ (p : Nat) (E : List Nat) (ev : Value), at' = .int .i64 (p : Int) ∧ Hid (after xs 6 = some (mk F T Xf O p E [] [])) ∧ St B w0 wx (boxT n2 (headC (pl E [] [] false) ev) 80 :: rowT 5 1 ev E.length (u8s E) :: boxT n noHead 80 :: r))
    case first =>
      have hv := HV.out
      clear HV
      by_cases cF : F / 4 % 2 = 1
      · have hi : ((F : Int) / 4 % 2 == 1) = true := by rw [beq_iff_eq]; omega
        by_cases c12 : xs.length < 12
        · have e0 : X = none := by
            rw [← HX.out]
            refine get_none (k := 6) (by omega) ?_
            show (after xs 5).bind _ = none
            rw [H5.out]
            show rdStep xs 5 _ = none
            unfold rdStep
            simp only [cF, if_true]
            rw [if_neg (by omega)]
          subst e0
          obtain ⟨k0, k1, k2, k3, k4, k5, k6, k7, k8⟩ := headAt (h := Gz.nil) (ev := .slice none 0 0) s2
          have t1 := s2.front 2
          obtain ⟨j0, j1, j2, j3, j4, j5, j6, j7, j8⟩ := headAt (h := Gz.nil) (ev := .slice none 0 0) t1
          obtain ⟨f0, f1, f2, f3, f4, f5, f6, f7, f8⟩ := headFz t1
          have t2 := setHead t1 Gz.nil (.slice none 0 0)
          clear t1 s2 hv
          go_wp2
          refine post_any t2 ?_
          intro W t3
          clear t2 f0 f1 f2 f3 f4 f5 f6 f7 f8 j0 j1 j2 j3 j4 j5 j6 j7 j8 k0 k1 k2 k3 k4 k5 k6 k7 k8
          obtain ⟨j0, j1, j2, j3, j4, j5, j6, j7, j8⟩ := headAt (h := Gz.nil) (ev := .slice none 0 0) t3
          exact bodyPost_ret (v := .tuple #[.agg (headC Gz.nil (.slice none 0 0)), .int .i64 0, .bool false, .int .i64 2]) (by simp [results, Tryz.results32, go_sem, j0, j1, j2, j3, j4, j5, j6, j7, j8]) rfl ⟨rfl, t3.drop.drop.drop⟩
        · obtain ⟨V, hV⟩ : ∃ V, val (sl xs 10 2) = V := ⟨_, rfl⟩
          have hV6 : V < 65536 := by rw [← hV]; exact sl_val hbyte (by omega)
          have hsub := byteRow_at (hv _ s2.drop.drop.drop) 10 2 (by omega) (by omega)
          have hval := value_at wc _ _ hsub (by rw [sl_length (by omega)]; omega)
          rw [hV] at hval
          have HVV := Lib.hid hV
          clear hV hsub
          by_cases cV : xs.length < 12 + V
          · have e0 : X = none := by
              rw [← HX.out]
              refine get_none (k := 6) (by omega) ?_
              show (after xs 5).bind _ = none
              rw [H5.out]
              show rdStep xs 5 _ = none
              unfold rdStep
              simp only [cF, if_true]
              rw [if_neg (by rw [HVV.out]; omega)]
            subst e0
            have hcV : (xs.length : Int) - 12 < (V : Int) := by omega
            go_wp2_with fail
            refine hval.mono ?_
            rintro e w' ⟨rfl, rfl⟩
            clear hval
            obtain ⟨k0, k1, k2, k3, k4, k5, k6, k7, k8⟩ := headAt (h := Gz.nil) (ev := .slice none 0 0) s2
            have t1 := s2.front 2
            obtain ⟨j0, j1, j2, j3, j4, j5, j6, j7, j8⟩ := headAt (h := Gz.nil) (ev := .slice none 0 0) t1
            obtain ⟨f0, f1, f2, f3, f4, f5, f6, f7, f8⟩ := headFz t1
            have t2 := setHead t1 Gz.nil (.slice none 0 0)
            clear t1 s2 hv
            go_wp2
            refine post_any t2 ?_
            intro W t3
            clear t2 f0 f1 f2 f3 f4 f5 f6 f7 f8 j0 j1 j2 j3 j4 j5 j6 j7 j8 k0 k1 k2 k3 k4 k5 k6 k7 k8
            obtain ⟨j0, j1, j2, j3, j4, j5, j6, j7, j8⟩ := headAt (h := Gz.nil) (ev := .slice none 0 0) t3
            exact bodyPost_ret (v := .tuple #[.agg (headC Gz.nil (.slice none 0 0)), .int .i64 0, .bool false, .int .i64 2]) (by simp [results, Tryz.results32, go_sem, j0, j1, j2, j3, j4, j5, j6, j7, j8]) rfl ⟨rfl, t3.drop.drop.drop⟩
          · have h6 : after xs 6 = some (mk F T Xf O (12 + V) (sl xs 12 V) [] []) := by
              show (after xs 5).bind _ = _
              rw [H5.out]
              show rdStep xs 5 _ = _
              unfold rdStep
              simp only [cF, if_true]
              rw [if_pos (by rw [HVV.out]; omega), HVV.out]
            have H6 := Lib.hid h6
            clear h6
            have hcV : ¬ (xs.length : Int) - 12 < (V : Int) := by omega
            have hlV : (sl xs 12 V).length = V := sl_length (by omega)
            by_cases d : vc = 12
            · have hsub2 : ByteRow wc (.slice (some ⟨bb, off, none⟩) V (vc - 12)) (sl xs 12 V) := by
                have h2 := byteRow_sub (hv _ s2.drop.drop.drop) 12 V (by omega)
                rw [if_pos d] at h2
                exact h2
              subst d
              go_wp2_with fail
              refine hval.mono ?_
              rintro e w' ⟨rfl, rfl⟩
              go_wp2_with fail
              refine hval.mono ?_
              rintro e w' ⟨rfl, rfl⟩
              clear hval
              go_wp2_with (at_builtin; refine wpList_copyW rfl (.tmp 67) (.tmp 70) rfl s2 hsub2 rfl (by show Value.slice _ _ _ = Value.slice _ _ _; congr 1 <;> omega) (by omega) ?_)
              intro v5 w5 s5
              obtain ⟨a5, c5, rfl⟩ := ownsRow_slice s5.row
              obtain ⟨j4, f4⟩ := St.boxAt (s5.front 1) 4
              have s6 := (s5.front 1).setBoxAt 4 (.slice a5 V c5)
              clear s5 s2 hsub2
              go_wp2
              go_meet
              exact ⟨12 + V, sl xs 12 V, .slice a5 V c5, by congr 1, H6, by rw [hlV]; exact (s6.front 2).drop⟩
            · have hsub2 := byteRow_at (hv _ s2.drop.drop.drop) 12 V (by omega) (by omega)
              go_wp2_with fail
              refine hval.mono ?_
              rintro e w' ⟨rfl, rfl⟩
              go_wp2_with fail
              refine hval.mono ?_
              rintro e w' ⟨rfl, rfl⟩
              clear hval
              go_wp2_with (at_builtin; refine wpList_copyW rfl (.tmp 67) (.tmp 70) rfl s2 hsub2 rfl (by show Value.slice _ _ _ = Value.slice _ _ _; congr 1 <;> omega) (by omega) ?_)
              intro v5 w5 s5
              obtain ⟨a5, c5, rfl⟩ := ownsRow_slice s5.row
              obtain ⟨j4, f4⟩ := St.boxAt (s5.front 1) 4
              have s6 := (s5.front 1).setBoxAt 4 (.slice a5 V c5)
              clear s5 s2 hsub2
              go_wp2
              go_meet
              exact ⟨12 + V, sl xs 12 V, .slice a5 V c5, by congr 1, H6, by rw [hlV]; exact (s6.front 2).drop⟩
      · have h6 : after xs 6 = some (mk F T Xf O 10 [] [] []) := by
          show (after xs 5).bind _ = _
          rw [H5.out]
          show rdStep xs 5 _ = _
          unfold rdStep
          simp only [cF, if_false]
        have H6 := Lib.hid h6
        clear h6
        have hi : ((F : Int) / 4 % 2 == 1) = false := by rw [beq_eq_false_iff_ne]; omega
        have hi2 : ¬ (F : Int) / 4 % 2 = 1 := by omega
        go_wp2
        go_meet
        exact ⟨10, [], _, rfl, H6, s2⟩
    case rest =>
    have hv := HV.out
    clear HV H5 s2 c3
    obtain ⟨p, E, ev, rfl, H6, s3⟩ := hcut
    go_wp2
    go_loopw [8, 10] (fun at' kv wr => ∃ (k p : Nat) (E N C : List Nat) (ev : Value), k ≤ 2 ∧ at' = .int .i64 (p : Int) ∧ kv = .int .i64 (k : Int) ∧ Hid ((k = 0 → N = []) ∧ (k ≤ 1 → C = [])) ∧ Hid (after xs (6 + k) = some (mk F T Xf O p E N C)) ∧ St B w0 wr (boxT n2 (headC (pl E N C false) ev) 80 :: rowT 5 1 ev E.length (u8s E) :: boxT n noHead 80 :: r)) (fun _ kv _ => 2 - (intOf kv).toNat)
    case atStart => exact ⟨0, p, E, [], [], ev, by omega, rfl, rfl, Lib.hid ⟨fun _ => rfl, fun _ => rfl⟩, H6, s3⟩
    case round =>
      clear H6 s3
      obtain ⟨k, p, E, N, C, ev, hk, rfl, rfl, HN, H7, s4⟩ := hrel
      have hp : p ≤ xs.length := (good_after hbyte (by omega) H7.out).here
      have hkk : k = 0 ∨ k = 1 ∨ k = 2 := by omega
      rcases hkk with rfl | rfl | rfl
      · obtain rfl := HN.out.1 rfl
        obtain rfl := HN.out.2 (by omega)
        clear HN
        by_cases cF : F / 8 % 2 = 1
        · have hi : ((F : Int) / 8 % 2 == 0) = false := by rw [beq_eq_false_iff_ne]; omega
          have hi2 : ¬ (F : Int) / 8 % 2 = 0 := by omega
          have hzc := zero_at wr _ xs (hv _ s4.drop.drop.drop) hx p hp
          cases hz : zeroAt (xs.drop p) with
          | none =>
            have hzI : zI xs p = -1 := by unfold zI; rw [hz]
            rw [hzI] at hzc
            have e0 : X = none := by
              rw [← HX.out]
              refine get_none (k := 7) (by omega) ?_
              show (after xs 6).bind _ = none
              rw [show after xs 6 = _ from H7.out]
              show rdStep xs 6 _ = none
              rw [step6 cF, hz]
              rfl
            subst e0
            clear hzI hz
            go_wp2_with fail
            refine hzc.mono ?_
            rintro e w' ⟨rfl, rfl⟩
            clear hzc
            have t1 := s4.front 2
            obtain ⟨j0, j1, j2, j3, j4, j5, j6, j7, j8⟩ := headAt (h := Gz.nil) (ev := .slice none 0 0) t1
            obtain ⟨f0, f1, f2, f3, f4, f5, f6, f7, f8⟩ := headFz t1
            have t2 := setHead t1 Gz.nil (.slice none 0 0)
            clear t1 s4 hv
            go_wp2
            refine post_any t2 ?_
            intro W t3
            clear t2 f0 f1 f2 f3 f4 f5 f6 f7 f8 j0 j1 j2 j3 j4 j5 j6 j7 j8
            obtain ⟨j0, j1, j2, j3, j4, j5, j6, j7, j8⟩ := headAt (h := Gz.nil) (ev := .slice none 0 0) t3
            exact bodyPost_ret (v := .tuple #[.agg (headC Gz.nil (.slice none 0 0)), .int .i64 0, .bool false, .int .i64 2]) (by simp [results, Tryz.results32, go_sem, j0, j1, j2, j3, j4, j5, j6, j7, j8]) rfl ⟨rfl, t3.drop.drop.drop⟩
          | some z =>
            obtain ⟨hz1, -, -⟩ := zeroAt_some hz
            rw [List.length_drop] at hz1
            have h7 : after xs (6 + 1) = some (mk F T Xf O (p + z + 1) E (sl xs p z) []) := by
              show (after xs 6).bind _ = _
              rw [show after xs 6 = _ from H7.out]
              show rdStep xs 6 _ = _
              rw [step6 cF, hz]
              rfl
            have H8 := Lib.hid h7
            obtain ⟨q, hq⟩ : ∃ q, p + z = q := ⟨_, rfl⟩
            have hzI : zI xs p = ((q : Nat) : Int) := by unfold zI; rw [hz]; simp only; rw [hq]
            rw [hzI] at hzc
            have hpq : p ≤ q := by omega
            have hqx : q < xs.length := by omega
            have hpc : p < vc := by omega
            have hrw := byteRow_at (hv _ s4.drop.drop.drop) p z (by omega) hpc
            rw [show z = q - p from by omega] at hrw
            have hstr := run_string wr _ _ hrw.reads
            rw [show q - p = z from by omega] at hrw
            obtain ⟨t, ht⟩ : ∃ t, strOf (sl xs p (q - p)) = t := ⟨_, rfl⟩
            rw [ht] at hstr
            rw [show q - p = z from by omega] at ht
            have HT2 := Lib.hid ht
            have HQ := Lib.hid hq
            obtain ⟨j5, f5⟩ := St.boxAt s4 5
            have s5 := s4.setBoxAt 5 (.string t)
            clear ht hq hrw h7 hzI hz hz1 H7 hv
            go_wp2_with fail
            refine hzc.mono ?_
            rintro e w' ⟨rfl, rfl⟩
            clear hzc
            go_wp2
            have e2 := HQ.out
            subst e2
            have e3 := HT2.out
            subst e3
            exact ⟨⟨1, p + z + 1, E, (sl xs p z), [], ev, by omega, by congr 1, rfl, Lib.hid ⟨fun h => absurd h (by omega), fun _ => rfl⟩, H8, s5⟩, by simp [intOf]⟩
        · have h7 : after xs (6 + 1) = some (mk F T Xf O p E [] []) := by
            show (after xs 6).bind _ = _
            rw [show after xs 6 = _ from H7.out]
            show rdStep xs 6 _ = _
            rw [step6n cF]
          have H8 := Lib.hid h7
          have hi : ((F : Int) / 8 % 2 == 0) = true := by rw [beq_iff_eq]; omega
          clear h7 H7 hv
          go_wp2
          exact ⟨⟨1, p, E, [], [], ev, by omega, rfl, rfl, Lib.hid ⟨fun h => absurd h (by omega), fun _ => rfl⟩, H8, s4⟩, by simp [intOf]⟩
      · obtain rfl := HN.out.2 (by omega)
        clear HN
        by_cases cF : F / 16 % 2 = 1
        · have hi : ((F : Int) / 16 % 2 == 0) = false := by rw [beq_eq_false_iff_ne]; omega
          have hi2 : ¬ (F : Int) / 16 % 2 = 0 := by omega
          have hzc := zero_at wr _ xs (hv _ s4.drop.drop.drop) hx p hp
          cases hz : zeroAt (xs.drop p) with
          | none =>
            have hzI : zI xs p = -1 := by unfold zI; rw [hz]
            rw [hzI] at hzc
            have e0 : X = none := by
              rw [← HX.out]
              refine get_none (k := 8) (by omega) ?_
              show (after xs 7).bind _ = none
              rw [show after xs 7 = _ from H7.out]
              show rdStep xs 7 _ = none
              rw [step7 cF, hz]
              rfl
            subst e0
            clear hzI hz
            go_wp2_with fail
            refine hzc.mono ?_
            rintro e w' ⟨rfl, rfl⟩
            clear hzc
            have t1 := s4.front 2
            obtain ⟨j0, j1, j2, j3, j4, j5, j6, j7, j8⟩ := headAt (h := Gz.nil) (ev := .slice none 0 0) t1
            obtain ⟨f0, f1, f2, f3, f4, f5, f6, f7, f8⟩ := headFz t1
            have t2 := setHead t1 Gz.nil (.slice none 0 0)
            clear t1 s4 hv
            go_wp2
            refine post_any t2 ?_
            intro W t3
            clear t2 f0 f1 f2 f3 f4 f5 f6 f7 f8 j0 j1 j2 j3 j4 j5 j6 j7 j8
            obtain ⟨j0, j1, j2, j3, j4, j5, j6, j7, j8⟩ := headAt (h := Gz.nil) (ev := .slice none 0 0) t3
            exact bodyPost_ret (v := .tuple #[.agg (headC Gz.nil (.slice none 0 0)), .int .i64 0, .bool false, .int .i64 2]) (by simp [results, Tryz.results32, go_sem, j0, j1, j2, j3, j4, j5, j6, j7, j8]) rfl ⟨rfl, t3.drop.drop.drop⟩
          | some z =>
            obtain ⟨hz1, -, -⟩ := zeroAt_some hz
            rw [List.length_drop] at hz1
            have h7 : after xs (6 + 2) = some (mk F T Xf O (p + z + 1) E N (sl xs p z)) := by
              show (after xs 7).bind _ = _
              rw [show after xs 7 = _ from H7.out]
              show rdStep xs 7 _ = _
              rw [step7 cF, hz]
              rfl
            have H8 := Lib.hid h7
            obtain ⟨q, hq⟩ : ∃ q, p + z = q := ⟨_, rfl⟩
            have hzI : zI xs p = ((q : Nat) : Int) := by unfold zI; rw [hz]; simp only; rw [hq]
            rw [hzI] at hzc
            have hpq : p ≤ q := by omega
            have hqx : q < xs.length := by omega
            have hpc : p < vc := by omega
            have hrw := byteRow_at (hv _ s4.drop.drop.drop) p z (by omega) hpc
            rw [show z = q - p from by omega] at hrw
            have hstr := run_string wr _ _ hrw.reads
            rw [show q - p = z from by omega] at hrw
            obtain ⟨t, ht⟩ : ∃ t, strOf (sl xs p (q - p)) = t := ⟨_, rfl⟩
            rw [ht] at hstr
            rw [show q - p = z from by omega] at ht
            have HT2 := Lib.hid ht
            have HQ := Lib.hid hq
            obtain ⟨j5, f5⟩ := St.boxAt s4 6
            have s5 := s4.setBoxAt 6 (.string t)
            clear ht hq hrw h7 hzI hz hz1 H7 hv
            go_wp2_with fail
            refine hzc.mono ?_
            rintro e w' ⟨rfl, rfl⟩
            clear hzc
            go_wp2
            have e2 := HQ.out
            subst e2
            have e3 := HT2.out
            subst e3
            exact ⟨⟨2, p + z + 1, E, N, (sl xs p z), ev, by omega, by congr 1, rfl, Lib.hid ⟨fun h => absurd h (by omega), fun h => absurd h (by omega)⟩, H8, s5⟩, by simp [intOf]⟩
        · have h7 : after xs (6 + 2) = some (mk F T Xf O p E N []) := by
            show (after xs 7).bind _ = _
            rw [show after xs 7 = _ from H7.out]
            show rdStep xs 7 _ = _
            rw [step7n cF]
          have H8 := Lib.hid h7
          have hi : ((F : Int) / 16 % 2 == 0) = true := by rw [beq_iff_eq]; omega
          clear h7 H7 hv
          go_wp2
          exact ⟨⟨2, p, E, N, [], ev, by omega, rfl, rfl, Lib.hid ⟨fun h => absurd h (by omega), fun h => absurd h (by omega)⟩, H8, s4⟩, by simp [intOf]⟩
      · clear HN
        have hbyt := (hv _ s4.drop.drop.drop)
        go_upto_if 105 with fail
        have HV := Lib.hid hv
        clear hv
        go_cut [8, 12] from 13 (fun at' wv wx => ∃ (q : Nat) (b : Bool), at' = .int .i64 (q : Int) ∧ wv = .bool b ∧ Hid (X = some ⟨q, ⟨F % 2 == 1, T, Xf, O, E, N, C, F / 4, F / 2 % 2 == 1⟩, b⟩) ∧ St B w0 wx (boxT n2 (headC (pl E N C (F / 2 % 2 == 1)) ev) 80 :: rowT 5 1 ev E.length (u8s E) :: boxT n noHead 80 :: r))
        case first =>
          by_cases cS : F / 2 % 2 = 1
          · have hb : (F / 2 % 2 == 1) = true := by rw [beq_iff_eq]; exact cS
            have hi : ((F : Int) / 2 % 2 == 1) = true := by rw [beq_iff_eq]; omega
            have H9 : get xs = if p + 2 ≤ xs.length then some ⟨p + 2, ⟨F % 2 == 1, T, Xf, O, E, N, C, F / 4, true⟩, val (sl xs p 2) != lowSum (xs.take p) % 65536⟩ else none := by
              show (after xs 8).bind _ = _
              rw [show after xs 8 = _ from H7.out]
              show rdStep xs 8 _ = _
              unfold rdStep
              simp only [hb, if_true]
            rw [HX.out] at H9
            have HBB := Lib.hid hb
            clear hb
            by_cases cL : xs.length < p + 2
            · rw [if_neg (by omega)] at H9
              subst H9
              have hcL : (xs.length : Int) - (p : Int) < 2 := by omega
              have hv := HV.out
              have t1 := s4.front 2
              obtain ⟨j0, j1, j2, j3, j4, j5, j6, j7, j8⟩ := headAt (h := Gz.nil) (ev := .slice none 0 0) t1
              obtain ⟨f0, f1, f2, f3, f4, f5, f6, f7, f8⟩ := headFz t1
              have t2 := setHead t1 Gz.nil (.slice none 0 0)
              clear t1 s4 hv
              go_wp2
              refine post_any t2 ?_
              intro W t3
              clear t2 f0 f1 f2 f3 f4 f5 f6 f7 f8 j0 j1 j2 j3 j4 j5 j6 j7 j8
              obtain ⟨j0, j1, j2, j3, j4, j5, j6, j7, j8⟩ := headAt (h := Gz.nil) (ev := .slice none 0 0) t3
              exact bodyPost_ret (v := .tuple #[.agg (headC Gz.nil (.slice none 0 0)), .int .i64 0, .bool false, .int .i64 2]) (by simp [results, Tryz.results32, go_sem, j0, j1, j2, j3, j4, j5, j6, j7, j8]) rfl ⟨rfl, t3.drop.drop.drop⟩
            · rw [if_pos (by omega)] at H9
              have H10 := Lib.hid H9
              clear H9
              have hcL : ¬ (xs.length : Int) - (p : Int) < 2 := by omega
              have hv := HV.out
              have hpc : p < vc := by omega
              have hvv := fun k => value_any (wr.drewN k) _ _ (byteRow_at (hv _ (s4.drewN k).drop.drop.drop) p 2 (by omega) hpc) (by rw [sl_length (by omega)]; omega)
              have hll := fun k => (refLow_any (wr.drewN k) _ _ (byteRow_low (hv _ (s4.drewN k).drop.drop.drop) p hp) (by rw [List.length_take]; omega)).mono (fun e w' (h : _ ∧ _) => (⟨h.1, h.2.symm⟩ : e = _ ∧ w' = wr.drewN k))
              obtain ⟨V, hV⟩ : ∃ V, val (sl xs p 2) = V := ⟨_, rfl⟩
              have hV6 : V < 65536 := by rw [← hV]; exact sl_val hbyte (by omega)
              have hS : lowSum (xs.take p) < 4294967296 := (lowReg _ ^^^ ones).isLt
              obtain ⟨S, hSS⟩ : ∃ S, lowSum (xs.take p) = S := ⟨_, rfl⟩
              rw [hSS] at hS hll
              rw [hV] at hvv
              have h11 := H10.out
              rw [hV, hSS] at h11
              have H11 := Lib.hid h11
              have f8 := fun k => (St.boxAt (s4.drewN k) 8).2
              have j8 : ∀ k, (wr.drewN k).cell? ⟨n2, 8, none⟩ = some (.bool false) := fun k => (St.boxAt (s4.drewN k) 8).1
              clear hV hSS h11 H10 hv hbyt
              go_upto_region 28 with fail
              go_quiet ((first | (go_at_call 48; exact Calls.quiet_of_same (hvv _)) | (go_at_call 50; exact Calls.quiet_of_same (hll _))))
              have s5 := (s4.drewN nq).setBoxAt 8 (.bool true)
              have j8n := j8 nq
              have f8n := f8 nq
              clear j8 f8 hvv hll s4
              generalize wr.drewN nq = wd at *
              have hbool : ((V : Int) != (S : Int) % 65536) = (V != S % 65536) := by
                rw [Bool.eq_iff_iff]
                simp only [bne_iff_ne, ne_eq]
                omega
              have HBo := Lib.hid hbool
              clear hbool
              go_wp2
              go_meet
              exact ⟨p + 2, V != S % 65536, by congr 1, by rw [HBo.out], by rw [HBB.out]; exact H11, by rw [HBB.out]; exact s5⟩
          · have hb : (F / 2 % 2 == 1) = false := by rw [beq_eq_false_iff_ne]; exact cS
            have hi : ((F : Int) / 2 % 2 == 1) = false := by rw [beq_eq_false_iff_ne]; omega
            have hi2 : ¬ (F : Int) / 2 % 2 = 1 := by omega
            have H9 : X = some (mk F T Xf O p E N C) := by
              rw [← HX.out]
              show (after xs 8).bind _ = _
              rw [show after xs 8 = _ from H7.out]
              show rdStep xs 8 _ = _
              unfold rdStep
              simp only [hb, Bool.false_eq_true, if_false]
            have H10 := Lib.hid H9
            have HBB := Lib.hid hb
            clear H9 hb
            go_wp2
            go_meet
            exact ⟨p, false, rfl, rfl, H10, by rw [HBB.out]; exact s4⟩
        case rest =>
        have hv := HV.out
        clear HV s4 hbyt H7
        obtain ⟨q, b, rfl, rfl, H12, s5⟩ := hcut
        obtain ⟨ea, ec, rfl⟩ : ∃ a c, ev = .slice a E.length c := ownsRow_slice (St.row (s5.front 1))
        obtain ⟨tb, htb⟩ : ∃ t, (F % 2 == 1) = t := ⟨_, rfl⟩
        obtain ⟨G, hG⟩ : ∃ G, F / 4 = G := ⟨_, rfl⟩
        have h12 := H12.out
        rw [htb, hG] at h12
        have t1 : ((F : Int) % 2 == 1) = tb := by
          rw [← htb, Bool.eq_iff_iff, beq_iff_eq, beq_iff_eq]
          omega
        have t2 : (F : Int) / 4 = (G : Int) := by omega
        have hG8 : G < 256 := by omega
        obtain ⟨sm, hsm⟩ : ∃ t, (F / 2 % 2 == 1) = t := ⟨_, rfl⟩
        rw [hsm] at h12 s5
        subst h12
        clear H12 HX htb hG hsm
        obtain ⟨j0, f0⟩ := St.boxAt s5 0
        replace j0 : wc.cell? ⟨n2, 0, none⟩ = some (.bool false) := j0
        go_upto_region 32 with fail
        refine wp_any (s5.setBoxAt 0 (.bool tb)) ?_
        intro W1 s6
        clear j0 f0 s5
        obtain ⟨j7, f7⟩ := St.boxAt s6 7
        replace j7 : W1.cell? ⟨n2, 7, none⟩ = some (.int .u8 0) := j7
        go_upto_region 33 with fail
        refine wp_any (s6.setBoxAt 7 (.int .u8 (G : Int))) ?_
        intro W2 s7
        clear j7 f7 s6 t1 t2
        obtain ⟨j1, f1⟩ := St.boxAt s7 1
        replace j1 : W2.cell? ⟨n2, 1, none⟩ = some (.int .u32 0) := j1
        have hval := value_at W2 _ _ (byteRow_at (hv _ s7.drop.drop.drop) 4 4 (by omega) (by omega)) (by rw [sl_length (by omega)]; omega)
        rw [HT.out] at hval
        go_wp2_with fail
        refine hval.mono ?_
        rintro e w' ⟨rfl, rfl⟩
        clear hval
        go_upto_region 34 with fail
        refine wp_any (s7.setBoxAt 1 (.int .u32 (T : Int))) ?_
        intro W3 s8
        clear j1 f1 s7
        obtain ⟨j2, f2⟩ := St.boxAt s8 2
        replace j2 : W3.cell? ⟨n2, 2, none⟩ = some (.int .u8 0) := j2
        have c8 := byteRow_cell (hv _ s8.drop.drop.drop) 8 (by omega)
        rw [E8.out] at c8
        go_upto_region 35 with fail
        refine wp_any (s8.setBoxAt 2 (.int .u8 (Xf : Int))) ?_
        intro W4 s9
        clear j2 f2 c8 s8
        obtain ⟨j3, f3⟩ := St.boxAt s9 3
        replace j3 : W4.cell? ⟨n2, 3, none⟩ = some (.int .u8 0) := j3
        have c9 := byteRow_cell (hv _ s9.drop.drop.drop) 9 (by omega)
        rw [E9.out] at c9
        go_upto_region 36 with fail
        refine wp_any (s9.setBoxAt 3 (.int .u8 (O : Int))) ?_
        intro W5 s10
        clear j3 f3 c9 s9
        have s11 : St B w0 W5 (boxT n2 (headC ⟨tb, T, Xf, O, E, N, C, G, sm⟩ (.slice ea E.length ec)) 80 :: rowT 5 1 (.slice ea E.length ec) E.length (u8s E) :: boxT n noHead 80 :: r) := s10
        clear s10
        obtain ⟨k0, k1, k2, k3, k4, k5, k6, k7, k8⟩ := headAt s11
        have t1 := s11.front 2
        obtain ⟨j0, j1, j2, j3, j4, j5, j6, j7, j8⟩ := headAt (h := Gz.nil) (ev := .slice none 0 0) t1
        obtain ⟨f0, f1, f2, f3, f4, f5, f6, f7, f8⟩ := headFz t1
        have t2 := setHead t1 ⟨tb, T, Xf, O, E, N, C, G, sm⟩ (.slice ea E.length ec)
        clear t1 s11 hv
        go_wp2
        refine post_any t2 ?_
        intro W t3
        clear t2 f0 f1 f2 f3 f4 f5 f6 f7 f8 j0 j1 j2 j3 j4 j5 j6 j7 j8 k0 k1 k2 k3 k4 k5 k6 k7 k8
        obtain ⟨j0, j1, j2, j3, j4, j5, j6, j7, j8⟩ := headAt t3
        exact bodyPost_ret (v := .tuple #[.agg (headC ⟨tb, T, Xf, O, E, N, C, G, sm⟩ (.slice ea E.length ec)), .int .i64 (q : Int), .bool b, .int .i64 0]) (by simp [results, Tryz.results32, go_sem, j0, j1, j2, j3, j4, j5, j6, j7, j8]) rfl ⟨.slice ea E.length ec, rfl, t3.drop.drop⟩

end
end Go.Proofs.YtpinfihmageeoaaGreat.Fr
