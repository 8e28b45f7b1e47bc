/-
  Contract of pressworkref13.Order (written by wip/gen_suforder.py). No conditions but that rows are small.
-/
import Derived.Test.YtfifkbadniekfaaSufK
namespace Go.Proofs.Ytfifkbadniekfaa.Suf
open Go.RowKit

/-- A number put in at a place. -/
def putAt (P : List Nat) (j x : Nat) : List Nat := P.take j ++ x :: P.drop j
theorem putAt_length {P : List Nat} {j : Nat} (x : Nat) (hj : j ≤ P.length) : (putAt P j x).length = P.length + 1 := by
  unfold putAt; rw [List.length_append, List.length_cons, List.length_take, List.length_drop]; omega

theorem putAt_whole {rot : Bool} {b : List Nat} {O : List Nat} {i k : Nat} (h : Whole i (Ahead rot b) O) (hk : k ≤ i) (h1 : ∀ q, q < k → Ahead rot b (nth O q) i) (h2 : k = i ∨ Ahead rot b i (nth O k)) : Whole (i + 1) (Ahead rot b) (putAt O k i) := by
  have hl := h.len
  refine ⟨by rw [putAt_length i (by omega), hl], fun x hx => ?_, ?_⟩
  · unfold putAt at hx
    rcases List.mem_append.1 hx with hx | hx
    · have := h.mem x (List.mem_of_mem_take hx); omega
    · rcases List.mem_cons.1 hx with rfl | hx
      · omega
      · have := h.mem x (List.mem_of_mem_drop hx); omega
  · have htail : ∀ z ∈ O.drop k, Ahead rot b i z := fun z hz => by
      obtain ⟨q, hq, rfl⟩ := List.getElem_of_mem hz
      rw [List.length_drop] at hq
      rw [List.getElem_drop]
      rcases h2 with h2 | h2
      · omega
      · by_cases e : q = 0
        · subst e
          rw [nth_lt (by omega)] at h2
          simpa using h2
        · have := List.pairwise_iff_getElem.1 h.ord k (k + q) (by omega) (by omega) (by omega)
          rw [nth_lt (by omega)] at h2
          exact h2.trans this
    unfold putAt
    refine List.pairwise_append.2 ⟨h.ord.sublist (List.take_sublist _ _), List.pairwise_cons.2 ⟨htail, h.ord.sublist (List.drop_sublist _ _)⟩, fun y hy z hz => ?_⟩
    have hyi : Ahead rot b y i := by
      obtain ⟨q, hq, rfl⟩ := List.getElem_of_mem hy
      rw [List.length_take] at hq
      rw [List.getElem_take]
      have := h1 q (by omega)
      rwa [nth_lt (by omega)] at this
    rcases List.mem_cons.1 hz with rfl | hz
    · exact hyi
    · exact hyi.trans (htail z hz)

theorem nums_drop {w : World} {n cap q : Nat} {a : Option Addr} {F : List Nat} (h : NumRow w (.slice a n cap) F) (hq : q ≤ n) : NumRow w (.slice (if cap = q then a else a.map (·.add q)) (n - q) (cap - q)) (F.drop q) := by
  obtain ⟨a', cap', e, h2, h3, h4⟩ := h
  obtain ⟨rfl, hn, rfl⟩ := Value.slice.inj e
  have hl : (F.drop q).length = n - q := by rw [List.length_drop]; omega
  by_cases hc : cap = q
  · subst hc
    refine ⟨a, 0, by rw [if_pos rfl, hl, Nat.sub_self], by omega, fun _ => rfl, fun i hi => ?_⟩
    rw [hl] at hi
    omega
  · refine ⟨a.map (·.add q), cap - q, by rw [if_neg hc, hl], by omega, fun e => ?_, fun i hi => ?_⟩
    · cases a with
      | none => have := h3 rfl; omega
      | some x => cases e
    · rw [List.getElem_drop]
      rw [hl] at hi
      obtain ⟨b, off, e0, c0⟩ := h4 (q + i) (by omega)
      refine ⟨b, off + q, by rw [e0]; simp [Addr.add], ?_⟩
      rw [Nat.add_assoc]
      exact c0

theorem cutRow {B : Nat} {w0 w : World} {r : List Thing} {e : TypeId} {a : Option Addr} {n c : Nat} {xs : List Value} (st : St B w0 w (rowT e 1 (.slice a n c) n xs :: r)) (m : Nat) (hm : m ≤ n) : St B w0 w (rowT e 1 (.slice a m c) m (xs.take m) :: r) :=
  st.step fun S hS => by
    refine ⟨S, ⟨?_, fun k => by cases a <;> exact hS.2 k⟩, Only.refl _ _, fun k hk => .inl hk⟩
    have h := hS.1
    refine ⟨by rw [List.length_take, h.1]; omega, ?_⟩
    rcases h.2 with ⟨e1, h0⟩ | ⟨g, cap, cur, e1, hb, hg, hnc, hcm, hcs, ht⟩
    · obtain ⟨rfl, rfl, rfl⟩ := Value.slice.inj e1
      obtain rfl : m = 0 := by omega
      exact .inl ⟨rfl, rfl⟩
    · obtain ⟨rfl, -, rfl⟩ := Value.slice.inj e1
      refine .inr ⟨g, c, cur, rfl, hb, hg, by omega, hcm, hcs, ?_⟩
      rw [← ht, List.take_take, Nat.mul_one, Nat.mul_one, Nat.min_eq_left hm]

theorem numRow_at {w : World} {base n : Nat} {e : TypeId} {v : Value} {l : List Nat} (h : w.ownsRow base e 1 v n (i64s l)) (hl : l.length = n) : NumRow w v l := by
  subst hl
  exact numRow_owns h

theorem putAt_row {B : Nat} {w0 w : World} {r : List Thing} {e : TypeId} {v : Value} {P R : List Nat} {j x : Nat} (hR : R = P.drop j) (hj : j ≤ P.length)
    (h : St B w0 w (rowT e 1 v (j + 1 + R.length) ((i64s P).take j ++ [.int .i64 (x : Int)] ++ i64s R) :: r)) : St B w0 w (rowT e 1 v (P.length + 1) (i64s (putAt P j x)) :: r) := by
  subst hR
  have e : i64s (putAt P j x) = (i64s P).take j ++ [.int .i64 (x : Int)] ++ i64s (P.drop j) := by
    unfold putAt
    simp [i64s, List.map_take]
  have e2 : P.length + 1 = j + 1 + (P.drop j).length := by rw [List.length_drop]; omega
  rw [e, e2]
  exact h

theorem capOf {w : World} {base n c : Nat} {e : TypeId} {a : Option Addr} {xs : List Value} (h : w.ownsRow base e 1 (.slice a n c) n xs) : n ≤ c := by
  rcases h.2 with ⟨e1, h0⟩ | ⟨g, cap, cur, e1, _, _, hnc, _⟩
  · omega
  · obtain ⟨-, -, rfl⟩ := Value.slice.inj e1
    exact hnc

/-- What Order leaves. -/
def RowOrder (B : Nat) (w0 : World) (r : List Thing) (rot : Bool) (b : List Nat) (en : Ending) (w' : World) : Prop := ∃ O v, Whole b.length (Ahead rot b) O ∧ en = .returned v ∧ St B w0 w' (rowT 3 1 v O.length (i64s O) :: r)

/-- Two texts, as strings. -/
theorem cmp_cases (rot : Bool) {b : List Nat} (hb : ∀ x ∈ b, x < 256) {p q : Nat} (hp : p < b.length) (hq : q < b.length) (hpq : p < q) :
    (Op.bytesLess (strOf (text rot b p)).toList (strOf (text rot b q)).toList = true ∧ Ahead rot b p q) ∨
    (Op.bytesLess (strOf (text rot b p)).toList (strOf (text rot b q)).toList = false ∧ ((strOf (text rot b p)).toList == (strOf (text rot b q)).toList) = true ∧ Ahead rot b p q) ∨
    (Op.bytesLess (strOf (text rot b p)).toList (strOf (text rot b q)).toList = false ∧ ((strOf (text rot b p)).toList == (strOf (text rot b q)).toList) = false ∧ Ahead rot b q p) := by
  have h1 := str_less (rot := rot) hb hp hq
  have h2 := str_same (rot := rot) hb hp hq
  rcases three (val rot b p) (val rot b q) b.length with h | h | h
  · refine .inr (.inl ⟨?_, by simpa using h2.2 h, .inr ⟨h, hpq⟩⟩)
    rw [Bool.eq_false_iff]
    exact fun e => (h1.1 e).not_like h
  · exact .inl ⟨h1.2 h, .inl h⟩
  · refine .inr (.inr ⟨?_, ?_, .inl h⟩)
    · rw [Bool.eq_false_iff]
      exact fun e => (h1.1 e).asymm h
    · rw [beq_eq_false_iff_ne]
      exact fun e => h.not_like' (h2.1 e)

section
variable {B : Nat} {w0 w : World} {r : List Thing}

set_option maxRecDepth 100000 in
set_option maxHeartbeats 8000000 in
/-- The document's Order, of ends. -/
theorem orderEnd_st (st : St B w0 w r) (v : Value) (b : List Nat) (hv : ∀ W, St B w0 W r → ByteRow W v b) (hb : b.length ≤ 1000) : Calls Try.prog 8 #[v, .bool false] w (RowOrder B w0 r false b) := by
  have hbyte := (hv w st).byte
  obtain ⟨n, hn⟩ : ∃ n, b.length = n := ⟨_, rfl⟩
  obtain ⟨va, vc, rfl⟩ : ∃ a c, v = .slice a b.length c := by obtain ⟨a, c, e, _⟩ := hv w st; exact ⟨a, c, e⟩
  have hcmp := fun p q (hp : p < n) (hq : q < n) (hpq : p < q) => cmp_cases false hbyte (p := p) (q := q) (by rw [hn]; exact hp) (by rw [hn]; exact hq) hpq
  have HC := Lib.hid hcmp
  have hE := fun W (h : ByteRow W (.slice va b.length vc) b) (i : Nat) (hi : i ≤ n) => end_any W (.slice va b.length vc) b h i (by rw [hn]; exact hi)
  have hT := fun W (h : ByteRow W (.slice va b.length vc) b) (i : Nat) (hi : i ≤ n) => rot_any W (.slice va b.length vc) b h (by omega) i (by rw [hn]; exact hi)
  rw [hn] at hb hv hE hT ⊢
  have HV := Lib.hid hv
  have HN := Lib.hid hn
  clear hv hn hcmp hbyte
  go_enter Try.func8, Try.ntmps8
  go_wp2
  go_loopw [5, 6] (fun ov iv wr => ∃ (i : Nat) (O : List Nat) (a : Option Addr) (c : Nat), i ≤ n ∧ iv = .int .i64 (i : Int) ∧ i ≤ c ∧ ov = .slice a i c ∧ Hid (Whole i (Ahead false b) O) ∧ St B w0 wr (rowT 3 1 (.slice a i c) i (i64s O) :: r)) (fun _ iv _ => n - (intOf iv).toNat)
  case atStart => exact ⟨0, [], none, 0, by omega, rfl, by omega, rfl, Lib.hid ⟨rfl, fun x hx => absurd hx (by simp), .nil⟩, st.addNil⟩
  case round =>
    clear st
    obtain ⟨i, O, a, c, hi, rfl, hc, rfl, hW, t1⟩ := hrel
    have HO : Hid (O.length = i) := Lib.hid hW.out.len
    by_cases hlt : i < n
    · obtain ⟨j, hj⟩ : ∃ j : Nat, j = 0 := ⟨0, rfl⟩
      clear j hj
      go_wp2_with fail
      refine (hE wr (HV.out wr t1.drop) i (by omega)).mono ?_
      rintro e w2 ⟨rfl, rfl⟩
      have t2 := t1
      clear t1
      generalize hs : strOf (text false b i) = s at *
      go_wp2_with fail
      go_loopw [8] (fun kv wr => ∃ k : Nat, k ≤ i ∧ kv = .int .i64 (k : Int) ∧ Hid (∀ q, q < k → Ahead false b (nth O q) i) ∧ St B w0 wr (rowT 3 1 (.slice a i c) i (i64s O) :: r)) (fun kv _ => i - (intOf kv).toNat)
      case atStart => exact ⟨0, by omega, rfl, Lib.hid fun q hq => absurd hq (by omega), t2⟩
      case round =>
        clear t2
        obtain ⟨k, hk, rfl, hA, t3⟩ := hrel
        by_cases hlt2 : k < i
        · have hkO : k < O.length := by rw [HO.out]; exact hlt2
          have hmem : nth O k < i := by rw [nth_lt hkO]; exact hW.out.mem _ (List.getElem_mem _)
          obtain ⟨g, cap, e1, hcap⟩ := t3.rowShape (by omega)
          obtain ⟨rfl, -, rfl⟩ := Value.slice.inj e1
          have c0 : wr.cell? ⟨g, k, none⟩ = some (.int .i64 (nth O k : Int)) := by
            rw [t3.row.cellAt k (by omega), i64s_get _ _ hkO, nth_lt hkO]
          have hcase := HC.out (nth O k) i (by omega) hlt hmem
          have hnext : Ahead false b (nth O k) i → ∀ q, q < k + 1 → Ahead false b (nth O q) i := fun h q hq => by
            by_cases e : q = k
            · subst e; exact h
            · exact hA.out q (by omega)
          have hput : Ahead false b i (nth O k) → Whole (i + 1) (Ahead false b) (putAt O k i) := fun h => putAt_whole hW.out hk hA.out (.inr h)
          have HNX := Lib.hid hnext
          have HPU := Lib.hid hput
          clear hnext hput e1
          rw [hs] at hcase
          generalize nth O k = p at *
          obtain ⟨tv, htv⟩ : ∃ tv, strOf (text false b p) = tv := ⟨_, rfl⟩
          rw [htv] at hcase
          go_wp2_with fail
          refine (hE wr (HV.out wr t3.drop) p (by omega)).mono ?_
          rintro e w2 ⟨rfl, rfl⟩
          rw [htv]
          have t4 := t3
          clear t3 c0 htv hs
          rcases hcase with ⟨x1, hah⟩ | ⟨x1, x2, hah⟩ | ⟨x1, x2, hah⟩
          · have HS := Lib.hid (HNX.out hah)
            clear hah HNX HPU
            go_wp2_with fail
            go_roundw
            case rel => exact ⟨k + 1, by omega, by go_num, HS, t4⟩
            case measure => simp [intOf]; omega
          · have HS := Lib.hid (HNX.out hah)
            clear hah HNX HPU
            go_wp2_with fail
            go_roundw
            case rel => exact ⟨k + 1, by omega, by go_num, HS, t4⟩
            case measure => simp [intOf]; omega
          · have HWN := Lib.hid (HPU.out hah)
            clear hah HNX HPU
            have hdr := nums_drop (q := k) (numRow_at t4.row HO.out) (by omega)
            obtain ⟨m3, hm3⟩ : ∃ m3, i - k = m3 := ⟨_, rfl⟩
            rw [if_neg (by omega), Option.map_some, add_none, Nat.zero_add, hm3] at hdr
            have hck : ¬ c = k := by omega
            have hki : (k : Int) ≤ (i : Int) := by omega
            have hic : (i : Int) ≤ (c : Int) := by omega
            have hkc : (k : Int) ≤ (c : Int) := by omega
            go_wp2_with (at_builtin; refine wpList_copyNums (xs := O.drop k) rfl _ _ rfl t4 ?nr rfl rfl (by rw [List.length_drop, HO.out]; omega) ?_)
            case nr => exact hdr
            intro v3 w3 t5
            obtain ⟨a4, c4, rfl⟩ := ownsRow_slice t5.row
            have t6 := cutRow t5.swap k (by omega)
            clear t5 hdr hm3 t4
            obtain ⟨i0, hi0, hz0, hz1', hz2⟩ := info_parts infoI
            go_wp2_with (at_builtin; refine wpList_append_one rfl _ _ 23 rfl 3 i0 (.int .i64 0) 1 8 Try.underlying23 hi0 hz0 hz1' hz2 rfl (by decide) t6 rfl [.int .i64 (i : Int)] rfl rfl ?oneCell (by unfold maxLen; omega) (by omega) ?_)
            case oneCell => first | rfl | (intro u hu; simp at hu; subst hu; rfl)
            intro v5 w5 t7
            clear t6
            go_wp2_with (at_builtin; go_loud (refine wpList_append_nums rfl _ _ rfl t7 (numRow_at t7.swap.row (by first | rfl | exact List.length_drop)) rfl rfl (by rw [List.length_drop, HO.out]; omega) ?_; intro v6 w6 t8 _ _))
            have t9 := putAt_row (P := O) (j := k) (x := i) (R := O.drop k) rfl (by rw [HO.out]; omega) t8.swap.drop
            rw [HO.out] at t9
            obtain ⟨a7, c7, rfl⟩ := ownsRow_slice t9.row
            have hc7 := capOf t9.row
            clear t7 t8 hi0 hz0 hz1' hz2
            go_wp2
            go_roundw
            case rel => exact ⟨i + 1, putAt O k i, a7, c7, by omega, by go_num, hc7, rfl, HWN, t9⟩
            case measure => simp [intOf]; omega
        · obtain rfl : i = k := by omega
          have HWN := Lib.hid (putAt_whole hW.out (Nat.le_refl i) hA.out (.inl rfl))
          have hdr := nums_drop (q := i) (numRow_at t3.row HO.out) (by omega)
          obtain ⟨a3, ha3⟩ : ∃ a3, (if c = i then a else a.map (·.add i)) = a3 := ⟨_, rfl⟩
          rw [ha3, Nat.sub_self] at hdr
          have hic : (i : Int) ≤ (c : Int) := by omega
          go_wp2_with (at_builtin; refine wpList_copyNums (xs := O.drop i) rfl _ _ rfl t3 ?nr rfl rfl (by rw [List.length_drop, HO.out]; omega) ?_)
          case nr => exact hdr
          intro v3 w3 t5
          obtain ⟨a4, c4, rfl⟩ := ownsRow_slice t5.row
          have t6 := cutRow t5.swap i (by omega)
          clear t5 hdr ha3 t3
          obtain ⟨i0, hi0, hz0, hz1', hz2⟩ := info_parts infoI
          go_wp2_with (at_builtin; refine wpList_append_one rfl _ _ 23 rfl 3 i0 (.int .i64 0) 1 8 Try.underlying23 hi0 hz0 hz1' hz2 rfl (by decide) t6 rfl [.int .i64 (i : Int)] rfl rfl ?oneCell (by unfold maxLen; omega) (by omega) ?_)
          case oneCell => first | rfl | (intro u hu; simp at hu; subst hu; rfl)
          intro v5 w5 t7
          clear t6
          go_wp2_with (at_builtin; go_loud (refine wpList_append_nums rfl _ _ rfl t7 (numRow_at t7.swap.row (by first | rfl | exact List.length_drop)) rfl rfl (by rw [List.length_drop, HO.out]; omega) ?_; intro v6 w6 t8 _ _))
          have t9 := putAt_row (P := O) (j := i) (x := i) (R := O.drop i) rfl (by rw [HO.out]; omega) t8.swap.drop
          rw [HO.out] at t9
          obtain ⟨a7, c7, rfl⟩ := ownsRow_slice t9.row
          have hc7 := capOf t9.row
          clear t7 t8 hi0 hz0 hz1' hz2
          go_wp2
          go_roundw
          case rel => exact ⟨i + 1, putAt O i i, a7, c7, by omega, by go_num, hc7, rfl, HWN, t9⟩
          case measure => simp [intOf]; omega
    · obtain rfl : n = i := by omega
      go_wp2
      go_ret
      exact ⟨O, _, by rw [HN.out]; exact hW.out, rfl, by rw [HO.out]; exact t1⟩

set_option maxRecDepth 100000 in
set_option maxHeartbeats 8000000 in
/-- The document's Order, of rotations. -/
theorem orderRot_st (st : St B w0 w r) (v : Value) (b : List Nat) (hv : ∀ W, St B w0 W r → ByteRow W v b) (hb : b.length ≤ 1000) : Calls Try.prog 8 #[v, .bool true] w (RowOrder B w0 r true b) := by
  have hbyte := (hv w st).byte
  obtain ⟨n, hn⟩ : ∃ n, b.length = n := ⟨_, rfl⟩
  obtain ⟨va, vc, rfl⟩ : ∃ a c, v = .slice a b.length c := by obtain ⟨a, c, e, _⟩ := hv w st; exact ⟨a, c, e⟩
  have hcmp := fun p q (hp : p < n) (hq : q < n) (hpq : p < q) => cmp_cases true hbyte (p := p) (q := q) (by rw [hn]; exact hp) (by rw [hn]; exact hq) hpq
  have HC := Lib.hid hcmp
  have hE := fun W (h : ByteRow W (.slice va b.length vc) b) (i : Nat) (hi : i ≤ n) => end_any W (.slice va b.length vc) b h i (by rw [hn]; exact hi)
  have hT := fun W (h : ByteRow W (.slice va b.length vc) b) (i : Nat) (hi : i ≤ n) => rot_any W (.slice va b.length vc) b h (by omega) i (by rw [hn]; exact hi)
  rw [hn] at hb hv hE hT ⊢
  have HV := Lib.hid hv
  have HN := Lib.hid hn
  clear hv hn hcmp hbyte
  go_enter Try.func8, Try.ntmps8
  go_wp2
  go_loopw [5, 6] (fun ov iv wr => ∃ (i : Nat) (O : List Nat) (a : Option Addr) (c : Nat), i ≤ n ∧ iv = .int .i64 (i : Int) ∧ i ≤ c ∧ ov = .slice a i c ∧ Hid (Whole i (Ahead true b) O) ∧ St B w0 wr (rowT 3 1 (.slice a i c) i (i64s O) :: r)) (fun _ iv _ => n - (intOf iv).toNat)
  case atStart => exact ⟨0, [], none, 0, by omega, rfl, by omega, rfl, Lib.hid ⟨rfl, fun x hx => absurd hx (by simp), .nil⟩, st.addNil⟩
  case round =>
    clear st
    obtain ⟨i, O, a, c, hi, rfl, hc, rfl, hW, t1⟩ := hrel
    have HO : Hid (O.length = i) := Lib.hid hW.out.len
    by_cases hlt : i < n
    · obtain ⟨j, hj⟩ : ∃ j : Nat, j = 0 := ⟨0, rfl⟩
      clear j hj
      go_wp2_with fail
      refine (hE wr (HV.out wr t1.drop) i (by omega)).mono ?_
      rintro e w2 ⟨rfl, rfl⟩
      go_wp2_with fail
      refine (hT w2 (HV.out w2 t1.drop) i (by omega)).mono ?_
      rintro e w3 ⟨rfl, rfl⟩
      have t2 := t1.drew
      clear t1
      generalize hs : strOf (text true b i) = s at *
      go_wp2_with fail
      go_loopw [8] (fun kv wr => ∃ k : Nat, k ≤ i ∧ kv = .int .i64 (k : Int) ∧ Hid (∀ q, q < k → Ahead true b (nth O q) i) ∧ St B w0 wr (rowT 3 1 (.slice a i c) i (i64s O) :: r)) (fun kv _ => i - (intOf kv).toNat)
      case atStart => exact ⟨0, by omega, rfl, Lib.hid fun q hq => absurd hq (by omega), t2⟩
      case round =>
        clear t2
        obtain ⟨k, hk, rfl, hA, t3⟩ := hrel
        by_cases hlt2 : k < i
        · have hkO : k < O.length := by rw [HO.out]; exact hlt2
          have hmem : nth O k < i := by rw [nth_lt hkO]; exact hW.out.mem _ (List.getElem_mem _)
          obtain ⟨g, cap, e1, hcap⟩ := t3.rowShape (by omega)
          obtain ⟨rfl, -, rfl⟩ := Value.slice.inj e1
          have c0 : wr.cell? ⟨g, k, none⟩ = some (.int .i64 (nth O k : Int)) := by
            rw [t3.row.cellAt k (by omega), i64s_get _ _ hkO, nth_lt hkO]
          have hcase := HC.out (nth O k) i (by omega) hlt hmem
          have hnext : Ahead true b (nth O k) i → ∀ q, q < k + 1 → Ahead true b (nth O q) i := fun h q hq => by
            by_cases e : q = k
            · subst e; exact h
            · exact hA.out q (by omega)
          have hput : Ahead true b i (nth O k) → Whole (i + 1) (Ahead true b) (putAt O k i) := fun h => putAt_whole hW.out hk hA.out (.inr h)
          have HNX := Lib.hid hnext
          have HPU := Lib.hid hput
          clear hnext hput e1
          rw [hs] at hcase
          generalize nth O k = p at *
          obtain ⟨tv, htv⟩ : ∃ tv, strOf (text true b p) = tv := ⟨_, rfl⟩
          rw [htv] at hcase
          go_wp2_with fail
          refine (hE wr (HV.out wr t3.drop) p (by omega)).mono ?_
          rintro e w2 ⟨rfl, rfl⟩
          go_wp2_with fail
          refine (hT w2 (HV.out w2 t3.drop) p (by omega)).mono ?_
          rintro e w3 ⟨rfl, rfl⟩
          rw [htv]
          have t4 := t3.drew
          clear t3 c0 htv hs
          rcases hcase with ⟨x1, hah⟩ | ⟨x1, x2, hah⟩ | ⟨x1, x2, hah⟩
          · have HS := Lib.hid (HNX.out hah)
            clear hah HNX HPU
            go_wp2_with fail
            go_roundw
            case rel => exact ⟨k + 1, by omega, by go_num, HS, t4⟩
            case measure => simp [intOf]; omega
          · have HS := Lib.hid (HNX.out hah)
            clear hah HNX HPU
            go_wp2_with fail
            go_roundw
            case rel => exact ⟨k + 1, by omega, by go_num, HS, t4⟩
            case measure => simp [intOf]; omega
          · have HWN := Lib.hid (HPU.out hah)
            clear hah HNX HPU
            have hdr := nums_drop (q := k) (numRow_at t4.row HO.out) (by omega)
            obtain ⟨m3, hm3⟩ : ∃ m3, i - k = m3 := ⟨_, rfl⟩
            rw [if_neg (by omega), Option.map_some, add_none, Nat.zero_add, hm3] at hdr
            have hck : ¬ c = k := by omega
            have hki : (k : Int) ≤ (i : Int) := by omega
            have hic : (i : Int) ≤ (c : Int) := by omega
            have hkc : (k : Int) ≤ (c : Int) := by omega
            go_wp2_with (at_builtin; refine wpList_copyNums (xs := O.drop k) rfl _ _ rfl t4 ?nr rfl rfl (by rw [List.length_drop, HO.out]; omega) ?_)
            case nr => exact hdr
            intro v3 w3 t5
            obtain ⟨a4, c4, rfl⟩ := ownsRow_slice t5.row
            have t6 := cutRow t5.swap k (by omega)
            clear t5 hdr hm3 t4
            obtain ⟨i0, hi0, hz0, hz1', hz2⟩ := info_parts infoI
            go_wp2_with (at_builtin; refine wpList_append_one rfl _ _ 23 rfl 3 i0 (.int .i64 0) 1 8 Try.underlying23 hi0 hz0 hz1' hz2 rfl (by decide) t6 rfl [.int .i64 (i : Int)] rfl rfl ?oneCell (by unfold maxLen; omega) (by omega) ?_)
            case oneCell => first | rfl | (intro u hu; simp at hu; subst hu; rfl)
            intro v5 w5 t7
            clear t6
            go_wp2_with (at_builtin; go_loud (refine wpList_append_nums rfl _ _ rfl t7 (numRow_at t7.swap.row (by first | rfl | exact List.length_drop)) rfl rfl (by rw [List.length_drop, HO.out]; omega) ?_; intro v6 w6 t8 _ _))
            have t9 := putAt_row (P := O) (j := k) (x := i) (R := O.drop k) rfl (by rw [HO.out]; omega) t8.swap.drop
            rw [HO.out] at t9
            obtain ⟨a7, c7, rfl⟩ := ownsRow_slice t9.row
            have hc7 := capOf t9.row
            clear t7 t8 hi0 hz0 hz1' hz2
            go_wp2
            go_roundw
            case rel => exact ⟨i + 1, putAt O k i, a7, c7, by omega, by go_num, hc7, rfl, HWN, t9⟩
            case measure => simp [intOf]; omega
        · obtain rfl : i = k := by omega
          have HWN := Lib.hid (putAt_whole hW.out (Nat.le_refl i) hA.out (.inl rfl))
          have hdr := nums_drop (q := i) (numRow_at t3.row HO.out) (by omega)
          obtain ⟨a3, ha3⟩ : ∃ a3, (if c = i then a else a.map (·.add i)) = a3 := ⟨_, rfl⟩
          rw [ha3, Nat.sub_self] at hdr
          have hic : (i : Int) ≤ (c : Int) := by omega
          go_wp2_with (at_builtin; refine wpList_copyNums (xs := O.drop i) rfl _ _ rfl t3 ?nr rfl rfl (by rw [List.length_drop, HO.out]; omega) ?_)
          case nr => exact hdr
          intro v3 w3 t5
          obtain ⟨a4, c4, rfl⟩ := ownsRow_slice t5.row
          have t6 := cutRow t5.swap i (by omega)
          clear t5 hdr ha3 t3
          obtain ⟨i0, hi0, hz0, hz1', hz2⟩ := info_parts infoI
          go_wp2_with (at_builtin; refine wpList_append_one rfl _ _ 23 rfl 3 i0 (.int .i64 0) 1 8 Try.underlying23 hi0 hz0 hz1' hz2 rfl (by decide) t6 rfl [.int .i64 (i : Int)] rfl rfl ?oneCell (by unfold maxLen; omega) (by omega) ?_)
          case oneCell => first | rfl | (intro u hu; simp at hu; subst hu; rfl)
          intro v5 w5 t7
          clear t6
          go_wp2_with (at_builtin; go_loud (refine wpList_append_nums rfl _ _ rfl t7 (numRow_at t7.swap.row (by first | rfl | exact List.length_drop)) rfl rfl (by rw [List.length_drop, HO.out]; omega) ?_; intro v6 w6 t8 _ _))
          have t9 := putAt_row (P := O) (j := i) (x := i) (R := O.drop i) rfl (by rw [HO.out]; omega) t8.swap.drop
          rw [HO.out] at t9
          obtain ⟨a7, c7, rfl⟩ := ownsRow_slice t9.row
          have hc7 := capOf t9.row
          clear t7 t8 hi0 hz0 hz1' hz2
          go_wp2
          go_roundw
          case rel => exact ⟨i + 1, putAt O i i, a7, c7, by omega, by go_num, hc7, rfl, HWN, t9⟩
          case measure => simp [intOf]; omega
    · obtain rfl : n = i := by omega
      go_wp2
      go_ret
      exact ⟨O, _, by rw [HN.out]; exact hW.out, rfl, by rw [HO.out]; exact t1⟩

end
end Go.Proofs.Ytfifkbadniekfaa.Suf
