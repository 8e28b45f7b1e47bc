/-
  PfxR PfxS PfxT PfxU, one behind the other (merged by wip/merge.py). No conditions but those that each states.
-/
import Derived.Test.YtpinfihmageeoaaGreatGE
import Derived.Test.YtpinfihmageeoaaGreatGE
import Derived.Laws.StructEq

namespace Go.Proofs.YtpinfihmageeoaaGreat
open Go.RowKit Kraft

def nats (l : List Bool) : List Nat := l.map Bool.toNat
theorem nats_length (l : List Bool) : (nats l).length = l.length := by simp [nats]
theorem nats_append (l m : List Bool) : nats (l ++ m) = nats l ++ nats m := by simp [nats]
theorem nats_lt (l : List Bool) : ∀ x ∈ nats l, x < 256 := by
  intro x hx
  obtain ⟨b, _, rfl⟩ := List.mem_map.1 hx
  cases b <;> decide

theorem bit_nat (q : Nat) : (q : Int) % 2 = (((q % 2 == 1 : Bool).toNat : Nat) : Int) := mod_two_bit q

set_option maxRecDepth 100000 in
theorem refBits_st {B : Nat} {w0 w : World} {r : List Thing} (st : St B w0 w r) (x n : Nat) (hn : n ≤ 20) :
    Calls Tryz.prog 130 #[.int .u32 (x : Int), .int .u8 (n : Int)] w (BytesSt B w0 r (nats (top x n n))) := by
  go_enter Tryz.func130, Tryz.ntmps130
  go_wp2
  go_loopw [5, 6] (fun ov iv wr => ∃ c : Nat, c ≤ n ∧ iv = .int .i64 ((c : Int) - 1) ∧ St B w0 wr (rowT 5 1 ov (n - c) (u8s (nats (top x n (n - c)))) :: r)) (fun _ iv _ => (intOf iv + 1).toNat)
  case atStart => exact ⟨n, Nat.le_refl _, rfl, by rw [Nat.sub_self]; exact st.addNil⟩
  case round =>
    obtain ⟨c, hc, rfl, t1⟩ := hrel
    by_cases hc0 : c = 0
    · subst hc0
      rw [show ((0 : Nat) : Int) - 1 = -1 from rfl]
      go_wp2
      go_ret
      exact ⟨_, rfl, by rw [nats_length, top_length]; exact t1⟩
    · obtain ⟨d, rfl⟩ : ∃ d, c = d + 1 := ⟨c - 1, by omega⟩
      rw [show (((d + 1 : Nat) : Int) - 1) = (d : Int) from by omega]
      have hd20 : d < 20 := by omega
      obtain ⟨i0, hi, hz0, hz1, hz2⟩ := info_parts info8
      obtain ⟨q, hq, hqx⟩ : ∃ q : Nat, (x : Int) / 2 ^ d = (q : Int) ∧ q = x / 2 ^ d := ⟨x / 2 ^ d, by simp, rfl⟩
      obtain ⟨b, hb, hbt⟩ : ∃ b : Bool, (q : Int) % 2 = (b.toNat : Int) ∧ top x n (n - d) = top x n (n - (d + 1)) ++ [b] := by
        refine ⟨x / 2 ^ d % 2 == 1, ?_, ?_⟩
        · rw [hqx]
          exact mod_two_bit _
        · rw [show n - d = (n - (d + 1)) + 1 from by omega, top_succ, show n - 1 - (n - (d + 1)) = d from by omega]
      have hb1 : b.toNat ≤ 1 := by cases b <;> simp
      have HB := Lib.hid hbt
      clear hbt hqx
      generalize hbn : b.toNat = bn at hb hb1
      have HBN := Lib.hid hbn
      clear hbn
      go_wp2_with (at_builtin; refine wpList_append_one rfl _ _ 26 rfl 5 i0 (.int .u8 0) 1 1 Tryz.underlying26 hi hz0 hz1 hz2 rfl (by decide) t1 rfl [.int .u8 (bn : Int)] rfl rfl ?oneCell (by unfold maxLen; omega) (by omega) ?_)
      case oneCell => first | rfl | (intro u hu; simp at hu; subst hu; rfl)
      intro v' w5 t5
      go_wp2
      refine ⟨⟨d, by omega, by go_num, ?_⟩, by simp [intOf]⟩
      rw [HB.out, nats_append, u8s_append, show n - d = n - (d + 1) + 1 from by omega]
      have e : u8s (nats [b]) = [.int .u8 (bn : Int)] := by rw [← HBN.out]; rfl
      rw [e]
      exact t5

def bitsBoth (xs : List Nat) (low : Bool) : List Bool := rest (if low then bitAt xs else Msb.bitAt xs) (8 * xs.length) 0

theorem rest_take (f : Nat → Bool) (m k : Nat) (hk : k < m) : (rest f m 0).take (k + 1) = (rest f m 0).take k ++ [f k] := by
  rw [List.take_succ_eq_append_getElem (by rw [rest_length]; omega)]
  congr 2
  simp [rest]

end Go.Proofs.YtpinfihmageeoaaGreat

namespace Go.Proofs.YtpinfihmageeoaaGreat
open Go.RowKit Kraft

structure RowsAt (w : World) (v : Value) (R : List (List Nat)) (vs : List Value) : Prop where
  row : w.ownsRow 0 26 1 v R.length vs
  one : ∀ u ∈ vs, u.oneCell' = true
  each : ∀ (i : Nat) (h : i < R.length), ∃ u, vs[i]? = some u ∧ w.ownsRow 0 5 1 u R[i].length (u8s R[i]) ∧ ∀ g, v.ownBlock = some g → u.ownBlock ≠ some g

def rowsT (v : Value) (R : List (List Nat)) : Thing where
  holds w S := ∃ vs, RowsAt w v R vs ∧ (∀ k, S k → k < w.heap.size) ∧ (∀ k, v.ownBlock = some k → S k) ∧ ∀ (i : Nat) (u : Value), i < R.length → vs[i]? = some u → ∀ k, u.ownBlock = some k → S k
  keep := by
    rintro w w' S T ⟨vs, h1, h2, h3, h4⟩ ho hd
    refine ⟨vs, ⟨ownsRow_only h1.row ho (fun g hg => hd g (h3 g hg)), h1.one, fun i hi => ?_⟩, fun k hk => Nat.lt_of_lt_of_le (h2 k hk) ho.size, h3, h4⟩
    obtain ⟨u, e1, e2, e3⟩ := h1.each i hi
    exact ⟨u, e1, ownsRow_only e2 ho (fun g hg => hd g (h4 i u hi e1 g hg)), e3⟩
  lt := by
    rintro w S k ⟨vs, h1, h2, h3, h4⟩ hk
    exact h2 k hk

section
variable {B : Nat} {w0 w : World} {r : List Thing}

theorem St.rows {v : Value} {R : List (List Nat)} (h : St B w0 w (rowsT v R :: r)) : ∃ vs, RowsAt w v R vs := by
  obtain ⟨S1, ⟨vs, h1, _⟩, _⟩ := h.sep
  exact ⟨vs, h1⟩

theorem St.noRows (h : St B w0 w r) : St B w0 w (rowsT (.slice none 0 0) [] :: r) :=
  h.add (S := fun _ => False) (Below.refl _ _) ⟨[], ⟨World.ownsRow_nil _ _ _ _, fun u hu => absurd hu (by simp), fun i hi => absurd hi (by simp)⟩, fun _ f => f.elim, fun k hk => by simp [Value.ownBlock] at hk, fun i u hi => absurd hi (by simp)⟩ (fun _ f => f.elim)

def bothT (A C : Thing) : Thing where
  holds w S := ∃ S1 S2, A.holds w S1 ∧ C.holds w S2 ∧ (∀ k, S1 k → ¬ S2 k) ∧ ∀ k, S k ↔ S1 k ∨ S2 k
  keep := by
    rintro w w' S T ⟨S1, S2, h1, h2, h3, h4⟩ ho hd
    exact ⟨S1, S2, A.keep h1 ho (fun k hk => hd k ((h4 k).2 (.inl hk))), C.keep h2 ho (fun k hk => hd k ((h4 k).2 (.inr hk))), h3, h4⟩
  lt := by
    rintro w S k ⟨S1, S2, h1, h2, h3, h4⟩ hk
    rcases (h4 k).1 hk with hk | hk
    · exact A.lt h1 hk
    · exact C.lt h2 hk

theorem St.both {A C : Thing} (h : St B w0 w (A :: C :: r)) : St B w0 w (bothT A C :: r) := by
  obtain ⟨S1, h1, h2, S2, h3, h4, h5⟩ := h.sep
  refine ⟨h.only, h.size, fun k => S1 k ∨ S2 k, ⟨S1, S2, h1, h3, fun k a b => (h4 k b).2 a, fun _ => Iff.rfl⟩, fun k hk => hk.elim (h2 k) (fun hk => (h4 k hk).1), ?_⟩
  exact Sep.mono h5 (fun k _ hk => ⟨hk.1.1, fun h' => h'.elim hk.1.2 hk.2⟩)

theorem ownsRow_inj {b b' : Nat} {e : TypeId} {size n : Nat} {v : Value} {xs ys : List Value} (h : w.ownsRow b e size v n xs) (h' : w.ownsRow b' e size v n ys) : xs = ys := by
  rcases h.2 with ⟨_, h0⟩ | ⟨g, cap, cur, hv, _, hg, _, _, _, ht⟩
  · subst h0
    have l1 := h.1
    have l2 := h'.1
    rw [Nat.zero_mul] at l1 l2
    rw [List.eq_nil_of_length_eq_zero l1, List.eq_nil_of_length_eq_zero l2]
  · rcases h'.2 with ⟨hv', _⟩ | ⟨g', cap', cur', hv', _, hg', _, _, _, ht'⟩
    · rw [hv] at hv'
      cases hv'
    · rw [hv] at hv'
      have e1 := congrArg Addr.block (Option.some.inj (Value.slice.inj hv').1)
      have e2 : g = g' := e1
      subst e2
      rw [hg] at hg'
      have e3 := (Obj.cells.inj (Option.some.inj hg')).1
      subst e3
      rw [← ht, ← ht']

theorem infoRow : (Tryz.prog.info? 26).map (fun i => (i.zero, i.size, i.bytes)) = some (some (.slice none 0 0), 1, 24) := by kernel_rfl

theorem wpList_append_rows {ops : Array Oper} {rest : List Oper} {o : Oper} {a : Act} {Q : Exit → Act → World → Prop} (hgd : o.guard = none) (s x : Operand)
    (ho : o.op = .call { callee := .builtin .append, args := #[s, x], argTypes := #[145, 145] })
    {v u : Value} {R : List (List Nat)} {xs : List Nat} (st : St B w0 w (rowT 5 1 u xs.length (u8s xs) :: rowsT v R :: r)) (hs : a.eval s = v)
    (hx : a.eval x = .slice (some ⟨w.heap.size, 0, none⟩) 1 1) (hl : R.length ≤ 1000000)
    (K : ∀ v' w', St B w0 w' (rowsT v' (R ++ [xs]) :: r) → wpList Tryz.prog ops Q rest (a.put o.dst v') w') : wpList Tryz.prog ops Q (o :: rest) a (w.alloc (.cells #[u] 26)) := by
  obtain ⟨i0, hi, hz0, hz1, hz2⟩ := info_parts infoRow
  obtain ⟨vs, hR⟩ := st.swap.rows
  have hu1 : u.oneCell' = true := by
    obtain ⟨au, cu, rfl⟩ := ownsRow_slice st.row
    rfl
  have hlen : vs.length = R.length := by simpa using hR.row.1
  refine wpList_append_mine _ hgd s x 145 ho 26 i0 (.slice none 0 0) 1 24 Tryz.underlying145 hi hz0 hz1 hz2 rfl (by decide) v R.length vs hs (ownsRow_only hR.row ((Only.refl (fun _ => False) w).alloc _) (fun _ _ f => f)) (some ⟨w.heap.size, 0, none⟩) 1 1 [u] hx (fun e => by cases e) rfl ?_ (fun z hz => by simp at hz; subst hz; exact hu1) (by unfold maxLen; omega) (by omega) ?_
  · intro b hb j z hz
    obtain rfl := Option.some.inj hb
    cases j with
    | zero =>
      simp at hz
      subst hz
      rw [add_none, cell_of_row _ w.heap.size _ #[u] 26 (0, 0) (heap_alloc_new w _)]
      rfl
    | succ j => simp at hz
  · intro v' w' g1 g2 g3
    refine K v' w' (st.both.step fun S hS => ?_)
    obtain ⟨S1, S2, h1, ⟨vs', h2, h2a, h2b, h2c⟩, h3, h4⟩ := hS
    obtain rfl : vs' = vs := ownsRow_inj h2.row hR.row
    have hoS : Only S w w' := ((Only.refl S w).alloc _).grown g2 (fun k hk _ => (h4 k).2 (.inr (h2b k hk)))
    have hoV : Only (fun k => v.ownBlock = some k) w w' := ((Only.refl (fun k => v.ownBlock = some k) w).alloc _).grown g2 (fun k hk _ => hk)
    have hfresh : ∀ z : Value, (∀ k, z.ownBlock = some k → k < w.heap.size) → (∀ g, v.ownBlock = some g → z.ownBlock ≠ some g) → ∀ g, v'.ownBlock = some g → z.ownBlock ≠ some g := by
      intro z hz1 hz2 g hg e
      rcases g3 with f | f
      · exact hz2 g (by rw [← f]; exact hg) e
      · have a1 := f g hg
        have a2 := hz1 g e
        rw [show (w.alloc (.cells #[u] 26)).heap.size = w.heap.size + 1 from by simp] at a1
        omega
    have hu2 : ∀ g, v.ownBlock = some g → u.ownBlock ≠ some g := fun g hg e => h3 g ((h1.2 g).2 e) (h2b g hg)
    refine ⟨fun k => v'.ownBlock = some k ∨ u.ownBlock = some k ∨ ∃ i z, i < R.length ∧ vs'[i]? = some z ∧ z.ownBlock = some k, ⟨vs' ++ [u], ⟨?_, ?_, ?_⟩, ?_, fun k hk => .inl hk, ?_⟩, hoS, ?_⟩
    · rw [List.length_append]
      exact g1
    · intro z hz
      rcases List.mem_append.1 hz with hz | hz
      · exact h2.one z hz
      · rw [List.mem_singleton] at hz
        subst hz
        exact hu1
    · intro i hi
      by_cases hlt : i < R.length
      · obtain ⟨z, e1, e2, e3⟩ := h2.each i hlt
        refine ⟨z, by rw [List.getElem?_append_left (by omega)]; exact e1, ?_, hfresh z (fun k hk => (e2.lt k hk).2) e3⟩
        rw [List.getElem_append_left hlt]
        exact ownsRow_only e2 hoV (fun g hg hg' => e3 g hg' hg)
      · have e0 : i = R.length := by simp at hi; omega
        subst e0
        refine ⟨u, by rw [List.getElem?_append_right (by omega), hlen, Nat.sub_self]; rfl, ?_, hfresh u (fun k hk => (h1.1.lt k hk).2) hu2⟩
        rw [List.getElem_append_right (Nat.le_refl _)]
        simp only [Nat.sub_self, List.getElem_cons_zero]
        exact ownsRow_only h1.1 hoV (fun g hg hg' => hu2 g hg' hg)
    · intro k hk
      rcases hk with hk | hk | ⟨i, z, hi', hz, hk⟩
      · exact (g1.lt k hk).2
      · exact Nat.lt_of_lt_of_le (h1.1.lt k hk).2 hoS.size
      · obtain ⟨z', e1, e2, _⟩ := h2.each i hi'
        rw [hz] at e1
        obtain rfl := Option.some.inj e1
        exact Nat.lt_of_lt_of_le (e2.lt k hk).2 hoS.size
    · intro i z hi' hz k hk
      by_cases hlt : i < R.length
      · rw [List.getElem?_append_left (by omega)] at hz
        exact .inr (.inr ⟨i, z, hlt, hz, hk⟩)
      · have e0 : i = R.length := by simp at hi'; omega
        subst e0
        rw [List.getElem?_append_right (by omega), hlen, Nat.sub_self] at hz
        obtain rfl := Option.some.inj hz
        exact .inr (.inl hk)
    · intro k hk
      rcases hk with hk | hk | ⟨i, z, hi', hz, hk⟩
      · rcases g3 with f | f
        · exact .inl ((h4 k).2 (.inr (h2b k (by rw [← f]; exact hk))))
        · have a1 := f k hk
          rw [show (w.alloc (.cells #[u] 26)).heap.size = w.heap.size + 1 from by simp] at a1
          exact .inr (by omega)
      · exact .inl ((h4 k).2 (.inl ((h1.2 k).2 hk)))
      · exact .inl ((h4 k).2 (.inr (h2c i z hi' hz k hk)))

end

def rowsOf (L : List Nat) : List (List Nat) := (List.range L.length).map fun (j : Nat) => nats (wordBits L (j : Int))

theorem rowsOf_length (L : List Nat) : (rowsOf L).length = L.length := by simp [rowsOf]
theorem rowsOf_take (L : List Nat) (k : Nat) (hk : k < L.length) : (rowsOf L).take (k + 1) = (rowsOf L).take k ++ [nats (wordBits L (k : Int))] := by
  rw [List.take_succ_eq_append_getElem (by rw [rowsOf_length]; exact hk)]
  congr 2
  simp [rowsOf]

def RowsNew (w : World) (L : List Nat) (e : Ending) (w' : World) : Prop :=
  (wordsErr L ≠ 0 ∧ e = .returned (.tuple #[.slice none 0 0, .int .i64 (wordsErr L : Int)]) ∧ Below w.heap.size w w') ∨
    (wordsErr L = 0 ∧ ∃ v', e = .returned (.tuple #[v', .int .i64 0]) ∧ St w.heap.size w w' [rowsT v' (rowsOf L)])

set_option maxRecDepth 100000 in
set_option maxHeartbeats 2000000 in
theorem refRows_any (w : World) (v : Value) (L : List Nat) (h : ByteRow w v L) (hl : L.length ≤ 140737488355328) :
    Calls Tryz.prog 100 #[v] w (RowsNew w L) := by
  have H := Lib.hid h
  have hwords := refWords_st (St.start w) v L h hl
  obtain ⟨a0, cap0, rfl, hc0, hn0, -⟩ := h
  go_enter Tryz.func100, Tryz.ntmps100
  go_wp2_with fail
  refine hwords.mono ?_
  rintro e w1 ⟨v1, rfl, s1⟩
  by_cases hE : wordsErr L = 0
  · obtain ⟨hm, hw⟩ := wordsErr_ok hE
    have hL512 := ((may_iff L).1 hm).1
    have h20 := len_le_of hm
    rw [wordsOf_ok hE, words_length] at s1
    rw [hE]
    obtain ⟨a1, c1, rfl⟩ := ownsRow_slice s1.row
    have s2 : St w.heap.size w w1 (rowsT (.slice none 0 0) ((rowsOf L).take 0) :: rowT 36 1 (.slice a1 L.length c1) L.length (u32s (words L)) :: []) := s1.noRows
    go_wp2
    go_loopw [6, 7] (fun ov iv wr => ∃ k : Nat, k ≤ L.length ∧ iv = .int .i64 (k : Int) ∧ St w.heap.size w wr (rowsT ov ((rowsOf L).take k) :: rowT 36 1 (.slice a1 L.length c1) L.length (u32s (words L)) :: [])) (fun _ iv _ => L.length - (intOf iv).toNat)
    case atStart => exact ⟨0, Nat.zero_le _, rfl, s2⟩
    case round =>
      obtain ⟨k, hk, rfl, t1⟩ := hrel
      by_cases hlt : k < L.length
      · obtain ⟨a0', cap0', e1, -, -, hat⟩ := H.out.below (t1.below (Nat.le_refl _)) (Nat.le_refl _)
        obtain ⟨hx256, b0, off0, rfl, hx0⟩ := hat k hlt
        obtain ⟨rfl, -, rfl⟩ := Value.slice.inj e1
        clear hat e1
        have t2 := t1.swap
        obtain ⟨g0, cap1, e2, hcap0⟩ := t2.rowShape (by omega)
        obtain ⟨rfl, -, rfl⟩ := Value.slice.inj e2
        have hword : wr.cell? ⟨g0, k, none⟩ = some (.int .u32 (word L k : Int)) := by
          rw [t2.row.cellAt k (by omega), u32s_get _ _ (by rw [words_length]; exact hlt), words_at]
        rw [← len_get L k hlt] at hx0
        clear t2 e2
        obtain ⟨Rk, hRk⟩ : ∃ Rk, Rk = (rowsOf L).take k := ⟨_, rfl⟩
        rw [← hRk] at t1
        have hRl : Rk.length ≤ 1000 := by rw [hRk, List.length_take]; omega
        obtain ⟨xb, hxb⟩ : ∃ xb, xb = nats (top (word L k) (len L k) (len L k)) := ⟨_, rfl⟩
        have hbits := refBits_st t1.drew (word L k) (len L k) (h20 k)
        rw [← hxb] at hbits
        have HR : Hid ((rowsOf L).take (k + 1) = Rk ++ [xb]) := by
          rw [hRk, hxb, rowsOf_take L k hlt, wordBits_nat]
          trivial
        have HB := Lib.hid hbits
        clear hbits hRk hxb
        go_wp2
        obtain ⟨vsR, hvsR⟩ := t1.rows
        obtain ⟨ao, co, rfl⟩ := ownsRow_slice hvsR.row
        clear hvsR
        have tz := t1.drew
        have hwz : wr.drew.cell? ⟨g0, k, none⟩ = some (.int .u32 (word L k : Int)) := hword
        have hxz : wr.drew.cell? ⟨b0, off0 + k, none⟩ = some (.int .u8 (len L k : Int)) := hx0
        clear t1 hword hx0
        refine region_seg (by kernel_rfl) [0, 1, 2, 5, 6] 8 rfl (by kernel_rfl) (by kernel_rfl) (fun _ _ d _ _ h => by cases d <;> exact h) ?_
        generalize wr.drew = wd at *
        intro K hK
        simp only [pickL, List.getElem?_cons_zero, List.getElem?_cons_succ]
        go_wp2_with fail
        refine wpAny_take (i := 3) (v := .pointer (some ⟨g0, k, none⟩)) rfl (by kernel_rfl) (by kernel_rfl) (by kernel_rfl) (fun _ _ _ h => h) (.inl ⟨rfl, fun w => by go_simp⟩) ?_
        refine wpAny_take (i := 7) (v := .pointer (some ⟨b0, off0 + k, none⟩)) rfl (by kernel_rfl) (by kernel_rfl) (by kernel_rfl) (fun _ _ _ h => h) (.inl ⟨rfl, fun w => by go_simp⟩) ?_
        refine mid_two 4 8 [8, 9, 10, 11, 12] [4, 9, 10, 11, 12] 0 _ _ (by kernel_rfl) rfl rfl rfl (by kernel_rfl) (by kernel_rfl) (by kernel_rfl) (by kernel_rfl) (fun _ _ d _ _ h => by cases d <;> exact h) ?_ ?_
        all_goals
          intro K hK
          simp only [pickL, List.getElem?_cons_zero, List.getElem?_cons_succ]
          go_wp2_with (first | (go_at_call 130; refine HB.out.mono ?_; rintro e w3 ⟨v3, rfl, t3⟩; obtain ⟨a3, c3, rfl⟩ := ownsRow_slice t3.row) | (at_builtin; refine wpList_append_rows rfl _ _ rfl t3 rfl rfl (by omega) ?_; intro v4 w4 t4))
          refine wpAny_done (by kernel_rfl) ?_ 0
          rw [← HR.out] at t4
          clear tz t3 hwz hxz
          go_wp2
          exact ⟨⟨k + 1, by omega, by go_num, t4⟩, by simp [intOf]; omega⟩
      · obtain rfl : k = L.length := by omega
        rw [List.take_of_length_le (by rw [rowsOf_length]; omega)] at t1
        go_wp2
        go_ret2
        exact .inr ⟨hE, _, rfl, t1.swap.drop⟩
  · have hb := s1.below (Nat.le_refl _)
    go_wp2
    go_ret2
    exact .inl ⟨hE, rfl, hb⟩

def RowsSt (B : Nat) (w0 : World) (r : List Thing) (L : List Nat) (e : Ending) (w' : World) : Prop :=
  (wordsErr L ≠ 0 ∧ e = .returned (.tuple #[.slice none 0 0, .int .i64 (wordsErr L : Int)]) ∧ St B w0 w' r) ∨
    (wordsErr L = 0 ∧ ∃ v', e = .returned (.tuple #[v', .int .i64 0]) ∧ St B w0 w' (rowsT v' (rowsOf L) :: r))

theorem refRows_st {B : Nat} {w0 w : World} {r : List Thing} (st : St B w0 w r) (v : Value) (L : List Nat) (h : ByteRow w v L) (hl : L.length ≤ 140737488355328) :
    Calls Tryz.prog 100 #[v] w (RowsSt B w0 r L) := by
  refine (refRows_any w v L h hl).mono ?_
  rintro e w' (⟨h1, h2, h3⟩ | ⟨h1, v', h2, h3⟩)
  · exact .inl ⟨h1, h2, st.quiet h3⟩
  · obtain ⟨S1, g1, g2, _⟩ := h3.sep
    exact .inr ⟨h1, v', h2, st.add (h3.below (Nat.le_refl _)) g1 g2⟩

theorem rowsOf_get (L : List Nat) (s : Nat) (hs : s < (rowsOf L).length) : (rowsOf L)[s] = nats (wordBits L (s : Int)) := by simp [rowsOf]

theorem St.rowsCell {B : Nat} {w0 w : World} {r : List Thing} {v : Value} {L : List Nat} (st : St B w0 w (rowsT v (rowsOf L) :: r)) (s : Nat) (hs : s < L.length) :
    ∃ g cap au cu, v = .slice (some ⟨g, 0, none⟩) L.length cap ∧ L.length ≤ cap ∧ w.cell? ⟨g, s, none⟩ = some (.slice au (len L s) cu) ∧ ByteRow w (.slice au (len L s) cu) (nats (wordBits L (s : Int))) := by
  obtain ⟨vs, hR⟩ := st.rows
  have hl : (rowsOf L).length = L.length := rowsOf_length L
  obtain ⟨u, e1, e2, _⟩ := hR.each s (by omega)
  rw [rowsOf_get L s (by omega)] at e2
  obtain ⟨au, cu, rfl⟩ := ownsRow_slice e2
  have hn : (nats (wordBits L (s : Int))).length = len L s := by rw [nats_length, wordBits_length, bitsAtSym_nat]
  have hrow := hR.row
  rw [hl] at hrow
  rcases hrow.2 with ⟨_, h0⟩ | ⟨g, cap, cur, rfl, _, _, hnc, _⟩
  · omega
  · refine ⟨g, cap, au, cu, rfl, hnc, ?_, ?_⟩
    · rw [hrow.cellAt s (by omega), e1, hn]
    · have := byteRow_owns e2 (nats_lt _)
      rw [hn] at this
      exact this

theorem bitsBoth_low (l : List Bool) : (bitsBoth (pk l) true).take l.length = l := by
  refine List.ext_getElem ?_ (fun i h1 h2 => ?_)
  · rw [List.length_take]
    unfold bitsBoth
    rw [rest_length, pk_length]
    omega
  · rw [List.getElem_take]
    simp [bitsBoth, rest, bitAt_pk, h2]

theorem bitsBoth_high (l : List Bool) : (bitsBoth (Msb.pk l) false).take l.length = l := by
  refine List.ext_getElem ?_ (fun i h1 h2 => ?_)
  · rw [List.length_take]
    unfold bitsBoth
    rw [rest_length, Msb.pk_length]
    omega
  · rw [List.getElem_take]
    simp [bitsBoth, rest, Msb.bitAt_pk, h2]

end Go.Proofs.YtpinfihmageeoaaGreat

namespace Go.Proofs.YtpinfihmageeoaaGreat
open Kraft

def numTop (p : List Bool) : Nat := p.foldl (fun a b => 2 * a + b.toNat) 0

theorem numTop_snoc (p : List Bool) (b : Bool) : numTop (p ++ [b]) = 2 * numTop p + b.toNat := by simp [numTop]

theorem numTop_inj : ∀ (n : Nat) (p q : List Bool), p.length = n → q.length = n → numTop p = numTop q → p = q
  | 0, p, q, hp, hq, _ => by rw [List.eq_nil_of_length_eq_zero hp, List.eq_nil_of_length_eq_zero hq]
  | n + 1, p, q, hp, hq, h => by
    obtain ⟨p', b, rfl⟩ : ∃ p' b, p = p' ++ [b] := ⟨p.dropLast, p.getLast (by intro e; simp [e] at hp), (List.dropLast_concat_getLast _).symm⟩
    obtain ⟨q', c, rfl⟩ : ∃ q' c, q = q' ++ [c] := ⟨q.dropLast, q.getLast (by intro e; simp [e] at hq), (List.dropLast_concat_getLast _).symm⟩
    rw [numTop_snoc, numTop_snoc] at h
    have hb : b.toNat ≤ 1 := by cases b <;> simp
    have hc : c.toNat ≤ 1 := by cases c <;> simp
    have e1 : b = c := by
      have : b.toNat = c.toNat := by omega
      cases b <;> cases c <;> simp_all
    have e2 := numTop_inj n p' q' (by simpa using hp) (by simpa using hq) (by omega)
    rw [e1, e2]

theorem numTop_top (a n : Nat) (ha : a < 2 ^ n) : ∀ m, m ≤ n → numTop (top a n m) = a / 2 ^ (n - m)
  | 0, _ => by rw [Nat.sub_zero, Nat.div_eq_of_lt ha]; rfl
  | m + 1, h => by
    rw [top_succ, numTop_snoc, numTop_top a n ha m (by omega), show n - 1 - m = n - (m + 1) from by omega]
    have := bit_next a (n - (m + 1))
    rw [show n - (m + 1) + 1 = n - m from by omega] at this
    exact this.symm

theorem top_take (a n m : Nat) (h : m ≤ n) : (top a n n).take m = top a n m := by
  unfold top
  rw [← List.map_take, List.take_range, Nat.min_eq_left h]

theorem fits_iff {L : List Nat} (h20 : ∀ j, len L j ≤ 20) (hw : weight L ≤ 1048576) (j : Nat) (hj : j < L.length) (h0 : 0 < len L j) (p : List Bool) :
    (p.length ≤ len L j ∧ (wordBits L (j : Int)).take p.length = p) ↔ (p.length ≤ len L j ∧ word L j / 2 ^ (len L j - p.length) = numTop p) := by
  have hlt := word_lt L j hj h0 (h20 j) hw
  constructor
  · rintro ⟨h1, h2⟩
    refine ⟨h1, ?_⟩
    rw [wordBits_nat, top_take _ _ _ h1] at h2
    rw [← numTop_top _ _ hlt _ h1, h2]
  · rintro ⟨h1, h2⟩
    refine ⟨h1, ?_⟩
    rw [wordBits_nat, top_take _ _ _ h1]
    refine numTop_inj p.length _ _ (top_length _ _ _) rfl ?_
    rw [numTop_top _ _ hlt _ h1, h2]

def Fit (L : List Nat) (p : List Bool) (j : Nat) : Prop := 0 < len L j ∧ p.length ≤ len L j ∧ (wordBits L (j : Int)).take p.length = p

instance (L : List Nat) (p : List Bool) (j : Nat) : Decidable (Fit L p j) := by unfold Fit; exact inferInstance

section
variable {L : List Nat} (h20 : ∀ j, len L j ≤ 20) (hw : weight L ≤ 1048576)
include h20 hw

theorem tab_exact {p : List Bool} {j : Nat} (hj : j < L.length) (h : Fit L p j) (he : len L j = p.length) : tab L L.length (numTop p) p.length = some (j : Int) := by
  obtain ⟨h0, h1, h2⟩ := h
  have := ((fits_iff h20 hw j hj h0 p).1 ⟨h1, h2⟩).2
  rw [he, Nat.sub_self, Nat.pow_zero, Nat.div_one] at this
  rw [← this, ← he]
  exact tab_word h20 _ j (Nat.le_refl _) hj h0

theorem tab_longer {p : List Bool} {j : Nat} (hj : j < L.length) (h : Fit L p j) (he : len L j ≠ p.length) : tab L L.length (numTop p) p.length = some (-1) := by
  obtain ⟨h0, h1, h2⟩ := h
  have := ((fits_iff h20 hw j hj h0 p).1 ⟨h1, h2⟩).2
  rw [← this]
  exact tab_within h20 _ j _ (Nat.le_refl _) hj (by omega)

theorem tab_nothing {p : List Bool} (h : ∀ j, j < L.length → ¬ Fit L p j) : tab L L.length (numTop p) p.length = none := by
  cases e : tab L L.length (numTop p) p.length with
  | none => rfl
  | some v =>
    exfalso
    rcases tab_some _ _ _ _ e with ⟨k, h1, h2, _, h4, h5⟩ | ⟨_, k, h1, h2, h3⟩
    · exact h k h1 ⟨h2, by omega, ((fits_iff h20 hw k h1 h2 p).2 ⟨by omega, by rw [h4, Nat.sub_self, Nat.pow_zero, Nat.div_one]; exact h5.symm⟩).2⟩
    · exact h k h1 ⟨by omega, by omega, ((fits_iff h20 hw k h1 (by omega) p).2 ⟨by omega, h3.symm⟩).2⟩

end

theorem rest_drop (f : Nat → Bool) (m p : Nat) : rest f m p = (rest f m 0).drop p := by
  refine List.ext_getElem ?_ (fun i h1 h2 => ?_)
  · rw [List.length_drop, rest_length, rest_length]
    omega
  · rw [List.getElem_drop]
    simp [rest]

theorem nats_inj {p q : List Bool} (h : nats p = nats q) : p = q := by
  refine (List.map_inj_right ?_).1 h
  intro a b hab
  cases a <;> cases b <;> simp_all

theorem strOf_inj {xs ys : List Nat} (hx : ∀ x ∈ xs, x < 256) (hy : ∀ y ∈ ys, y < 256) : strOf xs = strOf ys ↔ xs = ys := by
  constructor
  · intro h
    have h1 := congrArg (fun s : ByteArray => s.data.toList) h
    simp only [strOf_data] at h1
    have h2 := congrArg (List.map UInt8.toNat) h1
    rw [List.map_map, List.map_map] at h2
    have e : ∀ zs : List Nat, (∀ z ∈ zs, z < 256) → zs.map (UInt8.toNat ∘ UInt8.ofNat) = zs := fun zs hz => by
      conv => rhs; rw [← List.map_id zs]
      refine List.map_congr_left (fun z hz' => ?_)
      have := hz z hz'
      simp
      omega
    rw [e xs hx, e ys hy] at h2
    exact h2
  · intro h; rw [h]

end Go.Proofs.YtpinfihmageeoaaGreat

namespace Go.Proofs.YtpinfihmageeoaaGreat
open Go.RowKit Kraft

theorem byteRow_take {w : World} {a : Option Addr} {n c m : Nat} {X : List Nat} (h : ByteRow w (.slice a n c) X) (hm : m ≤ n) : ByteRow w (.slice a m c) (X.take m) ∧ n ≤ c ∧ X.length = n := by
  obtain ⟨a', c', e, hc, hn, hat⟩ := h
  obtain ⟨rfl, e2, rfl⟩ := Value.slice.inj e
  refine ⟨⟨a, c, by rw [List.length_take]; congr 1; omega, by rw [List.length_take]; omega, hn, fun i hi => ?_⟩, by omega, e2.symm⟩
  have hi' : i < X.length := by rw [List.length_take] at hi; omega
  rw [List.getElem_take]
  exact hat i hi'

theorem strOf_beq {X Y : List Nat} (hx : ∀ x ∈ X, x < 256) (hy : ∀ y ∈ Y, y < 256) : ((strOf X).toList == (strOf Y).toList) = decide (X = Y) := by
  rw [ByteArray.toList_eq, ByteArray.toList_eq, Bool.eq_iff_iff]
  simp only [beq_iff_eq, decide_eq_true_eq]
  exact ⟨fun h => (strOf_inj hx hy).1 (Go.WideShapes.bytes_inj h), fun h => by rw [h]⟩

theorem begins_any (w : World) (a b : Option Addr) (n m c d : Nat) (X Y : List Nat) (hx : ByteRow w (.slice a n c) X) (hy : ByteRow w (.slice b m d) Y) :
    Calls Tryz.prog 132 #[.slice a n c, .slice b m d] w fun e w' => e = .returned (.bool (decide (m ≤ n ∧ X.take m = Y))) ∧ ∃ k, w' = w.drewN k := by
  by_cases hmn : m ≤ n
  · obtain ⟨r1, r2, r3⟩ := byteRow_take hx hmn
    have s1 := run_string w.drew _ _ r1.reads
    have s2 := run_string w.drew _ _ hy.reads
    have hq := strOf_beq r1.byte hy.byte
    go_enter Tryz.func132, Tryz.ntmps132
    go_wp2
    go_region
    all_goals go_wp2
    all_goals go_ret
    all_goals refine ⟨?_, 1, rfl⟩
    all_goals
      show Ending.returned (.bool (decide (X.take m = Y))) = _
      have hd : decide (X.take m = Y) = decide (m ≤ n ∧ X.take m = Y) := decide_eq_decide.2 ⟨fun h => ⟨hmn, h⟩, fun h => h.2⟩
      rw [hd]
  · rw [show decide (m ≤ n ∧ X.take m = Y) = false from decide_eq_false (fun h => hmn h.1)]
    go_enter Tryz.func132, Tryz.ntmps132
    go_wp2
    go_region
    all_goals go_wp2
    all_goals go_ret
    all_goals exact ⟨rfl, 1, rfl⟩

theorem byteRow_sub {w : World} {b off n c i m : Nat} {X : List Nat} (h : ByteRow w (.slice (some ⟨b, off, none⟩) n c) X) (hm : i + m ≤ n) : ByteRow w (.slice (some ⟨b, off + i, none⟩) m (c - i)) ((X.drop i).take m) := by
  obtain ⟨a', c', e, hc, hn, hat⟩ := h
  obtain ⟨rfl, e2, rfl⟩ := Value.slice.inj e
  refine ⟨some ⟨b, off + i, none⟩, c - i, by rw [List.length_take, List.length_drop]; congr 1; omega, by rw [List.length_take, List.length_drop]; omega, (fun e => by cases e), fun j hj => ?_⟩
  have hj' : i + j < X.length := by rw [List.length_take, List.length_drop] at hj; omega
  rw [List.getElem_take, List.getElem_drop]
  obtain ⟨h1, b', off', e3, h4⟩ := hat (i + j) hj'
  obtain ⟨rfl, rfl, -⟩ := Addr.mk.inj (Option.some.inj e3)
  exact ⟨h1, b, off + i, rfl, by rw [Nat.add_assoc]; exact h4⟩

theorem nats_take (l : List Bool) (m : Nat) : nats (l.take m) = (nats l).take m := by unfold nats; rw [List.map_take]
theorem nats_drop (l : List Bool) (m : Nat) : nats (l.drop m) = (nats l).drop m := by unfold nats; rw [List.map_drop]

theorem begins_fit (L : List Nat) (p : List Bool) (j : Nat) (h0 : 0 < len L j) : decide (p.length ≤ len L j ∧ (nats (wordBits L (j : Int))).take p.length = nats p) = decide (Fit L p j) := by
  refine decide_eq_decide.2 ?_
  unfold Fit
  rw [← nats_take]
  constructor
  · rintro ⟨h1, h2⟩
    exact ⟨h0, h1, nats_inj h2⟩
  · rintro ⟨_, h1, h2⟩
    exact ⟨h1, by rw [h2]⟩

theorem fit_nil (L : List Nat) (j : Nat) (h : 0 < len L j) : Fit L [] j := ⟨h, Nat.zero_le _, rfl⟩

theorem seek_nil_bits (L : List Nat) : seek (tab L L.length) 0 0 [] = (0, 0, 2) := by
  cases e : tab L L.length 0 0 with
  | none => exact seek_none e _
  | some v =>
    rcases tab_some _ _ _ _ e with ⟨k, h1, h2, h3, h4, h5⟩ | ⟨rfl, _⟩
    · omega
    · exact seek_end e

set_option maxRecDepth 100000 in
set_option maxHeartbeats 4000000 in
theorem refGet_nil {w : World} {ar : Option Addr} {cr : Nat} {L : List Nat} (h20 : ∀ j, len L j ≤ 20) (hl : L.length ≤ 512)
    (hrow : ∀ s, s < L.length → ∃ g au cu, ar = some ⟨g, 0, none⟩ ∧ w.cell? ⟨g, s, none⟩ = some (.slice au (len L s) cu) ∧ ByteRow w (.slice au (len L s) cu) (nats (wordBits L (s : Int)))) :
    Calls Tryz.prog 108 #[.slice ar L.length cr, .slice none 0 0, .int .i64 0] w
      fun e w' => e = .returned (.tuple #[.int .i64 0, .int .i64 0, .int .i64 2]) ∧ ∃ k, w' = w.drewN k := by
  have HROW := Lib.hid hrow
  clear hrow
  go_enter Tryz.func108, Tryz.ntmps108
  go_wp2
  go_loopw [9] (fun nv wr => nv = .int .i64 0 ∧ ∃ N, wr = w.drewN N) (fun _ _ => 1)
  case atStart => exact ⟨rfl, 0, rfl⟩
  case round =>
    obtain ⟨rfl, N, hN⟩ := hrel
    go_wp2
    go_loopw [10, 11] (fun sv iv wr => ∃ (i : Nat) (b : Bool), i ≤ L.length ∧ iv = .int .i64 (i : Int) ∧ sv = .bool b ∧ ∃ N, wr = w.drewN N) (fun _ iv _ => L.length - (intOf iv).toNat)
    case atStart => exact ⟨0, false, Nat.zero_le _, rfl, rfl, N, hN⟩
    case round =>
      obtain ⟨i, b, hi, rfl, rfl, N1, hN1⟩ := hrel
      by_cases hlt : i < L.length
      · obtain ⟨g, au, cu, rfl, hc, hbr⟩ := HROW.out i hlt
        have hc1 : wr.cell? ⟨g, i, none⟩ = some (.slice au (len L i) cu) := by rw [hN1]; exact hc
        have HBR := Lib.hid hbr
        have HN1 := Lib.hid hN1
        clear hN1 hbr hc
        by_cases h0 : len L i = 0
        · rw [h0] at hc1
          go_wp2
          go_region
          all_goals go_wp2
          exact ⟨⟨i + 1, b, by omega, by go_num, rfl, N1 + 1, by rw [HN1.out]; rfl⟩, by simp [intOf]; omega⟩
        · have hpos : 0 < len L i := by omega
          have hz : ((len L i : Int) == 0) = false := by rw [beq_eq_false_iff_ne]; omega
          have hli := h20 i
          have hbegins : ∀ wx, wx = wr.drew → Calls Tryz.prog 132 #[.slice au (len L i) cu, .slice none 0 0] wx fun e w' => e = .returned (.bool true) ∧ ∃ k, w' = wx.drewN k := by
            intro wx hwx
            have hb1 : Below w.heap.size w wx := by rw [hwx, HN1.out]; exact (below_drewN N1).drew
            have := begins_any wx _ _ _ _ _ _ _ _ (HBR.out.below hb1 (Nat.le_refl _)) (byteRow_none wx)
            rw [decide_eq_true (show 0 ≤ len L i ∧ (nats (wordBits L (i : Int))).take 0 = [] from ⟨Nat.zero_le _, rfl⟩)] at this
            exact this
          have HBG := Lib.hid hbegins
          have hc2 : wr.drew.cell? ⟨g, i, none⟩ = some (.slice au (len L i) cu) := hc1
          clear hbegins hc1
          go_wp2
          refine region_seg (by kernel_rfl) [0, 1, 2, 3, 4, 5, 6, 7, 8, 11, 12, 13, 14] 7 rfl (by kernel_rfl) (by kernel_rfl) (fun _ _ d _ _ h => by cases d <;> exact h) ?_
          generalize hwd : wr.drew = wd at *
          intro K hK
          simp only [pickL, List.getElem?_cons_zero, List.getElem?_cons_succ]
          go_wp2_with fail
          refine wpAny_take (i := 9) (v := .pointer (some ⟨g, i, none⟩)) rfl (by kernel_rfl) (by kernel_rfl) (by kernel_rfl) (fun _ _ _ h => h) (.inl ⟨rfl, fun w => by go_simp⟩) ?_
          refine wpAny_take (i := 15) (v := .int .i64 0) rfl (by kernel_rfl) (by kernel_rfl) (by kernel_rfl) (fun _ _ _ h => h) (.inl ⟨rfl, fun w => by go_simp; exact IntWalk.i64_in _ (by omega)⟩) ?_
          refine wpAny_take (i := 16) (v := .slice none 0 0) rfl (by kernel_rfl) (by kernel_rfl) (by kernel_rfl) (fun _ _ _ h => h) (.inl ⟨rfl, fun w => by go_simp⟩) ?_
          refine mid_seg [10, 17, 18, 19] 0 (by kernel_rfl) (by kernel_rfl) (fun _ _ d _ _ h => by cases d <;> exact h) ?_
          intro K2 hK2
          simp only [pickL, List.getElem?_cons_zero, List.getElem?_cons_succ]
          go_wp2_with fail
          refine (HBG.out _ rfl).mono ?_
          rintro e w3 ⟨rfl, k3, rfl⟩
          have hwn : ∃ N, wd.drewN k3 = w.drewN N := ⟨N1 + (1 + k3), by rw [← hwd, HN1.out, World.drewN_drew, World.drewN_drewN]⟩
          go_wp2_with fail
          refine wpAny_done (by kernel_rfl) ?_ 0
          go_wp2
          exact ⟨⟨i + 1, true, by omega, by go_num, rfl, hwn⟩, by simp [intOf]; omega⟩
      · obtain rfl : i = L.length := by omega
        have hwn : ∃ N, wr = w.drewN N := ⟨N1, hN1⟩
        clear hN1
        cases b with
        | false =>
          go_wp2
          go_ret3
          exact ⟨rfl, hwn⟩
        | true =>
          go_wp2
          go_ret3
          exact ⟨rfl, hwn⟩

set_option maxRecDepth 100000 in
set_option maxHeartbeats 4000000 in
theorem refGet_any {w : World} {ar : Option Addr} {ab ob cr nb cb : Nat} {L : List Nat} {Bl : List Bool} (h20 : ∀ j, len L j ≤ 20) (hw : weight L ≤ 1048576) (hl : L.length ≤ 512)
    (hrow : ∀ s, s < L.length → ∃ g au cu, ar = some ⟨g, 0, none⟩ ∧ w.cell? ⟨g, s, none⟩ = some (.slice au (len L s) cu) ∧ ByteRow w (.slice au (len L s) cu) (nats (wordBits L (s : Int))))
    (hbits : ByteRow w (.slice (some ⟨ab, ob, none⟩) nb cb) (nats Bl)) (hnb : Bl.length = nb) (hn : nb ≤ 10000) (i0 : Nat) (hi0 : i0 ≤ nb) :
    Calls Tryz.prog 108 #[.slice ar L.length cr, .slice (some ⟨ab, ob, none⟩) nb cb, .int .i64 (i0 : Int)] w
      fun e w' => e = .returned (.tuple #[.int .i64 (seek (tab L L.length) 0 0 (Bl.drop i0)).2.1, .int .i64 ((i0 + (seek (tab L L.length) 0 0 (Bl.drop i0)).1 : Nat) : Int), .int .i64 ((seek (tab L L.length) 0 0 (Bl.drop i0)).2.2 : Int)]) ∧ ∃ k, w' = w.drewN k := by
  have HROW := Lib.hid hrow
  have HB := Lib.hid hbits
  have hcb : nb ≤ cb := by
    obtain ⟨_, _, e, h2, _⟩ := hbits
    obtain ⟨_, e2, e3⟩ := Value.slice.inj e
    omega
  have HNB := Lib.hid hnb
  clear hrow hbits hnb
  generalize hR : seek (tab L L.length) 0 0 (Bl.drop i0) = R
  obtain ⟨Rk, Rs, Re⟩ := R
  go_enter Tryz.func108, Tryz.ntmps108
  go_wp2
  go_loopw [9] (fun nv wr => ∃ n : Nat, i0 + n ≤ nb ∧ nv = .int .i64 (n : Int) ∧ (Rk, Rs, Re) = (n + (seek (tab L L.length) (numTop ((Bl.drop i0).take n)) n (Bl.drop (i0 + n))).1, (seek (tab L L.length) (numTop ((Bl.drop i0).take n)) n (Bl.drop (i0 + n))).2) ∧ ∃ N, wr = w.drewN N) (fun nv _ => nb + 1 - (intOf nv).toNat)
  case atStart => exact ⟨0, by omega, rfl, by rw [← hR]; simp [numTop], 0, rfl⟩
  case round =>
    obtain ⟨n, hin, rfl, hS, N, hN⟩ := hrel
    obtain ⟨p, hp⟩ : ∃ p, p = (Bl.drop i0).take n := ⟨_, rfl⟩
    have hpl : p.length = n := by rw [hp, List.length_take, List.length_drop, HNB.out]; omega
    rw [← hp] at hS
    go_wp2
    go_loopw [10, 11] (fun sv iv wr => ∃ (i : Nat) (b : Bool), i ≤ L.length ∧ iv = .int .i64 (i : Int) ∧ sv = .bool b ∧ (b = true ↔ ∃ j, j < i ∧ Fit L p j) ∧ (∀ j, j < i → Fit L p j → len L j ≠ n) ∧ ∃ N, wr = w.drewN N) (fun _ iv _ => L.length - (intOf iv).toNat)
    case atStart => exact ⟨0, false, Nat.zero_le _, rfl, rfl, ⟨fun h => (Bool.false_ne_true h).elim, fun ⟨j, hj, _⟩ => absurd hj (by omega)⟩, fun j hj => absurd hj (by omega), N, hN⟩
    case round =>
      obtain ⟨i, b, hi, rfl, rfl, hb, hne, N1, hN1⟩ := hrel
      have HBB := Lib.hid hb
      have HNE := Lib.hid hne
      have HP := Lib.hid hp
      have HPL := Lib.hid hpl
      have HS := Lib.hid hS
      clear hb hne hp hpl hS
      by_cases hlt : i < L.length
      · obtain ⟨g, au, cu, rfl, hc, hbr⟩ := HROW.out i hlt
        have hc1 : wr.cell? ⟨g, i, none⟩ = some (.slice au (len L i) cu) := by rw [hN1]; exact hc
        have HBR := Lib.hid hbr
        have HN1 := Lib.hid hN1
        clear hN1 hbr hc
        by_cases h0 : len L i = 0
        · rw [h0] at hc1
          go_wp2
          go_region
          all_goals go_wp2
          have hnf : ¬ Fit L p i := fun h => by have := h.1; omega
          refine ⟨⟨i + 1, b, by omega, by go_num, rfl, ?_, ?_, N1 + 1, by rw [HN1.out]; rfl⟩, by simp [intOf]; omega⟩
          · rw [HBB.out]
            constructor
            · rintro ⟨j, hj, hf⟩; exact ⟨j, by omega, hf⟩
            · rintro ⟨j, hj, hf⟩
              by_cases e : j = i
              · subst e; exact absurd hf hnf
              · exact ⟨j, by omega, hf⟩
          · intro j hj hf
            by_cases e : j = i
            · subst e; exact absurd hf hnf
            · exact HNE.out j (by omega) hf
        · have hpos : 0 < len L i := by omega
          have hz : ((len L i : Int) == 0) = false := by rw [beq_eq_false_iff_ne]; omega
          have hli := h20 i
          obtain ⟨os, hos, hrs⟩ : ∃ os, (if cb = i0 then some ⟨ab, ob, none⟩ else some (⟨ab, ob + i0, none⟩ : Addr)) = some ⟨ab, os, none⟩ ∧ ∀ wx X, ByteRow wx (.slice (some ⟨ab, ob, none⟩) nb cb) X → ByteRow wx (.slice (some ⟨ab, os, none⟩) n (cb - i0)) ((X.drop i0).take n) := by
            by_cases hci : cb = i0
            · refine ⟨ob, by rw [if_pos hci], fun wx X h => ?_⟩
              have hn0 : n = 0 := by omega
              subst hn0
              exact ⟨_, cb - i0, rfl, by simp, (fun e => by cases e), fun j hj => absurd hj (by simp)⟩
            · exact ⟨ob + i0, by rw [if_neg hci], fun wx X h => byteRow_sub h hin⟩
          have hbegins : ∀ wx, wx = wr.drew → Calls Tryz.prog 132 #[.slice au (len L i) cu, .slice (some ⟨ab, os, none⟩) n (cb - i0)] wx fun e w' => e = .returned (.bool (decide (Fit L p i))) ∧ ∃ k, w' = wx.drewN k := by
            intro wx hwx
            have hb1 : Below w.heap.size w wx := by rw [hwx, HN1.out]; exact (below_drewN N1).drew
            have r1 := HBR.out.below hb1 (Nat.le_refl _)
            have r2 := hrs _ _ (HB.out.below hb1 (Nat.le_refl _))
            rw [← nats_drop, ← nats_take, ← HP.out] at r2
            have := begins_any wx _ _ _ _ _ _ _ _ r1 r2
            rw [← HPL.out] at this ⊢
            rw [begins_fit L p i hpos] at this
            exact this
          obtain ⟨m, hm, hmn⟩ : ∃ m : Nat, (i0 : Int) + (n : Int) = (m : Int) ∧ m - i0 = n := ⟨i0 + n, by omega, by omega⟩
          rw [← hmn] at hbegins
          have HMN := Lib.hid hmn
          have hm2 : i0 ≤ m ∧ m ≤ nb := by omega
          have HBG := Lib.hid hbegins
          have hc2 : wr.drew.cell? ⟨g, i, none⟩ = some (.slice au (len L i) cu) := hc1
          have HOS := Lib.hid hos
          clear hbegins hmn hc1 hos hrs
          go_wp2
          refine region_seg (by kernel_rfl) [0, 1, 2, 3, 4, 5, 6, 7, 8, 11, 12, 13, 14] 7 rfl (by kernel_rfl) (by kernel_rfl) (fun _ _ d _ _ h => by cases d <;> exact h) ?_
          generalize hwd : wr.drew = wd at *
          intro K hK
          simp only [pickL, List.getElem?_cons_zero, List.getElem?_cons_succ]
          go_wp2_with fail
          refine wpAny_take (i := 9) (v := .pointer (some ⟨g, i, none⟩)) rfl (by kernel_rfl) (by kernel_rfl) (by kernel_rfl) (fun _ _ _ h => h) (.inl ⟨rfl, fun w => by go_simp⟩) ?_
          refine wpAny_take (i := 15) (v := .int .i64 (m : Int)) rfl (by kernel_rfl) (by kernel_rfl) (by kernel_rfl) (fun _ _ _ h => h) (.inl ⟨rfl, fun w => by go_simp; exact IntWalk.i64_in _ (by omega)⟩) ?_
          refine wpAny_take (i := 16) (v := .slice (some ⟨ab, os, none⟩) (m - i0) (cb - i0)) rfl (by kernel_rfl) (by kernel_rfl) (by kernel_rfl) (fun _ _ _ h => h) (.inl ⟨rfl, fun w => by go_simp; rw [if_pos (by omega : m ≤ cb), HOS.out]⟩) ?_
          refine mid_seg [10, 17, 18, 19] 0 (by kernel_rfl) (by kernel_rfl) (fun _ _ d _ _ h => by cases d <;> exact h) ?_
          intro K2 hK2
          simp only [pickL, List.getElem?_cons_zero, List.getElem?_cons_succ]
          go_wp2_with fail
          refine (HBG.out _ rfl).mono ?_
          rintro e w3 ⟨rfl, k3, rfl⟩
          by_cases hf : Fit L p i
          · rw [decide_eq_true hf]
            go_wp2_with fail
            refine wpAny_done (by kernel_rfl) ?_ 0
            have hwn : ∃ N, wd.drewN k3 = w.drewN N := ⟨N1 + (1 + k3), by rw [← hwd, HN1.out, World.drewN_drew, World.drewN_drewN]⟩
            by_cases he : len L i = n
            · have ht := tab_exact h20 hw hlt hf (by rw [he, HPL.out])
              rw [HPL.out] at ht
              have hs := HS.out
              rw [seek_sym ht (by omega)] at hs
              obtain ⟨e1, e2⟩ := Prod.mk.inj hs
              obtain ⟨e3, e4⟩ := Prod.mk.inj e2
              have HE := Lib.hid (show Rk = n ∧ Rs = (i : Int) ∧ Re = 0 from ⟨e1, e3, e4⟩)
              clear ht hs e1 e2 e3 e4
              go_wp2
              go_ret3
              obtain ⟨e1, e3, e4⟩ := HE.out
              have hm3 : m = i0 + Rk := by have := HMN.out; omega
              refine ⟨?_, hwn⟩
              rw [e3, e4, ← hm3]
              rfl
            · have hne2 : ((len L i : Int) == (n : Int)) = false := by rw [beq_eq_false_iff_ne]; omega
              go_wp2
              refine ⟨⟨i + 1, true, by omega, by go_num, rfl, ⟨fun _ => ⟨i, by omega, hf⟩, fun _ => rfl⟩, ?_, hwn⟩, by simp [intOf]; omega⟩
              intro j hj hfj
              by_cases e : j = i
              · subst e; exact he
              · exact HNE.out j (by omega) hfj
          · rw [decide_eq_false hf]
            have hwn : ∃ N, wd.drewN k3 = w.drewN N := ⟨N1 + (1 + k3), by rw [← hwd, HN1.out, World.drewN_drew, World.drewN_drewN]⟩
            go_wp2_with fail
            refine wpAny_done (by kernel_rfl) ?_ 0
            go_wp2
            refine ⟨⟨i + 1, b, by omega, by go_num, rfl, ?_, ?_, hwn⟩, by simp [intOf]; omega⟩
            · rw [HBB.out]
              constructor
              · rintro ⟨j, hj, hfj⟩; exact ⟨j, by omega, hfj⟩
              · rintro ⟨j, hj, hfj⟩
                by_cases e : j = i
                · subst e; exact absurd hfj hf
                · exact ⟨j, by omega, hfj⟩
            · intro j hj hfj
              by_cases e : j = i
              · subst e; exact absurd hfj hf
              · exact HNE.out j (by omega) hfj
      · obtain rfl : i = L.length := by omega
        have hwn : ∃ N, wr = w.drewN N := ⟨N1, hN1⟩
        obtain ⟨m, hm, hmn⟩ : ∃ m : Nat, (i0 : Int) + (n : Int) = (m : Int) ∧ m = i0 + n := ⟨i0 + n, by omega, rfl⟩
        have HMN := Lib.hid hmn
        have hmb : m ≤ nb := by omega
        clear hN1 hmn
        cases b with
        | false =>
          have ht : tab L L.length (numTop p) n = none := by
            have := tab_nothing h20 hw (p := p) (fun j hj hfj => Bool.false_ne_true (HBB.out.2 ⟨j, hj, hfj⟩))
            rw [HPL.out] at this
            exact this
          have hs := HS.out
          rw [seek_none ht] at hs
          obtain ⟨e1, e2⟩ := Prod.mk.inj hs
          obtain ⟨e3, e4⟩ := Prod.mk.inj e2
          have HE := Lib.hid (show Rk = n ∧ Rs = 0 ∧ Re = 2 from ⟨e1, e3, e4⟩)
          clear ht hs e1 e2 e3 e4
          go_wp2
          go_ret3
          obtain ⟨e1, e3, e4⟩ := HE.out
          have hm3 : m = i0 + Rk := by have := HMN.out; omega
          refine ⟨?_, hwn⟩
          rw [e3, e4, ← hm3]
          rfl
        | true =>
          have ht : tab L L.length (numTop p) n = some (-1) := by
            obtain ⟨j, hj, hfj⟩ := HBB.out.1 rfl
            have := tab_longer h20 hw hj hfj (by rw [HPL.out]; exact HNE.out j hj hfj)
            rw [HPL.out] at this
            exact this
          have hs := HS.out
          by_cases hend : m = nb
          · have hdrop : Bl.drop (i0 + n) = [] := List.drop_eq_nil_of_le (by have := HNB.out; have := HMN.out; omega)
            rw [hdrop, seek_end ht] at hs
            obtain ⟨e1, e2⟩ := Prod.mk.inj hs
            obtain ⟨e3, e4⟩ := Prod.mk.inj e2
            have HE := Lib.hid (show Rk = n ∧ Rs = 0 ∧ Re = 2 from ⟨e1, e3, e4⟩)
            have hend2 : ((m : Int) == (nb : Int)) = true := by rw [beq_iff_eq]; omega
            clear ht hs e1 e2 e3 e4 hdrop
            go_wp2
            go_ret3
            obtain ⟨e1, e3, e4⟩ := HE.out
            have hm3 : m = i0 + Rk := by have := HMN.out; omega
            refine ⟨?_, hwn⟩
            rw [e3, e4, show (i0 : Int) + (Rk : Int) = (nb : Int) from by omega]
            rfl
          · have hlt2 : i0 + n < Bl.length := by have := HNB.out; have := HMN.out; omega
            obtain ⟨bt, hbt⟩ : ∃ bt, bt = Bl[i0 + n] := ⟨_, rfl⟩
            rw [List.drop_eq_getElem_cons hlt2, ← hbt, seek_on ht] at hs
            have hp2 : (Bl.drop i0).take (n + 1) = p ++ [bt] := by
              rw [List.take_succ_eq_append_getElem (by rw [List.length_drop]; omega), ← HP.out, List.getElem_drop, hbt]
            have HP2 := Lib.hid hp2
            have HS2 := Lib.hid hs
            have hend2 : ((m : Int) == (nb : Int)) = false := by rw [beq_eq_false_iff_ne]; omega
            clear ht hs hbt hp2 hlt2
            go_wp2
            refine ⟨⟨n + 1, by have := HMN.out; omega, by go_num, ?_, hwn⟩, by have := HMN.out; simp [intOf]; omega⟩
            rw [HP2.out, numTop_snoc, HS2.out, show i0 + (n + 1) = i0 + n + 1 from by omega]
            refine Prod.mk.injEq .. ▸ ⟨by omega, rfl⟩

theorem refGet_rows {w : World} {va vb : Option Addr} {cr nb cb : Nat} {L : List Nat} {Bl : List Bool} (h20 : ∀ j, len L j ≤ 20) (hw : weight L ≤ 1048576) (hl : L.length ≤ 512)
    (hrow : ∀ s, s < L.length → ∃ g au cu, va = some ⟨g, 0, none⟩ ∧ w.cell? ⟨g, s, none⟩ = some (.slice au (len L s) cu) ∧ ByteRow w (.slice au (len L s) cu) (nats (wordBits L (s : Int))))
    (hbits : ByteRow w (.slice vb nb cb) (nats Bl)) (hv : vb = none ∨ ∃ b o, vb = some ⟨b, o, none⟩) (hnb : Bl.length = nb) (hn : nb ≤ 10000) (i0 : Nat) (hi0 : i0 ≤ nb) :
    Calls Tryz.prog 108 #[.slice va L.length cr, .slice vb nb cb, .int .i64 (i0 : Int)] w
      fun e w' => e = .returned (.tuple #[.int .i64 (seek (tab L L.length) 0 0 (Bl.drop i0)).2.1, .int .i64 ((i0 + (seek (tab L L.length) 0 0 (Bl.drop i0)).1 : Nat) : Int), .int .i64 ((seek (tab L L.length) 0 0 (Bl.drop i0)).2.2 : Int)]) ∧ ∃ k, w' = w.drewN k := by
  rcases hv with rfl | ⟨b, o, rfl⟩
  · obtain ⟨a', c', e, h1, h2, _⟩ := hbits
    obtain ⟨rfl, e2, rfl⟩ := Value.slice.inj e
    have h0 := h2 rfl
    subst h0
    obtain rfl : nb = 0 := by omega
    obtain rfl : i0 = 0 := by omega
    obtain rfl : Bl = [] := List.eq_nil_of_length_eq_zero hnb
    rw [show ([] : List Bool).drop 0 = [] from rfl, seek_nil_bits]
    exact refGet_nil h20 hl hrow
  · exact refGet_any h20 hw hl hrow hbits hnb hn i0 hi0

theorem St.rowsAll {B : Nat} {w0 w : World} {r : List Thing} {va : Option Addr} {cr : Nat} {L : List Nat} (st : St B w0 w (rowsT (.slice va L.length cr) (rowsOf L) :: r)) :
    ∀ s, s < L.length → ∃ g au cu, va = some ⟨g, 0, none⟩ ∧ w.cell? ⟨g, s, none⟩ = some (.slice au (len L s) cu) ∧ ByteRow w (.slice au (len L s) cu) (nats (wordBits L (s : Int))) := by
  intro s hs
  obtain ⟨g, cap, au, cu, e, _, h1, h2⟩ := st.rowsCell s hs
  obtain ⟨rfl, -, -⟩ := Value.slice.inj e
  exact ⟨g, au, cu, rfl, h1, h2⟩

end Go.Proofs.YtpinfihmageeoaaGreat
