/-
  Slices of slices of bytes that a call has made (rows), and pressworkref06.Rows. No conditions but that slices are of at most 2^47 elements.
-/
import Derived.Test.YtakkfdibiboofaaPfxR
namespace Go.Proofs.Ytakkfdibiboofaa
open Go.RowKit Kraft

/-- The slice v holds slices that read as these rows; its own block is none of theirs. -/
structure RowsAt (w : World) (v : Value) (R : List (List Nat)) (vs : List Value) : Prop where
  row : w.ownsRow 0 22 1 v R.length vs
  one : ∀ u ∈ vs, u.oneCell' = true
  each : ∀ (i : Nat) (h : i < R.length), ∃ u, vs[i]? = some u ∧ w.ownsRow 0 5 1 u R[i].length (u8s R[i]) ∧ ∀ g, v.ownBlock = some g → u.ownBlock ≠ some g

def rowsT (v : Value) (R : List (List Nat)) : Thing where
  holds w S := ∃ vs, RowsAt w v R vs ∧ (∀ k, S k → k < w.heap.size) ∧ (∀ k, v.ownBlock = some k → S k) ∧ ∀ (i : Nat) (u : Value), i < R.length → vs[i]? = some u → ∀ k, u.ownBlock = some k → S k
  keep := by
    rintro w w' S T ⟨vs, h1, h2, h3, h4⟩ ho hd
    refine ⟨vs, ⟨ownsRow_only h1.row ho (fun g hg => hd g (h3 g hg)), h1.one, fun i hi => ?_⟩, fun k hk => Nat.lt_of_lt_of_le (h2 k hk) ho.size, h3, h4⟩
    obtain ⟨u, e1, e2, e3⟩ := h1.each i hi
    exact ⟨u, e1, ownsRow_only e2 ho (fun g hg => hd g (h4 i u hi e1 g hg)), e3⟩
  lt := by
    rintro w S k ⟨vs, h1, h2, h3, h4⟩ hk
    exact h2 k hk

section
variable {B : Nat} {w0 w : World} {r : List Thing}

theorem St.rows {v : Value} {R : List (List Nat)} (h : St B w0 w (rowsT v R :: r)) : ∃ vs, RowsAt w v R vs := by
  obtain ⟨S1, ⟨vs, h1, _⟩, _⟩ := h.sep
  exact ⟨vs, h1⟩

theorem St.noRows (h : St B w0 w r) : St B w0 w (rowsT (.slice none 0 0) [] :: r) :=
  h.add (S := fun _ => False) (Below.refl _ _) ⟨[], ⟨World.ownsRow_nil _ _ _ _, fun u hu => absurd hu (by simp), fun i hi => absurd hi (by simp)⟩, fun _ f => f.elim, fun k hk => by simp [Value.ownBlock] at hk, fun i u hi => absurd hi (by simp)⟩ (fun _ f => f.elim)

/-- Two things as one. -/
def bothT (A C : Thing) : Thing where
  holds w S := ∃ S1 S2, A.holds w S1 ∧ C.holds w S2 ∧ (∀ k, S1 k → ¬ S2 k) ∧ ∀ k, S k ↔ S1 k ∨ S2 k
  keep := by
    rintro w w' S T ⟨S1, S2, h1, h2, h3, h4⟩ ho hd
    exact ⟨S1, S2, A.keep h1 ho (fun k hk => hd k ((h4 k).2 (.inl hk))), C.keep h2 ho (fun k hk => hd k ((h4 k).2 (.inr hk))), h3, h4⟩
  lt := by
    rintro w S k ⟨S1, S2, h1, h2, h3, h4⟩ hk
    rcases (h4 k).1 hk with hk | hk
    · exact A.lt h1 hk
    · exact C.lt h2 hk

theorem St.both {A C : Thing} (h : St B w0 w (A :: C :: r)) : St B w0 w (bothT A C :: r) := by
  obtain ⟨S1, h1, h2, S2, h3, h4, h5⟩ := h.sep
  refine ⟨h.only, h.size, fun k => S1 k ∨ S2 k, ⟨S1, S2, h1, h3, fun k a b => (h4 k b).2 a, fun _ => Iff.rfl⟩, fun k hk => hk.elim (h2 k) (fun hk => (h4 k hk).1), ?_⟩
  exact Sep.mono h5 (fun k _ hk => ⟨hk.1.1, fun h' => h'.elim hk.1.2 hk.2⟩)

theorem ownsRow_inj {b b' : Nat} {e : TypeId} {size n : Nat} {v : Value} {xs ys : List Value} (h : w.ownsRow b e size v n xs) (h' : w.ownsRow b' e size v n ys) : xs = ys := by
  rcases h.2 with ⟨_, h0⟩ | ⟨g, cap, cur, hv, _, hg, _, _, _, ht⟩
  · subst h0
    have l1 := h.1
    have l2 := h'.1
    rw [Nat.zero_mul] at l1 l2
    rw [List.eq_nil_of_length_eq_zero l1, List.eq_nil_of_length_eq_zero l2]
  · rcases h'.2 with ⟨hv', _⟩ | ⟨g', cap', cur', hv', _, hg', _, _, _, ht'⟩
    · rw [hv] at hv'
      cases hv'
    · rw [hv] at hv'
      have e1 := congrArg Addr.block (Option.some.inj (Value.slice.inj hv').1)
      have e2 : g = g' := e1
      subst e2
      rw [hg] at hg'
      have e3 := (Obj.cells.inj (Option.some.inj hg')).1
      subst e3
      rw [← ht, ← ht']

theorem infoRow : (Try.prog.info? 22).map (fun i => (i.zero, i.size, i.bytes)) = some (some (.slice none 0 0), 1, 24) := by kernel_rfl

/-- 'append(out, x)', x a slice of bytes of the call's own. -/
theorem wpList_append_rows {ops : Array Oper} {rest : List Oper} {o : Oper} {a : Act} {Q : Exit → Act → World → Prop} (hgd : o.guard = none) (s x : Operand)
    (ho : o.op = .call { callee := .builtin .append, args := #[s, x], argTypes := #[27, 27] })
    {v u : Value} {R : List (List Nat)} {xs : List Nat} (st : St B w0 w (rowT 5 1 u xs.length (u8s xs) :: rowsT v R :: r)) (hs : a.eval s = v)
    (hx : a.eval x = .slice (some ⟨w.heap.size, 0, none⟩) 1 1) (hl : R.length ≤ 1000000)
    (K : ∀ v' w', St B w0 w' (rowsT v' (R ++ [xs]) :: r) → wpList Try.prog ops Q rest (a.put o.dst v') w') : wpList Try.prog ops Q (o :: rest) a (w.alloc (.cells #[u] 22)) := by
  obtain ⟨i0, hi, hz0, hz1, hz2⟩ := info_parts infoRow
  obtain ⟨vs, hR⟩ := st.swap.rows
  have hu1 : u.oneCell' = true := by
    obtain ⟨au, cu, rfl⟩ := ownsRow_slice st.row
    rfl
  have hlen : vs.length = R.length := by simpa using hR.row.1
  refine wpList_append_mine _ hgd s x 27 ho 22 i0 (.slice none 0 0) 1 24 Try.underlying27 hi hz0 hz1 hz2 rfl (by decide) v R.length vs hs (ownsRow_only hR.row ((Only.refl (fun _ => False) w).alloc _) (fun _ _ f => f)) (some ⟨w.heap.size, 0, none⟩) 1 1 [u] hx (fun e => by cases e) rfl ?_ (fun z hz => by simp at hz; subst hz; exact hu1) (by unfold maxLen; omega) (by omega) ?_
  · intro b hb j z hz
    obtain rfl := Option.some.inj hb
    cases j with
    | zero =>
      simp at hz
      subst hz
      rw [add_none, cell_of_row _ w.heap.size _ #[u] 22 (0, 0) (heap_alloc_new w _)]
      rfl
    | succ j => simp at hz
  · intro v' w' g1 g2 g3
    refine K v' w' (st.both.step fun S hS => ?_)
    obtain ⟨S1, S2, h1, ⟨vs', h2, h2a, h2b, h2c⟩, h3, h4⟩ := hS
    obtain rfl : vs' = vs := ownsRow_inj h2.row hR.row
    have hoS : Only S w w' := ((Only.refl S w).alloc _).grown g2 (fun k hk _ => (h4 k).2 (.inr (h2b k hk)))
    have hoV : Only (fun k => v.ownBlock = some k) w w' := ((Only.refl (fun k => v.ownBlock = some k) w).alloc _).grown g2 (fun k hk _ => hk)
    have hfresh : ∀ z : Value, (∀ k, z.ownBlock = some k → k < w.heap.size) → (∀ g, v.ownBlock = some g → z.ownBlock ≠ some g) → ∀ g, v'.ownBlock = some g → z.ownBlock ≠ some g := by
      intro z hz1 hz2 g hg e
      rcases g3 with f | f
      · exact hz2 g (by rw [← f]; exact hg) e
      · have a1 := f g hg
        have a2 := hz1 g e
        rw [show (w.alloc (.cells #[u] 22)).heap.size = w.heap.size + 1 from by simp] at a1
        omega
    have hu2 : ∀ g, v.ownBlock = some g → u.ownBlock ≠ some g := fun g hg e => h3 g ((h1.2 g).2 e) (h2b g hg)
    refine ⟨fun k => v'.ownBlock = some k ∨ u.ownBlock = some k ∨ ∃ i z, i < R.length ∧ vs'[i]? = some z ∧ z.ownBlock = some k, ⟨vs' ++ [u], ⟨?_, ?_, ?_⟩, ?_, fun k hk => .inl hk, ?_⟩, hoS, ?_⟩
    · rw [List.length_append]
      exact g1
    · intro z hz
      rcases List.mem_append.1 hz with hz | hz
      · exact h2.one z hz
      · rw [List.mem_singleton] at hz
        subst hz
        exact hu1
    · intro i hi
      by_cases hlt : i < R.length
      · obtain ⟨z, e1, e2, e3⟩ := h2.each i hlt
        refine ⟨z, by rw [List.getElem?_append_left (by omega)]; exact e1, ?_, hfresh z (fun k hk => (e2.lt k hk).2) e3⟩
        rw [List.getElem_append_left hlt]
        exact ownsRow_only e2 hoV (fun g hg hg' => e3 g hg' hg)
      · have e0 : i = R.length := by simp at hi; omega
        subst e0
        refine ⟨u, by rw [List.getElem?_append_right (by omega), hlen, Nat.sub_self]; rfl, ?_, hfresh u (fun k hk => (h1.1.lt k hk).2) hu2⟩
        rw [List.getElem_append_right (Nat.le_refl _)]
        simp only [Nat.sub_self, List.getElem_cons_zero]
        exact ownsRow_only h1.1 hoV (fun g hg hg' => hu2 g hg' hg)
    · intro k hk
      rcases hk with hk | hk | ⟨i, z, hi', hz, hk⟩
      · exact (g1.lt k hk).2
      · exact Nat.lt_of_lt_of_le (h1.1.lt k hk).2 hoS.size
      · obtain ⟨z', e1, e2, _⟩ := h2.each i hi'
        rw [hz] at e1
        obtain rfl := Option.some.inj e1
        exact Nat.lt_of_lt_of_le (e2.lt k hk).2 hoS.size
    · intro i z hi' hz k hk
      by_cases hlt : i < R.length
      · rw [List.getElem?_append_left (by omega)] at hz
        exact .inr (.inr ⟨i, z, hlt, hz, hk⟩)
      · have e0 : i = R.length := by simp at hi'; omega
        subst e0
        rw [List.getElem?_append_right (by omega), hlen, Nat.sub_self] at hz
        obtain rfl := Option.some.inj hz
        exact .inr (.inl hk)
    · intro k hk
      rcases hk with hk | hk | ⟨i, z, hi', hz, hk⟩
      · rcases g3 with f | f
        · exact .inl ((h4 k).2 (.inr (h2b k (by rw [← f]; exact hk))))
        · have a1 := f k hk
          rw [show (w.alloc (.cells #[u] 22)).heap.size = w.heap.size + 1 from by simp] at a1
          exact .inr (by omega)
      · exact .inl ((h4 k).2 (.inl ((h1.2 k).2 hk)))
      · exact .inl ((h4 k).2 (.inr (h2c i z hi' hz k hk)))

end

/-- Each symbol's word as bits. -/
def rowsOf (L : List Nat) : List (List Nat) := (List.range L.length).map fun (j : Nat) => nats (wordBits L (j : Int))

theorem rowsOf_length (L : List Nat) : (rowsOf L).length = L.length := by simp [rowsOf]
theorem rowsOf_take (L : List Nat) (k : Nat) (hk : k < L.length) : (rowsOf L).take (k + 1) = (rowsOf L).take k ++ [nats (wordBits L (k : Int))] := by
  rw [List.take_succ_eq_append_getElem (by rw [rowsOf_length]; exact hk)]
  congr 2
  simp [rowsOf]

/-- What Rows answers. -/
def RowsNew (w : World) (L : List Nat) (e : Ending) (w' : World) : Prop :=
  (wordsErr L ≠ 0 ∧ e = .returned (.tuple #[.slice none 0 0, .int .i64 (wordsErr L : Int)]) ∧ Below w.heap.size w w') ∨
    (wordsErr L = 0 ∧ ∃ v', e = .returned (.tuple #[v', .int .i64 0]) ∧ St w.heap.size w w' [rowsT v' (rowsOf L)])

set_option maxRecDepth 100000 in
set_option maxHeartbeats 2000000 in
theorem refRows_any (w : World) (v : Value) (L : List Nat) (h : ByteRow w v L) (hl : L.length ≤ 140737488355328) :
    Calls Try.prog 10 #[v] w (RowsNew w L) := by
  have H := Lib.hid h
  have hwords := refWords_st (St.start w) v L h hl
  obtain ⟨a0, cap0, rfl, hc0, hn0, -⟩ := h
  go_enter Try.func10, Try.ntmps10
  go_wp2_with fail
  refine hwords.mono ?_
  rintro e w1 ⟨v1, rfl, s1⟩
  by_cases hE : wordsErr L = 0
  · obtain ⟨hm, hw⟩ := wordsErr_ok hE
    have hL512 := ((may_iff L).1 hm).1
    have h20 := len_le_of hm
    rw [wordsOf_ok hE, words_length] at s1
    rw [hE]
    obtain ⟨a1, c1, rfl⟩ := ownsRow_slice s1.row
    have s2 : St w.heap.size w w1 (rowsT (.slice none 0 0) ((rowsOf L).take 0) :: rowT 70 1 (.slice a1 L.length c1) L.length (u32s (words L)) :: []) := s1.noRows
    go_wp2
    go_loopw [6, 7] (fun ov iv wr => ∃ k : Nat, k ≤ L.length ∧ iv = .int .i64 (k : Int) ∧ St w.heap.size w wr (rowsT ov ((rowsOf L).take k) :: rowT 70 1 (.slice a1 L.length c1) L.length (u32s (words L)) :: [])) (fun _ iv _ => L.length - (intOf iv).toNat)
    case atStart => exact ⟨0, Nat.zero_le _, rfl, s2⟩
    case round =>
      obtain ⟨k, hk, rfl, t1⟩ := hrel
      by_cases hlt : k < L.length
      · obtain ⟨a0', cap0', e1, -, -, hat⟩ := H.out.below (t1.below (Nat.le_refl _)) (Nat.le_refl _)
        obtain ⟨hx256, b0, off0, rfl, hx0⟩ := hat k hlt
        obtain ⟨rfl, -, rfl⟩ := Value.slice.inj e1
        clear hat e1
        have t2 := t1.swap
        obtain ⟨g0, cap1, e2, hcap0⟩ := t2.rowShape (by omega)
        obtain ⟨rfl, -, rfl⟩ := Value.slice.inj e2
        have hword : wr.cell? ⟨g0, k, none⟩ = some (.int .u32 (word L k : Int)) := by
          rw [t2.row.cellAt k (by omega), u32s_get _ _ (by rw [words_length]; exact hlt), words_at]
        rw [← len_get L k hlt] at hx0
        clear t2 e2
        obtain ⟨Rk, hRk⟩ : ∃ Rk, Rk = (rowsOf L).take k := ⟨_, rfl⟩
        rw [← hRk] at t1
        have hRl : Rk.length ≤ 1000 := by rw [hRk, List.length_take]; omega
        obtain ⟨xb, hxb⟩ : ∃ xb, xb = nats (top (word L k) (len L k) (len L k)) := ⟨_, rfl⟩
        have hbits := refBits_st t1.drew (word L k) (len L k) (h20 k)
        rw [← hxb] at hbits
        have HR : Hid ((rowsOf L).take (k + 1) = Rk ++ [xb]) := by
          rw [hRk, hxb, rowsOf_take L k hlt, wordBits_nat]
          trivial
        have HB := Lib.hid hbits
        clear hbits hRk hxb
        go_wp2
        obtain ⟨vsR, hvsR⟩ := t1.rows
        obtain ⟨ao, co, rfl⟩ := ownsRow_slice hvsR.row
        clear hvsR
        have tz := t1.drew
        have hwz : wr.drew.cell? ⟨g0, k, none⟩ = some (.int .u32 (word L k : Int)) := hword
        have hxz : wr.drew.cell? ⟨b0, off0 + k, none⟩ = some (.int .u8 (len L k : Int)) := hx0
        clear t1 hword hx0
        refine region_seg (by kernel_rfl) [0, 1, 2, 5, 6] 8 rfl (by kernel_rfl) (by kernel_rfl) (fun _ _ d _ _ h => by cases d <;> exact h) ?_
        generalize wr.drew = wd at *
        intro K hK
        simp only [pickL, List.getElem?_cons_zero, List.getElem?_cons_succ]
        go_wp2_with fail
        refine wpAny_take (i := 3) (v := .pointer (some ⟨g0, k, none⟩)) rfl (by kernel_rfl) (by kernel_rfl) (by kernel_rfl) (fun _ _ _ h => h) (.inl ⟨rfl, fun w => by go_simp⟩) ?_
        refine wpAny_take (i := 7) (v := .pointer (some ⟨b0, off0 + k, none⟩)) rfl (by kernel_rfl) (by kernel_rfl) (by kernel_rfl) (fun _ _ _ h => h) (.inl ⟨rfl, fun w => by go_simp⟩) ?_
        refine mid_two 4 8 [8, 9, 10, 11, 12] [4, 9, 10, 11, 12] 0 _ _ (by kernel_rfl) rfl rfl rfl (by kernel_rfl) (by kernel_rfl) (by kernel_rfl) (by kernel_rfl) (fun _ _ d _ _ h => by cases d <;> exact h) ?_ ?_
        all_goals
          intro K hK
          simp only [pickL, List.getElem?_cons_zero, List.getElem?_cons_succ]
          go_wp2_with (first | (go_at_call 31; refine HB.out.mono ?_; rintro e w3 ⟨v3, rfl, t3⟩; obtain ⟨a3, c3, rfl⟩ := ownsRow_slice t3.row) | (at_builtin; refine wpList_append_rows rfl _ _ rfl t3 rfl rfl (by omega) ?_; intro v4 w4 t4))
          refine wpAny_done (by kernel_rfl) ?_ 0
          rw [← HR.out] at t4
          clear tz t3 hwz hxz
          go_wp2
          exact ⟨⟨k + 1, by omega, by go_num, t4⟩, by simp [intOf]; omega⟩
      · obtain rfl : k = L.length := by omega
        rw [List.take_of_length_le (by rw [rowsOf_length]; omega)] at t1
        go_wp2
        go_ret2
        exact .inr ⟨hE, _, rfl, t1.swap.drop⟩
  · have hb := s1.below (Nat.le_refl _)
    go_wp2
    go_ret2
    exact .inl ⟨hE, rfl, hb⟩

/-- Rows, over a state. -/
def RowsSt (B : Nat) (w0 : World) (r : List Thing) (L : List Nat) (e : Ending) (w' : World) : Prop :=
  (wordsErr L ≠ 0 ∧ e = .returned (.tuple #[.slice none 0 0, .int .i64 (wordsErr L : Int)]) ∧ St B w0 w' r) ∨
    (wordsErr L = 0 ∧ ∃ v', e = .returned (.tuple #[v', .int .i64 0]) ∧ St B w0 w' (rowsT v' (rowsOf L) :: r))

theorem refRows_st {B : Nat} {w0 w : World} {r : List Thing} (st : St B w0 w r) (v : Value) (L : List Nat) (h : ByteRow w v L) (hl : L.length ≤ 140737488355328) :
    Calls Try.prog 10 #[v] w (RowsSt B w0 r L) := by
  refine (refRows_any w v L h hl).mono ?_
  rintro e w' (⟨h1, h2, h3⟩ | ⟨h1, v', h2, h3⟩)
  · exact .inl ⟨h1, h2, st.quiet h3⟩
  · obtain ⟨S1, g1, g2, _⟩ := h3.sep
    exact .inr ⟨h1, v', h2, st.add (h3.below (Nat.le_refl _)) g1 g2⟩

theorem bits_st {B : Nat} {w0 w : World} {r : List Thing} (st : St B w0 w r) (v : Value) (xs : List Nat) (h : ByteRow w v xs) (low : Bool) (hl : xs.length ≤ 1000000) :
    Calls Try.prog 14 #[v, .bool low] w (BytesSt B w0 r (nats (bitsBoth xs low))) := by
  refine (bits_new w v xs h low hl).mono ?_
  rintro e w' ⟨v', rfl, hown, hbel⟩
  exact ⟨v', rfl, st.addRow hbel hown⟩

theorem rowsOf_get (L : List Nat) (s : Nat) (hs : s < (rowsOf L).length) : (rowsOf L)[s] = nats (wordBits L (s : Int)) := by simp [rowsOf]

/-- An element of rows, as a cell. -/
theorem St.rowsCell {B : Nat} {w0 w : World} {r : List Thing} {v : Value} {L : List Nat} (st : St B w0 w (rowsT v (rowsOf L) :: r)) (s : Nat) (hs : s < L.length) :
    ∃ g cap au cu, v = .slice (some ⟨g, 0, none⟩) L.length cap ∧ L.length ≤ cap ∧ w.cell? ⟨g, s, none⟩ = some (.slice au (len L s) cu) ∧ ByteRow w (.slice au (len L s) cu) (nats (wordBits L (s : Int))) := by
  obtain ⟨vs, hR⟩ := st.rows
  have hl : (rowsOf L).length = L.length := rowsOf_length L
  obtain ⟨u, e1, e2, _⟩ := hR.each s (by omega)
  rw [rowsOf_get L s (by omega)] at e2
  obtain ⟨au, cu, rfl⟩ := ownsRow_slice e2
  have hn : (nats (wordBits L (s : Int))).length = len L s := by rw [nats_length, wordBits_length, bitsAtSym_nat]
  have hrow := hR.row
  rw [hl] at hrow
  rcases hrow.2 with ⟨_, h0⟩ | ⟨g, cap, cur, rfl, _, _, hnc, _⟩
  · omega
  · refine ⟨g, cap, au, cu, rfl, hnc, ?_, ?_⟩
    · rw [hrow.cellAt s (by omega), e1, hn]
    · have := byteRow_owns e2 (nats_lt _)
      rw [hn] at this
      exact this

/-- The bits of a packed row, the first of them. -/
theorem bitsBoth_low (l : List Bool) : (bitsBoth (pk l) true).take l.length = l := by
  refine List.ext_getElem ?_ (fun i h1 h2 => ?_)
  · rw [List.length_take]
    unfold bitsBoth
    rw [rest_length, pk_length]
    omega
  · rw [List.getElem_take]
    simp [bitsBoth, rest, bitAt_pk, h2]

theorem bitsBoth_high (l : List Bool) : (bitsBoth (Msb.pk l) false).take l.length = l := by
  refine List.ext_getElem ?_ (fun i h1 h2 => ?_)
  · rw [List.length_take]
    unfold bitsBoth
    rw [rest_length, Msb.pk_length]
    omega
  · rw [List.getElem_take]
    simp [bitsBoth, rest, Msb.bitAt_pk, h2]

end Go.Proofs.Ytakkfdibiboofaa
