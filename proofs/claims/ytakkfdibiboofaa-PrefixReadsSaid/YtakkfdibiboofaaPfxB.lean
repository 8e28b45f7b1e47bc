/-
  Contracts of package prefix: New and Bits. No conditions but that slices are of at most 2^47 elements.
-/
import Derived.Test.YtakkfdibiboofaaPfxA
import Derived.Test.YtakkfdibiboofaaKrW
namespace Go.Proofs.Ytakkfdibiboofaa
open Go.RowKit Kraft

/-- A table of these lengths. -/
abbrev tblL (tb : Nat) (L : List Nat) : Thing := tblT tb (pairTo L L.length) (tab L L.length) 20000

theorem ownsMap_le {w : World} {P : Program} {k : TypeId} {R : Value → Option (DataW Unit × List MemPlace)} {b n n' : Nat} {D : DataW Unit} (h : w.ownsMap P k R b n D) (hn : n ≤ n') : w.ownsMap P k R b n' D := h.mono hn

theorem St.tblMono {B : Nat} {w0 w : World} {r : List Thing} {tb m m' : Nat} {ws : List (Nat × Nat)} {f : Leads} (st : St B w0 w (tblT tb ws f m :: r)) (hm : m ≤ m') : St B w0 w (tblT tb ws f m' :: r) :=
  st.step fun S hS => by
    obtain ⟨g, mb, h, hSS⟩ := hS
    obtain ⟨D, hD, hL⟩ := h.map
    exact ⟨S, ⟨g, mb, ⟨h.head, h.row, ⟨D, hD.mono hm, hL⟩, h.tg, h.tm, h.gm⟩, hSS⟩, Only.refl _ _, fun k hk => .inl hk⟩

theorem madePairs (n : Nat) : (madeCells #[Value.int .u32 0, Value.int .i64 0] (n * 2)).toList = pairs (List.replicate n (0, 0)) := by
  apply List.ext_getElem?
  intro j
  by_cases hj : j < n * 2
  · have hr : (List.replicate n ((0 : Nat), (0 : Nat))).length = n := by simp
    obtain ⟨h1, h2⟩ := pairs_get (List.replicate n (0, 0)) (j / 2) (by omega)
    rcases Nat.mod_two_eq_zero_or_one j with h | h
    · rw [show j / 2 * 2 = j from by omega] at h1
      rw [h1]
      simp [madeCells, hj, h]
    · rw [show j / 2 * 2 + 1 = j from by omega] at h2
      rw [h2]
      simp [madeCells, hj, h]
  · rw [List.getElem?_eq_none (by simp [madeCells]; omega), List.getElem?_eq_none (by rw [pairs_length]; simp; omega)]

theorem infoWord : (Try.prog.info? 72).map (fun i => (i.zero, i.size, i.bytes)) = some (some (.agg #[.int .u32 0, .int .i64 0]), 2, 16) := by kernel_rfl

/-- What New answers: an error, or a table in new memory. -/
def NewTbl (w : World) (L : List Nat) (e : Ending) (w' : World) : Prop :=
  (wordsErr L ≠ 0 ∧ e = .returned (.tuple #[.pointer none, .int .i64 (wordsErr L : Int)]) ∧ Below w.heap.size w w') ∨
    (wordsErr L = 0 ∧ ∃ tb, e = .returned (.tuple #[.pointer (some ⟨tb, 0, none⟩), .int .i64 0]) ∧ St w.heap.size w w' [tblL tb L])

theorem len_le_of {L : List Nat} (h : may L = true) (j : Nat) : len L j ≤ 20 := by
  unfold len
  by_cases hj : j < L.length
  · rw [List.getD_eq_getElem?_getD, List.getElem?_eq_getElem hj]
    exact ((may_iff L).1 h).2 _ (List.getElem_mem hj)
  · rw [List.getD_eq_getElem?_getD, List.getElem?_eq_none (by omega)]
    exact Nat.zero_le _

theorem len_get (L : List Nat) (j : Nat) (hj : j < L.length) : len L j = L[j] := by
  unfold len
  rw [List.getD_eq_getElem?_getD, List.getElem?_eq_getElem hj]
  rfl

theorem run_makeMap0 {P : Program} {w : World} (t : TypeId) : (Instr.makeMap t none).run P w = .ok (.map (some w.heap.size)) (w.alloc (.map #[] 0)) := by
  simp [Instr.makeMap]

/-- A table that is put together: its row, a new map, its head. -/
theorem St.newTbl {B : Nat} {w0 w : World} {r : List Thing} {g : Nat} {ws : List (Nat × Nat)} (st : St B w0 w (rowT 72 2 (.slice (some ⟨g, 0, none⟩) ws.length ws.length) ws.length (pairs ws) :: r)) :
    St B w0 ((w.alloc (.map #[] 0)).alloc (.cells #[.slice (some ⟨g, 0, none⟩) ws.length ws.length, .map (some w.heap.size)] 68)) (tblT (w.heap.size + 1) ws (fun _ _ => none) 0 :: r) := by
  refine st.step fun S hS => ?_
  have hg : g < w.heap.size := (hS.1.lt g rfl).2
  have ho : Only S w ((w.alloc (.map #[] 0)).alloc (.cells #[.slice (some ⟨g, 0, none⟩) ws.length ws.length, .map (some w.heap.size)] 68)) := ((Only.refl S w).alloc _).alloc _
  have ho2 : Only (fun _ => False) w ((w.alloc (.map #[] 0)).alloc (.cells #[.slice (some ⟨g, 0, none⟩) ws.length ws.length, .map (some w.heap.size)] 68)) := ((Only.refl _ w).alloc _).alloc _
  refine ⟨TblMine (w.heap.size + 1) g w.heap.size, ⟨g, w.heap.size, ⟨heap_alloc2_new w _ _, ownsRow_only hS.1 ho2 (fun _ _ f => f), ⟨.map [], ?_, LeadsD.empty⟩, by omega, by omega, by omega⟩, fun _ => Iff.rfl⟩, ho, ?_⟩
  · exact (World.ownsMap_made w Try.prog 72 (plainElem (H := Unit) Try.prog 3)).alloc _
  · rintro k (rfl | rfl | rfl)
    · exact .inr (by omega)
    · exact .inl ((hS.2 k).2 rfl)
    · exact .inr (by omega)

set_option maxRecDepth 100000 in
set_option maxHeartbeats 2000000 in
theorem tnew_any (w : World) (v : Value) (L : List Nat) (h : ByteRow w v L) (hl : L.length ≤ 140737488355328) :
    Calls Try.prog 9 #[v] w (NewTbl w L) := by
  go_enter Try.func9, Try.ntmps9
  go_wp2_with fail
  refine (words_st (St.start w) v L h hl).mono ?_
  rintro e w1 ⟨v1, rfl, s1⟩
  by_cases hE : wordsErr L = 0
  · obtain ⟨hm, hw⟩ := wordsErr_ok hE
    obtain ⟨hL512, hL20⟩ := (may_iff L).1 hm
    rw [wordsOf_ok hE, words_length] at s1
    obtain ⟨i0, hi, hz0, hz1, hz2⟩ := info_parts infoWord
    have hmk : i0.bytes * L.length ≤ 281474976710656 := by rw [hz2]; omega
    have hmx : L.length ≤ maxLen := by unfold maxLen; omega
    have h1 := h.below (s1.below (Nat.le_refl _)) (Nat.le_refl _)
    rw [hE]
    obtain ⟨ad, cap, rfl, -, -, hat⟩ := id h1
    have HAT := Lib.hid hat
    clear hat
    go_wp2_with (at_make; refine wpList_make_full _ rfl _ _ 65 rfl w1.heap.size 72 i0 (.agg #[.int .u32 0, .int .i64 0]) 2 Try.underlying65 hi hz0 hz1 _ _ _ _ L.length rfl rfl rfl rfl hmk hmx (Nat.le_refl _) ?_)
    intro w2 hown hgrow
    have s2 : St w.heap.size w w2 (rowT 72 2 (.slice (some ⟨w1.heap.size, 0, none⟩) L.length L.length) L.length (pairs (List.replicate L.length (0, 0))) :: [rowT 70 1 v1 L.length (u32s (words L))]) := by
      rw [madePairs] at hown
      exact s1.addRow ((Below.refl w1.heap.size w1).grown hgrow (Nat.le_refl _) (by simp)) hown
    have s3 := St.newTbl (ws := List.replicate L.length (0, 0)) (by rw [List.length_replicate]; exact s2)
    rw [List.length_replicate] at s3
    clear hown hgrow hi hz0 hz1 hz2 hmk hmx
    have hmap := run_makeMap0 (P := Try.prog) (w := w2) 66
    go_wp2
    rw [← pairTo_zero] at s3
    generalize ((w2.alloc (.map #[] 0)).alloc (.cells #[.slice (some ⟨w1.heap.size, 0, none⟩) L.length L.length, .map (some w2.heap.size)] 68)) = W3 at s3 ⊢
    obtain ⟨tb, htb⟩ : ∃ tb, tb = w2.heap.size + 1 := ⟨_, rfl⟩
    rw [← htb] at s3
    simp only [← htb]
    obtain ⟨a1, c1, rfl⟩ := ownsRow_slice s1.row
    clear htb hmap s2 s1 h1 HAT
    have h20 := len_le_of hm
    go_loopw [7, 8, 25] (fun _ _ i wr => ∃ k : Nat, k ≤ L.length ∧ i = .int .i64 (k : Int) ∧ St w.heap.size w wr (tblT tb (pairTo L k) (tab L k) (21 * k) :: [rowT 70 1 (.slice a1 L.length c1) L.length (u32s (words L))])) (fun _ _ i _ => L.length - (intOf i).toNat)
    case atStart => exact ⟨0, Nat.zero_le _, rfl, s3⟩
    case round =>
      obtain ⟨k, hk, rfl, t1⟩ := hrel
      by_cases hlt : k < L.length
      · have h1 := h.below (t1.below (Nat.le_refl _)) (Nat.le_refl _)
        obtain ⟨ad', cap', e1, -, -, hat⟩ := h1
        obtain ⟨hbyte, b, off, rfl, hx⟩ := hat k hlt
        obtain ⟨rfl, -, rfl⟩ := Value.slice.inj e1
        have t2 := t1.swap
        obtain ⟨g0, cap0, e2, hcap0⟩ := t2.rowShape (by omega)
        obtain ⟨rfl, -, rfl⟩ := Value.slice.inj e2
        have hword : wr.cell? ⟨g0, k, none⟩ = some (.int .u32 (word L k : Int)) := by
          rw [t2.row.cellAt k (by omega), u32s_get _ _ (by rw [words_length]; exact hlt), words_at]
        have hlenk := len_get L k hlt
        have HX := Lib.hid hx
        by_cases h0 : L[k] = 0
        · go_wp2
          refine ⟨⟨k + 1, by omega, by go_num, ?_⟩, by simp [intOf]; omega⟩
          rw [pairTo_skip L k (by omega), show tab L (k + 1) = tab L k from by rw [tab, if_pos (by omega)]]
          exact t1.tblMono (by omega)
        · have hwl : word L k < 1048576 := Nat.lt_of_lt_of_le (word_lt L k hlt (by omega) (h20 k) hw) (Nat.pow_le_pow_right (n := 2) (by omega) (h20 k))
          have hadd := tadd_st t1 k (word L k) L[k] (by rw [pairTo_length]; exact hlt) (by rw [pairTo_length]; exact hL512) hwl (by rw [← hlenk]; exact h20 k) (by omega)
          unfold pairV at hadd
          go_wp2_with fail
          refine hadd.mono ?_
          rintro e w3 ⟨rfl, t3⟩
          go_wp2
          refine ⟨⟨k + 1, by omega, by go_num, ?_⟩, by simp [intOf]; omega⟩
          rw [pairTo_succ L k, show tab L (k + 1) = addSym (tab L k) k (word L k) (len L k) from by rw [tab, if_neg (by omega)], hlenk]
          exact t3.tblMono (by have := h20 k; omega)
      · obtain rfl : k = L.length := by omega
        have t2 := t1.swap.drop.tblMono (m' := 20000) (by omega)
        go_wp2
        go_ret2
        exact .inr ⟨hE, tb, rfl, t2⟩
  · have hb := s1.below (Nat.le_refl _)
    go_wp2
    go_ret2
    exact .inl ⟨hE, rfl, hb⟩

/-- The same over a state. -/
def NewTblSt (B : Nat) (w0 : World) (r : List Thing) (L : List Nat) (e : Ending) (w' : World) : Prop :=
  (wordsErr L ≠ 0 ∧ e = .returned (.tuple #[.pointer none, .int .i64 (wordsErr L : Int)]) ∧ St B w0 w' r) ∨
    (wordsErr L = 0 ∧ ∃ tb, e = .returned (.tuple #[.pointer (some ⟨tb, 0, none⟩), .int .i64 0]) ∧ St B w0 w' (tblL tb L :: r))

theorem tnew_st {B : Nat} {w0 w : World} {r : List Thing} (st : St B w0 w r) (v : Value) (L : List Nat) (h : ByteRow w v L) (hl : L.length ≤ 140737488355328) :
    Calls Try.prog 9 #[v] w (NewTblSt B w0 r L) := by
  refine (tnew_any w v L h hl).mono ?_
  rintro e w' (⟨h1, h2, h3⟩ | ⟨h1, tb, h2, h3⟩)
  · exact .inl ⟨h1, h2, st.quiet h3⟩
  · obtain ⟨S1, g1, g2, _⟩ := h3.sep
    exact .inr ⟨h1, tb, h2, st.add (h3.below (Nat.le_refl _)) g1 g2⟩

/-- How many bits a symbol's word has. -/
def bitsAtSym (L : List Nat) (i : Int) : Nat := if i < 0 then 0 else len L i.toNat

theorem tbits_nil (w : World) (i : Int) : Calls Try.prog 22 #[.pointer none, .int .i64 i] w fun e w' => e = .returned (.int .i64 0) ∧ w = w' := by
  go_enter Try.func22, Try.ntmps22
  go_wp2
  go_ret
  exact ⟨rfl, rfl⟩

theorem tbits_any {w : World} {tb g mb m : Nat} {L : List Nat} {f : Leads} (h : Tbl w tb g mb (pairTo L L.length) f m) (i : Int) :
    Calls Try.prog 22 #[.pointer (some ⟨tb, 0, none⟩), .int .i64 i] w fun e w' => e = .returned (.int .i64 (bitsAtSym L i : Int)) ∧ w = w' := by
  obtain ⟨hc0, hc1, hf0, hf1⟩ := cell_two h.head
  unfold bitsAtSym
  rw [pairTo_length] at hc0
  by_cases h0 : i < 0
  · rw [if_pos h0]
    go_enter Try.func22, Try.ntmps22
    go_wp2
    go_ret
    exact ⟨rfl, rfl⟩
  · rw [if_neg h0]
    obtain ⟨k, rfl⟩ : ∃ k : Nat, i = (k : Int) := ⟨i.toNat, by omega⟩
    rw [Int.toNat_natCast]
    by_cases hk : k < L.length
    · obtain ⟨gc0, gc1, gf0, gf1⟩ := h.cells k (by rw [pairTo_length]; exact hk)
      have e1 : (pairTo L L.length)[k]'(by rw [pairTo_length]; exact hk) = (word L k, len L k) := by
        have := pairTo_get L L.length k hk
        rw [if_pos hk] at this
        exact (List.getElem?_eq_some_iff.1 this).2
      rw [e1] at gc0 gc1
      clear e1
      go_enter Try.func22, Try.ntmps22
      go_wp2
      go_ret
      exact ⟨rfl, rfl⟩
    · rw [show len L k = 0 from by unfold len; rw [List.getD_eq_getElem?_getD, List.getElem?_eq_none (by omega)]; rfl]
      go_enter Try.func22, Try.ntmps22
      go_wp2
      go_ret
      exact ⟨rfl, rfl⟩

theorem St.tblHead {B : Nat} {w0 w : World} {r : List Thing} {tb : Nat} {L : List Nat} (st : St B w0 w (tblL tb L :: r)) : ∃ g mb, Tbl w tb g mb (pairTo L L.length) (tab L L.length) 20000 := st.tbl

theorem pairTo_at (L : List Nat) (k : Nat) (hk : k < L.length) : (pairTo L L.length)[k]'(by rw [pairTo_length]; exact hk) = (word L k, len L k) := by
  have := pairTo_get L L.length k hk
  rw [if_pos hk] at this
  exact (List.getElem?_eq_some_iff.1 this).2

theorem bitsAtSym_in {L : List Nat} {i : Int} (h : 0 < bitsAtSym L i) : ∃ k : Nat, i = (k : Int) ∧ k < L.length ∧ bitsAtSym L i = len L k := by
  unfold bitsAtSym at h ⊢
  by_cases h0 : i < 0
  · rw [if_pos h0] at h; omega
  · rw [if_neg h0] at h ⊢
    refine ⟨i.toNat, by omega, ?_, rfl⟩
    by_cases hk : i.toNat < L.length
    · exact hk
    · rw [show len L i.toNat = 0 from by unfold len; rw [List.getD_eq_getElem?_getD, List.getElem?_eq_none (by omega)]; rfl] at h
      omega

end Go.Proofs.Ytakkfdibiboofaa
