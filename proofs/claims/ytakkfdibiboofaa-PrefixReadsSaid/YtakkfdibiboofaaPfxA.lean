/-
  Contracts of package prefix's table: its words (a row of pairs) and where rows of bits lead (a map keyed by pairs). No conditions but that numbers are small.
-/
import Derived.Test.YtakkfdibiboofaaLsbT
import Derived.Test.YtakkfdibiboofaaMsbT
import Derived.Test.YtakkfdibiboofaaPfxP
import Derived.Maps.OwnSet
import Derived.DeepKeys4
namespace Go.Proofs.Ytakkfdibiboofaa
open Go.RowKit Kraft

/-- A row of bits as a value: a number, and how many bits. -/
def pairV (a n : Nat) : Value := .agg #[.int .u32 (a : Int), .int .i64 (n : Int)]

theorem laidOut_prog : laidOutB Try.prog = true := by kernel_rfl
theorem row_word : (72 : TypeId) < Try.prog.types.size := of_decide_eq_true (by kernel_rfl)
theorem wide_word : (match Try.prog.underlying 72 with | some (.array _ _) | some (.struct _) => true | _ => false) = true := by rw [Try.underlying72]
set_option maxRecDepth 100000 in
theorem word_law : Maps.Keyed Try.prog 72 := Maps.Keyed.of_law (deep_law_laid laidOut_prog (m := 2) (by omega) row_word (by kernel_rfl) wide_word)

/-- What such a row reads as. -/
noncomputable def keyL (a n : Nat) : Lit := (keyOf Try.prog 72 (pairV a n)).getD (.bool false)

theorem size_pos {x y : Nat} (h : x < y) : ∃ m, y = m + 1 := ⟨y - 1, by omega⟩
theorem types_size : ∃ m, Try.prog.types.size = m + 1 := size_pos row_word
theorem key_word : Try.prog.keyType 72 = true := by kernel_rfl
theorem formed_word (a n : Nat) : (pairV a n).formed Try.prog 72 = true := by
  unfold pairV
  simp [Value.formed, Try.underlying72]
  kernel_rfl

theorem cells_word : Try.prog.cellsOf 72 = 2 := by kernel_rfl
theorem size_word : (Try.prog.info? 72).map (·.size) = some 2 := by kernel_rfl
theorem cells_u32 : Try.prog.cellsOf 70 = 1 := by kernel_rfl
theorem cells_int : Try.prog.cellsOf 3 = 1 := by kernel_rfl

theorem wf_u32 (a : Nat) (ha : a < 4294967296) : (Lit.int .u32 (a : Int)).wf = true := by
  simp [Lit.wf, IntKind.min, IntKind.max, IntKind.signed, IntKind.bits]
  omega
theorem wf_i64 (n : Nat) (hn : n < 9223372036854775808) : (Lit.int .i64 (n : Int)).wf = true := by
  simp [Lit.wf, IntKind.min, IntKind.max, IntKind.signed, IntKind.bits]
  omega

theorem keyOf_pair (a n : Nat) (ha : a < 4294967296) (hn : n < 9223372036854775808) : keyOf Try.prog 72 (pairV a n) = some (keyL a n) := by
  unfold keyL
  suffices h : ∃ l, keyOf Try.prog 72 (pairV a n) = some l by
    obtain ⟨l, hl⟩ := h
    rw [hl]; rfl
  obtain ⟨m, hm⟩ := types_size
  unfold keyOf
  rw [Try.underlying72, hm]
  simp only [key_word, formed_word, Bool.and_self, if_true]
  have h1 := wf_u32 a ha
  have h2 := wf_i64 n hn
  simp [Program.keyLits, Try.underlying72, pairV, Value.cells, cells_word, cells_u32, cells_int, h1, h2, Try.underlying70, Try.underlying3]

theorem shorter_any (w : World) (a n : Nat) (hn : 0 < n) (hn2 : n < 1000) :
    Calls Try.prog 48 #[pairV a n] w fun e w' => e = .returned (pairV (a / 2) (n - 1)) ∧ Below w.heap.size w w' := by
  unfold pairV
  go_enter Try.func48, Try.ntmps48
  go_wp2
  have e1 : ((n : Int) - 1) = ((n - 1 : Nat) : Int) := by omega
  have e2 : ((a : Int) / 2) = ((a / 2 : Nat) : Int) := by omega
  rw [e1, e2]
  have hr := heap_alloc2_new w (Obj.cells #[.int .u32 (a : Int), .int .i64 (n : Int)] 72) (Obj.cells #[.int .u32 ((a / 2 : Nat) : Int), .int .i64 ((n - 1 : Nat) : Int)] 72)
  refine bodyPost_ret (results_cell_row rfl _ _ (w.heap.size + 1) 72 _ (0, 0) _ ?cellAt hr Try.underlying72 rfl size_word) rfl ⟨rfl, ((Below.refl _ _).alloc (Nat.le_refl _) _).alloc (by simp) _⟩
  case cellAt => rfl

theorem longer_bits (a : Nat) (b : Bool) (ha : a < 2147483648) : bits .or .u32 ((a : Int) * 2) (b.toNat : Int) = ((2 * a + b.toNat : Nat) : Int) := by
  have hb : b.toNat ≤ 1 := by cases b <;> simp
  have h := Msb.gather_bit a 31 b (by omega) (by omega)
  rw [show (a : Int) * 2 % 4294967296 = (a : Int) * 2 from by omega, show (b.toNat : Int) % 4294967296 = (b.toNat : Int) from by omega] at h
  exact h

theorem longer_any (w : World) (a n : Nat) (b : Bool) (ha : a < 2147483648) (hn2 : n < 1000) :
    Calls Try.prog 51 #[pairV a n, .int .u32 (b.toNat : Int)] w fun e w' => e = .returned (pairV (2 * a + b.toNat) (n + 1)) ∧ Below w.heap.size w w' := by
  unfold pairV
  have hb := longer_bits a b ha
  go_enter Try.func51, Try.ntmps51
  go_wp2
  have e1 : ((n : Int) + 1) = ((n + 1 : Nat) : Int) := by omega
  have e2 : (2 * (a : Int) + (b.toNat : Int)) = ((2 * a + b.toNat : Nat) : Int) := by omega
  rw [e1, e2]
  have hr := heap_alloc2_new w (Obj.cells #[.int .u32 (a : Int), .int .i64 (n : Int)] 72) (Obj.cells #[.int .u32 ((2 * a + b.toNat : Nat) : Int), .int .i64 ((n + 1 : Nat) : Int)] 72)
  refine bodyPost_ret (results_cell_row rfl _ _ (w.heap.size + 1) 72 _ (0, 0) _ ?cellAt hr Try.underlying72 rfl size_word) rfl ⟨rfl, ((Below.refl _ _).alloc (Nat.le_refl _) _).alloc (by simp) _⟩
  case cellAt => rfl

/-- What a map's reading says of rows of bits. -/
def LeadsD (D : DataW Unit) (f : Leads) : Prop :=
  ∀ a n, a < 4294967296 → n < 9223372036854775808 → Maps.has D (keyL a n) = (f a n).isSome ∧ D.atKey (keyL a n) (.lit (.int .i64 0)) = .lit (.int .i64 ((f a n).getD 0))

set_option maxRecDepth 100000 in
theorem keyL_inj {a n a' n' : Nat} (ha : a < 4294967296) (hn : n < 9223372036854775808) (ha' : a' < 4294967296) (hn' : n' < 9223372036854775808) (h : keyL a n = keyL a' n') : a = a' ∧ n = n' := by
  have h1 := keyOf_pair a n ha hn
  rw [h] at h1
  have h2 := word_law.inj h1 (keyOf_pair a' n' ha' hn')
  unfold pairV at h2
  have h3 := congrArg Array.toList (Value.agg.inj h2)
  have h4 := List.cons.inj h3
  have h5 := (Value.int.inj h4.1).2
  have h6 := (Value.int.inj (List.cons.inj h4.2).1).2
  omega

theorem LeadsD.empty : LeadsD (.map []) (fun _ _ => none) := fun _ _ _ _ => ⟨rfl, rfl⟩

set_option maxRecDepth 100000 in
theorem LeadsD.put {D : DataW Unit} {f : Leads} (h : LeadsD D f) (hD : Maps.IsMap D) (a n : Nat) (v : Int) (ha : a < 4294967296) (hn : n < 9223372036854775808) :
    LeadsD (D.put (keyL a n) (.lit (.int .i64 v))) (upd f a n v) := by
  intro a' n' ha' hn'
  by_cases e : a' = a ∧ n' = n
  · have e1 := e.1
    have e2 := e.2
    subst e1 e2
    have hk := word_law.key (keyOf_pair a' n' ha' hn')
    unfold upd
    rw [if_pos ⟨rfl, rfl⟩, Maps.has_put_same hD hk, Maps.atKey_put_same hD hk]
    exact ⟨rfl, rfl⟩
  · have hne : keyL a' n' ≠ keyL a n := fun x => e (keyL_inj ha' hn' ha hn x)
    unfold upd
    rw [if_neg e, Maps.has_put_other hne, Maps.atKey_put_other hne]
    exact h a' n' ha' hn'

/-- A row of pairs as cells. -/
def pairs (ws : List (Nat × Nat)) : List Value := ws.flatMap fun p => [.int .u32 (p.1 : Int), .int .i64 (p.2 : Int)]

/-- The table at block tb: its words lie in block g, where rows of bits lead in the map at block mb, which holds m entries at most. -/
structure Tbl (w : World) (tb g mb : Nat) (ws : List (Nat × Nat)) (f : Leads) (m : Nat) : Prop where
  head : w.heap[tb]? = some (.cells #[.slice (some ⟨g, 0, none⟩) ws.length ws.length, .map (some mb)] 68 (0, 0))
  row : w.ownsRow 0 72 2 (.slice (some ⟨g, 0, none⟩) ws.length ws.length) ws.length (pairs ws)
  map : ∃ D, w.ownsMap Try.prog 72 (plainElem Try.prog 3) mb m D ∧ LeadsD D f
  tg : tb ≠ g
  tm : tb ≠ mb
  gm : g ≠ mb

/-- The blocks of a table. -/
def TblMine (tb g mb k : Nat) : Prop := k = tb ∨ k = g ∨ k = mb

theorem Tbl.only {S : Nat → Prop} {w w' : World} {tb g mb m : Nat} {ws : List (Nat × Nat)} {f : Leads} (h : Tbl w tb g mb ws f m) (ho : Only S w w') (hn : ∀ k, TblMine tb g mb k → ¬ S k) : Tbl w' tb g mb ws f m := by
  obtain ⟨D, hD, hL⟩ := h.map
  obtain ⟨es, clock, hb, F, hs, e⟩ := hD
  exact ⟨ho.at h.head (hn tb (.inl rfl)), ownsRow_only h.row ho (fun k hk => hn k (.inr (.inl (by simpa [Value.ownBlock] using hk.symm)))), ⟨D, ⟨es, clock, ho.at hb (hn mb (.inr (.inr rfl))), F, hs, e⟩, hL⟩, h.tg, h.tm, h.gm⟩

theorem Tbl.lt {w : World} {tb g mb m : Nat} {ws : List (Nat × Nat)} {f : Leads} (h : Tbl w tb g mb ws f m) {k : Nat} (hk : TblMine tb g mb k) : k < w.heap.size := by
  rcases hk with rfl | rfl | rfl
  · exact lt_of_block h.head
  · exact (h.row.lt k rfl).2
  · obtain ⟨D, hD, _⟩ := h.map
    exact hD.lt

/-- A table, as a thing. -/
def tblT (tb : Nat) (ws : List (Nat × Nat)) (f : Leads) (m : Nat) : Thing where
  holds w S := ∃ g mb, Tbl w tb g mb ws f m ∧ ∀ k, S k ↔ TblMine tb g mb k
  keep := by
    rintro w w' S T ⟨g, mb, h1, h2⟩ ho hd
    exact ⟨g, mb, h1.only ho (fun k hk => hd k ((h2 k).2 hk)), h2⟩
  lt := by
    rintro w S k ⟨g, mb, h1, h2⟩ hk
    exact h1.lt ((h2 k).1 hk)

/-- A variable that holds a row of bits. -/
def rowV (vb a n : Nat) : Thing where
  holds w S := w.heap[vb]? = some (.cells #[.int .u32 (a : Int), .int .i64 (n : Int)] 72 (0, 0)) ∧ ∀ k, S k ↔ k = vb
  keep := by
    rintro w w' S T ⟨h1, h2⟩ ho hd
    exact ⟨ho.at h1 (hd vb ((h2 vb).2 rfl)), h2⟩
  lt := by
    rintro w S k ⟨h1, h2⟩ hk
    obtain rfl := (h2 k).1 hk
    exact lt_of_block h1

section
variable {B : Nat} {w0 w : World} {r : List Thing}

theorem St.tbl {tb m : Nat} {ws : List (Nat × Nat)} {f : Leads} (h : St B w0 w (tblT tb ws f m :: r)) : ∃ g mb, Tbl w tb g mb ws f m := by
  obtain ⟨S1, ⟨g, mb, h1, _⟩, _⟩ := h.sep
  exact ⟨g, mb, h1⟩

theorem pairs_length (ws : List (Nat × Nat)) : (pairs ws).length = ws.length * 2 := by
  induction ws with
  | nil => rfl
  | cons p r ih =>
    show (_ ++ pairs r).length = _
    rw [List.length_append, ih, List.length_cons]
    simp
    omega

theorem pairs_get : ∀ (ws : List (Nat × Nat)) (i : Nat) (h : i < ws.length), (pairs ws)[i * 2]? = some (.int .u32 (ws[i].1 : Int)) ∧ (pairs ws)[i * 2 + 1]? = some (.int .i64 (ws[i].2 : Int))
  | [], i, h => absurd h (by simp)
  | p :: r, 0, _ => ⟨rfl, rfl⟩
  | p :: r, i + 1, h => by
    have ih := pairs_get r i (by simpa using h)
    rw [show (i + 1) * 2 = i * 2 + 2 from by omega]
    exact ih

theorem pairs_set : ∀ (ws : List (Nat × Nat)) (i a n : Nat), ((pairs ws).set (i * 2) (.int .u32 (a : Int))).set (i * 2 + 1) (.int .i64 (n : Int)) = pairs (ws.set i (a, n))
  | [], i, a, n => by simp [pairs]
  | p :: r, 0, a, n => rfl
  | p :: r, i + 1, a, n => by
    have ih := pairs_set r i a n
    rw [show (i + 1) * 2 = i * 2 + 2 from by omega]
    show (.int .u32 (p.1 : Int)) :: (.int .i64 (p.2 : Int)) :: (((pairs r).set (i * 2) _).set (i * 2 + 1) _) = _
    rw [ih]
    rfl

theorem Tbl.cells {tb g mb m : Nat} {ws : List (Nat × Nat)} {f : Leads} (h : Tbl w tb g mb ws f m) (i : Nat) (hi : i < ws.length) :
    w.cell? ⟨g, i * 2, none⟩ = some (.int .u32 (ws[i].1 : Int)) ∧ w.cell? ⟨g, i * 2 + 1, none⟩ = some (.int .i64 (ws[i].2 : Int)) ∧ w.frozen? ⟨g, i * 2, none⟩ = false ∧ w.frozen? ⟨g, i * 2 + 1, none⟩ = false := by
  obtain ⟨h1, h2⟩ := pairs_get ws i hi
  refine ⟨?_, ?_, h.row.frozenAt _, h.row.frozenAt _⟩
  · rw [h.row.cellAt _ (by omega)]; exact h1
  · rw [h.row.cellAt _ (by omega)]; exact h2

theorem cell_same {w : World} {tb : Nat} {a b c d : Value} {t : TypeId} (h : w.heap[tb]? = some (.cells #[a, b] t (0, 0))) (h' : w.heap[tb]? = some (.cells #[c, d] t (0, 0))) : a = c ∧ b = d := by
  rw [h] at h'
  have h1 := congrArg Array.toList (Obj.cells.inj (Option.some.inj h')).1
  have h2 := List.cons.inj h1
  exact ⟨h2.1, (List.cons.inj h2.2).1⟩

theorem Tbl.same {tb g mb m g' mb' m' : Nat} {ws ws' : List (Nat × Nat)} {f f' : Leads} (h : Tbl w tb g mb ws f m) (h' : Tbl w tb g' mb' ws' f' m') : g' = g ∧ mb' = mb := by
  obtain ⟨e1, e2⟩ := cell_same h.head h'.head
  have e3 := (Value.slice.inj e1).1
  have e4 := congrArg Addr.block (Option.some.inj e3)
  exact ⟨e4.symm, (Option.some.inj (Value.map.inj e2)).symm⟩

theorem ownsMap_other {w w' : World} {P : Program} {k : TypeId} {R : Value → Option (DataW Unit × List MemPlace)} {b n : Nat} {D : DataW Unit} (h : w.ownsMap P k R b n D) (e : w'.heap[b]? = w.heap[b]?) : w'.ownsMap P k R b n D := by
  obtain ⟨es, clock, hb, F, hs, hD⟩ := h
  exact ⟨es, clock, e.trans hb, F, hs, hD⟩

/-- A store of a word. -/
theorem St.setPair {tb m g mb : Nat} {ws : List (Nat × Nat)} {f : Leads} (st : St B w0 w (tblT tb ws f m :: r)) (hT : Tbl w tb g mb ws f m) (i a n : Nat) :
    St B w0 ((w.setCell ⟨g, i * 2, none⟩ (.int .u32 (a : Int))).setCell ⟨g, i * 2 + 1, none⟩ (.int .i64 (n : Int))) (tblT tb (ws.set i (a, n)) f m :: r) := by
  refine st.step fun S hS => ?_
  obtain ⟨g', mb', h, hSS⟩ := hS
  obtain ⟨rfl, rfl⟩ := hT.same h
  refine ⟨S, ⟨g', mb', ⟨?_, ?_, ?_, h.tg, h.tm, h.gm⟩, hSS⟩, ?_, fun k hk => .inl hk⟩
  · rw [Below.heap_setCell _ _ _ _ h.tg, Below.heap_setCell _ _ _ _ h.tg, List.length_set]
    exact h.head
  · rw [← pairs_set, List.length_set]
    exact ((h.row.stored _ _).1.stored _ _).1
  · obtain ⟨D, hD, hL⟩ := h.map
    refine ⟨D, ownsMap_other hD ?_, hL⟩
    rw [Below.heap_setCell _ _ _ _ h.gm.symm, Below.heap_setCell _ _ _ _ h.gm.symm]
  · have hg : S g' := (hSS g').2 (.inr (.inl rfl))
    exact ((Only.refl _ _).setCell (fun _ => hg) _).setCell (fun _ => hg) _

/-- A new variable for a row of bits. -/
theorem St.newRowV (st : St B w0 w r) (a n : Nat) : St B w0 (w.alloc (.cells #[.int .u32 (a : Int), .int .i64 (n : Int)] 72)) (rowV w.heap.size a n :: r) :=
  st.add (S := fun k => k = w.heap.size) (below_alloc _ _) ⟨heap_alloc_new w _, fun _ => Iff.rfl⟩ (fun k hk => by omega)

theorem St.rowv {vb a n : Nat} (st : St B w0 w (rowV vb a n :: r)) : w.heap[vb]? = some (.cells #[.int .u32 (a : Int), .int .i64 (n : Int)] 72 (0, 0)) := by
  obtain ⟨S1, h1, _⟩ := st.sep
  exact h1.1

theorem St.setRowV {vb a n : Nat} (st : St B w0 w (rowV vb a n :: r)) (a' n' : Nat) :
    St B w0 ((w.setCell ⟨vb, 0, none⟩ (.int .u32 (a' : Int))).setCell ⟨vb, 1, none⟩ (.int .i64 (n' : Int))) (rowV vb a' n' :: r) := by
  refine st.step fun S hS => ⟨S, ⟨?_, hS.2⟩, ?_, fun k hk => .inl hk⟩
  · rw [heap_setCell_same _ vb 1 _ 72 _ (heap_setCell_same _ vb 0 _ 72 _ hS.1)]
    rfl
  · have hg : S vb := (hS.2 vb).2 rfl
    exact ((Only.refl _ _).setCell (fun _ => hg) _).setCell (fun _ => hg) _

/-- A store into the map. -/
theorem St.mapped {tb m g mb : Nat} {ws : List (Nat × Nat)} {f : Leads} (st : St B w0 w (tblT tb ws f m :: r)) (hT : Tbl w tb g mb ws f m) {w' : World} {f' : Leads} {m' : Nat}
    (h : ∃ D, w'.ownsMap Try.prog 72 (plainElem Try.prog 3) mb m' D ∧ LeadsD D f') (hg : w.grownBy w' (some mb)) : St B w0 w' (tblT tb ws f' m' :: r) := by
  refine st.step fun S hS => ?_
  obtain ⟨g', mb', h1, hSS⟩ := hS
  obtain ⟨rfl, rfl⟩ := hT.same h1
  have ho : Only (fun k => k = mb') w w' := ⟨hg.os, hg.tape, hg.output, hg.size, fun k hk hn => hg.block k hk (fun e => hn (Option.some.inj e))⟩
  refine ⟨S, ⟨g', mb', ⟨ho.at h1.head h1.tm, ownsRow_only h1.row ho (fun k hk e => h1.gm ?_), h, h1.tg, h1.tm, h1.gm⟩, hSS⟩, ?_, fun k hk => .inl hk⟩
  · subst e
    simpa [Value.ownBlock] using hk
  · exact ⟨hg.os, hg.tape, hg.output, hg.size, fun k hk hn => hg.block k hk (fun e => hn ((hSS k).2 (.inr (.inr (Option.some.inj e)))))⟩

theorem St.putRow {tb m g mb : Nat} {ws : List (Nat × Nat)} {f : Leads} (st : St B w0 w (tblT tb ws f m :: r)) (hT : Tbl w tb g mb ws f m) (a n : Nat) (v : Int)
    (hw : (Lit.int .i64 v).wf = true) (ha : a < 4294967296) (hn : n < 9223372036854775808) (hmm : m ≤ 1000000) :
    ∃ w', (Instr.mapUpdate 66 (.map (some mb)) (.agg #[.int .u32 (a : Int), .int .i64 (n : Int)]) (.int .i64 v)).run Try.prog w = .ok () w' ∧ St B w0 w' (tblT tb ws (upd f a n v) (m + 1) :: r) := by
  obtain ⟨D, hD, hL⟩ := hT.map
  obtain ⟨w', h1, h2, h3⟩ := hD.update word_law Try.underlying66 (by unfold maxLen; omega) (keyOf_pair a n ha hn) (plainElem_int Try.underlying3 hw)
  exact ⟨w', h1, st.mapped hT ⟨_, h2, hL.put hD.isMap a n v ha hn⟩ h3⟩

theorem Tbl.drew {tb m g mb : Nat} {ws : List (Nat × Nat)} {f : Leads} (h : Tbl w tb g mb ws f m) : Tbl w.drew tb g mb ws f m := ⟨h.head, h.row, h.map, h.tg, h.tm, h.gm⟩

end

set_option maxRecDepth 100000 in
/-- add: a symbol's word, and all shorter rows of it. -/
theorem tadd_st {B : Nat} {w0 w : World} {r : List Thing} {tb m : Nat} {ws : List (Nat × Nat)} {f : Leads} (st : St B w0 w (tblT tb ws f m :: r)) (i a n : Nat) (hi : i < ws.length) (hws : ws.length ≤ 512) (ha : a < 1048576) (hn : n ≤ 20) (hm : m ≤ 100000) :
    Calls Try.prog 29 #[.pointer (some ⟨tb, 0, none⟩), .int .i64 (i : Int), pairV a n] w fun e w' => e = .returned (.tuple #[]) ∧ St B w0 w' (tblT tb (ws.set i (a, n)) (addSym f i a n) (m + n + 1) :: r) := by
  obtain ⟨g, mb, h⟩ := st.tbl
  obtain ⟨hc0, hc1, hf0, hf1⟩ := cell_two h.head
  obtain ⟨gc0, gc1, gf0, gf1⟩ := h.cells i hi
  have htg := h.tg
  have hlt : g < w.heap.size := h.lt (.inr (.inl rfl))
  have htb : tb < w.heap.size := h.lt (.inl rfl)
  have s1 := ((st.setPair h i a n).newRowV a n).drew
  have hwf := wf_i64 i (by omega)
  unfold pairV
  go_enter Try.func29, Try.ntmps29
  go_wp2
  go_region
  generalize hW : (((w.setCell ⟨g, i * 2, none⟩ (.int .u32 (a : Int))).setCell ⟨g, i * 2 + 1, none⟩ (.int .i64 (n : Int))).alloc (.cells #[.int .u32 (a : Int), .int .i64 (n : Int)] 72)).drew = W1 at s1 ⊢
  rw [show ((w.setCell ⟨g, i * 2, none⟩ (.int .u32 (a : Int))).setCell ⟨g, i * 2 + 1, none⟩ (.int .i64 (n : Int))).heap.size = w.heap.size from by simp [World.setCell]] at s1
  obtain ⟨vb, hvb⟩ : ∃ vb, vb = w.heap.size := ⟨_, rfl⟩
  rw [← hvb] at s1 ⊢
  clear hW hc0 hc1 hf0 hf1 gc0 gc1 gf0 gf1 htg hlt htb hvb h
  have s2 := s1.swap
  obtain ⟨g1, mb1, h1⟩ := s2.tbl
  obtain ⟨hc0, hc1, hf0, hf1⟩ := cell_two h1.head
  obtain ⟨vc0, vc1, vf0, vf1⟩ := cell_two s1.rowv
  obtain ⟨w2, hrun, s3⟩ := s2.drew.putRow h1.drew a n (i : Int) hwf (by omega) (by omega) (by omega)
  go_wp2
  go_region
  clear hrun hc0 hc1 hf0 hf1 vc0 vc1 vf0 vf1 s1 s2 h1
  go_wp2
  go_loopw [] (fun wr => ∃ k A F, k ≤ n ∧ A < 1048576 ∧ down F A k = addSym f i a n ∧ St B w0 wr (tblT tb (ws.set i (a, n)) F (m + 1 + (n - k)) :: rowV vb A k :: r)) (fun wr => match wr.cell? ⟨vb, 1, none⟩ with | some v => (intOf v).toNat | none => 0)
  case atStart => exact ⟨n, a, _, Nat.le_refl _, ha, rfl, by rw [Nat.sub_self]; exact s3⟩
  case round =>
    obtain ⟨k, A, F, hk, hA, hF, s4⟩ := hrel
    obtain ⟨vc0, vc1, vf0, vf1⟩ := cell_two s4.swap.rowv
    by_cases hk0 : k = 0
    · subst hk0
      go_wp2
      go_end0
      refine ⟨rfl, ?_⟩
      rw [Nat.sub_zero, show m + 1 + n = m + n + 1 from by omega] at s4
      unfold down at hF
      rw [hF] at s4
      exact s4.swap.drop
    · have hpos : 0 < k := by omega
      go_wp2_with fail
      have hsh := shorter_any wr A k hpos (by omega)
      obtain ⟨A1, hA1⟩ : ∃ A1, A1 = A / 2 := ⟨_, rfl⟩
      obtain ⟨k1, hk1⟩ : ∃ k1, k = k1 + 1 := ⟨k - 1, by omega⟩
      rw [← hA1, show k - 1 = k1 from by omega] at hsh
      have hA2 : A1 < 1048576 := by omega
      have HA := Lib.hid hA1
      have HV := Lib.hid vc1
      clear hA1
      refine hsh.mono ?_
      rintro e w3 ⟨rfl, hbel⟩
      unfold pairV
      have s5 := s4.quiet hbel
      obtain ⟨xc0, xc1, xf0, xf1⟩ := cell_two s5.swap.rowv
      go_wp2
      have s6 := (s5.swap.setRowV A1 k1).swap
      generalize (w3.setCell ⟨vb, 0, none⟩ (.int .u32 (A1 : Int))).setCell ⟨vb, 1, none⟩ (.int .i64 (k1 : Int)) = w4 at s6 ⊢
      clear hsh xc0 xc1 xf0 xf1 vc0 vc1 vf0 vf1 s5 s4 hbel
      obtain ⟨g2, mb2, h2⟩ := s6.tbl
      obtain ⟨hc0, hc1, hf0, hf1⟩ := cell_two h2.head
      obtain ⟨vc0, vc1, vf0, vf1⟩ := cell_two s6.swap.rowv
      obtain ⟨w5, hrun, s7⟩ := s6.drew.putRow h2.drew A1 k1 (-1) (by decide) (by omega) (by omega) (by omega)
      go_region
      clear hrun hc0 hc1 hf0 hf1 s6 h2 vc0 vc1 vf0 vf1
      go_wp2
      have hv := cell_two s7.swap.rowv
      go_roundw
      case rel =>
        refine ⟨k1, A1, upd F A1 k1 (-1), by omega, hA2, ?_, ?_⟩
        · rw [← hF, hk1, HA.out]
          rfl
        · rw [show m + 1 + (n - k1) = m + 1 + (n - k) + 1 from by omega]
          exact s7
      case measure =>
        rw [hv.2.1, HV.out]
        show (intOf (.int .i64 (k1 : Int))).toNat < (intOf (.int .i64 (k : Int))).toNat
        simp [intOf]
        omega

end Go.Proofs.Ytakkfdibiboofaa
