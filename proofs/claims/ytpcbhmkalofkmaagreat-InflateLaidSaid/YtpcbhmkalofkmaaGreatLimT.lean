/-
  Contracts of package limit: how many of the rarest symbols each row takes (a range over slices.Backward). No conditions but those of the calls.
-/
import Derived.Test.YtpcbhmkalofkmaaGreatLimB
import Derived.Test.YtpcbhmkalofkmaaGreatGC
namespace Go.Proofs.YtpcbhmkalofkmaaGreat.Limit
open Go.RowKit Go.Shelf

attribute [local go_sem] Oper.semAt_some

/-- What a round keeps: what lies below n0, and a box. -/
def KeepB (n0 Bs : Nat) (A B : World) : Prop := Below n0 A B ∧ ∀ v, A.cell? ⟨Bs, 0, none⟩ = some v → B.cell? ⟨Bs, 0, none⟩ = some v

theorem KeepB.trans {n0 Bs : Nat} {A B C : World} (h : KeepB n0 Bs A B) (k : KeepB n0 Bs B C) : KeepB n0 Bs A C := ⟨h.1.trans k.1, fun v hv => k.2 v (h.2 v hv)⟩

theorem KeepB.putObj {n0 Bs : Nat} {w : World} (hn : n0 ≤ w.heap.size) (W : World) (l : Nat) (o o' : Obj) (hl : w.heap.size ≤ l) (h : W.heap[l]? = some o) (h3 : o.isCells = false) (h4 : o.isWalk = false) : KeepB n0 Bs W (W.putObj l o') :=
  ⟨belowK_b hn W l o o' hl h h3 h4, fun _ hv => cell_kept hv (grownBy_putObj' W l o') (fun r e => by cases e; exact ⟨o, h, h3⟩)⟩

set_option maxRecDepth 100000 in
set_option maxHeartbeats 2000000 in
/-- slices.Backward's function: the slices of a row, the last first. -/
theorem backward_seq (F : Fence) (n : Nat) (h35 : F.fn 142) (hro : F.round = none) (hn : 1 ≤ n) (Bs n0 G L : Nat) (vf : Nat → Value) (w : World) (hB0 : Bs < w.heap.size) (hn0 : n0 ≤ w.heap.size) (hG : G < n0) (hL : L ≤ 1000000)
    (hb : w.cell? ⟨Bs, 0, none⟩ = some (.slice (some ⟨G, 0, none⟩) L L)) (hv : ∀ j, j < L → w.cell? ⟨G, j, none⟩ = some (vf j)) :
    SeqN F n Tryz.prog 142 #[.pointer (some ⟨Bs, 0, none⟩)] (fun k => #[.int .i64 ((L - 1 - k : Nat) : Int), vf (L - 1 - k)]) (KeepB n0 Bs) L w := by
  intro l J W hW _ hY h0
  refine callsIn_of_wp Tryz.func142 rfl h35 ?_ hro
  simp only [Tryz.ntmps142, List.size_toArray, List.length_cons, List.length_nil, Nat.reduceAdd, Nat.reduceSub, Array.replicate_succ, Array.replicate_zero, List.push_toArray, List.append_toArray, List.nil_append, List.cons_append]
  have hb1 := (hW.cell (p := ⟨Bs, 0, none⟩) hB0).trans hb
  have hv1 : ∀ j, j < L → W.cell? ⟨G, j, none⟩ = some (vf j) := fun j hj => (hW.cell (p := ⟨G, j, none⟩) (by simp; omega)).trans (hv j hj)
  clear hb hv hW
  gi_wp2
  gi_loopw [3] (fun iv wr => ∃ m : Nat, m ≤ L ∧ iv = .int .i64 ((m : Int) - 1) ∧ J (L - m) wr ∧ wr.cell? ⟨Bs, 0, none⟩ = some (.slice (some ⟨G, 0, none⟩) L L) ∧ (∀ j, j < L → wr.cell? ⟨G, j, none⟩ = some (vf j)))
    (fun iv _ => (intOf iv + 1).toNat)
  case atStart => exact ⟨L, Nat.le_refl _, rfl, by rw [Nat.sub_self]; exact h0, hb1, hv1⟩
  case round =>
    obtain ⟨m, hm, rfl, hJ, hB, hV⟩ := hrel
    clear hb1 hv1
    cases m with
    | zero =>
      gi_wp2
      go_end0
      exact ⟨⟨_, rfl⟩, hJ⟩
    | succ j =>
      have c0 := hV j (by omega)
      have e1 : L - 1 - (L - (j + 1)) = j := by omega
      obtain ⟨fn, tmps, assign, body, hy, hR⟩ := hY _ _ (by omega) hJ
      rw [e1] at hy
      have e2 : ((j + 1 : Nat) : Int) - 1 = (j : Int) := by omega
      rw [e2]
      gi_wp2
      refine hR.mono ?_
      rintro e W3 ⟨rfl, hJ3, hk3⟩
      gi_wp2
      go_roundw
      case rel => exact ⟨j, by omega, by go_num, by rw [show L - j = L - (j + 1) + 1 from by omega]; exact hJ3, hk3.2 _ hB, fun i hi => (hk3.1.cell (p := ⟨G, i, none⟩) hG).trans (hV i hi)⟩
      case measure => simp [intOf]

set_option maxHeartbeats 1000000 in
/-- slices.Backward: the slice is boxed; the function that comes back holds the box. -/
theorem backward_any (a : Option Addr) (len cap : Nat) (w : World) :
    Calls Tryz.prog 108 #[.slice a len cap] w fun e w' => e = .returned (.func (.func 142) #[] #[.pointer (some ⟨w.heap.size, 0, none⟩)]) ∧ w' = w.alloc (.cells #[.slice a len cap] 166) := by
  have hmf : ∀ (fn : Fn) (first cap : Array Value) (w : World), (Instr.makeFunc fn first cap).run Tryz.prog w = .ok (.func fn first cap) w := fun _ _ _ _ => rfl
  go_enter Tryz.func108, Tryz.ntmps108
  go_wp2
  go_ret
  exact ⟨rfl, rfl⟩

/-! What the rounds take. -/

/-- How many things are taken, k rounds on. -/
def tkOf (W : List Nat) : Nat → Nat → Nat → Nat
  | _, t, 0 => t
  | 0, t, _ + 1 => t
  | L + 1, t, k + 1 => tkOf W L (2 * (t - cnt W (paired (rows W L)) t)) k

theorem tkOf_zero (W : List Nat) (L t : Nat) : tkOf W L t 0 = t := by cases L <;> rfl

theorem tkOf_step (W : List Nat) (L t k : Nat) (hk : k < L) : tkOf W L t (k + 1) = 2 * (tkOf W L t k - cnt W (paired (rows W (L - 1 - k))) (tkOf W L t k)) := by
  induction L generalizing t k with
  | zero => omega
  | succ L ih =>
    cases k with
    | zero =>
      rw [tkOf_zero W (L + 1) t]
      show tkOf W L _ 0 = _
      rw [tkOf_zero]
      rfl
    | succ k =>
      rw [tkOf, tkOf, ih _ k (by omega), show L + 1 - 1 - (k + 1) = L - 1 - k from by omega]

theorem tkOf_le (W : List Nat) (L t k : Nat) (hk : k ≤ L) (h : t ≤ (rows W L).length) : tkOf W L t k ≤ (rows W (L - k)).length := by
  induction L generalizing t k with
  | zero => obtain rfl : k = 0 := by omega
            rw [tkOf_zero]; exact h
  | succ L ih =>
    cases k with
    | zero => rw [tkOf_zero]; exact h
    | succ k =>
      rw [tkOf, show L + 1 - (k + 1) = L - k from by omega]
      exact ih _ k (by omega) (taking_next h).2.2.2

theorem taking_take (W : List Nat) (L t k : Nat) (hk : k < L) : (taking W L t).take (k + 1) = (taking W L t).take k ++ [cnt W (paired (rows W (L - 1 - k))) (tkOf W L t k)] := by
  induction L generalizing t k with
  | zero => omega
  | succ L ih =>
    rw [taking, List.take_succ_cons]
    cases k with
    | zero => rw [tkOf_zero, List.take_zero, List.take_zero]; rfl
    | succ k => rw [List.take_succ_cons, List.cons_append, ih _ k (by omega), tkOf, show L + 1 - 1 - (k + 1) = L - 1 - k from by omega]

theorem rows_short (W : List Nat) (j : Nat) : (rows W j).length ≤ 2 * W.length := by
  induction j with
  | zero => simp [rows]
  | succ j ih => rw [rows_length]; omega

theorem rows_small (W : List Nat) (hW : ∀ x ∈ W, x ≤ 1099511627776) (j : Nat) : ∀ x ∈ rows W j, x ≤ 1099511627776 * 2 ^ j := by
  induction j with
  | zero => simp [rows]
  | succ j ih =>
    intro x hx
    obtain ⟨i, hi, rfl⟩ := nth_mem hx
    have hz : 0 < 2 ^ j := Nat.two_pow_pos _
    rw [rows] at hi ⊢
    rw [merged_length] at hi
    rw [merged_nth hi, Nat.pow_succ]
    obtain ⟨a1, a2, a3⟩ := cnt_bounds W (paired (rows W j)) i (by omega)
    obtain ⟨b1, b2, b3⟩ := cnt_bounds W (paired (rows W j)) (i + 1) (by omega)
    cases hp : pick W (paired (rows W j)) i (cnt W (paired (rows W j)) i) with
    | true =>
      rw [thing_true hp]
      have := cnt_true hp
      have h2 : cnt W (paired (rows W j)) i < W.length := by omega
      rw [nth_lt h2]
      have := hW _ (List.getElem_mem h2)
      generalize 2 ^ j = z at *
      omega
    | false =>
      rw [thing_false hp]
      have := cnt_false hp
      have h2 : i - cnt W (paired (rows W j)) i < (paired (rows W j)).length := by omega
      rw [paired_length] at h2
      rw [paired_nth h2, nth_lt (by omega), nth_lt (by omega)]
      have h3 := ih _ (List.getElem_mem (show 2 * (i - cnt W (paired (rows W j)) i) < (rows W j).length by omega))
      have h4 := ih _ (List.getElem_mem (show 2 * (i - cnt W (paired (rows W j)) i) + 1 < (rows W j).length by omega))
      generalize 2 ^ j = z at *
      omega

theorem rows_fit {W : List Nat} (hW : ∀ x ∈ W, x ≤ 1099511627776) {j : Nat} (hj : j ≤ 17) : ∀ x ∈ rows W j, x ≤ 1152921504606846976 := by
  intro x hx
  have h1 := rows_small W hW j x hx
  have h2 : 2 ^ j ≤ 2 ^ 17 := Nat.pow_le_pow_right (by omega) hj
  generalize 2 ^ j = z at *
  omega

theorem info22 : (Tryz.prog.info? 80).map (fun i => (i.zero, i.size, i.bytes)) = some (some (.slice none 0 0), 1, 24) := by kernel_rfl

/-- The rows that have been made: each its counts. -/
structure RowsAt (w0 : World) (w : World) (G L k : Nat) (W : List Nat) (vs : List Value) : Prop where
  below : Below w0.heap.size w0 w
  len : vs.length = L
  own : w.ownsRow G 80 1 (.slice (some ⟨G, 0, none⟩) L L) L vs
  row : ∀ j, j < k → ∃ b, vs[j]? = some (.slice (some ⟨b, 0, none⟩) (W.length + (paired (rows W j)).length + 1) (W.length + (paired (rows W j)).length + 1)) ∧ G < b ∧ NumRow w (.slice (some ⟨b, 0, none⟩) (W.length + (paired (rows W j)).length + 1) (W.length + (paired (rows W j)).length + 1)) (rowL W (paired (rows W j)))

theorem RowsAt.grown {w0 w w' : World} {G L k : Nat} {W : List Nat} {vs : List Value} (h : RowsAt w0 w G L k W vs) (hb : Below w.heap.size w w') : RowsAt w0 w' G L k W vs where
  below := h.below.trans (hb.mono h.below.size)
  len := h.len
  own := by
    have ho : Only (fun _ => False) w w' := Only.of_below hb (fun k hk hk' => absurd hk (by omega))
    exact ownsRow_only h.own ho (fun _ _ f => f)
  row := fun j hj => by
    obtain ⟨b, h1, h2, h3⟩ := h.row j hj
    exact ⟨b, h1, h2, h3.below hb (Nat.le_refl _)⟩

theorem RowsAt.stored {w0 w : World} {G L k : Nat} {W : List Nat} {vs : List Value} (h : RowsAt w0 w G L k W vs) (hk : k < L) (hG : w0.heap.size ≤ G) {b : Nat} (hb : G < b)
    (hr : NumRow w (.slice (some ⟨b, 0, none⟩) (W.length + (paired (rows W k)).length + 1) (W.length + (paired (rows W k)).length + 1)) (rowL W (paired (rows W k)))) :
    RowsAt w0 (w.setCell ⟨G, k, none⟩ (.slice (some ⟨b, 0, none⟩) (W.length + (paired (rows W k)).length + 1) (W.length + (paired (rows W k)).length + 1))) G L (k + 1) W (vs.set k (.slice (some ⟨b, 0, none⟩) (W.length + (paired (rows W k)).length + 1) (W.length + (paired (rows W k)).length + 1))) where
  below := h.below.setCell (p := ⟨G, k, none⟩) hG _
  len := by rw [List.length_set, h.len]
  own := (h.own.stored k _).1
  row := fun j hj => by
    have kept : ∀ {b' m c : Nat} {xs : List Nat} (u : Value), G < b' → NumRow w (.slice (some ⟨b', 0, none⟩) m c) xs → NumRow (w.setCell ⟨G, k, none⟩ u) (.slice (some ⟨b', 0, none⟩) m c) xs := fun u hb' hn =>
      hn.kept ((Only.refl (fun i => i = G) w).setCell (p := ⟨G, k, none⟩) (fun _ => rfl) u) (fun b2 off c m e => by
        have := Value.slice.inj e
        have h1 := (Addr.mk.inj (Option.some.inj this.1)).1
        omega)
    by_cases e : j = k
    · subst e
      exact ⟨b, by rw [List.getElem?_set_self (by rw [h.len]; exact hk)], hb, kept _ hb hr⟩
    · obtain ⟨b', h1, h2, h3⟩ := h.row j (by omega)
      exact ⟨b', by rw [List.getElem?_set_ne (by omega)]; exact h1, h2, kept _ h2 h3⟩

/-- What the loop's own memory holds: the counts, how many are taken. -/
structure HeldC (N0 b L t : Nat) (C : List Nat) (W : World) : Prop where
  bc : Boxed W b 80 (.slice (some ⟨N0, 0, none⟩) C.length L)
  bt : Boxed W (b + 1) 3 (.int .i64 (t : Int))
  row : W.ownsRow N0 3 1 (.slice (some ⟨N0, 0, none⟩) C.length L) C.length (i64s C)

theorem HeldC.kept {N0 b L t : Nat} {C : List Nat} {W W' : World} {row : Option Nat} (h : HeldC N0 b L t C W) (hg : W.grownBy W' row) (hN : N0 < b) (hr : ∀ r, row = some r → b + 1 < r) : HeldC N0 b L t C W' := by
  refine ⟨h.bc.kept hg (fun e => ?_), h.bt.kept hg (fun e => ?_), h.row.kept hg (.inr fun e => ?_)⟩
  all_goals
    first
    | (have := hr _ e.symm; omega)
    | (have := hr N0 (by simpa [Value.ownBlock] using e.symm); omega)
    | (have := hr N0 (by simpa [Value.ownBlock] using e); omega)

/-- From the round's beginning on: what is no cells lies as it lay; nothing below N0 has turned. -/
structure Prog2 (N0 : Nat) (X Y : World) : Prop where
  others : KeepsOthers X Y
  below : Below N0 X Y

theorem Prog2.drew {N0 : Nat} {X Y : World} (h : Prog2 N0 X Y) : Prog2 N0 X Y.drew := ⟨⟨h.others.size, h.others.same⟩, h.below.drew⟩
theorem Prog2.alloc {N0 : Nat} {X Y : World} (h : Prog2 N0 X Y) (hN : N0 ≤ Y.heap.size) (o : Obj) : Prog2 N0 X (Y.alloc o) := ⟨h.others.trans (KeepsOthers.alloc _ _), h.below.alloc hN o⟩
theorem Prog2.set {N0 : Nat} {X Y : World} (h : Prog2 N0 X Y) {a : Addr} (ha : N0 ≤ a.block) (v : Value) : Prog2 N0 X (Y.setCell a v) := ⟨h.others.trans (KeepsOthers.setCell _ _ _), h.below.setCell ha v⟩
theorem Prog2.grow {N0 : Nat} {X Y Z : World} (h : Prog2 N0 X Y) (hN : N0 ≤ Y.heap.size) (hg : Y.grownBy Z (some N0)) {cs : Array Value} {e : TypeId} {fr : Nat × Nat} (hc : Y.heap[N0]? = some (.cells cs e fr)) : Prog2 N0 X Z :=
  ⟨h.others.trans (KeepsOthers.of_grownBy hg (fun j o e ho => by cases e; rw [hc] at ho; cases ho; rfl)), h.below.grown hg hN (fun k e => by cases e; exact Nat.le_refl _)⟩

theorem HeldC.setC {N0 b L t n : Nat} {C C' : List Nat} {W W' : World} (h : HeldC N0 b L t C W) (hN : N0 < b) (hg : W.grownBy W' (some N0)) (hr : W'.ownsRow N0 3 1 (.slice (some ⟨N0, 0, none⟩) n L) n (i64s C')) (hn : C'.length = n) :
    HeldC N0 b L t C' (W'.setCell ⟨b, 0, none⟩ (.slice (some ⟨N0, 0, none⟩) n L)) := by
  subst hn
  have b1 := h.bc.kept hg (by intro e; have := Option.some.inj e; omega)
  have b2 := h.bt.kept hg (by intro e; have := Option.some.inj e; omega)
  have hg2 := grownBy_setCell' W' b (.slice (some ⟨N0, 0, none⟩) C'.length L)
  exact ⟨b1.set _, b2.kept hg2 (by intro e; have := Option.some.inj e; omega), hr.kept hg2 (.inr (by simp [Value.ownBlock]; omega))⟩

theorem HeldC.setT {N0 b L t t' : Nat} {C : List Nat} {W : World} (h : HeldC N0 b L t C W) (hN : N0 < b) : HeldC N0 b L t' C (W.setCell ⟨b + 1, 0, none⟩ (.int .i64 (t' : Int))) := by
  have hg2 := grownBy_setCell' W (b + 1) (.int .i64 (t' : Int))
  exact ⟨h.bc.kept hg2 (by intro e; have := Option.some.inj e; omega), h.bt.set _, h.row.kept hg2 (.inr (by simp [Value.ownBlock]; omega))⟩

/-- Behind takes: a row of the call's own. -/
def CountsSt (B : Nat) (w0 : World) (r : List Thing) (C : List Nat) (e : Ending) (w' : World) : Prop := ∃ u, e = .returned u ∧ St B w0 w' (rowT 3 1 u C.length (i64s C) :: r)

set_option maxRecDepth 100000 in
set_option maxHeartbeats 4000000 in
/-- takes: how many of the rarest symbols each row takes. -/
theorem takes_st {B : Nat} {w0 w : World} {r : List Thing} (st : St B w0 w r) (v : Value) (W : List Nat) (L : Nat) (h : NumRow w v W) (hn : W.length ≤ 512) (hL : 1 ≤ L ∧ L ≤ 17) (hW : ∀ x ∈ W, x ≤ 1099511627776) (hf : W.length ≤ 2 ^ L) :
    Calls Tryz.prog 63 #[v, .int .i64 (L : Int)] w (CountsSt B w0 r (countsOf W L)) := by
  refine (callsIn_wide (n := 4)).1 ?_
  refine callsIn_of_wp_marks Tryz.func63 rfl trivial ?_ rfl
  simp only [Tryz.ntmps63, List.size_toArray, List.length_cons, List.length_nil, Nat.reduceAdd, Nat.reduceSub, Array.replicate_succ, Array.replicate_zero, List.push_toArray, List.append_toArray, List.nil_append, List.cons_append]
  obtain ⟨a, cap, rfl, hc, hnn, hat⟩ := id h
  by_cases h2 : W.length < 2
  · have hC : countsOf W L = [W.length] := by unfold countsOf; rw [if_pos h2]
    rw [hC]
    have hown : (w.alloc (.cells #[.int .i64 (W.length : Int)] 3)).ownsRow w.heap.size 3 1 (.slice (some ⟨w.heap.size, 0, none⟩) 1 1) 1 (i64s [W.length]) :=
      ⟨rfl, .inr ⟨w.heap.size, 1, _, rfl, Nat.le_refl _, heap_alloc_new w _, Nat.le_refl _, by unfold maxLen; omega, rfl, rfl⟩⟩
    have hS := st.addRow (below_alloc w _) hown
    gi_wp2
    exact ⟨_, results_tmp rfl _ _ _, .slice (some ⟨w.heap.size, 0, none⟩) 1 1, rfl, hS⟩
  · have hC : countsOf W L = taking W L (2 * W.length - 2) := by unfold countsOf; rw [if_neg h2]
    have henough := rows_enough W L hf (by omega) hL.1
    rw [hC]
    obtain ⟨i0, hi, hz0, hz1, hz2⟩ := info_parts info22
    have hmk : i0.bytes * L ≤ 281474976710656 := by rw [hz2]; omega
    have hmx : L ≤ maxLen := by unfold maxLen; omega
    have HST := Lib.hid st
    have HW := Lib.hid hW
    have HE := Lib.hid henough
    clear hf hC henough hW st
    gi_wp2_with (gi_at_make; refine wpListIn_make_all _ rfl _ _ 166 rfl w.heap.size 80 i0 (.slice none 0 0) 1 Tryz.underlying166 hi hz0 hz1 _ _ _ _ L rfl rfl rfl rfl hmk hmx (Nat.le_refl _) ?_)
    intro w1 hown hgrow
    clear hi hz0 hz1 hz2 hmk hmx
    rw [toList_madeCells_one] at hown
    obtain ⟨G, hG⟩ : ∃ G, w.heap.size = G := ⟨_, rfl⟩
    rw [hG] at hown
    have R0 : RowsAt w w1 G L 0 W (List.replicate L (.slice none 0 0)) := ⟨(Below.refl w.heap.size w).grown hgrow (Nat.le_refl _) (by simp), by simp, hown, fun j hj => absurd hj (by omega)⟩
    have T0 : NumRow w1 (.slice none 0 0) (rows W 0) := numRow_none w1
    clear hown hgrow
    have H := Lib.hid h
    clear h hat
    rw [hG]
    gi_wp2
    gi_loopw [6, 7, 21] (fun th _ i wr => ∃ (k : Nat) (vs : List Value), k ≤ L ∧ i = .int .i64 (k : Int) ∧ RowsAt w wr G L k W vs ∧ NumRow wr th (rows W k)) (fun _ _ i _ => L - (intOf i).toNat)
    case atStart => exact ⟨0, _, by omega, rfl, R0, T0⟩
    case round =>
      obtain ⟨k, vs, hk, rfl, R1, T1⟩ := hrel
      clear R0 T0
      by_cases hlt : k < L
      · have hGs : G < wr.heap.size := (R1.own.lt G rfl).2
        have hrl := rows_short W k
        obtain ⟨P, hP⟩ : ∃ P, paired (rows W k) = P := ⟨_, rfl⟩
        have hPl : P.length ≤ W.length := by rw [← hP, paired_length]; omega
        have hrow : rows W (k + 1) = merged W P := by rw [rows, hP]
        have hp := paired_st (St.start wr) _ _ T1 (by omega) (rows_fit HW.out (by omega))
        rw [hP] at hp
        have hp := Lib.hid hp
        have H1 := Lib.hid (H.out.below R1.below (Nat.le_refl _))
        have HR1 := Lib.hid R1
        clear T1 R1 hrl
        gi_wp2_with fail
        refine ⟨trivial, ?_⟩
        refine (callsIn_wide.2 hp.out).mono ?_
        rintro e w2 ⟨g, rfl, s2⟩
        have b2 := s2.below (Nat.le_refl _)
        have hs2 := b2.size
        have hm := merged_st (St.start w2) (.slice a W.length cap) _ W P (H1.out.below b2 (Nat.le_refl _)) s2.numRow (by omega) (by omega)
        have R2 := Lib.hid (HR1.out.grown b2)
        have hm := Lib.hid hm
        clear hp H1 HR1 s2 b2
        gi_wp2_with fail
        refine ⟨trivial, ?_⟩
        refine (callsIn_wide.2 hm.out).mono ?_
        rintro e w3 ⟨g1, g2, rfl, s3⟩
        have b3 := s3.below (Nat.le_refl _)
        have R3 := R2.out.grown b3
        have hg1 : w2.heap.size ≤ g1 := (s3.rowFrom.lt g1 rfl).1
        have hg2 : w2.heap.size ≤ g2 := (St.rowFrom s3.swap |>.lt g2 rfl).1
        have hth : NumRow w3 (.slice (some ⟨g1, 0, none⟩) (W.length + P.length) (W.length + P.length)) (rows W (k + 1)) := by
          have e := laidTo_all (merged W P)
          rw [merged_length] at e
          have := s3.row
          rw [e, ← hrow] at this
          have hl : (rows W (k + 1)).length = W.length + P.length := by rw [hrow, merged_length]
          rw [← hl] at this ⊢
          exact numRow_owns this
        have hro : NumRow w3 (.slice (some ⟨g2, 0, none⟩) (W.length + P.length + 1) (W.length + P.length + 1)) (rowL W P) := by
          have e := laidTo_all (rowL W P)
          rw [rowL_length] at e
          have := s3.swap.row
          rw [e] at this
          have hl := rowL_length W P
          rw [← hl] at this ⊢
          exact numRow_owns this
        obtain ⟨u0, hu0⟩ : ∃ u, vs[k]? = some u := ⟨_, List.getElem?_eq_getElem (by rw [R3.len]; exact hlt)⟩
        have c0 : w3.cell? ⟨G, k, none⟩ = some u0 := by rw [R3.own.cellAt k (by omega), hu0]
        have f0 := R3.own.frozenAt k
        have R4 := R3.stored hlt (by omega) (b := g2) (by omega) (by rw [hP]; exact hro)
        rw [hP] at R4
        have T4 : NumRow (w3.setCell ⟨G, k, none⟩ (.slice (some ⟨g2, 0, none⟩) (W.length + P.length + 1) (W.length + P.length + 1))) (.slice (some ⟨g1, 0, none⟩) (W.length + P.length) (W.length + P.length)) (rows W (k + 1)) :=
          hth.kept ((Only.refl (fun i => i = G) w3).setCell (p := ⟨G, k, none⟩) (fun _ => rfl) _) (fun b off c m e => by
            have h1 := (Addr.mk.inj (Option.some.inj (Value.slice.inj e).1)).1
            omega)
        have HRT := Lib.hid (And.intro R4 T4)
        clear R4 T4 R3 hth hro s3 b3 hm R2 hrow hP hu0
        gi_wp2
        go_roundw
        case rel => exact ⟨k + 1, _, by omega, by go_num, HRT.out.1, HRT.out.2⟩
        case measure => simp [intOf]; omega
      · obtain rfl : k = L := by omega
        obtain ⟨i1, hj, hy0, hy1, hy2⟩ := info_parts infoInt
        have hmk : i1.bytes * k ≤ 281474976710656 := by rw [hy2]; omega
        have hmx : k ≤ maxLen := by unfold maxLen; omega
        have HR := Lib.hid R1
        clear R1 T1
        gi_wp2_with (gi_at_make; refine wpListIn_make_own _ rfl _ _ 80 rfl wr.heap.size 3 i1 (.int .i64 0) 1 Tryz.underlying80 hj hy0 hy1 _ _ _ k rfl rfl rfl hmk hmx (Nat.le_refl _) ?_)
        intro w3 hown hgrow
        gi_wp2_with fail
        refine ⟨trivial, ?_⟩
        refine (callsIn_wide.2 (backward_any _ _ _ _)).mono ?_
        rintro e w9 ⟨rfl, rfl⟩
        gi_wp2_with fail
        obtain ⟨N0, hN0⟩ : ∃ N, wr.heap.size = N := ⟨_, rfl⟩
        rw [hN0] at hown ⊢
        have hGN : G < N0 := by rw [← hN0]; exact (HR.out.own.lt G rfl).2
        have hg1 : N0 < w3.heap.size := (hown.lt _ rfl).2
        have hb1 : Below N0 wr w3 := (Below.refl N0 wr).grown hgrow (by omega) (by simp)
        have k1 := Boxed.new w3 80 (.slice (some ⟨N0, 0, none⟩) 0 k)
        have hr1 := hown.alloc (.cells #[.slice (some ⟨N0, 0, none⟩) 0 k] 80)
        have hb2 := hb1.alloc (by omega) (.cells #[.slice (some ⟨N0, 0, none⟩) 0 k] 80)
        obtain ⟨w4, hw4⟩ : ∃ w4, w3.alloc (.cells #[.slice (some ⟨N0, 0, none⟩) 0 k] 80) = w4 := ⟨_, rfl⟩
        rw [hw4] at k1 hr1 hb2 ⊢
        have z4 : w4.heap.size = w3.heap.size + 1 := by rw [← hw4, World.size_alloc]
        have k2 := Boxed.new w4 3 (.int .i64 (2 * (W.length : Int) - 2))
        have k1 := k1.alloc (.cells #[.int .i64 (2 * (W.length : Int) - 2)] 3)
        have hr2 := hr1.alloc (.cells #[.int .i64 (2 * (W.length : Int) - 2)] 3)
        have hb3 := hb2.alloc (by omega) (.cells #[.int .i64 (2 * (W.length : Int) - 2)] 3)
        obtain ⟨w5, hw5⟩ : ∃ w5, w4.alloc (.cells #[.int .i64 (2 * (W.length : Int) - 2)] 3) = w5 := ⟨_, rfl⟩
        rw [hw5] at k1 k2 hr2 hb3 ⊢
        have z5 : w5.heap.size = w3.heap.size + 1 + 1 := by rw [← hw5, World.size_alloc, z4]
        have k3 := Boxed.new w5 166 (.slice (some ⟨G, 0, none⟩) k k)
        have k2 := k2.alloc (.cells #[.slice (some ⟨G, 0, none⟩) k k] 166)
        have k1 := k1.alloc (.cells #[.slice (some ⟨G, 0, none⟩) k k] 166)
        have hr3 := hr2.alloc (.cells #[.slice (some ⟨G, 0, none⟩) k k] 166)
        have hb4 := hb3.alloc (by omega) (.cells #[.slice (some ⟨G, 0, none⟩) k k] 166)
        obtain ⟨w6, hw6⟩ : ∃ w6, w5.alloc (.cells #[.slice (some ⟨G, 0, none⟩) k k] 166) = w6 := ⟨_, rfl⟩
        rw [hw6] at k1 k2 k3 hr3 hb4 ⊢
        have z6 : w6.heap.size = w3.heap.size + 1 + 1 + 1 := by rw [← hw6, World.size_alloc, z5]
        rw [z4] at k2
        rw [z5] at k3
        rw [show 2 * (W.length : Int) - 2 = ((2 * W.length - 2 : Nat) : Int) from by omega] at k2 ⊢
        clear hw4 hw5 hw6 hr1 hr2 hown hgrow hb1 hb2 hb3 z4 z5
        obtain ⟨b, hb⟩ : ∃ b, w3.heap.size = b := ⟨_, rfl⟩
        rw [hb] at k1 k2 k3 hg1 z6 ⊢
        have hH : HeldC N0 b k (2 * W.length - 2) [] w6 := ⟨k1, k2, hr3⟩
        have hcells : ∀ j, j < k → w6.cell? ⟨G, j, none⟩ = some (vs[j]?.getD (.slice none 0 0)) := fun j hj => by
          have h1 : wr.cell? ⟨G, j, none⟩ = vs[j]? := HR.out.own.cellAt j (by omega)
          rw [(hb4.cell (p := ⟨G, j, none⟩) hGN), h1, List.getElem?_eq_getElem (by rw [HR.out.len]; exact hj)]
          rfl
        refine range_count rfl (by omega) (gf := 142) (lb := #[.pointer (some ⟨b + 1 + 1, 0, none⟩)]) rfl trivial (enters_of Tryz.func142 (by kernel_rfl) rfl)
          (backward_seq Fence.wide _ trivial rfl (by omega) (b + 1 + 1) N0 G k (fun j => vs[j]?.getD (.slice none 0 0)) w6 (by omega) (by omega) hGN (by omega) k3.cell hcells) (fun h k => KeepB.trans h k) (KeepB.putObj (by omega)) (Below.refl _ _) (fun _ _ => rfl)
          (fun i W' => HeldC N0 b k (tkOf W k (2 * W.length - 2) i) ((taking W k (2 * W.length - 2)).take i) W' ∧ Below N0 wr W' ∧ Boxed W' (b + 1 + 1) 166 (.slice (some ⟨G, 0, none⟩) k k))
          (OwnFrom.and (fun s A B row hs hg hr => hs.kept hg hg1 (fun r e => by have := (hr r e).1; omega)) (OwnFrom.and (ownFrom_below (by omega) (by omega)) (fun s A B row hs hg hr => hs.kept hg (fun e => by have := (hr _ e.symm).1; omega))))
          ⟨by rw [tkOf_zero, List.take_zero]; exact hH, hb4, k3⟩ ?a1 ?assign ?body ?done
        case assign =>
          intro l j X K hj hK
          gi_wp2
          exact hK
        case body =>
          rintro l j X hj ⟨hI, hB, hBs⟩
          have ht := tkOf_le W k (2 * W.length - 2) j (by omega) HE.out
          have hstep := tkOf_step W k (2 * W.length - 2) j hj
          have htake := taking_take W k (2 * W.length - 2) j hj
          have hlen : ((taking W k (2 * W.length - 2)).take j).length = j := by rw [List.length_take, taking_length]; omega
          obtain ⟨b', hv', hGb, hrow⟩ := HR.out.row (k - 1 - j) (by omega)
          have hvd : vs[k - 1 - j]?.getD (.slice none 0 0) = .slice (some ⟨b', 0, none⟩) (W.length + (paired (rows W (k - 1 - j))).length + 1) (W.length + (paired (rows W (k - 1 - j))).length + 1) := by rw [hv']; rfl
          rw [hvd]
          rw [show k - j = (k - 1 - j) + 1 from by omega, rows, merged_length] at ht
          have hb'N : b' < N0 := by
            obtain ⟨a9, cap9, e9, _, _, hat9⟩ := id hrow
            obtain ⟨b9, o9, f9, c9⟩ := hat9 0 (by rw [rowL_length]; omega)
            have e8 := (Value.slice.inj e9).1
            rw [f9] at e8
            have h1 := (Addr.mk.inj (Option.some.inj e8)).1
            have lt := World.block_lt_of_cell? wr _ c9
            simp at lt
            omega
          have hrow := hrow.below hB (by omega)
          have hbd := cnt_bounds W (paired (rows W (k - 1 - j))) (tkOf W k (2 * W.length - 2) j) ht
          have hrs := rows_short W (k - 1 - j)
          have hpl : (paired (rows W (k - 1 - j))).length ≤ W.length := by rw [paired_length]; omega
          clear hrs
          generalize paired (rows W (k - 1 - j)) = P at *
          generalize tkOf W k (2 * W.length - 2) j = t at *
          generalize (taking W k (2 * W.length - 2)).take j = C at *
          obtain ⟨a', cap', e', _, _, hat'⟩ := hrow
          obtain ⟨b0, off, e0, c0⟩ := hat' t (by rw [rowL_length]; omega)
          rw [rowL_at] at c0
          have e3 := (Value.slice.inj e').1
          rw [e0] at e3
          obtain ⟨rfl, rfl⟩ : b' = b0 ∧ 0 = off := by simpa using e3
          rw [Nat.zero_add] at c0
          generalize cnt W P t = c at *
          have c1 := hI.bc.cell
          have c2 := hI.bt.cell
          have f1 := hI.bc.frozen
          have f2 := hI.bt.frozen
          clear hat' e' e0 e3 hv' hvd k1 k2 k3 hr3 hH hcells hb4
          have hH := Lib.hid hI
          clear hI
          gi_wp2
          have c00 := c0
          have c1a : (X.alloc (.cells #[.int .i64 (c : Int)] 3)).cell? ⟨b, 0, none⟩ = some (.slice (some ⟨N0, 0, none⟩) C.length k) := cell_alloc c1 _
          have c1b : (X.alloc (.cells #[.int .i64 (c : Int)] 3)).drew.cell? ⟨b, 0, none⟩ = some (.slice (some ⟨N0, 0, none⟩) C.length k) := c1a
          have gX : X.grownBy X.drew none := ⟨rfl, rfl, rfl, Nat.le_refl _, fun _ _ _ => rfl⟩
          have HH := Lib.hid (And.intro (hH.out.kept gX hg1 (by simp)) (And.intro (hB.trans (⟨rfl, rfl, rfl, Nat.le_refl _, fun _ _ => rfl⟩ : Below N0 X X.drew)) (hBs.kept gX (by simp))))
          have HB0 := Lib.hid (And.intro hB hBs.cell)
          clear gX
          clear hH hB hBs
          have c0 : X.drew.cell? ⟨b', t, none⟩ = some (.int .i64 (c : Int)) := c0
          have c1 : X.drew.cell? ⟨b, 0, none⟩ = some (.slice (some ⟨N0, 0, none⟩) C.length k) := c1
          have c2 : X.drew.cell? ⟨b + 1, 0, none⟩ = some (.int .i64 (t : Int)) := c2
          have f1 : X.drew.frozen? ⟨b, 0, none⟩ = false := f1
          have f2 : X.drew.frozen? ⟨b + 1, 0, none⟩ = false := f2
          refine region_upto (by kernel_rfl) 6 2 #[true, true, true, true, true, true, false, false] (X.alloc (.cells #[.int .i64 (c : Int)] 3)).drew
            [(45, .slice (some ⟨N0, 0, none⟩) j k), (46, .slice (some ⟨b', 0, none⟩) (W.length + P.length + 1) (W.length + P.length + 1)), (47, .int .i64 (t : Int)), (48, .pointer (some ⟨b', t, none⟩)), (49, .int .i64 (c : Int)), (50, .slice (some ⟨X.heap.size, 0, none⟩) 1 1)] rfl ?left ?right
          case left =>
            refine wpUpto_all (rs := [0, 1, 2]) (by kernel_rfl) (by simp) (fun q hq => ?_)
            rcases (by simpa using hq : q = 0 ∨ q = 1 ∨ q = 2) with rfl | rfl | rfl
            · refine wpOpIn_step rfl (fun K hK => ?_)
              gi_wp2
              refine wpUpto_all (rs := [1, 2]) (by kernel_rfl) (by simp) (fun q hq => ?_)
              rcases (by simpa using hq : q = 1 ∨ q = 2) with rfl | rfl
              · refine wpOpIn_step rfl (fun K hK => ?_)
                gi_wp2
                refine wpUpto_all (rs := [2]) (by kernel_rfl) (by simp) (fun q hq => ?_)
                obtain rfl : q = 2 := by simpa using hq
                refine wpOpIn_step rfl (fun K hK => ?_)
                gi_wp2
                refine wpUpto_all (rs := [3]) (by kernel_rfl) (by simp) (fun q hq => ?_)
                obtain rfl : q = 3 := by simpa using hq
                refine wpOpIn_step rfl (fun K hK => ?_)
                gi_wp2
                refine wpUpto_all (rs := [4]) (by kernel_rfl) (by simp) (fun q hq => ?_)
                obtain rfl : q = 4 := by simpa using hq
                refine wpOpIn_step rfl (fun K hK => ?_)
                gi_wp2
                refine wpUpto_all (rs := [5]) (by kernel_rfl) (by simp) (fun q hq => ?_)
                obtain rfl : q = 5 := by simpa using hq
                refine wpOpIn_step rfl (fun K hK => ?_)
                gi_wp2
                exact ⟨by kernel_rfl, by kernel_rfl, rfl⟩
              · refine wpOpIn_step rfl (fun K hK => ?_)
                gi_wp2
                refine wpUpto_all (rs := [1]) (by kernel_rfl) (by simp) (fun q hq => ?_)
                obtain rfl : q = 1 := by simpa using hq
                refine wpOpIn_step rfl (fun K hK => ?_)
                gi_wp2
                refine wpUpto_all (rs := [3]) (by kernel_rfl) (by simp) (fun q hq => ?_)
                obtain rfl : q = 3 := by simpa using hq
                refine wpOpIn_step rfl (fun K hK => ?_)
                gi_wp2
                refine wpUpto_all (rs := [4]) (by kernel_rfl) (by simp) (fun q hq => ?_)
                obtain rfl : q = 4 := by simpa using hq
                refine wpOpIn_step rfl (fun K hK => ?_)
                gi_wp2
                refine wpUpto_all (rs := [5]) (by kernel_rfl) (by simp) (fun q hq => ?_)
                obtain rfl : q = 5 := by simpa using hq
                refine wpOpIn_step rfl (fun K hK => ?_)
                gi_wp2
                exact ⟨by kernel_rfl, by kernel_rfl, rfl⟩
            · refine wpOpIn_step rfl (fun K hK => ?_)
              gi_wp2
              refine wpUpto_all (rs := [0, 2]) (by kernel_rfl) (by simp) (fun q hq => ?_)
              rcases (by simpa using hq : q = 0 ∨ q = 2) with rfl | rfl
              · refine wpOpIn_step rfl (fun K hK => ?_)
                gi_wp2
                refine wpUpto_all (rs := [2]) (by kernel_rfl) (by simp) (fun q hq => ?_)
                obtain rfl : q = 2 := by simpa using hq
                refine wpOpIn_step rfl (fun K hK => ?_)
                gi_wp2
                refine wpUpto_all (rs := [3]) (by kernel_rfl) (by simp) (fun q hq => ?_)
                obtain rfl : q = 3 := by simpa using hq
                refine wpOpIn_step rfl (fun K hK => ?_)
                gi_wp2
                refine wpUpto_all (rs := [4]) (by kernel_rfl) (by simp) (fun q hq => ?_)
                obtain rfl : q = 4 := by simpa using hq
                refine wpOpIn_step rfl (fun K hK => ?_)
                gi_wp2
                refine wpUpto_all (rs := [5]) (by kernel_rfl) (by simp) (fun q hq => ?_)
                obtain rfl : q = 5 := by simpa using hq
                refine wpOpIn_step rfl (fun K hK => ?_)
                gi_wp2
                exact ⟨by kernel_rfl, by kernel_rfl, rfl⟩
              · refine wpOpIn_step rfl (fun K hK => ?_)
                gi_wp2
                refine wpUpto_all (rs := [0, 3]) (by kernel_rfl) (by simp) (fun q hq => ?_)
                rcases (by simpa using hq : q = 0 ∨ q = 3) with rfl | rfl
                · refine wpOpIn_step rfl (fun K hK => ?_)
                  gi_wp2
                  refine wpUpto_all (rs := [3]) (by kernel_rfl) (by simp) (fun q hq => ?_)
                  obtain rfl : q = 3 := by simpa using hq
                  refine wpOpIn_step rfl (fun K hK => ?_)
                  gi_wp2
                  refine wpUpto_all (rs := [4]) (by kernel_rfl) (by simp) (fun q hq => ?_)
                  obtain rfl : q = 4 := by simpa using hq
                  refine wpOpIn_step rfl (fun K hK => ?_)
                  gi_wp2
                  refine wpUpto_all (rs := [5]) (by kernel_rfl) (by simp) (fun q hq => ?_)
                  obtain rfl : q = 5 := by simpa using hq
                  refine wpOpIn_step rfl (fun K hK => ?_)
                  gi_wp2
                  exact ⟨by kernel_rfl, by kernel_rfl, rfl⟩
                · refine wpOpIn_step rfl (fun K hK => ?_)
                  gi_wp2
                  refine wpUpto_all (rs := [0, 4]) (by kernel_rfl) (by simp) (fun q hq => ?_)
                  rcases (by simpa using hq : q = 0 ∨ q = 4) with rfl | rfl
                  · refine wpOpIn_step rfl (fun K hK => ?_)
                    gi_wp2
                    refine wpUpto_all (rs := [4]) (by kernel_rfl) (by simp) (fun q hq => ?_)
                    obtain rfl : q = 4 := by simpa using hq
                    refine wpOpIn_step rfl (fun K hK => ?_)
                    gi_wp2
                    refine wpUpto_all (rs := [5]) (by kernel_rfl) (by simp) (fun q hq => ?_)
                    obtain rfl : q = 5 := by simpa using hq
                    refine wpOpIn_step rfl (fun K hK => ?_)
                    gi_wp2
                    exact ⟨by kernel_rfl, by kernel_rfl, rfl⟩
                  · refine wpOpIn_step rfl (fun K hK => ?_)
                    gi_wp2
                    refine wpUpto_all (rs := [0, 5]) (by kernel_rfl) (by simp) (fun q hq => ?_)
                    rcases (by simpa using hq : q = 0 ∨ q = 5) with rfl | rfl
                    · refine wpOpIn_step rfl (fun K hK => ?_)
                      gi_wp2
                      refine wpUpto_all (rs := [5]) (by kernel_rfl) (by simp) (fun q hq => ?_)
                      obtain rfl : q = 5 := by simpa using hq
                      refine wpOpIn_step rfl (fun K hK => ?_)
                      gi_wp2
                      exact ⟨by kernel_rfl, by kernel_rfl, rfl⟩
                    · refine wpOpIn_step rfl (fun K hK => ?_)
                      gi_wp2
                      refine wpUpto_all (rs := [0]) (by kernel_rfl) (by simp) (fun q hq => ?_)
                      obtain rfl : q = 0 := by simpa using hq
                      refine wpOpIn_step rfl (fun K hK => ?_)
                      gi_wp2
                      exact ⟨by kernel_rfl, by kernel_rfl, rfl⟩
            · refine wpOpIn_step rfl (fun K hK => ?_)
              gi_wp2
              refine wpUpto_all (rs := [0, 1]) (by kernel_rfl) (by simp) (fun q hq => ?_)
              rcases (by simpa using hq : q = 0 ∨ q = 1) with rfl | rfl
              · refine wpOpIn_step rfl (fun K hK => ?_)
                gi_wp2
                refine wpUpto_all (rs := [1]) (by kernel_rfl) (by simp) (fun q hq => ?_)
                obtain rfl : q = 1 := by simpa using hq
                refine wpOpIn_step rfl (fun K hK => ?_)
                gi_wp2
                refine wpUpto_all (rs := [3]) (by kernel_rfl) (by simp) (fun q hq => ?_)
                obtain rfl : q = 3 := by simpa using hq
                refine wpOpIn_step rfl (fun K hK => ?_)
                gi_wp2
                refine wpUpto_all (rs := [4]) (by kernel_rfl) (by simp) (fun q hq => ?_)
                obtain rfl : q = 4 := by simpa using hq
                refine wpOpIn_step rfl (fun K hK => ?_)
                gi_wp2
                refine wpUpto_all (rs := [5]) (by kernel_rfl) (by simp) (fun q hq => ?_)
                obtain rfl : q = 5 := by simpa using hq
                refine wpOpIn_step rfl (fun K hK => ?_)
                gi_wp2
                exact ⟨by kernel_rfl, by kernel_rfl, rfl⟩
              · refine wpOpIn_step rfl (fun K hK => ?_)
                gi_wp2
                refine wpUpto_all (rs := [0, 3]) (by kernel_rfl) (by simp) (fun q hq => ?_)
                rcases (by simpa using hq : q = 0 ∨ q = 3) with rfl | rfl
                · refine wpOpIn_step rfl (fun K hK => ?_)
                  gi_wp2
                  refine wpUpto_all (rs := [3]) (by kernel_rfl) (by simp) (fun q hq => ?_)
                  obtain rfl : q = 3 := by simpa using hq
                  refine wpOpIn_step rfl (fun K hK => ?_)
                  gi_wp2
                  refine wpUpto_all (rs := [4]) (by kernel_rfl) (by simp) (fun q hq => ?_)
                  obtain rfl : q = 4 := by simpa using hq
                  refine wpOpIn_step rfl (fun K hK => ?_)
                  gi_wp2
                  refine wpUpto_all (rs := [5]) (by kernel_rfl) (by simp) (fun q hq => ?_)
                  obtain rfl : q = 5 := by simpa using hq
                  refine wpOpIn_step rfl (fun K hK => ?_)
                  gi_wp2
                  exact ⟨by kernel_rfl, by kernel_rfl, rfl⟩
                · refine wpOpIn_step rfl (fun K hK => ?_)
                  gi_wp2
                  refine wpUpto_all (rs := [0, 4]) (by kernel_rfl) (by simp) (fun q hq => ?_)
                  rcases (by simpa using hq : q = 0 ∨ q = 4) with rfl | rfl
                  · refine wpOpIn_step rfl (fun K hK => ?_)
                    gi_wp2
                    refine wpUpto_all (rs := [4]) (by kernel_rfl) (by simp) (fun q hq => ?_)
                    obtain rfl : q = 4 := by simpa using hq
                    refine wpOpIn_step rfl (fun K hK => ?_)
                    gi_wp2
                    refine wpUpto_all (rs := [5]) (by kernel_rfl) (by simp) (fun q hq => ?_)
                    obtain rfl : q = 5 := by simpa using hq
                    refine wpOpIn_step rfl (fun K hK => ?_)
                    gi_wp2
                    exact ⟨by kernel_rfl, by kernel_rfl, rfl⟩
                  · refine wpOpIn_step rfl (fun K hK => ?_)
                    gi_wp2
                    refine wpUpto_all (rs := [0, 5]) (by kernel_rfl) (by simp) (fun q hq => ?_)
                    rcases (by simpa using hq : q = 0 ∨ q = 5) with rfl | rfl
                    · refine wpOpIn_step rfl (fun K hK => ?_)
                      gi_wp2
                      refine wpUpto_all (rs := [5]) (by kernel_rfl) (by simp) (fun q hq => ?_)
                      obtain rfl : q = 5 := by simpa using hq
                      refine wpOpIn_step rfl (fun K hK => ?_)
                      gi_wp2
                      exact ⟨by kernel_rfl, by kernel_rfl, rfl⟩
                    · refine wpOpIn_step rfl (fun K hK => ?_)
                      gi_wp2
                      refine wpUpto_all (rs := [0]) (by kernel_rfl) (by simp) (fun q hq => ?_)
                      obtain rfl : q = 0 := by simpa using hq
                      refine wpOpIn_step rfl (fun K hK => ?_)
                      gi_wp2
                      exact ⟨by kernel_rfl, by kernel_rfl, rfl⟩
          case right =>
            simp only [List.foldl_cons, List.foldl_nil, Act.put, List.setIfInBounds_toArray, List.set_cons_succ, List.set_cons_zero]
            obtain ⟨i1', hj', hy0', hy1', hy2'⟩ := info_parts infoInt
            have hN2 : N0 ≤ X.drew.heap.size := by have := HH.out.2.1.size; omega
            have HA := Lib.hid (And.intro (HH.out.1.kept (World.grownBy_alloc X.drew (.cells #[.int .i64 (c : Int)] 3) none) hg1 (by simp)) (And.intro ((Prog2.drew ⟨KeepsOthers.refl X, Below.refl N0 X⟩).alloc hN2 (.cells #[.int .i64 (c : Int)] 3)) (HH.out.2.2.alloc (.cells #[.int .i64 (c : Int)] 3))))
            have hnew : (X.drew.alloc (.cells #[.int .i64 (c : Int)] 3)).cell? ⟨X.heap.size, 0, none⟩ = some (.int .i64 (c : Int)) := by
              have := cell_of_row (X.drew.alloc (.cells #[.int .i64 (c : Int)] 3)) X.drew.heap.size 0 #[.int .i64 (c : Int)] 3 (0, 0) (heap_alloc_new X.drew _)
              exact this
            have c0 : (X.drew.alloc (.cells #[.int .i64 (c : Int)] 3)).cell? ⟨b', t, none⟩ = some (.int .i64 (c : Int)) := cell_alloc c0 _
            change wpAnyIn _ _ _ _ _ _ _ _ _ (X.drew.alloc (.cells #[.int .i64 (c : Int)] 3))
            have hX2 : N0 ≤ (X.drew.alloc (.cells #[.int .i64 (c : Int)] 3)).heap.size := by rw [World.size_alloc]; exact Nat.le_succ_of_le hN2
            generalize X.drew.alloc (.cells #[.int .i64 (c : Int)] 3) = X2 at HA hnew c0 hX2 ⊢
            clear c1 c2 f1 f2 c1a c1b
            have hrw := HA.out.1.row
            rw [hlen] at hrw
            have hrw := Lib.hid hrw
            refine wpAnyIn_one [6, 7] 0 (by kernel_rfl) (by kernel_rfl) ?_
            intro K hK
            simp only [pickL, List.getElem?_cons_zero, List.getElem?_cons_succ]
            gi_wp2_with (gi_at_builtin; refine wpListIn_append_fits _ rfl _ _ 80 rfl N0 3 i1' 1 Tryz.underlying80 hj' hy1' N0 j k (i64s C) rfl hrw.out ⟨X.heap.size, 0, none⟩ 1 1 [.int .i64 (c : Int)] rfl rfl ?n1 ?n2 ?n3 ?_)
            case n1 =>
              intro q u hq
              cases q with
              | zero => rw [add_none]; simp at hq; subst hq; exact hnew
              | succ q => simp at hq
            case n2 => simp [Value.oneCell']
            case n3 => omega
            intro X3 hown3 hg3
            have hcl : ∃ cs e fr, X2.heap[N0]? = some (.cells cs e fr) := by
              rcases hrw.out.2 with ⟨e, _⟩ | ⟨g', cp, cur, e, _, hh, _⟩
              · cases e
              · have h1 := (Addr.mk.inj (Option.some.inj (Value.slice.inj e).1)).1
                exact ⟨_, _, _, h1 ▸ hh⟩
            obtain ⟨cs, ce, cf, hcl⟩ := hcl
            have hi3 : i64s C ++ [Value.int .i64 (c : Int)] = i64s (C ++ [c]) := by rw [i64s_append]; rfl
            rw [hi3] at hown3
            have hb3 := HA.out.1.bc.kept hg3 (by intro e; have := Option.some.inj e; omega)
            have c1 := hb3.cell
            have f1 := hb3.frozen
            have hP3 := HA.out.2.1.grow hX2 hg3 hcl
            have hN3 : N0 ≤ X3.heap.size := Nat.le_trans hX2 hg3.size
            have H4 := HeldC.setC (n := j + 1) HA.out.1 hg1 hg3 hown3 (by rw [List.length_append, hlen]; rfl)
            have hbs4 := (HA.out.2.2.kept hg3 (by intro e; have := Option.some.inj e; omega)).kept (grownBy_setCell' X3 b (.slice (some ⟨N0, 0, none⟩) (j + 1) k)) (by intro e; have := Option.some.inj e; omega)
            have hP4 := hP3.set (a := ⟨b, 0, none⟩) (by simp; omega) (.slice (some ⟨N0, 0, none⟩) (j + 1) k)
            have c0 : (X3.setCell ⟨b, 0, none⟩ (.slice (some ⟨N0, 0, none⟩) (j + 1) k)).cell? ⟨b', t, none⟩ = some (.int .i64 (c : Int)) := by
              have lt : b' < N0 := hb'N
              have e1 : (X3.setCell ⟨b, 0, none⟩ (.slice (some ⟨N0, 0, none⟩) (j + 1) k)).cell? ⟨b', t, none⟩ = X.cell? ⟨b', t, none⟩ := hP4.below.cell (p := ⟨b', t, none⟩) lt
              rw [e1]
              exact c00
            clear hown3 hg3 hcl hi3 hb3 hP3 hN3 hrw HA hnew
            gi_wp2_with fail
            refine wpAnyIn_done (by kernel_rfl) ?_ 0
            obtain ⟨X4, hX4⟩ : ∃ X4, X3.setCell ⟨b, 0, none⟩ (.slice (some ⟨N0, 0, none⟩) (j + 1) k) = X4 := ⟨_, rfl⟩
            rw [hX4] at H4 hbs4 hP4 c0 ⊢
            have HF := Lib.hid (And.intro H4 (And.intro hP4 hbs4))
            have HC := Lib.hid (And.intro hstep htake)
            have c2 : X4.drew.cell? ⟨b + 1, 0, none⟩ = some (.int .i64 (t : Int)) := H4.bt.cell
            have f2 : X4.drew.frozen? ⟨b + 1, 0, none⟩ = false := H4.bt.frozen
            have c0 : X4.drew.cell? ⟨b', t, none⟩ = some (.int .i64 (c : Int)) := c0
            clear H4 hbs4 hP4 hstep htake HH c1 f1 hX4 c00
            gi_wp2
            refine region_upto (by kernel_rfl) 7 1 #[true, true, true, true, true, true, true, false] X4.drew
              [(52, .int .i64 (t : Int)), (53, .slice (some ⟨b', 0, none⟩) (W.length + P.length + 1) (W.length + P.length + 1)), (54, .int .i64 (t : Int)), (55, .pointer (some ⟨b', t, none⟩)), (56, .int .i64 (c : Int)), (57, .int .i64 ((t : Int) - (c : Int))), (58, .int .i64 (2 * ((t : Int) - (c : Int))))] rfl ?left2 ?right2
            case left2 =>
              refine wpUpto_all (rs := [0, 1, 2]) (by kernel_rfl) (by simp) (fun q hq => ?_)
              rcases (by simpa using hq : q = 0 ∨ q = 1 ∨ q = 2) with rfl | rfl | rfl
              · refine wpOpIn_step rfl (fun K hK => ?_)
                gi_wp2
                refine wpUpto_all (rs := [1, 2]) (by kernel_rfl) (by simp) (fun q hq => ?_)
                rcases (by simpa using hq : q = 1 ∨ q = 2) with rfl | rfl
                · refine wpOpIn_step rfl (fun K hK => ?_)
                  gi_wp2
                  refine wpUpto_all (rs := [2]) (by kernel_rfl) (by simp) (fun q hq => ?_)
                  obtain rfl : q = 2 := by simpa using hq
                  refine wpOpIn_step rfl (fun K hK => ?_)
                  gi_wp2
                  refine wpUpto_all (rs := [3]) (by kernel_rfl) (by simp) (fun q hq => ?_)
                  obtain rfl : q = 3 := by simpa using hq
                  refine wpOpIn_step rfl (fun K hK => ?_)
                  gi_wp2
                  refine wpUpto_all (rs := [4]) (by kernel_rfl) (by simp) (fun q hq => ?_)
                  obtain rfl : q = 4 := by simpa using hq
                  refine wpOpIn_step rfl (fun K hK => ?_)
                  gi_wp2
                  refine wpUpto_all (rs := [5]) (by kernel_rfl) (by simp) (fun q hq => ?_)
                  obtain rfl : q = 5 := by simpa using hq
                  refine wpOpIn_step rfl (fun K hK => ?_)
                  gi_wp2
                  refine wpUpto_all (rs := [6]) (by kernel_rfl) (by simp) (fun q hq => ?_)
                  obtain rfl : q = 6 := by simpa using hq
                  refine wpOpIn_step rfl (fun K hK => ?_)
                  gi_wp2
                  exact ⟨by kernel_rfl, by kernel_rfl, rfl⟩
                · refine wpOpIn_step rfl (fun K hK => ?_)
                  gi_wp2
                  refine wpUpto_all (rs := [1]) (by kernel_rfl) (by simp) (fun q hq => ?_)
                  obtain rfl : q = 1 := by simpa using hq
                  refine wpOpIn_step rfl (fun K hK => ?_)
                  gi_wp2
                  refine wpUpto_all (rs := [3]) (by kernel_rfl) (by simp) (fun q hq => ?_)
                  obtain rfl : q = 3 := by simpa using hq
                  refine wpOpIn_step rfl (fun K hK => ?_)
                  gi_wp2
                  refine wpUpto_all (rs := [4]) (by kernel_rfl) (by simp) (fun q hq => ?_)
                  obtain rfl : q = 4 := by simpa using hq
                  refine wpOpIn_step rfl (fun K hK => ?_)
                  gi_wp2
                  refine wpUpto_all (rs := [5]) (by kernel_rfl) (by simp) (fun q hq => ?_)
                  obtain rfl : q = 5 := by simpa using hq
                  refine wpOpIn_step rfl (fun K hK => ?_)
                  gi_wp2
                  refine wpUpto_all (rs := [6]) (by kernel_rfl) (by simp) (fun q hq => ?_)
                  obtain rfl : q = 6 := by simpa using hq
                  refine wpOpIn_step rfl (fun K hK => ?_)
                  gi_wp2
                  exact ⟨by kernel_rfl, by kernel_rfl, rfl⟩
              · refine wpOpIn_step rfl (fun K hK => ?_)
                gi_wp2
                refine wpUpto_all (rs := [0, 2]) (by kernel_rfl) (by simp) (fun q hq => ?_)
                rcases (by simpa using hq : q = 0 ∨ q = 2) with rfl | rfl
                · refine wpOpIn_step rfl (fun K hK => ?_)
                  gi_wp2
                  refine wpUpto_all (rs := [2]) (by kernel_rfl) (by simp) (fun q hq => ?_)
                  obtain rfl : q = 2 := by simpa using hq
                  refine wpOpIn_step rfl (fun K hK => ?_)
                  gi_wp2
                  refine wpUpto_all (rs := [3]) (by kernel_rfl) (by simp) (fun q hq => ?_)
                  obtain rfl : q = 3 := by simpa using hq
                  refine wpOpIn_step rfl (fun K hK => ?_)
                  gi_wp2
                  refine wpUpto_all (rs := [4]) (by kernel_rfl) (by simp) (fun q hq => ?_)
                  obtain rfl : q = 4 := by simpa using hq
                  refine wpOpIn_step rfl (fun K hK => ?_)
                  gi_wp2
                  refine wpUpto_all (rs := [5]) (by kernel_rfl) (by simp) (fun q hq => ?_)
                  obtain rfl : q = 5 := by simpa using hq
                  refine wpOpIn_step rfl (fun K hK => ?_)
                  gi_wp2
                  refine wpUpto_all (rs := [6]) (by kernel_rfl) (by simp) (fun q hq => ?_)
                  obtain rfl : q = 6 := by simpa using hq
                  refine wpOpIn_step rfl (fun K hK => ?_)
                  gi_wp2
                  exact ⟨by kernel_rfl, by kernel_rfl, rfl⟩
                · refine wpOpIn_step rfl (fun K hK => ?_)
                  gi_wp2
                  refine wpUpto_all (rs := [0, 3]) (by kernel_rfl) (by simp) (fun q hq => ?_)
                  rcases (by simpa using hq : q = 0 ∨ q = 3) with rfl | rfl
                  · refine wpOpIn_step rfl (fun K hK => ?_)
                    gi_wp2
                    refine wpUpto_all (rs := [3]) (by kernel_rfl) (by simp) (fun q hq => ?_)
                    obtain rfl : q = 3 := by simpa using hq
                    refine wpOpIn_step rfl (fun K hK => ?_)
                    gi_wp2
                    refine wpUpto_all (rs := [4]) (by kernel_rfl) (by simp) (fun q hq => ?_)
                    obtain rfl : q = 4 := by simpa using hq
                    refine wpOpIn_step rfl (fun K hK => ?_)
                    gi_wp2
                    refine wpUpto_all (rs := [5]) (by kernel_rfl) (by simp) (fun q hq => ?_)
                    obtain rfl : q = 5 := by simpa using hq
                    refine wpOpIn_step rfl (fun K hK => ?_)
                    gi_wp2
                    refine wpUpto_all (rs := [6]) (by kernel_rfl) (by simp) (fun q hq => ?_)
                    obtain rfl : q = 6 := by simpa using hq
                    refine wpOpIn_step rfl (fun K hK => ?_)
                    gi_wp2
                    exact ⟨by kernel_rfl, by kernel_rfl, rfl⟩
                  · refine wpOpIn_step rfl (fun K hK => ?_)
                    gi_wp2
                    refine wpUpto_all (rs := [0, 4]) (by kernel_rfl) (by simp) (fun q hq => ?_)
                    rcases (by simpa using hq : q = 0 ∨ q = 4) with rfl | rfl
                    · refine wpOpIn_step rfl (fun K hK => ?_)
                      gi_wp2
                      refine wpUpto_all (rs := [4]) (by kernel_rfl) (by simp) (fun q hq => ?_)
                      obtain rfl : q = 4 := by simpa using hq
                      refine wpOpIn_step rfl (fun K hK => ?_)
                      gi_wp2
                      refine wpUpto_all (rs := [5]) (by kernel_rfl) (by simp) (fun q hq => ?_)
                      obtain rfl : q = 5 := by simpa using hq
                      refine wpOpIn_step rfl (fun K hK => ?_)
                      gi_wp2
                      refine wpUpto_all (rs := [6]) (by kernel_rfl) (by simp) (fun q hq => ?_)
                      obtain rfl : q = 6 := by simpa using hq
                      refine wpOpIn_step rfl (fun K hK => ?_)
                      gi_wp2
                      exact ⟨by kernel_rfl, by kernel_rfl, rfl⟩
                    · refine wpOpIn_step rfl (fun K hK => ?_)
                      gi_wp2
                      refine wpUpto_all (rs := [0]) (by kernel_rfl) (by simp) (fun q hq => ?_)
                      obtain rfl : q = 0 := by simpa using hq
                      refine wpOpIn_step rfl (fun K hK => ?_)
                      gi_wp2
                      refine wpUpto_all (rs := [5]) (by kernel_rfl) (by simp) (fun q hq => ?_)
                      obtain rfl : q = 5 := by simpa using hq
                      refine wpOpIn_step rfl (fun K hK => ?_)
                      gi_wp2
                      refine wpUpto_all (rs := [6]) (by kernel_rfl) (by simp) (fun q hq => ?_)
                      obtain rfl : q = 6 := by simpa using hq
                      refine wpOpIn_step rfl (fun K hK => ?_)
                      gi_wp2
                      exact ⟨by kernel_rfl, by kernel_rfl, rfl⟩
              · refine wpOpIn_step rfl (fun K hK => ?_)
                gi_wp2
                refine wpUpto_all (rs := [0, 1]) (by kernel_rfl) (by simp) (fun q hq => ?_)
                rcases (by simpa using hq : q = 0 ∨ q = 1) with rfl | rfl
                · refine wpOpIn_step rfl (fun K hK => ?_)
                  gi_wp2
                  refine wpUpto_all (rs := [1]) (by kernel_rfl) (by simp) (fun q hq => ?_)
                  obtain rfl : q = 1 := by simpa using hq
                  refine wpOpIn_step rfl (fun K hK => ?_)
                  gi_wp2
                  refine wpUpto_all (rs := [3]) (by kernel_rfl) (by simp) (fun q hq => ?_)
                  obtain rfl : q = 3 := by simpa using hq
                  refine wpOpIn_step rfl (fun K hK => ?_)
                  gi_wp2
                  refine wpUpto_all (rs := [4]) (by kernel_rfl) (by simp) (fun q hq => ?_)
                  obtain rfl : q = 4 := by simpa using hq
                  refine wpOpIn_step rfl (fun K hK => ?_)
                  gi_wp2
                  refine wpUpto_all (rs := [5]) (by kernel_rfl) (by simp) (fun q hq => ?_)
                  obtain rfl : q = 5 := by simpa using hq
                  refine wpOpIn_step rfl (fun K hK => ?_)
                  gi_wp2
                  refine wpUpto_all (rs := [6]) (by kernel_rfl) (by simp) (fun q hq => ?_)
                  obtain rfl : q = 6 := by simpa using hq
                  refine wpOpIn_step rfl (fun K hK => ?_)
                  gi_wp2
                  exact ⟨by kernel_rfl, by kernel_rfl, rfl⟩
                · refine wpOpIn_step rfl (fun K hK => ?_)
                  gi_wp2
                  refine wpUpto_all (rs := [0, 3]) (by kernel_rfl) (by simp) (fun q hq => ?_)
                  rcases (by simpa using hq : q = 0 ∨ q = 3) with rfl | rfl
                  · refine wpOpIn_step rfl (fun K hK => ?_)
                    gi_wp2
                    refine wpUpto_all (rs := [3]) (by kernel_rfl) (by simp) (fun q hq => ?_)
                    obtain rfl : q = 3 := by simpa using hq
                    refine wpOpIn_step rfl (fun K hK => ?_)
                    gi_wp2
                    refine wpUpto_all (rs := [4]) (by kernel_rfl) (by simp) (fun q hq => ?_)
                    obtain rfl : q = 4 := by simpa using hq
                    refine wpOpIn_step rfl (fun K hK => ?_)
                    gi_wp2
                    refine wpUpto_all (rs := [5]) (by kernel_rfl) (by simp) (fun q hq => ?_)
                    obtain rfl : q = 5 := by simpa using hq
                    refine wpOpIn_step rfl (fun K hK => ?_)
                    gi_wp2
                    refine wpUpto_all (rs := [6]) (by kernel_rfl) (by simp) (fun q hq => ?_)
                    obtain rfl : q = 6 := by simpa using hq
                    refine wpOpIn_step rfl (fun K hK => ?_)
                    gi_wp2
                    exact ⟨by kernel_rfl, by kernel_rfl, rfl⟩
                  · refine wpOpIn_step rfl (fun K hK => ?_)
                    gi_wp2
                    refine wpUpto_all (rs := [0, 4]) (by kernel_rfl) (by simp) (fun q hq => ?_)
                    rcases (by simpa using hq : q = 0 ∨ q = 4) with rfl | rfl
                    · refine wpOpIn_step rfl (fun K hK => ?_)
                      gi_wp2
                      refine wpUpto_all (rs := [4]) (by kernel_rfl) (by simp) (fun q hq => ?_)
                      obtain rfl : q = 4 := by simpa using hq
                      refine wpOpIn_step rfl (fun K hK => ?_)
                      gi_wp2
                      refine wpUpto_all (rs := [5]) (by kernel_rfl) (by simp) (fun q hq => ?_)
                      obtain rfl : q = 5 := by simpa using hq
                      refine wpOpIn_step rfl (fun K hK => ?_)
                      gi_wp2
                      refine wpUpto_all (rs := [6]) (by kernel_rfl) (by simp) (fun q hq => ?_)
                      obtain rfl : q = 6 := by simpa using hq
                      refine wpOpIn_step rfl (fun K hK => ?_)
                      gi_wp2
                      exact ⟨by kernel_rfl, by kernel_rfl, rfl⟩
                    · refine wpOpIn_step rfl (fun K hK => ?_)
                      gi_wp2
                      refine wpUpto_all (rs := [0]) (by kernel_rfl) (by simp) (fun q hq => ?_)
                      obtain rfl : q = 0 := by simpa using hq
                      refine wpOpIn_step rfl (fun K hK => ?_)
                      gi_wp2
                      refine wpUpto_all (rs := [5]) (by kernel_rfl) (by simp) (fun q hq => ?_)
                      obtain rfl : q = 5 := by simpa using hq
                      refine wpOpIn_step rfl (fun K hK => ?_)
                      gi_wp2
                      refine wpUpto_all (rs := [6]) (by kernel_rfl) (by simp) (fun q hq => ?_)
                      obtain rfl : q = 6 := by simpa using hq
                      refine wpOpIn_step rfl (fun K hK => ?_)
                      gi_wp2
                      exact ⟨by kernel_rfl, by kernel_rfl, rfl⟩
            case right2 =>
              simp only [List.foldl_cons, List.foldl_nil, Act.put, List.setIfInBounds_toArray, List.set_cons_succ, List.set_cons_zero]
              refine wpAnyIn_one [7] 0 (by kernel_rfl) (by kernel_rfl) ?_
              intro K hK
              simp only [pickL, List.getElem?_cons_zero, List.getElem?_cons_succ]
              gi_wp2_with fail
              refine wpAnyIn_done (by kernel_rfl) ?_ 0
              gi_wp2
              have hP5 := HF.out.2.1.drew.set (a := ⟨b + 1, 0, none⟩) (by simp; omega) (.int .i64 ((2 * (t - c) : Nat) : Int))
              have gX4 : X4.grownBy X4.drew none := ⟨rfl, rfl, rfl, Nat.le_refl _, fun _ _ _ => rfl⟩
              have hH5 := HeldC.setT (t' := 2 * (t - c)) (HF.out.1.kept gX4 hg1 (by simp)) hg1
              have hb5 := (HF.out.2.2.kept gX4 (by simp)).kept (grownBy_setCell' X4.drew (b + 1) (.int .i64 ((2 * (t - c) : Nat) : Int))) (by intro e; have := Option.some.inj e; omega)
              have e9 : 2 * ((t : Int) - (c : Int)) = ((2 * (t - c) : Nat) : Int) := by omega
              rw [e9, HC.out.1, HC.out.2]
              refine ⟨hP5.others, ⟨hP5.below, fun v hv => ?_⟩, hH5, HB0.out.1.trans hP5.below, hb5⟩
              rw [HB0.out.2] at hv
              cases hv
              exact hb5.cell
        case done =>
          rintro D X hD ⟨hI, hB, _⟩ hK
          have htk : (taking W k (2 * W.length - 2)).take k = taking W k (2 * W.length - 2) := List.take_of_length_le (by rw [taking_length]; exact Nat.le_refl _)
          rw [htk] at hI
          have c1 := hI.bc.cell
          have HI := Lib.hid hI
          clear hI hH k1 k2 k3 hr3 hcells hb4 htk
          gi_wp2
          refine ⟨by simp, .inl ⟨_, _, rfl, run_takeDeferred hK, ?_⟩⟩
          refine ⟨_, results_tmp rfl _ _ _, _, rfl, ?_⟩
          have hbb : Below w.heap.size w (X.putObj D (.deferred none)) := HR.out.below.trans ((hB.mono (by omega)).trans (belowK_b (w := w) (Nat.le_refl _) X D _ _ (by omega) hK rfl rfl))
          have hrow := ownsRow_putObj HI.out.row (.deferred none) hK rfl
          exact HST.out.add (S := fun q => Value.ownBlock (.slice (some ⟨N0, 0, none⟩) (taking W k (2 * W.length - 2)).length k) = some q) hbb ⟨ownsRow_base hrow, fun _ => Iff.rfl⟩ (fun q hq => by have := (hrow.lt q hq).1; omega)

end Go.Proofs.YtpcbhmkalofkmaaGreat.Limit
