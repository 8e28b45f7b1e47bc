/-
  HdV HdR, one behind the other (merged by wip/merge.py). No conditions but those that each states.
-/
import Derived.Test.YtpinfihmageeoaaGreatGV
import Derived.Test.YtpinfihmageeoaaGreatGC
import Derived.Test.YtpinfihmageeoaaGreatGB
import Derived.Test.YtpinfihmageeoaaGreatRepH
import Derived.Test.YtpinfihmageeoaaGreatGM
import Derived.Test.YtpinfihmageeoaaGreatRef2

namespace Go.Proofs.YtpinfihmageeoaaGreat.Hd
open Go.RowKit Kraft

def row (xs : List Nat) : List Bool := rest (bitAt xs) (8 * xs.length) 0

theorem row_length (xs : List Nat) : (row xs).length = 8 * xs.length := by simp [row, rest]

theorem row_get (xs : List Nat) (i : Nat) (h : i < (row xs).length) : (row xs)[i] = bitAt xs i := by simp [row, rest]

theorem drop_rest (f : Nat → Bool) (m p : Nat) : rest f m p = (rest f m 0).drop p := by
  refine List.ext_getElem (by simp [rest]) (fun i h1 h2 => ?_)
  simp [rest]

theorem bitsAt_get (xs : List Nat) (p : Nat) : ∀ (n i : Nat) (h : i < (bitsAt xs p n).length), (bitsAt xs p n)[i] = bitAt xs (p + i)
  | 0, _, h => by simp [bitsAt] at h
  | n + 1, i, h => by
    have hl := bitsAt_length xs p n
    rw [bitsAt_length] at h
    have e : bitsAt xs p (n + 1) = bitsAt xs p n ++ [bitAt xs (p + n)] := rfl
    by_cases hi : i < n
    · rw [List.getElem_of_eq e, List.getElem_append_left (by omega), bitsAt_get xs p n i (by omega)]
    · obtain rfl : i = n := by omega
      rw [List.getElem_of_eq e, List.getElem_append_right (by omega)]
      simp

theorem nm_row (xs : List Nat) (p n : Nat) (h : p + n ≤ 8 * xs.length) : nm (row xs) p n = num (bitsAt xs p n) := by
  unfold nm
  congr 1
  refine List.ext_getElem (by rw [List.length_take, List.length_drop, row_length, bitsAt_length]; omega) (fun i h1 h2 => ?_)
  rw [List.getElem_take, List.getElem_drop, row_get, bitsAt_get]

theorem bitAt_in (xs ys : List Nat) (i : Nat) (h : i < 8 * xs.length) : bitAt (xs ++ ys) i = bitAt xs i := by
  unfold bitAt
  rw [getD_in _ _ (by rw [List.length_append]; omega), getD_in _ _ (by omega : i / 8 < xs.length), List.getElem_append_left (by omega)]

theorem row_append (xs ys : List Nat) : row (xs ++ ys) = row xs ++ (row (xs ++ ys)).drop (8 * xs.length) := by
  conv => lhs; rw [← List.take_append_drop (8 * xs.length) (row (xs ++ ys))]
  congr 1
  refine List.ext_getElem (by rw [List.length_take, row_length, row_length, List.length_append]; omega) (fun i h1 h2 => ?_)
  rw [List.getElem_take, row_get, row_get]
  exact bitAt_in xs ys i (by rw [row_length] at h2; exact h2)

theorem row_pk (l : List Bool) : ∃ C, row (pk l) = l ++ C := by
  refine ⟨(row (pk l)).drop l.length, ?_⟩
  conv => lhs; rw [← List.take_append_drop l.length (row (pk l))]
  congr 1
  refine List.ext_getElem (by rw [List.length_take, row_length, pk_length]; omega) (fun i h1 h2 => ?_)
  rw [List.getElem_take, row_get, bitAt_pk, getD_in _ _ h2]

theorem row_pk_more (l : List Bool) (ys : List Nat) : ∃ C, row (pk l ++ ys) = l ++ C := by
  obtain ⟨C, hC⟩ := row_pk l
  refine ⟨C ++ (row (pk l ++ ys)).drop (8 * (pk l).length), ?_⟩
  have h := row_append (pk l) ys
  generalize (row (pk l ++ ys)).drop (8 * (pk l).length) = D at h
  rw [h, hC, List.append_assoc]

theorem row_take (xs : List Nat) (k : Nat) (hk : k ≤ xs.length) : row (xs.take k) = (row xs).take (8 * k) := by
  have h := row_append (xs.take k) (xs.drop k)
  have hl : (row (xs.take k)).length = 8 * k := by rw [row_length, List.length_take]; omega
  rw [List.take_append_drop] at h
  generalize (row xs).drop (8 * (xs.take k).length) = D at h
  rw [h, ← hl, List.take_left]

theorem byteRow_kept {w w' : World} {v : Value} {xs : List Nat} {T : Nat → Prop} (h : ByteRow w v xs) (ho : Only T w w') (hT : ∀ b off c m, v = .slice (some ⟨b, off, none⟩) m c → ¬ T b) : ByteRow w' v xs := by
  obtain ⟨a, cap, rfl, h2, h3, h4⟩ := h
  refine ⟨a, cap, rfl, h2, h3, fun i hi => ?_⟩
  obtain ⟨hx, b, off, rfl, hc⟩ := h4 i hi
  refine ⟨hx, b, off, rfl, ?_⟩
  have lt := World.block_lt_of_cell? w _ hc
  exact (World.cell?_of_block (w := w) (ho.block b lt (hT b off _ _ rfl))).trans hc

def blockOf (v : Value) (k : Nat) : Prop := ∃ off m c, v = .slice (some ⟨k, off, none⟩) m c

def pairT (v1 : Value) (p : List Nat) (v2 : Value) (q : List Nat) : Thing where
  holds w S := ByteRow w v1 p ∧ ByteRow w v2 q ∧ (∀ k, blockOf v1 k ∨ blockOf v2 k → S k) ∧ ∀ k, S k → k < w.heap.size
  keep := by
    rintro w w' S T ⟨h1, h2, h3, h4⟩ ho hd
    exact ⟨byteRow_kept h1 ho (fun b off c m e => hd b (h3 b (.inl ⟨off, m, c, e⟩))), byteRow_kept h2 ho (fun b off c m e => hd b (h3 b (.inr ⟨off, m, c, e⟩))), h3, fun k hk => Nat.lt_of_lt_of_le (h4 k hk) ho.size⟩
  lt := by
    rintro w S k ⟨_, _, _, h4⟩ hk
    exact h4 k hk

section
variable {B : Nat} {w0 w : World} {r : List Thing} {v1 v2 : Value} {p q : List Nat}

theorem _root_.Go.Proofs.YtpinfihmageeoaaGreat.St.pair (h : St B w0 w (pairT v1 p v2 q :: r)) : ByteRow w v1 p ∧ ByteRow w v2 q := by
  obtain ⟨S, h1, _⟩ := h.sep
  exact ⟨h1.1, h1.2.1⟩

theorem _root_.Go.Proofs.YtpinfihmageeoaaGreat.St.toPair (h : St B w0 w (rowT 5 1 v1 p.length (u8s p) :: rowT 5 1 v2 q.length (u8s q) :: r)) (hp : ∀ x ∈ p, x < 256) (hq : ∀ x ∈ q, x < 256) : St B w0 w (pairT v1 p v2 q :: r) := by
  have r1 := byteRow_owns h.row hp
  have r2 := byteRow_owns h.swap.row hq
  obtain ⟨S1, h1, h2, S2, h3, h4, h5⟩ := h.sep
  refine ⟨h.only, h.size, fun k => S1 k ∨ S2 k, ⟨r1, r2, ?_, ?_⟩, ?_, ?_⟩
  · rintro k (⟨off, m, c, e⟩ | ⟨off, m, c, e⟩)
    · refine .inl ((h1.2 k).2 ?_)
      subst e
      rcases h1.1.2 with ⟨e, _⟩ | ⟨g, cap, cur, e, _⟩
      · cases e
      · have := Option.some.inj (Value.slice.inj e).1
        simp [Value.ownBlock]
    · refine .inr ((h3.2 k).2 ?_)
      subst e
      rcases h3.1.2 with ⟨e, _⟩ | ⟨g, cap, cur, e, _⟩
      · cases e
      · have := Option.some.inj (Value.slice.inj e).1
        simp [Value.ownBlock]
  · rintro k (hk | hk)
    · exact (h1.1.lt _ ((h1.2 _).1 hk)).2
    · exact (h3.1.lt _ ((h3.2 _).1 hk)).2
  · rintro k (hk | hk)
    · exact h2 k hk
    · exact (h4 k hk).1
  · exact Sep.mono h5 (fun k _ hk => ⟨hk.1.1, fun h => h.elim hk.1.2 hk.2⟩)

theorem _root_.Go.Proofs.YtpinfihmageeoaaGreat.St.partPair {g cap a b : Nat} {o : List Nat} (h : St B w0 w (rowT 5 1 (.slice (some ⟨g, 0, none⟩) o.length cap) o.length (u8s o) :: r)) (ho : ∀ x ∈ o, x < 256)
    (h1 : ∀ W, ByteRow W (.slice (some ⟨g, 0, none⟩) o.length cap) o → ByteRow W (.slice (some ⟨g, a, none⟩) p.length (cap - a)) p) (h2 : ∀ W, ByteRow W (.slice (some ⟨g, 0, none⟩) o.length cap) o → ByteRow W (.slice (some ⟨g, b, none⟩) q.length (cap - b)) q) :
    St B w0 w (pairT (.slice (some ⟨g, a, none⟩) p.length (cap - a)) p (.slice (some ⟨g, b, none⟩) q.length (cap - b)) q :: r) := by
  have r1 := byteRow_owns h.row ho
  refine h.step fun S hS => ⟨S, ⟨h1 _ r1, h2 _ r1, ?_, fun k hk => (hS.1.lt _ ((hS.2 _).1 hk)).2⟩, Only.refl _ _, fun k hk => .inl hk⟩
  rintro k (⟨off, m, c, e⟩ | ⟨off, m, c, e⟩)
  all_goals
    refine (hS.2 k).2 ?_
    have := Option.some.inj (Value.slice.inj e).1
    simp at this
    simp [Value.ownBlock, this.1]

end

def GotSt (B : Nat) (w0 : World) (r : List Thing) (qb : Nat) (xs : List Nat) (p : Nat) (e : Ending) (w' : World) : Prop :=
  match headAt (row xs) p with
  | none => e = .returned (.tuple #[.slice none 0 0, .slice none 0 0, .int .i64 2]) ∧ ∃ p', St B w0 w' (rdT qb xs p' :: r)
  | some y => ∃ v1 v2, e = .returned (.tuple #[v1, v2, .int .i64 0]) ∧ St B w0 w' (pairT v1 y.1 v2 y.2.1 :: rdT qb xs y.2.2 :: r)

end Go.Proofs.YtpinfihmageeoaaGreat.Hd

namespace Go.Proofs.YtpinfihmageeoaaGreat.Hd
open Go.RowKit Kraft

attribute [local go_sem] Oper.semAt_some

theorem infoRSign : (Tryz.prog.info? 156).map (fun i => (i.zero, i.size, i.bytes)) = some (some (.agg #[.int .u8 0, .int .u8 0]), 2, 2) := by kernel_rfl

theorem say_byte : ∀ (l : List (Nat × Nat)) (out o : List Nat), (∀ x ∈ out, x < 256) → Rep.Small l → Rep.say out l = some o → ∀ x ∈ o, x < 256
  | [], out, o, ho, _, h => by
    rw [← Option.some.inj h]
    exact ho
  | s :: l, out, o, ho, hs, h => by
    unfold Rep.say at h
    split at h
    · cases h
    · refine say_byte l _ o (fun x hx => ?_) (fun t ht => hs t (by simp [ht])) h
      rcases List.mem_append.1 hx with h1 | h1
      · exact ho x h1
      · rw [List.eq_of_mem_replicate h1]
        unfold Rep.lengthOf
        split
        · rw [List.getLastD_eq_getLast?]
          cases e : out.getLast? with
          | none => simp
          | some y => exact ho y (List.mem_of_getLast? e)
        · split
          · omega
          · exact (hs s (by simp)).1

theorem unAns_byte {l : List (Nat × Nat)} {n : Int} {o : List Nat} (hsm : Rep.Small l) (h : Rep.unAns l n = o) : ∀ x ∈ o, x < 256 := by
  unfold Rep.unAns at h
  split at h
  · subst h; intro x hx; cases hx
  · split at h
    · subst h; intro x hx; cases hx
    · rename_i o2 hs
      split at h
      · subst h
        exact say_byte l [] _ (fun x hx => by cases hx) hsm hs
      · subst h; intro x hx; cases hx

theorem results_tmp4 {fn : Func} {t u v x : Tmp} (h : fn.results = #[.tmp t, .tmp u, .tmp v, .tmp x]) (tmps : Array Value) (P : Program) (w : World) :
    (results fn tmps).run P w = .ok (.tuple #[tmps.getD t undef, tmps.getD u undef, tmps.getD v undef, tmps.getD x undef]) w := by
  simp [results, h]

theorem rget_both (w : World) (v : Value) (R : List Bool) (p n : Nat) (h : RowAt w v R) (hl : R.length ≤ 1000000) (hp : p ≤ R.length) (hn : n ≤ 32) :
    Calls Tryz.prog 98 #[v, .int .i64 (p : Int), .int .i64 (n : Int)] w fun e w' =>
      ((p + n ≤ R.length ∧ e = .returned (.tuple #[.int .u32 (nm R p n : Int), .int .i64 ((p + n : Nat) : Int), .int .i64 0])) ∨
        (R.length < p + n ∧ e = .returned (.tuple #[.int .u32 0, .int .i64 (p : Int), .int .i64 2]))) ∧ w = w' := by
  by_cases hm : p + n ≤ R.length
  · refine (rget_ok w v R p n h hl hn hm).mono ?_
    rintro e w' ⟨rfl, rfl⟩
    exact ⟨.inl ⟨hm, rfl⟩, rfl⟩
  · refine (rget_form w v R p n h hp hn (by omega)).mono ?_
    rintro e w' ⟨rfl, rfl⟩
    exact ⟨.inr ⟨by omega, rfl⟩, rfl⟩

def HeadSt (B : Nat) (w0 : World) (r : List Thing) (R : List Bool) (p : Nat) (e : Ending) (w' : World) : Prop :=
  match headAt R p with
  | none => ∃ q : Int, e = .returned (.tuple #[.slice none 0 0, .slice none 0 0, .int .i64 q, .int .i64 2]) ∧ St B w0 w' r
  | some y => ∃ g cap, e = .returned (.tuple #[.slice (some ⟨g, 0, none⟩) y.1.length cap, .slice (some ⟨g, y.1.length, none⟩) y.2.1.length (cap - y.1.length), .int .i64 (y.2.2 : Int), .int .i64 0]) ∧
      St B w0 w' (rowT 5 1 (.slice (some ⟨g, 0, none⟩) (y.1 ++ y.2.1).length cap) (y.1 ++ y.2.1).length (u8s (y.1 ++ y.2.1)) :: r)

theorem HeadSt.none {B : Nat} {w0 w' : World} {r : List Thing} {R : List Bool} {p : Nat} {q : Int} (st : St B w0 w' r) (h : headAt R p = none) :
    HeadSt B w0 r R p (.returned (.tuple #[.slice none 0 0, .slice none 0 0, .int .i64 q, .int .i64 2])) w' := by
  unfold HeadSt
  rw [h]
  exact ⟨q, rfl, st⟩

theorem head_short {R : List Bool} {p : Nat} (h : R.length < p + 14) : headAt R p = none := by unfold headAt; rw [if_pos h]
theorem head_short2 {R : List Bool} {p : Nat} (h : R.length < p + 14 + 3 * nz R p) : headAt R p = none := by
  unfold headAt
  split
  · rfl
  · rfl
theorem head_weight {R : List Bool} {p : Nat} (h : weight (lensTo R (p + 14) (nz R p)) ≠ 1048576) : headAt R p = none := by
  unfold headAt
  split
  · rfl
  · split
    · rfl
    · rfl
theorem head_on {R : List Bool} {p : Nat} (h1 : p + 14 ≤ R.length) (h2 : p + 14 + 3 * nz R p ≤ R.length) (h3 : weight (lensTo R (p + 14) (nz R p)) = 1048576) :
    headAt R p = (signsFrom (lensTo R (p + 14) (nz R p)) R (na R p + nb R p) (p + 14 + 3 * nz R p)).bind (headOf (na R p) (nb R p)) := by
  unfold headAt
  rw [if_neg (by omega), if_neg (by omega), if_neg (fun h => h h3)]

theorem lens_class {L : List Nat} (h : ∀ x ∈ L, x < 8) : (classH L = 2 ↔ weight L = 1048576) := by
  have h15 : low15 L = true := low15_of fun i hi => by have := h _ (List.getElem_mem hi); omega
  have := (class_full L h15).1
  unfold full at this
  exact decide_eq_decide.1 this

set_option maxRecDepth 100000 in
set_option maxHeartbeats 4000000 in
theorem refHead_short {B : Nat} {w0 w : World} {r : List Thing} (st : St B w0 w r) (v : Value) (R : List Bool) (h : RowAt w v R) (hl : R.length ≤ 10000) (p : Nat) (hp : p ≤ R.length) (hs : R.length < p + 14) :
    Calls Tryz.prog 76 #[v, .int .i64 (p : Int)] w (HeadSt B w0 r R p) := by
  have hfin : ∀ q : Int, HeadSt B w0 r R p (.returned (.tuple #[.slice none 0 0, .slice none 0 0, .int .i64 q, .int .i64 2])) w := fun q => HeadSt.none st (head_short hs)
  obtain ⟨a, cap, rfl, -⟩ := id h
  have g1 := rget_both w _ R p 5 h (by omega) hp (by omega)
  go_enter Tryz.func76, Tryz.ntmps76
  go_wp2_with fail
  refine g1.mono ?_
  rintro e w1 ⟨⟨c1, rfl⟩ | ⟨c1, rfl⟩, rfl⟩
  · generalize nm R p 5 = x1
    clear g1
    obtain ⟨p1, hp1⟩ : ∃ p1, p + 5 = p1 := ⟨_, rfl⟩
    rw [hp1]
    rw [hp1] at c1
    have g2 := rget_both w _ R p1 5 h (by omega) c1 (by omega)
    have hs2 : R.length < p1 + 9 := by omega
    clear hp1
    go_wp2_with fail
    refine g2.mono ?_
    rintro e w1 ⟨⟨c2, rfl⟩ | ⟨c2, rfl⟩, rfl⟩
    · generalize nm R p1 5 = x2
      clear g2
      obtain ⟨p2, hp2⟩ : ∃ p2, p1 + 5 = p2 := ⟨_, rfl⟩
      rw [hp2]
      rw [hp2] at c2
      have g3 := rget_both w _ R p2 4 h (by omega) c2 (by omega)
      have hs3 : R.length < p2 + 4 := by omega
      clear hp2
      go_wp2_with fail
      refine g3.mono ?_
      rintro e w1 ⟨⟨c3, rfl⟩ | ⟨c3, rfl⟩, rfl⟩
      · omega
      · go_wp2
        refine bodyPost_ret (results_tmp4 rfl _ _ _) rfl ?_
        exact hfin _
    · have g3 := rget_both w _ R p1 4 h (by omega) c1 (by omega)
      go_wp2_with fail
      refine g3.mono ?_
      rintro e w1 ⟨⟨c3, rfl⟩ | ⟨c3, rfl⟩, rfl⟩
      · go_wp2
        refine bodyPost_ret (results_tmp4 rfl _ _ _) rfl ?_
        exact hfin _
      · go_wp2
        refine bodyPost_ret (results_tmp4 rfl _ _ _) rfl ?_
        exact hfin _
  · go_wp2_with fail
    refine g1.mono ?_
    rintro e w1 ⟨⟨c2, rfl⟩ | ⟨c2, rfl⟩, rfl⟩
    · omega
    · have g3 := rget_both w _ R p 4 h (by omega) hp (by omega)
      go_wp2_with fail
      refine g3.mono ?_
      rintro e w1 ⟨⟨c3, rfl⟩ | ⟨c3, rfl⟩, rfl⟩
      · go_wp2
        refine bodyPost_ret (results_tmp4 rfl _ _ _) rfl ?_
        exact hfin _
      · go_wp2
        refine bodyPost_ret (results_tmp4 rfl _ _ _) rfl ?_
        exact hfin _

theorem row_addr {w : World} {b : Nat} {a : Option Addr} {n c : Nat} {xs : List Value} (h : w.ownsRow b 5 1 (.slice a n c) n xs) : a = none ∨ ∃ g o, a = some ⟨g, o, none⟩ := by
  rcases h.2 with ⟨e, _⟩ | ⟨g, cap, cur, e, _⟩
  · exact .inl (Value.slice.inj e).1
  · exact .inr ⟨g, 0, (Value.slice.inj e).1⟩

theorem byteRow_nb {w : World} {base n : Nat} {v : Value} {xs : List Nat} (h : w.ownsRow base 5 1 v n (u8s xs)) (hn : xs.length = n) (hb : ∀ x ∈ xs, x < 256) : ByteRow w v xs :=
  byteRow_owns (by rw [hn]; exact h) hb

theorem order_cell (k o : Nat) (hk : k < 19) (ho : ord k = o) : ∀ W v, NumRow W v order → ∃ b off cap, v = .slice (some ⟨b, off, none⟩) 19 cap ∧ 19 ≤ cap ∧ W.cell? ⟨b, off + k, none⟩ = some (.int .i64 (o : Int)) := fun W v h => by
  obtain ⟨a, cap, rfl, hcap, _, hc⟩ := h
  obtain ⟨b, off, rfl, hc0⟩ := hc k hk
  have e : order[k]'hk = o := by
    rw [← ho]
    unfold ord
    rw [getD_in _ _ hk]
  rw [e] at hc0
  exact ⟨b, off, cap, rfl, hcap, hc0⟩

theorem rget_fit {w : World} {v : Value} {R : List Bool} {p n q x : Nat} (h : RowAt w v R) (hl : R.length ≤ 1000000) (hn : n ≤ 32) (hm : p + n ≤ R.length) (hq : q = p + n) (hx : nm R p n = x) :
    Calls Tryz.prog 98 #[v, .int .i64 (p : Int), .int .i64 (n : Int)] w fun e w' => e = .returned (.tuple #[.int .u32 (x : Int), .int .i64 (q : Int), .int .i64 0]) ∧ w = w' := by
  subst hq hx
  exact rget_ok w v R p n h hl hn hm

set_option maxRecDepth 100000 in
set_option maxHeartbeats 16000000 in
theorem refHead_st {B : Nat} {w0 w : World} {r : List Thing} (st : St B w0 w r) (v : Value) (R : List Bool) (h : ∀ W, St B w0 W r → RowAt W v R) (hl : R.length ≤ 10000) (p : Nat) (hp : p ≤ R.length) :
    Calls Tryz.prog 76 #[v, .int .i64 (p : Int)] w (HeadSt B w0 r R p) := by
  by_cases hs : R.length < p + 14
  · exact refHead_short st v R (h w st) hl p hp hs
  obtain ⟨xa, hxa, bxa⟩ : ∃ x, nm R p 5 = x ∧ x < 32 := ⟨_, rfl, nm_lt R p 5⟩
  obtain ⟨p1, hp1⟩ : ∃ q, q = p + 5 := ⟨_, rfl⟩
  obtain ⟨xb, hxb, bxb⟩ : ∃ x, nm R p1 5 = x ∧ x < 32 := ⟨_, rfl, nm_lt R p1 5⟩
  obtain ⟨p2, hp2⟩ : ∃ q, q = p1 + 5 := ⟨_, rfl⟩
  obtain ⟨xz, hxz, bxz⟩ : ∃ x, nm R p2 4 = x ∧ x < 16 := ⟨_, rfl, nm_lt R p2 4⟩
  obtain ⟨p3, hp3⟩ : ∃ q, q = p2 + 4 := ⟨_, rfl⟩
  have e3 : p3 = p + 14 := by omega
  obtain ⟨nA, hnA⟩ : ∃ n, n = xa + 257 := ⟨_, rfl⟩
  obtain ⟨nB, hnB⟩ : ∃ n, n = xb + 1 := ⟨_, rfl⟩
  obtain ⟨nZ, hnZ⟩ : ∃ n, n = xz + 4 := ⟨_, rfl⟩
  have ea : na R p = nA := by unfold na; omega
  have eb : nb R p = nB := by unfold nb; rw [← hp1]; omega
  have ez : nz R p = nZ := by unfold nz; rw [show p + 10 = p2 from by omega]; omega
  have H1 := Lib.hid (fun h : R.length < p3 + 3 * nZ => head_short2 (R := R) (p := p) (by rw [ez, ← e3]; exact h))
  have H2 := Lib.hid (fun h : weight (lensTo R p3 nZ) ≠ 1048576 => head_weight (R := R) (p := p) (by rw [ez, ← e3]; exact h))
  have H3 := Lib.hid (fun (h1 : p3 + 3 * nZ ≤ R.length) (h2 : weight (lensTo R p3 nZ) = 1048576) => head_on (R := R) (p := p) (by omega) (by rw [ez, ← e3]; exact h1) (by rw [ez, ← e3]; exact h2))
  rw [ea, eb, ez, ← e3] at H3
  have HR := Lib.hid h
  obtain ⟨a, cap, rfl, -⟩ := h w st
  have g1 := rget_fit (HR.out w st) (by omega) (by omega) (n := 5) (by omega) hp1 hxa
  have g2 := rget_fit (HR.out w st) (by omega) (by omega) (n := 5) (by omega) hp2 hxb
  have g3 := rget_fit (HR.out w st) (by omega) (by omega) (n := 4) (by omega) hp3 hxz
  have hp3l : p3 ≤ R.length := by omega
  have hA : (xa : Int) + 257 = (nA : Int) := by omega
  have hB : (xb : Int) + 1 = (nB : Int) := by omega
  have hZ : (xz : Int) + 4 = (nZ : Int) := by omega
  have bA : nA ≤ 288 := by omega
  have bB : nB ≤ 32 := by omega
  have bZ : nZ ≤ 19 := by omega
  have bZ4 : 4 ≤ nZ := by omega
  have lA : 257 ≤ nA := by omega
  have lB : 1 ≤ nB := by omega
  have hxa1 := Lib.hid hnA
  clear hs h hp1 hp2 hp3 e3 ea eb ez hnA hnB hnZ hxa hxb hxz
  obtain ⟨i0, hi, hz0, hz1, hz2⟩ := info_parts info8
  have hmk : i0.bytes * 19 ≤ 281474976710656 := by rw [hz2]; omega
  have hmx : 19 ≤ maxLen := by unfold maxLen; omega
  go_enter Tryz.func76, Tryz.ntmps76
  go_wp2_with fail
  refine g1.mono ?_
  rintro e w1 ⟨rfl, rfl⟩
  clear g1
  go_wp2_with fail
  refine g2.mono ?_
  rintro e w1 ⟨rfl, rfl⟩
  clear g2
  go_wp2_with fail
  refine g3.mono ?_
  rintro e w1 ⟨rfl, rfl⟩
  clear g3
  go_wp2_with (at_make; refine wpList_make_full _ rfl _ _ 26 rfl w.heap.size 5 i0 (.int .u8 0) 1 Tryz.underlying26 hi hz0 hz1 _ _ _ _ 19 rfl rfl rfl rfl hmk hmx (Nat.le_refl _) ?_)
  intro w1 hown hgrow
  have s1 := st.made hown hgrow
  clear hown hgrow hi hz0 hz1 hz2 hmk hmx st
  obtain ⟨g, hg⟩ : ∃ g, g = w.heap.size := ⟨_, rfl⟩
  rw [← hg] at s1
  try rw [← hg]
  clear hg
  go_wp2
  go_loopw [1, 17] (fun av iv wr => ∃ k q : Nat, k ≤ nZ ∧ iv = .int .i64 (k : Int) ∧ av = .int .i64 (q : Int) ∧ q ≤ R.length ∧ Hid (q = p3 + 3 * k) ∧ St B w0 wr (bytesT g 19 (lensTo R p3 k) :: r)) (fun _ iv _ => nZ - (intOf iv).toNat)
  case atStart => exact ⟨0, p3, Nat.zero_le _, rfl, rfl, hp3l, Lib.hid rfl, s1⟩
  case round =>
    clear s1
    obtain ⟨k, q, hk, rfl, rfl, hq, hqk, t1⟩ := hrel
    by_cases hlt : k < nZ
    · by_cases hfit : q + 3 ≤ R.length
      · obtain ⟨y, hy, by8⟩ : ∃ y, nm R q 3 = y ∧ y < 8 := ⟨_, rfl, nm_lt R q 3⟩
        obtain ⟨q1, hq1⟩ : ∃ q1, q1 = q + 3 := ⟨_, rfl⟩
        obtain ⟨o, ho, bo⟩ : ∃ o, ord k = o ∧ o < 19 := ⟨_, rfl, ord_lt k⟩
        have gg := rget_fit (HR.out _ t1.drop) (by omega) (by omega) (n := 3) (by omega) hq1 hy
        have hcell := order_cell k o (by omega) ho
        have hnext : (lensTo R p3 k).set o y = lensTo R p3 (k + 1) := by rw [lensTo, ho, ← hqk.out, hy]
        have hlen := lensTo_length R p3 k
        have HQ1 := Lib.hid (show q1 = p3 + 3 * (k + 1) from by have := hqk.out; omega)
        have hq1l : q1 ≤ R.length := by omega
        generalize lensTo R p3 k = Lk at *
        have HNX := Lib.hid hnext
        have HLN := Lib.hid hlen
        clear hnext hlen hfit hq1 ho hy
        go_wp2_with fail
        refine gg.mono ?_
        rintro e w2 ⟨rfl, rfl⟩
        clear gg
        go_wp2_with (go_at_call 106; refine (refOrder_any _).mono ?_; rintro e w2 ⟨v2, rfl, hn2, hb2⟩; obtain ⟨b2, off2, cc2, rfl, hcap2, hc2⟩ := hcell _ _ hn2; have t2 := t1.quiet hb2; obtain ⟨f0, f1⟩ := t2.rowCell o HLN.out bo)
        have t3 := t2.put o y
        rw [HNX.out] at t3
        clear t2 f0 f1 hn2 hc2 hcell t1
        go_wp2
        exact ⟨⟨k + 1, q1, by omega, by go_num, rfl, hq1l, HQ1, t3⟩, by simp [intOf]; omega⟩
      · have gg := rget_both wr _ R q 3 (HR.out _ t1.drop) (by omega) hq (by omega)
        have hnone := H1.out (by have := hqk.out; omega)
        have hfin := fun q => HeadSt.none (q := q) t1.drop hnone
        clear hnone t1
        go_wp2_with fail
        refine gg.mono ?_
        rintro e w2 ⟨⟨c1, _⟩ | ⟨_, rfl⟩, rfl⟩
        · exact absurd c1 hfit
        go_wp2
        refine bodyPost_ret (results_tmp4 rfl _ _ _) rfl ?_
        exact hfin _
    · obtain rfl : k = nZ := by omega
      have hsm := lensTo_small R p3 k
      have hlen := lensTo_length R p3 k
      have K2 := H2.out
      have K3 := H3.out (by rw [← hqk.out]; exact hq)
      rw [← hqk.out] at K3
      clear H1 H2 H3 hqk
      generalize lensTo R p3 k = L at *
      obtain ⟨nT, hnT⟩ : ∃ n, n = nA + nB := ⟨_, rfl⟩
      rw [← hnT] at K3
      have hT : (nA : Int) + (nB : Int) = (nT : Int) := by omega
      have bT : nT ≤ 320 := by omega
      have HNT := Lib.hid hnT
      have hrowL : ∀ W r', St B w0 W (bytesT g 19 L :: r') → ByteRow W (.slice (some ⟨g, 0, none⟩) 19 19) L := fun W r' s => byteRow_nb s.row hlen (fun x hx => by have := hsm x hx; omega)
      have hcl := refClass_any wr _ L (hrowL _ _ t1) (by omega)
      clear hnT
      by_cases hw : weight L = 1048576
      · rw [(lens_class hsm).2 hw] at hcl
        have hmy : wordsErr L = 0 := wordsErr_fits ((may_iff L).2 ⟨by omega, fun x hx => by have := hsm x hx; omega⟩) (by omega)
        have hrows := refRows_st t1 _ L (hrowL _ _ t1) (by omega)
        have K4 := Lib.hid (K3 hw)
        have h20 : ∀ j, len L j ≤ 20 := by
          intro j
          unfold len
          by_cases hj : j < L.length
          · rw [getD_in _ _ hj]; have := hsm _ (List.getElem_mem hj); omega
          · rw [getD_out _ _ (by omega)]; omega
        have hmy := Lib.hid hmy
        have HLEN := Lib.hid hlen
        have HW := Lib.hid hw
        clear K2 K3 hw hrowL hsm hlen
        go_wp2_with fail
        refine hcl.mono ?_
        rintro e w2 ⟨rfl, rfl⟩
        clear hcl
        go_wp2_with fail
        refine hrows.mono ?_
        rintro e w2 (⟨h0, _⟩ | ⟨_, vr, rfl, t2⟩)
        · exact absurd hmy.out h0
        clear hrows t1
        obtain ⟨va, cr, hvr⟩ : ∃ a c, vr = .slice a L.length c := by
          obtain ⟨vs, hR⟩ := t2.rows
          obtain ⟨a, c, e⟩ := ownsRow_slice hR.row
          rw [rowsOf_length] at e
          exact ⟨a, c, e⟩
        subst hvr
        go_wp2_with fail
        refine (refBits9_st t2 _ R (fun W s => HR.out W s.drop.drop) (by omega)).mono ?_
        rintro e w3 ⟨vb, rfl, t3⟩
        rw [nats_length] at t3
        obtain ⟨ab, cb, rfl⟩ := ownsRow_slice t3.row
        have t4 := t3.addNil (e := 156) (size := 2)
        clear t3 t2
        obtain ⟨p4, hp4⟩ : ∃ p4, p4 = q := ⟨_, rfl⟩
        rw [← hp4] at K4
        obtain ⟨i1, hi, hz0, hz1, hz2⟩ := info_parts infoRSign
        go_wp2
        go_loopw [1, 24, 25] (fun av lv nv wr => ∃ (q n : Nat) (l : List (Nat × Nat)), nv = .int .i64 (n : Int) ∧ av = .int .i64 (q : Int) ∧ q ≤ R.length ∧ Hid (signsFrom L R nT p4 = (signsFrom L R (nT - n) q).map fun x => (l ++ x.1, x.2)) ∧ Hid (l.all Rep.fits = true) ∧ Hid (Rep.Small l) ∧ l.length ≤ n ∧ n ≤ nT + 138 ∧
            St B w0 wr (Rep.signT 156 lv l :: rowT 5 1 (.slice ab R.length cb) R.length (u8s (nats R)) :: rowsT (.slice va L.length cr) (rowsOf L) :: bytesT g 19 L :: r)) (fun _ _ nv _ => nT - (intOf nv).toNat)
        case atStart => exact ⟨q, 0, [], rfl, rfl, hq, Lib.hid (by rw [hp4, Nat.sub_zero]; cases signsFrom L R nT q <;> simp), Lib.hid rfl, Lib.hid (fun p hp => by cases hp), Nat.le_refl _, by omega, t4⟩
        case round =>
          clear t4 hp4 hq
          obtain ⟨q, n, l, rfl, rfl, hq, hsg, hft, hsm, hln, hnT, t5⟩ := hrel
          obtain ⟨vla, vlc, rfl⟩ := ownsRow_slice t5.row
          by_cases hlt : n < nT
          · have href := refGet_rows (w := wr) (va := va) (cr := cr) h20 (by rw [HW.out]; exact Nat.le_refl _) (by have := HLEN.out; omega) (St.rowsAll (t5.front 2)) (byteRow_nb (t5.front 1).row (nats_length R) (nats_lt _)) (row_addr (t5.front 1).row) rfl (by omega) q hq
            have he := seek_err (tab L L.length) (R.drop q) 0 0
            have hin := seek_in _ (tab_in L) (R.drop q) 0 0
            have hle := seek_le (tab L L.length) (R.drop q) 0 0
            have hone : oneSign L R q = if (seek (tab L L.length) 0 0 (R.drop q)).2.2 ≠ 0 then none else
              if R.length < q + (seek (tab L L.length) 0 0 (R.drop q)).1 + Rep.bitsOf' (seek (tab L L.length) 0 0 (R.drop q)).2.1.toNat then none else
              some (((seek (tab L L.length) 0 0 (R.drop q)).2.1.toNat, nm R (q + (seek (tab L L.length) 0 0 (R.drop q)).1) (Rep.bitsOf' (seek (tab L L.length) 0 0 (R.drop q)).2.1.toNat)),
                q + (seek (tab L L.length) 0 0 (R.drop q)).1 + Rep.bitsOf' (seek (tab L L.length) 0 0 (R.drop q)).2.1.toNat) := rfl
            have hnx := fun h : oneSign L R q = none => (show headAt R p = none by rw [K4.out, hsg.out, signs_none (by omega) h]; rfl)
            rw [List.length_drop] at hle
            generalize seek (tab L L.length) 0 0 (R.drop q) = G at href he hin hle hone
            obtain ⟨Gk, Gs, Ge⟩ := G
            simp only at he hin hle hone
            obtain ⟨q2, hq2⟩ : ∃ q2, q2 = q + Gk := ⟨_, rfl⟩
            rw [show (Gk, Gs, Ge).1 = Gk from rfl, show (Gk, Gs, Ge).2.1 = Gs from rfl, show (Gk, Gs, Ge).2.2 = Ge from rfl, ← hq2] at href
            rw [← hq2] at hone
            have hq2l : q2 ≤ R.length := by omega
            have HREF := Lib.hid href
            clear hle hq2 href
            rcases he with rfl | h0
            · obtain ⟨c, hc19, _, rfl⟩ := hin rfl
              have hc19 : c < 19 := by have := HLEN.out; omega
              rw [if_neg (fun h => h rfl), Int.toNat_natCast] at hone
              have HONE := Lib.hid hone
              have HNX := Lib.hid hnx
              clear hin hone hnx
              go_wp2_with fail
              refine HREF.out.mono ?_
              rintro e w6 ⟨rfl, kk, rfl⟩
              clear HREF
              have hone := HONE.out
              have hnx := HNX.out
              clear HONE HNX
              have t6 := t5.drewN kk
              clear t5
              generalize wr.drewN kk = wd at *
              obtain ⟨xe, hxe, bxe⟩ : ∃ x, Rep.bitsOf' c = x ∧ x ≤ 7 := ⟨_, rfl, by unfold Rep.bitsOf'; split <;> (try omega); split <;> (try omega); split <;> omega⟩
              have hex := refExtra_any wd c
              have HXE := Lib.hid hxe
              rw [hxe] at hone hex
              clear hxe
              by_cases hfit : q2 + xe ≤ R.length
              · rw [if_neg (by omega)] at hone
                obtain ⟨y, hy, by8⟩ : ∃ y, nm R q2 xe = y ∧ y < 128 := ⟨_, rfl, Nat.lt_of_lt_of_le (nm_lt R q2 xe) (Nat.pow_le_pow_right (n := 2) (by omega) bxe)⟩
                obtain ⟨q3, hq3⟩ : ∃ q3, q3 = q2 + xe := ⟨_, rfl⟩
                have hgg := rget_fit (HR.out _ t6.drop.drop.drop.drop) (by omega) (by omega) hfit hq3 hy
                have HFT : Rep.fits (c, y) = true := by
                  unfold Rep.fits
                  rw [HXE.out, Bool.and_eq_true, decide_eq_true_eq, decide_eq_true_eq, ← hy]
                  exact ⟨by omega, nm_lt R q2 xe⟩
                rw [hy, ← hq3] at hone
                have hq3l : q3 ≤ R.length := by omega
                have hy0 : xe = 0 → y = 0 := fun h => by rw [← hy, h, nm_zero]
                have HSG : Hid (signsFrom L R nT p4 = (signsFrom L R (nT - (n + Rep.times (c, y))) q3).map fun x => ((l ++ [(c, y)]) ++ x.1, x.2)) := Lib.hid (by
                  rw [hsg.out, signs_on (by omega) hone, Option.map_map, show nT - n - Rep.times (c, y) = nT - (n + Rep.times (c, y)) from by omega]
                  congr 1
                  funext x
                  simp)
                have HF2 : Hid ((l ++ [(c, y)]).all Rep.fits = true) := Lib.hid (by rw [List.all_append, hft.out]; simp [HFT])
                have HS2 : Hid (Rep.Small (l ++ [(c, y)])) := Lib.hid (fun s hs => by
                  rcases List.mem_append.1 hs with h | h
                  · exact hsm.out s h
                  · rw [List.mem_singleton.1 h]; exact ⟨by omega, by omega⟩)
                have hl2 : (l ++ [(c, y)]).length = l.length + 1 := by simp
                have HL2 := Lib.hid hl2
                have HY0 := Lib.hid hy0
                clear hfit hone hnx hq3 hy HFT hsg hft hl2 hy0
                go_wp2_with (first | (go_at_call 109; refine hex.mono ?_; rintro e w7 ⟨rfl, rfl⟩) | (go_at_call 98; refine hgg.mono ?_; rintro e w7 ⟨rfl, rfl⟩) | (at_builtin; refine wpList_append_one rfl _ _ 152 rfl 156 i1 (.agg #[.int .u8 0, .int .u8 0]) 2 2 Tryz.underlying152 hi hz0 hz1 hz2 rfl (by decide) t6 rfl [.int .u8 (c : Int), .int .u8 (y : Int)] rfl rfl (by simp [Value.oneCell']) (by unfold maxLen; omega) (by omega) ?_))
                intro v' w8 t8
                rw [show Rep.sgn l ++ [.int .u8 (c : Int), .int .u8 (y : Int)] = Rep.sgn (l ++ [(c, y)]) from by rw [Rep.sgn_append]; rfl, ← HL2.out] at t8
                have hl3 : (l ++ [(c, y)]).length ≤ n + 1 := by have := HL2.out; omega
                have HL3 := Lib.hid hl3
                obtain ⟨tm, htm⟩ : ∃ tm, tm = Rep.times (c, y) := ⟨_, rfl⟩
                rw [← htm] at HSG
                have ht1 : 1 ≤ tm := by rw [htm]; exact Rep.times_pos _
                have HTM := Lib.hid htm
                clear htm HL2 hl3 t6 hex hgg
                generalize l ++ [(c, y)] = l2 at *
                have hfin : ∀ nn : Int, nn = (n : Int) + (tm : Int) → tm ≤ 138 → ∀ vx, vx = Value.int .i64 nn → (∃ (q n : Nat) (l : List (Nat × Nat)), vx = .int .i64 (n : Int) ∧ Value.int .i64 (q3 : Int) = .int .i64 (q : Int) ∧ q ≤ R.length ∧ Hid (signsFrom L R nT p4 = (signsFrom L R (nT - n) q).map fun x => (l ++ x.1, x.2)) ∧ Hid (l.all Rep.fits = true) ∧ Hid (Rep.Small l) ∧ l.length ≤ n ∧ n ≤ nT + 138 ∧
                    St B w0 w8 (Rep.signT 156 v' l :: rowT 5 1 (.slice ab R.length cb) R.length (u8s (nats R)) :: rowsT (.slice va L.length cr) (rowsOf L) :: bytesT g 19 L :: r)) ∧ nT - (intOf vx).toNat < nT - (intOf (Value.int .i64 (n : Int))).toNat := by
                  intro nn hnn htm vx hvx
                  refine ⟨⟨q3, n + tm, l2, by rw [hvx, hnn]; simp, rfl, hq3l, HSG, HF2, HS2, by have := HL3.out; omega, by omega, t8⟩, ?_⟩
                  rw [hvx, hnn]
                  simp [intOf]
                  omega
                have HFIN := Lib.hid hfin
                clear hfin HSG HF2 HS2 HL3 t8 ht1
                by_cases c16 : c = 16
                · have d1 : ((c : Int) == 16) = true := by rw [c16]; rfl
                  have htm : tm = 3 + y := by rw [HTM.out, c16]; rfl
                  clear c16
                  go_wp2
                  refine HFIN.out _ (by omega) (by omega) _ rfl
                · have d1 : ((c : Int) == 16) = false := by rw [beq_eq_false_iff_ne]; omega
                  by_cases c17 : c = 17
                  · have d2 : ((c : Int) == 17) = true := by rw [c17]; rfl
                    have htm : tm = 3 + y := by rw [HTM.out, c17]; rfl
                    clear c16 c17
                    go_wp2
                    refine HFIN.out _ (by omega) (by omega) _ rfl
                  · have d2 : ((c : Int) == 17) = false := by rw [beq_eq_false_iff_ne]; omega
                    by_cases c18 : c = 18
                    · have d3 : ((c : Int) == 18) = true := by rw [c18]; rfl
                      have htm : tm = 11 + y := by rw [HTM.out, c18]; rfl
                      clear c16 c17 c18
                      go_wp2
                      refine HFIN.out _ (by omega) (by omega) _ rfl
                    · have d3 : ((c : Int) == 18) = false := by rw [beq_eq_false_iff_ne]; omega
                      have hx0 : xe = 0 := by rw [← HXE.out]; unfold Rep.bitsOf'; rw [if_neg c16, if_neg c17, if_neg c18]
                      have hy0 := HY0.out hx0
                      have htm : tm = 1 := by rw [HTM.out]; unfold Rep.times Rep.least; rw [if_neg (by omega), if_neg c18]; omega
                      clear c16 c17 c18 hx0
                      go_wp2
                      refine HFIN.out _ (by omega) (by omega) _ rfl
              · rw [if_pos (by omega)] at hone
                have hnone := hnx hone
                have hfin := fun q => HeadSt.none (q := q) t6.drop.drop.drop.drop hnone
                have hgg := rget_both wd _ R q2 xe (HR.out _ t6.drop.drop.drop.drop) (by omega) hq2l (by omega)
                clear hnone hnx hone t6
                go_wp2_with (first | (go_at_call 109; refine hex.mono ?_; rintro e w7 ⟨rfl, rfl⟩))
                refine hgg.mono ?_
                rintro e w7 ⟨⟨c1, _⟩ | ⟨_, rfl⟩, rfl⟩
                · exact absurd c1 hfit
                go_wp2
                refine bodyPost_ret (results_tmp4 rfl _ _ _) rfl ?_
                exact hfin _
            · obtain ⟨-, h1⟩ := Prod.mk.inj h0
              obtain ⟨rfl, rfl⟩ := Prod.mk.inj h1
              rw [if_pos (by decide)] at hone
              have hnone := hnx hone
              have hfin := fun q W (s : St B w0 W r) => HeadSt.none (q := q) s hnone
              clear hnone hnx hone hin h0 h1
              go_wp2_with fail
              refine HREF.out.mono ?_
              rintro e w6 ⟨rfl, kk, rfl⟩
              clear HREF
              have t6 := (t5.drewN kk).drop.drop.drop.drop
              clear t5
              generalize wr.drewN kk = wd at *
              go_wp2
              refine bodyPost_ret (results_tmp4 rfl _ _ _) rfl ?_
              exact hfin _ _ t6
          · have hd : nT - n = 0 := by omega
            have hsig : signsFrom L R nT p4 = some (l, q) := by rw [hsg.out, hd, signs_end]; simp
            have hhead : headAt R p = headOf nA nB (l, q) := by rw [K4.out, hsig]; rfl
            have hE : Rep.unErr l (nT : Int) = (match Rep.say [] l with | none => 2 | some o => if (o.length : Int) = (nT : Int) then 0 else 2) := by unfold Rep.unErr; rw [if_neg (by rw [hft.out]; decide)]; cases Rep.say [] l <;> rfl
            have hN : Rep.unAns l (nT : Int) = (match Rep.say [] l with | none => [] | some o => if (o.length : Int) = (nT : Int) then o else []) := by unfold Rep.unAns; rw [if_neg (by rw [hft.out]; decide)]; cases Rep.say [] l <;> rfl
            have hun := Rep.refUnpack_st t5 (.slice vla l.length vlc) l (fun W s => s.signs hsm.out) (by omega) (nT : Int) (by omega) (by omega)
            unfold Rep.UnpackSt at hun
            unfold headOf at hhead
            have hcase : (Rep.unErr l (nT : Int) = 2 ∧ Rep.unAns l (nT : Int) = [] ∧ headAt R p = none) ∨ ∃ o : List Nat, o.length = nT ∧ Rep.unErr l (nT : Int) = 0 ∧ Rep.unAns l (nT : Int) = o ∧ headAt R p = if mayH (o.take nA) (o.drop nA) = true then some (o.take nA, o.drop nA, q) else none := by
              cases hs : Rep.say [] l with
              | none =>
                rw [hs] at hE hN hhead
                exact .inl ⟨hE, hN, hhead⟩
              | some o =>
                rw [hs] at hE hN hhead
                simp only at hE hN hhead
                by_cases ho : o.length = nT
                · rw [if_pos (by omega)] at hE hN
                  refine .inr ⟨o, ho, hE, hN, ?_⟩
                  rw [hhead]
                  by_cases hm : mayH (o.take nA) (o.drop nA) = true
                  · rw [if_pos ⟨by have := HNT.out; omega, hm⟩, if_pos hm]
                  · rw [if_neg (fun h => hm h.2), if_neg hm]
                · rw [if_neg (by omega)] at hE hN
                  refine .inl ⟨hE, hN, ?_⟩
                  rw [hhead, if_neg (fun h => ho (by have := HNT.out; have := h.1; omega))]
            clear hhead hsig hd hE hN hsg hft K4
            rcases hcase with ⟨hE, hN, hnone⟩ | ⟨o, ho, hE, hN, hsome⟩
            · rw [hE, hN] at hun
              have hfin := fun q W (s : St B w0 W r) => HeadSt.none (q := q) s hnone
              clear hE hN hnone
              go_wp2_with fail
              refine hun.mono ?_
              rintro e w6 ⟨v', rfl, t6⟩
              have t7 := t6.drop.drop.drop.drop.drop
              clear hun t5 t6
              go_wp2
              go_region
              go_wp2
              refine bodyPost_ret (results_tmp4 rfl _ _ _) rfl ?_
              exact hfin _ _ (t7.drewN _)
            · rw [hE, hN] at hun
              go_wp2_with fail
              refine hun.mono ?_
              rintro e w6 ⟨v', rfl, t6⟩
              rw [ho] at t6
              clear hun t5
              obtain ⟨gv, cv, rfl, hcv⟩ := t6.rowShape (by omega)
              have t7 : St B w0 w6.drew (rowT 5 1 (.slice (some ⟨gv, 0, none⟩) nT cv) nT (u8s o) :: r) := t6.swap.drop.swap.drop.swap.drop.swap.drop.drew
              clear t6
              have hA2 : nA < nT := by have := HNT.out; omega
              have hob : ∀ x ∈ o, x < 256 := unAns_byte hsm.out hN
              have hmay : ∀ W, W = w6.drew → Calls Tryz.prog 111 #[.slice (some ⟨gv, 0, none⟩) nA cv, .slice (some ⟨gv, nA, none⟩) (nT - nA) (cv - nA)] W fun e w' => e = .returned (.bool (mayH (o.take nA) (o.drop nA))) ∧ W = w' := by
                rintro W rfl
                have hrow := byteRow_nb t7.row ho hob
                have b1 := (byteRow_take hrow (m := nA) (by omega)).1
                have b2 := byteRow_sub hrow (i := nA) (m := nT - nA) (by omega)
                rw [List.take_of_length_le (by rw [List.length_drop]; omega)] at b2
                rw [Nat.zero_add] at b2
                exact refMayH_any _ _ _ _ _ b1 b2 (by rw [List.length_take]; omega) (by rw [List.length_drop]; omega)
              generalize hmm : mayH (o.take nA) (o.drop nA) = mm at *
              have HSOME := Lib.hid hsome
              have HMM := Lib.hid hmm
              have hmay := hmay _ rfl
              clear hE hN hob hsome hmm
              go_wp2
              refine region_seg (by kernel_rfl) [0, 1, 2, 3, 4, 6, 7] 5 rfl (by kernel_rfl) (by kernel_rfl) (fun _ _ d _ _ h => by cases d <;> exact h) ?_
              generalize w6.drew = wd at *
              intro K hK
              simp only [pickL, List.getElem?_cons_zero, List.getElem?_cons_succ]
              go_wp2_with fail
              refine wpAny_take (i := 5) (v := .slice (some ⟨gv, 0, none⟩) nA cv) rfl (by kernel_rfl) (by kernel_rfl) (by kernel_rfl) (fun _ _ _ h => h) (.inl ⟨rfl, fun w => by go_simp; intro h; omega⟩) ?_
              refine wpAny_take (i := 8) (v := .slice (some ⟨gv, nA, none⟩) (nT - nA) (cv - nA)) rfl (by kernel_rfl) (by kernel_rfl) (by kernel_rfl) (fun _ _ _ h => h) (.inl ⟨rfl, fun w => by go_simp; rw [if_pos (by omega), if_neg (by omega)]⟩) ?_
              refine mid_seg [9, 10, 11] 0 (by kernel_rfl) (by kernel_rfl) (fun _ _ d _ _ h => by cases d <;> exact h) ?_
              intro K2 hK2
              simp only [pickL, List.getElem?_cons_zero, List.getElem?_cons_succ]
              go_wp2_with fail
              refine hmay.mono ?_
              rintro e w7 ⟨rfl, rfl⟩
              clear hmay
              cases mm with
              | false =>
                have hfin := fun q => HeadSt.none (q := q) t7.drop (HSOME.out.trans (if_neg (by decide)))
                clear HSOME HMM t7
                go_wp2_with fail
                refine wpAny_done (by kernel_rfl) ?_ 0
                go_wp2
                refine bodyPost_ret (results_tmp4 rfl _ _ _) rfl ?_
                exact hfin _
              | true =>
                have hfin : HeadSt B w0 r R p (.returned (.tuple #[.slice (some ⟨gv, 0, none⟩) nA cv, .slice (some ⟨gv, nA, none⟩) (nT - nA) (cv - nA), .int .i64 (q : Int), .int .i64 0])) wd.drew := by
                  unfold HeadSt
                  rw [HSOME.out.trans (if_pos rfl)]
                  refine ⟨gv, cv, ?_, ?_⟩
                  · simp only [List.length_take, List.length_drop, ho]
                    rw [Nat.min_eq_left (by omega)]
                  · simp only [List.take_append_drop, ho]
                    exact t7.drew
                clear HSOME HMM t7
                go_wp2_with fail
                refine wpAny_done (by kernel_rfl) ?_ 0
                go_wp2
                refine region_seg (by kernel_rfl) [0, 1, 3, 4, 6] 6 rfl (by kernel_rfl) (by kernel_rfl) (fun _ _ d _ _ h => by cases d <;> exact h) ?_
                intro K hK
                simp only [pickL, List.getElem?_cons_zero, List.getElem?_cons_succ]
                go_wp2_with fail
                refine wpAny_take (i := 2) (v := .slice (some ⟨gv, 0, none⟩) nA cv) rfl (by kernel_rfl) (by kernel_rfl) (by kernel_rfl) (fun _ _ _ h => h) (.inl ⟨rfl, fun w => by go_simp; intro h; omega⟩) ?_
                refine wpAny_take (i := 5) (v := .slice (some ⟨gv, nA, none⟩) (nT - nA) (cv - nA)) rfl (by kernel_rfl) (by kernel_rfl) (by kernel_rfl) (fun _ _ _ h => h) (.inl ⟨rfl, fun w => by go_simp; rw [if_pos (by omega), if_neg (by omega)]⟩) ?_
                refine mid_seg [7, 8, 9, 10] 0 (by kernel_rfl) (by kernel_rfl) (fun _ _ d _ _ h => by cases d <;> exact h) ?_
                intro K2 hK2
                simp only [pickL, List.getElem?_cons_zero, List.getElem?_cons_succ]
                go_wp2_with fail
                refine wpAny_done (by kernel_rfl) ?_ 0
                go_wp2
                refine bodyPost_ret (results_tmp4 rfl _ _ _) rfl ?_
                exact hfin
      · have hz : classH L ≠ 2 := fun h => hw ((lens_class hsm).1 h)
        have hnone := K2 hw
        have hfin := fun q => HeadSt.none (q := q) t1.drop hnone
        have hz1 : ((classH L : Int) == 2) = false := by rw [beq_eq_false_iff_ne]; omega
        have hz2 : ((classH L : Int) != 2) = true := by rw [bne_iff_ne]; omega
        generalize classH L = z at *
        clear hnone t1 hrowL K2 K3 hsm hlen hw
        go_wp2_with fail
        refine hcl.mono ?_
        rintro e w2 ⟨rfl, rfl⟩
        clear hcl
        go_wp2
        refine bodyPost_ret (results_tmp4 rfl _ _ _) rfl ?_
        exact hfin _

end Go.Proofs.YtpinfihmageeoaaGreat.Hd
