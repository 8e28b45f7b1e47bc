/-
  InfI InfJ, one behind the other (merged by wip/merge.py). No conditions but those that each states.
-/
import Derived.Test.YtpinfihmageeoaaGreatGO
import Derived.Test.YtpinfihmageeoaaGreatGI
import Derived.Test.YtpinfihmageeoaaGreatGC
import Derived.Test.YtpinfihmageeoaaGreatGE
import Derived.Test.YtpinfihmageeoaaGreatGS

namespace Go.Proofs.YtpinfihmageeoaaGreat.Inf
open Go.RowKit Kraft Hd

structure RdrC (cs : Array Value) (qb : Nat) (fx : Value) (out : List Nat) (kv : Value) (keep : Nat) : Prop where
  size : cs.size = 32773
  c0 : cs[0]? = some (.pointer (some ⟨qb, 0, none⟩))
  c1 : cs[1]? = some fx
  last : ∀ j, out.length ≤ j + 32768 → j < out.length → cs[2 + j % 32768]? = some (.int .u8 (out.getD j 0 : Int))
  c3 : cs[32770]? = some (.int .i64 (out.length : Int))
  c4 : cs[32771]? = some kv
  c5 : cs[32772]? = some (.int .i64 (keep : Int))

theorem set_at (cs : Array Value) (i j : Nat) (u : Value) (h : i ≠ j) : (cs.setIfInBounds i u)[j]? = cs[j]? := by
  rw [Array.getElem?_setIfInBounds_ne h]
theorem set_here (cs : Array Value) (i : Nat) (u : Value) (h : i < cs.size) : (cs.setIfInBounds i u)[i]? = some u := by
  rw [Array.getElem?_setIfInBounds_self_of_lt h]

theorem RdrC.said {cs : Array Value} {qb : Nat} {fx : Value} {out : List Nat} {kv : Value} {keep : Nat} (h : RdrC cs qb fx out kv keep) (c : Nat) :
    RdrC ((cs.setIfInBounds (2 + out.length % 32768) (.int .u8 (c : Int))).setIfInBounds 32770 (.int .i64 ((out.length : Int) + 1))) qb fx (out ++ [c]) kv keep := by
  have hz := h.size
  have hm : out.length % 32768 < 32768 := Nat.mod_lt _ (by decide)
  refine ⟨by rw [Array.size_setIfInBounds, Array.size_setIfInBounds]; exact hz, ?_, ?_, ?_, ?_, ?_, ?_⟩
  · rw [set_at _ _ _ _ (by omega), set_at _ _ _ _ (by omega)]; exact h.c0
  · rw [set_at _ _ _ _ (by omega), set_at _ _ _ _ (by omega)]; exact h.c1
  · intro j h1 h2
    rw [List.length_append, List.length_singleton] at h1 h2
    have hj : j % 32768 < 32768 := Nat.mod_lt _ (by decide)
    rw [set_at _ _ _ _ (by omega)]
    by_cases hl : j = out.length
    · subst hl
      rw [set_here _ _ _ (by omega)]
      simp
    · rw [set_at _ _ _ _ (by omega), h.last j (by omega) (by omega)]
      simp only [List.getD_eq_getElem?_getD]
      rw [List.getElem?_append_left (by omega)]
  · rw [set_here _ _ _ (by rw [Array.size_setIfInBounds]; omega), List.length_append, List.length_singleton]
    rw [show ((out.length + 1 : Nat) : Int) = (out.length : Int) + 1 from by omega]
  · rw [set_at _ _ _ _ (by omega), set_at _ _ _ _ (by omega)]; exact h.c4
  · rw [set_at _ _ _ _ (by omega), set_at _ _ _ _ (by omega)]; exact h.c5

theorem RdrC.keeps {cs : Array Value} {qb : Nat} {fx : Value} {out : List Nat} {kv : Value} {keep : Nat} (h : RdrC cs qb fx out kv keep) (kv' : Value) : RdrC (cs.setIfInBounds 32771 kv') qb fx out kv' keep := by
  have hz := h.size
  refine ⟨by rw [Array.size_setIfInBounds]; exact hz, ?_, ?_, ?_, ?_, ?_, ?_⟩
  · rw [set_at _ _ _ _ (by omega)]; exact h.c0
  · rw [set_at _ _ _ _ (by omega)]; exact h.c1
  · intro j h1 h2
    have hj : j % 32768 < 32768 := Nat.mod_lt _ (by decide)
    rw [set_at _ _ _ _ (by omega)]; exact h.last j h1 h2
  · rw [set_at _ _ _ _ (by omega)]; exact h.c3
  · rw [set_here _ _ _ (by omega)]
  · rw [set_at _ _ _ _ (by omega)]; exact h.c5

theorem RdrC.fixes {cs : Array Value} {qb : Nat} {fx : Value} {out : List Nat} {kv : Value} {keep : Nat} (h : RdrC cs qb fx out kv keep) (fx' : Value) : RdrC (cs.setIfInBounds 1 fx') qb fx' out kv keep := by
  have hz := h.size
  refine ⟨by rw [Array.size_setIfInBounds]; exact hz, ?_, ?_, ?_, ?_, ?_, ?_⟩
  · rw [set_at _ _ _ _ (by omega)]; exact h.c0
  · rw [set_here _ _ _ (by omega)]
  · intro j h1 h2
    have hj : j % 32768 < 32768 := Nat.mod_lt _ (by decide)
    rw [set_at _ _ _ _ (by omega)]; exact h.last j h1 h2
  · rw [set_at _ _ _ _ (by omega)]; exact h.c3
  · rw [set_at _ _ _ _ (by omega)]; exact h.c4
  · rw [set_at _ _ _ _ (by omega)]; exact h.c5

def rdrT (rb qb : Nat) (fx : Value) (out : List Nat) (kv : Value) (keep : Nat) : Thing where
  holds w S := (∃ cs, RdrC cs qb fx out kv keep ∧ w.heap[rb]? = some (.cells cs 56 (0, 0))) ∧ ∀ k, S k ↔ k = rb
  keep := by
    rintro w w' S T ⟨⟨cs, h0, h1⟩, h2⟩ ho hd
    exact ⟨⟨cs, h0, ho.at h1 (hd rb ((h2 rb).2 rfl))⟩, h2⟩
  lt := by
    rintro w S k ⟨⟨cs, h0, h1⟩, h2⟩ hk
    obtain rfl := (h2 k).1 hk
    exact lt_of_block h1

section
variable {B : Nat} {w0 w : World} {r : List Thing} {rb qb : Nat} {fx kv : Value} {out xs : List Nat} {keep p : Nat}

theorem rdr_open (st : St B w0 w (rdrT rb qb fx out kv keep :: r)) : ∃ cs, RdrC cs qb fx out kv keep ∧ St B w0 w (boxT rb cs 56 :: r) := by
  obtain ⟨S1, ⟨⟨cs, h0, h1⟩, h2⟩, h3, h4⟩ := st.sep
  exact ⟨cs, h0, st.only, st.size, S1, ⟨h1, h2⟩, h3, h4⟩

theorem rdr_shut {cs : Array Value} (hC : RdrC cs qb fx out kv keep) (st : St B w0 w (boxT rb cs 56 :: r)) : St B w0 w (rdrT rb qb fx out kv keep :: r) := by
  obtain ⟨S1, ⟨h1, h2⟩, h3, h4⟩ := st.sep
  exact ⟨st.only, st.size, S1, ⟨⟨cs, hC, h1⟩, h2⟩, h3, h4⟩

theorem rdr_at (st : St B w0 w (rdrT rb qb fx out kv keep :: r)) : w.cell? ⟨rb, 0, none⟩ = some (.pointer (some ⟨qb, 0, none⟩)) ∧ w.cell? ⟨rb, 1, none⟩ = some fx ∧ w.cell? ⟨rb, 32770, none⟩ = some (.int .i64 (out.length : Int)) ∧
    w.cell? ⟨rb, 32771, none⟩ = some kv ∧ w.cell? ⟨rb, 32772, none⟩ = some (.int .i64 (keep : Int)) := by
  obtain ⟨cs, hC, s⟩ := rdr_open st
  exact ⟨(s.boxAt 0).1.trans hC.c0, (s.boxAt 1).1.trans hC.c1, (s.boxAt 32770).1.trans hC.c3, (s.boxAt 32771).1.trans hC.c4, (s.boxAt 32772).1.trans hC.c5⟩

theorem rdr_last (st : St B w0 w (rdrT rb qb fx out kv keep :: r)) (j : Nat) (h1 : out.length ≤ j + 32768) (h2 : j < out.length) : w.cell? ⟨rb, 2 + j % 32768, none⟩ = some (.int .u8 (out.getD j 0 : Int)) := by
  obtain ⟨cs, hC, s⟩ := rdr_open st
  exact (s.boxAt _).1.trans (hC.last j h1 h2)

theorem rdr_fixes (st : St B w0 w (rdrT rb qb fx out kv keep :: r)) (fx' : Value) : St B w0 (w.setCell ⟨rb, 1, none⟩ fx') (rdrT rb qb fx' out kv keep :: r) ∧ w.frozen? ⟨rb, 1, none⟩ = false := by
  obtain ⟨cs, hC, s⟩ := rdr_open st
  exact ⟨rdr_shut (hC.fixes fx') (s.setBoxAt 1 fx'), (s.boxAt 1).2⟩

structure Rst (B : Nat) (w0 w : World) (r : List Thing) (rb qb : Nat) (fx : Value) (keep : Nat) (xs : List Nat) (p : Nat) (out : List Nat) : Prop where
  st : ∃ oa oc, St B w0 w (rdrT rb qb fx out (.slice oa (out.take keep).length oc) keep :: rowT 5 1 (.slice oa (out.take keep).length oc) (out.take keep).length (u8s (out.take keep)) :: rdT qb xs p :: r)

theorem Rst.rest (h : Rst B w0 w r rb qb fx keep xs p out) : St B w0 w r := by
  obtain ⟨oa, oc, st⟩ := h.st
  exact st.drop.drop.drop
theorem Rst.drewN (h : Rst B w0 w r rb qb fx keep xs p out) (n : Nat) : Rst B w0 (w.drewN n) r rb qb fx keep xs p out := by
  obtain ⟨oa, oc, st⟩ := h.st
  exact ⟨oa, oc, st.drewN n⟩
theorem Rst.drew (h : Rst B w0 w r rb qb fx keep xs p out) : Rst B w0 w.drew r rb qb fx keep xs p out := by
  obtain ⟨oa, oc, st⟩ := h.st
  exact ⟨oa, oc, st.drew⟩
theorem Rst.quiet {w' : World} (h : Rst B w0 w r rb qb fx keep xs p out) (hb : Below w.heap.size w w') : Rst B w0 w' r rb qb fx keep xs p out := by
  obtain ⟨oa, oc, st⟩ := h.st
  exact ⟨oa, oc, st.quiet hb⟩
theorem Rst.cells (h : Rst B w0 w r rb qb fx keep xs p out) : w.cell? ⟨rb, 0, none⟩ = some (.pointer (some ⟨qb, 0, none⟩)) ∧ w.cell? ⟨rb, 1, none⟩ = some fx ∧ w.cell? ⟨rb, 32770, none⟩ = some (.int .i64 (out.length : Int)) := by
  obtain ⟨oa, oc, st⟩ := h.st
  obtain ⟨h1, h2, h3, _⟩ := rdr_at st
  exact ⟨h1, h2, h3⟩
theorem Rst.place (h : Rst B w0 w r rb qb fx keep xs p out) : p ≤ 8 * xs.length := by
  obtain ⟨oa, oc, st⟩ := h.st
  obtain ⟨v, hv⟩ := St.rd (st.front 2)
  exact hv.place
theorem Rst.of {A : Thing} {oa : Option Addr} {oc : Nat} (s : St B w0 w (A :: rdrT rb qb fx out (.slice oa (out.take keep).length oc) keep :: rowT 5 1 (.slice oa (out.take keep).length oc) (out.take keep).length (u8s (out.take keep)) :: rdT qb xs p :: r)) : Rst B w0 w (A :: r) rb qb fx keep xs p out :=
  ⟨oa, oc, ((s.front 3).front 3).front 3⟩
theorem Rst.dropR {A : Thing} (h : Rst B w0 w (A :: r) rb qb fx keep xs p out) : Rst B w0 w r rb qb fx keep xs p out := by
  obtain ⟨oa, oc, st⟩ := h.st
  exact ⟨oa, oc, (st.front 3).drop⟩
theorem Rst.swapR {A C : Thing} (h : Rst B w0 w (A :: C :: r) rb qb fx keep xs p out) : Rst B w0 w (C :: A :: r) rb qb fx keep xs p out := by
  obtain ⟨oa, oc, st⟩ := h.st
  exact Rst.of (A := C) (r := A :: r) (oa := oa) (oc := oc) (st.front 4)

theorem Rst.frontR {l : List Thing} (n : Nat) (h : Rst B w0 w l rb qb fx keep xs p out) : Rst B w0 w (toFront n l) rb qb fx keep xs p out := by
  obtain ⟨oa, oc, st⟩ := h.st
  exact ⟨oa, oc, st.only, st.size, Sep.under (fun _ h => Sep.under (fun _ h => Sep.under (fun _ h => Sep.front n _ _ h) h) h) st.sep⟩
theorem Rst.at1 (h : Rst B w0 w r rb qb fx keep xs p out) : w.cell? ⟨qb, 1, none⟩ = some (.int .i64 (p : Int)) := by
  obtain ⟨oa, oc, st⟩ := h.st
  obtain ⟨v, hv⟩ := St.rd (st.front 2)
  exact (cell_two hv.head).2.1
theorem Rst.boxR {b : Nat} {cs : Array Value} {t : TypeId} (h : Rst B w0 w (boxT b cs t :: r) rb qb fx keep xs p out) (j : Nat) : w.cell? ⟨b, j, none⟩ = cs[j]? := (h.rest.boxAt j).1


theorem need10_yes (w : World) : Calls Tryz.prog 56 #[.bool true] w fun e w' => e = .returned (.tuple #[]) ∧ w = w' := by
  go_enter Tryz.func56, Tryz.ntmps56
  go_wp2
  go_end0
  exact ⟨rfl, rfl⟩

theorem need10_no (w : World) : Calls Tryz.prog 56 #[.bool false] w fun e w' => e = .panicked oops ∧ w = w' := by
  go_enter Tryz.func56, Tryz.ntmps56
  go_wp2
  exact ⟨rfl, rfl, rfl⟩


set_option maxRecDepth 100000 in
theorem rnumber_ok (h : Rst B w0 w r rb qb fx keep xs p out) (n : Nat) (hn : n ≤ 32) (hp : p + n ≤ 8 * xs.length) :
    Calls Tryz.prog 36 #[.pointer (some ⟨rb, 0, none⟩), .int .i64 (n : Int)] w fun e w' => e = .returned (.int .i64 (nm (row xs) p n : Int)) ∧ Rst B w0 w' r rb qb fx keep xs (p + n) out := by
  have c0 := h.cells.1
  obtain ⟨oa, oc, st⟩ := h.st
  have hg := get_st (st.front 2) n hn hp
  rw [← nm_row xs p n hp] at hg
  have hx : nm (row xs) p n < 4294967296 := Nat.lt_of_lt_of_le (nm_lt (row xs) p n) (Nat.pow_le_pow_right (n := 2) (by omega) hn)
  generalize nm (row xs) p n = x at hg hx ⊢
  go_enter Tryz.func36, Tryz.ntmps36
  go_wp2_with (go_at_call 55; refine hg.mono ?_; rintro e w1 ⟨rfl, s1⟩)
  go_wp2_with (go_at_call 56; refine (need10_yes _).mono ?_; rintro e w2 ⟨rfl, rfl⟩)
  go_ret
  exact ⟨rfl, oa, oc, (s1.front 2).front 2⟩

set_option maxRecDepth 100000 in
theorem rnumber_no (h : Rst B w0 w r rb qb fx keep xs p out) (n : Nat) (hn : n ≤ 32) (hp : 8 * xs.length < p + n) :
    Calls Tryz.prog 36 #[.pointer (some ⟨rb, 0, none⟩), .int .i64 (n : Int)] w fun e w' => e = .panicked oops ∧ St B w0 w' r := by
  have c0 := h.cells.1
  obtain ⟨oa, oc, st⟩ := h.st
  have hg := getform_st (st.front 2) n hn hp
  go_enter Tryz.func36, Tryz.ntmps36
  go_wp2_with (go_at_call 55; refine hg.mono ?_; rintro e w1 ⟨rfl, s1⟩)
  go_wp2_with (go_at_call 56; refine (need10_no _).mono ?_; rintro e w2 ⟨rfl, rfl⟩)
  exact ⟨rfl, rfl, s1.drop.drop.drop⟩


theorem got_sym (L xs : List Nat) (p : Nat) : Low.got L xs p = seek (tab L L.length) 0 0 ((row xs).drop p) := by
  unfold Low.got row
  rw [drop_rest]

theorem sym_got {L xs : List Nat} {p c p' : Nat} (h : symAt L (row xs) p = some (c, p')) : Low.got L xs p = (p' - p, (c : Int), 0) := by
  rw [got_sym]
  have hlt := symAt_le h
  unfold symAt at h
  split at h
  · cases h
  · rename_i h0
    obtain ⟨k, _, _, h5⟩ := seek_in (L := L) _ (tab_in L) ((row xs).drop p) 0 0 (by omega)
    obtain ⟨h1, h2⟩ := Prod.mk.inj (Option.some.inj h)
    rw [h5, Int.toNat_natCast] at h1
    refine Prod.ext (by simp only; omega) (Prod.ext ?_ ?_)
    · rw [h5, h1]
    · simp only at h0 ⊢; omega

theorem sym_none {L xs : List Nat} {p : Nat} (h : symAt L (row xs) p = none) : (Low.got L xs p).2.2 ≠ 0 := by
  rw [got_sym]
  unfold symAt at h
  split at h
  · rename_i h0; exact h0
  · cases h

set_option maxRecDepth 100000 in
theorem rsymbol_st {tb : Nat} {L : List Nat} (h : Rst B w0 w (tblL tb L :: r) rb qb fx keep xs p out) (h20 : ∀ j, len L j ≤ 20) :
    Calls Tryz.prog 115 #[.pointer (some ⟨rb, 0, none⟩), .pointer (some ⟨tb, 0, none⟩)] w fun e w' =>
      match symAt L (row xs) p with
      | some (c, p') => e = .returned (.int .i64 (c : Int)) ∧ Rst B w0 w' (tblL tb L :: r) rb qb fx keep xs p' out
      | none => e = .panicked oops ∧ St B w0 w' (tblL tb L :: r) := by
  have c0 := h.cells.1
  obtain ⟨oa, oc, st⟩ := h.st
  have hg := Low.tget_st ((st.front 3).front 3) h20
  cases hs : symAt L (row xs) p with
  | none =>
    have hne := sym_none hs
    generalize Low.got L xs p = X at hg hne
    obtain ⟨k, s, er⟩ := X
    simp only at hg hne ⊢
    have h0 : ((er : Int) == 0) = false := by rw [beq_eq_false_iff_ne]; omega
    clear hs
    go_enter Tryz.func115, Tryz.ntmps115
    go_wp2_with (go_at_call 136; refine hg.mono ?_; rintro e w1 ⟨rfl, s1⟩)
    go_wp2_with (go_at_call 56; refine (need10_no _).mono ?_; rintro e w2 ⟨rfl, rfl⟩)
    exact ⟨rfl, rfl, ((s1.drop.front 1).drop.front 1).drop⟩
  | some y =>
    obtain ⟨c, p'⟩ := y
    have hlt := symAt_le hs
    rw [sym_got hs] at hg
    simp only at hg ⊢
    rw [show p + (p' - p) = p' from by omega] at hg
    clear hs hlt
    go_enter Tryz.func115, Tryz.ntmps115
    go_wp2_with (go_at_call 136; refine hg.mono ?_; rintro e w1 ⟨rfl, s1⟩)
    go_wp2_with (go_at_call 56; refine (need10_yes _).mono ?_; rintro e w2 ⟨rfl, rfl⟩)
    go_ret
    exact ⟨rfl, oa, oc, (s1.front 3).front 3⟩

set_option maxRecDepth 100000 in
theorem ramong_no (h : Rst B w0 w r rb qb fx keep xs p out) (least bts : Int) (er : Nat) (he : er ≠ 0) :
    Calls Tryz.prog 116 #[.pointer (some ⟨rb, 0, none⟩), .int .i64 least, .int .i64 bts, .int .i64 (er : Int)] w fun e w' => e = .panicked oops ∧ St B w0 w' r := by
  have h0 : ((er : Int) == 0) = false := by rw [beq_eq_false_iff_ne]; omega
  have st := h.rest
  go_enter Tryz.func116, Tryz.ntmps116
  go_wp2_with (go_at_call 56; refine (need10_no _).mono ?_; rintro e w2 ⟨rfl, rfl⟩)
  exact ⟨rfl, rfl, st⟩

set_option maxRecDepth 100000 in
theorem ramong_st (h : Rst B w0 w r rb qb fx keep xs p out) (least n : Nat) (hn : n ≤ 32) (hl : least ≤ 100000) :
    Calls Tryz.prog 116 #[.pointer (some ⟨rb, 0, none⟩), .int .i64 (least : Int), .int .i64 (n : Int), .int .i64 0] w fun e w' =>
      match numAt (row xs) p n with
      | some (x, p') => e = .returned (.int .i64 ((least + x : Nat) : Int)) ∧ Rst B w0 w' r rb qb fx keep xs p' out
      | none => e = .panicked oops ∧ St B w0 w' r := by
  unfold numAt
  rw [row_length]
  by_cases hp : 8 * xs.length < p + n
  · rw [if_pos hp]
    simp only
    have hno := rnumber_no h n hn hp
    go_enter Tryz.func116, Tryz.ntmps116
    go_wp2_with (first | (go_at_call 56; refine (need10_yes _).mono ?_; rintro e w2 ⟨rfl, rfl⟩) | (go_at_call 36; refine hno.mono ?_; rintro e w2 ⟨rfl, s2⟩))
    exact ⟨rfl, rfl, s2⟩
  · rw [if_neg hp]
    simp only
    have hok := rnumber_ok h n hn (by omega)
    have hx : nm (row xs) p n < 4294967296 := Nat.lt_of_lt_of_le (nm_lt (row xs) p n) (Nat.pow_le_pow_right (n := 2) (by omega) hn)
    generalize nm (row xs) p n = x at hok hx ⊢
    obtain ⟨s, hs⟩ : ∃ s, least + x = s := ⟨_, rfl⟩
    have hs2 : (least : Int) + (x : Int) = (s : Int) := by omega
    rw [hs]
    clear hp hs
    go_enter Tryz.func116, Tryz.ntmps116
    go_wp2_with (first | (go_at_call 56; refine (need10_yes _).mono ?_; rintro e w2 ⟨rfl, rfl⟩) | (go_at_call 36; refine hok.mono ?_; rintro e w2 ⟨rfl, s2⟩))
    go_ret
    exact ⟨by first | rfl | (rw [hs2]), s2⟩


set_option maxRecDepth 100000 in
set_option maxHeartbeats 2000000 in
theorem say_st (h : Rst B w0 w r rb qb fx keep xs p out) (c : Nat) (hk : keep ≤ 1000000) (ho : out.length ≤ 1000000000) :
    Calls Tryz.prog 80 #[.pointer (some ⟨rb, 0, none⟩), .int .u8 (c : Int)] w fun e w' => e = .returned (.tuple #[]) ∧ Rst B w0 w' r rb qb fx keep xs p (out ++ [c]) := by
  obtain ⟨oa, oc, st⟩ := h.st
  obtain ⟨cs, hC, s0⟩ := rdr_open st
  obtain ⟨i0, hi, hz0, hz1, hz2⟩ := info_parts info8
  have hC2 := hC.said c
  obtain ⟨m, hm, hm1⟩ : ∃ m, out.length % 32768 = m ∧ m < 32768 := ⟨_, rfl, Nat.mod_lt _ (by decide)⟩
  rw [hm] at hC2
  have hml : (out.take keep).length ≤ 1000000 := by rw [List.length_take]; omega
  have c3 := (s0.boxAt 32770).1.trans hC.c3
  have f0 := (s0.boxAt (2 + m)).2
  obtain ⟨old, cold⟩ : ∃ u, w.cell? ⟨rb, 2 + m, none⟩ = some u := ⟨cs[2 + m]'(by rw [hC.size]; omega), by rw [(s0.boxAt _).1, Array.getElem?_eq_getElem]⟩
  have hd1 : (cs.setIfInBounds (2 + m) (.int .u8 (c : Int)))[32770]? = some (.int .i64 (out.length : Int)) := by rw [set_at _ _ _ _ (by omega)]; exact hC.c3
  have hmz : (out.length : Int) % 32768 = (m : Int) := by omega
  have hmt : (out.length : Int).tmod 32768 = (m : Int) := by rw [Int.tmod_eq_emod_of_nonneg (by omega)]; exact hmz
  have s1 := (s0.setBoxAt (2 + m) (.int .u8 (c : Int))).drew
  have hfin0 : ¬ out.length < keep → ∀ W, St B w0 W (boxT rb ((cs.setIfInBounds (2 + m) (.int .u8 (c : Int))).setIfInBounds 32770 (.int .i64 ((out.length : Int) + 1))) 56 :: rowT 5 1 (.slice oa (out.take keep).length oc) (out.take keep).length (u8s (out.take keep)) :: rdT qb xs p :: r) → Rst B w0 W r rb qb fx keep xs p (out ++ [c]) := fun hge W s => ⟨oa, oc, by
    have htake : (out ++ [c]).take keep = out.take keep := List.take_append_of_le_length (by omega)
    have := rdr_shut hC2 s
    rw [htake]
    exact this⟩
  have hfin1 : out.length < keep → ∀ W oa' oc', St B w0 W (boxT rb (((cs.setIfInBounds (2 + m) (.int .u8 (c : Int))).setIfInBounds 32770 (.int .i64 ((out.length : Int) + 1))).setIfInBounds 32771 (.slice oa' ((out.take keep).length + 1) oc')) 56 :: rowT 5 1 (.slice oa' ((out.take keep).length + 1) oc') ((out.take keep).length + 1) (u8s (out.take keep) ++ [.int .u8 (c : Int)]) :: rdT qb xs p :: r) → Rst B w0 W r rb qb fx keep xs p (out ++ [c]) := fun hlt W oa' oc' s => ⟨oa', oc', by
    have htake : (out ++ [c]).take keep = out.take keep ++ [c] := by
      rw [List.take_append, List.take_of_length_le (by omega : out.length ≤ keep)]
      congr 1
      exact List.take_of_length_le (by simp; omega)
    have := rdr_shut (hC2.keeps (.slice oa' ((out.take keep).length + 1) oc')) s
    rw [htake, List.length_append, List.length_singleton, u8s_append]
    exact this⟩
  have hlen : out.length < keep ↔ (out.take keep).length < keep := by rw [List.length_take]; omega
  rw [hlen] at hfin0 hfin1
  have hd2 := hC2.c4
  have hd3 := hC2.c5
  have HF0 := Lib.hid hfin0
  have HF1 := Lib.hid hfin1
  clear hfin0 hfin1 hC2 hC st s0 h hlen hm
  generalize u8s (out.take keep) = us at *
  generalize (out.take keep).length = y at *
  generalize out.length = z at *
  generalize cs.setIfInBounds (2 + m) (.int .u8 (c : Int)) = cs1 at *
  go_enter Tryz.func80, Tryz.ntmps80
  go_wp2
  go_region
  clear c3 cold f0 hmz hmt
  generalize ((w.setCell ⟨rb, 2 + m, none⟩ (.int .u8 (c : Int))).drew) = w1 at s1 ⊢
  have d3 := (s1.boxAt 32770).1.trans hd1
  have g3 := (s1.boxAt 32770).2
  have s2 := s1.setBoxAt 32770 (.int .i64 ((z : Int) + 1))
  have e4 := (s2.boxAt 32771).1.trans hd2
  have e5 := (s2.boxAt 32772).1.trans hd3
  have k4 := (s2.boxAt 32771).2
  clear s1 hd1 hd2 hd3
  generalize cs1.setIfInBounds 32770 (.int .i64 ((z : Int) + 1)) = cs2 at *
  by_cases hlt : y < keep
  · have hfin := HF1.out hlt
    have HF := Lib.hid hfin
    have HA := Lib.hid (fun k => (s2.drewN k).swap)
    have HZ := Lib.hid (fun k => (show ((w1.setCell ⟨rb, 32770, none⟩ (.int .i64 ((z : Int) + 1))).drewN k).heap.size = w1.heap.size from by simp [World.drewN]))
    clear hfin HF0 HF1
    go_wp2
    go_quiet (fail)
    go_wp2_with (at_builtin; refine wpList_append_one rfl _ _ 26 rfl 5 i0 (.int .u8 0) 1 1 Tryz.underlying26 hi hz0 hz1 hz2 rfl (by decide) (HA.out _) rfl [.int .u8 (c : Int)] (by rw [HZ.out]; rfl) rfl (by simp [Value.oneCell']) (by unfold maxLen; omega) (by omega) ?_)
    intro v' w2 s3
    obtain ⟨oa', oc', rfl⟩ := ownsRow_slice s3.row
    have q4 := (s3.swap.boxAt 32771).2
    have q3 : ∃ u, w2.cell? ⟨rb, 32771, none⟩ = some u := by
      rw [(s3.swap.boxAt 32771).1]
      exact ⟨_, ((s2.boxAt 32771).1.symm.trans e4)⟩
    obtain ⟨u, q3⟩ := q3
    have hfin := HF.out _ oa' oc' (s3.swap.setBoxAt 32771 _)
    clear HF HA s2 s3 d3 g3 e4 e5 k4
    go_wp2
    go_end0
    exact ⟨rfl, hfin⟩
  · have hfin := fun k => HF0.out hlt _ (s2.drewN k)
    have HF := Lib.hid hfin
    clear hfin HF0 HF1
    go_wp2
    go_quiet (fail)
    go_wp2
    go_end0
    exact ⟨rfl, HF.out _⟩

end
end Go.Proofs.YtpinfihmageeoaaGreat.Inf

namespace Go.Proofs.YtpinfihmageeoaaGreat.Inf
open Go.RowKit Kraft Hd

section
variable {B : Nat} {w0 w : World} {r : List Thing} {rb qb : Nat} {fx kv : Value} {out xs : List Nat} {keep p : Nat}

theorem Rst.byteAt (h : Rst B w0 w r rb qb fx keep xs p out) (j : Nat) (h1 : out.length ≤ j + 32768) (h2 : j < out.length) : w.cell? ⟨rb, 2 + j % 32768, none⟩ = some (.int .u8 (out.getD j 0 : Int)) := by
  obtain ⟨oa, oc, st⟩ := h.st
  exact rdr_last st j h1 h2

set_option maxRecDepth 100000 in
set_option maxHeartbeats 2000000 in
theorem rrepeat_no (h : Rst B w0 w r rb qb fx keep xs p out) (n : Int) (far : Nat) (hf : out.length < far) :
    Calls Tryz.prog 119 #[.pointer (some ⟨rb, 0, none⟩), .int .i64 n, .int .i64 (far : Int)] w fun e w' => e = .panicked oops ∧ St B w0 w' r := by
  have st := h.rest
  have c3 := h.cells.2.2
  generalize out.length = z at *
  have hd1 : ¬ far ≤ z := by omega
  have hd2 : decide (far ≤ z) = false := decide_eq_false hd1
  go_enter Tryz.func119, Tryz.ntmps119
  go_wp2_with (go_at_call 56; refine (need10_no _).mono ?_; rintro e w2 ⟨rfl, rfl⟩)
  exact ⟨rfl, rfl, st⟩

set_option maxRecDepth 100000 in
set_option maxHeartbeats 2000000 in
theorem rrepeat_st (h : Rst B w0 w r rb qb fx keep xs p out) (n far : Nat) (hf0 : 1 ≤ far) (hf : far ≤ out.length) (hf2 : far ≤ 32768) (hn : n ≤ 258) (hk : keep ≤ 1000000) (ho : out.length ≤ 600000000) :
    Calls Tryz.prog 119 #[.pointer (some ⟨rb, 0, none⟩), .int .i64 (n : Int), .int .i64 (far : Int)] w fun e w' => e = .returned (.tuple #[]) ∧ Rst B w0 w' r rb qb fx keep xs p (Tok.rep far n out) := by
  have c3 := h.cells.2.2
  obtain ⟨z, hz⟩ : ∃ z, out.length = z := ⟨_, rfl⟩
  rw [hz] at hf ho c3
  have HZ := Lib.hid hz
  clear hz
  go_enter Tryz.func119, Tryz.ntmps119
  go_wp2_with (go_at_call 56; refine (need10_yes _).mono ?_; rintro e w2 ⟨rfl, rfl⟩)
  go_loopw [14] (fun i wr => ∃ k : Nat, k ≤ n ∧ i = .int .i64 (k : Int) ∧ Rst B w0 wr r rb qb fx keep xs p (Tok.rep far k out)) (fun i _ => n - (intOf i).toNat)
  case atStart => exact ⟨0, Nat.zero_le _, rfl, h⟩
  case round =>
    clear h c3
    obtain ⟨k, hkn, rfl, h1⟩ := hrel
    by_cases hkl : k < n
    · have hl : (Tok.rep far k out).length = z + k := by rw [Tok.rep_length, HZ.out]
      have hmore := Tok.rep_more far k out
      generalize Tok.rep far k out = ok at *
      have c3 := h1.cells.2.2
      have hb := h1.byteAt (ok.length - far) (by omega) (by omega)
      have hsay := fun n x => say_st (h1.drewN n) x hk (by omega)
      obtain ⟨x, hx⟩ : ∃ x, ok.getD (ok.length - far) 0 = x := ⟨_, rfl⟩
      rw [hx] at hmore hb
      have HM := Lib.hid hmore
      have hfl : far ≤ ok.length := by omega
      have hol : ok.length ≤ 600001000 := by omega
      obtain ⟨j, hj⟩ : ∃ j, ok.length - far = j := ⟨_, rfl⟩
      obtain ⟨m, hm, hm1⟩ : ∃ m, j % 32768 = m ∧ m < 32768 := ⟨_, rfl, Nat.mod_lt _ (by decide)⟩
      rw [hj, hm] at hb
      have hj2 : (ok.length : Int) - (far : Int) = (j : Int) := by omega
      have hm2 : (j : Int) % 32768 = (m : Int) := by omega
      have hm3 : (j : Int).tmod 32768 = (m : Int) := by rw [Int.tmod_eq_emod_of_nonneg (by omega)]; exact hm2
      have hjl : j ≤ 600001000 := by omega
      clear hx hmore hl hj hm
      generalize ok.length = zk at *
      have hwj : IntKind.i64.wrap ((zk : Int) - (far : Int)) = (j : Int) := by rw [hj2]; exact IntWalk.i64_in _ (by omega)
      have hwk : IntKind.i64.wrap (j : Int) = (j : Int) := IntWalk.i64_in _ (by omega)
      have hm4 : (m : Int) < 32768 := by omega
      clear hjl hol hwj
      go_wp2

      go_region_with (go_at_call 80; refine (hsay _ x).mono ?_; rintro e w3 ⟨rfl, h2⟩)
      all_goals
        go_wp2
        refine ⟨⟨k + 1, by omega, by go_num, by rw [HM.out]; exact h2⟩, by simp [intOf]; omega⟩
    · obtain rfl : k = n := by omega
      go_wp2
      go_end0
      exact ⟨rfl, h1⟩

theorem lenOf_in (c : Nat) (h1 : 256 < c) (h2 : c ≤ 285) : Tok.lenOfAns (c : Int) = (lenL c, lenB c, 0) := by
  unfold Tok.lenOfAns Tok.ansOf lenL lenB
  rw [if_neg (by rw [Tok.lenS_length]; omega), Int.toNat_natCast]
theorem lenOf_out (c : Nat) (h2 : 285 < c) : Tok.lenOfAns (c : Int) = (0, 0, 5) := Tok.ansOf_out _ _ _ (.inr (by rw [Tok.lenS_length]; omega))
theorem disOf_in (d : Nat) (h2 : d ≤ 29) : Tok.disOfAns (d : Int) = (disL d, disB d, 0) := by
  unfold Tok.disOfAns Tok.ansOf disL disB
  rw [if_neg (by rw [Tok.disS_length]; omega), Int.toNat_natCast, Nat.sub_zero]
theorem disOf_out (d : Nat) (h2 : 29 < d) : Tok.disOfAns (d : Int) = (0, 0, 5) := Tok.ansOf_out _ _ _ (.inr (by rw [Tok.disS_length]; omega))

def Said10 (B : Nat) (w0 : World) (r : List Thing) (rb qb : Nat) (fx : Value) (keep : Nat) (xs : List Nat) (x : Option (Nat × List Nat)) (e : Ending) (w' : World) : Prop :=
  match x with
  | none => e = .panicked oops ∧ St B w0 w' r
  | some (q, o) => e = .returned (.tuple #[]) ∧ Rst B w0 w' r rb qb fx keep xs q o

abbrev pairC (ta tb : Nat) : Array Value := #[.pointer (some ⟨ta, 0, none⟩), .pointer (some ⟨tb, 0, none⟩)]

set_option maxRecDepth 100000 in
set_option maxHeartbeats 4000000 in
theorem symbols_st {cb ta tb : Nat} {P Q : List Nat} (h : Rst B w0 w (boxT cb (pairC ta tb) 161 :: tblL ta P :: tblL tb Q :: r) rb qb fx keep xs p out) (hk : keep ≤ 1000000) (ho : out.length + 258 * (row xs).length ≤ 500000000)
    (hP : wordsErr P = 0) (hQ : wordsErr Q = 0) :
    Calls Tryz.prog 83 #[.pointer (some ⟨rb, 0, none⟩), .pointer (some ⟨cb, 0, none⟩)] w (Said10 B w0 (boxT cb (pairC ta tb) 161 :: tblL ta P :: tblL tb Q :: r) rb qb fx keep xs (syms P Q (row xs) p out)) := by
  obtain ⟨X, hXX⟩ : ∃ X, syms P Q (row xs) p out = X := ⟨_, rfl⟩
  rw [hXX]
  have HXX := Lib.hid hXX
  clear hXX
  have hP20 := len_le_of (wordsErr_ok hP).1
  have hQ20 := len_le_of (wordsErr_ok hQ).1
  have hp := h.place
  rw [← row_length] at hp
  have hbad : ∀ W, X = none → St B w0 W (boxT cb (pairC ta tb) 161 :: tblL ta P :: tblL tb Q :: r) → Said10 B w0 (boxT cb (pairC ta tb) 161 :: tblL ta P :: tblL tb Q :: r) rb qb fx keep xs X (.panicked oops) W := fun W hX s => by rw [hX]; exact ⟨rfl, s⟩
  have HBAD := Lib.hid hbad
  clear hbad
  go_enter Tryz.func83, Tryz.ntmps83
  go_wp2
  go_loopw [4, 5, 6] (fun _ _ _ wr => ∃ q o, p ≤ q ∧ q ≤ (row xs).length ∧ Hid (syms P Q (row xs) q o = X) ∧ o.length ≤ out.length + 258 * (q - p) ∧ Rst B w0 wr (boxT cb (pairC ta tb) 161 :: tblL ta P :: tblL tb Q :: r) rb qb fx keep xs q o) (fun _ _ _ wr => match wr.cell? ⟨qb, 1, none⟩ with | some v => (row xs).length - (intOf v).toNat | none => 0)
  case atStart => exact ⟨p, out, Nat.le_refl _, hp, HXX, by omega, h⟩
  case round =>
    clear h
    obtain ⟨q, o, hq1, hq2, HS, hol, h1⟩ := hrel
    have hm2 := h1.at1
    have c0 := h1.boxR 0
    replace c0 : wr.cell? ⟨cb, 0, none⟩ = some (.pointer (some ⟨ta, 0, none⟩)) := c0
    have hc := rsymbol_st (h1.frontR 1) hP20
    cases hs : symAt P (row xs) q with
    | none =>
      rw [hs] at hc
      simp only at hc
      have hX : X = none := by rw [← HS.out]; exact syms_none (step_bad hs)
      have HX := Lib.hid hX
      clear hX hs h1 hm2
      go_wp2_with (go_at_call 115; refine hc.mono ?_; rintro e w3 ⟨rfl, s3⟩)
      exact ⟨rfl, HBAD.out _ HX.out (s3.front 1)⟩
    | some cc =>
      obtain ⟨c, q'⟩ := cc
      rw [hs] at hc
      simp only at hc
      obtain ⟨hqq, hqR⟩ := symAt_le hs
      have hlt : q < (row xs).length := by omega
      by_cases c1 : c = 256
      · subst c1
        have hX : X = some (q', o) := by rw [← HS.out]; exact syms_end hlt (step_eob hs)
        have HX := Lib.hid hX
        clear hX hs h1 hm2
        go_wp2_with (go_at_call 115; refine hc.mono ?_; rintro e w3 ⟨rfl, s3⟩)
        have hfin : Said10 B w0 (boxT cb (pairC ta tb) 161 :: tblL ta P :: tblL tb Q :: r) rb qb fx keep xs X (.returned (.tuple #[])) w3 := by rw [HX.out]; exact ⟨rfl, s3.swapR⟩
        clear hc s3
        refine bodyPost_ret (results_none rfl _ _ _) rfl ?_
        exact hfin
      · have ne256 : ((c : Int) == 256) = false := by rw [beq_eq_false_iff_ne]; omega
        by_cases c2 : c < 256
        · have hX : syms P Q (row xs) q' (o ++ [c]) = X := by rw [← HS.out]; exact (syms_on hlt (step_lit hs c2)).symm
          have HX := Lib.hid hX
          clear hX hs h1
          have hsay := fun W (s : Rst B w0 W (boxT cb (pairC ta tb) 161 :: tblL ta P :: tblL tb Q :: r) rb qb fx keep xs q' o) => say_st s c hk (by omega)
          go_wp2_with (go_at_call 115; refine hc.mono ?_; rintro e w3 ⟨rfl, s3⟩)
          have hsay := hsay _ s3.swapR
          clear hc
          go_wp2_with (go_at_call 80; refine hsay.mono ?_; rintro e w4 ⟨rfl, s4⟩)
          have hm4 := s4.at1
          refine ⟨⟨q', o ++ [c], by omega, hqR, HX, by rw [List.length_append, List.length_singleton]; omega, s4⟩, ?_⟩
          rw [hm4, hm2]
          simp [intOf]
          omega
        · have hPl := ((may_iff P).1 (wordsErr_ok hP).1).1
          have hcin := (symAt_in hs).1
          have hlo := fun W => Tok.lengthOf_any W (c : Int) (by omega) (by omega)
          by_cases c3 : 285 < c
          · have hX : X = none := by rw [← HS.out]; exact syms_none (step_over hs c3)
            have HX := Lib.hid hX
            rw [lenOf_out c c3] at hlo
            simp only at hlo
            clear hX hs h1 hm2
            go_wp2_with (go_at_call 115; refine hc.mono ?_; rintro e w3 ⟨rfl, s3⟩)
            go_wp2_with (go_at_call 117; refine (hlo _).mono ?_; rintro e w4 ⟨rfl, hb4⟩)
            have s4 := s3.quiet hb4
            have ham := ramong_no s4.swapR 0 0 5 (by decide)
            go_wp2_with (go_at_call 116; refine ham.mono ?_; rintro e w5 ⟨rfl, s5⟩)
            exact ⟨rfl, HBAD.out _ HX.out s5⟩
          · rw [lenOf_in c (by omega) (by omega)] at hlo
            simp only at hlo
            have hstep := step_len (Q := Q) (o := o) hs (by omega) (by omega)
            have hlb := lenB_le c (by omega) (by omega)
            have HTOP := Lib.hid (fun x hx => len_top c x (by omega) (by omega) hx)
            have hl3 : lenL c ≤ 1000 := by
              have := (len_top c 0 (by omega) (by omega) (Nat.two_pow_pos _)).2
              omega
            have hst : step P Q (row xs) q o = none → X = none := fun e => by rw [← HS.out]; exact syms_none e
            have hon : ∀ p' o', step P Q (row xs) q o = some (false, p', o') → syms P Q (row xs) p' o' = X := fun p' o' e => by rw [← HS.out]; exact (syms_on hlt e).symm
            rw [hstep] at hst hon
            obtain ⟨lb, hlb0⟩ : ∃ lb, lenB c = lb := ⟨_, rfl⟩
            obtain ⟨lc, hlc0⟩ : ∃ lc, lenL c = lc := ⟨_, rfl⟩
            rw [hlb0, hlc0] at hlo hst hon HTOP
            rw [hlb0] at hlb
            rw [hlc0] at hl3
            have HST := Lib.hid hst
            have HON := Lib.hid hon
            clear hst hon hstep hs h1 hlb0 hlc0
            have ham := fun W (s : Rst B w0 W (boxT cb (pairC ta tb) 161 :: tblL ta P :: tblL tb Q :: r) rb qb fx keep xs q' o) => ramong_st s lc lb (by omega) (by omega)
            go_wp2_with (go_at_call 115; refine hc.mono ?_; rintro e w3 ⟨rfl, s3⟩)
            go_wp2_with (go_at_call 117; refine (hlo _).mono ?_; rintro e w4 ⟨rfl, hb4⟩)
            have s4 := (s3.quiet hb4).swapR
            have ham := ham _ s4
            clear hc hlo hb4 s3
            cases hN : numAt (row xs) q' lb with
            | none =>
              rw [hN] at ham
              simp only at ham
              have hX : X = none := HST.out (by rw [hN]; rfl)
              have HX := Lib.hid hX
              clear hX HST HON HTOP hN
              go_wp2_with (go_at_call 116; refine ham.mono ?_; rintro e w5 ⟨rfl, s5⟩)
              exact ⟨rfl, HBAD.out _ HX.out s5⟩
            | some y =>
              obtain ⟨x, q2⟩ := y
              rw [hN] at ham
              simp only at ham
              obtain ⟨hq2e, hq2R, hxn⟩ := numAt_le hN
              have hxl : x < 2 ^ lb := by rw [hxn]; exact nm_lt (row xs) q' lb
              have hxt := (HTOP.out x hxl).2
              have hst := HST.out
              have hon := HON.out
              rw [hN] at hst hon
              simp only [Option.bind_some] at hst hon
              obtain ⟨n, hnv⟩ : ∃ n, lc + x = n := ⟨_, rfl⟩
              rw [hnv] at ham hst hon hxt
              have HST2 := Lib.hid hst
              have HON2 := Lib.hid hon
              have hc1 := s4.boxR 1
              clear hst hon HST HON HTOP hN hxn hxl hnv hl3
              go_wp2_with fail
              refine ham.mono ?_
              rintro e w5 ⟨rfl, s5⟩
              clear ham s4 hc1 c0
              have c1' := s5.boxR 1
              replace c1' : w5.cell? ⟨cb, 1, none⟩ = some (.pointer (some ⟨tb, 0, none⟩)) := c1'
              have hsy := rsymbol_st (s5.frontR 2) hQ20
              cases hs2 : symAt Q (row xs) q2 with
              | none =>
                rw [hs2] at hsy
                simp only at hsy
                have hX : X = none := HST2.out (by unfold farAt; rw [hs2]; rfl)
                have HX := Lib.hid hX
                clear hX HST2 HON2 hs2 s5
                go_wp2_with (go_at_call 115; refine hsy.mono ?_; rintro e w6 ⟨rfl, s6⟩)
                exact ⟨rfl, HBAD.out _ HX.out ((s6.front 2).front 2)⟩
              | some dd =>
                obtain ⟨d, q3⟩ := dd
                rw [hs2] at hsy
                simp only at hsy
                obtain ⟨hq3a, hq3b⟩ := symAt_le hs2
                have hdin := symAt_in hs2
                have hQl := ((may_iff Q).1 (wordsErr_ok hQ).1).1
                have hdo := fun W => Tok.distanceOf_any W (d : Int) (by omega) (by omega)
                by_cases hd : 29 < d
                · have hX : X = none := HST2.out (by unfold farAt; rw [hs2]; simp only [Option.bind_some]; rw [if_pos hd]; rfl)
                  have HX := Lib.hid hX
                  rw [disOf_out d hd] at hdo
                  simp only at hdo
                  clear hX HST2 HON2 hs2 s5 hdin hQl
                  go_wp2_with (go_at_call 115; refine hsy.mono ?_; rintro e w6 ⟨rfl, s6⟩)
                  go_wp2_with (go_at_call 118; refine (hdo _).mono ?_; rintro e w7 ⟨rfl, hb7⟩)
                  have s7 := ((s6.quiet hb7).frontR 2).frontR 2
                  have ham := ramong_no s7 0 0 5 (by decide)
                  go_wp2_with (go_at_call 116; refine ham.mono ?_; rintro e w8 ⟨rfl, s8⟩)
                  exact ⟨rfl, HBAD.out _ HX.out s8⟩
                · have hfe : farAt Q (row xs) q2 = (numAt (row xs) q3 (disB d)).bind fun y => some (disL d + y.1, y.2) := by unfold farAt; rw [hs2]; simp only [Option.bind_some]; rw [if_neg hd]
                  have hst := HST2.out
                  have hon := HON2.out
                  rw [hfe] at hst hon
                  have hdb := disB_le d (by omega)
                  have HTOP := Lib.hid (fun y hy => dis_top d y (by omega) hy)
                  have hdp := disL_pos d (by omega)
                  rw [disOf_in d (by omega)] at hdo
                  simp only at hdo
                  obtain ⟨db, hdb0⟩ : ∃ db, disB d = db := ⟨_, rfl⟩
                  obtain ⟨dl, hdl⟩ : ∃ dl, disL d = dl := ⟨_, rfl⟩
                  rw [hdb0, hdl] at hdo hst hon HTOP
                  rw [hdb0] at hdb
                  rw [hdl] at hdp
                  have hdl2 : dl ≤ 32768 := by
                    have := (HTOP.out 0 (Nat.two_pow_pos _)).2
                    omega
                  have HST3 := Lib.hid hst
                  have HON3 := Lib.hid hon
                  clear hst hon hfe HST2 HON2 hs2 hdb0 hdl hdin hQl s5
                  have ham := fun W (s : Rst B w0 W (boxT cb (pairC ta tb) 161 :: tblL ta P :: tblL tb Q :: r) rb qb fx keep xs q3 o) => ramong_st s dl db (by omega) (by omega)
                  go_wp2_with (go_at_call 115; refine hsy.mono ?_; rintro e w6 ⟨rfl, s6⟩)
                  go_wp2_with (go_at_call 118; refine (hdo _).mono ?_; rintro e w7 ⟨rfl, hb7⟩)
                  have s7 : Rst B w0 w7 (boxT cb (pairC ta tb) 161 :: tblL ta P :: tblL tb Q :: r) rb qb fx keep xs q3 o := ((s6.quiet hb7).frontR 2).frontR 2
                  have ham := ham _ s7
                  clear hsy hdo s6 hb7
                  cases hN : numAt (row xs) q3 db with
                  | none =>
                    rw [hN] at ham
                    simp only at ham
                    have hX : X = none := HST3.out (by rw [hN]; rfl)
                    have HX := Lib.hid hX
                    clear hX HST3 HON3 HTOP hN s7
                    go_wp2_with (go_at_call 116; refine ham.mono ?_; rintro e w8 ⟨rfl, s8⟩)
                    exact ⟨rfl, HBAD.out _ HX.out s8⟩
                  | some y =>
                    obtain ⟨yv, q4⟩ := y
                    rw [hN] at ham
                    simp only at ham
                    obtain ⟨hq4e, hq4R, hyn⟩ := numAt_le hN
                    have hyl : yv < 2 ^ db := by rw [hyn]; exact nm_lt (row xs) q3 db
                    have hyt := (HTOP.out yv hyl).2
                    have hst := HST3.out
                    have hon := HON3.out
                    rw [hN] at hst hon
                    simp only [Option.bind_some] at hst hon
                    obtain ⟨far, hfv⟩ : ∃ far, dl + yv = far := ⟨_, rfl⟩
                    rw [hfv] at ham hst hon hyt
                    have hfp : 1 ≤ far := by omega
                    have HST4 := Lib.hid hst
                    have HON4 := Lib.hid hon
                    clear hst hon HST3 HON3 HTOP hN hyn hyl hfv s7
                    by_cases hov : o.length < far
                    · have hX : X = none := HST4.out (by rw [if_pos hov])
                      have HX := Lib.hid hX
                      clear hX HST4 HON4
                      have hrep := fun W (s : Rst B w0 W (boxT cb (pairC ta tb) 161 :: tblL ta P :: tblL tb Q :: r) rb qb fx keep xs q4 o) => rrepeat_no s (n : Int) far hov
                      go_wp2_with (go_at_call 116; refine ham.mono ?_; rintro e w8 ⟨rfl, s8⟩)
                      have hrep := hrep _ s8
                      clear ham
                      go_wp2_with (go_at_call 119; refine hrep.mono ?_; rintro e w9 ⟨rfl, s9⟩)
                      exact ⟨rfl, HBAD.out _ HX.out s9⟩
                    · have hX : syms P Q (row xs) q4 (Tok.rep far n o) = X := HON4.out _ _ (by rw [if_neg hov])
                      have HX := Lib.hid hX
                      clear hX HST4 HON4
                      have hrep := fun W (s : Rst B w0 W (boxT cb (pairC ta tb) 161 :: tblL ta P :: tblL tb Q :: r) rb qb fx keep xs q4 o) => rrepeat_st s n far hfp (by omega) hyt hxt hk (by omega)
                      go_wp2_with (go_at_call 116; refine ham.mono ?_; rintro e w8 ⟨rfl, s8⟩)
                      have hrep := hrep _ s8
                      clear ham
                      go_wp2_with (go_at_call 119; refine hrep.mono ?_; rintro e w9 ⟨rfl, s9⟩)
                      have hm9 := s9.at1
                      have hrl := Tok.rep_length far n o
                      refine ⟨⟨q4, Tok.rep far n o, by omega, hq4R, HX, by omega, s9⟩, ?_⟩
                      rw [hm9, hm2]
                      simp [intOf]
                      omega

end
end Go.Proofs.YtpinfihmageeoaaGreat.Inf
