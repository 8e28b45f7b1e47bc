/-
  InfA InfB InfC, one behind the other (merged by wip/merge.py). No conditions but those that each states.
-/
import Derived.Test.YtpinfihmageeoaaGreatGN
import Derived.Test.YtpinfihmageeoaaGreatRef2
import Derived.Test.YtpinfihmageeoaaGreatGA
import Derived.Test.YtpinfihmageeoaaGreatGO
import Derived.Test.YtpinfihmageeoaaGreatGM
import Derived.Test.YtpinfihmageeoaaGreatInts
import Derived.Test.YtpinfihmageeoaaGreatGS

namespace Go.Proofs.YtpinfihmageeoaaGreat
open Go.RowKit

namespace Inf
open Kraft Hd

abbrev strC (rv bv : Value) (p : Nat) (ov : Value) (keep size : Nat) (bad : Bool) : Array Value := #[rv, bv, .int .i64 (p : Int), ov, .int .i64 (keep : Int), .int .i64 (size : Int), .bool bad]

structure Str (B : Nat) (w0 w : World) (r : List Thing) (sb : Nat) (rv bv : Value) (keep p : Nat) (out : List Nat) (bad : Bool) : Prop where
  st : ∃ oa oc, St B w0 w (boxT sb (strC rv bv p (.slice oa (out.take keep).length oc) keep out.length bad) 111 :: rowT 5 1 (.slice oa (out.take keep).length oc) (out.take keep).length (u8s (out.take keep)) :: r)

structure RowsOf (B : Nat) (w0 : World) (r : List Thing) (rv bv : Value) (R : List Bool) : Prop where
  row : ∀ W, St B w0 W r → RowAt W rv R
  bits : ∀ W, St B w0 W r → ByteRow W bv (nats R)
  small : R.length ≤ 10000
  addr : ∀ a n c, bv = .slice a n c → a = none ∨ ∃ b o, a = some ⟨b, o, none⟩

section
variable {B : Nat} {w0 w : World} {r : List Thing} {sb : Nat} {rv bv : Value} {R : List Bool} {keep p : Nat} {out : List Nat} {bad : Bool}

set_option maxRecDepth 100000 in
set_option maxHeartbeats 1000000 in
theorem num10_ok (h : Str B w0 w r sb rv bv keep p out false) (hR : RowsOf B w0 r rv bv R) (n : Nat) (hn : n ≤ 32) (hp : p + n ≤ R.length) :
    Calls Tryz.prog 72 #[.pointer (some ⟨sb, 0, none⟩), .int .i64 (n : Int)] w fun e w' => e = .returned (.int .i64 (nm R p n : Int)) ∧ Str B w0 w' r sb rv bv keep (p + n) out false := by
  obtain ⟨oa, oc, st⟩ := h.st
  obtain ⟨ra, rc, hrv, -⟩ := hR.row _ st.drop.drop
  subst hrv
  have hget : ∀ k, Calls Tryz.prog 98 #[.slice ra R.length rc, .int .i64 (p : Int), .int .i64 (n : Int)] (w.drewN k) fun e w' => e = .returned (.tuple #[.int .u32 (nm R p n : Int), .int .i64 ((p + n : Nat) : Int), .int .i64 0]) ∧ w' = w.drewN k := fun k =>
    (rget_ok (w.drewN k) _ R p n (hR.row _ (st.drewN k).drop.drop) (by have := hR.small; omega) hn hp).mono fun _ _ h => ⟨h.1, h.2.symm⟩
  have hx : nm R p n < 4294967296 := Nat.lt_of_lt_of_le (nm_lt R p n) (Nat.pow_le_pow_right (n := 2) (by omega) hn)
  have hpl : p + n ≤ 10000 := by have := hR.small; omega
  generalize nm R p n = x at hget hx ⊢
  obtain ⟨q, hq⟩ : ∃ q, q = p + n := ⟨_, rfl⟩
  rw [← hq] at hget hpl ⊢
  have c0 : w.cell? ⟨sb, 0, none⟩ = some (.slice ra R.length rc) := (st.boxAt 0).1
  have c2 : w.cell? ⟨sb, 2, none⟩ = some (.int .i64 (p : Int)) := (st.boxAt 2).1
  have c6 : w.cell? ⟨sb, 6, none⟩ = some (.bool false) := (st.boxAt 6).1
  have f2 := (st.boxAt 2).2
  have hfin : ∀ k, Str B w0 ((w.drewN k).setCell ⟨sb, 2, none⟩ (.int .i64 (q : Int))) r sb (.slice ra R.length rc) bv keep q out false := fun k => ⟨oa, oc, (st.drewN k).setBoxAt 2 _⟩
  have HF := Lib.hid hfin
  clear hfin st hq
  go_enter Tryz.func72, Tryz.ntmps72
  go_wp2
  go_quiet ((go_at_call 98; exact Calls.quiet_of_same (hget _)))
  go_wp2
  go_ret
  exact ⟨rfl, HF.out _⟩

set_option maxRecDepth 100000 in
set_option maxHeartbeats 1000000 in
theorem num10_no (h : Str B w0 w r sb rv bv keep p out bad) (hR : RowsOf B w0 r rv bv R) (n : Nat) (hn : n ≤ 32) (hp : p ≤ R.length) (hno : bad = true ∨ R.length < p + n) :
    Calls Tryz.prog 72 #[.pointer (some ⟨sb, 0, none⟩), .int .i64 (n : Int)] w fun e w' => e = .returned (.int .i64 0) ∧ Str B w0 w' r sb rv bv keep p out true := by
  obtain ⟨oa, oc, st⟩ := h.st
  obtain ⟨ra, rc, hrv, -⟩ := hR.row _ st.drop.drop
  subst hrv
  have c0 : w.cell? ⟨sb, 0, none⟩ = some (.slice ra R.length rc) := (st.boxAt 0).1
  have c2 : w.cell? ⟨sb, 2, none⟩ = some (.int .i64 (p : Int)) := (st.boxAt 2).1
  have c6 : w.cell? ⟨sb, 6, none⟩ = some (.bool bad) := (st.boxAt 6).1
  have f6 := (st.boxAt 6).2
  have hfin : ∀ k, Str B w0 ((w.drewN k).setCell ⟨sb, 6, none⟩ (.bool true)) r sb (.slice ra R.length rc) bv keep p out true := fun k => ⟨oa, oc, (st.drewN k).setBoxAt 6 _⟩
  have HF := Lib.hid hfin
  have hrow := fun k => hR.row _ (st.drewN k).drop.drop
  have hsm := hR.small
  clear hfin st
  by_cases hlt : R.length < p + n
  · have hget : ∀ k, Calls Tryz.prog 98 #[.slice ra R.length rc, .int .i64 (p : Int), .int .i64 (n : Int)] (w.drewN k) fun e w' => e = .returned (.tuple #[.int .u32 0, .int .i64 (p : Int), .int .i64 2]) ∧ w' = w.drewN k := fun k =>
      (rget_form (w.drewN k) _ R p n (hrow k) hp hn hlt).mono fun _ _ h => ⟨h.1, h.2.symm⟩
    clear hno hrow hlt hsm
    go_enter Tryz.func72, Tryz.ntmps72
    go_wp2
    go_quiet ((go_at_call 98; exact Calls.quiet_of_same (hget _)))
    go_wp2
    go_ret
    exact ⟨rfl, HF.out _⟩
  · obtain rfl : bad = true := hno.resolve_right hlt
    have hget : ∀ k, Calls Tryz.prog 98 #[.slice ra R.length rc, .int .i64 (p : Int), .int .i64 (n : Int)] (w.drewN k) fun e w' => e = .returned (.tuple #[.int .u32 (nm R p n : Int), .int .i64 ((p + n : Nat) : Int), .int .i64 0]) ∧ w' = w.drewN k := fun k =>
      (rget_ok (w.drewN k) _ R p n (hrow k) (by omega) hn (by omega)).mono fun _ _ h => ⟨h.1, h.2.symm⟩
    generalize nm R p n = x at hget
    obtain ⟨q, hq⟩ : ∃ q, q = p + n := ⟨_, rfl⟩
    rw [← hq] at hget
    clear hno hrow hlt hq
    go_enter Tryz.func72, Tryz.ntmps72
    go_wp2
    go_quiet ((go_at_call 98; exact Calls.quiet_of_same (hget _)))
    go_wp2
    go_ret
    exact ⟨rfl, HF.out _⟩

def WordsAt (w : World) (wv : Value) (L : List Nat) : Prop := ∃ va cr, wv = .slice va L.length cr ∧ ∀ s, s < L.length → ∃ g au cu, va = some ⟨g, 0, none⟩ ∧ w.cell? ⟨g, s, none⟩ = some (.slice au (len L s) cu) ∧ ByteRow w (.slice au (len L s) cu) (nats (wordBits L (s : Int)))

structure CodeAt (B : Nat) (w0 : World) (r : List Thing) (wv : Value) (L : List Nat) : Prop where
  words : ∀ W, St B w0 W r → WordsAt W wv L
  low : ∀ j, len L j ≤ 20
  weigh : weight L ≤ 1048576
  few : L.length ≤ 512

set_option maxRecDepth 100000 in
set_option maxHeartbeats 1000000 in
theorem sym10_bad (h : Str B w0 w r sb rv bv keep p out true) (wv : Value) :
    Calls Tryz.prog 101 #[.pointer (some ⟨sb, 0, none⟩), wv] w fun e w' => e = .returned (.int .i64 0) ∧ Str B w0 w' r sb rv bv keep p out true := by
  obtain ⟨oa, oc, st⟩ := h.st
  have c6 : w.cell? ⟨sb, 6, none⟩ = some (.bool true) := (st.boxAt 6).1
  clear st
  go_enter Tryz.func101, Tryz.ntmps101
  go_wp2
  go_ret
  exact ⟨rfl, h⟩

set_option maxRecDepth 100000 in
set_option maxHeartbeats 1000000 in
theorem sym10_get (h : Str B w0 w r sb rv bv keep p out false) (hR : RowsOf B w0 r rv bv R) {wv : Value} {L : List Nat} (hL : CodeAt B w0 r wv L) (hp : p ≤ R.length) :
    Calls Tryz.prog 101 #[.pointer (some ⟨sb, 0, none⟩), wv] w fun e w' =>
      match symAt L R p with
      | some (c, p') => e = .returned (.int .i64 (c : Int)) ∧ Str B w0 w' r sb rv bv keep p' out false
      | none => e = .returned (.int .i64 0) ∧ ∃ p', p' ≤ R.length ∧ Str B w0 w' r sb rv bv keep p' out true := by
  obtain ⟨oa, oc, st⟩ := h.st
  obtain ⟨ba, bc, hbv, -⟩ := hR.bits _ st.drop.drop
  rw [nats_length] at hbv
  subst hbv
  have hba := hR.addr _ _ _ rfl
  obtain ⟨va, cr, hwv, -⟩ := hL.words _ st.drop.drop
  subst hwv
  have hget : ∀ k, Calls Tryz.prog 108 #[.slice va L.length cr, .slice ba R.length bc, .int .i64 (p : Int)] (w.drewN k)
      fun e w' => e = .returned (.tuple #[.int .i64 (seek (tab L L.length) 0 0 (R.drop p)).2.1, .int .i64 ((p + (seek (tab L L.length) 0 0 (R.drop p)).1 : Nat) : Int), .int .i64 ((seek (tab L L.length) 0 0 (R.drop p)).2.2 : Int)]) ∧ ∃ m, w' = (w.drewN k).drewN m := fun k => by
    obtain ⟨va', cr', e1, hrow⟩ := hL.words _ (st.drewN k).drop.drop
    obtain ⟨rfl, -, rfl⟩ := Value.slice.inj e1
    exact refGet_rows hL.low hL.weigh hL.few hrow (hR.bits _ (st.drewN k).drop.drop) hba rfl hR.small p hp
  have hsk := seek_err (tab L L.length) (R.drop p) 0 0
  have hle := seek_le (tab L L.length) (R.drop p) 0 0
  have hin := seek_in (L := L) (tab L L.length) (tab_in L) (R.drop p) 0 0
  rw [List.length_drop] at hle
  have hS : symAt L R p = if (seek (tab L L.length) 0 0 (R.drop p)).2.2 ≠ 0 then none else some ((seek (tab L L.length) 0 0 (R.drop p)).2.1.toNat, p + (seek (tab L L.length) 0 0 (R.drop p)).1) := rfl
  rw [hS]
  generalize seek (tab L L.length) 0 0 (R.drop p) = X at *
  obtain ⟨k, s, er⟩ := X
  simp only at hget hsk hle hin ⊢
  have c1 : w.cell? ⟨sb, 1, none⟩ = some (.slice ba R.length bc) := (st.boxAt 1).1
  have c2 : w.cell? ⟨sb, 2, none⟩ = some (.int .i64 (p : Int)) := (st.boxAt 2).1
  have c6 : w.cell? ⟨sb, 6, none⟩ = some (.bool false) := (st.boxAt 6).1
  have f2 := (st.boxAt 2).2
  have f6 := (st.boxAt 6).2
  obtain ⟨q, hq⟩ : ∃ q, q = p + k := ⟨_, rfl⟩
  rw [← hq] at hget ⊢
  have hqr : q ≤ R.length := by omega
  have h1 : ∀ k, Str B w0 ((w.drewN k).setCell ⟨sb, 2, none⟩ (.int .i64 (q : Int))) r sb rv (.slice ba R.length bc) keep q out false := fun k => ⟨oa, oc, (st.drewN k).setBoxAt 2 _⟩
  have h2 : ∀ k, Str B w0 (((w.drewN k).setCell ⟨sb, 2, none⟩ (.int .i64 (q : Int))).setCell ⟨sb, 6, none⟩ (.bool true)) r sb rv (.slice ba R.length bc) keep q out true := fun k => ⟨oa, oc, ((st.drewN k).setBoxAt 2 _).setBoxAt 6 _⟩
  have d6 : ∀ k, ((w.drewN k).setCell ⟨sb, 2, none⟩ (.int .i64 (q : Int))).cell? ⟨sb, 6, none⟩ = some (.bool false) := fun k => (((st.drewN k).setBoxAt 2 (.int .i64 (q : Int))).boxAt 6).1
  have H1 := Lib.hid h1
  have H2 := Lib.hid h2
  clear h1 h2 st hle hq
  by_cases h0 : er = 0
  · subst h0
    obtain ⟨c, _, _, hs⟩ := hin rfl
    subst hs
    rw [if_neg (by simp), Int.toNat_natCast]
    clear hsk hin
    go_enter Tryz.func101, Tryz.ntmps101
    go_wp2
    go_quiet ((go_at_call 108; exact Calls.quiet_of (hget _)))
    go_wp2
    go_ret
    exact ⟨rfl, H1.out _⟩
  · obtain ⟨rfl, rfl⟩ : s = 0 ∧ er = 2 := by
      rcases hsk with g | g
      · exact absurd g h0
      · have := Prod.mk.inj (Prod.mk.inj g).2
        exact this
    rw [if_pos (by simp)]
    clear hsk hin
    go_enter Tryz.func101, Tryz.ntmps101
    go_wp2
    go_quiet ((go_at_call 108; exact Calls.quiet_of (hget _)))
    go_wp2
    go_ret
    exact ⟨rfl, q, hqr, H2.out _⟩

set_option maxRecDepth 100000 in
set_option maxHeartbeats 1000000 in
theorem put10_st (h : Str B w0 w r sb rv bv keep p out bad) (c : Nat) (hk : keep ≤ 100000) (ho : out.length ≤ 100000000) :
    Calls Tryz.prog 99 #[.pointer (some ⟨sb, 0, none⟩), .int .u8 (c : Int)] w fun e w' => e = .returned (.tuple #[]) ∧ Str B w0 w' r sb rv bv keep p (out ++ [c]) bad := by
  obtain ⟨oa, oc, st⟩ := h.st
  have c3 : w.cell? ⟨sb, 3, none⟩ = some (.slice oa (out.take keep).length oc) := (st.boxAt 3).1
  have c4 : w.cell? ⟨sb, 4, none⟩ = some (.int .i64 (keep : Int)) := (st.boxAt 4).1
  have c5 : w.cell? ⟨sb, 5, none⟩ = some (.int .i64 (out.length : Int)) := (st.boxAt 5).1
  have f3 := (st.boxAt 3).2
  have f5 := (st.boxAt 5).2
  have hlen : (out ++ [c]).length = out.length + 1 := by simp
  by_cases hlt : out.length < keep
  · have htake : (out ++ [c]).take keep = out.take keep ++ [c] := by
      rw [List.take_append, List.take_of_length_le (by omega : out.length ≤ keep)]
      congr 1
      exact List.take_of_length_le (by simp; omega)
    obtain ⟨i0, hi, hz0, hz1, hz2⟩ := info_parts info8
    have hml : (out.take keep).length ≤ 100000 := by rw [List.length_take]; omega
    have s1 := fun k => (st.drewN k).swap
    have hdone : ∀ W oa' oc', St B w0 W (rowT 5 1 (.slice oa' ((out.take keep).length + 1) oc') ((out.take keep).length + 1) (u8s (out.take keep) ++ [.int .u8 (c : Int)]) :: boxT sb (strC rv bv p (.slice oa (out.take keep).length oc) keep out.length bad) 111 :: r) →
        Str B w0 ((W.setCell ⟨sb, 3, none⟩ (.slice oa' ((out.take keep).length + 1) oc')).setCell ⟨sb, 5, none⟩ (.int .i64 ((out.length : Int) + 1))) r sb rv bv keep p (out ++ [c]) bad := fun W oa' oc' s => ⟨oa', oc', by
      have s2 := (s.swap.setBoxAt 3 (.slice oa' ((out.take keep).length + 1) oc')).setBoxAt 5 (.int .i64 ((out.length : Int) + 1))
      unfold strC
      rw [htake, hlen, show ((out.length + 1 : Nat) : Int) = (out.length : Int) + 1 from by omega, List.length_append, List.length_singleton, u8s_append]
      exact s2⟩
    have hcells : ∀ W oa' oc', St B w0 W (rowT 5 1 (.slice oa' ((out.take keep).length + 1) oc') ((out.take keep).length + 1) (u8s (out.take keep) ++ [.int .u8 (c : Int)]) :: boxT sb (strC rv bv p (.slice oa (out.take keep).length oc) keep out.length bad) 111 :: r) →
        (W.cell? ⟨sb, 3, none⟩ = some (.slice oa (out.take keep).length oc) ∧ W.frozen? ⟨sb, 3, none⟩ = false) ∧ W.cell? ⟨sb, 5, none⟩ = some (.int .i64 (out.length : Int)) ∧ W.frozen? ⟨sb, 5, none⟩ = false := fun W oa' oc' s => ⟨⟨(s.swap.boxAt 3).1, (s.swap.boxAt 3).2⟩, (s.swap.boxAt 5).1, (s.swap.boxAt 5).2⟩
    have HD := Lib.hid hdone
    have HC := Lib.hid hcells
    have HS := Lib.hid s1
    clear hdone hcells s1 st htake hlen
    generalize u8s (out.take keep) = us at *
    generalize (out.take keep).length = m at *
    generalize out.length = z at *
    go_enter Tryz.func99, Tryz.ntmps99
    go_wp2
    go_quiet (fail)
    go_wp2_with (at_builtin; refine wpList_append_one rfl _ _ 26 rfl 5 i0 (.int .u8 0) 1 1 Tryz.underlying26 hi hz0 hz1 hz2 rfl (by decide) (HS.out _) rfl [.int .u8 (c : Int)] rfl rfl (by simp [Value.oneCell']) (by unfold maxLen; omega) (by omega) ?_)
    intro v' w2 s2
    obtain ⟨oa', oc', rfl⟩ := ownsRow_slice s2.row
    have hfin := HD.out _ _ _ s2
    obtain ⟨⟨e3, g3⟩, e5, g5⟩ := HC.out _ _ _ s2
    clear s2 HD HC HS c3 c4 c5 f3 f5
    go_wp2
    go_end0
    exact ⟨rfl, hfin⟩
  · have htake : (out ++ [c]).take keep = out.take keep := List.take_append_of_le_length (by omega)
    have hfin : ∀ k, Str B w0 ((w.drewN k).setCell ⟨sb, 5, none⟩ (.int .i64 ((out.length : Int) + 1))) r sb rv bv keep p (out ++ [c]) bad := fun k => ⟨oa, oc, by
      unfold strC
      rw [htake, hlen, show ((out.length + 1 : Nat) : Int) = (out.length : Int) + 1 from by omega]
      have := (st.drewN k).setBoxAt 5 (.int .i64 ((out.length : Int) + 1))
      exact this⟩
    have HF := Lib.hid hfin
    clear hfin st htake hlen
    generalize (out.take keep).length = m at *
    generalize out.length = z at *
    go_enter Tryz.func99, Tryz.ntmps99
    go_wp2
    go_quiet (fail)
    go_wp2
    go_end0
    exact ⟨rfl, HF.out _⟩

end
end Inf
end Go.Proofs.YtpinfihmageeoaaGreat

namespace Go.Proofs.YtpinfihmageeoaaGreat.Inf
open Go.RowKit Kraft Hd

def BadStr (B : Nat) (w0 w : World) (r : List Thing) (sb : Nat) (rv bv : Value) (keep : Nat) (R : List Bool) : Prop := ∃ p' o', p' ≤ R.length ∧ Str B w0 w r sb rv bv keep p' o' true

def PartSt (B : Nat) (w0 : World) (r : List Thing) (sb : Nat) (rv bv : Value) (keep : Nat) (R : List Bool) (x : Option (Nat × List Nat)) (w' : World) : Prop :=
  match x with
  | none => BadStr B w0 w' r sb rv bv keep R
  | some (q, o) => Str B w0 w' r sb rv bv keep q o false

section
variable {B : Nat} {w0 w : World} {r : List Thing} {sb : Nat} {rv bv : Value} {R : List Bool} {keep p : Nat} {out : List Nat} {bad : Bool}

theorem Str.at2 (h : Str B w0 w r sb rv bv keep p out bad) : w.cell? ⟨sb, 2, none⟩ = some (.int .i64 (p : Int)) ∧ w.frozen? ⟨sb, 2, none⟩ = false := by
  obtain ⟨oa, oc, st⟩ := h.st
  exact ⟨(st.boxAt 2).1, (st.boxAt 2).2⟩
theorem Str.at6 (h : Str B w0 w r sb rv bv keep p out bad) : w.cell? ⟨sb, 6, none⟩ = some (.bool bad) ∧ w.frozen? ⟨sb, 6, none⟩ = false := by
  obtain ⟨oa, oc, st⟩ := h.st
  exact ⟨(st.boxAt 6).1, (st.boxAt 6).2⟩
theorem Str.set2 (h : Str B w0 w r sb rv bv keep p out bad) (q : Nat) : Str B w0 (w.setCell ⟨sb, 2, none⟩ (.int .i64 (q : Int))) r sb rv bv keep q out bad := by
  obtain ⟨oa, oc, st⟩ := h.st
  exact ⟨oa, oc, st.setBoxAt 2 _⟩
theorem Str.set6 (h : Str B w0 w r sb rv bv keep p out bad) : Str B w0 (w.setCell ⟨sb, 6, none⟩ (.bool true)) r sb rv bv keep p out true := by
  obtain ⟨oa, oc, st⟩ := h.st
  exact ⟨oa, oc, st.setBoxAt 6 _⟩
theorem Str.drewN (h : Str B w0 w r sb rv bv keep p out bad) (k : Nat) : Str B w0 (w.drewN k) r sb rv bv keep p out bad := by
  obtain ⟨oa, oc, st⟩ := h.st
  exact ⟨oa, oc, st.drewN k⟩

theorem bytesAt_succ' (R : List Bool) (p n : Nat) : bytesAt R p (n + 1) = bytesAt R p n ++ [nm R (p + 8 * n) 8] := by
  unfold bytesAt
  rw [List.range_succ, List.map_append]
  rfl

theorem up8_in (h8 : R.length % 8 = 0) (hp : p ≤ R.length) : up8 p ≤ R.length := by unfold up8; omega

set_option maxRecDepth 100000 in
set_option maxHeartbeats 2000000 in
theorem stored10_st (h : Str B w0 w r sb rv bv keep p out bad) (hR : RowsOf B w0 r rv bv R) (h8 : R.length % 8 = 0) (hp : p ≤ R.length) (hk : keep ≤ 100000) (ho : out.length ≤ 10000000) :
    Calls Tryz.prog 73 #[.pointer (some ⟨sb, 0, none⟩)] w fun e w' => e = .returned (.tuple #[]) ∧ PartSt B w0 r sb rv bv keep R (if bad then none else storedAt R p out) w' := by
  obtain ⟨X, hXX⟩ : ∃ X, (if bad then none else storedAt R p out) = X := ⟨_, rfl⟩
  rw [hXX]
  have HXX := Lib.hid hXX
  clear hXX
  obtain ⟨P, hP⟩ : ∃ P, up8 p = P := ⟨_, rfl⟩
  have hPr := up8_in h8 hp
  have hPl := up8_le p
  have hsm := hR.small
  rw [hP] at hPr hPl
  have HUP := Lib.hid hP
  clear hP
  go_enter Tryz.func73, Tryz.ntmps73
  go_wp2
  go_loopw [] (fun wr => ∃ p' : Nat, p ≤ p' ∧ p' ≤ P ∧ Str B w0 wr r sb rv bv keep p' out bad) (fun wr => match wr.cell? ⟨sb, 2, none⟩ with | some v => P - (intOf v).toNat | none => 0)
  case atStart => exact ⟨p, Nat.le_refl _, by omega, h⟩
  case round =>
    clear h
    obtain ⟨p', hp1, hp2, h1⟩ := hrel
    obtain ⟨c2, f2⟩ := h1.at2
    by_cases hmod : p' % 8 = 0
    · have hPp : P = p' := by have := HUP.out; unfold up8 at this; omega
      subst hPp
      have hm1 : ((P : Int) % 8) = 0 := by omega
      have hm2 : ((P : Int).tmod 8) = 0 := by rw [Int.tmod_eq_emod_of_nonneg (by omega)]; exact hm1
      clear hp1 hp2 hmod
      -- where it is none already, or becomes so at the first number, or at the second
      have hnone : ∀ W p' o', Str B w0 W r sb rv bv keep p' o' true → p' ≤ R.length → (bad = false → storedAt R p out = none) → PartSt B w0 r sb rv bv keep R X W := by
        intro W p' o' s hp' hb
        have e : X = none := by
          rw [← HXX.out]
          cases bad with
          | true => rfl
          | false => exact hb rfl
        rw [e]
        exact ⟨p', o', hp', s⟩
      have HNO := Lib.hid hnone
      clear hnone
      have hsa : ∀ x, nm R P 16 = x → P + 32 ≤ R.length → storedAt R p out = if nm R (P + 16) 16 ≠ 65535 - x then none else if R.length < P + 32 + 8 * x then none else some (P + 32 + 8 * x, out ++ bytesAt R (P + 32) x) := by
        intro x hx hl
        unfold storedAt
        rw [HUP.out, hx, if_neg (by omega)]
      have hsh : R.length < P + 32 → storedAt R p out = none := fun hl => by unfold storedAt; rw [HUP.out, if_pos hl]
      have HSA := Lib.hid hsa
      have HSH := Lib.hid hsh
      clear hsa hsh
      by_cases hfirst : bad = true ∨ R.length < P + 16
      · have hn1 := num10_no h1 hR 16 (by omega) hPr hfirst
        go_wp2_with fail
        refine hn1.mono ?_
        rintro e w1 ⟨rfl, s1⟩
        have hn2 := num10_no s1 hR 16 (by omega) hPr (.inl rfl)
        go_wp2_with fail
        refine hn2.mono ?_
        rintro e w2 ⟨rfl, s2⟩
        obtain ⟨c6, f6⟩ := s2.at6
        have s3 := s2.set6
        have c6' := s3.at6.1
        have hfin := HNO.out _ _ _ s3 hPr (fun hb => HSH.out (by
          rcases hfirst with g | g
          · rw [hb] at g; cases g
          · omega))
        clear hn1 hn2 s1 s2
        go_wp2
        go_loopw [3, 4] (fun i _ wr' => i = .int .i64 0 ∧ wr' = w2.setCell ⟨sb, 6, none⟩ (.bool true)) (fun _ _ _ => 0)
        case atStart => exact ⟨rfl, rfl⟩
        case round =>
          obtain ⟨rfl, rfl⟩ := hrel
          go_wp2
          go_end0
          exact ⟨rfl, hfin⟩
      · have hbf : bad = false := by cases bad with | true => exact absurd (.inl rfl) hfirst | false => rfl
        subst hbf
        have hP16 : P + 16 ≤ R.length := by
          rcases Nat.lt_or_ge R.length (P + 16) with g | g
          · exact absurd (.inr g) hfirst
          · exact g
        clear hfirst
        have hn1 := num10_ok h1 hR 16 (by omega) hP16
        have hx := nm_lt R P 16
        obtain ⟨x, hxe⟩ : ∃ x, nm R P 16 = x := ⟨_, rfl⟩
        have HX := Lib.hid (HSA.out x hxe)
        rw [hxe] at hn1 hx
        clear hxe
        go_wp2_with fail
        refine hn1.mono ?_
        rintro e w1 ⟨rfl, s1⟩
        clear hn1 h1
        by_cases hP32 : P + 32 ≤ R.length
        · have hn2 := num10_ok s1 hR 16 (by omega) (by omega)
          have hy := nm_lt R (P + 16) 16
          have HX2 := Lib.hid (HX.out hP32)
          generalize nm R (P + 16) 16 = y at hn2 hy HX2
          go_wp2_with fail
          refine hn2.mono ?_
          rintro e w2 ⟨rfl, s2⟩
          clear hn2 s1 HX
          by_cases hxy : y = 65535 - x
          · have hs3 : storedAt R p out = if R.length < P + 32 + 8 * x then none else some (P + 32 + 8 * x, out ++ bytesAt R (P + 32) x) := by rw [HX2.out, if_neg (by omega)]
            have HX3 := Lib.hid hs3
            have hne : ((y : Int) != 65535 - (x : Int)) = false := by rw [bne_eq_false_iff_eq]; omega
            clear HX2 hs3 hxy hy
            go_wp2
            go_loopw [3, 4] (fun i _ wr' => ∃ (k q : Nat) (o : List Nat) (bd : Bool), k ≤ x ∧ i = .int .i64 (k : Int) ∧ q ≤ R.length ∧ Hid ((bd = true → storedAt R p out = none) ∧ (bd = false → q = P + 32 + 8 * k ∧ o = out ++ bytesAt R (P + 32) k)) ∧ Str B w0 wr' r sb rv bv keep q o bd) (fun i _ _ => x - (intOf i).toNat)
            case atStart => exact ⟨0, P + 32, out, false, Nat.zero_le _, rfl, hP32, Lib.hid ⟨(fun h => by cases h), fun _ => ⟨rfl, by simp [bytesAt]⟩⟩, s2⟩
            case round =>
              clear s2
              obtain ⟨k, q, o, bd, hkx, rfl, hq, hh, s3⟩ := hrel
              obtain ⟨c6, f6⟩ := s3.at6
              cases bd with
              | true =>
                have hfin := HNO.out _ _ _ s3 hq (fun _ => hh.out.1 rfl)
                by_cases hlt : k < x
                · go_wp2
                  go_end0
                  exact ⟨rfl, hfin⟩
                · obtain rfl : k = x := by omega
                  go_wp2
                  go_end0
                  exact ⟨rfl, hfin⟩
              | false =>
                obtain ⟨hqk, hok⟩ := hh.out.2 rfl
                by_cases hlt : k < x
                · by_cases hp8 : q + 8 ≤ R.length
                  · have hn := num10_ok s3 hR 8 (by omega) hp8
                    have hc := nm_lt R q 8
                    have hnext : o ++ [nm R q 8] = out ++ bytesAt R (P + 32) (k + 1) := by
                      rw [hok, bytesAt_succ', ← hqk, List.append_assoc]
                    have hlen : o.length = out.length + k := by rw [hok, List.length_append, bytesAt_length]
                    have HNX := Lib.hid hnext
                    have HQK := Lib.hid hqk
                    generalize nm R q 8 = c at hn hc HNX
                    clear hnext hok hh hqk
                    go_wp2_with fail
                    refine hn.mono ?_
                    rintro e w3 ⟨rfl, s4⟩
                    obtain ⟨d6, g6⟩ := s4.at6
                    have hput := put10_st s4 c hk (by omega)
                    clear hn s3
                    go_wp2_with (go_at_call 99; refine hput.mono ?_; rintro e w4 ⟨rfl, s5⟩)
                    have hqq := HQK.out
                    refine ⟨⟨k + 1, q + 8, o ++ [c], false, by omega, by go_num, hp8, Lib.hid ⟨(fun h => by cases h), fun _ => ⟨by omega, HNX.out⟩⟩, s5⟩, by simp [intOf]; omega⟩
                  · have hn := num10_no s3 hR 8 (by omega) hq (.inr (by omega))
                    have hst : storedAt R p out = none := by rw [HX3.out, if_pos (by omega)]
                    have HST := Lib.hid hst
                    clear hst hh hok hqk
                    go_wp2_with fail
                    refine hn.mono ?_
                    rintro e w3 ⟨rfl, s4⟩
                    obtain ⟨d6, g6⟩ := s4.at6
                    clear hn s3
                    go_wp2
                    refine ⟨⟨k + 1, q, o, true, by omega, by go_num, hq, Lib.hid ⟨fun _ => HST.out, fun h => by cases h⟩, s4⟩, by simp [intOf]; omega⟩
                · obtain rfl : k = x := by omega
                  have hfin : PartSt B w0 r sb rv bv keep R X wr := by
                    have e : X = some (q, o) := by
                      rw [← HXX.out]
                      show storedAt R p out = _
                      rw [HX3.out, if_neg (by omega), hqk, hok]
                    rw [e]
                    exact s3
                  clear hh hok hqk
                  go_wp2
                  go_end0
                  exact ⟨rfl, hfin⟩
          · have hne : ((y : Int) != 65535 - (x : Int)) = true := by rw [bne_iff_ne]; omega
            obtain ⟨c6, f6⟩ := s2.at6
            have s3 := s2.set6
            have c6' := s3.at6.1
            have hfin := HNO.out _ _ _ s3 (by omega) (fun _ => by rw [HX2.out, if_pos hxy])
            clear s2 HX2 hxy
            go_wp2
            go_loopw [3, 4] (fun i _ wr' => i = .int .i64 0 ∧ wr' = w2.setCell ⟨sb, 6, none⟩ (.bool true)) (fun _ _ _ => 0)
            case atStart => exact ⟨rfl, rfl⟩
            case round =>
              obtain ⟨rfl, rfl⟩ := hrel
              by_cases hx0 : 0 < x
              · go_wp2
                go_end0
                exact ⟨rfl, hfin⟩
              · obtain rfl : x = 0 := by omega
                go_wp2
                go_end0
                exact ⟨rfl, hfin⟩
        · have hn2 := num10_no s1 hR 16 (by omega) (by omega) (.inr (by omega))
          go_wp2_with fail
          refine hn2.mono ?_
          rintro e w2 ⟨rfl, s2⟩
          obtain ⟨c6, f6⟩ := s2.at6
          have hfin0 := fun W (s : Str B w0 W r sb rv bv keep (P + 16) out true) => HNO.out W _ _ s hP16 (fun _ => HSH.out (by omega))
          have s3 := s2.set6
          have c6' := s3.at6.1
          have hf1 := hfin0 _ s2
          have hf2 := hfin0 _ s3
          clear hn2 s1 s2 hfin0
          by_cases hx5 : x = 65535
          · subst hx5
            go_wp2
            go_loopw [3, 4] (fun i _ wr' => i = .int .i64 0 ∧ wr' = w2) (fun _ _ _ => 0)
            case atStart => exact ⟨rfl, rfl⟩
            case round =>
              obtain ⟨rfl, rfl⟩ := hrel
              go_wp2
              go_end0
              exact ⟨rfl, hf1⟩
          · have hne : ((0 : Int) != 65535 - (x : Int)) = true := by rw [bne_iff_ne]; omega
            go_wp2
            go_loopw [3, 4] (fun i _ wr' => i = .int .i64 0 ∧ wr' = w2.setCell ⟨sb, 6, none⟩ (.bool true)) (fun _ _ _ => 0)
            case atStart => exact ⟨rfl, rfl⟩
            case round =>
              obtain ⟨rfl, rfl⟩ := hrel
              by_cases hx0 : 0 < x
              · go_wp2
                go_end0
                exact ⟨rfl, hf2⟩
              · obtain rfl : x = 0 := by omega
                go_wp2
                go_end0
                exact ⟨rfl, hf2⟩
    · have hlt : p' < P := by have := HUP.out; unfold up8 at this; omega
      obtain ⟨m, hm, hm0⟩ : ∃ m : Nat, p' % 8 = m ∧ m ≠ 0 := ⟨_, rfl, hmod⟩
      have hm1 : ((p' : Int) % 8) = (m : Int) := by omega
      have hm2 : ((p' : Int).tmod 8) = (m : Int) := by rw [Int.tmod_eq_emod_of_nonneg (by omega)]; exact hm1
      have hne : ((m : Int) != 0) = true := by rw [bne_iff_ne]; omega
      have h2 := h1.set2 (p' + 1)
      have hv := h2.at2.1
      rw [show ((p' + 1 : Nat) : Int) = (p' : Int) + 1 from by omega] at h2 hv
      clear h1 hmod hm
      go_wp2
      refine ⟨⟨p' + 1, by omega, by omega, h2⟩, ?_⟩
      rw [hv, c2]
      simp [intOf]
      omega

end
end Go.Proofs.YtpinfihmageeoaaGreat.Inf

namespace Go.Proofs.YtpinfihmageeoaaGreat.Inf
open Go.RowKit Kraft Hd

section
variable {B : Nat} {w0 w : World} {r : List Thing}

theorem litNums0 (st : St B w0 w r) (xs : List Nat) (hl : xs.length ≤ maxLen) : St B w0 (w.alloc (.cells (i64s xs).toArray 3)) (numsT 3 w.heap.size xs.length xs :: r) := by
  have h := World.ownsRow_lit (base := w.heap.size) (e := 3) (size := 1) w (i64s xs).toArray xs.length (Nat.le_refl _) hl (by simp [i64s])
  exact st.addRow (below_alloc w _) (by simpa using h)

def lenF : List Nat := [3, 4, 5, 6, 7, 8, 9, 10, 11, 13, 15, 17, 19, 23, 27, 31, 35, 43, 51, 59, 67, 83, 99, 115, 131, 163, 195, 227, 258]
def disF : List Nat := [1, 2, 3, 4, 5, 7, 9, 13, 17, 25, 33, 49, 65, 97, 129, 193, 257, 385, 513, 769, 1025, 1537, 2049, 3073, 4097, 6145, 8193, 12289, 16385, 24577]

theorem lenF_at (i : Nat) (h : i < lenF.length) : lenF[i] = lenL (257 + i) := by
  have : ∀ i (h : i < lenF.length), lenF[i] = lenL (257 + i) := by unfold lenL; rw [Tok.lenS_eq]; decide
  exact this i h
theorem disF_at (i : Nat) (h : i < disF.length) : disF[i] = disL i := by
  have : ∀ i (h : i < disF.length), disF[i] = disL i := by unfold disL; rw [Tok.disS_eq]; decide
  exact this i h

theorem lens8_st (st : St B w0 w r) : Calls Tryz.prog 102 #[] w fun e w' => ∃ g, e = .returned (.slice (some ⟨g, 0, none⟩) 29 29) ∧ St B w0 w' (numsT 3 g 29 lenF :: r) := by
  have s1 := litNums0 st lenF (by unfold maxLen; decide)
  go_enter Tryz.func102, Tryz.ntmps102
  go_wp2
  go_ret
  exact ⟨_, rfl, s1⟩

theorem diss8_st (st : St B w0 w r) : Calls Tryz.prog 104 #[] w fun e w' => ∃ g, e = .returned (.slice (some ⟨g, 0, none⟩) 30 30) ∧ St B w0 w' (numsT 3 g 30 disF :: r) := by
  have s1 := litNums0 st disF (by unfold maxLen; decide)
  go_enter Tryz.func104, Tryz.ntmps104
  go_wp2
  go_ret
  exact ⟨_, rfl, s1⟩

theorem lenB_is (c : Nat) (h1 : 257 ≤ c) (h2 : c ≤ 285) : lenB c = if c < 265 ∨ c = 285 then 0 else (c - 261) / 4 := by
  have : ∀ i, i ≤ 28 → lenB (257 + i) = if 257 + i < 265 ∨ 257 + i = 285 then 0 else (257 + i - 261) / 4 := by unfold lenB; rw [Tok.lenS_eq]; decide
  have h := this (c - 257) (by omega)
  rwa [show 257 + (c - 257) = c from by omega] at h
theorem disB_is (d : Nat) (h : d ≤ 29) : disB d = if d < 4 then 0 else (d - 2) / 2 := by
  have : ∀ i, i ≤ 29 → disB i = if i < 4 then 0 else (i - 2) / 2 := by unfold disB; rw [Tok.disS_eq]; decide
  exact this d h

set_option maxRecDepth 100000 in
theorem lenBits_any (w : World) (c : Nat) (h1 : 257 ≤ c) (h2 : c ≤ 285) : Calls Tryz.prog 103 #[.int .i64 (c : Int)] w fun e w' => e = .returned (.int .i64 (lenB c : Int)) ∧ w = w' := by
  have hb := lenB_is c h1 h2
  by_cases k1 : c < 265
  · rw [if_pos (.inl k1)] at hb
    rw [hb]
    clear hb
    go_enter Tryz.func103, Tryz.ntmps103
    go_wp2
    go_ret
    exact ⟨rfl, rfl⟩
  · by_cases k2 : c = 285
    · subst k2
      rw [if_pos (.inr rfl)] at hb
      rw [hb]
      clear hb
      go_enter Tryz.func103, Tryz.ntmps103
      go_wp2
      go_ret
      exact ⟨rfl, rfl⟩
    · rw [if_neg (by omega)] at hb
      have hne : ((c : Int) == 285) = false := by rw [beq_eq_false_iff_ne]; omega
      obtain ⟨x, hx⟩ : ∃ x, lenB c = x := ⟨_, rfl⟩
      rw [hx] at hb ⊢
      have hd : ((c : Int) - 261) / 4 = (x : Int) := by omega
      have hd2 : ((c : Int) - 261).tdiv 4 = (x : Int) := by rw [Int.tdiv_eq_ediv_of_nonneg (by omega)]; exact hd
      clear hb hx k2
      go_enter Tryz.func103, Tryz.ntmps103
      go_wp2
      go_ret
      exact ⟨by first | rfl | (rw [hd]; rfl) | (rw [hd2]; rfl), rfl⟩

theorem disBits_any (w : World) (c : Nat) (h2 : c ≤ 29) : Calls Tryz.prog 105 #[.int .i64 (c : Int)] w fun e w' => e = .returned (.int .i64 (disB c : Int)) ∧ w = w' := by
  have hb := disB_is c h2
  by_cases k1 : c < 4
  · rw [if_pos k1] at hb
    rw [hb]
    clear hb
    go_enter Tryz.func105, Tryz.ntmps105
    go_wp2
    go_ret
    exact ⟨rfl, rfl⟩
  · rw [if_neg (by omega)] at hb
    obtain ⟨x, hx⟩ : ∃ x, disB c = x := ⟨_, rfl⟩
    rw [hx] at hb ⊢
    have hd : ((c : Int) - 2) / 2 = (x : Int) := by omega
    have hd2 : ((c : Int) - 2).tdiv 2 = (x : Int) := by rw [Int.tdiv_eq_ediv_of_nonneg (by omega)]; exact hd
    clear hb hx
    go_enter Tryz.func105, Tryz.ntmps105
    go_wp2
    go_ret
    exact ⟨by first | rfl | (rw [hd]; rfl) | (rw [hd2]; rfl), rfl⟩

theorem codeAt_rows {va : Value} {L : List Nat} {r' : List Thing} (h0 : 0 < L.length) (h20 : ∀ j, len L j ≤ 20) (hw : weight L ≤ 1048576) (hl : L.length ≤ 512) (hr : ∀ W, St B w0 W r' → ∃ r2, St B w0 W (rowsT va (rowsOf L) :: r2)) : CodeAt B w0 r' va L := by
  refine ⟨fun W s => ?_, h20, hw, hl⟩
  obtain ⟨r2, s2⟩ := hr W s
  obtain ⟨g, cap, au, cu, hv, _, _, _⟩ := s2.rowsCell 0 h0
  refine ⟨some ⟨g, 0, none⟩, cap, hv, fun s hs => ?_⟩
  obtain ⟨g', cap', au', cu', hv', _, e1, e2⟩ := s2.rowsCell s hs
  rw [hv] at hv'
  have hg : g = g' := by
    have := Option.some.inj (Value.slice.inj hv').1
    simpa using this
  subst hg
  exact ⟨g, au', cu', rfl, e1, e2⟩

end
end Go.Proofs.YtpinfihmageeoaaGreat.Inf
