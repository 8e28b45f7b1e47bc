/-
  FrM FrE FrT, one behind the other (merged by wip/merge.py). No conditions but those that each states.
-/
import Derived.Test.YtpinfihmageeoaaGreatGT

namespace Go.Proofs.YtpinfihmageeoaaGreat.Fr
open Go.RowKit Crc

theorem may_split (h : Gz) : may h = (decide (h.has < 8) && decide (h.extra.length ≤ 65535) && (decide (h.has / 1 % 2 = 1) || decide (h.extra.length = 0)) && textOk h.name (decide (h.has / 2 % 2 = 1)) && textOk h.comment (decide (h.has / 4 % 2 = 1))) := by
  have e : decide (h.extra = []) = decide (h.extra.length = 0) := decide_eq_decide.2 List.length_eq_zero_iff.symm
  unfold may textOk
  rw [Nat.div_one, e]

theorem held_call {P : Program} {ops : Array Oper} {Q : Exit → Act → World → Prop} {md : Region.Mode} {S : World → Prop} {j : Nat} (oj : Oper) {fuel : Nat} {listed : Array Bool} {a : Act} {w : World} (hr : Region.ready md ops listed = [j]) (hj : ops[j]? = some oj)
    (hw : Region.wanted oj (yielded ops a.tmps) = true) (f : FuncId) (args : Array Value) (hrun : (execOp a.eval oj).run P w = .ok (.enter f args) w) {Post : Ending → World → Prop} (hc : Calls P f args w Post)
    (h : ∀ e w', Post e w' → ∃ v, e = .returned v ∧ S w' ∧ wpAnyH P md ops Q S fuel (listed.setIfInBounds j true) (a.put oj.dst v) w') : wpAnyH P md ops Q S (fuel + 1) listed a w :=
  held_step oj hr hj fun N hN => by
    unfold wpList
    rw [if_pos hw]
    left
    unfold Oper.wp
    rw [hrun, Oper.upon_enter]
    refine hc.mono fun e w'' hh => ?_
    obtain ⟨v, rfl, h1, h2⟩ := h _ _ hh
    exact hN _ _ h1 h2

end Go.Proofs.YtpinfihmageeoaaGreat.Fr

namespace Go.Proofs.YtpinfihmageeoaaGreat.Fr
open Go.RowKit Crc

section
variable {B : Nat} {w0 w : World} {r : List Thing} {wb : Nat} {h : Gz} {ev : Value}

end
end Go.Proofs.YtpinfihmageeoaaGreat.Fr

namespace Go.Proofs.YtpinfihmageeoaaGreat.Fr
open Go.RowKit Crc

def tailOf (xs : List Nat) : List Nat := le 4 (lowSum xs) ++ le 4 xs.length

theorem tailOf_length (xs : List Nat) : (tailOf xs).length = 8 := by unfold tailOf; rw [List.length_append, le_length, le_length]

theorem tailOf_byte (xs : List Nat) : ∀ x ∈ tailOf xs, x < 256 := fun x hx => (List.mem_append.1 hx).elim (le_byte _ _ x) (le_byte _ _ x)

set_option maxRecDepth 100000 in
theorem equal_any (w : World) (v u : Value) (xs ys : List Nat) (hv : ByteRow w v xs) (hu : ByteRow w u ys) :
    Calls Tryz.prog 96 #[v, u] w fun e w' => e = .returned (.bool (decide (xs = ys))) ∧ w' = w := by
  have c1 := run_string _ _ _ hv.reads
  have c2 := run_string _ _ _ hu.reads
  have hs := strOf_eq hv.byte hu.byte
  obtain ⟨a, c, rfl, -⟩ := hv
  obtain ⟨a', c', rfl, -⟩ := hu
  rw [show decide (xs = ys) = decide ((strOf xs).toList = (strOf ys).toList) from decide_eq_decide.2 (by rw [str_list]; exact hs.symm)]
  generalize strOf xs = s1 at *
  generalize strOf ys = s2 at *
  clear hs
  go_enter Tryz.func96, Tryz.ntmps96
  go_wp2
  go_ret
  refine ⟨?_, rfl⟩
  have he : (s1.toList == s2.toList) = decide (s1.toList = s2.toList) := by rw [Bool.eq_iff_iff]; simp
  rw [← he]
  rfl

section
variable {B : Nat} {w0 w : World} {r : List Thing}

set_option maxRecDepth 100000 in
set_option maxHeartbeats 1000000 in
theorem tail_st (st : St B w0 w r) (v : Value) (xs : List Nat) (hv : ∀ W, St B w0 W r → ByteRow W v xs) (hx : xs.length ≤ 80000000) :
    Calls Tryz.prog 97 #[v] w fun e w' => ∃ v', e = .returned v' ∧ St B w0 w' (rowT 5 1 v' 8 (u8s (tailOf xs)) :: r) := by
  have HV := Lib.hid hv
  obtain ⟨a, c, rfl, -⟩ := hv w st
  clear hv
  have h0 : Wst B w0 (w.alloc (.cells (wrtC Gz.nil (.slice none 0 0) (.slice none 0 0)) 175)) r w.heap.size Gz.nil (.slice none 0 0) [] := ⟨_, (st.addNil (e := 5) (size := 1)).newBox (wrtC Gz.nil (.slice none 0 0) (.slice none 0 0)) 175⟩
  have hlow : Calls Tryz.prog 126 #[.slice a xs.length c] (w.alloc (.cells (wrtC Gz.nil (.slice none 0 0) (.slice none 0 0)) 175)) fun e w' => e = .returned (.int .u32 (lowSum xs : Int)) ∧ Wst B w0 w' r w.heap.size Gz.nil (.slice none 0 0) [] := by
    obtain ⟨v, t⟩ := h0
    exact (low_st t (HV.out _ t.drop.drop) (by omega)).mono fun e w' ⟨h1, h2, _⟩ => ⟨h1, v, h2⟩
  have hlt : lowSum xs < 4294967296 := (lowReg xs ^^^ ones).isLt
  have hT : [] ++ le 4 (lowSum xs) ++ le 4 xs.length = tailOf xs := rfl
  have HT := Lib.hid hT
  clear hT
  generalize lowSum xs = S at *
  clear h0 st
  go_enter Tryz.func97, Tryz.ntmps97
  go_wp2_with fail
  refine hlow.mono ?_
  rintro e w1 ⟨rfl, s1⟩
  obtain ⟨wb, hwb⟩ : ∃ wb, wb = w.heap.size := ⟨_, rfl⟩
  rw [← hwb] at s1
  clear hlow
  go_wp2_with fail
  rw [← hwb]
  clear hwb
  refine (wnumber_st s1 S 4 hlt (by omega) (by simp)).mono ?_
  rintro e w2 ⟨rfl, s2⟩
  have hn2 := wnumber_st s2 xs.length 4 (by omega) (by omega) (by rw [List.length_append, le_length]; simp)
  rw [HT.out] at hn2
  clear s1 s2
  go_wp2_with fail
  refine hn2.mono ?_
  rintro e w3 ⟨rfl, v3, s3⟩
  rw [tailOf_length] at s3
  obtain ⟨a3, c3, rfl⟩ := ownsRow_slice s3.swap.row
  have k9 : w3.cell? ⟨wb, 9, none⟩ = some (.slice a3 8 c3) := (St.boxAt s3 9).1
  have s4 := s3.drop
  clear hn2 s3
  go_wp2
  go_ret
  exact ⟨_, rfl, s4⟩

set_option maxRecDepth 100000 in
set_option maxHeartbeats 1000000 in
theorem ends_st (st : St B w0 w r) (v u : Value) (xs ys : List Nat) (hv : ∀ W, St B w0 W r → ByteRow W v xs) (hu : ∀ W, St B w0 W r → ByteRow W u ys) (hx : xs.length ≤ 80000000) :
    Calls Tryz.prog 70 #[v, u] w fun e w' => e = .returned (.bool (decide (tailOf xs = ys))) ∧ St B w0 w' r := by
  have ht := tail_st st v xs hv hx
  have HU := Lib.hid hu
  obtain ⟨a, c, rfl, -⟩ := hv w st
  obtain ⟨a', c', rfl, -⟩ := hu w st
  clear hv hu
  go_enter Tryz.func70, Tryz.ntmps70
  go_wp2_with (go_at_call 97; refine ht.mono ?_; rintro e w1 ⟨v1, rfl, s1⟩)
  have he := equal_any w1 v1 _ (tailOf xs) ys (byteRow_owns (by rw [tailOf_length]; exact s1.row) (tailOf_byte xs)) (HU.out _ s1.drop)
  obtain ⟨a1, c1, rfl⟩ := ownsRow_slice s1.row
  have s2 := s1.drop
  clear ht s1
  go_wp2_with (go_at_call 96; refine he.mono ?_; rintro e w2 ⟨rfl, rfl⟩)
  go_ret
  exact ⟨rfl, s2⟩

end
end Go.Proofs.YtpinfihmageeoaaGreat.Fr
