/-
  InfN InfO InfY InfZ, one behind the other (merged by wip/merge.py). No conditions but those that each states.
-/
import Derived.Test.YtpinfihmageeoaaGreatGQ
import Derived.Test.YtpinfihmageeoaaGreatGA
import Derived.Test.YtpinfihmageeoaaGreatGC

namespace Go.Proofs.YtpinfihmageeoaaGreat.Inf
open Go.RowKit Kraft Hd

section
variable {B : Nat} {w0 w : World} {r : List Thing} {rb qb : Nat} {fx kv : Value} {out xs : List Nat} {keep p : Nat}

abbrev kindsV : Array Value := #[.func (.func 57) #[] #[], .func (.func 58) #[] #[], .func (.func 59) #[] #[], .func (.func 60) #[] #[]]

theorem only_setRow {S : Nat → Prop} {a b : World} (h : Only S a b) {g : Nat} (hg : g < a.heap.size → S g) (cs : Array Value) : Only S a (b.setRow g cs) :=
  h.trans (T := fun k => k = g) ⟨rfl, rfl, rfl, by simp [World.setRow], fun k _ hk => by
    simp only [World.setRow]
    rw [Array.getElem?_modify, if_neg (fun e => hk e.symm)]⟩ (fun i hi e => by subst e; exact hg hi)

theorem kinds_one : kindsV.all (·.oneCell') = true := by simp [Value.oneCell']
theorem kinds_info : (Tryz.prog.info? 87).map (·.size) = some 4 := by kernel_rfl

set_option maxRecDepth 100000 in
theorem kinds_any (w : World) : Calls Tryz.prog 37 #[] w fun e w' => e = .returned (.agg kindsV) ∧ Below w.heap.size w w' := by
  have hb := heap_alloc_new w (.cells #[Value.nilFunc, Value.nilFunc, Value.nilFunc, Value.nilFunc] 87)
  go_enter Tryz.func37, Tryz.ntmps37
  go_wp2_with (refine wpList_store_row rfl 87 _ _ rfl w.heap.size kindsV rfl rfl 87 _ hb kinds_info rfl kinds_one ?_)
  refine bodyPost_ret (results_cell_row rfl _ _ w.heap.size 87 kindsV (0, 0) _ rfl (setRow_heap _ _ _ _ _ _ hb) Tryz.underlying87 rfl kinds_info) rfl ⟨rfl, ?_⟩
  exact (only_setRow (Go.Proofs.YtpinfihmageeoaaGreat.Below.only (below_alloc w _) (Nat.le_refl _) (fun k => k = w.heap.size)) (fun _ => rfl) _).below (Nat.le_refl _) (fun k hk h => by omega)

theorem kinds_at0 (w : World) : (Instr.index 87 (.agg kindsV) (.int .i64 0)).run Tryz.prog w = .ok (.func (.func 57) #[] #[]) w := by kernel_rfl
theorem kinds_at1 (w : World) : (Instr.index 87 (.agg kindsV) (.int .i64 1)).run Tryz.prog w = .ok (.func (.func 58) #[] #[]) w := by kernel_rfl
theorem kinds_at2 (w : World) : (Instr.index 87 (.agg kindsV) (.int .i64 2)).run Tryz.prog w = .ok (.func (.func 59) #[] #[]) w := by kernel_rfl
theorem kinds_at3 (w : World) : (Instr.index 87 (.agg kindsV) (.int .i64 3)).run Tryz.prog w = .ok (.func (.func 60) #[] #[]) w := by kernel_rfl

def Block10 (B : Nat) (w0 : World) (r : List Thing) (rb qb : Nat) (keep : Nat) (xs : List Nat) (x : Option (Bool × Nat × List Nat)) (e : Ending) (w' : World) : Prop :=
  match x with
  | none => e = .panicked oops ∧ St B w0 w' r
  | some (b, q, o) => e = .returned (.bool b) ∧ ∃ f, Rst B w0 w' (fxL f ++ r) rb qb (fxV f) keep xs q o

set_option maxRecDepth 100000 in
set_option maxHeartbeats 2000000 in
theorem block_st {f : Option (Nat × Nat × Nat)} (h : Rst B w0 w (fxL f ++ r) rb qb (fxV f) keep xs p out) (hk : keep ≤ 1000000) (ho : out.length + 258 * (row xs).length ≤ 500000000) (hxl : xs.length ≤ 60000) :
    Calls Tryz.prog 19 #[.pointer (some ⟨rb, 0, none⟩)] w (Block10 B w0 r rb qb keep xs (blockAt (row xs) p out)) := by
  obtain ⟨X, hXX⟩ : ∃ X, blockAt (row xs) p out = X := ⟨_, rfl⟩
  rw [hXX]
  have HXX := Lib.hid hXX
  clear hXX
  have hpl := h.place
  have hRl := row_length xs
  have hbad : ∀ W, X = none → St B w0 W r → Block10 B w0 r rb qb keep xs X (.panicked oops) W := fun W hX s => by rw [hX]; exact ⟨rfl, s⟩
  have HBAD := Lib.hid hbad
  clear hbad
  by_cases h1 : 8 * xs.length < p + 1
  · have hX : X = none := by rw [← HXX.out]; unfold blockAt; rw [if_pos (by omega)]
    have HX := Lib.hid hX
    have hn := rnumber_no h 1 (by omega) h1
    clear hX HXX
    go_enter Tryz.func19, Tryz.ntmps19
    go_wp2_with fail
    refine hn.mono ?_
    rintro e w1 ⟨rfl, s1⟩
    exact ⟨rfl, HBAD.out _ HX.out (fx_drop s1)⟩
  by_cases h3 : 8 * xs.length < p + 3
  · have hX : X = none := by rw [← HXX.out]; unfold blockAt; rw [if_pos (by omega)]
    have HX := Lib.hid hX
    have hn := rnumber_ok h 1 (by omega) (by omega)
    generalize nm (row xs) p 1 = x at hn
    clear hX HXX
    go_enter Tryz.func19, Tryz.ntmps19
    go_wp2_with fail
    refine hn.mono ?_
    rintro e w1 ⟨rfl, s1⟩
    have hn2 := rnumber_no s1 2 (by omega) (by omega)
    go_wp2_with fail
    refine hn2.mono ?_
    rintro e w2 ⟨rfl, s2⟩
    exact ⟨rfl, HBAD.out _ HX.out (fx_drop s2)⟩
  have hn1 := rnumber_ok h 1 (by omega) (by omega)
  have hyb := nm_lt (row xs) (p + 1) 2
  have hXE : X = ((if nm (row xs) (p + 1) 2 = 0 then storedAt (row xs) (p + 3) out else if nm (row xs) (p + 1) 2 = 1 then syms fixP fixQ (row xs) (p + 3) out else
      if nm (row xs) (p + 1) 2 = 2 then (headAt (row xs) (p + 3)).bind fun y => syms y.1 y.2.1 (row xs) y.2.2 out else none).map fun x => (decide (nm (row xs) p 1 = 1), x)) := by
    rw [← HXX.out]; unfold blockAt; rw [if_neg (by omega)]
  have hn2 := fun W (s : Rst B w0 W (fxL f ++ r) rb qb (fxV f) keep xs (p + 1) out) => rnumber_ok s 2 (by omega) (by omega)
  rw [show p + 1 + 2 = p + 3 from by omega] at hn2
  obtain ⟨b, hb, hb2⟩ : ∃ b, (((nm (row xs) p 1 : Nat) : Int) == 1) = b ∧ decide (nm (row xs) p 1 = 1) = b := ⟨_, rfl, by
    by_cases g : nm (row xs) p 1 = 1
    · rw [g]; rfl
    · rw [decide_eq_false g, eq_comm, beq_eq_false_iff_ne]; omega⟩
  rw [hb2] at hXE
  generalize nm (row xs) p 1 = x at *
  generalize nm (row xs) (p + 1) 2 = y at *
  obtain ⟨p3, hp3⟩ : ∃ p3, p + 3 = p3 := ⟨_, rfl⟩
  rw [hp3] at hXE hn2
  have hend : ∀ W Y, X = Y.map (fun x => (b, x)) → ∀ e, Went B w0 r rb qb keep xs Y e W → (Y = none ∧ e = .panicked oops ∧ X = none ∧ St B w0 W r) ∨ (e = .returned (.tuple #[]) ∧ Block10 B w0 r rb qb keep xs X (.returned (.bool b)) W) := fun W Y hX e s => by
    cases Y with
    | none => exact .inl ⟨rfl, s.1, hX, s.2⟩
    | some z =>
      obtain ⟨q, o⟩ := z
      refine .inr ⟨s.1, ?_⟩
      rw [hX]
      exact ⟨rfl, s.2⟩
  have HEND := Lib.hid hend
  have HXE := Lib.hid hXE
  clear hXE hend hb2 HXX h1 h3
  go_enter Tryz.func19, Tryz.ntmps19
  go_wp2_with fail
  refine hn1.mono ?_
  rintro e w1 ⟨rfl, s1⟩
  have hn2 := hn2 _ s1
  go_wp2_with fail
  refine hn2.mono ?_
  rintro e w2 ⟨rfl, s2⟩
  clear hn1 hn2 s1 h
  have hk4 : y = 0 ∨ y = 1 ∨ y = 2 ∨ y = 3 := by omega
  rcases hk4 with rfl | rfl | rfl | rfl <;> have hXE := HXE.out <;> clear HXE
  · rw [if_pos rfl] at hXE
    have HE := Lib.hid hXE
    clear hXE
    have hix := kinds_at0
    go_wp2_with fail
    refine (kinds_any _).mono ?_
    rintro e w3 ⟨rfl, hb3⟩
    have s3 := s2.quiet hb3
    clear hb3 s2
    have hs := (stored_st s3 hk (by omega)).mono (fun e w' g => Same10.went g)
    go_wp2_with fail
    refine hs.mono ?_
    intro e w4 hs4
    rcases HEND.out _ _ HE.out _ hs4 with ⟨_, rfl, hX, s5⟩ | ⟨rfl, hfin⟩
    · exact ⟨rfl, HBAD.out _ hX s5⟩
    · clear hs4 hs s3 HBAD HEND HE
      go_wp2
      go_ret
      exact hfin
  · rw [if_neg (by decide), if_pos rfl] at hXE
    have HE := Lib.hid hXE
    clear hXE
    have hix := kinds_at1
    go_wp2_with fail
    refine (kinds_any _).mono ?_
    rintro e w3 ⟨rfl, hb3⟩
    have s3 := s2.quiet hb3
    clear hb3 s2
    have hs := fixed_st s3 hk (by omega)
    go_wp2_with fail
    refine hs.mono ?_
    intro e w4 hs4
    rcases HEND.out _ _ HE.out _ hs4 with ⟨_, rfl, hX, s5⟩ | ⟨rfl, hfin⟩
    · exact ⟨rfl, HBAD.out _ hX s5⟩
    · clear hs4 hs s3 HBAD HEND HE
      go_wp2
      go_ret
      exact hfin
  · rw [if_neg (by decide), if_neg (by decide), if_pos rfl] at hXE
    have HE := Lib.hid hXE
    clear hXE
    have hix := kinds_at2
    go_wp2_with fail
    refine (kinds_any _).mono ?_
    rintro e w3 ⟨rfl, hb3⟩
    have s3 := s2.quiet hb3
    clear hb3 s2
    have hs := (dynamic_st s3 hk (by omega) hxl).mono (fun e w' g => Same10.went g)
    go_wp2_with fail
    refine hs.mono ?_
    intro e w4 hs4
    rcases HEND.out _ _ HE.out _ hs4 with ⟨_, rfl, hX, s5⟩ | ⟨rfl, hfin⟩
    · exact ⟨rfl, HBAD.out _ hX s5⟩
    · clear hs4 hs s3 HBAD HEND HE
      go_wp2
      go_ret
      exact hfin
  · rw [if_neg (by decide), if_neg (by decide), if_neg (by decide)] at hXE
    have HX := Lib.hid hXE
    clear hXE
    have hix := kinds_at3
    go_wp2_with fail
    refine (kinds_any _).mono ?_
    rintro e w3 ⟨rfl, hb3⟩
    have s3 := fx_drop (s2.quiet hb3).rest
    clear hb3 s2
    go_wp2_with fail
    refine (none_st s3).mono ?_
    rintro e w4 ⟨rfl, s4⟩
    exact ⟨rfl, HBAD.out _ HX.out s4⟩

end
end Go.Proofs.YtpinfihmageeoaaGreat.Inf

namespace Go
variable {P : Program}
theorem results_row_cell {fn : Func} {p q : Tmp} {ty ty2 : TypeId} (h : fn.results = #[.cell p ty, .cell q ty2]) (tmps : Array Value) (w : World) (g g2 : Nat) (t : TypeId) (cs : Array Value) (x : Value) (fr : Nat × Nat) (d : TypeDesc)
    (hp : tmps.getD p undef = .pointer (some ⟨g, 0, none⟩)) (hg : w.heap[g]? = some (.cells cs t fr))
    (hu : P.underlying ty = some d) (hd : (match d with | .struct _ | .array _ _ => true | _ => false) = true) (hi : (P.info? ty).map (·.size) = some cs.size)
    (hq : tmps.getD q undef = .pointer (some ⟨g2, 0, none⟩)) (hl : (loadVar ty2 ⟨g2, 0, none⟩).run P w = .ok x w) :
    (results fn tmps).run P w = .ok (.tuple #[.agg cs, x]) w := by
  have hp' : tmps[p]?.getD undef = .pointer (some ⟨g, 0, none⟩) := by simpa using hp
  have hq' : tmps[q]?.getD undef = .pointer (some ⟨g2, 0, none⟩) := by simpa using hq
  simp [results, h, hp', hq', asAddr, run_loadVar_row w g t ty cs fr d hg hu hd hi, hl]

theorem wp_calm {c : Code} {Q : Exit → Act → World → Prop} {a : Act} {w : World} (h : c.wp P (fun ex a w => match ex with | .normal => Q .normal a w | _ => False) a w) : c.wp P Q a w := by
  refine Code.wp_mono (fun e a w h => ?_) h
  cases e with
  | normal => exact h
  | _ => exact h.elim
end Go
namespace Go.Proofs.YtpinfihmageeoaaGreat.Inf
open Go.RowKit Kraft Hd

theorem reader_zero : (Tryz.zeroCells56.size, Tryz.zeroCells56[1]?, Tryz.zeroCells56[32770]?, Tryz.zeroCells56[32771]?) = (32773, some (.pointer none), some (.int .i64 0), some (.slice none 0 0)) := by kernel_rfl

theorem reader_new (qb keep : Nat) : RdrC ((Tryz.zeroCells56.setIfInBounds 0 (.pointer (some ⟨qb, 0, none⟩))).setIfInBounds 32772 (.int .i64 (keep : Int))) qb (.pointer none) [] (.slice none 0 0) keep := by
  have h := reader_zero
  generalize Tryz.zeroCells56 = z at h ⊢
  simp only [Prod.mk.injEq] at h
  obtain ⟨e1, e2, e3, e4⟩ := h
  refine ⟨?_, ?_, ?_, fun j _ h => by simp at h, ?_, ?_, ?_⟩
  · rw [Array.size_setIfInBounds, Array.size_setIfInBounds]; exact e1
  · rw [set_at _ _ _ _ (by omega), set_here _ _ _ (by omega)]
  · rw [set_at _ _ _ _ (by omega), set_at _ _ _ _ (by omega)]; exact e2
  · rw [set_at _ _ _ _ (by omega), set_at _ _ _ _ (by omega)]; exact e3
  · rw [set_at _ _ _ _ (by omega), set_at _ _ _ _ (by omega)]; exact e4
  · rw [set_here _ _ _ (by rw [Array.size_setIfInBounds]; omega)]

abbrev flowC (bytes : Value) (size used : Nat) : Array Value := #[bytes, .int .i64 (size : Int), .int .i64 (used : Int), .bool false]

theorem size_flow : (Tryz.prog.info? 28).map (·.size) = some 4 := by kernel_rfl

set_option maxRecDepth 100000 in
theorem catch10_oops (b1 b2 : Nat) (cs : Array Value) (x2 : Value) (w : World) (h12 : b1 ≠ b2)
    (c1 : w.heap[b1]? = some (.cells cs 28 (0, 0))) (hs : cs.size = 4) (c2 : w.heap[b2]? = some (.cells #[x2] 22 (0, 0))) :
    CallsD Tryz.prog 17 #[.pointer (some ⟨b1, 0, none⟩), .pointer (some ⟨b2, 0, none⟩)] (.panicking oops) w fun e u' w' =>
      e = .returned (.tuple #[]) ∧ u' = .panicking [{ v := .iface 22 (.int .i64 2), recovered := true }] ∧ w' = ((((w.setCell ⟨b1, 0, none⟩ (.slice none 0 0)).setCell ⟨b1, 1, none⟩ (.int .i64 0)).setCell ⟨b1, 2, none⟩ (.int .i64 0)).setCell ⟨b1, 3, none⟩ (.bool false)).setCell ⟨b2, 0, none⟩ (.int .i64 2) := by
  have k0 : w.cell? ⟨b1, 0, none⟩ = some (cs[0]'(by omega)) := by rw [cell_of_row _ b1 0 cs _ (0, 0) c1, Array.getElem?_eq_getElem]
  have k1 : w.cell? ⟨b1, 1, none⟩ = some (cs[1]'(by omega)) := by rw [cell_of_row _ b1 1 cs _ (0, 0) c1, Array.getElem?_eq_getElem]
  have k2 : w.cell? ⟨b1, 2, none⟩ = some (cs[2]'(by omega)) := by rw [cell_of_row _ b1 2 cs _ (0, 0) c1, Array.getElem?_eq_getElem]
  have k3 : w.cell? ⟨b1, 3, none⟩ = some (cs[3]'(by omega)) := by rw [cell_of_row _ b1 3 cs _ (0, 0) c1, Array.getElem?_eq_getElem]
  have k4 : w.cell? ⟨b2, 0, none⟩ = some x2 := by rw [cell_of_row _ b2 0 _ _ (0, 0) c2]; rfl
  have z : ∀ j, w.frozen? ⟨b1, j, none⟩ = false := fun j => by simp [World.frozen?, c1]
  have z4 : w.frozen? ⟨b2, 0, none⟩ = false := by simp [World.frozen?, c2]
  clear c1 c2
  refine callsD_of_wpS Tryz.func17 rfl fun c₀ cs hu => ?_
  unfold oops at hu
  apply wpS_seq
  apply wpS_region
  simp [wpOpsS, go_sem, recoverD, hu, Tryz.ntmps17, Exit.thenS]
  refine wpS_cond (t := true) (by simp [Act.eval, Array.replicate]) ?_
  simp only [if_true]
  apply wpS_region
  simp [wpOpsS, go_sem, k0, k1, k2, k3, k4, z, z4, bodyPostS, results, Tryz.results17]

theorem catch10_idle (b1 b2 : Nat) (w : World) :
    CallsD Tryz.prog 17 #[.pointer (some ⟨b1, 0, none⟩), .pointer (some ⟨b2, 0, none⟩)] .returning w fun e u' w' => e = .returned (.tuple #[]) ∧ u' = .returning ∧ w' = w := by
  refine callsD_of_wpS Tryz.func17 rfl fun c₀ cs hu => ?_
  apply wpS_seq
  apply wpS_region
  simp [wpOpsS, go_sem, recoverD, hu, Tryz.ntmps17, Exit.thenS]
  refine wpS_cond (t := false) (by simp [Act.eval, Array.replicate]) ?_
  simp only [Bool.false_eq_true, if_false]
  refine wpS_of_wp (wp_skip ?_)
  cases c₀
  simp_all [bodyPostS, results, Tryz.results17]

def Flow10 (B : Nat) (w0 : World) (r : List Thing) (keep : Nat) (x : Option (Nat × List Nat)) (e : Ending) (w' : World) : Prop :=
  match x with
  | none => e = .returned (.tuple #[.agg (flowC (.slice none 0 0) 0 0), .int .i64 2]) ∧ St B w0 w' r
  | some (q, o) => ∃ oa oc, e = .returned (.tuple #[.agg (flowC (.slice oa (o.take keep).length oc) o.length (used q)), .int .i64 0]) ∧ St B w0 w' (rowT 5 1 (.slice oa (o.take keep).length oc) (o.take keep).length (u8s (o.take keep)) :: r)

section
variable {B : Nat} {w0 w : World} {r : List Thing} {rb qb : Nat} {fx kv : Value} {out xs : List Nat} {keep p : Nat}

theorem rst_new {cs : Array Value} (hC : RdrC cs qb (.pointer none) [] (.slice none 0 0) keep) (st : St B w0 w (boxT rb cs 56 :: rdT qb xs 0 :: r)) : Rst B w0 w (fxL none ++ r) rb qb (fxV none) keep xs 0 [] := by
  refine ⟨none, 0, ?_⟩
  rw [List.take_nil]
  exact (St.addNil (rdr_shut hC st)).swap

set_option maxRecDepth 100000 in
set_option maxHeartbeats 4000000 in
theorem inflate_st (st : St B w0 w r) (v : Value) (xs : List Nat) (hv : ∀ W, St B w0 W r → ByteRow W v xs) (hx : xs.length ≤ 60000) (keep : Nat) (hk : keep ≤ 1000000) :
    Calls Tryz.prog 5 #[v, .int .i64 (keep : Int)] w (Flow10 B w0 r keep (infl xs)) := by
  have hmf : ∀ (fn : Fn) (first cap : Array Value) (w : World), (Instr.makeFunc fn first cap).run Tryz.prog w = .ok (.func fn first cap) w := fun _ _ _ _ => rfl
  obtain ⟨X, hX⟩ : ∃ X, infl xs = X := ⟨_, rfl⟩
  rw [hX]
  have HX := Lib.hid (show strm (row xs) 0 [] = X from hX)
  clear hX
  have s1 := (st.newBox (flowC (.slice none 0 0) 0 0) 28).newBox #[.int .i64 0] 22
  rw [show (w.alloc (.cells (flowC (.slice none 0 0) 0 0) 28)).heap.size = w.heap.size + 1 from by simp] at s1
  have hr := hv _ s1.drop.drop
  have hnew := new_st s1 hr.reads hr.byte (by omega)
  clear hv hr
  go_enter_defers Tryz.func5, Tryz.ntmps5
  go_wp2_with fail
  refine hnew.mono ?_
  rintro e w2 ⟨qb, rfl, s2⟩
  have hC := reader_new qb keep
  have s3 := s2.newBox ((Tryz.zeroCells56.setIfInBounds 0 (.pointer (some ⟨qb, 0, none⟩))).setIfInBounds 32772 (.int .i64 (keep : Int))) 56
  clear hnew s1 s2
  have h0 := rst_new hC s3
  clear s3 hC
  go_wp2
  obtain ⟨rb, hrb⟩ : ∃ rb, w2.heap.size = rb := ⟨_, rfl⟩
  rw [hrb] at h0
  try rw [hrb]
  clear hrb
  obtain ⟨fb, hfb⟩ : ∃ fb, w.heap.size = fb := ⟨_, rfl⟩
  rw [hfb] at h0
  try rw [hfb]
  clear hfb
  generalize w2.alloc (.cells ((Tryz.zeroCells56.setIfInBounds 0 (.pointer (some ⟨qb, 0, none⟩))).setIfInBounds 32772 (.int .i64 (keep : Int))) 56) = w3 at *
  generalize (Tryz.zeroCells56.setIfInBounds 0 (.pointer (some ⟨qb, 0, none⟩))).setIfInBounds 32772 (.int .i64 (keep : Int)) = cs at *
  obtain ⟨eb, heb, hne⟩ : ∃ eb, fb + 1 = eb ∧ fb ≠ eb := ⟨_, rfl, by omega⟩
  rw [heb] at h0
  try rw [heb]
  clear heb
  have hRl := row_length xs
  go_loopw [] (fun wr => ∃ q o f, q ≤ (row xs).length ∧ Hid (strm (row xs) q o = X) ∧ o.length ≤ 258 * q ∧ Rst B w0 wr (fxL f ++ (boxT eb #[.int .i64 0] 22 :: boxT fb (flowC (.slice none 0 0) 0 0) 28 :: r)) rb qb (fxV f) keep xs q o) (fun wr => match wr.cell? ⟨qb, 1, none⟩ with | some v => (row xs).length - (intOf v).toNat | none => 0)
  case atStart => exact ⟨0, [], none, Nat.zero_le _, HX, Nat.zero_le _, h0⟩
  case round =>
    clear h0
    obtain ⟨q, o, f, hq, HS, hol, h1⟩ := hrel
    have hm2 := h1.at1
    have hblk := block_st h1 hk (by omega) hx
    cases hb : blockAt (row xs) q o with
    | none =>
      rw [hb] at hblk
      have hX : X = none := by rw [← HS.out]; exact strm_none hb
      subst hX
      clear HS hb h1 hm2
      go_wp2_with fail
      refine hblk.mono ?_
      rintro e w4 ⟨rfl, s4⟩
      have hcatch := catch10_oops fb eb (flowC (.slice none 0 0) 0 0) (.int .i64 0) w4 hne s4.swap.box rfl s4.box
      have s5 := ((((s4.swap.setBoxAt 0 (.slice none 0 0)).setBoxAt 1 (.int .i64 0)).setBoxAt 2 (.int .i64 0)).setBoxAt 3 (.bool false)).swap.setBoxAt 0 (.int .i64 2)
      go_wp2
      refine leaves_cons (f := 17) (args := #[.pointer (some ⟨fb, 0, none⟩), .pointer (some ⟨eb, 0, none⟩)]) (by simp) (by simp [go_sem]) ?_
      refine hcatch.mono ?_
      rintro e u' w'' ⟨rfl, rfl, rfl⟩
      generalize ((((w4.setCell ⟨fb, 0, none⟩ (.slice none 0 0)).setCell ⟨fb, 1, none⟩ (.int .i64 0)).setCell ⟨fb, 2, none⟩ (.int .i64 0)).setCell ⟨fb, 3, none⟩ (.bool false)).setCell ⟨eb, 0, none⟩ (.int .i64 2) = w6 at *
      replace s5 : St B w0 w6 (boxT eb #[.int .i64 2] 22 :: boxT fb (flowC (.slice none 0 0) 0 0) 28 :: r) := s5
      have e0 : w6.cell? ⟨eb, 0, none⟩ = some (.int .i64 2) := (s5.boxAt 0).1
      have k0 : w6.cell? ⟨fb, 0, none⟩ = some (.slice none 0 0) := (s5.swap.boxAt 0).1
      have k1 : w6.cell? ⟨fb, 1, none⟩ = some (.int .i64 0) := (s5.swap.boxAt 1).1
      have k2 : w6.cell? ⟨fb, 2, none⟩ = some (.int .i64 0) := (s5.swap.boxAt 2).1
      have k3 : w6.cell? ⟨fb, 3, none⟩ = some (.bool false) := (s5.swap.boxAt 3).1
      have hfin : Flow10 B w0 r keep none (.returned (.tuple #[.agg (flowC (.slice none 0 0) 0 0), .int .i64 2])) w6 := ⟨rfl, s5.drop.drop⟩
      simp [Leaves, settle, results, Tryz.results5, go_sem, e0, k0, k1, k2, k3]
      exact hfin
    | some y =>
      obtain ⟨b, q', o'⟩ := y
      rw [hb] at hblk
      have hlt := block_some hb
      have hfar := block_far hb
      cases b with
      | false =>
        have hX : strm (row xs) q' o' = X := by rw [← HS.out]; exact (strm_on hb).symm
        have HX := Lib.hid hX
        clear hX HS hb h1
        go_wp2_with fail
        refine hblk.mono ?_
        rintro e w4 ⟨rfl, f', s4⟩
        have hm4 := s4.at1
        go_wp2
        refine ⟨⟨q', o', f', by omega, HX, by omega, s4⟩, ?_⟩
        rw [hm4, hm2]
        simp [intOf]
        omega
      | true =>
        have hX : X = some (q', o') := by rw [← HS.out]; exact strm_end hb
        subst hX
        clear HS hb h1 hm2
        go_wp2_with fail
        refine hblk.mono ?_
        rintro e w4 ⟨rfl, f', s4⟩
        have c0 := s4.cells.1
        have hal := ralign_any10 s4
        clear hblk
        go_wp2_with fail
        refine hal.mono ?_
        rintro e w5 ⟨rfl, s5⟩
        clear hal s4 c0
        obtain ⟨oa, oc, st5⟩ := s5.st
        have s6 : St B w0 w5 (rdrT rb qb (fxV f') o' (.slice oa (o'.take keep).length oc) keep :: rowT 5 1 (.slice oa (o'.take keep).length oc) (o'.take keep).length (u8s (o'.take keep)) :: rdT qb xs (up8 q') :: boxT eb #[.int .i64 0] 22 :: boxT fb (flowC (.slice none 0 0) 0 0) 28 :: r) :=
          ⟨st5.only, st5.size, Sep.cut (fxL f') _ [rdrT rb qb (fxV f') o' (.slice oa (o'.take keep).length oc) keep, rowT 5 1 (.slice oa (o'.take keep).length oc) (o'.take keep).length (u8s (o'.take keep)), rdT qb xs (up8 q')] _ st5.sep⟩
        obtain ⟨uq, huq, hu8⟩ : ∃ uq, used q' = uq ∧ up8 q' = 8 * uq := ⟨_, rfl, by unfold used up8; omega⟩
        have hut : uq ≤ 60001 := by unfold used at huq; omega
        rw [hu8] at s6
        have hq1 : ((8 * uq : Nat) : Int) / 8 = (uq : Int) := by omega
        have hq2 : ((8 * uq : Nat) : Int).tdiv 8 = (uq : Int) := by rw [Int.tdiv_eq_ediv_of_nonneg (by omega)]; exact hq1
        obtain ⟨pp, hpp⟩ : ∃ z, 8 * uq = z := ⟨_, rfl⟩
        rw [hpp] at s6 hq1 hq2
        have hfin : ∀ W, St B w0 W (rowT 5 1 (.slice oa (o'.take keep).length oc) (o'.take keep).length (u8s (o'.take keep)) :: r) → Flow10 B w0 r keep (some (q', o')) (.returned (.tuple #[.agg (flowC (.slice oa (o'.take keep).length oc) o'.length uq), .int .i64 0])) W := fun W s => ⟨oa, oc, by rw [huq], s⟩
        have HF := Lib.hid hfin
        have hS : ∀ W T, St B w0 W (rdrT rb qb (fxV f') o' (.slice oa (o'.take keep).length oc) keep :: T) → (W.cell? ⟨rb, 0, none⟩ = some (.pointer (some ⟨qb, 0, none⟩)) ∧ W.cell? ⟨rb, 32770, none⟩ = some (.int .i64 (o'.length : Int)) ∧ W.cell? ⟨rb, 32771, none⟩ = some (.slice oa (o'.take keep).length oc)) := fun W T s => ⟨(rdr_at s).1, (rdr_at s).2.2.1, (rdr_at s).2.2.2.1⟩
        clear hfin hu8 huq hpp s5 st5 hlt hfar hRl hol hq
        generalize u8s (o'.take keep) = us at *
        generalize (o'.take keep).length = m at *
        obtain ⟨z, hz⟩ : ∃ z, o'.length = z := ⟨_, rfl⟩
        rw [hz] at hS HF
        clear hz
        go_wp2
        refine wp_calm ?_
        refine region_seg (by kernel_rfl) [0] 16 rfl (by kernel_rfl) (by kernel_rfl) (fun _ _ d _ _ h => h.elim) ?_
        have s7 := s6.drew
        have x1 := hS _ _ s7
        clear s6
        generalize w5.drew = wd at *
        intro K hK
        simp only [pickL, List.getElem?_cons_zero]
        go_wp2_with fail
        try clear hK K
        refine wpAny_of_held (S := fun W => W.cell? ⟨rb, 0, none⟩ = some (.pointer (some ⟨qb, 0, none⟩)) ∧ W.cell? ⟨rb, 32770, none⟩ = some (.int .i64 (z : Int)) ∧ W.cell? ⟨rb, 32771, none⟩ = some (.slice oa m oc)) _ _ _ _ ?_
        refine wpAnyH_take (i := 1) (v := .pointer (some ⟨rb, 0, none⟩)) rfl (by kernel_rfl) (by kernel_rfl) (by kernel_rfl) (fun _ _ _ h => h) (.inl ⟨rfl, fun W hW => by go_simp⟩) x1 ?_
        refine wpAnyH_take (i := 2) (v := .pointer (some ⟨rb, 32771, none⟩)) rfl (by kernel_rfl) (by kernel_rfl) (by kernel_rfl) (fun _ _ _ h => h) (.inl ⟨rfl, fun W hW => by go_simp⟩) x1 ?_
        refine wpAnyH_take (i := 3) (v := .slice oa m oc) rfl (by kernel_rfl) (by kernel_rfl) (by kernel_rfl) (fun _ _ _ h => h) (.inl ⟨rfl, fun W hW => by obtain ⟨k0, k1, k2⟩ := hW; go_simp⟩) x1 ?_
        refine wpAnyH_take (i := 4) (v := .pointer (some ⟨rb, 0, none⟩)) rfl (by kernel_rfl) (by kernel_rfl) (by kernel_rfl) (fun _ _ _ h => h) (.inl ⟨rfl, fun W hW => by go_simp⟩) x1 ?_
        refine wpAnyH_take (i := 5) (v := .pointer (some ⟨rb, 0, none⟩)) rfl (by kernel_rfl) (by kernel_rfl) (by kernel_rfl) (fun _ _ _ h => h) (.inl ⟨rfl, fun W hW => by go_simp⟩) x1 ?_
        refine wpAnyH_take (i := 6) (v := .pointer (some ⟨rb, 32770, none⟩)) rfl (by kernel_rfl) (by kernel_rfl) (by kernel_rfl) (fun _ _ _ h => h) (.inl ⟨rfl, fun W hW => by go_simp⟩) x1 ?_
        refine wpAnyH_take (i := 7) (v := .int .i64 (z : Int)) rfl (by kernel_rfl) (by kernel_rfl) (by kernel_rfl) (fun _ _ _ h => h) (.inl ⟨rfl, fun W hW => by obtain ⟨k0, k1, k2⟩ := hW; go_simp⟩) x1 ?_
        refine wpAnyH_take (i := 8) (v := .pointer (some ⟨rb, 0, none⟩)) rfl (by kernel_rfl) (by kernel_rfl) (by kernel_rfl) (fun _ _ _ h => h) (.inl ⟨rfl, fun W hW => by go_simp⟩) x1 ?_
        refine wpAnyH_take (i := 9) (v := .pointer (some ⟨rb, 0, none⟩)) rfl (by kernel_rfl) (by kernel_rfl) (by kernel_rfl) (fun _ _ _ h => h) (.inl ⟨rfl, fun W hW => by go_simp⟩) x1 ?_
        refine wpAnyH_take (i := 10) (v := .pointer (some ⟨rb, 0, none⟩)) rfl (by kernel_rfl) (by kernel_rfl) (by kernel_rfl) (fun _ _ _ h => h) (.inl ⟨rfl, fun W hW => by go_simp⟩) x1 ?_
        refine wpAnyH_take (i := 11) (v := .pointer (some ⟨qb, 0, none⟩)) rfl (by kernel_rfl) (by kernel_rfl) (by kernel_rfl) (fun _ _ _ h => h) (.inl ⟨rfl, fun W hW => by obtain ⟨k0, k1, k2⟩ := hW; go_simp⟩) x1 ?_
        refine held_step (j := 12) _ (by kernel_rfl) rfl ?_
        intro N1 hN1
        have hat := at_st (s7.front 2)
        go_wp2_with (go_at_call 21; refine hat.mono ?_; rintro e w7 ⟨rfl, rfl⟩)
        refine hN1 _ _ x1 ?_
        try clear hN1 N1
        clear hat
        refine held_step (j := 13) _ (by kernel_rfl) rfl ?_
        intro N2 hN2
        go_wp2_with fail
        refine hN2 _ _ x1 ?_
        try clear hN2 N2
        refine held_step (j := 14) _ (by kernel_rfl) rfl ?_
        intro N3 hN3
        go_wp2_with fail
        refine hN3 _ _ x1 ?_
        try clear hN3 N3
        refine held_step (j := 15) _ (by kernel_rfl) rfl ?_
        intro N4 hN4
        have s8 := s7.front 4
        have k0 : wd.cell? ⟨fb, 0, none⟩ = some (.slice none 0 0) := (St.boxAt s8 0).1
        have k1 : wd.cell? ⟨fb, 1, none⟩ = some (.int .i64 0) := (St.boxAt s8 1).1
        have k2 : wd.cell? ⟨fb, 2, none⟩ = some (.int .i64 0) := (St.boxAt s8 2).1
        have k3 : wd.cell? ⟨fb, 3, none⟩ = some (.bool false) := (St.boxAt s8 3).1
        have z0 := (St.boxAt s8 0).2
        have z1 := (St.boxAt s8 1).2
        have z2 := (St.boxAt s8 2).2
        have z3 := (St.boxAt s8 3).2
        have s9 := (((s8.setBoxAt 0 (.slice oa m oc)).setBoxAt 1 (.int .i64 (z : Int))).setBoxAt 2 (.int .i64 (uq : Int))).setBoxAt 3 (.bool false)
        go_wp2_with fail
        generalize (((wd.setCell ⟨fb, 0, none⟩ (.slice oa m oc)).setCell ⟨fb, 1, none⟩ (.int .i64 (z : Int))).setCell ⟨fb, 2, none⟩ (.int .i64 (uq : Int))).setCell ⟨fb, 3, none⟩ (.bool false) = we at s9 ⊢
        replace s9 : St B w0 we (boxT fb (flowC (.slice oa m oc) z uq) 28 :: rdrT rb qb (fxV f') o' (.slice oa m oc) keep :: rowT 5 1 (.slice oa m oc) m us :: rdT qb xs pp :: boxT eb #[.int .i64 0] 22 :: r) := s9
        have x2 := hS _ _ s9.swap
        refine hN4 _ _ x2 ?_
        try clear hN4 N4
        clear k0 k1 k2 k3 z0 z1 z2 z3 s8 s7 x1
        refine held_step (j := 16) _ (by kernel_rfl) rfl ?_
        intro N5 hN5
        have s10 := s9.front 4
        have d0 : we.cell? ⟨eb, 0, none⟩ = some (.int .i64 0) := (St.boxAt s10 0).1
        have d1 := (St.boxAt s10 0).2
        have s11 := s10.setBoxAt 0 (.int .i64 0)
        go_wp2_with fail
        generalize we.setCell ⟨eb, 0, none⟩ (.int .i64 0) = wf at s11 ⊢
        replace s11 : St B w0 wf (boxT eb #[.int .i64 0] 22 :: boxT fb (flowC (.slice oa m oc) z uq) 28 :: rdrT rb qb (fxV f') o' (.slice oa m oc) keep :: rowT 5 1 (.slice oa m oc) m us :: rdT qb xs pp :: r) := s11
        have x3 := hS _ _ (s11.front 2)
        refine hN5 _ _ x3 ?_
        try clear hN5 N5
        clear d0 d1 s10 s9 x2 x3 hS
        refine wpAnyH_done (by kernel_rfl) ?_ 0
        show Exit.then _ _ Exit.normal _ _
        go_wp2
        refine leaves_cons (f := 17) (args := #[.pointer (some ⟨fb, 0, none⟩), .pointer (some ⟨eb, 0, none⟩)]) (by simp) (by simp [go_sem]) ?_
        refine (catch10_idle fb eb wf).mono ?_
        rintro e u' w'' ⟨rfl, rfl, rfl⟩
        have e0 : w''.cell? ⟨eb, 0, none⟩ = some (.int .i64 0) := (s11.boxAt 0).1
        have k0 : w''.cell? ⟨fb, 0, none⟩ = some (.slice oa m oc) := (s11.swap.boxAt 0).1
        have k1 : w''.cell? ⟨fb, 1, none⟩ = some (.int .i64 (z : Int)) := (s11.swap.boxAt 1).1
        have k2 : w''.cell? ⟨fb, 2, none⟩ = some (.int .i64 (uq : Int)) := (s11.swap.boxAt 2).1
        have k3 : w''.cell? ⟨fb, 3, none⟩ = some (.bool false) := (s11.swap.boxAt 3).1
        have hfin := HF.out _ s11.drop.drop.drop.swap.drop
        simp [Leaves, settle, results, Tryz.results5, go_sem, e0, k0, k1, k2, k3]
        exact hfin

set_option maxRecDepth 100000 in
set_option maxHeartbeats 1000000 in
theorem inflate_arg (st : St B w0 w r) (v : Value) (keep : Int) (hk : keep < 0) :
    Calls Tryz.prog 5 #[v, .int .i64 keep] w fun e w' => e = .returned (.tuple #[.agg (flowC (.slice none 0 0) 0 0), .int .i64 5]) ∧ St B w0 w' r := by
  have s3 := (st.alloc (.cells (flowC (.slice none 0 0) 0 0) 28)).alloc (.cells #[.int .i64 5] 22)
  go_enter_defers Tryz.func5, Tryz.ntmps5
  go_wp2
  simp [bodyPostD, Leaves, results, Tryz.results5, go_sem]
  exact s3

end
end Go.Proofs.YtpinfihmageeoaaGreat.Inf

namespace Go.Proofs.YtpinfihmageeoaaGreat.Inf
open Go.RowKit Kraft Hd

theorem strOf_eq {xs ys : List Nat} (hx : ∀ x ∈ xs, x < 256) (hy : ∀ y ∈ ys, y < 256) : strOf xs = strOf ys ↔ xs = ys := by
  constructor
  · intro h
    have h1 := congrArg ByteArray.data h
    simp only [strOf_data] at h1
    have h2 : xs.map UInt8.ofNat = ys.map UInt8.ofNat := by simpa using congrArg Array.toList h1
    have key : ∀ (l : List Nat), (∀ x ∈ l, x < 256) → (l.map UInt8.ofNat).map UInt8.toNat = l := by
      intro l hl
      induction l with
      | nil => rfl
      | cons x l ih =>
        simp only [List.map_cons]
        rw [ih (fun y hy => hl y (List.mem_cons_of_mem _ hy))]
        congr 1
        have := hl x List.mem_cons_self
        simp
        omega
    rw [← key xs hx, ← key ys hy, h2]
  · rintro rfl; rfl

theorem str_list (s t : ByteArray) : s.toList = t.toList ↔ s = t := by
  rw [ByteArray.toList_eq, ByteArray.toList_eq]
  constructor
  · intro h
    cases s; cases t
    simp only at h
    rw [Array.toList_inj.1 h]
  · rintro rfl; rfl

set_option maxRecDepth 100000 in
set_option maxHeartbeats 2000000 in
theorem same_any (w : World) (va vb : Value) (A C : List Nat) (na nb ua ub : Nat) (hA : ByteRow w va A) (hC : ByteRow w vb C) :
    Calls Tryz.prog 15 #[.agg (flowC va na ua), .agg (flowC vb nb ub)] w fun e w' => e = .returned (.bool (decide (A = C ∧ na = nb ∧ ua = ub))) ∧ Below w.heap.size w w' := by
  have hb1 := below_alloc w (.cells (flowC va na ua) 28)
  have hb2 := below_alloc (w.alloc (.cells (flowC va na ua) 28)) (.cells (flowC vb nb ub) 28)
  have hbel : Below w.heap.size w ((w.alloc (.cells (flowC va na ua) 28)).alloc (.cells (flowC vb nb ub) 28)) := hb1.trans (hb2.mono (by simp))
  have hA2 := (hA.below hbel (Nat.le_refl _)).reads
  have hC2 := (hC.below hbel (Nat.le_refl _)).reads
  have cA := run_string _ _ _ hA2
  have cC := run_string _ _ _ hC2
  have hs := strOf_eq hA.byte hC.byte
  generalize strOf A = sA at *
  generalize strOf C = sC at *
  have hdec : (decide (A = C ∧ na = nb ∧ ua = ub)) = (decide (sA = sC) && (decide (na = nb) && decide (ua = ub))) := by
    rw [Bool.decide_and, Bool.decide_and]
    congr 1
    exact decide_eq_decide.2 hs.symm
  rw [hdec]
  clear hdec hs hA2 hC2 hb1 hb2
  obtain ⟨aa, ca, rfl, -⟩ := hA
  obtain ⟨ab, cb, rfl, -⟩ := hC
  go_enter Tryz.func15, Tryz.ntmps15
  go_wp2
  all_goals clear cA cC
  all_goals
    go_ret
    refine ⟨?_, hbel⟩
    simp_all [str_list]
    try omega

theorem infl_two : infl [1, 2, 0, 253, 255, 97, 98, 99] = some (56, [97, 98]) := strm_end (by decide +kernel)
theorem infl_bad : infl [7] = none := strm_none (by decide +kernel)
theorem sym_eob : symAt fixP (row [3, 0]) 3 = some (256, 10) := by decide +kernel
theorem infl_none : infl [3, 0] = some (10, []) := by
  refine strm_end ?_
  have h0 : nm (row [3, 0]) (0 + 1) 2 = 1 := by decide +kernel
  have h1 : nm (row [3, 0]) 0 1 = 1 := by decide +kernel
  have h2 : syms fixP fixQ (row [3, 0]) (0 + 3) [] = some (10, []) := syms_end (by rw [row_length]; decide) (step_eob sym_eob)
  unfold blockAt
  rw [if_neg (by rw [row_length]; decide), h0, h1, h2]
  rfl

section
variable {B : Nat} {w0 w : World} {r : List Thing} {xs : List Nat}

theorem rowBox {b : Nat} {cs : Array Value} {t : TypeId} (st : St B w0 w (boxT b cs t :: r)) (xs : List Nat) (hc : cs.toList = u8s xs) (hb : ∀ x ∈ xs, x < 256) : ByteRow w (.slice (some ⟨b, 0, none⟩) xs.length xs.length) xs := by
  refine ⟨some ⟨b, 0, none⟩, xs.length, rfl, Nat.le_refl _, (fun e => absurd e (by simp)), fun i hi => ⟨hb _ (List.getElem_mem hi), b, 0, rfl, ?_⟩⟩
  rw [Nat.zero_add, (st.boxAt i).1, ← Array.getElem?_toList, hc, u8s_get _ _ hi]

theorem inflate_says (st : St B w0 w r) (v : Value) (hv : ∀ W, St B w0 W r → ByteRow W v xs) (hx : xs.length ≤ 60000) (keep n u : Nat) (hk : keep ≤ 1000000) {q : Nat} {o : List Nat} (h : infl xs = some (q, o)) (hok : o.length ≤ keep) (hn : o.length = n) (hu : used q = u) :
    Calls Tryz.prog 5 #[v, .int .i64 (keep : Int)] w fun e w' => ∃ oa oc, e = .returned (.tuple #[.agg #[.slice oa n oc, .int .i64 (n : Int), .int .i64 (u : Int), .bool false], .int .i64 0]) ∧ St B w0 w' (rowT 5 1 (.slice oa n oc) n (u8s o) :: r) := by
  refine (inflate_st st v xs hv hx keep hk).mono ?_
  intro e w' hf
  unfold Flow10 at hf
  rw [h] at hf
  obtain ⟨oa, oc, he, s⟩ := hf
  rw [List.take_of_length_le hok, hn] at s
  rw [List.take_of_length_le hok, hn, hu] at he
  exact ⟨oa, oc, he, s⟩

theorem inflate_fails (st : St B w0 w r) (v : Value) (hv : ∀ W, St B w0 W r → ByteRow W v xs) (hx : xs.length ≤ 60000) (keep : Nat) (hk : keep ≤ 1000000) (h : infl xs = none) :
    Calls Tryz.prog 5 #[v, .int .i64 (keep : Int)] w fun e w' => e = .returned (.tuple #[.agg #[.slice none 0 0, .int .i64 0, .int .i64 0, .bool false], .int .i64 2]) ∧ St B w0 w' r := by
  refine (inflate_st st v xs hv hx keep hk).mono ?_
  intro e w' hf
  unfold Flow10 at hf
  rw [h] at hf
  exact hf

end

set_option maxRecDepth 100000 in
set_option maxHeartbeats 4000000 in
theorem reads_any (w : World) : Calls Tryz.prog 12 #[] w fun e w' => e = .returned (.bool true) ∧ Below w.heap.size w w' := by
  have hB := Nat.le_refl w.heap.size
  have s1 := (St.start w).newBox #[.int .u8 1, .int .u8 2, .int .u8 0, .int .u8 253, .int .u8 255, .int .u8 97, .int .u8 98, .int .u8 99] 5
  have hi1 := inflate_says s1 (.slice (some ⟨w.heap.size, 0, none⟩) 8 8) (fun W s => rowBox s [1, 2, 0, 253, 255, 97, 98, 99] rfl (by decide)) (by decide) 9 2 7 (by omega) infl_two (by decide) rfl rfl
  go_enter Tryz.func12, Tryz.ntmps12
  go_wp2_with fail
  refine hi1.mono ?_
  rintro e w1 ⟨oa, oc, rfl, s2⟩
  clear hi1 s1
  have s3 := s2.newBox #[.slice oa 2 oc, .int .i64 2, .int .i64 7, .bool false] 28
  have s4 := s3.newBox #[.int .u8 3, .int .u8 0] 5
  have hi2 := inflate_says s4 (.slice (some ⟨(w1.alloc (.cells #[.slice oa 2 oc, .int .i64 2, .int .i64 7, .bool false] 28)).heap.size, 0, none⟩) 2 2) (fun W s => rowBox s [3, 0] rfl (by decide)) (by decide) 9 0 2 (by omega) infl_none (by decide) rfl rfl
  rw [show (w1.alloc (.cells #[.slice oa 2 oc, .int .i64 2, .int .i64 7, .bool false] 28)).heap.size = w1.heap.size + 1 from by simp] at hi2
  go_wp2_with fail
  refine hi2.mono ?_
  rintro e w2 ⟨oa2, oc2, rfl, s5⟩
  clear hi2 s2 s3 s4
  have s6 := s5.newBox #[.slice oa2 0 oc2, .int .i64 0, .int .i64 2, .bool false] 28
  have s7 := s6.newBox #[.int .u8 7] 5
  have hi3 := inflate_fails s7 (.slice (some ⟨(w2.alloc (.cells #[.slice oa2 0 oc2, .int .i64 0, .int .i64 2, .bool false] 28)).heap.size, 0, none⟩) 1 1) (fun W s => rowBox s [7] rfl (by decide)) (by decide) 9 (by omega) infl_bad
  rw [show (w2.alloc (.cells #[.slice oa2 0 oc2, .int .i64 0, .int .i64 2, .bool false] 28)).heap.size = w2.heap.size + 1 from by simp] at hi3 s7
  go_wp2_with fail
  refine hi3.mono ?_
  rintro e w3 ⟨rfl, s8⟩
  clear hi3 s5 s6 s7
  have s9 := s8.newBox #[.slice none 0 0, .int .i64 0, .int .i64 0, .bool false] 28
  have hstr := run_string _ _ _ (Reads.of_owns (St.row (s9.front 6)))
  rw [show strOf [97, 98] = ⟨#[97, 98]⟩ from by decide] at hstr
  have k0 : (w3.alloc (.cells #[.slice none 0 0, .int .i64 0, .int .i64 0, .bool false] 28)).cell? ⟨w1.heap.size, 0, none⟩ = some (.slice oa 2 oc) := (St.boxAt (s9.front 5) 0).1
  have k1 : (w3.alloc (.cells #[.slice none 0 0, .int .i64 0, .int .i64 0, .bool false] 28)).cell? ⟨w1.heap.size, 1, none⟩ = some (.int .i64 2) := (St.boxAt (s9.front 5) 1).1
  have k2 : (w3.alloc (.cells #[.slice none 0 0, .int .i64 0, .int .i64 0, .bool false] 28)).cell? ⟨w1.heap.size, 2, none⟩ = some (.int .i64 7) := (St.boxAt (s9.front 5) 2).1
  have k3 : (w3.alloc (.cells #[.slice none 0 0, .int .i64 0, .int .i64 0, .bool false] 28)).cell? ⟨w1.heap.size, 3, none⟩ = some (.bool false) := (St.boxAt (s9.front 5) 3).1
  have j1 : (w3.alloc (.cells #[.slice none 0 0, .int .i64 0, .int .i64 0, .bool false] 28)).cell? ⟨w2.heap.size, 1, none⟩ = some (.int .i64 0) := (St.boxAt (s9.front 2) 1).1
  have j2 : (w3.alloc (.cells #[.slice none 0 0, .int .i64 0, .int .i64 0, .bool false] 28)).cell? ⟨w2.heap.size, 2, none⟩ = some (.int .i64 2) := (St.boxAt (s9.front 2) 2).1
  have hbel := s9.below hB
  clear s8 s9
  go_wp2
  go_ret
  exact ⟨rfl, hbel⟩

end Go.Proofs.YtpinfihmageeoaaGreat.Inf

namespace Go.Proofs.YtpinfihmageeoaaGreat.Inf
open Go.RowKit Kraft Hd

theorem strOf_app (a b : List Nat) : strOf a ++ strOf b = strOf (a ++ b) := by
  apply ByteArray.ext
  rw [ByteArray.data_append, strOf_data, strOf_data, strOf_data, List.map_append]
  simp
theorem strOf_size (a : List Nat) : (strOf a).size = a.length := by
  show (strOf a).data.size = _
  rw [strOf_data]
  simp

theorem litRow {B : Nat} {w0 w : World} {r : List Thing} (st : St B w0 w r) (xs : List Nat) (hl : xs.length ≤ 1000) :
    St B w0 (w.alloc (.cells (u8s xs).toArray 5)) (rowT 5 1 (.slice (some ⟨w.heap.size, 0, none⟩) xs.length xs.length) xs.length (u8s xs) :: r) := by
  have h := World.ownsRow_lit (base := w.heap.size) (e := 5) (size := 1) w (u8s xs).toArray xs.length (Nat.le_refl _) (by unfold maxLen; omega) (by simp [u8s])
  exact st.addRow (below_alloc w _) (by simpa using h)

end Go.Proofs.YtpinfihmageeoaaGreat.Inf
