/-
  Contracts of package near: nearest. No conditions but that rows are small.
-/
import Derived.Test.YtjchchinmggldaaNearC
namespace Go.Proofs.Ytjchchinmggldaa.Near
open Go.RowKit Go.Shelf Go.Proofs.Ytjchchinmggldaa.Suf

theorem store_func (P : Program) (W : World) (p : Addr) (m : Mode) (fn : Fn) (f c : Array Value) : (store p (.func fn f c) m).run P W = Go.stored P W p (.func fn f c) m := run_store P W p _ m rfl
attribute [local go_sem] store_func Oper.semAt_some

theorem heldStk {n1 : Nat} {w1 : World} {L : Nat → List Thing} {sb : Nat} {xs : Nat → List Int} {b : Nat} (hL : ∀ k X T, (∀ j, T j → ∀ cs t fr, X.heap[j]? ≠ some (.cells cs t fr)) → ∀ A ∈ L k, Off X T A) (hb : n1 ≤ b) : OwnFrom b (fun k X => Stk n1 w1 X (L k) sb (xs k)) := by
  rintro k A B row ⟨v, h⟩ hg hr
  have hT : ∀ j, (fun j => row = some j) j → ∀ cs t fr, A.heap[j]? ≠ some (.cells cs t fr) := fun j hj cs t fr e => by
    obtain ⟨o, ho, hc⟩ := (hr j hj).2
    rw [e] at ho
    obtain rfl := Option.some.inj ho
    cases hc
  refine ⟨v, h.other (T := fun j => row = some j) (fun D hD => ?_) (fun j hj => ?_) ⟨hg.os, hg.tape, hg.output, hg.size, fun k hk hn => hg.block k hk (fun e => hn e.symm)⟩⟩
  · rcases List.mem_cons.1 hD with rfl | hD
    · exact off_box (fun e hb => hT _ hb _ _ _ e)
    · rcases List.mem_cons.1 hD with rfl | hD
      · exact off_row (fun j cs fr e hb => hT _ hb _ _ _ e)
      · exact hL k A _ hT D hD
  · have := (hr j hj).1
    omega

theorem rest_off (n0 m N : Nat) (v : Value) (z : Int) (ys : List Int) (X : World) (T : Nat → Prop) (hT : ∀ j, T j → ∀ cs t fr, X.heap[j]? ≠ some (.cells cs t fr)) : ∀ A ∈ rest n0 m N v z ys, Off X T A := by
  intro A hA
  simp only [rest, List.mem_cons, List.not_mem_nil, or_false] at hA
  rcases hA with rfl | rfl | rfl | rfl | rfl | rfl
  · exact off_row (fun j cs fr e hb => hT _ hb _ _ _ e)
  all_goals exact off_box (fun e hb => hT _ hb _ _ _ e)

theorem madeAt {B : Nat} {w0 w w' : World} {r : List Thing} {e : TypeId} {g n : Nat} (h : St B w0 w r) (hg0 : w.heap.size = g) (hown : w'.ownsRow g e 1 (.slice (some ⟨g, 0, none⟩) n n) n (madeCells #[Value.int .i64 0] n).toList) (hg : w.grownBy w' none) : St B w0 w' (numsT e g n (List.replicate n 0) :: r) := by
  subst hg0
  exact h.madeNums hown hg

/-- The blocks of X that are no cells. -/
def noCells (n0 : Nat) (X : World) : Nat → Prop := fun j => n0 ≤ j ∧ ∃ o, X.heap[j]? = some o ∧ o.isCells = false

theorem Stk.freeze {w X : World} {n0 m N sb : Nat} {v : Value} {z : Int} {xs ys : List Int} (h : Stk n0 w X (rest n0 m N v z ys) sb xs) : Stk n0 w X (frozT X (noCells n0 X) :: rest n0 m N v z ys) sb xs := by
  obtain ⟨u, s⟩ := h
  refine ⟨u, ((s.freeze (T := noCells n0 X) (fun A hA => ?_) (fun j hj => hj.1)).front 2).front 2⟩
  have hT : ∀ j, noCells n0 X j → ∀ cs t fr, X.heap[j]? ≠ some (.cells cs t fr) := fun j hj cs t fr e => by
    obtain ⟨-, o, ho, hc⟩ := hj
    rw [e] at ho
    obtain rfl := Option.some.inj ho
    cases hc
  rcases List.mem_cons.1 hA with rfl | hA
  · exact off_box (fun e hb => hT _ hb _ _ _ e)
  · rcases List.mem_cons.1 hA with rfl | hA
    · exact off_row (fun j cs fr e hb => hT _ hb _ _ _ e)
    · exact rest_off n0 m N v z ys X _ hT A hA

theorem body_end {w X W : World} {n0 sb : Nat} {R R' : List Thing} {xs xs' : List Int} (hn : n0 ≤ w.heap.size) (s : Stk n0 w X R sb xs) (h : Stk n0 w W (frozT X (noCells n0 X) :: R') sb xs') : KeepsOthers X W ∧ Below n0 X W ∧ Stk n0 w W R' sb xs' := by
  obtain ⟨u, s⟩ := s
  obtain ⟨v, h⟩ := h
  have hf := h.drop.drop.frozen
  have hb : Below n0 X W := s.between h hn hf.1
  refine ⟨⟨hf.1, fun j o hj hc => ?_⟩, hb, v, ?_⟩
  · have hlt := (Array.getElem?_eq_some_iff.1 hj).1
    by_cases c : j < n0
    · exact (hb.block j c).trans hj
    · exact (hf.2 j ⟨by omega, o, hj, hc⟩ hlt).trans hj
  · exact (h.front 2).drop

theorem Stk.top {B : Nat} {w0 W : World} {R : List Thing} {sb : Nat} {xs : List Int} (h : Stk B w0 W R sb xs) : ∃ a c, W.cell? ⟨sb, 0, none⟩ = some (.slice a xs.length c) := by
  obtain ⟨v, st⟩ := h
  obtain ⟨a, c, rfl⟩ := ownsRow_slice (St.row st.swap)
  exact ⟨a, c, by simpa using (st.boxAt 0).1⟩

section
variable {B : Nat} {w0 w : World} {r : List Thing}

set_option maxRecDepth 100000 in
set_option maxHeartbeats 8000000 in
/-- nearest: by a stack, along the places that the function hands on. -/
theorem nearest_st (st : St B w0 w r) (va : Option Addr) (vc : Nat) (l : List Int) (hv : ∀ W, Below w.heap.size w W → IntRow W (.slice va l.length vc) l) (hl : l.length ≤ 400000)
    (gf : Nat) (lb : Array Value) (eg : ∀ args w, (callFunc gf args).run Try.prog w = .ok (.enter gf args) w) (hFg : Fence.wide.fn gf) (p : Nat → Nat) (hp : ∀ k, k < l.length → p k < l.length) (z : Int) (hz : ∀ i : Nat, i < l.length → (i : Int) ≠ z)
    (hseq : SeqN Fence.wide 2 Try.prog gf lb (fun k => #[.int .i64 (p k : Int), .int .i64 (nthI l (p k))]) (Below w.heap.size) l.length w) :
    Calls Try.prog 15 #[.slice va l.length vc, .func (.func gf) #[] lb, .int .i64 z] w fun e w' => ∃ v, e = .returned v ∧ St B w0 w' (rowT 3 1 v l.length (iVals (fillR l p z l.length)) :: r) := by
  have hmf : ∀ (fn : Fn) (first cap : Array Value) (w : World), (Instr.makeFunc fn first cap).run Try.prog w = .ok (.func fn first cap) w := fun _ _ _ _ => rfl
  have HR := Lib.hid (rowNth hv)
  clear hv
  obtain ⟨n0, hn0⟩ : ∃ n0, w.heap.size = n0 := ⟨_, rfl⟩
  obtain ⟨N, hN⟩ : ∃ N, l.length = N := ⟨_, rfl⟩
  have HN := Lib.hid (And.intro hN hn0)
  have HP := Lib.hid hp
  have HZ := Lib.hid hz
  rw [hN] at hl HR hseq HP HZ ⊢
  clear hp hz
  obtain ⟨i0, hi, hz0, hz1, hz2⟩ := info_parts infoI
  have hmk : i0.bytes * N ≤ 281474976710656 := by rw [hz2]; omega
  have hmx : N ≤ maxLen := by unfold maxLen; omega
  refine (callsIn_wide (n := 3)).1 ?_
  refine callsIn_of_wp_marks Try.func15 rfl trivial ?_ rfl
  simp only [Try.ntmps15, List.size_toArray, List.length_cons, List.length_nil, Nat.reduceAdd, Nat.reduceSub, Array.replicate_succ, Array.replicate_zero, List.push_toArray, List.append_toArray, List.nil_append, List.cons_append]
  have s5 := ((((((St.start w).newBox #[.slice va N vc] 22).newBox #[.int .i64 z] 3).newBox #[.slice none 0 0] 34).newBox #[.func (.func 18) #[.pointer (some ⟨n0 + 1 + 1, 0, none⟩)] #[]] 35).newBox #[.func (.func 19) #[.pointer (some ⟨n0 + 1 + 1, 0, none⟩)] #[]] 36)
  gi_wp2_with (gi_at_make; refine wpListIn_make_all _ rfl _ _ 22 rfl _ 3 i0 (.int .i64 0) 1 Try.underlying22 hi hz0 hz1 _ _ _ _ N rfl rfl rfl rfl hmk hmx (Nat.le_refl _) ?_)
  intro w4 hown hg
  have t1 := madeAt s5 (by simp [hn0]) hown hg
  clear s5 hown hg hi hz0 hz1 hz2 hmk hmx
  simp only [World.size_alloc, hn0] at t1
  have t2 := t1.newBox #[.slice (some ⟨n0 + 1 + 1 + 1 + 1 + 1, 0, none⟩) N N] 22
  obtain ⟨m, hm⟩ : ∃ m, w4.heap.size = m := ⟨_, rfl⟩
  rw [hm] at t2
  have hk0 : ∀ W, St n0 w W (boxT (n0 + 1 + 1) #[.slice none 0 0] 34 :: rowT 3 1 (.slice none 0 0) 0 [] :: rest n0 m N (.slice va N vc) z (fillR l p z 0)) → Stk n0 w W (rest n0 m N (.slice va N vc) z (fillR l p z 0)) (n0 + 1 + 1) [] := fun W h => ⟨_, h⟩
  have t3 := hk0 _ (by
    have h := t2.addNil (e := 3) (size := 1)
    have e : iVals (fillR l p z 0) = i64s (List.replicate N 0) := by
      rw [fillR, HN.out.1, show List.replicate N (0 : Int) = (List.replicate N 0).map (fun x : Nat => (x : Int)) by simp, iVals_nums]
    unfold rest intsT
    rw [e]
    exact (((((((h.front 1).front 3).front 4).front 6).front 7).front 6).front 6).front 7)
  clear hk0 t1 t2
  have hh := Stk.has (F := []) t3
  have k1 := hh.z
  have k3 := hh.push
  have hpu := push_st (n0 + 1 + 1) [] z (by simp) t3
  clear t3 hh
  gi_wp2_with fail
  refine ⟨trivial, ?_⟩
  refine (callsIn_wide.2 hpu).mono ?_
  clear hpu k1 k3 hm
  generalize w4.alloc (.cells #[.slice (some ⟨n0 + 1 + 1 + 1 + 1 + 1, 0, none⟩) N N] 22) = w5 at *
  rintro e w6 ⟨rfl, t4⟩
  gi_wp2_with fail
  have hsz : n0 ≤ w6.heap.size := by obtain ⟨_, t⟩ := t4; exact t.size
  have hbl : Below w.heap.size w w6 := by obtain ⟨_, t⟩ := t4; rw [hn0]; exact t.below (by omega)
  refine range_count rfl (by omega) (gf := gf) (lb := lb) rfl hFg eg
    hseq (fun h k => Below.trans h k) ?keep hbl (fun _ _ => rfl)
    (fun k X => Stk n0 w X (rest n0 m N (.slice va N vc) z (fillR l p z k)) (n0 + 1 + 1) (allOf z (stackOf l (vis p k))))
    (heldStk (L := fun k => rest n0 m N (.slice va N vc) z (fillR l p z k)) (xs := fun k => allOf z (stackOf l (vis p k))) (fun k X T hT A hA => rest_off n0 m N _ z _ X T hT A hA) hsz)
    t4 ?a1 ?assign ?body ?done
  case keep =>
    intro W l o o' hlW hW h3 h4
    rw [hn0]
    exact belowK_b (w := w6) hsz W l o o' hlW hW h3 h4
  case assign =>
    intro ll j X K hj hK
    gi_wp2
    exact hK
  case body =>
    rintro ll k X hk s
    clear hseq hbl hsz
    obtain ⟨i, hi⟩ : ∃ i, p k = i := ⟨_, rfl⟩
    obtain ⟨x, hx⟩ : ∃ x, nthI l i = x := ⟨_, rfl⟩
    have hik : i < N := by rw [← hi]; exact HP.out k hk
    have HI := Lib.hid (And.intro hi hx)
    have q0 := s.freeze
    have hfin : ∀ W, Stk n0 w W (frozT X (noCells n0 X) :: rest n0 m N (.slice va N vc) z (fillR l p z (k + 1))) (n0 + 1 + 1) (allOf z (stackOf l (vis p (k + 1)))) → KeepsOthers X W ∧ Below w.heap.size X W ∧ Stk n0 w W (rest n0 m N (.slice va N vc) z (fillR l p z (k + 1))) (n0 + 1 + 1) (allOf z (stackOf l (vis p (k + 1)))) := fun W h => by
      have := body_end (by omega) s h
      rwa [← hn0] at this ⊢
    have HFIN := Lib.hid hfin
    clear hfin s
    have hd0 : Down l N k x (stackOf l (vis p k)) (stackOf l (vis p k)) := Down.start x HP.out (by omega)
    generalize frozT X (noCells n0 X) = F at *
    rw [rest_top] at q0
    simp only [hi, hx]
    have hh := Stk.has (F := [F]) q0
    have k4 := hh.pop
    have hlen := hd0.len
    have hpo := pop_st (n0 + 1 + 1) (restOf z (stackOf l (vis p k))) (topOf z (stackOf l (vis p k))) (by rw [restOf_length]; omega) q0
    clear q0 hh hi hx
    gi_wp2_with fail
    refine ⟨trivial, ?_⟩
    refine (callsIn_wide.2 hpo).mono ?_
    clear hpo k4 hlen
    rintro e X1 ⟨rfl, q1⟩
    gi_wp2_with fail
    gi_loopw [13] (fun tv wr => ∃ T, tv = .int .i64 (topOf z T) ∧ Down l N k x (stackOf l (vis p k)) T ∧ Stk n0 w wr (F :: rest n0 m N (.slice va N vc) z (fillR l p z k)) (n0 + 1 + 1) (restOf z T)) (fun _ wr => match wr.cell? ⟨n0 + 1 + 1, 0, none⟩ with | some (.slice _ n _) => n | _ => 0)
    case atStart => exact ⟨_, rfl, hd0, q1⟩
    case round =>
      clear q1 hd0
      obtain ⟨T, rfl, hd, q⟩ := hrel
      have hh := Stk.has (F := [F]) q
      have k1 := hh.z
      have k6 := hh.near
      have k3 := hh.push
      cases T with
      | nil =>
        rw [show topOf z [] = z from rfl]
        clear hh

        have hpick := pick_top l z x (vis p k) _ (hd.stop (fun _ _ e => by cases e))
        have hlen := hd.len
        have q2 := Stk.put q i z
        have hfl : (fillR l p z k).set i z = fillR l p z (k + 1) := by rw [fillR, HI.out.1, HI.out.2, hpick]; try rfl
        rw [hfl] at q2
        have hc := Stk.cell q i (by rw [fillR_length, HN.out.1]) hik
        have f1 := hc.1
        have f2 := hc.2
        have hst : allOf z (i :: []) = allOf z (stackOf l (vis p (k + 1))) := by rw [vis, stackOf, HI.out.1, HI.out.2, (hd.stop (fun _ _ e => by cases e))]
        have hp1 := push_st (n0 + 1 + 1) (restOf z ([])) z (by rw [restOf_length]; simp at hlen ⊢; try omega) q2
        have HST := Lib.hid hst
        clear hfl hpick hc hst q q2
        generalize (fillR l p z k)[i]'(by rw [fillR_length, HN.out.1]; exact hik) = old at *
        gi_wp2_with fail
        refine ⟨trivial, ?_⟩
        refine (callsIn_wide.2 hp1).mono ?_
        clear hp1 k1 k3 k6 f1 f2
        rintro e W2 ⟨rfl, q3⟩
        replace q3 : Stk n0 w W2 (F :: rest n0 m N (.slice va N vc) z (fillR l p z (k + 1))) (n0 + 1 + 1) (allOf z ([])) := by
          rw [rest_top]
          exact q3
        have k3 := (Stk.has (F := [F]) q3).push
        have hp2 := push_st (n0 + 1 + 1) (allOf z ([])) (i : Int) (by rw [allOf_length]; simp at hlen ⊢; try omega) q3
        clear q3
        gi_wp2_with fail
        refine ⟨trivial, ?_⟩
        refine (callsIn_wide.2 hp2).mono ?_
        clear hp2 k3
        rintro e W3 ⟨rfl, q4⟩
        rw [show allOf z ([]) ++ [(i : Int)] = allOf z (i :: []) by simp [allOf], HST.out] at q4
        have HF := HFIN.out W3 q4
        clear q4
        gi_wp2
        exact HF

      | cons t T1 =>
        rw [show topOf z (t :: T1) = (t : Int) from rfl]
        have hqb : Below w.heap.size w wr := by obtain ⟨_, t⟩ := q; rw [hn0]; exact t.below (by omega)
        have htN := hd.small t List.mem_cons_self
        obtain ⟨-, b, off, rfl, c0⟩ := HR.out wr hqb t htN
        have k0 := hh.l
        have hne : ((t : Int) != z) = true := by have := HZ.out t htN; simpa using this
        have htN1 : (t : Int) < (N : Int) := by omega
        obtain ⟨y, hy⟩ : ∃ y, nthI l t = y := ⟨_, rfl⟩
        rw [hy] at c0
        have HY := Lib.hid hy
        clear hy
        by_cases hxy : y < x
        · have hge : decide (x ≤ y) = false := by simp; omega
          clear hh

          have hpick := pick_top l z x (vis p k) _ (hd.stop (fun _ _ e => by obtain ⟨rfl, -⟩ := List.cons.inj e; rw [HY.out]; exact hxy))
          have hlen := hd.len
          have q2 := Stk.put q i (t : Int)
          have hfl : (fillR l p z k).set i (t : Int) = fillR l p z (k + 1) := by rw [fillR, HI.out.1, HI.out.2, hpick]; try rfl
          rw [hfl] at q2
          have hc := Stk.cell q i (by rw [fillR_length, HN.out.1]) hik
          have f1 := hc.1
          have f2 := hc.2
          have hst : allOf z (i :: t :: T1) = allOf z (stackOf l (vis p (k + 1))) := by rw [vis, stackOf, HI.out.1, HI.out.2, (hd.stop (fun _ _ e => by obtain ⟨rfl, -⟩ := List.cons.inj e; rw [HY.out]; exact hxy))]
          have hp1 := push_st (n0 + 1 + 1) (restOf z (t :: T1)) (t : Int) (by rw [restOf_length]; simp at hlen ⊢; try omega) q2
          have HST := Lib.hid hst
          clear hfl hpick hc hst q q2
          generalize (fillR l p z k)[i]'(by rw [fillR_length, HN.out.1]; exact hik) = old at *
          gi_wp2_with fail
          refine ⟨trivial, ?_⟩
          refine (callsIn_wide.2 hp1).mono ?_
          clear hp1 k1 k3 k6 f1 f2
          rintro e W2 ⟨rfl, q3⟩
          replace q3 : Stk n0 w W2 (F :: rest n0 m N (.slice (some ⟨b, off, none⟩) N vc) z (fillR l p z (k + 1))) (n0 + 1 + 1) (allOf z (t :: T1)) := by
            rw [rest_top]
            exact q3
          have k3 := (Stk.has (F := [F]) q3).push
          have hp2 := push_st (n0 + 1 + 1) (allOf z (t :: T1)) (i : Int) (by rw [allOf_length]; simp at hlen ⊢; try omega) q3
          clear q3
          gi_wp2_with fail
          refine ⟨trivial, ?_⟩
          refine (callsIn_wide.2 hp2).mono ?_
          clear hp2 k3
          rintro e W3 ⟨rfl, q4⟩
          rw [show allOf z (t :: T1) ++ [(i : Int)] = allOf z (i :: t :: T1) by simp [allOf], HST.out] at q4
          have HF := HFIN.out W3 q4
          clear q4
          gi_wp2
          exact HF

        · have hge : decide (x ≤ y) = true := by simp; omega
          have k4 := hh.pop
          have hd' := hd.next (by rw [HY.out]; omega)
          have hpo := pop_st (n0 + 1 + 1) (restOf z T1) (topOf z T1) (by have := hd'.len; rw [restOf_length]; omega) (by rw [← rest_top]; exact q)
          clear hh
          gi_wp2_with fail
          refine ⟨trivial, ?_⟩
          refine (callsIn_wide.2 hpo).mono ?_
          clear hpo k0 k1 k3 k4 k6 c0
          rintro e W2 ⟨rfl, q3⟩
          obtain ⟨a1, c1, e1⟩ := Stk.top q
          obtain ⟨a2, c2, e2⟩ := Stk.top q3
          gi_wp2
          go_roundw
          case rel => exact ⟨T1, rfl, hd', q3⟩
          case measure =>
            rw [e1, e2]
            simp only [restOf_length]
            simp
  case done =>
    rintro D X hD s hK
    clear hseq hbl
    have k6 := (Stk.has (F := []) s).near
    have hrow := (by obtain ⟨_, t⟩ := s; exact St.rowFrom (t.drop.drop) : X.ownsRow n0 3 1 (.slice (some ⟨n0 + 1 + 1 + 1 + 1 + 1, 0, none⟩) N N) N (iVals (fillR l p z N)))
    have hX : Below n0 w X := by obtain ⟨_, t⟩ := s; exact t.below (by omega)
    have hY := hX.trans (belowK_b (w := w6) hsz X D _ (.deferred none) hD hK rfl rfl)
    have hrow' := ownsRow_putObj hrow (.deferred none) hK rfl
    have sf := st.addRow (by rw [hn0]; exact hY) (by rw [hn0]; exact hrow')
    have HF := Lib.hid sf
    clear hrow hX hY hrow' sf s
    gi_wp2
    refine ⟨by simp, .inl ⟨_, _, rfl, run_takeDeferred hK, ?_⟩⟩
    exact ⟨_, results_tmp rfl _ _ _, .slice (some ⟨n0 + 1 + 1 + 1 + 1 + 1, 0, none⟩) N N, rfl, HF.out⟩

end
end Go.Proofs.Ytjchchinmggldaa.Near
