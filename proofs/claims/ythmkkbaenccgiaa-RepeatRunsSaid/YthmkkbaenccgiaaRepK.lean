/-
  Contracts of package repeat: Pack. No conditions but those of the call. (Its tree of orders is written by wip/gen_repk.py.)
-/
import Derived.Test.YthmkkbaenccgiaaRepR
import Derived.Test.YthmkkbaenccgiaaRepD
import Derived.Test.YthmkkbaenccgiaaRepF
namespace Go.Proofs.Ythmkkbaenccgiaa.Rep
open Go.RowKit Go.Shelf

attribute [local go_sem] Oper.semAt_some

set_option maxHeartbeats 1000000 in
/-- runs: the slice is boxed; the function that comes back holds the box. -/
theorem runs_any (a : Option Addr) (len cap : Nat) (w : World) :
    Calls Try.prog 17 #[.slice a len cap] w fun e w' => e = .returned (.func (.func 26) #[] #[.pointer (some ⟨w.heap.size, 0, none⟩)]) ∧ w' = w.alloc (.cells #[.slice a len cap] 22) := by
  have hmf : ∀ (fn : Fn) (first cap : Array Value) (w : World), (Instr.makeFunc fn first cap).run Try.prog w = .ok (.func fn first cap) w := fun _ _ _ _ => rfl
  go_enter Try.func17, Try.ntmps17
  go_wp2
  go_ret
  exact ⟨rfl, rfl⟩

/-- What the loop's own memory holds. -/
def HeldP (w : World) (a : Option Addr) (len cap : Nat) (l : List (Nat × Nat)) (X : World) : Prop :=
  ∃ v1, Boxed X w.heap.size 23 v1 ∧ X.ownsRow w.heap.size 31 2 v1 l.length (sgn l) ∧ v1.ownBlock ≠ some w.heap.size ∧ Below w.heap.size w X ∧ Boxed X (w.heap.size + 1) 22 (.slice a len cap)

theorem heldP_from (w : World) (a : Option Addr) (len cap : Nat) (f : Nat → List (Nat × Nat)) (b : Nat) (hb : w.heap.size + 2 ≤ b) : OwnFrom b (fun k X => HeldP w a len cap (f k) X) := by
  rintro k A B row ⟨v1, h1, h2, h3, h4, h5⟩ hg hr
  have hne : ∀ j, j < b → some j ≠ row := fun j hj e => by have := (hr j e.symm).1; omega
  refine ⟨v1, h1.kept hg (hne _ (by omega)), h2.kept hg ?_, h3, h4.grown hg h4.size (fun r e => by have := (hr r e).1; omega), h5.kept hg (hne _ (by omega))⟩
  rcases h2.2 with ⟨rfl, _⟩ | ⟨g, cp, cur, rfl, _, hgg, _⟩
  · exact .inl rfl
  · refine .inr fun e => ?_
    obtain ⟨o, ho, hc⟩ := (hr g e.symm).2
    rw [hgg] at ho
    obtain rfl := Option.some.inj ho
    cases hc

/-- A round. -/
theorem HeldP.next {w X X2 X3 : World} {a : Option Addr} {len cap : Nat} {l s : List (Nat × Nat)} {v1 v3 : Value} (h1 : Boxed X w.heap.size 23 v1) (h2 : X.ownsRow w.heap.size 31 2 v1 l.length (sgn l)) (h3 : v1.ownBlock ≠ some w.heap.size) (h4 : Below w.heap.size w X) (h5 : Boxed X (w.heap.size + 1) 22 (.slice a len cap))
    (hb : Below X.heap.size X X2) (hg : X2.grownBy X3 v1.ownBlock) (hf : Fresh X2 v1 v3) (h6 : X3.ownsRow 0 31 2 v3 (l.length + s.length) (sgn l ++ sgn s)) :
    KeepsOthers X (X3.setCell ⟨w.heap.size, 0, none⟩ v3) ∧ KeepR w.heap.size (w.heap.size + 1) X (X3.setCell ⟨w.heap.size, 0, none⟩ v3) ∧ HeldP w a len cap (l ++ s) (X3.setCell ⟨w.heap.size, 0, none⟩ v3) ∧ X3.cell? ⟨w.heap.size, 0, none⟩ = some v1 ∧ X3.frozen? ⟨w.heap.size, 0, none⟩ = false := by
  have hne : some w.heap.size ≠ v1.ownBlock := fun e => h3 e.symm
  have b1 : Boxed X2 w.heap.size 23 v1 := (hb.block _ h1.lt).trans h1
  have b3 := b1.kept hg hne
  have hbg : ∀ k, v1.ownBlock = some k → w.heap.size ≤ k ∧ k < X.heap.size := fun k hk => h2.lt k hk
  have c1 : Boxed X2 (w.heap.size + 1) 22 (.slice a len cap) := (hb.block _ h5.lt).trans h5
  have hlen5 : ∀ k, v1.ownBlock = some k → k ≠ w.heap.size + 1 := fun k hk e => by
    rcases h2.2 with ⟨rfl, _⟩ | ⟨g, cp, cur, rfl, _, hgg, _⟩
    · cases hk
    · have e1 : g = k := Option.some.inj hk
      have h6 : X.heap[w.heap.size + 1]? = some (.cells #[.slice a len cap] 22 (0, 0)) := h5
      rw [e1, e, h6] at hgg
      have e2 := (Obj.cells.inj (Option.some.inj hgg)).2.1
      exact absurd e2 (by decide)
  have c3 := c1.kept hg (fun e => hlen5 _ e.symm rfl)
  have c4 : Boxed (X3.setCell ⟨w.heap.size, 0, none⟩ v3) (w.heap.size + 1) 22 (.slice a len cap) := c3.kept (grownBy_setCell' X3 w.heap.size v3) (by intro e; have := Option.some.inj e; omega)
  have bw : Below w.heap.size X (X3.setCell ⟨w.heap.size, 0, none⟩ v3) :=
    (((hb.mono h4.size).grown hg (Nat.le_trans h4.size hb.size) (fun k hk => (hbg k hk).1))).setCell (p := ⟨w.heap.size, 0, none⟩) (Nat.le_refl _) v3
  have ho : v3.ownBlock ≠ some w.heap.size := by
    rcases hf with e | e
    · rw [e]; exact h3
    · intro e2
      have h7 := e _ e2
      have h8 := hb.size
      have h9 := h1.lt
      omega
  refine ⟨?_, ⟨bw, fun v hv => ?_⟩, ⟨v3, b3.set v3, ?_, ho, h4.trans bw, c4⟩, b3.cell, b3.frozen⟩
  · refine KeepsOthers.trans (B := X2) ⟨hb.size, fun k o hk _ => (hb.block k (lt_of_block hk)).trans hk⟩ (KeepsOthers.trans (B := X3) (KeepsOthers.of_grownBy hg fun j o hj hjo => ?_) (KeepsOthers.setCell _ _ _))
    rcases h2.2 with ⟨rfl, _⟩ | ⟨g, cp, cur, rfl, _, hgg, _⟩
    · cases hj
    · have e1 : g = j := Option.some.inj hj
      have h10 := (hb.block g (lt_of_block hgg)).trans hgg
      rw [e1, hjo] at h10
      obtain rfl := Option.some.inj h10
      rfl
  · have e1 := h5.cell
    rw [e1] at hv
    obtain rfl := Option.some.inj hv
    exact c4.cell
  · have h7 : X3.ownsRow w.heap.size 31 2 v3 (l.length + s.length) (sgn l ++ sgn s) := by
      refine ⟨h6.1, ?_⟩
      rcases h6.2 with e | ⟨g, cp, cur, hv, _, hgg, rest⟩
      · exact .inl e
      · refine .inr ⟨g, cp, cur, hv, ?_, hgg, rest⟩
        have hgb : v3.ownBlock = some g := by rw [hv]; rfl
        rcases hf with e | e
        · rw [e] at hgb; exact (hbg g hgb).1
        · have := e g hgb
          have := hb.size
          have := h4.size
          omega
    rw [← sgn_append, ← List.length_append] at h7
    exact h7.kept (grownBy_setCell' X3 w.heap.size v3) (.inr (fun e => ho e))

/-- 'append(s, x)' in a fenced walk, s a slice of the call's own. -/
theorem wpListIn_append_mine {F : Fence} {nn : Nat} {P : Program} (w : World) {ops : Array Oper} {rest : List Oper} {o : Oper} {a : Act} {Q : Exit → Act → World → Prop} (hgd : o.guard = none) (s x : Operand) (t : TypeId)
    (ho : o.op = .call { callee := .builtin .append, args := #[s, x], argTypes := #[t, t] })
    (e : TypeId) (i : TypeInfo) (z : Value) (size bytes : Nat) (ht : P.underlying t = some (.slice e)) (hi : P.info? e = some i) (hz : i.zero = some z)
    (hsize : i.size = size) (hby : i.bytes = bytes) (hzs : z.cells.size = size) (hsz : 0 < size)
    (v : Value) (n : Nat) (xs : List Value) (hs : a.eval s = v) (hown : w.ownsRow 0 e size v n xs)
    (ad : Option Addr) (m c : Nat) (news : List Value) (hx : a.eval x = .slice ad m c) (hnone : ad = none → m = 0 ∧ c = 0) (hl : news.length = m * size) (hnews : ∀ b, ad = some b → ∀ j u, news[j]? = some u → w.cell? (b.add j) = some u) (h1 : ∀ u ∈ news, u.oneCell' = true)
    (h63 : n + m ≤ maxLen) (hbytes : (n + m) * bytes ≤ 140737488355328)
    (h : ∀ v' w', w'.ownsRow 0 e size v' (n + m) (xs ++ news) → w.grownBy w' v.ownBlock → Fresh w v v' → wpListIn F nn P ops Q rest (a.put o.dst v') w') : wpListIn F nn P ops Q (o :: rest) a w := by
  refine wpListIn_plain hgd fun K hK => ?_
  obtain ⟨v', w', hr, h2, h3, h4⟩ := run_append_mine (P := P) w t o.type e i z size bytes ht hi hz hsize hby hzs hsz v n xs hown ad m c news hnone hl hnews h1 h63 hbytes
  unfold Oper.wpIn
  refine ⟨?_, ?_⟩
  · simp [Oper.about, ho, resolve, Target.leads, Sem.run_pure]
  · rw [Oper.semAt_plain F _ _ (by rw [ho]; intro c hc; cases hc)]
    simp only [execOp, ho, resolve, invoke, builtin, Sem.run_bind, Sem.run_pure, Result.andThen_ok, List.map_toArray, List.map_cons, List.map_nil, hs, hx, hr]
    exact hK _ _ (h v' w' h2 h3 h4)

/-- What Pack answers. -/
def packErr (L : List Nat) : Nat := if (L.any fun x => decide (15 < x)) then 5 else 0
def packOf (L : List Nat) : List (Nat × Nat) := if (L.any fun x => decide (15 < x)) then [] else pack L

theorem take_runs (L : List Nat) (k : Nat) (hk : k < (runsOf L).length) : ((runsOf L).take (k + 1)).flatMap (fun s => signs s.1 s.2) = ((runsOf L).take k).flatMap (fun s => signs s.1 s.2) ++ signs (runLen L k) (runNum L k) := by
  unfold runLen runNum
  rw [List.take_succ_eq_append_getElem hk, List.flatMap_append, List.getD_eq_getElem?_getD, List.getElem?_eq_getElem hk]
  simp

theorem flat_le : ∀ (m : Nat) (L : List Nat) (k : Nat), L.length ≤ m → (((runsOf L).take k).flatMap fun s => signs s.1 s.2).length ≤ L.length
  | _, [], k, _ => by rw [runsOf]; simp
  | 0, a :: t, _, h => by simp at h
  | m + 1, a :: t, 0, _ => by simp
  | m + 1, a :: t, k + 1, h => by
    simp at h
    have h1 := lead_le a t
    have h2 := flat_le m (t.drop (lead a t)) k (by simp; omega)
    have h3 := (signs_length a (lead a t + 1) (by omega)).1
    rw [runsOf, List.take_succ_cons, List.flatMap_cons, List.length_append]
    simp at h2 ⊢
    omega

theorem ownsRow_news {w : World} {base e size m c : Nat} {ad : Option Addr} {ys : List Value} (h : w.ownsRow base e size (.slice ad m c) m ys) : (ad = none → m = 0 ∧ c = 0) ∧ ∀ b, ad = some b → ∀ j u, ys[j]? = some u → w.cell? (b.add j) = some u := by
  refine ⟨fun e1 => ?_, fun b hb j u hu => ?_⟩
  · subst e1
    rcases h.2 with ⟨e2, e3⟩ | ⟨g, cap, cur, e2, _⟩
    · have := Value.slice.inj e2; exact ⟨e3, this.2.2⟩
    · cases e2
  · subst hb
    rcases h.2 with ⟨e2, e3⟩ | ⟨g, cap, cur, e2, _⟩
    · cases e2
    · have e4 : b = ⟨g, 0, none⟩ := Option.some.inj (Value.slice.inj e2).1
      rw [e4]
      exact h.cells (g := g) (by rw [e4]; rfl) j u hu

set_option maxRecDepth 100000 in
set_option maxHeartbeats 8000000 in
/-- Pack. -/
theorem pack_any (w : World) (v : Value) (L : List Nat) (h : ByteRow w v L) (hl : L.length ≤ 1000000) :
    Calls Try.prog 9 #[v] w fun e w' => ∃ v', e = .returned (.tuple #[v', .int .i64 (packErr L : Int)]) ∧ w'.ownsRow w.heap.size 31 2 v' (packOf L).length (sgn (packOf L)) ∧ Below w.heap.size w w' := by
  have hC := callsIn_wide (n := 2).2 (containsB_any w v L h (by omega))
  refine (callsIn_wide (n := 3)).1 ?_
  refine callsIn_of_wp_marks Try.func9 rfl trivial ?_ rfl
  simp only [Try.ntmps9, List.size_toArray, List.length_cons, List.length_nil, Nat.reduceAdd, Nat.reduceSub, Array.replicate_succ, Array.replicate_zero, List.push_toArray, List.append_toArray, List.nil_append, List.cons_append]
  cases hm : (L.any fun x => decide (15 < x)) with
  | true =>
    have hE : packErr L = 5 := by unfold packErr; rw [hm]; rfl
    have hO : packOf L = [] := by unfold packOf; rw [hm]; rfl
    rw [hm] at hC
    rw [hE, hO]
    gi_wp2_with (refine ⟨trivial, ?_⟩; gi_at_call 15; refine hC.mono ?_; rintro e w1 ⟨rfl, rfl⟩)
    refine ⟨_, results_tmp2 rfl _ _ _, _, rfl, World.ownsRow_nil _ _ _ _, Below.refl _ _⟩
  | false =>
    have hE : packErr L = 0 := by unfold packErr; rw [hm]; rfl
    have hO : packOf L = pack L := by unfold packOf; rw [hm]; rfl
    rw [hm] at hC
    rw [hE, hO]
    clear hE hO
    have HM := Lib.hid hm
    clear hm
    have HR := fun W hB => h.below (B := w.heap.size) (w' := W) hB (Nat.le_refl _)
    obtain ⟨a, cap, rfl, -, -, -⟩ := id h
    gi_wp2_with (refine ⟨trivial, ?_⟩; gi_at_call 15; refine hC.mono ?_; rintro e w1 ⟨rfl, rfl⟩)
    refine ⟨trivial, ?_⟩
    refine (callsIn_wide.2 (runs_any a L.length cap _)).mono ?_
    rintro e w9 ⟨rfl, rfl⟩
    gi_wp2_with fail
    have k1 := Boxed.new w 23 (.slice none 0 0)
    have k2 := Boxed.new (w.alloc (.cells #[.slice none 0 0] 23)) 22 (.slice a L.length cap)
    have k1 := k1.alloc (.cells #[.slice a L.length cap] 22)
    have hb2 : Below w.heap.size w ((w.alloc (.cells #[.slice none 0 0] 23)).alloc (.cells #[.slice a L.length cap] 22)) := ((Below.refl _ w).alloc (Nat.le_refl _) _).alloc (by simp) _
    have z2 : ((w.alloc (.cells #[.slice none 0 0] 23)).alloc (.cells #[.slice a L.length cap] 22)).heap.size = w.heap.size + 2 := by simp
    rw [World.size_alloc] at k2
    generalize (w.alloc (.cells #[.slice none 0 0] 23)).alloc (.cells #[.slice a L.length cap] 22) = w2 at *
    have hH : HeldP w a L.length cap (((runsOf L).take 0).flatMap fun s => signs s.1 s.2) w2 := ⟨_, k1, World.ownsRow_nil _ _ _ _, by simp [Value.ownBlock], hb2, k2⟩
    refine range_count rfl (by omega) (gf := 26) (lb := #[.pointer (some ⟨w.heap.size + 1, 0, none⟩)]) rfl trivial (enters_of Try.func26 (by kernel_rfl) rfl)
      (runs_seq Fence.wide _ trivial rfl (by omega) (w.heap.size + 1) w.heap.size (.slice a L.length cap) L w2 (by omega) (by omega) hl k2.cell (fun W hW => HR W (hb2.trans hW))) (fun h k => KeepR.trans h k) ?keep (Below.refl _ _) (fun _ _ => rfl)
      (fun i W' => HeldP w a L.length cap (((runsOf L).take i).flatMap fun s => signs s.1 s.2) W')
      (heldP_from w a L.length cap (fun i => ((runsOf L).take i).flatMap fun s => signs s.1 s.2) _ (by omega))
      hH ?a1 ?assign ?body ?done
    case keep =>
      intro W l o o' hlW hW h3 h4
      refine ⟨?_, fun v hv => cell_kept hv (grownBy_putObj' W l o') (fun r e => by cases e; exact ⟨o, hW, h3⟩)⟩
      exact belowK_b (w := w2) (by omega) W l o o' hlW hW h3 h4
    case assign =>
      intro l j X K hj hK
      unfold runArgs
      gi_wp2
      exact hK
    case body =>
      rintro l j X hj ⟨v1, h1, h2, h3, h4, h5⟩
      have hnext := take_runs L j hj
      have hbd : runLen L j ∈ L ∧ 1 ≤ runNum L j ∧ runNum L j ≤ L.length := runs_bound L.length L (Nat.le_refl _) ((runsOf L).getD j (0, 0)) (by rw [List.getD_eq_getElem?_getD, List.getElem?_eq_getElem hj]; exact List.getElem_mem hj)
      have hfl := flat_le L.length L j (Nat.le_refl _)
      have hfl2 := flat_le L.length L (j + 1) (Nat.le_refl _)
      rw [hnext, List.length_append] at hfl2
      rw [hnext]
      have hy : runLen L j < 16 := by
        have h6 := HM.out
        rw [List.any_eq_false] at h6
        have h7 := h6 _ hbd.1
        exact Nat.lt_of_not_le fun hc => h7 (by simp only [decide_eq_true_eq]; omega)
      obtain ⟨hbd1, hd1, hd2⟩ := hbd
      clear hbd1
      generalize runLen L j = y at *
      generalize runNum L j = d at *
      generalize ((runsOf L).take j).flatMap (fun s => signs s.1 s.2) = l0 at *
      have hd2 : d ≤ 1000000 := by omega
      have hlt : w.heap.size < X.heap.size := h1.lt
      have cX : X.drew.cell? ⟨w.heap.size, 0, none⟩ = some v1 := h1.cell
      obtain ⟨i0, hi, hz0, hz1, hz2⟩ := info_parts infoSign
      clear hH k1 k2 hb2 hnext
      gi_wp2
      refine wpIn_region_any (by kernel_rfl) ?_
      refine wpAnyIn_all (rs := [0, 1, 2]) (by kernel_rfl) (by simp) (fun q hq => ?_)
      rcases (by simpa using hq : q = 0 ∨ q = 1 ∨ q = 2) with rfl | rfl | rfl
      · refine wpOpIn_step rfl (fun K hK => ?_)
        gi_wp2
        refine wpAnyIn_all (rs := [1, 2]) (by kernel_rfl) (by simp) (fun q hq => ?_)
        rcases (by simpa using hq : q = 1 ∨ q = 2) with rfl | rfl
        · refine wpOpIn_step rfl (fun K hK => ?_)
          gi_wp2
          refine wpAnyIn_all (rs := [2]) (by kernel_rfl) (by simp) (fun q hq => ?_)
          obtain rfl : q = 2 := by simpa using hq
          refine wpOpIn_step rfl (fun K hK => ?_)
          gi_wp2
          refine wpAnyIn_all (rs := [3]) (by kernel_rfl) (by simp) (fun q hq => ?_)
          obtain rfl : q = 3 := by simpa using hq
          refine wpOpIn_step rfl (fun K hK => ?_)
          gi_wp2_with fail
          refine ⟨trivial, ?_⟩
          refine (callsIn_wide.2 (signsOf_st (St.start X.drew) y d hy hd1 hd2)).mono ?_
          rintro e X2 ⟨v2, rfl, s2⟩
          have c2 : X2.cell? ⟨w.heap.size, 0, none⟩ = some v1 := (s2.below (Nat.le_refl _)).cell (p := ⟨w.heap.size, 0, none⟩) hlt |>.trans cX
          gi_wp2_with fail
          have hb : Below X.heap.size X X2 := (Below.refl X.heap.size X).drew.trans (s2.below (Nat.le_refl _))
          obtain ⟨ya, yc, rfl⟩ := ownsRow_slice s2.row
          obtain ⟨hnone, hnews⟩ := ownsRow_news s2.row
          have hl2 := s2.row.1
          have hown1 : X2.ownsRow 0 31 2 v1 l0.length (sgn l0) := ownsRow_base (ownsRow_only h2 (Only.of_below (S := fun k => X.heap.size ≤ k) hb (fun k _ hk => hk)) (fun g hg hge => absurd hge (Nat.not_le_of_lt (h2.lt g hg).2)))
          refine wpAnyIn_one [4, 5] 0 (by kernel_rfl) (by kernel_rfl) ?_
          intro K2 hK2
          simp only [pickL, List.getElem?_cons_zero, List.getElem?_cons_succ]
          gi_wp2_with (gi_at_builtin; refine wpListIn_append_mine _ rfl _ _ 23 rfl 31 i0 (.agg #[.int .u8 0, .int .u8 0]) 2 2 Try.underlying23 hi hz0 hz1 hz2 rfl (by decide) v1 l0.length (sgn l0) rfl hown1 ya _ yc (sgn (signs y d)) rfl hnone hl2 hnews (sgn_one _) (by unfold maxLen; omega) (by omega) ?_)
          intro v3 X3 h6 hg hf
          obtain ⟨xa, xc, rfl⟩ := ownsRow_slice h6
          obtain ⟨q1, q2, q3, q4, q5⟩ := HeldP.next h1 h2 h3 h4 h5 hb hg hf h6
          clear hnone hnews hl2 hown1 s2 h6 hg hf c2
          gi_wp2_with fail
          refine wpAnyIn_done (by kernel_rfl) ?_ 0
          exact ⟨q1, q2, q3⟩
        · refine wpOpIn_step rfl (fun K hK => ?_)
          gi_wp2
          refine wpAnyIn_all (rs := [1]) (by kernel_rfl) (by simp) (fun q hq => ?_)
          obtain rfl : q = 1 := by simpa using hq
          refine wpOpIn_step rfl (fun K hK => ?_)
          gi_wp2
          refine wpAnyIn_all (rs := [3]) (by kernel_rfl) (by simp) (fun q hq => ?_)
          obtain rfl : q = 3 := by simpa using hq
          refine wpOpIn_step rfl (fun K hK => ?_)
          gi_wp2_with fail
          refine ⟨trivial, ?_⟩
          refine (callsIn_wide.2 (signsOf_st (St.start X.drew) y d hy hd1 hd2)).mono ?_
          rintro e X2 ⟨v2, rfl, s2⟩
          have c2 : X2.cell? ⟨w.heap.size, 0, none⟩ = some v1 := (s2.below (Nat.le_refl _)).cell (p := ⟨w.heap.size, 0, none⟩) hlt |>.trans cX
          gi_wp2_with fail
          have hb : Below X.heap.size X X2 := (Below.refl X.heap.size X).drew.trans (s2.below (Nat.le_refl _))
          obtain ⟨ya, yc, rfl⟩ := ownsRow_slice s2.row
          obtain ⟨hnone, hnews⟩ := ownsRow_news s2.row
          have hl2 := s2.row.1
          have hown1 : X2.ownsRow 0 31 2 v1 l0.length (sgn l0) := ownsRow_base (ownsRow_only h2 (Only.of_below (S := fun k => X.heap.size ≤ k) hb (fun k _ hk => hk)) (fun g hg hge => absurd hge (Nat.not_le_of_lt (h2.lt g hg).2)))
          refine wpAnyIn_one [4, 5] 0 (by kernel_rfl) (by kernel_rfl) ?_
          intro K2 hK2
          simp only [pickL, List.getElem?_cons_zero, List.getElem?_cons_succ]
          gi_wp2_with (gi_at_builtin; refine wpListIn_append_mine _ rfl _ _ 23 rfl 31 i0 (.agg #[.int .u8 0, .int .u8 0]) 2 2 Try.underlying23 hi hz0 hz1 hz2 rfl (by decide) v1 l0.length (sgn l0) rfl hown1 ya _ yc (sgn (signs y d)) rfl hnone hl2 hnews (sgn_one _) (by unfold maxLen; omega) (by omega) ?_)
          intro v3 X3 h6 hg hf
          obtain ⟨xa, xc, rfl⟩ := ownsRow_slice h6
          obtain ⟨q1, q2, q3, q4, q5⟩ := HeldP.next h1 h2 h3 h4 h5 hb hg hf h6
          clear hnone hnews hl2 hown1 s2 h6 hg hf c2
          gi_wp2_with fail
          refine wpAnyIn_done (by kernel_rfl) ?_ 0
          exact ⟨q1, q2, q3⟩
      · refine wpOpIn_step rfl (fun K hK => ?_)
        gi_wp2
        refine wpAnyIn_all (rs := [0, 2]) (by kernel_rfl) (by simp) (fun q hq => ?_)
        rcases (by simpa using hq : q = 0 ∨ q = 2) with rfl | rfl
        · refine wpOpIn_step rfl (fun K hK => ?_)
          gi_wp2
          refine wpAnyIn_all (rs := [2]) (by kernel_rfl) (by simp) (fun q hq => ?_)
          obtain rfl : q = 2 := by simpa using hq
          refine wpOpIn_step rfl (fun K hK => ?_)
          gi_wp2
          refine wpAnyIn_all (rs := [3]) (by kernel_rfl) (by simp) (fun q hq => ?_)
          obtain rfl : q = 3 := by simpa using hq
          refine wpOpIn_step rfl (fun K hK => ?_)
          gi_wp2_with fail
          refine ⟨trivial, ?_⟩
          refine (callsIn_wide.2 (signsOf_st (St.start X.drew) y d hy hd1 hd2)).mono ?_
          rintro e X2 ⟨v2, rfl, s2⟩
          have c2 : X2.cell? ⟨w.heap.size, 0, none⟩ = some v1 := (s2.below (Nat.le_refl _)).cell (p := ⟨w.heap.size, 0, none⟩) hlt |>.trans cX
          gi_wp2_with fail
          have hb : Below X.heap.size X X2 := (Below.refl X.heap.size X).drew.trans (s2.below (Nat.le_refl _))
          obtain ⟨ya, yc, rfl⟩ := ownsRow_slice s2.row
          obtain ⟨hnone, hnews⟩ := ownsRow_news s2.row
          have hl2 := s2.row.1
          have hown1 : X2.ownsRow 0 31 2 v1 l0.length (sgn l0) := ownsRow_base (ownsRow_only h2 (Only.of_below (S := fun k => X.heap.size ≤ k) hb (fun k _ hk => hk)) (fun g hg hge => absurd hge (Nat.not_le_of_lt (h2.lt g hg).2)))
          refine wpAnyIn_one [4, 5] 0 (by kernel_rfl) (by kernel_rfl) ?_
          intro K2 hK2
          simp only [pickL, List.getElem?_cons_zero, List.getElem?_cons_succ]
          gi_wp2_with (gi_at_builtin; refine wpListIn_append_mine _ rfl _ _ 23 rfl 31 i0 (.agg #[.int .u8 0, .int .u8 0]) 2 2 Try.underlying23 hi hz0 hz1 hz2 rfl (by decide) v1 l0.length (sgn l0) rfl hown1 ya _ yc (sgn (signs y d)) rfl hnone hl2 hnews (sgn_one _) (by unfold maxLen; omega) (by omega) ?_)
          intro v3 X3 h6 hg hf
          obtain ⟨xa, xc, rfl⟩ := ownsRow_slice h6
          obtain ⟨q1, q2, q3, q4, q5⟩ := HeldP.next h1 h2 h3 h4 h5 hb hg hf h6
          clear hnone hnews hl2 hown1 s2 h6 hg hf c2
          gi_wp2_with fail
          refine wpAnyIn_done (by kernel_rfl) ?_ 0
          exact ⟨q1, q2, q3⟩
        · refine wpOpIn_step rfl (fun K hK => ?_)
          gi_wp2
          refine wpAnyIn_all (rs := [0, 3]) (by kernel_rfl) (by simp) (fun q hq => ?_)
          rcases (by simpa using hq : q = 0 ∨ q = 3) with rfl | rfl
          · refine wpOpIn_step rfl (fun K hK => ?_)
            gi_wp2
            refine wpAnyIn_all (rs := [3]) (by kernel_rfl) (by simp) (fun q hq => ?_)
            obtain rfl : q = 3 := by simpa using hq
            refine wpOpIn_step rfl (fun K hK => ?_)
            gi_wp2_with fail
            refine ⟨trivial, ?_⟩
            refine (callsIn_wide.2 (signsOf_st (St.start X.drew) y d hy hd1 hd2)).mono ?_
            rintro e X2 ⟨v2, rfl, s2⟩
            have c2 : X2.cell? ⟨w.heap.size, 0, none⟩ = some v1 := (s2.below (Nat.le_refl _)).cell (p := ⟨w.heap.size, 0, none⟩) hlt |>.trans cX
            gi_wp2_with fail
            have hb : Below X.heap.size X X2 := (Below.refl X.heap.size X).drew.trans (s2.below (Nat.le_refl _))
            obtain ⟨ya, yc, rfl⟩ := ownsRow_slice s2.row
            obtain ⟨hnone, hnews⟩ := ownsRow_news s2.row
            have hl2 := s2.row.1
            have hown1 : X2.ownsRow 0 31 2 v1 l0.length (sgn l0) := ownsRow_base (ownsRow_only h2 (Only.of_below (S := fun k => X.heap.size ≤ k) hb (fun k _ hk => hk)) (fun g hg hge => absurd hge (Nat.not_le_of_lt (h2.lt g hg).2)))
            refine wpAnyIn_one [4, 5] 0 (by kernel_rfl) (by kernel_rfl) ?_
            intro K2 hK2
            simp only [pickL, List.getElem?_cons_zero, List.getElem?_cons_succ]
            gi_wp2_with (gi_at_builtin; refine wpListIn_append_mine _ rfl _ _ 23 rfl 31 i0 (.agg #[.int .u8 0, .int .u8 0]) 2 2 Try.underlying23 hi hz0 hz1 hz2 rfl (by decide) v1 l0.length (sgn l0) rfl hown1 ya _ yc (sgn (signs y d)) rfl hnone hl2 hnews (sgn_one _) (by unfold maxLen; omega) (by omega) ?_)
            intro v3 X3 h6 hg hf
            obtain ⟨xa, xc, rfl⟩ := ownsRow_slice h6
            obtain ⟨q1, q2, q3, q4, q5⟩ := HeldP.next h1 h2 h3 h4 h5 hb hg hf h6
            clear hnone hnews hl2 hown1 s2 h6 hg hf c2
            gi_wp2_with fail
            refine wpAnyIn_done (by kernel_rfl) ?_ 0
            exact ⟨q1, q2, q3⟩
          · refine wpOpIn_step rfl (fun K hK => ?_)
            gi_wp2_with fail
            refine ⟨trivial, ?_⟩
            refine (callsIn_wide.2 (signsOf_st (St.start X.drew) y d hy hd1 hd2)).mono ?_
            rintro e X2 ⟨v2, rfl, s2⟩
            have c2 : X2.cell? ⟨w.heap.size, 0, none⟩ = some v1 := (s2.below (Nat.le_refl _)).cell (p := ⟨w.heap.size, 0, none⟩) hlt |>.trans cX
            gi_wp2_with fail
            refine wpAnyIn_all (rs := [0]) (by kernel_rfl) (by simp) (fun q hq => ?_)
            obtain rfl : q = 0 := by simpa using hq
            refine wpOpIn_step rfl (fun K hK => ?_)
            gi_wp2
            have hb : Below X.heap.size X X2 := (Below.refl X.heap.size X).drew.trans (s2.below (Nat.le_refl _))
            obtain ⟨ya, yc, rfl⟩ := ownsRow_slice s2.row
            obtain ⟨hnone, hnews⟩ := ownsRow_news s2.row
            have hl2 := s2.row.1
            have hown1 : X2.ownsRow 0 31 2 v1 l0.length (sgn l0) := ownsRow_base (ownsRow_only h2 (Only.of_below (S := fun k => X.heap.size ≤ k) hb (fun k _ hk => hk)) (fun g hg hge => absurd hge (Nat.not_le_of_lt (h2.lt g hg).2)))
            refine wpAnyIn_one [4, 5] 0 (by kernel_rfl) (by kernel_rfl) ?_
            intro K2 hK2
            simp only [pickL, List.getElem?_cons_zero, List.getElem?_cons_succ]
            gi_wp2_with (gi_at_builtin; refine wpListIn_append_mine _ rfl _ _ 23 rfl 31 i0 (.agg #[.int .u8 0, .int .u8 0]) 2 2 Try.underlying23 hi hz0 hz1 hz2 rfl (by decide) v1 l0.length (sgn l0) rfl hown1 ya _ yc (sgn (signs y d)) rfl hnone hl2 hnews (sgn_one _) (by unfold maxLen; omega) (by omega) ?_)
            intro v3 X3 h6 hg hf
            obtain ⟨xa, xc, rfl⟩ := ownsRow_slice h6
            obtain ⟨q1, q2, q3, q4, q5⟩ := HeldP.next h1 h2 h3 h4 h5 hb hg hf h6
            clear hnone hnews hl2 hown1 s2 h6 hg hf c2
            gi_wp2_with fail
            refine wpAnyIn_done (by kernel_rfl) ?_ 0
            exact ⟨q1, q2, q3⟩
      · refine wpOpIn_step rfl (fun K hK => ?_)
        gi_wp2
        refine wpAnyIn_all (rs := [0, 1]) (by kernel_rfl) (by simp) (fun q hq => ?_)
        rcases (by simpa using hq : q = 0 ∨ q = 1) with rfl | rfl
        · refine wpOpIn_step rfl (fun K hK => ?_)
          gi_wp2
          refine wpAnyIn_all (rs := [1]) (by kernel_rfl) (by simp) (fun q hq => ?_)
          obtain rfl : q = 1 := by simpa using hq
          refine wpOpIn_step rfl (fun K hK => ?_)
          gi_wp2
          refine wpAnyIn_all (rs := [3]) (by kernel_rfl) (by simp) (fun q hq => ?_)
          obtain rfl : q = 3 := by simpa using hq
          refine wpOpIn_step rfl (fun K hK => ?_)
          gi_wp2_with fail
          refine ⟨trivial, ?_⟩
          refine (callsIn_wide.2 (signsOf_st (St.start X.drew) y d hy hd1 hd2)).mono ?_
          rintro e X2 ⟨v2, rfl, s2⟩
          have c2 : X2.cell? ⟨w.heap.size, 0, none⟩ = some v1 := (s2.below (Nat.le_refl _)).cell (p := ⟨w.heap.size, 0, none⟩) hlt |>.trans cX
          gi_wp2_with fail
          have hb : Below X.heap.size X X2 := (Below.refl X.heap.size X).drew.trans (s2.below (Nat.le_refl _))
          obtain ⟨ya, yc, rfl⟩ := ownsRow_slice s2.row
          obtain ⟨hnone, hnews⟩ := ownsRow_news s2.row
          have hl2 := s2.row.1
          have hown1 : X2.ownsRow 0 31 2 v1 l0.length (sgn l0) := ownsRow_base (ownsRow_only h2 (Only.of_below (S := fun k => X.heap.size ≤ k) hb (fun k _ hk => hk)) (fun g hg hge => absurd hge (Nat.not_le_of_lt (h2.lt g hg).2)))
          refine wpAnyIn_one [4, 5] 0 (by kernel_rfl) (by kernel_rfl) ?_
          intro K2 hK2
          simp only [pickL, List.getElem?_cons_zero, List.getElem?_cons_succ]
          gi_wp2_with (gi_at_builtin; refine wpListIn_append_mine _ rfl _ _ 23 rfl 31 i0 (.agg #[.int .u8 0, .int .u8 0]) 2 2 Try.underlying23 hi hz0 hz1 hz2 rfl (by decide) v1 l0.length (sgn l0) rfl hown1 ya _ yc (sgn (signs y d)) rfl hnone hl2 hnews (sgn_one _) (by unfold maxLen; omega) (by omega) ?_)
          intro v3 X3 h6 hg hf
          obtain ⟨xa, xc, rfl⟩ := ownsRow_slice h6
          obtain ⟨q1, q2, q3, q4, q5⟩ := HeldP.next h1 h2 h3 h4 h5 hb hg hf h6
          clear hnone hnews hl2 hown1 s2 h6 hg hf c2
          gi_wp2_with fail
          refine wpAnyIn_done (by kernel_rfl) ?_ 0
          exact ⟨q1, q2, q3⟩
        · refine wpOpIn_step rfl (fun K hK => ?_)
          gi_wp2
          refine wpAnyIn_all (rs := [0, 3]) (by kernel_rfl) (by simp) (fun q hq => ?_)
          rcases (by simpa using hq : q = 0 ∨ q = 3) with rfl | rfl
          · refine wpOpIn_step rfl (fun K hK => ?_)
            gi_wp2
            refine wpAnyIn_all (rs := [3]) (by kernel_rfl) (by simp) (fun q hq => ?_)
            obtain rfl : q = 3 := by simpa using hq
            refine wpOpIn_step rfl (fun K hK => ?_)
            gi_wp2_with fail
            refine ⟨trivial, ?_⟩
            refine (callsIn_wide.2 (signsOf_st (St.start X.drew) y d hy hd1 hd2)).mono ?_
            rintro e X2 ⟨v2, rfl, s2⟩
            have c2 : X2.cell? ⟨w.heap.size, 0, none⟩ = some v1 := (s2.below (Nat.le_refl _)).cell (p := ⟨w.heap.size, 0, none⟩) hlt |>.trans cX
            gi_wp2_with fail
            have hb : Below X.heap.size X X2 := (Below.refl X.heap.size X).drew.trans (s2.below (Nat.le_refl _))
            obtain ⟨ya, yc, rfl⟩ := ownsRow_slice s2.row
            obtain ⟨hnone, hnews⟩ := ownsRow_news s2.row
            have hl2 := s2.row.1
            have hown1 : X2.ownsRow 0 31 2 v1 l0.length (sgn l0) := ownsRow_base (ownsRow_only h2 (Only.of_below (S := fun k => X.heap.size ≤ k) hb (fun k _ hk => hk)) (fun g hg hge => absurd hge (Nat.not_le_of_lt (h2.lt g hg).2)))
            refine wpAnyIn_one [4, 5] 0 (by kernel_rfl) (by kernel_rfl) ?_
            intro K2 hK2
            simp only [pickL, List.getElem?_cons_zero, List.getElem?_cons_succ]
            gi_wp2_with (gi_at_builtin; refine wpListIn_append_mine _ rfl _ _ 23 rfl 31 i0 (.agg #[.int .u8 0, .int .u8 0]) 2 2 Try.underlying23 hi hz0 hz1 hz2 rfl (by decide) v1 l0.length (sgn l0) rfl hown1 ya _ yc (sgn (signs y d)) rfl hnone hl2 hnews (sgn_one _) (by unfold maxLen; omega) (by omega) ?_)
            intro v3 X3 h6 hg hf
            obtain ⟨xa, xc, rfl⟩ := ownsRow_slice h6
            obtain ⟨q1, q2, q3, q4, q5⟩ := HeldP.next h1 h2 h3 h4 h5 hb hg hf h6
            clear hnone hnews hl2 hown1 s2 h6 hg hf c2
            gi_wp2_with fail
            refine wpAnyIn_done (by kernel_rfl) ?_ 0
            exact ⟨q1, q2, q3⟩
          · refine wpOpIn_step rfl (fun K hK => ?_)
            gi_wp2_with fail
            refine ⟨trivial, ?_⟩
            refine (callsIn_wide.2 (signsOf_st (St.start X.drew) y d hy hd1 hd2)).mono ?_
            rintro e X2 ⟨v2, rfl, s2⟩
            have c2 : X2.cell? ⟨w.heap.size, 0, none⟩ = some v1 := (s2.below (Nat.le_refl _)).cell (p := ⟨w.heap.size, 0, none⟩) hlt |>.trans cX
            gi_wp2_with fail
            refine wpAnyIn_all (rs := [0]) (by kernel_rfl) (by simp) (fun q hq => ?_)
            obtain rfl : q = 0 := by simpa using hq
            refine wpOpIn_step rfl (fun K hK => ?_)
            gi_wp2
            have hb : Below X.heap.size X X2 := (Below.refl X.heap.size X).drew.trans (s2.below (Nat.le_refl _))
            obtain ⟨ya, yc, rfl⟩ := ownsRow_slice s2.row
            obtain ⟨hnone, hnews⟩ := ownsRow_news s2.row
            have hl2 := s2.row.1
            have hown1 : X2.ownsRow 0 31 2 v1 l0.length (sgn l0) := ownsRow_base (ownsRow_only h2 (Only.of_below (S := fun k => X.heap.size ≤ k) hb (fun k _ hk => hk)) (fun g hg hge => absurd hge (Nat.not_le_of_lt (h2.lt g hg).2)))
            refine wpAnyIn_one [4, 5] 0 (by kernel_rfl) (by kernel_rfl) ?_
            intro K2 hK2
            simp only [pickL, List.getElem?_cons_zero, List.getElem?_cons_succ]
            gi_wp2_with (gi_at_builtin; refine wpListIn_append_mine _ rfl _ _ 23 rfl 31 i0 (.agg #[.int .u8 0, .int .u8 0]) 2 2 Try.underlying23 hi hz0 hz1 hz2 rfl (by decide) v1 l0.length (sgn l0) rfl hown1 ya _ yc (sgn (signs y d)) rfl hnone hl2 hnews (sgn_one _) (by unfold maxLen; omega) (by omega) ?_)
            intro v3 X3 h6 hg hf
            obtain ⟨xa, xc, rfl⟩ := ownsRow_slice h6
            obtain ⟨q1, q2, q3, q4, q5⟩ := HeldP.next h1 h2 h3 h4 h5 hb hg hf h6
            clear hnone hnews hl2 hown1 s2 h6 hg hf c2
            gi_wp2_with fail
            refine wpAnyIn_done (by kernel_rfl) ?_ 0
            exact ⟨q1, q2, q3⟩
    case done =>
      rintro D X hD ⟨v1, h1, h2, h3, h4, h5⟩ hK
      have hpk : ((runsOf L).take (runsOf L).length).flatMap (fun s => signs s.1 s.2) = pack L := by rw [List.take_length]; exact (pack_runs L.length L (Nat.le_refl _)).symm
      rw [hpk] at h2
      have c1 := h1.cell
      have HK := Lib.hid h2
      clear h1 h2 h3 h5 hH k1 k2 hpk
      gi_wp2
      refine ⟨by simp, .inl ⟨_, _, rfl, run_takeDeferred hK, ?_⟩⟩
      refine ⟨_, results_tmp2 rfl _ _ _, _, rfl, ?_, ?_⟩
      · exact ownsRow_putObj HK.out (.deferred none) hK rfl
      · exact h4.trans (belowK_b (w := w2) (by omega) X D _ _ (by omega) hK rfl rfl)

/-- Pack, over a state. -/
theorem pack_st {B : Nat} {w0 w : World} {r : List Thing} (st : St B w0 w r) (v : Value) (L : List Nat) (h : ByteRow w v L) (hl : L.length ≤ 1000000) :
    Calls Try.prog 9 #[v] w fun e w' => ∃ v', e = .returned (.tuple #[v', .int .i64 (packErr L : Int)]) ∧ St B w0 w' (signT 31 v' (packOf L) :: r) :=
  (pack_any w v L h hl).mono fun _ _ ⟨v', he, ho, hb⟩ => ⟨v', he, st.addRow hb ho⟩

theorem packOf_small (L : List Nat) : Small (packOf L) := by
  unfold packOf
  split
  · intro p hp; cases hp
  · next h =>
    intro p hp
    have hL : ∀ x ∈ L, x < 16 := fun x hx => by
      have h1 : (L.any fun x => decide (15 < x)) = false := by simpa using h
      rw [List.any_eq_false] at h1
      have := h1 x hx
      simp at this
      omega
    have := times_le' p (List.all_eq_true.1 (fits_pack L.length L (Nat.le_refl _) hL) p hp)
    omega

theorem packOf_length (L : List Nat) : (packOf L).length ≤ L.length := by
  unfold packOf
  split
  · exact Nat.zero_le _
  · exact pack_length L.length L (Nat.le_refl _)

end Go.Proofs.Ythmkkbaenccgiaa.Rep
