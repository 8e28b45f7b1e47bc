/-
  Contracts of package token: what a range over a function yields is gathered. No conditions but those of the call.
-/
import Derived.Test.YtmooiheomecieaaTokR
namespace Go.Proofs.Ytmooiheomecieaa.Tok
open Go.RowKit Go.Shelf

attribute [local go_sem] Oper.semAt_some

/-- 'append(s, x)' in a fenced walk, s a slice of the call's own. -/
theorem wpListIn_append_mine {F : Fence} {nn : Nat} {P : Program} (w : World) {ops : Array Oper} {rest : List Oper} {o : Oper} {a : Act} {Q : Exit → Act → World → Prop} (hgd : o.guard = none) (s x : Operand) (t : TypeId)
    (ho : o.op = .call { callee := .builtin .append, args := #[s, x], argTypes := #[t, t] })
    (e : TypeId) (i : TypeInfo) (z : Value) (size bytes : Nat) (ht : P.underlying t = some (.slice e)) (hi : P.info? e = some i) (hz : i.zero = some z)
    (hsize : i.size = size) (hby : i.bytes = bytes) (hzs : z.cells.size = size) (hsz : 0 < size)
    (v : Value) (n : Nat) (xs : List Value) (hs : a.eval s = v) (hown : w.ownsRow 0 e size v n xs)
    (ad : Option Addr) (m c : Nat) (news : List Value) (hx : a.eval x = .slice ad m c) (hnone : ad = none → m = 0 ∧ c = 0) (hl : news.length = m * size) (hnews : ∀ b, ad = some b → ∀ j u, news[j]? = some u → w.cell? (b.add j) = some u) (h1 : ∀ u ∈ news, u.oneCell' = true)
    (h63 : n + m ≤ maxLen) (hbytes : (n + m) * bytes ≤ 140737488355328)
    (h : ∀ v' w', w'.ownsRow 0 e size v' (n + m) (xs ++ news) → w.grownBy w' v.ownBlock → Fresh w v v' → wpListIn F nn P ops Q rest (a.put o.dst v') w') : wpListIn F nn P ops Q (o :: rest) a w := by
  refine wpListIn_plain hgd fun K hK => ?_
  obtain ⟨v', w', hr, h2, h3, h4⟩ := run_append_mine (P := P) w t o.type e i z size bytes ht hi hz hsize hby hzs hsz v n xs hown ad m c news hnone hl hnews h1 h63 hbytes
  unfold Oper.wpIn
  refine ⟨?_, ?_⟩
  · simp [Oper.about, ho, resolve, Target.leads, Sem.run_pure]
  · rw [Oper.semAt_plain F _ _ (by rw [ho]; intro c hc; cases hc)]
    simp only [execOp, ho, resolve, invoke, builtin, Sem.run_bind, Sem.run_pure, Result.andThen_ok, List.map_toArray, List.map_cons, List.map_nil, hs, hx, hr]
    exact hK _ _ (h v' w' h2 h3 h4)

/-- What the loop's own memory holds. -/
def HeldC (w : World) (l : List (Nat × Nat)) (X : World) : Prop :=
  ∃ v1, Boxed X w.heap.size 44 v1 ∧ X.ownsRow w.heap.size 53 2 v1 l.length (spn l) ∧ v1.ownBlock ≠ some w.heap.size ∧ Below w.heap.size w X

theorem heldC_from (w : World) (f : Nat → List (Nat × Nat)) (b : Nat) (hb : w.heap.size + 1 ≤ b) : OwnFrom b (fun k X => HeldC w (f k) X) := by
  rintro k A B row ⟨v1, h1, h2, h3, h4⟩ hg hr
  have hne : ∀ j, j < b → some j ≠ row := fun j hj e => by have := (hr j e.symm).1; omega
  refine ⟨v1, h1.kept hg (hne _ (by omega)), h2.kept hg ?_, h3, h4.grown hg h4.size (fun r e => by have := (hr r e).1; omega)⟩
  rcases h2.2 with ⟨rfl, _⟩ | ⟨g, cp, cur, rfl, _, hgg, _⟩
  · exact .inl rfl
  · refine .inr fun e => ?_
    obtain ⟨o, ho, hc⟩ := (hr g e.symm).2
    rw [hgg] at ho
    obtain rfl := Option.some.inj ho
    cases hc

/-- A round. -/
theorem HeldC.next {w X X2 X3 : World} {l s : List (Nat × Nat)} {v1 v3 : Value} (h1 : Boxed X w.heap.size 44 v1) (h2 : X.ownsRow w.heap.size 53 2 v1 l.length (spn l)) (h3 : v1.ownBlock ≠ some w.heap.size) (h4 : Below w.heap.size w X)
    (hb : Below X.heap.size X X2) (hg : X2.grownBy X3 v1.ownBlock) (hf : Fresh X2 v1 v3) (h6 : X3.ownsRow 0 53 2 v3 (l.length + s.length) (spn l ++ spn s)) :
    KeepsOthers X (X3.setCell ⟨w.heap.size, 0, none⟩ v3) ∧ Below w.heap.size X (X3.setCell ⟨w.heap.size, 0, none⟩ v3) ∧ HeldC w (l ++ s) (X3.setCell ⟨w.heap.size, 0, none⟩ v3) ∧ X3.cell? ⟨w.heap.size, 0, none⟩ = some v1 ∧ X3.frozen? ⟨w.heap.size, 0, none⟩ = false := by
  have hne : some w.heap.size ≠ v1.ownBlock := fun e => h3 e.symm
  have b1 : Boxed X2 w.heap.size 44 v1 := (hb.block _ h1.lt).trans h1
  have b3 := b1.kept hg hne
  have hbg : ∀ k, v1.ownBlock = some k → w.heap.size ≤ k ∧ k < X.heap.size := fun k hk => h2.lt k hk
  have bw : Below w.heap.size X (X3.setCell ⟨w.heap.size, 0, none⟩ v3) :=
    (((hb.mono h4.size).grown hg (Nat.le_trans h4.size hb.size) (fun k hk => (hbg k hk).1))).setCell (p := ⟨w.heap.size, 0, none⟩) (Nat.le_refl _) v3
  have ho : v3.ownBlock ≠ some w.heap.size := by
    rcases hf with e | e
    · rw [e]; exact h3
    · intro e2
      have h7 := e _ e2
      have h8 := hb.size
      have h9 := h1.lt
      omega
  refine ⟨?_, bw, ⟨v3, b3.set v3, ?_, ho, h4.trans bw⟩, b3.cell, b3.frozen⟩
  · refine KeepsOthers.trans (B := X2) ⟨hb.size, fun k o hk _ => (hb.block k (lt_of_block hk)).trans hk⟩ (KeepsOthers.trans (B := X3) (KeepsOthers.of_grownBy hg fun j o hj hjo => ?_) (KeepsOthers.setCell _ _ _))
    rcases h2.2 with ⟨rfl, _⟩ | ⟨g, cp, cur, rfl, _, hgg, _⟩
    · cases hj
    · have e1 : g = j := Option.some.inj hj
      have h10 := (hb.block g (lt_of_block hgg)).trans hgg
      rw [e1, hjo] at h10
      obtain rfl := Option.some.inj h10
      rfl
  · have h7 : X3.ownsRow w.heap.size 53 2 v3 (l.length + s.length) (spn l ++ spn s) := by
      refine ⟨h6.1, ?_⟩
      rcases h6.2 with e | ⟨g, cp, cur, hv, _, hgg, rest⟩
      · exact .inl e
      · refine .inr ⟨g, cp, cur, hv, ?_, hgg, rest⟩
        have hgb : v3.ownBlock = some g := by rw [hv]; rfl
        rcases hf with e | e
        · rw [e] at hgb; exact (hbg g hgb).1
        · have := e g hgb
          have := hb.size
          have := h4.size
          omega
    rw [← spn_append, ← List.length_append] at h7
    exact h7.kept (grownBy_setCell' X3 w.heap.size v3) (.inr (fun e => ho e))

set_option maxRecDepth 100000 in
set_option maxHeartbeats 8000000 in
/-- What a function yields is gathered. -/
theorem collected_any (w : World) (B1 first num each : Nat) (hB : B1 + 2 < w.heap.size) (hnum : num ≤ 1000) (he : 1 ≤ each) (hee : each ≤ 1000) (hsm : ∀ k, k ≤ num → riseL first each k ≤ 1000000 ∧ riseN each k ≤ 30)
    (hb1 : w.cell? ⟨B1, 0, none⟩ = some (.int .i64 (first : Int))) (hb2 : w.cell? ⟨B1 + 1, 0, none⟩ = some (.int .i64 (num : Int))) (hb3 : w.cell? ⟨B1 + 2, 0, none⟩ = some (.int .i64 (each : Int))) :
    Calls Try.prog 35 #[.func (.func 38) #[] #[.pointer (some ⟨B1, 0, none⟩), .pointer (some ⟨B1 + 1, 0, none⟩), .pointer (some ⟨B1 + 2, 0, none⟩)]] w fun e w' => ∃ v', e = .returned v' ∧ w'.ownsRow w.heap.size 53 2 v' (spansOf first each num).length (spn (spansOf first each num)) ∧ Below w.heap.size w w' := by
  refine (callsIn_wide (n := 3)).1 ?_
  refine callsIn_of_wp_marks Try.func35 rfl trivial ?_ rfl
  simp only [Try.ntmps35, List.size_toArray, List.length_cons, List.length_nil, Nat.reduceAdd, Nat.reduceSub, Array.replicate_succ, Array.replicate_zero, List.push_toArray, List.append_toArray, List.nil_append, List.cons_append]
  gi_wp2_with fail
  have k1 := Boxed.new w 44 (.slice none 0 0)
  have hb2' : Below w.heap.size w (w.alloc (.cells #[.slice none 0 0] 44)) := (Below.refl _ w).alloc (Nat.le_refl _) _
  have z2 : (w.alloc (.cells #[.slice none 0 0] 44)).heap.size = w.heap.size + 1 := by simp
  have x1 := (hb2'.cell (p := ⟨B1, 0, none⟩) (by simp only []; omega)).trans hb1
  have x2 := (hb2'.cell (p := ⟨B1 + 1, 0, none⟩) (by simp only []; omega)).trans hb2
  have x3 := (hb2'.cell (p := ⟨B1 + 2, 0, none⟩) (by simp only []; omega)).trans hb3
  generalize w.alloc (.cells #[.slice none 0 0] 44) = w2 at *
  have hH : HeldC w ((spansOf first each num).take 0) w2 := ⟨_, k1, World.ownsRow_nil _ _ _ _, by simp [Value.ownBlock], hb2'⟩
  refine range_count rfl (by omega) (gf := 38) (lb := #[.pointer (some ⟨B1, 0, none⟩), .pointer (some ⟨B1 + 1, 0, none⟩), .pointer (some ⟨B1 + 2, 0, none⟩)]) rfl trivial (enters_of Try.func38 (by kernel_rfl) rfl)
    (rising_seq Fence.wide _ trivial rfl (by omega) B1 w.heap.size first num each w2 (by omega) (by omega) hnum he hee hsm x1 x2 x3) (fun h k => Below.trans h k) ?keep (Below.refl _ _) (fun _ _ => rfl)
    (fun i W' => HeldC w ((spansOf first each num).take i) W')
    (heldC_from w (fun i => (spansOf first each num).take i) _ (by omega))
    hH ?a1 ?assign ?body ?done
  case keep =>
    intro W l o o' hlW hW h3 h4
    exact belowK_b (w := w2) (by omega) W l o o' hlW hW h3 h4
  case assign =>
    intro l j X K hj hK
    unfold riseArgs
    gi_wp2
    exact hK
  case body =>
    rintro l j X hj ⟨v1, h1, h2, h3, h4⟩
    have hnext : (spansOf first each num).take (j + 1) = (spansOf first each num).take j ++ [(riseL first each j, riseN each j)] := spansOf_take first each num j hj
    rw [hnext]
    have hfl : ((spansOf first each num).take j).length ≤ 1000 := by rw [List.length_take, spansOf_length]; omega
    clear hnext hH k1 hb2' x1 x2 x3 hb1 hb2 hb3 hsm
    generalize riseL first each j = y at *
    generalize riseN each j = d at *
    generalize (spansOf first each num).take j = l0 at *
    have hlt : w.heap.size < X.heap.size := h1.lt
    obtain ⟨i0, hi, hz0, hz1, hz2⟩ := info_parts infoSpan
    have cX : X.cell? ⟨w.heap.size, 0, none⟩ = some v1 := h1.cell
    have hb : Below X.heap.size X (X.alloc (.cells #[.int .i64 (y : Int), .int .i64 (d : Int)] 53)) := (Below.refl X.heap.size X).alloc (Nat.le_refl _) _
    have hn2 : (X.alloc (.cells #[.int .i64 (y : Int), .int .i64 (d : Int)] 53)).heap[X.heap.size]? = some (.cells #[.int .i64 (y : Int), .int .i64 (d : Int)] 53 (0, 0)) := heap_alloc_new _ _
    have hnews : ∀ b, some (⟨X.heap.size, 0, none⟩ : Addr) = some b → ∀ j u, (spn [(y, d)])[j]? = some u → (X.alloc (.cells #[.int .i64 (y : Int), .int .i64 (d : Int)] 53)).cell? (b.add j) = some u := fun b hb1 j u hu => by
      obtain rfl := Option.some.inj hb1
      rw [add_none, Nat.zero_add, cell_of_row _ X.heap.size j #[.int .i64 (y : Int), .int .i64 (d : Int)] 53 (0, 0) hn2]
      simpa [spn] using hu
    have hown1 : (X.alloc (.cells #[.int .i64 (y : Int), .int .i64 (d : Int)] 53)).ownsRow 0 53 2 v1 l0.length (spn l0) := ownsRow_base (ownsRow_only h2 (Only.of_below (S := fun k => X.heap.size ≤ k) hb (fun k _ hk => hk)) (fun g hg hge => absurd hge (Nat.not_le_of_lt (h2.lt g hg).2)))
    gi_wp2_with (gi_at_builtin; refine wpListIn_append_mine _ rfl _ _ 44 rfl 53 i0 (.agg #[.int .i64 0, .int .i64 0]) 2 16 Try.underlying44 hi hz0 hz1 hz2 rfl (by decide) v1 l0.length (spn l0) rfl hown1 (some ⟨X.heap.size, 0, none⟩) 1 1 (spn [(y, d)]) rfl (fun e => by cases e) rfl hnews (spn_one _) (by unfold maxLen; omega) (by omega) ?_)
    intro v3 X3 h6 hg hf
    obtain ⟨xa, xc, rfl⟩ := ownsRow_slice h6
    obtain ⟨q1, q2, q3, q4, q5⟩ := HeldC.next (s := [(y, d)]) h1 h2 h3 h4 hb hg hf h6
    clear hnews hown1 h6 hg hf hn2
    gi_wp2_with fail
    exact ⟨q1, q2, q3⟩
  case done =>
    rintro D X hD ⟨v1, h1, h2, h3, h4⟩ hK
    rw [List.take_of_length_le (Nat.le_of_eq (spansOf_length first each num))] at h2
    have c1 := h1.cell
    have HK := Lib.hid h2
    clear h1 h2 h3 hH k1
    gi_wp2
    refine ⟨by simp, .inl ⟨_, _, rfl, run_takeDeferred hK, ?_⟩⟩
    refine ⟨_, results_tmp rfl _ _ _, _, rfl, ?_, ?_⟩
    · exact ownsRow_putObj HK.out (.deferred none) hK rfl
    · exact h4.trans (belowK_b (w := w2) (by omega) X D _ _ (by omega) hK rfl rfl)

end Go.Proofs.Ytmooiheomecieaa.Tok
