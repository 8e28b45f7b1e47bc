/-
  Contracts of package kraft: Words. No conditions but those of the calls.
-/
import Derived.Test.YtpolbpjclklgbaaKrI
import Derived.Test.YtpolbpjclklgbaaKrR
namespace Go.Proofs.Ytpolbpjclklgbaa.Kraft
open Go.RowKit Go.Shelf

attribute [local go_sem] Oper.semAt_some

/-- Where the tally stands when these have come. -/
def tal (L : List Nat) (pre : List (Sym L)) : Tally := Tally.run ⟨0, 0, List.replicate L.length 0⟩ pre

theorem tal_snoc (L : List Nat) (pre : List (Sym L)) (x : Sym L) : tal L (pre ++ [x]) = (tal L pre).step x := Tally.run_snoc _ _ _

theorem tal_next (L : List Nat) (pre : List (Sym L)) : (tal L pre).next < 4294967296 := by
  rcases List.eq_nil_or_concat pre with rfl | ⟨ys, y, rfl⟩
  · exact Nat.zero_lt_succ _
  · rw [List.concat_eq_append, tal_snoc]
    exact Nat.mod_lt _ (by omega)

theorem tal_ahead (L : List Nat) (pre : List (Sym L)) : (tal L pre).ahead < 256 := by
  rcases List.eq_nil_or_concat pre with rfl | ⟨ys, y, rfl⟩
  · exact Nat.zero_lt_succ _
  · rw [List.concat_eq_append, tal_snoc]
    exact y.hn

theorem tal_length (L : List Nat) (pre : List (Sym L)) : (tal L pre).ws.length = L.length := by
  unfold tal
  rw [Tally.run_length, List.length_replicate]

/-- What the loop's own memory holds: the words, the next word, the length ahead, the lengths; the words' row. -/
structure Held (lens : Value) (n g b : Nat) (T : Tally) (W : World) : Prop where
  bw : Boxed W b 22 (.slice (some ⟨g, 0, none⟩) n n)
  bn : Boxed W (b + 1) 25 (.int .u32 (T.next : Int))
  ba : Boxed W (b + 1 + 1) 5 (.int .u8 (T.ahead : Int))
  bl : Boxed W (b + 1 + 1 + 1) 26 lens
  row : W.ownsRow g 25 1 (.slice (some ⟨g, 0, none⟩) n n) n (u32s T.ws)

theorem Held.kept {lens : Value} {n g b : Nat} {T : Tally} {W W' : World} {row : Option Nat} (h : Held lens n g b T W) (hg : W.grownBy W' row) (hgb : g < b) (hr : ∀ r, row = some r → b + 1 + 1 + 1 < r) : Held lens n g b T W' := by
  refine ⟨h.bw.kept hg (fun e => ?_), h.bn.kept hg (fun e => ?_), h.ba.kept hg (fun e => ?_), h.bl.kept hg (fun e => ?_), h.row.kept hg (.inr fun e => ?_)⟩
  all_goals
    first
    | (have := hr _ e.symm; omega)
    | (have := hr g (by simpa [Value.ownBlock] using e.symm); omega)
    | (have := hr g (by simpa [Value.ownBlock] using e); omega)

theorem tal_end (L : List Nat) (hm : may L = true) (hw : weight L ≤ 1048576) (ys : List (Sym L)) (h : ys = cameS L 20 (by omega)) : (tal L ys).ws = words L := by
  rw [h]
  unfold tal
  exact tally_words L hm hw

theorem Held.setN {lens : Value} {n g b nx ah : Nat} {ws : List Nat} {W : World} (h : Held lens n g b ⟨nx, ah, ws⟩ W) (hgb : g < b) (v : Nat) : Held lens n g b ⟨v, ah, ws⟩ (W.setCell ⟨b + 1, 0, none⟩ (.int .u32 (v : Int))) := by
  have hg := grownBy_setCell' W (b + 1) (.int .u32 (v : Int))
  exact ⟨h.bw.kept hg (by intro e; have := Option.some.inj e; omega), h.bn.set _, h.ba.kept hg (by intro e; have := Option.some.inj e; omega), h.bl.kept hg (by intro e; have := Option.some.inj e; omega), h.row.kept hg (.inr (by simp [Value.ownBlock]; omega))⟩

theorem Held.setA {lens : Value} {n g b nx ah : Nat} {ws : List Nat} {W : World} (h : Held lens n g b ⟨nx, ah, ws⟩ W) (hgb : g < b) (v : Nat) : Held lens n g b ⟨nx, v, ws⟩ (W.setCell ⟨b + 1 + 1, 0, none⟩ (.int .u8 (v : Int))) := by
  have hg := grownBy_setCell' W (b + 1 + 1) (.int .u8 (v : Int))
  exact ⟨h.bw.kept hg (by intro e; have := Option.some.inj e; omega), h.bn.kept hg (by intro e; have := Option.some.inj e; omega), h.ba.set _, h.bl.kept hg (by intro e; have := Option.some.inj e; omega), h.row.kept hg (.inr (by simp [Value.ownBlock]; omega))⟩

theorem Held.setW {lens : Value} {n g b nx ah : Nat} {ws : List Nat} {W : World} (h : Held lens n g b ⟨nx, ah, ws⟩ W) (hgb : g < b) (i v : Nat) : Held lens n g b ⟨nx, ah, ws.set i v⟩ (W.setCell ⟨g, i, none⟩ (.int .u32 (v : Int))) := by
  obtain ⟨h1, hg⟩ := h.row.stored i (.int .u32 (v : Int))
  rw [← u32s_set] at h1
  exact ⟨h.bw.kept hg (by intro e; have := Option.some.inj e; omega), h.bn.kept hg (by intro e; have := Option.some.inj e; omega), h.ba.kept hg (by intro e; have := Option.some.inj e; omega), h.bl.kept hg (by intro e; have := Option.some.inj e; omega), h1⟩

/-- A round. -/
theorem Held.round {lens : Value} {n g b nx ah : Nat} {ws : List Nat} {W : World} (h : Held lens n g b ⟨nx, ah, ws⟩ W) (hgb : g < b) (i v v' m : Nat) :
    Held lens n g b ⟨v', m, ws.set i v⟩ ((((W.setCell ⟨b + 1, 0, none⟩ (.int .u32 (v : Int))).setCell ⟨g, i, none⟩ (.int .u32 (v : Int))).setCell ⟨b + 1, 0, none⟩ (.int .u32 (v' : Int))).setCell ⟨b + 1 + 1, 0, none⟩ (.int .u8 (m : Int))) :=
  (((h.setN hgb v).setW hgb i v).setN hgb v').setA hgb m

theorem shift_min (x s : Nat) : x * 2 ^ min s 32 % 4294967296 = x * 2 ^ s % 4294967296 := by
  by_cases h : s ≤ 32
  · rw [Nat.min_eq_left h]
  · rw [Nat.min_eq_right (by omega), show s = 32 + (s - 32) from by omega, Nat.pow_add, ← Nat.mul_assoc, Nat.mul_mod_left, Nat.mul_right_comm, show (2 : Nat) ^ 32 = 4294967296 from rfl, Nat.mul_mod_left]

theorem class_over (x : Nat) : class_ x = 3 ↔ 1048576 < x := by
  unfold class_
  constructor
  · intro h
    split at h
    · omega
    · split at h
      · omega
      · split at h
        · assumption
        · omega
  · intro h
    rw [if_neg (by omega), if_neg (by omega), if_pos h]

/-- 'make([]T, n)' in a fenced walk. -/
theorem wpListIn_make_full {F : Fence} {nn : Nat} {P : Program} (w : World) {ops : Array Oper} {rest : List Oper} {o : Oper} {a : Act} {Q : Exit → Act → World → Prop}
    (hg : o.guard = none) (l c : Operand) (t : TypeId) (hop : o.op = Op.makeSlice t l c)
    (base : Nat) (e : TypeId) (i : TypeInfo) (z : Value) (size : Nat) (h1 : P.underlying t = some (.slice e)) (h2 : P.info? e = some i) (h3 : i.zero = some z) (h4 : i.size = size)
    (kl kc : IntKind) (L C : Int) (n : Nat) (hl : a.eval l = .int kl L) (hc : a.eval c = .int kc C) (hL : L = (n : Int)) (hC : C = (n : Int)) (b2 : i.bytes * n ≤ 281474976710656) (b3 : n ≤ maxLen) (b4 : base ≤ w.heap.size)
    (hK : ∀ w', w'.ownsRow base e size (.slice (some ⟨w.heap.size, 0, none⟩) n n) n (madeCells z.cells (n * size)).toList → w.grownBy w' none → wpListIn F nn P ops Q rest (a.put o.dst (.slice (some ⟨w.heap.size, 0, none⟩) n n)) w') :
    wpListIn F nn P ops Q (o :: rest) a w := by
  refine wpListIn_plain hg fun K hK' => ?_
  obtain ⟨w', hrun, r1, r2⟩ := run_make_full (P := P) w base t e i z size h1 h2 h3 h4 kl kc n b2 b3 b4
  subst hL
  subst hC
  unfold Oper.wpIn
  refine ⟨?_, ?_⟩
  · simp [Oper.about, hop]
  · rw [Oper.semAt_plain F _ _ (by rw [hop]; intro c hc'; cases hc')]
    simp [execOp, hop, hl, hc, hrun, Result.andThen]
    exact hK' _ _ (hK w' r1 r2)

set_option maxRecDepth 100000 in
set_option maxHeartbeats 2000000 in
/-- Words. -/
theorem words_st {B : Nat} {w0 w : World} {r : List Thing} (st : St B w0 w r) (v : Value) (L : List Nat) (h : ByteRow w v L) (hl : L.length ≤ 140737488355328) :
    Calls Try.prog 12 #[v] w (WordsSt B w0 r L) := by
  refine (callsIn_wide (n := 3)).1 ?_
  refine callsIn_of_wp_marks Try.func12 rfl trivial ?_ rfl
  simp only [Try.ntmps12, List.size_toArray, List.length_cons, List.length_nil, Nat.reduceAdd, Nat.reduceSub, Array.replicate_succ, Array.replicate_zero, List.push_toArray, List.append_toArray, List.nil_append, List.cons_append]
  cases hm : may L with
  | false =>
    have hE := wordsErr_may hm
    have hW := WordsSt.none (by omega) st (L := L)
    rw [hE] at hW
    have hA : classAns L = .tuple #[.int .u8 0, .int .i64 5] := by unfold classAns; rw [hm]; rfl
    have hC := callsIn_wide (n := 2).2 (classify_any w v L h hl)
    rw [hA] at hC
    gi_wp2_with (refine ⟨trivial, ?_⟩; gi_at_call 11; refine hC.mono ?_; rintro e w1 ⟨rfl, rfl⟩)
    exact ⟨_, results_tmp2 rfl _ _ _, by simpa using hW⟩
  | true =>
    have hlen := ((may_iff L).1 hm).1
    have hA : classAns L = .tuple #[.int .u8 (class_ (weight L) : Int), .int .i64 0] := by unfold classAns; rw [hm]; rfl
    have hC := callsIn_wide (n := 2).2 (classify_any w v L h hl)
    rw [hA] at hC
    by_cases hw : 1048576 < weight L
    · have hE := wordsErr_over hm hw
      have hW := WordsSt.none (by omega) st (L := L)
      rw [hE] at hW
      rw [(class_over _).2 hw] at hC
      clear hw
      gi_wp2_with (refine ⟨trivial, ?_⟩; gi_at_call 11; refine hC.mono ?_; rintro e w1 ⟨rfl, rfl⟩)
      exact ⟨_, results_tmp2 rfl _ _ _, by simpa using hW⟩
    · have hw' : weight L ≤ 1048576 := by omega
      have hE := wordsErr_fits hm hw'
      have hO := wordsOf_ok hE
      have hc3 : ¬ class_ (weight L) = 3 := fun e => hw ((class_over _).1 e)
      obtain ⟨c, hc⟩ : ∃ c, class_ (weight L) = c := ⟨_, rfl⟩
      rw [hc] at hC hc3
      clear hc hw hA
      obtain ⟨i0, hi, hz0, hz1, hz2⟩ := info_parts info32
      have hmk : i0.bytes * L.length ≤ 281474976710656 := by rw [hz2]; omega
      have hmx : L.length ≤ maxLen := by unfold maxLen; omega
      obtain ⟨a, cap, rfl, -, -, -⟩ := id h
      gi_wp2_with fail
      refine ⟨trivial, ?_⟩
      refine hC.mono ?_
      rintro e w1 ⟨rfl, rfl⟩
      gi_wp2_with (gi_at_make; refine wpListIn_make_full _ rfl _ _ 22 rfl w.heap.size 25 i0 (.int .u32 0) 1 Try.underlying22 hi hz0 hz1 _ _ _ _ L.length rfl rfl rfl rfl hmk hmx (Nat.le_refl _) ?_)
      intro w1 hown hgrow
      clear hC hi hz0 hz1 hz2 hmk hmx
      gi_wp2_with fail
      refine ⟨trivial, ?_⟩
      refine (callsIn_wide.2 (inOrder_any a L.length cap _)).mono ?_
      rintro e w9 ⟨rfl, rfl⟩
      gi_wp2_with fail
      have hg1 : w.heap.size < w1.heap.size := (hown.lt _ rfl).2
      have hb1 : Below w.heap.size w w1 := (Below.refl w.heap.size w).grown hgrow (Nat.le_refl _) (by simp)
      rw [toList_madeCells_one, show List.replicate L.length (Value.int .u32 0) = u32s (List.replicate L.length 0) from by simp [u32s]] at hown
      have k1 := Boxed.new w1 22 (.slice (some ⟨w.heap.size, 0, none⟩) L.length L.length)
      have hr1 := hown.alloc (.cells #[.slice (some ⟨w.heap.size, 0, none⟩) L.length L.length] 22)
      have hb2 := hb1.alloc (by omega) (.cells #[.slice (some ⟨w.heap.size, 0, none⟩) L.length L.length] 22)
      obtain ⟨w2, hw2⟩ : ∃ w2, w1.alloc (.cells #[.slice (some ⟨w.heap.size, 0, none⟩) L.length L.length] 22) = w2 := ⟨_, rfl⟩
      rw [hw2] at k1 hr1 hb2 ⊢
      have z2 : w2.heap.size = w1.heap.size + 1 := by rw [← hw2, World.size_alloc]
      have k2 := Boxed.new w2 25 (.int .u32 0)
      have k1 := k1.alloc (.cells #[.int .u32 0] 25)
      have hr2 := hr1.alloc (.cells #[.int .u32 0] 25)
      have hb3 := hb2.alloc (by omega) (.cells #[.int .u32 0] 25)
      obtain ⟨w3, hw3⟩ : ∃ w3, w2.alloc (.cells #[.int .u32 0] 25) = w3 := ⟨_, rfl⟩
      rw [hw3] at k1 k2 hr2 hb3 ⊢
      have z3 : w3.heap.size = w1.heap.size + 1 + 1 := by rw [← hw3, World.size_alloc, z2]
      have k3 := Boxed.new w3 5 (.int .u8 0)
      have k2 := k2.alloc (.cells #[.int .u8 0] 5)
      have k1 := k1.alloc (.cells #[.int .u8 0] 5)
      have hr3 := hr2.alloc (.cells #[.int .u8 0] 5)
      have hb4 := hb3.alloc (by omega) (.cells #[.int .u8 0] 5)
      obtain ⟨w4, hw4⟩ : ∃ w4, w3.alloc (.cells #[.int .u8 0] 5) = w4 := ⟨_, rfl⟩
      rw [hw4] at k1 k2 k3 hr3 hb4 ⊢
      have z4 : w4.heap.size = w1.heap.size + 1 + 1 + 1 := by rw [← hw4, World.size_alloc, z3]
      have k4 := Boxed.new w4 26 (.slice a L.length cap)
      have k3 := k3.alloc (.cells #[.slice a L.length cap] 26)
      have k2 := k2.alloc (.cells #[.slice a L.length cap] 26)
      have k1 := k1.alloc (.cells #[.slice a L.length cap] 26)
      have hr4 := hr3.alloc (.cells #[.slice a L.length cap] 26)
      have hb5 := hb4.alloc (by omega) (.cells #[.slice a L.length cap] 26)
      obtain ⟨w5, hw5⟩ : ∃ w5, w4.alloc (.cells #[.slice a L.length cap] 26) = w5 := ⟨_, rfl⟩
      rw [hw5] at k1 k2 k3 k4 hr4 hb5 ⊢
      have z5 : w5.heap.size = w1.heap.size + 1 + 1 + 1 + 1 := by rw [← hw5, World.size_alloc, z4]
      rw [z2] at k2
      rw [z3] at k3
      rw [z4] at k4
      have hH : Held (.slice a L.length cap) L.length w.heap.size w1.heap.size (tal L []) w5 := ⟨k1, k2, k3, k4, hr4⟩
      clear hw2 hw3 hw4 hw5 hr1 hr2 hr3 hr4 hown hgrow hb1 hb2 hb3 hb4 z2 z3 z4 k1 k2 k3 k4
      generalize w1.heap.size = b at hg1 hH z5
      refine wpIn_rangeFunc_ownF rfl (by omega) (gf := 32) (lb := #[.pointer (some ⟨b + 1 + 1 + 1, 0, none⟩)]) rfl trivial (enters_of Try.func32 (by kernel_rfl) rfl)
        (inOrder_stops Fence.wide _ trivial rfl (by omega) (b + 1 + 1 + 1) w a cap L h hlen w5 (by omega) (by omega) hH.bl.cell hb5) (fun h k => Keep.trans h k) (Keep.putObj (by omega)) (Below.refl _ _) (fun _ => rfl)
        (fun pre W => Held (.slice a L.length cap) L.length w.heap.size b (tal L pre) W ∧ Below w.heap.size w W)
        (fun _ _ _ => False)
        (OwnFrom.and (fun s A B row hs hg hr => hs.kept hg hg1 (fun r e => by have := (hr r e).1; omega)) (ownFrom_below (Nat.le_refl _) (by omega)))
        (fun _ _ _ _ _ hs _ _ => hs)
        ⟨hH, hb5⟩ ?a1 ?assign ?body ?done ?stop
      case assign =>
        intro l x W K hK
        gi_wp2
        exact hK
      case body =>
        clear hw'
        rintro l pre x W ⟨hI, hB⟩ _
        have hnx := tal_next L pre
        have hah := tal_ahead L pre
        have hsn := Lib.hid (tal_snoc L pre x)
        have hln := tal_length L pre
        clear hH z5
        obtain ⟨T, hT⟩ : ∃ T, tal L pre = T := ⟨_, rfl⟩
        rw [hT] at hI hnx hah hsn hln
        clear hT
        obtain ⟨nx, ah, ws⟩ := T
        obtain ⟨i, n, hi, hn⟩ := x
        dsimp only at hnx hah hln
        have c1 := hI.bw.cell
        have c2 := hI.bn.cell
        have c3 := hI.ba.cell
        have f2 := hI.bn.frozen
        have f3 := hI.ba.frozen
        have c4 := hI.row.cellAt i (by omega)
        have f4 := hI.row.frozenAt i
        dsimp only at c2 c3 c4 f2 f3
        rw [u32s_get _ _ (by omega)] at c4
        obtain ⟨s, hs⟩ : ∃ s : Nat, ((n : Int) - (ah : Int)) % 256 = (s : Int) := ⟨(((n : Int) - (ah : Int)) % 256).toNat, by omega⟩
        gi_wp2
        have hss : s = (n + 256 - ah) % 256 := by omega
        have e1 : (nx : Int) * 2 ^ min s 32 % 4294967296 = ((nx * 2 ^ s % 4294967296 : Nat) : Int) := by
          rw [← shift_min]; simp
        have e2 : ((nx : Int) * 2 ^ min s 32 + 1) % 4294967296 = (((nx * 2 ^ s % 4294967296 + 1) % 4294967296 : Nat) : Int) := by
          rw [← shift_min]; simp
        rw [e1, e2]
        have hR := hI.round hg1 i (nx * 2 ^ s % 4294967296) ((nx * 2 ^ s % 4294967296 + 1) % 4294967296) n
        refine ⟨((KeepsOthers.setCell _ _ _).trans (KeepsOthers.setCell _ _ _)).trans ((KeepsOthers.setCell _ _ _).trans (KeepsOthers.setCell _ _ _)), ⟨?_, fun v hv => ?_⟩, ?_, ?_⟩
        · exact ((((Below.refl _ W).setCell (p := ⟨b + 1, 0, none⟩) (by simp; omega) _).setCell (p := ⟨w.heap.size, i, none⟩) (Nat.le_refl _) _).setCell (p := ⟨b + 1, 0, none⟩) (by simp; omega) _).setCell (p := ⟨b + 1 + 1, 0, none⟩) (by simp; omega) _
        · rw [hI.bl.cell] at hv
          rw [← hv]
          exact hR.bl.cell
        · show Held _ _ _ _ (tal L (pre ++ [_])) _
          rw [hsn.out, hss] at *
          exact hR
        · exact (((hB.setCell (p := ⟨b + 1, 0, none⟩) (by simp; omega) _).setCell (p := ⟨w.heap.size, i, none⟩) (Nat.le_refl _) _).setCell (p := ⟨b + 1, 0, none⟩) (by simp; omega) _).setCell (p := ⟨b + 1 + 1, 0, none⟩) (by simp; omega) _
      case done =>
        rintro D ys W hD hys ⟨hI, hB⟩ hK
        have hT := tal_end L hm hw' ys hys
        clear hys hw'
        generalize tal L ys = T at hI hT
        have c1 := hI.bw.cell
        clear hH
        gi_wp2
        refine ⟨by simp, .inl ⟨_, _, rfl, run_takeDeferred hK, ?_⟩⟩
        refine ⟨_, results_tmp2 rfl _ _ _, _, by rw [hE]; rfl, ?_⟩
        have hbb : Below w.heap.size w (W.putObj D (.deferred none)) := hB.trans (belowK_b (w := w) (Nat.le_refl _) W D _ _ (by omega) hK rfl rfl)
        have hrow := ownsRow_putObj hI.row (.deferred none) hK rfl
        rw [hT] at hrow
        rw [hO, words_length]
        exact st.addRow hbb hrow
      case stop =>
        rintro D c pre W _ _ h _
        exact h.elim

end Go.Proofs.Ytpolbpjclklgbaa.Kraft
