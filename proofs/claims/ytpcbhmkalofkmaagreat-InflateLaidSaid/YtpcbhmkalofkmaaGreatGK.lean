/-
  HdO HdW HdU, one behind the other (merged by wip/merge.py). No conditions but those that each states.
-/
import Derived.Test.YtpcbhmkalofkmaaGreatGC
import Derived.Test.YtpcbhmkalofkmaaGreatGA
import Derived.Test.YtpcbhmkalofkmaaGreatGE
import Derived.Lib.AppendZeros
import Derived.Test.YtpcbhmkalofkmaaGreatGI
import Derived.Test.YtpcbhmkalofkmaaGreatHdT
import Derived.Test.YtpcbhmkalofkmaaGreatGF
import Derived.Test.YtpcbhmkalofkmaaGreatInts
import Derived.Test.YtpcbhmkalofkmaaGreatIntsA

/-
  slices.Grow of nil and slices.Concat of two rows of bytes. No conditions but that rows are small.
-/
namespace Go.Proofs.YtpcbhmkalofkmaaGreat.Hd
open Go.RowKit

section
variable {B : Nat} {w0 w : World} {r : List Thing}

set_option maxRecDepth 100000 in
theorem grow_st (st : St B w0 w r) (n : Nat) (h0 : 0 < n) (hn : n ≤ 1000000) :
    Calls Tryz.prog 71 #[.slice none 0 0, .int .i64 (n : Int)] w fun e w' => ∃ u, e = .returned u ∧ St B w0 w' (rowT 5 1 u 0 [] :: r) := by
  obtain ⟨i0, hi, hz0, hz1, hz2⟩ := info_parts info8
  have hrun : ∀ ty, (Builtin.append_ #[22, 3] ty #[.slice none 0 0, .int .i64 (n : Int)]).run Tryz.prog w =
      .ok (.slice (some ⟨w.heap.size, 0, none⟩) n (grownCap w n 0 5)) (w.drew.alloc (.cells (Builtin.zeroCells (Value.int .u8 0).cells n ++ Builtin.zeroCells (Value.int .u8 0).cells (grownCap w n 0 5 - n)) 5)) := fun ty =>
    Lib.run_append_nil_zeros w _ _ ty 5 i0 (.int .u8 0) .i64 .i64 Tryz.underlying22 Tryz.underlying3 hi hz0 n h0 (by rw [hz1]; decide) (by omega) (by rw [hz2]; omega)
  have hge := grownCap_ge w n 0 5
  have hle := grownCap_le_maxLen w n 0 5 (by unfold maxLen; omega)
  generalize hc : grownCap w n 0 5 = c at *
  obtain ⟨Z, hZ, hZs⟩ : ∃ Z, Z = Builtin.zeroCells (Value.int .u8 0).cells n ++ Builtin.zeroCells (Value.int .u8 0).cells (c - n) ∧ Z.size = c := by
    refine ⟨_, rfl, ?_⟩
    rw [Array.size_append, size_zeroCells, size_zeroCells]
    show n * 1 + (c - n) * 1 = c
    omega
  rw [← hZ] at hrun
  clear hZ
  have s1 : St B w0 (w.drew.alloc (.cells Z 5)) (rowT 5 1 (.slice (some ⟨w.heap.size, 0, none⟩) 0 c) 0 [] :: r) := by
    refine st.drew.addRow (below_alloc w.drew _) ⟨rfl, .inr ⟨w.heap.size, c, Z, rfl, Nat.le_refl _, ?_, by omega, hle, by omega, rfl⟩⟩
    exact heap_alloc_new w.drew _
  go_enter Tryz.func71, Tryz.ntmps71
  go_wp2_with (at_builtin; refine Lib.wpList_append_run _ rfl _ _ _ _ rfl _ _ rfl rfl _ _ (hrun _) ?_)
  go_ret
  exact ⟨_, rfl, s1⟩

set_option maxRecDepth 100000 in
set_option maxHeartbeats 1000000 in
theorem concat_st {g : Nat} {v1 v2 : Value} {p q : List Nat} (st : St B w0 w (boxT g #[v1, v2] 22 :: r)) (h1 : ∀ W, St B w0 W r → ByteRow W v1 p) (h2 : ∀ W, St B w0 W r → ByteRow W v2 q) (hp : 0 < p.length) (hpl : p.length ≤ 100000) (hql : q.length ≤ 100000) :
    Calls Tryz.prog 41 #[.slice (some ⟨g, 0, none⟩) 2 2] w fun e w' => ∃ u, e = .returned u ∧ St B w0 w' (rowT 5 1 u (p ++ q).length (u8s (p ++ q)) :: boxT g #[v1, v2] 22 :: r) := by
  obtain ⟨c0, f0⟩ := st.boxAt 0
  obtain ⟨c1, f1⟩ := st.boxAt 1
  obtain ⟨a1, e1, hv1, -⟩ := h1 _ st.drop
  obtain ⟨a2, e2, hv2, -⟩ := h2 _ st.drop
  subst hv1 hv2
  have H1 := Lib.hid h1
  have H2 := Lib.hid h2
  clear h1 h2
  replace c0 : w.cell? ⟨g, 0, none⟩ = some (.slice a1 p.length e1) := c0
  replace c1 : w.cell? ⟨g, 1, none⟩ = some (.slice a2 q.length e2) := c1
  have hgr := fun W (s : St B w0 W (boxT g #[.slice a1 p.length e1, .slice a2 q.length e2] 22 :: r)) => grow_st s (p.length + q.length) (by omega) (by omega)
  go_enter Tryz.func41, Tryz.ntmps41
  go_wp2
  go_loopw [3, 5, 11] (fun sz _ i wr => (∃ k : Nat, k ≤ 2 ∧ i = .int .i64 (k : Int) ∧ sz = .int .i64 (((if k = 0 then 0 else if k = 1 then p.length else p.length + q.length) : Nat) : Int)) ∧ wr = w) (fun _ _ i _ => 2 - (intOf i).toNat)
  case atStart => exact ⟨⟨0, by omega, rfl, rfl⟩, rfl⟩
  case round =>
    obtain ⟨⟨k, hk, rfl, rfl⟩, rfl⟩ := hrel
    obtain rfl | rfl | rfl : k = 0 ∨ k = 1 ∨ k = 2 := by omega
    · go_wp2
      go_roundw
      case rel => exact ⟨⟨1, by omega, rfl, by simp⟩, trivial⟩
      case measure => simp [intOf]
    · go_wp2
      go_roundw
      case rel => exact ⟨⟨2, by omega, rfl, by simp⟩, trivial⟩
      case measure => simp [intOf]
    · have hgrow := hgr _ st
      rw [show ((p.length + q.length : Nat) : Int) = (p.length : Int) + (q.length : Int) from by omega] at hgrow
      go_wp2_with fail
      refine hgrow.mono ?_
      rintro e w1 ⟨u, rfl, s1⟩
      clear hgr hgrow st c0 c1 f0 f1
      go_wp2
      go_loopw [6, 8, 27] (fun sv _ i wr => ∃ (k : Nat) (l : List Nat), (k = 0 ∧ l = [] ∨ k = 1 ∧ l = p ∨ k = 2 ∧ l = p ++ q) ∧ i = .int .i64 (k : Int) ∧ St B w0 wr (rowT 5 1 sv l.length (u8s l) :: boxT g #[.slice a1 p.length e1, .slice a2 q.length e2] 22 :: r)) (fun _ _ i _ => 2 - (intOf i).toNat)
      case atStart => exact ⟨0, [], .inl ⟨rfl, rfl⟩, rfl, s1⟩
      case round =>
        clear s1
        obtain ⟨k, l, hkl, rfl, s2⟩ := hrel
        have c0 : wr.cell? ⟨g, 0, none⟩ = some (.slice a1 p.length e1) := (St.boxAt s2.swap 0).1
        have c1 : wr.cell? ⟨g, 1, none⟩ = some (.slice a2 q.length e2) := (St.boxAt s2.swap 1).1
        obtain ⟨rfl, rfl⟩ | ⟨rfl, rfl⟩ | ⟨rfl, rfl⟩ := hkl
        · have hb := H1.out _ s2.drop.drop
          go_wp2_with (at_builtin; refine wpList_append_bytes rfl _ _ rfl s2 hb rfl rfl (by simp; omega) ?_)
          intro v' w2 s3 _ _
          rw [show u8s [] ++ u8s p = u8s p from rfl] at s3
          go_wp2
          go_roundw
          case rel => exact ⟨1, p, .inr (.inl ⟨rfl, rfl⟩), rfl, s3⟩
          case measure => simp [intOf]
        · have hb := H2.out _ s2.drop.drop
          go_wp2_with (at_builtin; refine wpList_append_bytes rfl _ _ rfl s2 hb rfl rfl (by omega) ?_)
          intro v' w2 s3 _ _
          rw [← u8s_append, ← List.length_append] at s3
          go_wp2
          go_roundw
          case rel => exact ⟨2, _, .inr (.inr ⟨rfl, rfl⟩), rfl, s3⟩
          case measure => simp [intOf]
        · go_wp2
          go_ret
          exact ⟨_, rfl, s2⟩

end
end Go.Proofs.YtpcbhmkalofkmaaGreat.Hd

/-
  header's told: how many of the lengths of signs' words a head tells. No conditions.
-/
namespace Go.Proofs.YtpcbhmkalofkmaaGreat.Hd
open Go.RowKit Kraft

/-- The order behind k swaps. -/
def revTo : Nat → List Nat
  | 0 => order
  | k + 1 => ((revTo k).set k ((revTo k).getD (18 - k) 0)).set (18 - k) ((revTo k).getD k 0)

theorem revTo_length : ∀ k, (revTo k).length = 19
  | 0 => rfl
  | k + 1 => by rw [revTo, List.length_set, List.length_set, revTo_length k]

theorem revTo_end : revTo 9 = order.reverse := by decide +kernel

theorem rev_at (j : Nat) (hj : j < 19) : order.reverse[j]'(by simpa [order] using hj) = ord (18 - j) := by
  have : ∀ j (hj : j < 19), order.reverse[j]'(by simpa [order] using hj) = ord (18 - j) := by decide +kernel
  exact this j hj

/-- Where the first Code with a word stands, from the end on. -/
def idxOf (L : List Nat) : Nat := order.reverse.findIdx fun c => decide (len L c ≠ 0)

/-- How many lengths a head tells. -/
def zOf (L : List Nat) : Nat := max (19 - idxOf L) 4

theorem idxOf_eq {L : List Nat} {k : Nat} (hk : k < 19) (h1 : len L (ord (18 - k)) ≠ 0) (h2 : ∀ j, j < k → len L (ord (18 - j)) = 0) : idxOf L = k := by
  unfold idxOf
  rw [List.findIdx_eq (by simpa [order] using hk)]
  refine ⟨?_, fun j hj => ?_⟩
  · rw [rev_at k hk]; exact decide_eq_true h1
  · rw [rev_at j (by omega), h2 j hj]; rfl

theorem idxOf_spec {L : List Nat} (h : ∃ c, c < 19 ∧ len L c ≠ 0) : idxOf L < 19 ∧ ∀ j, j < idxOf L → len L (ord (18 - j)) = 0 := by
  obtain ⟨c, hc, hne⟩ := h
  obtain ⟨i, hi, rfl⟩ := ord_onto hc
  have hlt : idxOf L < order.reverse.length := by
    unfold idxOf
    rw [List.findIdx_lt_length]
    refine ⟨ord i, ?_, decide_eq_true hne⟩
    have := List.getElem_mem (l := order.reverse) (n := 18 - i) (by simp [order]; omega)
    rw [rev_at (18 - i) (by omega), show 18 - (18 - i) = i from by omega] at this
    exact this
  have h19 : idxOf L < 19 := by simpa [order] using hlt
  refine ⟨h19, fun j hj => ?_⟩
  have h2 := List.not_of_lt_findIdx (p := fun c => decide (len L c ≠ 0)) (xs := order.reverse) (i := j) hj
  rw [rev_at j (by omega)] at h2
  simpa using h2

theorem zOf_spec {L : List Nat} (h : ∃ c, c < 19 ∧ len L c ≠ 0) : 4 ≤ zOf L ∧ zOf L ≤ 19 ∧ ∀ i, zOf L ≤ i → i < 19 → len L (ord i) = 0 := by
  obtain ⟨h1, h2⟩ := idxOf_spec h
  unfold zOf
  refine ⟨by omega, by omega, fun i hi hi2 => ?_⟩
  have := h2 (18 - i) (by omega)
  rwa [show 18 - (18 - i) = i from by omega] at this

section
variable {B : Nat} {w0 w : World} {r : List Thing}

set_option maxRecDepth 100000 in
theorem reverse_st {g : Nat} (st : St B w0 w (bytesT g 19 order :: r)) :
    Calls Tryz.prog 118 #[.slice (some ⟨g, 0, none⟩) 19 19] w fun e w' => e = .returned (.tuple #[]) ∧ St B w0 w' (bytesT g 19 order.reverse :: r) := by
  rw [← revTo_end]
  go_enter Tryz.func118, Tryz.ntmps118
  go_wp2
  go_loopw [2, 3] (fun i j wr => ∃ k : Nat, k ≤ 9 ∧ i = .int .i64 (k : Int) ∧ j = .int .i64 ((18 - k : Nat) : Int) ∧ St B w0 wr (bytesT g 19 (revTo k) :: r)) (fun i _ _ => 9 - (intOf i).toNat)
  case atStart => exact ⟨0, by omega, rfl, rfl, st⟩
  case round =>
    clear st
    obtain ⟨k, hk, rfl, rfl, s1⟩ := hrel
    by_cases hlt : k < 9
    · have hl := revTo_length k
      obtain ⟨c0, f0⟩ := s1.rowCell k hl (by omega)
      obtain ⟨c1, f1⟩ := s1.rowCell (18 - k) hl (by omega)
      have s2 := (s1.put k ((revTo k).getD (18 - k) 0)).put (18 - k) ((revTo k).getD k 0)
      have s3 : St B w0 _ (bytesT g 19 (revTo (k + 1)) :: r) := s2
      rw [getD_in _ _ (by omega : 18 - k < (revTo k).length), getD_in _ _ (by omega : k < (revTo k).length)] at s3
      generalize (revTo k)[k]'(by omega) = x at *
      generalize (revTo k)[18 - k]'(by omega) = y at *
      obtain ⟨d, hd⟩ : ∃ d, 18 - k = d := ⟨_, rfl⟩
      rw [hd] at c1 f1 s3 ⊢
      have hkd : k ≠ d := by omega
      have hd19 : d < 19 := by omega
      have HS := Lib.hid s3
      clear s2 hl s1
      clear s3
      go_wp2
      go_region
      have s4 := HS.out.drew
      generalize ((wr.setCell ⟨g, k, none⟩ (.int .u8 (y : Int))).setCell ⟨g, d, none⟩ (.int .u8 (x : Int))).drew = w2 at *
      clear c0 c1 f0 f1 HS
      go_wp2
      refine ⟨⟨k + 1, by omega, by go_num, ?_, s4⟩, ?_⟩
      · rw [show 18 - (k + 1) = d - 1 from by omega]
        go_num
      · simp [intOf]
        omega
    · obtain rfl : k = 9 := by omega
      go_wp2
      go_end0
      exact ⟨rfl, s1⟩

theorem word_any (w : World) (b c : Nat) (lv : Value) (L : List Nat) (hb : w.cell? ⟨b, 0, none⟩ = some lv) (h : ByteRow w lv L) (h19 : L.length = 19) (hc : c < 19) :
    Calls Tryz.prog 119 #[.int .u8 (c : Int), .pointer (some ⟨b, 0, none⟩)] w fun e w' => e = .returned (.bool (decide (len L c ≠ 0))) ∧ w = w' := by
  obtain ⟨a, cap, rfl, hcap, hn, hat⟩ := h
  obtain ⟨hx, g, off, rfl, hcell⟩ := hat c (by omega)
  have e : len L c = L[c]'(by omega) := len_at L c (by omega)
  rw [e]
  clear e hat
  generalize L[c]'(by omega) = x at *
  rw [h19] at hb hcap
  by_cases h0 : x = 0
  · subst h0
    go_enter Tryz.func119, Tryz.ntmps119
    go_wp2
    go_ret
    exact ⟨rfl, rfl⟩
  · rw [decide_eq_true h0]
    have hne : ((x : Int) != 0) = true := by rw [bne_iff_ne]; omega
    go_enter Tryz.func119, Tryz.ntmps119
    go_wp2
    go_ret
    exact ⟨rfl, rfl⟩

set_option maxRecDepth 100000 in
set_option maxHeartbeats 1000000 in
/-- slices.IndexFunc: the first Code that has a word, from the end on. -/
theorem spare_st {g b : Nat} {lv : Value} {L : List Nat} (st : St B w0 w (bytesT g 19 order.reverse :: boxT b #[lv] 22 :: r)) (hl : ∀ W, St B w0 W r → ByteRow W lv L) (h19 : L.length = 19) (hpos : ∃ c, c < 19 ∧ len L c ≠ 0) :
    Calls Tryz.prog 111 #[.slice (some ⟨g, 0, none⟩) 19 19, .func (.func 119) #[] #[.pointer (some ⟨b, 0, none⟩)]] w fun e w' => e = .returned (.int .i64 (idxOf L : Int)) ∧ w = w' := by
  obtain ⟨hi1, hi2⟩ := idxOf_spec hpos
  have HW := Lib.hid (fun c (hc : c < 19) => word_any w b c lv L (St.boxAt st.swap 0).1 (hl _ st.drop.drop) h19 hc)
  have HR := Lib.hid (fun k (hk : k < 19) => st.rowCell k (by simp [order]) hk)
  have HX := Lib.hid (fun k => idxOf_eq (L := L) (k := k))
  have HI := Lib.hid hi1
  have HI2 := Lib.hid hi2
  have HP := Lib.hid hpos
  clear hi1 hi2 hpos hl st
  go_enter Tryz.func111, Tryz.ntmps111
  go_wp2
  go_loopw [5, 8] (fun _ i wr => ∃ k : Nat, k ≤ 19 ∧ i = .int .i64 (k : Int) ∧ Hid (∀ j, j < k → len L (ord (18 - j)) = 0) ∧ wr = w) (fun _ i _ => 19 - (intOf i).toNat)
  case atStart => exact ⟨0, by omega, rfl, Lib.hid (fun j hj => absurd hj (Nat.not_lt_zero _)), rfl⟩
  case round =>
    obtain ⟨k, hk, rfl, hz, rfl⟩ := hrel
    by_cases hlt : k < 19
    · obtain ⟨c0, f0⟩ := HR.out k hlt
      rw [rev_at k hlt] at c0
      have hc := HW.out (ord (18 - k)) (ord_lt _)
      have HE := Lib.hid (HX.out k hlt)
      have HS : Hid (len L (ord (18 - k)) = 0 → ∀ j, j < k + 1 → len L (ord (18 - j)) = 0) := Lib.hid (fun h j hj => by
        by_cases e : j = k
        · rw [e]; exact h
        · exact hz.out j (by omega))
      have ho := ord_lt (18 - k)
      by_cases h0 : len L (ord (18 - k)) = 0
      · rw [h0] at hc
        have HZ := Lib.hid (HS.out h0)
        clear HS HE h0
        generalize ord (18 - k) = o at *
        go_wp2_with (go_at_call 119; refine hc.mono ?_; rintro e w1 ⟨rfl, rfl⟩; try simp only [ne_eq, not_true, decide_false])
        go_roundw
        case rel => exact ⟨k + 1, by omega, by go_num, HZ, trivial⟩
        case measure => simp [intOf]; omega
      · have hx := HE.out h0 hz.out
        rw [decide_eq_true h0] at hc
        have HE2 := Lib.hid hx
        clear HS HE h0 hx
        generalize ord (18 - k) = o at *
        go_wp2_with (go_at_call 119; refine hc.mono ?_; rintro e w1 ⟨rfl, rfl⟩)
        go_ret
        exact ⟨by rw [HE2.out]; rfl, rfl⟩
    · exfalso
      obtain ⟨c, hc, hne⟩ := HP.out
      obtain ⟨i, hi, rfl⟩ := ord_onto hc
      refine hne ?_
      have := hz.out (18 - i) (by omega)
      rwa [show 18 - (18 - i) = i from by omega] at this

set_option maxRecDepth 100000 in
set_option maxHeartbeats 1000000 in
theorem told_st {lv : Value} {L : List Nat} (st : St B w0 w r) (hl : ∀ W, St B w0 W r → ByteRow W lv L) (h19 : L.length = 19) (hpos : ∃ c, c < 19 ∧ len L c ≠ 0) :
    Calls Tryz.prog 72 #[lv] w fun e w' => ∃ o, e = .returned (.slice (some ⟨o, 0, none⟩) (zOf L) 19) ∧ St B w0 w' (bytesT o 19 order :: r) := by
  obtain ⟨z4, z19, _⟩ := zOf_spec hpos
  have hi := (idxOf_spec hpos).1
  have HZ := Lib.hid (show zOf L = max (19 - idxOf L) 4 from rfl)
  have hsp := fun (W : World) (g b : Nat) (s : St B w0 W (bytesT g 19 order.reverse :: boxT b #[lv] 22 :: r)) => spare_st s hl h19 hpos
  obtain ⟨la, lc, hlv, -⟩ := hl _ st
  rw [h19] at hlv
  subst hlv
  have s1 := st.newBox #[.slice la 19 lc] 22
  obtain ⟨b, hb⟩ : ∃ b, b = w.heap.size := ⟨_, rfl⟩
  rw [← hb] at s1
  generalize idxOf L = ix at *
  generalize zOf L = z at *
  clear hl h19 hpos st
  go_enter Tryz.func72, Tryz.ntmps72
  go_wp2_with fail
  rw [← hb]
  clear hb
  refine (order_st s1).mono ?_
  rintro e w2 ⟨o, rfl, s2⟩
  go_wp2_with fail
  refine (reverse_st s2).mono ?_
  rintro e w3 ⟨rfl, s3⟩
  have hs := hsp _ _ _ s3
  go_wp2_with fail
  refine hs.mono ?_
  rintro e w4 ⟨rfl, rfl⟩
  go_wp2_with fail
  refine (order_st s3).mono ?_
  rintro e w5 ⟨o2, rfl, s5⟩
  have s6 : St B w0 w5 (bytesT o2 19 order :: r) := ((s5.front 1).drop.front 1).drop
  clear s1 s2 s3 s5 hs hsp
  go_wp2
  · have hz : z = 4 := by have := HZ.out; omega
    subst hz
    go_ret
    exact ⟨o2, rfl, s6⟩
  · have hz : z = 19 - ix := by have := HZ.out; omega
    subst hz
    go_ret
    exact ⟨o2, rfl, s6⟩

end
end Go.Proofs.YtpcbhmkalofkmaaGreat.Hd

/-
  header's howOften, putTold, putSigns. No conditions but that rows are small.
-/
namespace Go.Proofs.YtpcbhmkalofkmaaGreat.Hd
open Go.RowKit Kraft Limit

theorem freqs_snoc (l : List (Nat × Nat)) (s : Nat × Nat) : (freqs l).set s.1 (cnt l s.1 + 1) = freqs (l ++ [s]) := by
  refine List.ext_getElem (by rw [List.length_set, freqs_length, freqs_length]) fun i h1 h2 => ?_
  rw [freqs_length] at h2
  rw [List.getElem_set]
  have e1 : (freqs (l ++ [s]))[i]'(by rw [freqs_length]; exact h2) = cnt (l ++ [s]) i := by simp [freqs]
  have e2 : (freqs l)[i]'(by rw [freqs_length]; exact h2) = cnt l i := by simp [freqs]
  rw [e1, e2, cnt_snoc]
  by_cases hi : s.1 = i
  · rw [if_pos hi, if_pos hi, hi]
  · rw [if_neg hi, if_neg hi, Nat.add_zero]

section
variable {B : Nat} {w0 w : World} {r : List Thing}

set_option maxRecDepth 100000 in
set_option maxHeartbeats 1000000 in
theorem howOften_st (st : St B w0 w r) (sv : Value) (l : List (Nat × Nat)) (hs : ∀ W, St B w0 W r → Rep.SignRow W sv l) (hc : ∀ s ∈ l, s.1 < 19) (hl : l.length ≤ 100000) :
    Calls Tryz.prog 42 #[sv] w fun e w' => ∃ g, e = .returned (.slice (some ⟨g, 0, none⟩) 19 19) ∧ St B w0 w' (numsT 3 g 19 (freqs l) :: r) := by
  obtain ⟨a, cap, rfl, hcap, hmx, hnn, -⟩ := hs w st
  have HX := Lib.hid hs
  have HC := Lib.hid hc
  clear hs hc
  obtain ⟨i0, hi, hz0, hz1, hz2⟩ := info_parts infoI
  have hmk : i0.bytes * 19 ≤ 281474976710656 := by rw [hz2]; omega
  have hmx2 : 19 ≤ maxLen := by unfold maxLen; omega
  go_enter Tryz.func42, Tryz.ntmps42
  go_wp2_with (at_make; refine wpList_make_full _ rfl _ _ 80 rfl w.heap.size 3 i0 (.int .i64 0) 1 Tryz.underlying80 hi hz0 hz1 _ _ _ _ 19 rfl rfl rfl rfl hmk hmx2 (Nat.le_refl _) ?_)
  intro w1 hown hgrow
  have s1 := st.madeNums hown hgrow
  clear hown hgrow hi hz0 hz1 hz2 hmk hmx2 st
  obtain ⟨g, hg⟩ : ∃ g, g = w.heap.size := ⟨_, rfl⟩
  rw [← hg] at s1
  try rw [← hg]
  clear hg
  go_wp2
  go_loopw [5, 9] (fun _ i wr => ∃ k : Nat, k ≤ l.length ∧ i = .int .i64 (k : Int) ∧ St B w0 wr (numsT 3 g 19 (freqs (l.take k)) :: r)) (fun _ i _ => l.length - (intOf i).toNat)
  case atStart => exact ⟨0, Nat.zero_le _, rfl, by rw [List.take_zero, show freqs [] = List.replicate 19 0 from by decide +kernel]; exact s1⟩
  case round =>
    clear s1
    obtain ⟨k, hk, rfl, s2⟩ := hrel
    by_cases hlt : k < l.length
    · obtain ⟨a', cap', e1, _, _, _, hat⟩ := HX.out _ s2.drop
      obtain ⟨rfl, -, rfl⟩ := Value.slice.inj e1
      obtain ⟨⟨hy0, hy1⟩, b, off, rfl, c0, c1⟩ := hat k hlt
      have h19 := HC.out _ (List.getElem_mem hlt)
      have hf := freqs_snoc (l.take k) l[k]
      rw [List.take_append_getElem hlt] at hf
      have hcl := cnt_le (l.take k) l[k].1
      rw [List.length_take] at hcl
      have hfl := freqs_length (l.take k)
      have hat2 : (freqs (l.take k))[l[k].1]'(by rw [hfl]; exact h19) = cnt (l.take k) l[k].1 := by simp [freqs]
      have s3 := (s2.newBox #[.int .u8 (l[k].1 : Int), .int .u8 (l[k].2 : Int)] 131).swap
      obtain ⟨f0, f1⟩ := s3.numCell l[k].1 hfl h19
      rw [hat2] at f0
      have s4 := (s3.putNum l[k].1 (cnt (l.take k) l[k].1 + 1))
      rw [hf] at s4
      clear hat e1 hat2 hf hfl s3
      generalize cnt (l.take k) l[k].1 = y at *
      obtain ⟨F2, hF2⟩ : ∃ F, F = freqs (l.take (k + 1)) := ⟨_, rfl⟩
      rw [← hF2] at s4
      have HF2 := Lib.hid hF2
      clear hF2
      generalize freqs (l.take k) = F1 at *
      generalize l[k].1 = c at *
      generalize l[k].2 = x at *
      have HS := Lib.hid s4
      clear s4
      go_wp2
      refine ⟨⟨k + 1, by omega, by go_num, ?_⟩, by simp [intOf]; omega⟩
      have s5 := HS.out.swap.drop
      rw [show ((y + 1 : Nat) : Int) = (y : Int) + 1 from by omega, HF2.out] at s5
      exact s5
    · obtain rfl : k = l.length := by omega
      rw [List.take_length] at s2
      go_wp2
      go_ret
      exact ⟨g, rfl, s2⟩

set_option maxRecDepth 100000 in
set_option maxHeartbeats 1000000 in
theorem putTold_st {pb : Nat} {l : List Bool} (st : St B w0 w (wrT pb l :: r)) (lv : Value) {L : List Nat} (hl : ∀ W, St B w0 W r → ByteRow W lv L) (h19 : L.length = 19) (h8 : ∀ x ∈ L, x < 8) (hpos : ∃ c, c < 19 ∧ len L c ≠ 0) (hll : l.length ≤ 10000000) :
    Calls Tryz.prog 43 #[.pointer (some ⟨pb, 0, none⟩), lv] w fun e w' => e = .returned (.tuple #[]) ∧ St B w0 w' (wrT pb (l ++ (bitsOf (zOf L - 4) 4 ++ lensBits L (zOf L))) :: r) := by
  obtain ⟨z4, z19, _⟩ := zOf_spec hpos
  have htold := told_st st (fun W s => hl W s.drop) h19 hpos
  obtain ⟨la, lc, hlv, hcap, -⟩ := hl _ st.drop
  rw [h19] at hlv hcap
  subst hlv
  have HL := Lib.hid hl
  have H8 := Lib.hid h8
  have H19 := Lib.hid h19
  clear hl hpos h8
  generalize zOf L = z at *
  go_enter Tryz.func43, Tryz.ntmps43
  go_wp2_with fail
  refine htold.mono ?_
  rintro e w1 ⟨o, rfl, s1⟩
  clear htold st
  have hput := put_st s1.swap (z - 4) 4 (by omega) (by omega) (by omega)
  rw [show ((z - 4 : Nat) : Int) = (z : Int) - 4 from by omega] at hput
  go_wp2_with fail
  refine hput.mono ?_
  rintro e w2 ⟨rfl, s2⟩
  clear hput s1
  go_wp2
  go_loopw [6, 17] (fun _ i wr => ∃ k : Nat, k ≤ z ∧ i = .int .i64 (k : Int) ∧ St B w0 wr (wrT pb (l ++ bitsOf (z - 4) 4 ++ lensBits L k) :: bytesT o 19 order :: r)) (fun _ i _ => z - (intOf i).toNat)
  case atStart => exact ⟨0, Nat.zero_le _, rfl, by rw [show lensBits L 0 = [] from rfl, List.append_nil]; exact s2⟩
  case round =>
    clear s2
    obtain ⟨k, hk, rfl, s3⟩ := hrel
    by_cases hlt : k < z
    · obtain ⟨c0, f0⟩ := s3.swap.rowCell k rfl (by omega)
      rw [order_at] at c0
      have ho := ord_lt k
      have hlb := lensBits_length L k
      have hnext : lensBits L (k + 1) = lensBits L k ++ bitsOf (len L (ord k)) 3 := rfl
      rw [len_at L (ord k) (by omega)] at hnext
      obtain ⟨a', cap', e1, _, _, hat⟩ := HL.out _ s3.drop.drop
      obtain ⟨rfl, -, rfl⟩ := Value.slice.inj e1
      obtain ⟨hx, b, off, rfl, c1⟩ := hat (ord k) (by omega)
      have hx8 := H8.out _ (List.getElem_mem (l := L) (n := ord k) (by omega))
      have hput := put_st s3 (L[ord k]'(by omega)) 3 (by rw [List.length_append, List.length_append, hlb, bitsOf_length]; omega) (by omega) hx8
      rw [List.append_assoc, ← hnext] at hput
      clear hat e1 hnext hlb
      generalize L[ord k]'(by omega) = x at *
      generalize ord k = j at *
      go_wp2_with fail
      refine hput.mono ?_
      rintro e w4 ⟨rfl, s4⟩
      clear hput s3
      go_wp2
      go_roundw
      case rel => exact ⟨k + 1, by omega, by go_num, s4⟩
      case measure => simp [intOf]; omega
    · obtain rfl : k = z := by omega
      go_wp2
      go_end0
      refine ⟨rfl, ?_⟩
      rw [List.append_assoc] at s3
      exact s3.swap.drop

set_option maxRecDepth 100000 in
set_option maxHeartbeats 2000000 in
theorem putSigns_st {pb tb : Nat} {l : List Bool} {L : List Nat} (st : St B w0 w (wrT pb l :: tblL tb L :: r)) (sv : Value) (m : List (Nat × Nat)) (hs : ∀ W, St B w0 W r → Rep.SignRow W sv m) (h20 : ∀ j, len L j ≤ 20) (hw : weight L ≤ 1048576)
    (hm : ∀ s ∈ m, s.1 < 19 ∧ 0 < len L s.1 ∧ s.2 < 2 ^ Rep.bitsOf' s.1) (hml : m.length ≤ 100000) (hll : l.length ≤ 10000000) :
    Calls Tryz.prog 44 #[.pointer (some ⟨pb, 0, none⟩), .pointer (some ⟨tb, 0, none⟩), sv] w fun e w' => e = .returned (.tuple #[]) ∧ St B w0 w' (wrT pb (l ++ encS L m) :: tblL tb L :: r) := by
  obtain ⟨a, cap, rfl, hcap, hmx, hnn, -⟩ := hs w st.drop.drop
  have HX := Lib.hid hs
  have HM := Lib.hid hm
  have H20 := Lib.hid h20
  have HW := Lib.hid hw
  clear hs hm h20 hw
  have henc : ∀ k, k ≤ m.length → (encS L (m.take k)).length ≤ 27 * k := by
    intro k hk
    induction k with
    | zero => simp [encS]
    | succ k ih =>
      have h1 := ih (by omega)
      have e : m.take (k + 1) = m.take k ++ [m[k]] := by rw [List.take_append_getElem (by omega)]
      have h2 := (HM.out _ (List.getElem_mem (show k < m.length by omega)))
      have h3 := H20.out m[k].1
      have hb7 : Rep.bitsOf' m[k].1 ≤ 7 := by unfold Rep.bitsOf'; split <;> (try split) <;> (try split) <;> omega
      rw [e]
      unfold encS at h1 ⊢
      rw [List.flatMap_append, List.length_append]
      simp only [List.flatMap_cons, List.flatMap_nil, List.append_nil, List.length_append, bitsOf_length]
      rw [wordBits_length, bitsAtSym_nat]
      omega
  have HE := Lib.hid henc
  clear henc
  go_enter Tryz.func44, Tryz.ntmps44
  go_wp2
  go_loopw [7, 10] (fun _ i wr => ∃ k : Nat, k ≤ m.length ∧ i = .int .i64 (k : Int) ∧ St B w0 wr (wrT pb (l ++ encS L (m.take k)) :: tblL tb L :: r)) (fun _ i _ => m.length - (intOf i).toNat)
  case atStart => exact ⟨0, Nat.zero_le _, rfl, by rw [List.take_zero, show encS L [] = [] from rfl, List.append_nil]; exact st⟩
  case round =>
    clear st
    obtain ⟨k, hk, rfl, s1⟩ := hrel
    by_cases hlt : k < m.length
    · obtain ⟨a', cap', e1, _, _, _, hat⟩ := HX.out _ s1.drop.drop
      obtain ⟨rfl, -, rfl⟩ := Value.slice.inj e1
      obtain ⟨⟨hy0, hy1⟩, b, off, rfl, c0, c1⟩ := hat k hlt
      obtain ⟨h19, hpos, hx⟩ := HM.out _ (List.getElem_mem hlt)
      have hel := HE.out k (by omega)
      have hnext : encS L (m.take (k + 1)) = encS L (m.take k) ++ (wordBits L (m[k].1 : Int) ++ bitsOf m[k].2 (Rep.bitsOf' m[k].1)) := by
        rw [← List.take_append_getElem hlt]
        unfold encS
        rw [List.flatMap_append]
        simp
      have h20 := H20.out m[k].1
      have hwl : (wordBits L (m[k].1 : Int)).length ≤ 20 := by rw [wordBits_length, bitsAtSym_nat]; exact h20
      have hpe : putErr L (m[k].1 : Int) = 0 := by unfold putErr; rw [if_neg (by rw [bitsAtSym_nat]; omega)]
      have s2 := (s1.newBox #[.int .u8 (m[k].1 : Int), .int .u8 (m[k].2 : Int)] 131)
      have s3 := (s2.front 1).front 2
      change St B w0 _ (tblL tb L :: wrT pb (l ++ encS L (m.take k)) :: boxT wr.heap.size #[.int .u8 (m[k].1 : Int), .int .u8 (m[k].2 : Int)] 131 :: r) at s3
      have hp := Low.tput_st s3.swap (m[k].1 : Int) H20.out HW.out (by rw [List.length_append]; omega)
      rw [hpe] at hp
      have hbits := fun W => Rep.bits_any W m[k].1 hy0
      have hb7 : Rep.bitsOf' m[k].1 ≤ 7 := by unfold Rep.bitsOf'; split <;> (try split) <;> (try split) <;> omega
      clear hat e1 s2 s3 hpe h20
      obtain ⟨E2, hE2⟩ : ∃ E, E = encS L (m.take (k + 1)) := ⟨_, rfl⟩
      rw [← hE2] at hnext
      have HE2 := Lib.hid hE2
      clear hE2
      generalize encS L (m.take k) = E1 at *
      generalize Rep.bitsOf' m[k].1 = bb at *
      generalize m[k].1 = c at *
      generalize m[k].2 = x at *
      generalize wordBits L (c : Int) = WB at *
      obtain ⟨ob, hob⟩ : ∃ ob, ob = wr.heap.size := ⟨_, rfl⟩
      rw [← hob] at hp
      go_wp2_with fail
      rw [← hob]
      refine hp.mono ?_
      rintro e w2 ⟨rfl, s4⟩
      clear hp hob s1
      have x0 : w2.cell? ⟨ob, 0, none⟩ = some (.int .u8 (c : Int)) := (St.boxAt (s4.front 2) 0).1
      have x1 : w2.cell? ⟨ob, 1, none⟩ = some (.int .u8 (x : Int)) := (St.boxAt (s4.front 2) 1).1
      have s5 := s4.drew
      have hput := put_st s5 x bb (by rw [List.length_append, List.length_append]; omega) (by omega) hx
      rw [show l ++ E1 ++ WB ++ bitsOf x bb = l ++ E2 from by rw [hnext]; simp only [List.append_assoc]] at hput
      have y0 : w2.drew.cell? ⟨ob, 0, none⟩ = some (.int .u8 (c : Int)) := x0
      have y1 : w2.drew.cell? ⟨ob, 1, none⟩ = some (.int .u8 (x : Int)) := x1
      go_wp2
      clear hnext c0 c1 s4 hx hpos x0 x1
      refine region_seg (by kernel_rfl) [0] 7 rfl (by kernel_rfl) (by kernel_rfl) (fun _ _ d _ _ h => by cases d <;> exact h) ?_
      generalize w2.drew = wd at *
      intro K hK
      simp only [pickL, List.getElem?_cons_zero]
      go_wp2_with fail
      try clear hK K
      have hwx : IntKind.u32.wrap (x : Int) = (x : Int) := IntWalk.u32_in _ (by omega)
      refine wpAny_of_held (S := fun W => W.cell? ⟨ob, 0, none⟩ = some (.int .u8 (c : Int)) ∧ W.cell? ⟨ob, 1, none⟩ = some (.int .u8 (x : Int))) _ _ _ _ ?_
      refine wpAnyH_take (i := 1) (v := .pointer (some ⟨ob, 1, none⟩)) rfl (by kernel_rfl) (by kernel_rfl) (by kernel_rfl) (fun _ _ _ h => h) (.inl ⟨rfl, fun W hW => by obtain ⟨k0, k1⟩ := hW; go_simp⟩) ⟨y0, y1⟩ ?_
      refine wpAnyH_take (i := 2) (v := .int .u8 (x : Int)) rfl (by kernel_rfl) (by kernel_rfl) (by kernel_rfl) (fun _ _ _ h => h) (.inl ⟨rfl, fun W hW => by obtain ⟨k0, k1⟩ := hW; go_simp⟩) ⟨y0, y1⟩ ?_
      refine wpAnyH_take (i := 3) (v := .int .u32 (x : Int)) rfl (by kernel_rfl) (by kernel_rfl) (by kernel_rfl) (fun _ _ _ h => h) (.inl ⟨rfl, fun W hW => by obtain ⟨k0, k1⟩ := hW; go_simp⟩) ⟨y0, y1⟩ ?_
      refine wpAnyH_take (i := 4) (v := .pointer (some ⟨ob, 0, none⟩)) rfl (by kernel_rfl) (by kernel_rfl) (by kernel_rfl) (fun _ _ _ h => h) (.inl ⟨rfl, fun W hW => by obtain ⟨k0, k1⟩ := hW; go_simp⟩) ⟨y0, y1⟩ ?_
      refine wpAnyH_take (i := 5) (v := .int .u8 (c : Int)) rfl (by kernel_rfl) (by kernel_rfl) (by kernel_rfl) (fun _ _ _ h => h) (.inl ⟨rfl, fun W hW => by obtain ⟨k0, k1⟩ := hW; go_simp⟩) ⟨y0, y1⟩ ?_
      refine held_step (j := 6) _ (by kernel_rfl) rfl ?_
      intro N1 hN1
      go_wp2_with (go_at_call 73; refine (hbits _).mono ?_; rintro e w3 ⟨rfl, rfl⟩)
      refine hN1 _ _ ⟨y0, y1⟩ ?_
      try clear hN1 N1
      refine held_step (j := 7) _ (by kernel_rfl) rfl ?_
      intro N2 hN2
      go_wp2_with (go_at_call 11; refine hput.mono ?_; rintro e w4 ⟨rfl, s6⟩)
      refine hN2 _ _ ⟨(St.boxAt (s6.front 2) 0).1, (St.boxAt (s6.front 2) 1).1⟩ ?_
      try clear hN2 N2
      refine wpAnyH_done (by kernel_rfl) ?_ 0
      have HS7 := Lib.hid ((s6.front 2).drop)
      clear s5 s6 hput y0 y1
      go_wp2
      refine ⟨⟨k + 1, by omega, by go_num, ?_⟩, by simp [intOf]; omega⟩
      have s8 := HS7.out
      rw [HE2.out] at s8
      exact s8
    · obtain rfl : k = m.length := by omega
      rw [List.take_length] at s1
      go_wp2
      go_end0
      exact ⟨rfl, s1⟩

end
end Go.Proofs.YtpcbhmkalofkmaaGreat.Hd
