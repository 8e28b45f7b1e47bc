/-
  Contracts of package limit: the symbols, the rarest first. No conditions but those of the calls.
-/
import Derived.Test.YtpcbhmkalofkmaaGreatLimA
import Derived.Test.YtpcbhmkalofkmaaGreatLimS
import Derived.Lib.OwnBridge
import Derived.Deep.RegionWith
import Derived.StillTailTactics
namespace Go.Proofs.YtpcbhmkalofkmaaGreat.Limit
open Go.RowKit Go.Shelf Go.Lib Go.Sort

/-- cmp.Or of two numbers. -/
def orI (x y : Int) : Int := if x = 0 then y else x

set_option maxRecDepth 100000 in
theorem or_two (W : World) (b : Nat) (x y : Int) (h0 : W.cell? ⟨b, 0, none⟩ = some (.int .i64 x)) (h1 : W.cell? ⟨b, 1, none⟩ = some (.int .i64 y)) :
    Calls Tryz.prog 104 #[.slice (some ⟨b, 0, none⟩) 2 2] W fun e w' => e = .returned (.int .i64 (orI x y)) ∧ w' = W := by
  obtain ⟨z, hz⟩ : ∃ z, orI x y = z := ⟨_, rfl⟩
  rw [hz]
  have HZ := Lib.hid hz
  clear hz
  go_enter Tryz.func104, Tryz.ntmps104
  go_wp2
  go_loopw [5, 8] (fun _ i wr => ∃ k : Nat, k ≤ 2 ∧ i = .int .i64 (k : Int) ∧ (0 < k → x = 0) ∧ (1 < k → y = 0) ∧ wr = W) (fun _ i _ => 2 - (intOf i).toNat)
  case atStart => exact ⟨0, by omega, rfl, fun h => by omega, fun h => by omega, rfl⟩
  case round =>
    obtain ⟨k, hk, rfl, hx, hy, rfl⟩ := hrel
    have hk3 : k = 0 ∨ k = 1 ∨ k = 2 := by omega
    rcases hk3 with rfl | rfl | rfl
    · by_cases c : x = 0
      · subst c
        go_wp2
        go_roundw
        case rel => exact ⟨1, by omega, rfl, fun _ => trivial, fun h => by omega, trivial⟩
        case measure => simp [intOf]
      · go_wp2
        go_ret
        refine ⟨?_, rfl⟩
        rw [← HZ.out]; unfold orI; rw [if_neg c]; rfl
    · obtain rfl := hx (by omega)
      by_cases c : y = 0
      · subst c
        go_wp2
        go_roundw
        case rel => exact ⟨2, by omega, rfl, fun _ => trivial, fun _ => trivial, trivial⟩
        case measure => simp [intOf]
      · go_wp2
        go_ret
        refine ⟨?_, rfl⟩
        rw [← HZ.out]; unfold orI; rw [if_pos rfl]; rfl
    · obtain rfl := hx (by omega)
      obtain rfl := hy (by omega)
      go_wp2
      go_ret
      exact ⟨by rw [← HZ.out]; rfl, rfl⟩

theorem compare_any (x y : Int) (W : World) : Calls Tryz.prog 105 #[.int .i64 x, .int .i64 y] W fun e w' => e = .returned (.int .i64 (Lib.compareInt x y)) ∧ w' = W :=
  AnyG.cmp_Compare_int Tryz.cmpInt x y W

/-- How two symbols stand. -/
def byRare (F : List Nat) (x y : Nat) : Int := orI (Lib.compareInt (nth F x) (nth F y)) (Lib.compareInt x y)

set_option maxRecDepth 100000 in
set_option maxHeartbeats 2000000 in
/-- The comparison. -/
theorem rare_close (W : World) (Bs : Nat) (v : Value) (F : List Nat) (h : NumRow W v F) (hB : W.cell? ⟨Bs, 0, none⟩ = some v) (x y : Nat) (hx : x < F.length) (hy : y < F.length) :
    Calls Tryz.prog 103 #[.int .i64 (x : Int), .int .i64 (y : Int), .pointer (some ⟨Bs, 0, none⟩)] W fun e w' => e = .returned (.int .i64 (byRare F x y)) ∧ ∃ q os', w' = grow (W.drewN q) os' := by
  obtain ⟨a, cap, rfl, hc, hnn, hat⟩ := h
  obtain ⟨b0, off, rfl, c0⟩ := hat x hx
  obtain ⟨b1, off1, e1, c1⟩ := hat y hy
  obtain ⟨rfl, rfl⟩ : b0 = b1 ∧ off = off1 := by simpa using e1
  unfold byRare
  rw [nth_lt hx, nth_lt hy]
  clear hat e1 hnn
  generalize F[x] = fx at c0 ⊢
  generalize F[y] = fy at c1 ⊢
  have hc1 := fun W' => compare_any (fx : Int) (fy : Int) W'
  have hc2 := fun W' => compare_any (x : Int) (y : Int) W'
  generalize Lib.compareInt (fx : Int) (fy : Int) = r1 at hc1 ⊢
  generalize Lib.compareInt (x : Int) (y : Int) = r2 at hc2 ⊢
  have ho := fun W' b h0 h1 => or_two W' b r1 r2 h0 h1
  generalize orI r1 r2 = r3 at ho ⊢
  go_enter Tryz.func103, Tryz.ntmps103
  go_wp2
  refine wp_region_still_tail 12 (by kernel_rfl) (by kernel_rfl) ?_
  simp only [List.take_succ_cons, List.take_zero, List.drop_succ_cons, List.drop_zero]
  change wpStill _ _ W.drew _ _ _
  have c0' : W.drew.cell? ⟨b0, off + x, none⟩ = some (.int .i64 (fx : Int)) := c0
  have c1' : W.drew.cell? ⟨b0, off + y, none⟩ = some (.int .i64 (fy : Int)) := c1
  have hB' : W.drew.cell? ⟨Bs, 0, none⟩ = some (.slice (some ⟨b0, off, none⟩) F.length cap) := hB
  repeat still_step
  still_call (hc1 _)
  repeat still_step
  still_call (hc2 _)
  try refine wpStill_nil ?_
  change wpList _ _ _ _ _ W.drew
  clear c0 c1 hB c0' c1' hB'
  generalize hw2 : W.drew = w2
  go_wp2_with (go_at_call 104; refine (ho _ _ (by simp) (by simp)).mono ?_; rintro e w' ⟨rfl, rfl⟩)
  go_ret
  refine ⟨rfl, 1, #[.cells #[.int .i64 r1, .int .i64 r2] 3], ?_⟩
  rw [← hw2, alloc_eq_grow]
  rfl

/-- A slice of the call's own, its row sorted. -/
theorem below_sort {α : Type} [Inhabited α] (enc : α → Value) {B : Nat} {w : World} {g q : Nat} {d : Array α} {os : Array Obj} (hg : B ≤ g) (hB : B ≤ w.heap.size) : Below B w (grow (putRow enc (Sort.ahead w q) g 0 d) os) := by
  have h := Lib.below_putRow (enc := enc) (q := q) (d := d) (Below.refl B w) hg
  refine ⟨h.os, h.tape, h.output, Nat.le_trans h.size (by simp), fun k hk => ?_⟩
  rw [heap_grow_old _ _ (Nat.lt_of_lt_of_le hk (by simpa using hB))]
  exact h.block k hk

theorem grownBy_sort {α : Type} [Inhabited α] (enc : α → Value) {w : World} {g n : Nat} {os : Array Obj} (d : Array α) : w.grownBy (grow (putRow enc (Sort.ahead w n) g 0 d) os) (some g) := by
  refine ⟨rfl, rfl, rfl, by simp, fun k hk hne => ?_⟩
  rw [heap_grow_old _ _ (by simpa using hk)]
  have : g ≠ k := fun e => hne (by rw [e])
  simp [putRow, mapBlock, Sort.ahead, Array.getElem?_modify, this]

theorem St.sorted {α : Type} [Inhabited α] {enc : α → Value} {B : Nat} {w0 w : World} {e : TypeId} {g n cap q : Nat} {zs ys : List α} {os : Array Obj} {r : List Thing} (h : St B w0 w (rowT e 1 (.slice (some ⟨g, 0, none⟩) n cap) n (zs.map enc) :: r)) (hy : ys.length = n) :
    St B w0 (grow (putRow enc (Sort.ahead w q) g 0 ys.toArray) os) (rowT e 1 (.slice (some ⟨g, 0, none⟩) n cap) n (ys.map enc) :: r) := by
  have h1 := Lib.ownsRow_putRow (q := q) h.row hy (Nat.le_refl n)
  rw [List.take_of_length_le (by omega)] at h1
  have h2 : (grow (putRow enc (Sort.ahead w q) g 0 ys.toArray) os).ownsRow 0 e 1 (.slice (some ⟨g, 0, none⟩) n cap) n (ys.map enc) := by
    refine ⟨h1.1, ?_⟩
    rcases h1.2 with a | ⟨g', cap', cur, hv, hb, hg, rest⟩
    · exact .inl a
    · exact .inr ⟨g', cap', cur, hv, hb, by rw [heap_grow_old _ _ (lt_of_block hg)]; exact hg, rest⟩
  exact St.grown h h2 (grownBy_sort enc _) (Fresh.refl _ _)

/-! The order. -/

theorem compareInt_lt (x y : Int) : Lib.compareInt x y < 0 ↔ x < y := by
  unfold Lib.compareInt
  by_cases h1 : x < y
  · simp [h1]
  · by_cases h2 : y < x <;> simp [h1, h2]

theorem compareInt_zero (x y : Int) : Lib.compareInt x y = 0 ↔ x = y := by
  unfold Lib.compareInt
  by_cases h1 : x < y
  · simp [h1]; omega
  · by_cases h2 : y < x
    · simp [h1, h2]; omega
    · simp [h1, h2]; omega

theorem byRare_lt (F : List Nat) (x y : Nat) : byRare F x y < 0 ↔ nth F x < nth F y ∨ (nth F x = nth F y ∧ x < y) := by
  unfold byRare orI
  by_cases h : Lib.compareInt (nth F x) (nth F y) = 0
  · rw [if_pos h, compareInt_lt]
    have := (compareInt_zero _ _).1 h
    omega
  · rw [if_neg h, compareInt_lt]
    have hne : (nth F x : Int) ≠ (nth F y : Int) := fun e => h ((compareInt_zero _ _).2 e)
    omega

/-- How symbols of a row stand. -/
def cfF (F : List Nat) (x y : Fin F.length) : Int := byRare F x.val y.val

theorem cfF_lt (F : List Nat) (x y : Fin F.length) : ltOf (cfF F) x y = decide (nth F x.val < nth F y.val ∨ (nth F x.val = nth F y.val ∧ x.val < y.val)) := by
  unfold ltOf cfF
  exact decide_eq_decide.2 (byRare_lt F x.val y.val)

theorem cfF_swo (F : List Nat) : SWO (ltOf (cfF F)) where
  irrefl x := by rw [cfF_lt]; simp
  trans x y z h1 h2 := by rw [cfF_lt] at *; simp at *; omega
  ntrans x y z h1 h2 := by rw [cfF_lt] at *; simp at *; omega

theorem cfF_total (F : List Nat) (x y : Fin F.length) (h1 : ltOf (cfF F) x y = false) (h2 : ltOf (cfF F) y x = false) : x = y := by
  rw [cfF_lt] at *
  simp at *
  exact Fin.ext (by omega)

/-- A symbol as a value. -/
def encF (F : List Nat) (x : Fin F.length) : Value := .int .i64 (x.val : Int)

/-- The symbols whose frequency is above 0, of the first k. -/
def posTo (F : List Nat) (k : Nat) : List Nat := (List.range k).filter fun i => decide (0 < nth F i)

theorem posTo_lt (F : List Nat) {k : Nat} (hk : k ≤ F.length) : ∀ i ∈ posTo F k, i < F.length := by
  intro i hi
  have := List.mem_range.1 (List.mem_filter.1 hi).1
  omega

def finsOf (F : List Nat) : List (Fin F.length) := (posTo F F.length).pmap (fun i h => ⟨i, h⟩) (posTo_lt F (Nat.le_refl _))

theorem finsOf_vals (F : List Nat) : (finsOf F).map (fun x => x.val) = posTo F F.length := by
  unfold finsOf
  rw [List.map_pmap]
  simp

theorem enc_vals (F : List Nat) (l : List (Fin F.length)) : l.map (encF F) = i64s (l.map fun x => x.val) := by
  unfold i64s
  rw [List.map_map]
  rfl

/-- The symbols, the rarest first. -/
def rare (F : List Nat) : List Nat := ((finsOf F).mergeSort fun x y => !(ltOf (cfF F)) y x).map fun x => x.val

theorem rare_is (F : List Nat) : Rare F (rare F) where
  perm := by
    have h := (List.mergeSort_perm (finsOf F) fun x y => !(ltOf (cfF F)) y x).map (fun x => x.val)
    rw [finsOf_vals] at h
    exact h
  up := by
    unfold rare
    rw [List.map_map]
    have h := List.pairwise_mergeSort (le := fun x y => !(ltOf (cfF F)) y x) (fun x y z h1 h2 => by rw [cfF_lt] at *; simp at *; omega) (fun x y => by rw [cfF_lt, cfF_lt]; simp; omega) (finsOf F)
    rw [List.pairwise_map]
    exact h.imp fun {x y} hxy => by rw [cfF_lt] at hxy; simp at hxy; show nth F x.val ≤ nth F y.val; omega

theorem posTo_hit (F : List Nat) (k : Nat) (h : 0 < nth F k) : posTo F (k + 1) = posTo F k ++ [k] := by
  unfold posTo; rw [List.range_succ, List.filter_append]; simp [h]
theorem posTo_miss (F : List Nat) (k : Nat) (h : ¬ 0 < nth F k) : posTo F (k + 1) = posTo F k := by
  unfold posTo; rw [List.range_succ, List.filter_append]; simp [h]
theorem posTo_length (F : List Nat) (k : Nat) : (posTo F k).length ≤ k := by
  have := List.length_filter_le (fun i => decide (0 < nth F i)) (List.range k)
  simpa [posTo] using this

theorem rare_length (F : List Nat) : (rare F).length = (posTo F F.length).length := by
  have := (rare_is F).perm.length_eq
  exact this

theorem finsOf_length (F : List Nat) : (finsOf F).length = (posTo F F.length).length := by
  rw [← finsOf_vals]; simp

/-- slices.SortFunc of such a row. -/
theorem sort_any {w1 w : World} (Bs : Nat) (v : Value) (F : List Nat) (hv : NumRow w1 v F) (hb : w1.cell? ⟨Bs, 0, none⟩ = some v) {r : List Thing} {u : Value} (hpos : 0 < F.length)
    (st : St w1.heap.size w1 w (rowT 3 1 u (posTo F F.length).length (i64s (posTo F F.length)) :: r)) (hne : 0 < (posTo F F.length).length) (hlen : F.length ≤ 1000000) :
    Calls Tryz.prog 102 #[u, .func (.func 103) #[] #[.pointer (some ⟨Bs, 0, none⟩)]] w fun e w' =>
      e = .returned (.tuple #[]) ∧ St w1.heap.size w1 w' (rowT 3 1 u (rare F).length (i64s (rare F)) :: r) := by
  have : Inhabited (Fin F.length) := ⟨⟨0, hpos⟩⟩
  obtain ⟨g, cap, rfl, hcap⟩ := st.rowShape hne
  rw [← finsOf_vals, ← enc_vals, finsOf_vals] at st
  have hg : w1.heap.size ≤ g := by
    have := (st.rowFrom.lt g rfl).1
    exact this
  have hgs : g < w.heap.size := (st.row.lt g rfl).2
  obtain ⟨g', cap', e', _, _, _, _, hzl, hH⟩ := Lib.holds_of_ownsRow st.row (by intro e; cases e)
  obtain ⟨rfl, rfl⟩ : g = g' ∧ cap = cap' := by
    have := Value.slice.inj e'
    have h1 := Option.some.inj this.1
    exact ⟨(Addr.mk.inj h1).1, this.2.2⟩
  have hds : (finsOf F).toArray.size = (posTo F F.length).length := by rw [List.size_toArray, finsOf_length]
  have hple := posTo_length F F.length
  have hcon := Any.slices_SortFunc_total (enc := encF F) Tryz.sortInts (fun _ => rfl) (cfF F) (cfF_swo F) 103 #[.pointer (some ⟨Bs, 0, none⟩)] g 0 cap (finsOf F).toArray w
    (enters_of Tryz.func103 (by kernel_rfl) rfl)
    (fun m os dk _ x y => by
      have hbel : RowKit.Below w1.heap.size w1 (sortWorld (encF F) w g 0 m dk os) := (st.below (Nat.le_refl _)).trans (below_sort (encF F) hg st.size)
      have lt := World.block_lt_of_cell? w1 _ hb
      exact rare_close _ Bs v F (hv.below hbel (Nat.le_refl _)) ((hbel.cell (p := ⟨Bs, 0, none⟩) lt).trans hb) x.val y.val x.isLt y.isLt)
    hH hgs (by omega) (cfF_total F)
  rw [hds] at hcon
  refine Calls.mono hcon ?_
  rintro e w' ⟨rfl, q, os, rfl⟩
  refine ⟨rfl, ?_⟩
  have h3 := St.sorted (q := q) (os := os) (ys := (finsOf F).mergeSort fun x y => !(ltOf (cfF F)) y x) st (by rw [List.length_mergeSort, finsOf_length])
  rw [enc_vals] at h3
  rw [rare_length]
  exact h3

set_option maxRecDepth 100000 in
set_option maxHeartbeats 2000000 in
/-- rarestFirst: the symbols, the rarest first. -/
theorem rarest_st {B : Nat} {w0 w : World} {r : List Thing} (st : St B w0 w r) (v : Value) (F : List Nat) (h : NumRow w v F) (hl : F.length ≤ 1000000) :
    Calls Tryz.prog 62 #[v] w fun e w' => ∃ u, e = .returned u ∧ St B w0 w' (rowT 3 1 u (rare F).length (i64s (rare F)) :: r) := by
  obtain ⟨i1, hj, hy0, hy1, hy2⟩ := info_parts infoInt
  obtain ⟨a, cap, rfl, hc, hnn, hat⟩ := id h
  go_enter Tryz.func62, Tryz.ntmps62
  have H := Lib.hid (h.below (below_alloc w (.cells #[.slice a F.length cap] 80)) (Nat.le_refl _))
  have hbox : (w.alloc (.cells #[.slice a F.length cap] 80)).cell? ⟨w.heap.size, 0, none⟩ = some (.slice a F.length cap) := by simp
  have HST := Lib.hid (st.alloc (.cells #[.slice a F.length cap] 80))
  clear h st hat
  go_wp2
  generalize w.alloc (.cells #[.slice a F.length cap] 80) = w1 at H hbox HST
  have s1 : St w1.heap.size w1 w1 (rowT 3 1 (.slice none 0 0) (posTo F 0).length (i64s (posTo F 0)) :: []) := St.addNil (St.start w1)
  go_loopw [3, 4, 5, 8] (fun u _ _ i wr => ∃ k : Nat, k ≤ F.length ∧ i = .int .i64 (k : Int) ∧ St w1.heap.size w1 wr (rowT 3 1 u (posTo F k).length (i64s (posTo F k)) :: [])) (fun _ _ _ i _ => F.length - (intOf i).toNat)
  case atStart => exact ⟨0, by omega, rfl, s1⟩
  case round =>
    obtain ⟨k, hk, rfl, s2⟩ := hrel
    clear s1
    by_cases hlt : k < F.length
    · obtain ⟨a', cap', e', _, _, hat'⟩ := H.out.below (s2.below (Nat.le_refl _)) (Nat.le_refl _)
      obtain ⟨rfl, -, rfl⟩ := Value.slice.inj e'
      obtain ⟨b0, off, rfl, c0⟩ := hat' k hlt
      have hple := posTo_length F k
      have HH := Lib.hid (posTo_hit F k)
      have HM := Lib.hid (posTo_miss F k)
      rw [nth_lt hlt] at HH HM
      clear hat' e'
      have HS := Lib.hid s2
      generalize F[k] = x at c0 HH HM
      by_cases hx : 0 < x
      · have hh := HH.out hx
        clear HH HM s2
        go_wp2_with (at_builtin; refine wpList_append_one rfl _ _ 80 rfl 3 i1 (.int .i64 0) 1 8 Tryz.underlying80 hj hy0 hy1 hy2 rfl (by decide) HS.out rfl [.int .i64 (k : Int)] rfl rfl (by simp [Value.oneCell']) (by unfold maxLen; omega) (by omega) ?_)
        intro v' w' s3
        have s4 : St w1.heap.size w1 w' (rowT 3 1 v' (posTo F (k + 1)).length (i64s (posTo F (k + 1))) :: []) := by
          rw [hh, i64s_append, List.length_append]
          exact s3
        clear s3 HS hh
        go_wp2
        go_roundw
        case rel => exact ⟨k + 1, by omega, by go_num, s4⟩
        case measure => simp [intOf]; omega
      · have hh := HM.out hx
        obtain rfl : x = 0 := by omega
        clear HH HM s2
        go_wp2
        go_roundw
        case rel => exact ⟨k + 1, by omega, by go_num, by rw [hh]; exact HS.out⟩
        case measure => simp [intOf]; omega
    · obtain rfl : k = F.length := by omega
      by_cases hne : 0 < (posTo F F.length).length
      · have hpos : 0 < F.length := by
          have := posTo_length F F.length
          omega
        have hso := sort_any w.heap.size _ F H.out hbox hpos s2 hne hl
        clear s2
        go_wp2_with (go_at_call 102; refine hso.mono ?_; rintro e w' ⟨rfl, s3⟩)
        go_ret
        refine ⟨_, rfl, ?_⟩
        exact HST.out.addRow (s3.below (Nat.le_refl _)) s3.rowFrom
      · obtain ⟨a1, cap1, rfl⟩ := ownsRow_slice s2.row
        have h0 : (posTo F F.length).length = 0 := by omega
        have hr0 : rare F = [] := List.eq_nil_of_length_eq_zero (by rw [rare_length]; exact h0)
        have hp0 : posTo F F.length = [] := List.eq_nil_of_length_eq_zero h0
        rw [h0]
        have hso := fun fv W => AnyF.slices_SortFunc_none { Tryz.sortInts with } a1 cap1 fv W
        change ∀ fv W, Calls Tryz.prog 102 _ _ _ at hso
        rw [hp0] at s2
        clear h0 hne hp0
        go_wp2_with (go_at_call 102; refine (hso _ _).mono ?_; rintro e w' ⟨rfl, rfl⟩)
        go_ret
        refine ⟨_, rfl, ?_⟩
        rw [hr0]
        exact HST.out.addRow (s2.below (Nat.le_refl _)) s2.rowFrom

end Go.Proofs.YtpcbhmkalofkmaaGreat.Limit
