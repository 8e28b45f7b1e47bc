/-
  As many symbols as words: the walk of LimitTight. No conditions.
-/
import Derived.Test.YtckifkfjongidaaLimN
import Derived.Test.YtckifkfjongidaaIntsA
namespace Go.Proofs.Ytckifkfjongidaa.limitTight
open Go.RowKit Go.Proofs.Ytckifkfjongidaa.Limit Go.ChangeShapes Go.WideShapes Go.Deep

/-- A slice that reads as these numbers of 16 bits. -/
def HalfRow (w : World) (v : Value) (xs : List Nat) : Prop := ∃ a cap, v = .slice a xs.length cap ∧ xs.length ≤ cap ∧ (a = none → cap = 0) ∧ ∀ (i : Nat) (h : i < xs.length), xs[i] < 65536 ∧ ∃ b off, a = some ⟨b, off, none⟩ ∧ w.cell? ⟨b, off + i, none⟩ = some (.int .u16 (xs[i] : Int))

section
variable {H : Type} {enc : TypeId × Value → H} {W : World}

theorem open_halves {a : Option Addr} {len cap : Nat} {d : DataW H} {p : List MemPlace} (h : DataW.Trod enc Try.prog W 0 (fun _ => true) true 38 (.slice a len cap) d p) : ∃ xs, HalfRow W (.slice a len cap) xs := by
  obtain ⟨fuel, hf⟩ := h
  rcases open_ints Try.underlying38 Try.underlying35 (by kernel_rfl) hf with ⟨hcs, _⟩ | ⟨x, l, c, zs, hcs, _, hl, hm, hz, _, hcell, hwz⟩
  · simp [Value.cells] at hcs
    obtain ⟨rfl, rfl, rfl⟩ := hcs
    exact ⟨[], none, 0, rfl, by simp, fun _ => rfl, fun i hi => absurd hi (by simp)⟩
  · simp [Value.cells] at hcs
    obtain ⟨rfl, rfl, rfl⟩ := hcs
    have hz' : zs.length = cap := by simpa using hz
    have hwf : ∀ i, i < len → ∃ y : Nat, zs.getD i 0 = (y : Int) ∧ y < 65536 := by
      intro i hi
      have hmem : zs.getD i 0 ∈ zs := by rw [getD_in _ _ (by omega)]; exact List.getElem_mem _
      have h1 := hwz _ hmem
      simp only [Lit.wf, Bool.and_eq_true, decide_eq_true_eq] at h1
      have e1 : IntKind.u16.min = 0 := rfl
      have e2 : IntKind.u16.max = 65535 := rfl
      rw [e1, e2] at h1
      exact ⟨(zs.getD i 0).toNat, by omega, by omega⟩
    obtain ⟨xs, h1, h2⟩ := list_of (fun i (y : Nat) => zs.getD i 0 = (y : Int) ∧ y < 65536) len hwf
    refine ⟨xs, some x, cap, by rw [h1], by omega, (fun e => by cases e), fun i hi => ⟨(h2 i hi).2, ?_⟩⟩
    have hx : x = ⟨x.block, x.off, none⟩ := by
      have h3 := hcell 0 (by omega)
      have h4 : x.spot = none := by
        have := World.cell?_spot h3
        simpa [Addr.add] using this
      obtain ⟨b, o, s⟩ := x
      simpa using h4
    refine ⟨x.block, x.off, by rw [← hx], ?_⟩
    have h5 := hcell i (by omega)
    rw [hx, add_none] at h5
    rw [h5, (h2 i hi).1]
end

theorem HalfRow.below {w w' : World} {B : Nat} {v : Value} {xs : List Nat} (h : HalfRow w v xs) (hb : RowKit.Below B w w') (hB : w.heap.size ≤ B) : HalfRow w' v xs := by
  obtain ⟨a, cap, h1, h2, h3, h4⟩ := h
  refine ⟨a, cap, h1, h2, h3, fun i hi => ⟨(h4 i hi).1, ?_⟩⟩
  obtain ⟨_, b, off, e, hc⟩ := h4 i hi
  have lt := World.block_lt_of_cell? w _ hc
  exact ⟨b, off, e, (hb.cell (p := ⟨b, off + i, none⟩) (Nat.lt_of_lt_of_le lt hB)).trans hc⟩

theorem nat_of8 {z : Int} (h : (Lit.int .u8 z).wf = true) : ∃ y : Nat, z = (y : Int) ∧ y < 256 := by
  simp only [Lit.wf, Bool.and_eq_true, decide_eq_true_eq] at h
  have h1 : IntKind.u8.min = 0 := rfl
  have h2 : IntKind.u8.max = 255 := rfl
  rw [h1, h2] at h
  exact ⟨z.toNat, by omega, by omega⟩

theorem cast_back (F : List Nat) : (F.map fun x : Nat => (x : Int)).map Int.toNat = F := by
  rw [List.map_map]
  conv => rhs; rw [← List.map_id F]
  exact List.map_congr_left fun x _ => by simp

theorem pos_all {F : List Nat} (h : ∀ x ∈ F, 0 < x) : pos F = F := List.filter_eq_self.2 (fun x hx => by simpa using h x hx)

theorem tight {F : List Nat} {k : Nat} (hk : 1 ≤ k) (h : ∀ x ∈ F, 0 < x) (hl : F.length = 2 ^ k) (i : Nat) (hi : i < F.length) : nth (lengths F (rare F) k) i = k :=
  lengths_tight (rare_is F) hk (by rw [pos_perm_length (rare_is F), pos_all h, hl]) hi (by rw [nth_lt hi]; exact h _ (List.getElem_mem hi))

theorem byteRow_of {w : World} {base n c : Nat} {a : Option Addr} {l : List Nat} (h : w.ownsRow base 5 1 (.slice a n c) n (u8s l)) (hl : l.length = n) (hb : ∀ x ∈ l, x < 256) : ByteRow w (.slice a n c) l := by
  subst hl; exact byteRow_owns h hb

theorem i64s_one : i64s [1] = [.int .i64 1] := rfl

theorem numRow_any {w : World} {base n : Nat} {e : TypeId} {v : Value} {l : List Nat} (h : w.ownsRow base e 1 v n (i64s l)) (hl : l.length = n) : NumRow w v l := by
  obtain ⟨a, c, rfl⟩ := ownsRow_slice h
  subst hl
  exact numRow_owns h

theorem numRow_of {w : World} {base n c : Nat} {e : TypeId} {a : Option Addr} {l : List Nat} (h : w.ownsRow base e 1 (.slice a n c) n (i64s l)) (hl : l.length = n) : NumRow w (.slice a n c) l := by
  subst hl; exact numRow_owns h

theorem byteRow_cell {w : World} {n c : Nat} {a : Option Addr} {l : List Nat} (h : ByteRow w (.slice a n c) l) (q : Nat) (hq : q < l.length) : ∃ b off, a = some ⟨b, off, none⟩ ∧ w.cell? ⟨b, off + q, none⟩ = some (.int .u8 (nth l q : Int)) ∧ nth l q < 256 := by
  obtain ⟨a', cap', e', _, _, hat⟩ := h
  obtain ⟨hb, b0, off, e0, c0⟩ := hat q hq
  rw [← (Value.slice.inj e').1] at e0
  rw [nth_lt hq]
  exact ⟨b0, off, e0, c0, hb⟩

set_option maxRecDepth 100000 in
set_option maxHeartbeats 8000000 in
theorem walk (w : World) (na : Int) (hna : (Lit.int .u8 na).wf = true) (v : Value) (xs : List Nat) (h : HalfRow w v xs) :
    Calls Try.prog 8 #[.int .u8 na, v] w fun e w' => e = .returned (.bool true) ∧ Below w.heap.size w w' := by
  obtain ⟨mo, rfl, hmo⟩ := nat_of8 hna
  clear hna
  have HH := Lib.hid h
  obtain ⟨i1, hj, hy0, hy1, hy2⟩ := info_parts infoI
  obtain ⟨a, cap, rfl, hc, hnn, -⟩ := h
  obtain ⟨k, hk⟩ : ∃ k, 1 + mo % 7 = k := ⟨_, rfl⟩
  have hk7 : 1 ≤ k ∧ k ≤ 7 := by omega
  have hki : 1 + (mo : Int) % 7 = (k : Int) := by omega
  obtain ⟨p, hp⟩ : ∃ p, 2 ^ k = p := ⟨_, rfl⟩
  have hp128 : p ≤ 128 := by
    have := Nat.pow_le_pow_right (n := 2) (by omega) hk7.2
    omega
  have hp1 : 1 ≤ p := by rw [← hp]; exact Nat.two_pow_pos k
  have hwp : wrap64 ((2 : Int) ^ k) = (p : Int) := by
    have e : (2 : Int) ^ k = ((2 ^ k : Nat) : Int) := by simp
    rw [e, hp]
    unfold wrap64
    omega
  have HP := Lib.hid hp
  clear hp hk
  go_enter Try.func8, Try.ntmps8
  have s0 : St w.heap.size w w (rowT 3 1 (.slice none 0 0) 0 (i64s []) :: []) := St.addNil (St.start w)
  go_wp2
  go_loopw [6, 7, 8] (fun f i _ wr => ∃ (q : Nat) (fl : List Nat), q ≤ p ∧ i = .int .i64 (q : Int) ∧ fl.length = q ∧ (∀ x ∈ fl, 0 < x ∧ x ≤ 65536) ∧ St w.heap.size w wr (rowT 3 1 f q (i64s fl) :: [])) (fun _ i _ _ => p - (intOf i).toNat)
  case atStart => exact ⟨0, [], by omega, rfl, rfl, by simp, s0⟩
  case round =>
    obtain ⟨q, fl, hq, rfl, hfl, hfx, s1⟩ := hrel
    clear s0
    have HS := Lib.hid s1
    have HX := Lib.hid hfx
    have HL := Lib.hid hfl
    by_cases hlt : q < p
    · clear s1 hfx hfl
      by_cases h0 : xs.length = 0
      · have d1 : decide (0 < (xs.length : Int)) = false := by rw [h0]; rfl
        have d2 : decide (0 < xs.length) = false := by rw [h0]; rfl
        clear h0
        go_wp2_with (at_builtin; refine wpList_append_one rfl _ _ 22 rfl 3 i1 (.int .i64 0) 1 8 Try.underlying22 hj hy0 hy1 hy2 rfl (by decide) HS.out rfl [.int .i64 1] rfl rfl (by simp [Value.oneCell']) (by unfold maxLen; omega) (by omega) ?_)
        intro v' w' s3
        have s4 : St w.heap.size w w' (rowT 3 1 v' (q + 1) (i64s (fl ++ [1])) :: []) := by
          rw [i64s_append]
          exact s3
        clear s3
        go_wp2
        go_roundw
        case rel => exact ⟨q + 1, fl ++ [1], by omega, by go_num, by rw [List.length_append, HL.out]; rfl, fun y hy => by
          rcases List.mem_append.1 hy with h | h
          · exact HX.out y h
          · rw [List.mem_singleton.1 h]; omega, s4⟩
        case measure => simp [intOf]; omega
      · have d1 : decide (0 < (xs.length : Int)) = true := by simp; omega
        obtain ⟨j, hj2⟩ : ∃ j, q % xs.length = j := ⟨_, rfl⟩
        have hjl : j < xs.length := by rw [← hj2]; exact Nat.mod_lt _ (by omega)
        have hji : (q : Int) % (xs.length : Int) = (j : Int) := by omega
        obtain ⟨a', cap', e', _, _, hat⟩ := HH.out.below (HS.out.below (Nat.le_refl _)) (Nat.le_refl _)
        obtain ⟨rfl, -, rfl⟩ := Value.slice.inj e'
        obtain ⟨hb, b0, off, rfl, c0⟩ := hat j hjl
        clear hat e' hj2
        generalize xs[j] = x at *
        go_wp2_with (at_builtin; refine wpList_append_one rfl _ _ 22 rfl 3 i1 (.int .i64 0) 1 8 Try.underlying22 hj hy0 hy1 hy2 rfl (by decide) HS.out rfl [.int .i64 (1 + (x : Int))] rfl rfl (by simp [Value.oneCell']) (by unfold maxLen; omega) (by omega) ?_)
        intro v' w' s3
        have s4 : St w.heap.size w w' (rowT 3 1 v' (q + 1) (i64s (fl ++ [1 + x])) :: []) := by
          rw [i64s_append]
          exact s3
        clear s3
        go_wp2
        go_roundw
        case rel => exact ⟨q + 1, fl ++ [1 + x], by omega, by go_num, by rw [List.length_append, HL.out]; rfl, fun y hy => by
          rcases List.mem_append.1 hy with h | h
          · exact HX.out y h
          · rw [List.mem_singleton.1 h]; omega, s4⟩
        case measure => simp [intOf]; omega
    · obtain rfl : q = p := by omega
      obtain ⟨g, cap2, rfl, hcap2⟩ := s1.rowShape (by omega)
      have hcl := cast_back fl
      have hml : (fl.map fun x : Nat => (x : Int)).length = q := by rw [List.length_map, hfl]
      have hnr := numRow_of s1.row hfl
      have hir := hnr.ints (fun x hx => by have := hfx x hx; omega)
      have hpa := pos_all (fun x hx => (hfx x hx).1)
      have hlen := lengths_ok s1 _ _ k hir (fun x hx => by
        obtain ⟨f, hf, rfl⟩ := List.mem_map.1 hx
        have := hfx f hf
        omega) (by omega) (by omega) (by rw [hcl, hpa, hfl, HP.out]; exact Nat.le_refl _)
      rw [hcl, hml] at hlen
      have ht := tight (k := k) (by omega) (fun x hx => (hfx x hx).1) (by rw [hfl, HP.out])
      have hll := lengths_length fl (rare fl) k
      rw [hfl] at hll ht
      generalize lengths fl (rare fl) k = l at *
      have hlb : ∀ x ∈ l, x < 256 := fun x hx => by
        obtain ⟨i, hi, rfl⟩ := nth_mem hx
        have := ht i (by omega)
        omega
      have HT := Lib.hid ht
      have HLL := Lib.hid hll
      have HLB := Lib.hid hlb
      have HLEN := Lib.hid hlen
      -- one more
      have HBIG := Lib.hid (show errOf ((fl ++ [1]).map fun x : Nat => (x : Int)) (k : Int) = 2 from by
        have hf : fitsB ((fl ++ [1]).map fun x : Nat => (x : Int)) (k : Int) = true := (fitsB_iff _ _).2 ⟨by omega, by rw [List.length_map, List.length_append, hfl]; simp; omega, fun x hx => by
          obtain ⟨f, hf, rfl⟩ := List.mem_map.1 hx
          rcases List.mem_append.1 hf with h | h
          · have := hfx f h; omega
          · rw [List.mem_singleton.1 h]; omega⟩
        unfold errOf
        have e1 : (Int.toNat (k : Int)) = k := by simp
        rw [hf, if_pos rfl, cast_back, rare_len, pos_all (fun x hx => by
          rcases List.mem_append.1 hx with h | h
          · exact (hfx x h).1
          · rw [List.mem_singleton.1 h]; omega), List.length_append, hfl, e1, HP.out]
        simp)
      clear s1 hfx hfl hcl hml hnr hir hpa hlen ht hll hlb
      have hdq : decide ((q : Int) < (q : Int)) = false := by simp
      go_wp2_with (go_at_call 11; refine HLEN.out.mono ?_; rintro e w2 ⟨u, rfl, s2⟩; obtain ⟨au, cu, rfl⟩ := ownsRow_slice s2.row)
      clear hq hlt HLEN HS
      have HS2 := Lib.hid s2
      clear s2
      go_loopw [11] (fun i wr => ∃ z : Nat, z ≤ q ∧ i = .int .i64 (z : Int) ∧ wr = w2) (fun i _ => q - (intOf i).toNat)
      case atStart => exact ⟨0, by omega, rfl, rfl⟩
      case round =>
        obtain ⟨z, hz, rfl, hw⟩ := hrel
        have hw := hw.symm
        subst hw
        by_cases hzq : z < q
        · have hr := byteRow_of HS2.out.row HLL.out HLB.out
          obtain ⟨b1, o1, rfl, x1, -⟩ := byteRow_cell hr z (by rw [HLL.out]; exact hzq)
          rw [HT.out z hzq] at x1
          clear hr
          have d3 : ((k : Int) != (k : Int)) = false := by simp
          go_wp2
          go_roundw
          case rel => exact ⟨z + 1, by omega, by go_num, trivial⟩
          case measure => simp [intOf]; omega
        · obtain rfl : z = q := by omega
          clear hz hzq
          have hs2 := HS2.out.swap
          go_wp2_with (first | (at_builtin; refine wpList_append_one rfl _ _ 22 rfl 3 i1 (.int .i64 0) 1 8 Try.underlying22 hj hy0 hy1 hy2 rfl (by decide) hs2 rfl [.int .i64 1] rfl rfl (by simp [Value.oneCell']) (by unfold maxLen; omega) (by omega) ?_; intro v' w' s3; have hlc := lengths_st s3 v' ((fl ++ [1]).map fun x : Nat => (x : Int)) (k : Int) (by
              have s4 := s3.row
              rw [← i64s_one, ← i64s_append] at s4
              exact (numRow_any s4 (by rw [List.length_append, HL.out]; rfl)).ints (fun y hy => by
                rcases List.mem_append.1 hy with h | h
                · have := HX.out y h; omega
                · rw [List.mem_singleton.1 h]; omega)); unfold LengthsSt at hlc; rw [HBIG.out] at hlc; have HLC := Lib.hid hlc; clear hlc s3) | (go_at_call 11; refine HLC.out.mono ?_; rintro e w5 ⟨u5, rfl, s5⟩; have hpk := picks_st s5; clear HLC) | (go_at_call 10; refine hpk.mono ?_; rintro e w6 ⟨rfl, s6⟩))
          go_ret
          exact ⟨rfl, s6.below (Nat.le_refl _)⟩

end Go.Proofs.Ytckifkfjongidaa.limitTight
