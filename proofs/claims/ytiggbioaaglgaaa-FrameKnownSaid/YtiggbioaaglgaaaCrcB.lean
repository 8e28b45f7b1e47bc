/-
  Contracts of package crc: the array of what each byte does. No conditions.
-/
import Derived.Test.YtiggbioaaglgaaaCrcA
import Derived.Deep.WholeRow
import Derived.Laws.Rows
import Derived.Laws.Tables
namespace Go.Proofs.Ytiggbioaaglgaaa.Crc
open Go.RowKit

/-- One behind the other. -/
def iter (f : Reg → Reg) : Nat → Reg → Reg
  | 0, r => r
  | n + 1, r => f (iter f n r)

theorem zeros_snoc (n : Nat) : zeros (n + 1) = zeros n ++ [false] := by unfold zeros; exact List.replicate_succ'

theorem iterL (n : Nat) (r : Reg) : iter (fun r => stepL r false) n r = regL r (zeros n) := by
  induction n with
  | zero => rfl
  | succ n ih => rw [iter, ih, zeros_snoc, regL_append]; rfl

theorem iterH (n : Nat) (r : Reg) : iter (fun r => stepH r false) n r = regH r (zeros n) := by
  induction n with
  | zero => rfl
  | succ n ih => rw [iter, ih, zeros_snoc, regH_append]; rfl

/-- Numbers of 32 bits as values. -/
def u32s (xs : List Nat) : List Value := xs.map fun (x : Nat) => Value.int .u32 (x : Int)
theorem u32s_length (xs : List Nat) : (u32s xs).length = xs.length := by simp [u32s]
theorem u32s_get (xs : List Nat) (i : Nat) (h : i < xs.length) : (u32s xs)[i]? = some (.int .u32 (xs[i] : Int)) := by simp [u32s, h]
theorem u32s_set (xs : List Nat) (i x : Nat) : u32s (xs.set i x) = (u32s xs).set i (.int .u32 (x : Int)) := by simp [u32s, List.map_set]
theorem u32s_one (xs : List Nat) : ∀ u ∈ u32s xs, u.oneCell' = true := by
  intro u hu
  simp only [u32s, List.mem_map] at hu
  obtain ⟨x, _, rfl⟩ := hu
  rfl

/-- What the first k bytes do, and 0 behind them. -/
def effs (step : Reg → Reg) (p k : Nat) : List Nat := (List.range 256).map fun i => if i < k then (iter step 8 (BitVec.ofNat 32 i <<< p)).toNat else 0

theorem effs_length (step : Reg → Reg) (p k : Nat) : (effs step p k).length = 256 := by simp [effs]

theorem effs_zero (step : Reg → Reg) (p : Nat) : effs step p 0 = List.replicate 256 0 := by
  unfold effs
  apply List.ext_getElem (by rw [List.length_map, List.length_range, List.length_replicate])
  intro i h1 h2
  rw [List.getElem_map, List.getElem_replicate, if_neg (Nat.not_lt_zero _)]

theorem effs_succ (step : Reg → Reg) (p k : Nat) : (effs step p k).set k (iter step 8 (BitVec.ofNat 32 k <<< p)).toNat = effs step p (k + 1) := by
  unfold effs
  apply List.ext_getElem (by rw [List.length_set, List.length_map, List.length_map])
  intro i h1 h2
  simp only [List.length_set, List.length_map, List.length_range] at h1
  rw [List.getElem_set]
  simp only [List.getElem_map, List.getElem_range]
  by_cases e : k = i
  · subst e
    simp
  · rw [if_neg e]
    by_cases c : i < k
    · rw [if_pos c, if_pos (by omega)]
    · rw [if_neg c, if_neg (by omega)]

/-- The array at block b. -/
def Arr (w : World) (b : Nat) (xs : List Nat) : Prop := w.heap[b]? = some (.cells (u32s xs).toArray 62 (0, 0))

theorem Arr.cell {w : World} {b : Nat} {xs : List Nat} (h : Arr w b xs) (i : Nat) (hi : i < xs.length) : w.cell? ⟨b, i, none⟩ = some (.int .u32 (xs[i] : Int)) := by
  rw [cell_of_row _ b i _ _ _ h]
  simp [u32s, hi]

theorem Arr.frozen {w : World} {b : Nat} {xs : List Nat} (h : Arr w b xs) (i : Nat) : w.frozen? ⟨b, i, none⟩ = false := by
  unfold Arr at h
  simp [World.frozen?, h]

theorem Arr.set {w : World} {b : Nat} {xs : List Nat} (h : Arr w b xs) (i x : Nat) : Arr (w.setCell ⟨b, i, none⟩ (.int .u32 (x : Int))) b (xs.set i x) := by
  have e := heap_setCell_same w b i _ _ (.int .u32 (x : Int)) h
  unfold Arr
  rw [e, u32s_set]
  simp

theorem zeroInfo : (Try.prog.info? 62).map (fun i => (i.zero, i.size)) = some (some (.agg (Array.replicate 256 (.int .u32 0))), 256) := by kernel_rfl

theorem zeros_cells (step : Reg → Reg) (p : Nat) : (Array.replicate 256 (Value.int .u32 0)) = (u32s (effs step p 0)).toArray := by
  rw [effs_zero]
  unfold u32s
  rw [List.map_replicate, List.toArray_replicate]
  rfl

theorem Only.setRow {S : Nat → Prop} {a b : World} (h : Only S a b) {g : Nat} (hg : g < a.heap.size → S g) (cs : Array Value) : Only S a (b.setRow g cs) :=
  h.trans (T := fun k => k = g) ⟨rfl, rfl, rfl, by simp [World.setRow], fun k _ hk => by
    simp only [World.setRow]
    rw [Array.getElem?_modify, if_neg (fun e => hk e.symm)]⟩ (fun i hi e => by subst e; exact hg hi)

theorem shl_nat (k p : Nat) (h : k < 256) : (BitVec.ofNat 32 k <<< p).toNat = k * 2 ^ p % 4294967296 := by
  rw [BitVec.toNat_shiftLeft, BitVec.toNat_ofNat, Nat.mod_eq_of_lt (show k < 2 ^ 32 by omega), Nat.shiftLeft_eq]

set_option maxRecDepth 100000 in
set_option maxHeartbeats 1000000 in
theorem effectsOf_any (w : World) (p : Nat) (hp : p < 32) (F : FuncId) (step : Reg → Reg)
    (hent : ∀ (args : Array Value) (w : World), (callFunc F args).run Try.prog w = .ok (.enter F args) w)
    (hturn : ∀ (w : World) (r : Reg), Calls Try.prog F #[.int .u32 (r.toNat : Int)] w fun e w' => e = .returned (.int .u32 ((step r).toNat : Int)) ∧ w = w') :
    Calls Try.prog 57 #[.int .u64 (p : Int), .func (.func F) #[] #[]] w fun e w' => e = .returned (.agg (u32s (effs step p 256)).toArray) ∧ Below w.heap.size w w' := by
  obtain ⟨hz, hi⟩ := zero_of_info zeroInfo
  go_enter Try.func57, Try.ntmps57
  go_wp2
  rw [zeros_cells step p]
  have a0 : Arr ((w.alloc (.cells (u32s (effs step p 0)).toArray 62)).alloc (.cells (u32s (effs step p 0)).toArray 62)) (w.heap.size + 1) (effs step p 0) := by
    have := heap_alloc_new (w.alloc (.cells (u32s (effs step p 0)).toArray 62)) (.cells (u32s (effs step p 0)).toArray 62)
    simpa [Arr] using this
  have b0 : Arr ((w.alloc (.cells (u32s (effs step p 0)).toArray 62)).alloc (.cells (u32s (effs step p 0)).toArray 62)) w.heap.size (effs step p 0) := by
    have h1 := heap_alloc_new w (.cells (u32s (effs step p 0)).toArray 62)
    have := Below.heap_alloc (w.alloc (.cells (u32s (effs step p 0)).toArray 62)) (.cells (u32s (effs step p 0)).toArray 62) w.heap.size (by simp)
    unfold Arr
    rw [this, h1]
  have o0 : Only (From w.heap.size) w ((w.alloc (.cells (u32s (effs step p 0)).toArray 62)).alloc (.cells (u32s (effs step p 0)).toArray 62)) := ((Only.refl _ _).alloc _).alloc _
  generalize ((w.alloc (.cells (u32s (effs step p 0)).toArray 62)).alloc (.cells (u32s (effs step p 0)).toArray 62)) = w1 at a0 b0 o0
  go_loopw [8] (fun i wr => ∃ k : Nat, k ≤ 256 ∧ i = .int .i64 (k : Int) ∧ Arr wr (w.heap.size + 1) (effs step p k) ∧ Arr wr w.heap.size (effs step p 0) ∧ Only (From w.heap.size) w wr) (fun i _ => 256 - (intOf i).toNat)
  case atStart => exact ⟨0, by omega, rfl, a0, b0, o0⟩
  case round =>
    obtain ⟨k, hk, rfl, a1, b1, o1⟩ := hrel
    clear a0 b0 o0
    by_cases hlt : k < 256
    · have es := shl_nat k p hlt
      have HS := Lib.hid es
      clear es
      have hd : decide ((k : Int) < 256) = true := by simp; omega
      go_wp2
      go_loopw [7, 15] (fun r j wr2 => ∃ n : Nat, n ≤ 8 ∧ j = .int .i64 (n : Int) ∧ r = .int .u32 ((iter step n (BitVec.ofNat 32 k <<< p)).toNat : Int) ∧ wr2 = wr) (fun _ j _ => 8 - (intOf j).toNat)
      case atStart => exact ⟨0, by omega, rfl, by rw [iter, HS.out]; simp, rfl⟩
      case round =>
        obtain ⟨n, hn, rfl, rfl, rfl⟩ := hrel
        by_cases hn8 : n < 8
        · go_wp2_with fail
          refine (hturn _ _).mono ?_
          rintro e w2 ⟨rfl, rfl⟩
          go_wp2
          go_roundw
          case rel => exact ⟨n + 1, by omega, by go_num, rfl, trivial⟩
          case measure => simp [intOf]; omega
        · obtain rfl : n = 8 := by omega
          have c0 := a1.cell k (by rw [effs_length]; exact hlt)
          have f0 := a1.frozen k
          have HA := Lib.hid (a1.set k (iter step 8 (BitVec.ofNat 32 k <<< p)).toNat)
          have HB := Lib.hid b1
          clear a1 b1
          go_wp2
          refine ⟨⟨k + 1, by omega, by go_num, ?_, ?_, ?_⟩, by simp [intOf]; omega⟩
          · have := HA.out
            rwa [effs_succ] at this
          · have e : w.heap.size ≠ w.heap.size + 1 := by omega
            unfold Arr
            rw [Below.heap_setCell _ _ _ _ e]
            exact HB.out
          · exact o1.setCell (fun h => absurd h (by simp)) _
    · obtain rfl : k = 256 := by omega
      have hi' : (Try.prog.info? 62).map (·.size) = some (u32s (effs step p 256)).toArray.size := by rw [hi, List.size_toArray, u32s_length, effs_length]
      have h0 : (u32s (effs step p 0)).toArray.size = (u32s (effs step p 256)).toArray.size := by rw [List.size_toArray, u32s_length, effs_length, List.size_toArray, u32s_length, effs_length]
      go_wp2_with (first
        | refine wpList_load_row rfl 62 _ rfl (w.heap.size + 1) rfl 62 _ (0, 0) (.array 256 22) a1 Try.underlying62 rfl hi' ?_
        | refine wpList_store_row rfl 62 _ _ rfl w.heap.size _ rfl rfl 62 _ b1 hi' h0 (Array.all_eq_true_iff_forall_mem.2 (fun v hv => u32s_one _ v (by simpa using hv))) ?_)
      refine bodyPost_ret (results_cell_row rfl _ _ w.heap.size 62 _ (0, 0) (.array 256 22) rfl (setRow_heap _ _ _ _ _ _ b1) Try.underlying62 rfl hi') rfl ⟨rfl, ?_⟩
      exact (Only.setRow o1 (fun h => absurd h (by simp)) _).below (Nat.le_refl _) (fun k hk h => by unfold From at h; omega)

theorem lowTurn_enters (args : Array Value) (w : World) : (callFunc 58 args).run Try.prog w = .ok (.enter 58 args) w := by
  simp [callFunc, Try.func58, Try.f58]

end Go.Proofs.Ytiggbioaaglgaaa.Crc
