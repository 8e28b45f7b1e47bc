/-
  CrcA CrcB CrcC CrcR CrcL, one behind the other (merged by wip/merge.py). No conditions but those that each states.
-/
import Derived.Test.YtpinfihmageeoaaGreatGY
import Derived.Test.YtpinfihmageeoaaGreatGA
import Derived.Test.YtpinfihmageeoaaGreatGC
import Derived.Deep.WholeRow
import Derived.Laws.Rows
import Derived.Laws.Tables

namespace Go.Proofs.YtpinfihmageeoaaGreat.Crc
open Go.RowKit

theorem stepL_nat (r : Reg) (b : Bool) : (stepL r b).toNat = if (r.toNat % 2 == 1) ^^ b then r.toNat / 2 ^^^ 3988292384 else r.toNat / 2 := by
  have h0 : r.getLsbD 0 = (r.toNat % 2 == 1) := by
    rw [BitVec.getLsbD, Nat.testBit_zero]
    rcases Nat.mod_two_eq_zero_or_one r.toNat with h | h <;> simp [h]
  unfold stepL
  rw [BitVec.toNat_xor, h0, BitVec.toNat_ushiftRight, Nat.shiftRight_eq_div_pow]
  cases ((r.toNat % 2 == 1) ^^ b) <;> simp

theorem stepH_nat (r : Reg) (b : Bool) : (stepH r b).toNat = if (r.toNat / 2147483648 == 1) ^^ b then r.toNat * 2 % 4294967296 ^^^ 79764919 else r.toNat * 2 % 4294967296 := by
  have h0 : r.msb = (r.toNat / 2147483648 == 1) := by
    have := r.isLt
    rw [BitVec.msb_eq_decide, Bool.eq_iff_iff]
    simp only [decide_eq_true_eq, beq_iff_eq]
    omega
  unfold stepH
  rw [BitVec.toNat_xor, h0, BitVec.toNat_shiftLeft, Nat.shiftLeft_eq]
  cases ((r.toNat / 2147483648 == 1) ^^ b) <;> simp

theorem and1_u32 (n : Nat) (h : n < 4294967296) : bits .and .u32 (n : Int) 1 = ((n % 2 : Nat) : Int) := by
  have := u32_and_nat n 1 h (by omega)
  rw [Nat.and_one_is_mod] at this
  exact this

theorem lowTurn_any (w : World) (r : Reg) :
    Calls Tryz.prog 145 #[.int .u32 (r.toNat : Int)] w fun e w' => e = .returned (.int .u32 ((stepL r false).toNat : Int)) ∧ w = w' := by
  have hr : r.toNat < 4294967296 := r.isLt
  rw [stepL_nat, Bool.xor_false]
  generalize r.toNat = n at hr
  have e1 := and1_u32 n hr
  rcases Nat.mod_two_eq_zero_or_one n with h | h
  · rw [h] at e1
    simp only [h]
    go_enter Tryz.func145, Tryz.ntmps145
    go_wp2
    go_ret
    exact ⟨ret_int (by simp), rfl⟩
  · rw [h] at e1
    have e2 := u32_xor_nat (n / 2) 3988292384 (by omega) (by omega)
    simp only [h]
    have HH := Lib.hid h
    clear h
    go_enter Tryz.func145, Tryz.ntmps145
    go_wp2
    go_ret
    exact ⟨ret_int (by simpa using e2), rfl⟩

def fold (x y : Nat) : Nat := (x * 2 % 4294967296 + x / 2147483648) ^^^ y

end Go.Proofs.YtpinfihmageeoaaGreat.Crc

namespace Go.Proofs.YtpinfihmageeoaaGreat.Crc
open Go.RowKit

def iter (f : Reg → Reg) : Nat → Reg → Reg
  | 0, r => r
  | n + 1, r => f (iter f n r)

theorem zeros_snoc (n : Nat) : zeros (n + 1) = zeros n ++ [false] := by unfold zeros; exact List.replicate_succ'

theorem iterL (n : Nat) (r : Reg) : iter (fun r => stepL r false) n r = regL r (zeros n) := by
  induction n with
  | zero => rfl
  | succ n ih => rw [iter, ih, zeros_snoc, regL_append]; rfl

theorem iterH (n : Nat) (r : Reg) : iter (fun r => stepH r false) n r = regH r (zeros n) := by
  induction n with
  | zero => rfl
  | succ n ih => rw [iter, ih, zeros_snoc, regH_append]; rfl

def u32s (xs : List Nat) : List Value := xs.map fun (x : Nat) => Value.int .u32 (x : Int)
theorem u32s_length (xs : List Nat) : (u32s xs).length = xs.length := by simp [u32s]
theorem u32s_get (xs : List Nat) (i : Nat) (h : i < xs.length) : (u32s xs)[i]? = some (.int .u32 (xs[i] : Int)) := by simp [u32s, h]
theorem u32s_set (xs : List Nat) (i x : Nat) : u32s (xs.set i x) = (u32s xs).set i (.int .u32 (x : Int)) := by simp [u32s, List.map_set]
theorem u32s_one (xs : List Nat) : ∀ u ∈ u32s xs, u.oneCell' = true := by
  intro u hu
  simp only [u32s, List.mem_map] at hu
  obtain ⟨x, _, rfl⟩ := hu
  rfl

def effs (step : Reg → Reg) (p k : Nat) : List Nat := (List.range 256).map fun i => if i < k then (iter step 8 (BitVec.ofNat 32 i <<< p)).toNat else 0

theorem effs_length (step : Reg → Reg) (p k : Nat) : (effs step p k).length = 256 := by simp [effs]

theorem effs_zero (step : Reg → Reg) (p : Nat) : effs step p 0 = List.replicate 256 0 := by
  unfold effs
  apply List.ext_getElem (by rw [List.length_map, List.length_range, List.length_replicate])
  intro i h1 h2
  rw [List.getElem_map, List.getElem_replicate, if_neg (Nat.not_lt_zero _)]

theorem effs_succ (step : Reg → Reg) (p k : Nat) : (effs step p k).set k (iter step 8 (BitVec.ofNat 32 k <<< p)).toNat = effs step p (k + 1) := by
  unfold effs
  apply List.ext_getElem (by rw [List.length_set, List.length_map, List.length_map])
  intro i h1 h2
  simp only [List.length_set, List.length_map, List.length_range] at h1
  rw [List.getElem_set]
  simp only [List.getElem_map, List.getElem_range]
  by_cases e : k = i
  · subst e
    simp
  · rw [if_neg e]
    by_cases c : i < k
    · rw [if_pos c, if_pos (by omega)]
    · rw [if_neg c, if_neg (by omega)]

def Arr (w : World) (b : Nat) (xs : List Nat) : Prop := w.heap[b]? = some (.cells (u32s xs).toArray 189 (0, 0))

theorem Arr.cell {w : World} {b : Nat} {xs : List Nat} (h : Arr w b xs) (i : Nat) (hi : i < xs.length) : w.cell? ⟨b, i, none⟩ = some (.int .u32 (xs[i] : Int)) := by
  rw [cell_of_row _ b i _ _ _ h]
  simp [u32s, hi]

theorem Arr.frozen {w : World} {b : Nat} {xs : List Nat} (h : Arr w b xs) (i : Nat) : w.frozen? ⟨b, i, none⟩ = false := by
  unfold Arr at h
  simp [World.frozen?, h]

theorem Arr.set {w : World} {b : Nat} {xs : List Nat} (h : Arr w b xs) (i x : Nat) : Arr (w.setCell ⟨b, i, none⟩ (.int .u32 (x : Int))) b (xs.set i x) := by
  have e := heap_setCell_same w b i _ _ (.int .u32 (x : Int)) h
  unfold Arr
  rw [e, u32s_set]
  simp

theorem zeroInfo : (Tryz.prog.info? 189).map (fun i => (i.zero, i.size)) = some (some (.agg (Array.replicate 256 (.int .u32 0))), 256) := by kernel_rfl

theorem zeros_cells (step : Reg → Reg) (p : Nat) : (Array.replicate 256 (Value.int .u32 0)) = (u32s (effs step p 0)).toArray := by
  rw [effs_zero]
  unfold u32s
  rw [List.map_replicate, List.toArray_replicate]
  rfl

theorem Only.setRow {S : Nat → Prop} {a b : World} (h : Only S a b) {g : Nat} (hg : g < a.heap.size → S g) (cs : Array Value) : Only S a (b.setRow g cs) :=
  h.trans (T := fun k => k = g) ⟨rfl, rfl, rfl, by simp [World.setRow], fun k _ hk => by
    simp only [World.setRow]
    rw [Array.getElem?_modify, if_neg (fun e => hk e.symm)]⟩ (fun i hi e => by subst e; exact hg hi)

theorem shl_nat (k p : Nat) (h : k < 256) : (BitVec.ofNat 32 k <<< p).toNat = k * 2 ^ p % 4294967296 := by
  rw [BitVec.toNat_shiftLeft, BitVec.toNat_ofNat, Nat.mod_eq_of_lt (show k < 2 ^ 32 by omega), Nat.shiftLeft_eq]

set_option maxRecDepth 100000 in
set_option maxHeartbeats 1000000 in
theorem effectsOf_any (w : World) (p : Nat) (hp : p < 32) (F : FuncId) (step : Reg → Reg)
    (hent : ∀ (args : Array Value) (w : World), (callFunc F args).run Tryz.prog w = .ok (.enter F args) w)
    (hturn : ∀ (w : World) (r : Reg), Calls Tryz.prog F #[.int .u32 (r.toNat : Int)] w fun e w' => e = .returned (.int .u32 ((step r).toNat : Int)) ∧ w = w') :
    Calls Tryz.prog 144 #[.int .u64 (p : Int), .func (.func F) #[] #[]] w fun e w' => e = .returned (.agg (u32s (effs step p 256)).toArray) ∧ Below w.heap.size w w' := by
  obtain ⟨hz, hi⟩ := zero_of_info zeroInfo
  go_enter Tryz.func144, Tryz.ntmps144
  go_wp2
  rw [zeros_cells step p]
  have a0 : Arr ((w.alloc (.cells (u32s (effs step p 0)).toArray 189)).alloc (.cells (u32s (effs step p 0)).toArray 189)) (w.heap.size + 1) (effs step p 0) := by
    have := heap_alloc_new (w.alloc (.cells (u32s (effs step p 0)).toArray 189)) (.cells (u32s (effs step p 0)).toArray 189)
    simpa [Arr] using this
  have b0 : Arr ((w.alloc (.cells (u32s (effs step p 0)).toArray 189)).alloc (.cells (u32s (effs step p 0)).toArray 189)) w.heap.size (effs step p 0) := by
    have h1 := heap_alloc_new w (.cells (u32s (effs step p 0)).toArray 189)
    have := Below.heap_alloc (w.alloc (.cells (u32s (effs step p 0)).toArray 189)) (.cells (u32s (effs step p 0)).toArray 189) w.heap.size (by simp)
    unfold Arr
    rw [this, h1]
  have o0 : Only (From w.heap.size) w ((w.alloc (.cells (u32s (effs step p 0)).toArray 189)).alloc (.cells (u32s (effs step p 0)).toArray 189)) := ((Only.refl _ _).alloc _).alloc _
  generalize ((w.alloc (.cells (u32s (effs step p 0)).toArray 189)).alloc (.cells (u32s (effs step p 0)).toArray 189)) = w1 at a0 b0 o0
  go_loopw [8] (fun i wr => ∃ k : Nat, k ≤ 256 ∧ i = .int .i64 (k : Int) ∧ Arr wr (w.heap.size + 1) (effs step p k) ∧ Arr wr w.heap.size (effs step p 0) ∧ Only (From w.heap.size) w wr) (fun i _ => 256 - (intOf i).toNat)
  case atStart => exact ⟨0, by omega, rfl, a0, b0, o0⟩
  case round =>
    obtain ⟨k, hk, rfl, a1, b1, o1⟩ := hrel
    clear a0 b0 o0
    by_cases hlt : k < 256
    · have es := shl_nat k p hlt
      have HS := Lib.hid es
      clear es
      have hd : decide ((k : Int) < 256) = true := by simp; omega
      go_wp2
      go_loopw [7, 15] (fun r j wr2 => ∃ n : Nat, n ≤ 8 ∧ j = .int .i64 (n : Int) ∧ r = .int .u32 ((iter step n (BitVec.ofNat 32 k <<< p)).toNat : Int) ∧ wr2 = wr) (fun _ j _ => 8 - (intOf j).toNat)
      case atStart => exact ⟨0, by omega, rfl, by rw [iter, HS.out]; simp, rfl⟩
      case round =>
        obtain ⟨n, hn, rfl, rfl, rfl⟩ := hrel
        by_cases hn8 : n < 8
        · go_wp2_with fail
          refine (hturn _ _).mono ?_
          rintro e w2 ⟨rfl, rfl⟩
          go_wp2
          go_roundw
          case rel => exact ⟨n + 1, by omega, by go_num, rfl, trivial⟩
          case measure => simp [intOf]; omega
        · obtain rfl : n = 8 := by omega
          have c0 := a1.cell k (by rw [effs_length]; exact hlt)
          have f0 := a1.frozen k
          have HA := Lib.hid (a1.set k (iter step 8 (BitVec.ofNat 32 k <<< p)).toNat)
          have HB := Lib.hid b1
          clear a1 b1
          go_wp2
          refine ⟨⟨k + 1, by omega, by go_num, ?_, ?_, ?_⟩, by simp [intOf]; omega⟩
          · have := HA.out
            rwa [effs_succ] at this
          · have e : w.heap.size ≠ w.heap.size + 1 := by omega
            unfold Arr
            rw [Below.heap_setCell _ _ _ _ e]
            exact HB.out
          · exact o1.setCell (fun h => absurd h (by simp)) _
    · obtain rfl : k = 256 := by omega
      have hi' : (Tryz.prog.info? 189).map (·.size) = some (u32s (effs step p 256)).toArray.size := by rw [hi, List.size_toArray, u32s_length, effs_length]
      have h0 : (u32s (effs step p 0)).toArray.size = (u32s (effs step p 256)).toArray.size := by rw [List.size_toArray, u32s_length, effs_length, List.size_toArray, u32s_length, effs_length]
      go_wp2_with (first
        | refine wpList_load_row rfl 189 _ rfl (w.heap.size + 1) rfl 189 _ (0, 0) (.array 256 36) a1 Tryz.underlying189 rfl hi' ?_
        | refine wpList_store_row rfl 189 _ _ rfl w.heap.size _ rfl rfl 189 _ b1 hi' h0 (Array.all_eq_true_iff_forall_mem.2 (fun v hv => u32s_one _ v (by simpa using hv))) ?_)
      refine bodyPost_ret (results_cell_row rfl _ _ w.heap.size 189 _ (0, 0) (.array 256 36) rfl (setRow_heap _ _ _ _ _ _ b1) Tryz.underlying189 rfl hi') rfl ⟨rfl, ?_⟩
      exact (Only.setRow o1 (fun h => absurd h (by simp)) _).below (Nat.le_refl _) (fun k hk h => by unfold From at h; omega)

theorem lowTurn_enters (args : Array Value) (w : World) : (callFunc 145 args).run Tryz.prog w = .ok (.enter 145 args) w := by
  simp [callFunc, Tryz.func145, Tryz.f145]

end Go.Proofs.YtpinfihmageeoaaGreat.Crc

namespace Go.Proofs.YtpinfihmageeoaaGreat.Crc
open Go.RowKit

theorem effs_at (step : Reg → Reg) (p i : Nat) (h : i < 256) : (effs step p 256)[i]'(by rw [effs_length]; exact h) = (iter step 8 (BitVec.ofNat 32 i <<< p)).toNat := by
  simp only [effs, List.getElem_map, List.getElem_range, h, if_true]

def lowTab : List Nat := effs (fun r => stepL r false) 0 256
def highTab : List Nat := effs (fun r => stepH r false) 24 256

theorem lowTab_length : lowTab.length = 256 := effs_length _ _ _
theorem highTab_length : highTab.length = 256 := effs_length _ _ _

theorem lowTab_at (i : Nat) (h : i < 256) : lowTab[i]'(by rw [lowTab_length]; exact h) = (tabL i).toNat := by
  unfold lowTab tabL
  rw [effs_at _ _ _ h, iterL, BitVec.shiftLeft_zero]

theorem highTab_at (i : Nat) (h : i < 256) : highTab[i]'(by rw [highTab_length]; exact h) = (tabH i).toNat := by
  unfold highTab tabH
  rw [effs_at _ _ _ h, iterH]

theorem lowByte_any (w : World) (b : Nat) (r : Reg) (x : Nat) (hx : x < 256) (ha : Arr w b lowTab) :
    Calls Tryz.prog 147 #[.int .u32 (r.toNat : Int), .int .u8 (x : Int), .pointer (some ⟨b, 0, none⟩)] w fun e w' => e = .returned (.int .u32 ((regL r (bitsOf x 8)).toNat : Int)) ∧ w = w' := by
  have hr : r.toNat < 4294967296 := r.isLt
  rw [byteL r x hx, BitVec.toNat_xor, BitVec.toNat_ushiftRight, Nat.shiftRight_eq_div_pow]
  have hxr : r.toNat % 256 ^^^ x < 256 := Nat.xor_lt_two_pow (n := 8) (by omega) (by omega)
  have ht : (tabL (r.toNat % 256 ^^^ x)).toNat < 4294967296 := (tabL _).isLt
  have c0 := ha.cell (r.toNat % 256 ^^^ x) (by rw [lowTab_length]; exact hxr)
  rw [lowTab_at _ hxr] at c0
  generalize r.toNat = n at hr hxr ht c0
  have e1 : bits .xor .u8 ((n : Int) % 256) (x : Int) = ((n % 256 ^^^ x : Nat) : Int) := by
    have := u8_xor_nat (n % 256) x (by omega) hx
    simpa using this
  generalize n % 256 ^^^ x = i at hxr ht c0 e1
  generalize (tabL i).toNat = t at ht c0
  have e2 := u32_xor_nat (n / 256) t (by omega) ht
  have HE := Lib.hid e2
  clear e2
  go_enter Tryz.func147, Tryz.ntmps147
  go_wp2
  go_ret
  have e2 := HE.out
  exact ⟨ret_int (by rw [Nat.xor_comm, show (2 : Nat) ^ 8 = 256 from rfl, ← e2]; simp), rfl⟩

theorem byteRow_owns {w : World} {base : Nat} {v : Value} {xs : List Nat} (h : w.ownsRow base 5 1 v xs.length (u8s xs)) (hb : ∀ x ∈ xs, x < 256) : ByteRow w v xs := by
  rcases h.2 with ⟨rfl, h0⟩ | ⟨g, cap, cur, rfl, _, hg, hnc, _⟩
  · obtain rfl : xs = [] := List.eq_nil_of_length_eq_zero h0
    exact ⟨none, 0, rfl, Nat.le_refl _, fun _ => rfl, fun i hi => absurd hi (by simp)⟩
  · refine ⟨_, cap, rfl, hnc, (fun e => by cases e), fun i hi => ⟨hb _ (List.getElem_mem hi), g, 0, rfl, ?_⟩⟩
    rw [Nat.zero_add, h.cellAt i (by omega), u8s_get _ _ hi]

theorem sum_any (w : World) (v : Value) (xs : List Nat) (h : ByteRow w v xs) (hl : xs.length ≤ 140737488355328) (G b : Nat) (f : Reg → Nat → Reg)
    (hent : ∀ (args : Array Value) (w : World), (callFunc G args).run Tryz.prog w = .ok (.enter G args) w)
    (hf : ∀ (r : Reg) (x : Nat), x < 256 → Calls Tryz.prog G #[.int .u32 (r.toNat : Int), .int .u8 (x : Int), .pointer (some ⟨b, 0, none⟩)] w fun e w' => e = .returned (.int .u32 ((f r x).toNat : Int)) ∧ w = w') :
    Calls Tryz.prog 146 #[v, .func (.func G) #[] #[.pointer (some ⟨b, 0, none⟩)]] w fun e w' => e = .returned (.int .u32 ((xs.foldl f ones ^^^ ones).toNat : Int)) ∧ w = w' := by
  obtain ⟨a, cap, rfl, hc, hn, hat⟩ := h
  go_enter Tryz.func146, Tryz.ntmps146
  go_wp2
  go_loopw [5, 10] (fun r i wr => ∃ k : Nat, k ≤ xs.length ∧ i = .int .i64 (k : Int) ∧ r = .int .u32 (((xs.take k).foldl f ones).toNat : Int) ∧ wr = w) (fun _ i _ => xs.length - (intOf i).toNat)
  case atStart => exact ⟨0, by omega, rfl, rfl, rfl⟩
  case round =>
    obtain ⟨k, hk, rfl, rfl, rfl⟩ := hrel
    by_cases hlt : k < xs.length
    · obtain ⟨hx, b0, off, rfl, c0⟩ := hat k hlt
      have ht : (xs.take (k + 1)).foldl f ones = f ((xs.take k).foldl f ones) xs[k] := by rw [List.take_succ_eq_append_getElem hlt, List.foldl_append]; rfl
      have HT := Lib.hid ht
      clear ht
      generalize xs[k] = x at hx c0 HT
      go_wp2_with fail
      refine (hf _ x hx).mono ?_
      rintro e w2 ⟨rfl, rfl⟩
      go_wp2
      go_roundw
      case rel => exact ⟨k + 1, by omega, by go_num, by rw [HT.out], trivial⟩
      case measure => simp [intOf]; omega
    · obtain rfl : k = xs.length := by omega
      rw [List.take_length]
      have hr : (xs.foldl f ones).toNat < 4294967296 := (xs.foldl f ones).isLt
      go_wp2
      go_ret
      refine ⟨ret_int ?_, rfl⟩
      rw [Nat.xor_comm, show IntKind.u32.max = ((4294967295 : Nat) : Int) from rfl, u32_xor_nat 4294967295 _ (by omega) hr]
      rfl

theorem low_fold (xs : List Nat) (r : Reg) : xs.foldl (fun r x => regL r (bitsOf x 8)) r = regL r (lowBits xs) := by
  induction xs generalizing r with
  | nil => rfl
  | cons x xs ih => rw [List.foldl_cons, ih, ← regL_append]; rfl

theorem high_fold (xs : List Nat) (r : Reg) : xs.foldl (fun r x => regH r (Msb.bitsOf x 8)) r = regH r (highBits xs) := by
  induction xs generalizing r with
  | nil => rfl
  | cons x xs ih => rw [List.foldl_cons, ih, ← regH_append]; rfl

theorem lowByte_enters (args : Array Value) (w : World) : (callFunc 147 args).run Tryz.prog w = .ok (.enter 147 args) w := by
  simp [callFunc, Tryz.func147, Tryz.f147]

set_option maxRecDepth 100000 in
set_option maxHeartbeats 1000000 in
theorem low_any (w : World) (v : Value) (xs : List Nat) (h : ByteRow w v xs) (hl : xs.length ≤ 140737488355328) :
    Calls Tryz.prog 126 #[v] w fun e w' => e = .returned (.int .u32 (lowSum xs : Int)) ∧ Below w.heap.size w w' := by
  have hmf : ∀ (fn : Fn) (first cap : Array Value) (w : World), (Instr.makeFunc fn first cap).run Tryz.prog w = .ok (.func fn first cap) w := fun _ _ _ _ => rfl
  obtain ⟨hz, hi⟩ := zero_of_info zeroInfo
  go_enter Tryz.func126, Tryz.ntmps126
  go_wp2_with fail
  refine (effectsOf_any w 0 (by omega) _ _ lowTurn_enters lowTurn_any).mono ?_
  rintro e w1 ⟨rfl, b1⟩
  have hi' : (Tryz.prog.info? 189).map (·.size) = some (u32s lowTab).toArray.size := by rw [hi, List.size_toArray, u32s_length, lowTab_length]
  have h0 : (Array.replicate 256 (Value.int .u32 0)).size = (u32s lowTab).toArray.size := by rw [Array.size_replicate, List.size_toArray, u32s_length, lowTab_length]
  rw [show effs (fun r => stepL r false) 0 256 = lowTab from rfl]
  have a1 : Arr (w1.alloc (.cells (u32s lowTab).toArray 189)) w1.heap.size lowTab := heap_alloc_new w1 _
  go_wp2_with (refine wpList_store_row rfl 189 _ _ rfl w1.heap.size _ rfl rfl 189 _ (heap_alloc_new w1 _) hi' h0 (Array.all_eq_true_iff_forall_mem.2 (fun v hv => u32s_one _ v (by simpa using hv))) ?_)
  have b2 : Below w.heap.size w (w1.alloc (.cells (u32s lowTab).toArray 189)) := b1.alloc (by have := b1.size; omega) _
  have h2 : ByteRow (w1.alloc (.cells (u32s lowTab).toArray 189)) v xs := h.below b2 (Nat.le_refl _)
  rw [World.setRow_alloc_new]
  refine (sum_any _ v xs h2 hl 147 w1.heap.size (fun r x => regL r (bitsOf x 8)) lowByte_enters (fun r x hx => lowByte_any _ _ r x hx a1)).mono ?_
  rintro e w3 ⟨rfl, rfl⟩
  rw [low_fold]
  clear a1 hi' h0 h2
  go_wp2
  go_ret
  exact ⟨rfl, b2⟩

end Go.Proofs.YtpinfihmageeoaaGreat.Crc

namespace Go.Proofs.YtpinfihmageeoaaGreat.Crc
open Go.RowKit

theorem regL_snoc (r : Reg) (x n : Nat) : regL r (bitsOf x (n + 1)) = stepL (regL r (bitsOf x n)) (x / 2 ^ n % 2 == 1) := by
  rw [bitsOf_snoc, regL_append]
  rfl

set_option maxRecDepth 100000 in
set_option maxHeartbeats 1000000 in
theorem refLow_any (w : World) (v : Value) (xs : List Nat) (h : ByteRow w v xs) (hl : xs.length ≤ 140737488355328) :
    Calls Tryz.prog 50 #[v] w fun e w' => e = .returned (.int .u32 (lowSum xs : Int)) ∧ w = w' := by
  obtain ⟨a, cap, rfl, hc, hn, hat⟩ := h
  go_enter Tryz.func50, Tryz.ntmps50
  go_wp2
  go_loopw [3, 4] (fun r i wr => ∃ k : Nat, k ≤ xs.length ∧ i = .int .i64 (k : Int) ∧ r = .int .u32 ((lowReg (xs.take k)).toNat : Int) ∧ wr = w) (fun _ i _ => xs.length - (intOf i).toNat)
  case atStart => exact ⟨0, by omega, rfl, rfl, rfl⟩
  case round =>
    obtain ⟨k, hk, rfl, rfl, rfl⟩ := hrel
    by_cases hlt : k < xs.length
    · obtain ⟨hx, b0, off, rfl, c0⟩ := hat k hlt
      have HT := Lib.hid (lowReg_snoc xs k hlt)
      generalize xs[k] = x at hx c0 HT
      generalize lowReg (xs.take k) = r at HT
      have hd : decide ((k : Int) < (xs.length : Int)) = true := by simp; omega
      have HX := Lib.hid hx
      clear hx hat
      go_wp2
      go_loopw [3, 5, 6] (fun q c j wr2 => ∃ n : Nat, n ≤ 8 ∧ j = .int .i64 (n : Int) ∧ c = .int .u8 ((x / 2 ^ n : Nat) : Int) ∧ q = .int .u32 ((regL r (bitsOf x n)).toNat : Int) ∧ wr2 = wr) (fun _ _ j _ => 8 - (intOf j).toNat)
      case atStart => exact ⟨0, by omega, rfl, by simp, rfl, rfl⟩
      case round =>
        obtain ⟨n, hn8, rfl, rfl, rfl, rfl⟩ := hrel
        by_cases hlt8 : n < 8
        · have hs := regL_snoc r x n
          have hz : x / 2 ^ (n + 1) = x / 2 ^ n / 2 := by rw [Nat.pow_succ, ← Nat.div_div_eq_div_mul]
          have hy : x / 2 ^ n < 256 := Nat.lt_of_le_of_lt (Nat.div_le_self _ _) HX.out
          have hq : (regL r (bitsOf x n)).toNat < 4294967296 := (regL r (bitsOf x n)).isLt
          have hs2 := stepL_nat (regL r (bitsOf x n)) (x / 2 ^ n % 2 == 1)
          rw [← hs] at hs2
          generalize x / 2 ^ n = y at hy hz hs2
          generalize (regL r (bitsOf x n)).toNat = q at hq hs2
          have d8 : decide ((n : Int) < 8) = true := by simp; omega
          have HZ := Lib.hid hz
          clear hs hz
          by_cases hp : (y + q) % 2 = 1
          · have e1 : ((y : Int) + (q : Int)) % 4294967296 % 2 = 1 := by omega
            have e2 := u32_xor_nat (q / 2) 3988292384 (by omega) (by omega)
            have hs3 : (regL r (bitsOf x (n + 1))).toNat = q / 2 ^^^ 3988292384 := by
              rw [hs2]
              rcases Nat.mod_two_eq_zero_or_one y with h1 | h1 <;> rcases Nat.mod_two_eq_zero_or_one q with h2 | h2 <;> simp [h1, h2] <;> omega
            have HS := Lib.hid (And.intro hs3 e2)
            clear hs3 e2 hs2 hp
            go_wp2
            go_roundw
            case rel => exact ⟨n + 1, by omega, by go_num, by rw [HZ.out]; simp, by rw [HS.out.1, ← HS.out.2]; simp, trivial⟩
            case measure => simp [intOf]; omega
          · have e1 : ((y : Int) + (q : Int)) % 4294967296 % 2 = 0 := by omega
            have hs3 : (regL r (bitsOf x (n + 1))).toNat = q / 2 := by
              rw [hs2]
              rcases Nat.mod_two_eq_zero_or_one y with h1 | h1 <;> rcases Nat.mod_two_eq_zero_or_one q with h2 | h2 <;> simp [h1, h2] <;> omega
            have HS := Lib.hid hs3
            clear hs3 hs2 hp
            go_wp2
            go_roundw
            case rel => exact ⟨n + 1, by omega, by go_num, by rw [HZ.out]; simp, by rw [HS.out]; simp, trivial⟩
            case measure => simp [intOf]; omega
        · obtain rfl : n = 8 := by omega
          go_wp2
          refine ⟨⟨k + 1, by omega, by go_num, by rw [HT.out], trivial⟩, by simp [intOf]; omega⟩
    · obtain rfl : k = xs.length := by omega
      rw [List.take_length]
      have hr : (lowReg xs).toNat < 4294967296 := (lowReg xs).isLt
      go_wp2
      go_ret
      refine ⟨ret_int ?_, rfl⟩
      exact u32_xor_nat _ 4294967295 hr (by omega)

theorem regH_take (r : Reg) (x n : Nat) (h : n < 8) : regH r ((Msb.bitsOf x 8).take (n + 1)) = stepH (regH r ((Msb.bitsOf x 8).take n)) (x / 2 ^ (7 - n) % 2 == 1) := by
  have hl := Msb.bitsOf_length x 8
  have e := Msb.bitsOf_get x 8 n h
  rw [List.getElem?_eq_getElem (by omega)] at e
  rw [List.take_succ_eq_append_getElem (by omega), regH_append, Option.some.inj e]
  rfl

end Go.Proofs.YtpinfihmageeoaaGreat.Crc

namespace Go.Proofs.YtpinfihmageeoaaGreat.Crc
open Go.RowKit

theorem modify_last (a : Array Obj) (x : Obj) (f : Obj → Obj) : (a.push x).modify a.size f = a.push (f x) := by
  apply Array.ext_getElem?
  intro i
  rw [Array.getElem?_modify, Array.getElem?_push, Array.getElem?_push]
  by_cases h : a.size = i
  · subst h; simp
  · rw [if_neg h, if_neg (fun e => h e.symm), if_neg (fun e => h e.symm)]

theorem run_convert_lit (w : World) (C : Array Value) (n c : Nat) : (convert 26 26 (.slice (some ⟨w.heap.size, 0, none⟩) n c)).run Tryz.prog (w.alloc (.cells C 5)) = .ok (.slice (some ⟨w.heap.size, 0, none⟩) n c) (w.alloc (.cells C 5 (C.size, C.size + 1))) := by
  have hsh : (w.alloc (.cells C 5)).shape? w.heap.size = some (5, C.size) := by
    unfold World.shape?
    rw [heap_alloc_new]
  have hfr : (w.alloc (.cells C 5)).freeze ⟨w.heap.size, C.size, none⟩ 1 = w.alloc (.cells C 5 (C.size, C.size + 1)) := by
    unfold World.freeze
    rw [if_neg (by decide)]
    show ({ w.alloc (.cells C 5) with heap := (w.heap.push (.cells C 5)).modify w.heap.size _ } : World) = _
    rw [modify_last]
    rfl
  simp [convert, run_underlying Tryz.underlying26, run_underlying Tryz.underlying5, markStringish, hsh, hfr]

theorem byteRow_lit (w : World) (xs : List Nat) (fr : Nat × Nat) (hb : ∀ x ∈ xs, x < 256) : ByteRow (w.alloc (.cells (u8s xs).toArray 5 fr)) (.slice (some ⟨w.heap.size, 0, none⟩) xs.length xs.length) xs := by
  refine ⟨_, xs.length, rfl, Nat.le_refl _, (fun e => by cases e), fun i hi => ⟨hb _ (List.getElem_mem hi), w.heap.size, 0, rfl, ?_⟩⟩
  rw [Nat.zero_add, cell_of_row _ w.heap.size i (u8s xs).toArray 5 fr (heap_alloc_new w _)]
  simp [u8s, hi]

theorem byteRow_none (w : World) : ByteRow w (.slice none 0 0) [] := ⟨none, 0, rfl, Nat.le_refl _, fun _ => rfl, fun i hi => absurd hi (by simp)⟩

theorem St.bytesRow {B : Nat} {w0 w : World} {r : List Thing} {v : Value} {xs : List Nat} (h : St B w0 w (rowT 5 1 v xs.length (u8s xs) :: r)) (hb : ∀ x ∈ xs, x < 256) : ByteRow w v xs := byteRow_owns h.row hb

theorem low_st {B : Nat} {w0 w : World} {r : List Thing} (st : St B w0 w r) {v : Value} {xs : List Nat} (h : ByteRow w v xs) (hl : xs.length ≤ 140737488355328) :
    Calls Tryz.prog 126 #[v] w fun e w' => e = .returned (.int .u32 (lowSum xs : Int)) ∧ St B w0 w' r ∧ Below w.heap.size w w' :=
  (low_any w v xs h hl).mono fun _ _ ⟨h1, h2⟩ => ⟨h1, st.quiet h2, h2⟩

theorem low_digits : lowSum [49, 50, 51, 52, 53, 54, 55, 56, 57] = 3421780262 := by decide +kernel
theorem high_digits : highSum [49, 50, 51, 52, 53, 54, 55, 56, 57] = 4236843288 := by decide +kernel
theorem fold_two : fold 2147483649 1 = 2 := by decide

theorem wpList_copy {ops : Array Oper} {rest : List Oper} {o : Oper} {a : Act} {Q : Exit → Act → World → Prop} (hgd : o.guard = none) (s x : Operand)
    (ho : o.op = .call { callee := .builtin .append, args := #[s, x], argTypes := #[26, 26] })
    {B : Nat} {w0 w2 : World} {r : List Thing} (st : St B w0 w2 r) {v : Value} {xs : List Nat} (h : ByteRow w2 v xs) (hs : a.eval s = .slice (some ⟨w2.heap.size, 0, none⟩) 0 0) (hx : a.eval x = v) (hl : xs.length ≤ 140737488355328)
    (K : ∀ v' w', St B w0 w' (rowT 5 1 v' xs.length (u8s xs) :: r) → wpList Tryz.prog ops Q rest (a.put o.dst v') w') : wpList Tryz.prog ops Q (o :: rest) a (w2.alloc (.cells #[] 5)) := by
  obtain ⟨i0, hi, hz0, hz1, hz2⟩ := info_parts info8
  have s1 : St B w0 (w2.alloc (.cells #[] 5)) (rowT 5 1 (.slice (some ⟨w2.heap.size, 0, none⟩) 0 0) 0 [] :: r) :=
    st.addRow (below_alloc w2 _) (World.ownsRow_made w2 #[] 0 (Nat.le_refl _) (by unfold maxLen; omega) rfl)
  have h2 := h.below (below_alloc w2 (.cells #[] 5)) (Nat.le_refl _)
  have hr := h2.reads
  obtain ⟨ad, cap, rfl, hc, hn, hat⟩ := h2
  refine wpList_append_mine _ hgd s x 26 ho 5 i0 (.int .u8 0) 1 1 Tryz.underlying26 hi hz0 hz1 hz2 rfl (by decide) _ 0 [] hs s1.row ad xs.length cap (u8s xs) hx ?_ (by rw [u8s_length]; omega) ?_ (u8s_one xs) (by unfold maxLen; omega) (by omega) ?_
  · intro e1
    have := hn e1
    exact ⟨by omega, this⟩
  · intro b hb j u hu
    rcases hr with ⟨e1, e2⟩ | ⟨a', cap', e1, e2⟩
    · rw [e2] at hu; simp at hu
    · have e3 : ad = some a' := (Value.slice.inj e1).1
      rw [hb] at e3
      obtain rfl := Option.some.inj e3
      exact e2 j u hu
  · intro v' w' g1 g2 g3
    rw [Nat.zero_add, List.nil_append] at g1
    exact K v' w' (s1.grown g1 g2 g3)

theorem nat_of_u32 {z : Int} (hz : (Lit.int .u32 z).wf = true) : ∃ y : Nat, z = (y : Int) ∧ y < 4294967296 := by
  simp only [Lit.wf, Bool.and_eq_true, decide_eq_true_eq] at hz
  have h1 : IntKind.u32.min = 0 := rfl
  have h2 : IntKind.u32.max = 4294967295 := rfl
  rw [h1, h2] at hz
  exact ⟨z.toNat, by omega, by omega⟩

end Go.Proofs.YtpinfihmageeoaaGreat.Crc
