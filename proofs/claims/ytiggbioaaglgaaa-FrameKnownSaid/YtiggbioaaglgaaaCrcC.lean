/-
  Contracts of package crc: Low and High: the sums of the chapter's own definition. No conditions but that rows are of at most 2^46 bytes.
-/
import Derived.Test.YtiggbioaaglgaaaCrcB
namespace Go.Proofs.Ytiggbioaaglgaaa.Crc
open Go.RowKit

theorem effs_at (step : Reg → Reg) (p i : Nat) (h : i < 256) : (effs step p 256)[i]'(by rw [effs_length]; exact h) = (iter step 8 (BitVec.ofNat 32 i <<< p)).toNat := by
  simp only [effs, List.getElem_map, List.getElem_range, h, if_true]

def lowTab : List Nat := effs (fun r => stepL r false) 0 256
def highTab : List Nat := effs (fun r => stepH r false) 24 256

theorem lowTab_length : lowTab.length = 256 := effs_length _ _ _
theorem highTab_length : highTab.length = 256 := effs_length _ _ _

theorem lowTab_at (i : Nat) (h : i < 256) : lowTab[i]'(by rw [lowTab_length]; exact h) = (tabL i).toNat := by
  unfold lowTab tabL
  rw [effs_at _ _ _ h, iterL, BitVec.shiftLeft_zero]

theorem highTab_at (i : Nat) (h : i < 256) : highTab[i]'(by rw [highTab_length]; exact h) = (tabH i).toNat := by
  unfold highTab tabH
  rw [effs_at _ _ _ h, iterH]

/-- What a byte does to the low register. -/
theorem lowByte_any (w : World) (b : Nat) (r : Reg) (x : Nat) (hx : x < 256) (ha : Arr w b lowTab) :
    Calls Try.prog 60 #[.int .u32 (r.toNat : Int), .int .u8 (x : Int), .pointer (some ⟨b, 0, none⟩)] w fun e w' => e = .returned (.int .u32 ((regL r (bitsOf x 8)).toNat : Int)) ∧ w = w' := by
  have hr : r.toNat < 4294967296 := r.isLt
  rw [byteL r x hx, BitVec.toNat_xor, BitVec.toNat_ushiftRight, Nat.shiftRight_eq_div_pow]
  have hxr : r.toNat % 256 ^^^ x < 256 := Nat.xor_lt_two_pow (n := 8) (by omega) (by omega)
  have ht : (tabL (r.toNat % 256 ^^^ x)).toNat < 4294967296 := (tabL _).isLt
  have c0 := ha.cell (r.toNat % 256 ^^^ x) (by rw [lowTab_length]; exact hxr)
  rw [lowTab_at _ hxr] at c0
  generalize r.toNat = n at hr hxr ht c0
  have e1 : bits .xor .u8 ((n : Int) % 256) (x : Int) = ((n % 256 ^^^ x : Nat) : Int) := by
    have := u8_xor_nat (n % 256) x (by omega) hx
    simpa using this
  generalize n % 256 ^^^ x = i at hxr ht c0 e1
  generalize (tabL i).toNat = t at ht c0
  have e2 := u32_xor_nat (n / 256) t (by omega) ht
  have HE := Lib.hid e2
  clear e2
  go_enter Try.func60, Try.ntmps60
  go_wp2
  go_ret
  have e2 := HE.out
  exact ⟨ret_int (by rw [Nat.xor_comm, show (2 : Nat) ^ 8 = 256 from rfl, ← e2]; simp), rfl⟩

theorem byteRow_owns {w : World} {base : Nat} {v : Value} {xs : List Nat} (h : w.ownsRow base 5 1 v xs.length (u8s xs)) (hb : ∀ x ∈ xs, x < 256) : ByteRow w v xs := by
  rcases h.2 with ⟨rfl, h0⟩ | ⟨g, cap, cur, rfl, _, hg, hnc, _⟩
  · obtain rfl : xs = [] := List.eq_nil_of_length_eq_zero h0
    exact ⟨none, 0, rfl, Nat.le_refl _, fun _ => rfl, fun i hi => absurd hi (by simp)⟩
  · refine ⟨_, cap, rfl, hnc, (fun e => by cases e), fun i hi => ⟨hb _ (List.getElem_mem hi), g, 0, rfl, ?_⟩⟩
    rw [Nat.zero_add, h.cellAt i (by omega), u8s_get _ _ hi]

/-- sum: the register goes through the bytes. -/
theorem sum_any (w : World) (v : Value) (xs : List Nat) (h : ByteRow w v xs) (hl : xs.length ≤ 140737488355328) (G b : Nat) (f : Reg → Nat → Reg)
    (hent : ∀ (args : Array Value) (w : World), (callFunc G args).run Try.prog w = .ok (.enter G args) w)
    (hf : ∀ (r : Reg) (x : Nat), x < 256 → Calls Try.prog G #[.int .u32 (r.toNat : Int), .int .u8 (x : Int), .pointer (some ⟨b, 0, none⟩)] w fun e w' => e = .returned (.int .u32 ((f r x).toNat : Int)) ∧ w = w') :
    Calls Try.prog 59 #[v, .func (.func G) #[] #[.pointer (some ⟨b, 0, none⟩)]] w fun e w' => e = .returned (.int .u32 ((xs.foldl f ones ^^^ ones).toNat : Int)) ∧ w = w' := by
  obtain ⟨a, cap, rfl, hc, hn, hat⟩ := h
  go_enter Try.func59, Try.ntmps59
  go_wp2
  go_loopw [5, 10] (fun r i wr => ∃ k : Nat, k ≤ xs.length ∧ i = .int .i64 (k : Int) ∧ r = .int .u32 (((xs.take k).foldl f ones).toNat : Int) ∧ wr = w) (fun _ i _ => xs.length - (intOf i).toNat)
  case atStart => exact ⟨0, by omega, rfl, rfl, rfl⟩
  case round =>
    obtain ⟨k, hk, rfl, rfl, rfl⟩ := hrel
    by_cases hlt : k < xs.length
    · obtain ⟨hx, b0, off, rfl, c0⟩ := hat k hlt
      have ht : (xs.take (k + 1)).foldl f ones = f ((xs.take k).foldl f ones) xs[k] := by rw [List.take_succ_eq_append_getElem hlt, List.foldl_append]; rfl
      have HT := Lib.hid ht
      clear ht
      generalize xs[k] = x at hx c0 HT
      go_wp2_with fail
      refine (hf _ x hx).mono ?_
      rintro e w2 ⟨rfl, rfl⟩
      go_wp2
      go_roundw
      case rel => exact ⟨k + 1, by omega, by go_num, by rw [HT.out], trivial⟩
      case measure => simp [intOf]; omega
    · obtain rfl : k = xs.length := by omega
      rw [List.take_length]
      have hr : (xs.foldl f ones).toNat < 4294967296 := (xs.foldl f ones).isLt
      go_wp2
      go_ret
      refine ⟨ret_int ?_, rfl⟩
      rw [Nat.xor_comm, show IntKind.u32.max = ((4294967295 : Nat) : Int) from rfl, u32_xor_nat 4294967295 _ (by omega) hr]
      rfl

theorem low_fold (xs : List Nat) (r : Reg) : xs.foldl (fun r x => regL r (bitsOf x 8)) r = regL r (lowBits xs) := by
  induction xs generalizing r with
  | nil => rfl
  | cons x xs ih => rw [List.foldl_cons, ih, ← regL_append]; rfl

theorem high_fold (xs : List Nat) (r : Reg) : xs.foldl (fun r x => regH r (Msb.bitsOf x 8)) r = regH r (highBits xs) := by
  induction xs generalizing r with
  | nil => rfl
  | cons x xs ih => rw [List.foldl_cons, ih, ← regH_append]; rfl

theorem lowByte_enters (args : Array Value) (w : World) : (callFunc 60 args).run Try.prog w = .ok (.enter 60 args) w := by
  simp [callFunc, Try.func60, Try.f60]

set_option maxRecDepth 100000 in
set_option maxHeartbeats 1000000 in
/-- Low: the low sum. -/
theorem low_any (w : World) (v : Value) (xs : List Nat) (h : ByteRow w v xs) (hl : xs.length ≤ 140737488355328) :
    Calls Try.prog 46 #[v] w fun e w' => e = .returned (.int .u32 (lowSum xs : Int)) ∧ Below w.heap.size w w' := by
  have hmf : ∀ (fn : Fn) (first cap : Array Value) (w : World), (Instr.makeFunc fn first cap).run Try.prog w = .ok (.func fn first cap) w := fun _ _ _ _ => rfl
  obtain ⟨hz, hi⟩ := zero_of_info zeroInfo
  go_enter Try.func46, Try.ntmps46
  go_wp2_with fail
  refine (effectsOf_any w 0 (by omega) _ _ lowTurn_enters lowTurn_any).mono ?_
  rintro e w1 ⟨rfl, b1⟩
  have hi' : (Try.prog.info? 62).map (·.size) = some (u32s lowTab).toArray.size := by rw [hi, List.size_toArray, u32s_length, lowTab_length]
  have h0 : (Array.replicate 256 (Value.int .u32 0)).size = (u32s lowTab).toArray.size := by rw [Array.size_replicate, List.size_toArray, u32s_length, lowTab_length]
  rw [show effs (fun r => stepL r false) 0 256 = lowTab from rfl]
  have a1 : Arr (w1.alloc (.cells (u32s lowTab).toArray 62)) w1.heap.size lowTab := heap_alloc_new w1 _
  go_wp2_with (refine wpList_store_row rfl 62 _ _ rfl w1.heap.size _ rfl rfl 62 _ (heap_alloc_new w1 _) hi' h0 (Array.all_eq_true_iff_forall_mem.2 (fun v hv => u32s_one _ v (by simpa using hv))) ?_)
  have b2 : Below w.heap.size w (w1.alloc (.cells (u32s lowTab).toArray 62)) := b1.alloc (by have := b1.size; omega) _
  have h2 : ByteRow (w1.alloc (.cells (u32s lowTab).toArray 62)) v xs := h.below b2 (Nat.le_refl _)
  rw [World.setRow_alloc_new]
  refine (sum_any _ v xs h2 hl 60 w1.heap.size (fun r x => regL r (bitsOf x 8)) lowByte_enters (fun r x hx => lowByte_any _ _ r x hx a1)).mono ?_
  rintro e w3 ⟨rfl, rfl⟩
  rw [low_fold]
  clear a1 hi' h0 h2
  go_wp2
  go_ret
  exact ⟨rfl, b2⟩

end Go.Proofs.Ytiggbioaaglgaaa.Crc
