/-
  FrA FrB FrC FrD, one behind the other (merged by wip/merge.py). No conditions but those that each states.
-/
import Derived.Test.YtmcjbkfiipmgeaaGreatGX
import Derived.Test.YtmcjbkfiipmgeaaGreatGC
import Derived.Test.YtmcjbkfiipmgeaaGreatGA
import Derived.Test.YtmcjbkfiipmgeaaGreatGA
import Derived.Test.YtmcjbkfiipmgeaaGreatGA
import Derived.Lib.BytesEntry
import Derived.Deep.Fields
import Derived.Test.YtmcjbkfiipmgeaaGreatGZ
import Derived.Lib.AppendStr
import Derived.StillTailTactics

/-
  Heads as values in memory; the first byte 0 of bytes and of a text. No conditions but that rows are small.
-/
namespace Go.Proofs.YtmcjbkfiipmgeaaGreat
open Go.RowKit

namespace Fr
open Go.ChangeShapes Go.WideShapes Go.Deep

/-- A head's cells. -/
abbrev headC (h : Gz) (ev : Value) : Array Value := #[.bool h.text, .int .u32 (h.time : Int), .int .u8 (h.xfl : Int), .int .u8 (h.os : Int), ev, .string (strOf h.name), .string (strOf h.comment), .int .u8 (h.has : Int), .bool h.sum]

theorem strOf_size (a : List Nat) : (strOf a).size = a.length := by
  show (strOf a).data.size = _
  rw [strOf_data]
  simp

theorem strOf_list (a : List Nat) : (strOf a).data.toList = a.map UInt8.ofNat := by rw [strOf_data]

theorem strOf_app (a b : List Nat) : strOf a ++ strOf b = strOf (a ++ b) := by
  apply ByteArray.ext
  rw [ByteArray.data_append, strOf_data, strOf_data, strOf_data, List.map_append]
  simp

theorem strOf_eq {xs ys : List Nat} (hx : ∀ x ∈ xs, x < 256) (hy : ∀ y ∈ ys, y < 256) : strOf xs = strOf ys ↔ xs = ys := by
  constructor
  · intro h
    have h1 := congrArg ByteArray.data h
    simp only [strOf_data] at h1
    have h2 : xs.map UInt8.ofNat = ys.map UInt8.ofNat := by simpa using congrArg Array.toList h1
    have key : ∀ (l : List Nat), (∀ x ∈ l, x < 256) → (l.map UInt8.ofNat).map UInt8.toNat = l := by
      intro l hl
      induction l with
      | nil => rfl
      | cons x l ih =>
        simp only [List.map_cons]
        rw [ih (fun y hy => hl y (List.mem_cons_of_mem _ hy))]
        congr 1
        have := hl x List.mem_cons_self
        simp
        omega
    rw [← key xs hx, ← key ys hy, h2]
  · rintro rfl; rfl

theorem str_list (s t : ByteArray) : s.toList = t.toList ↔ s = t := by
  rw [ByteArray.toList_eq, ByteArray.toList_eq]
  constructor
  · intro h
    cases s; cases t
    simp only at h
    rw [Array.toList_inj.1 h]
  · rintro rfl; rfl

/-- Any text is bytes. -/
theorem str_bytes (s : ByteArray) : ∃ xs : List Nat, s = strOf xs ∧ ∀ x ∈ xs, x < 256 := by
  refine ⟨s.data.toList.map UInt8.toNat, ?_, ?_⟩
  · apply ByteArray.ext
    rw [strOf_data, List.map_map]
    have : UInt8.ofNat ∘ UInt8.toNat = id := by funext x; simp
    rw [this]
    simp
  · intro x hx
    obtain ⟨y, _, rfl⟩ := List.mem_map.1 hx
    exact y.toNat_lt

/-- The place of the first byte 0, or -1. -/
def zeroI (xs : List Nat) : Int := match zeroAt xs with | some z => (z : Int) | none => -1

theorem zeroI_neg (xs : List Nat) : decide (zeroI xs < 0) = decide (0 ∉ xs) := by
  rw [decide_eq_decide]
  unfold zeroI
  cases h : zeroAt xs with
  | none => exact ⟨fun _ => zeroAt_none h, fun _ => by decide⟩
  | some z =>
    obtain ⟨_, g2, _⟩ := zeroAt_some h
    refine ⟨fun h1 => absurd h1 (by simp only; omega), fun h1 => absurd (List.mem_of_getElem? g2) h1⟩

theorem ofNat_zero {x : Nat} (h : x < 256) : (UInt8.ofNat x == 0) = decide (x = 0) := by
  rw [Bool.eq_iff_iff, beq_iff_eq, decide_eq_true_eq]
  constructor
  · intro h1
    have := congrArg UInt8.toNat h1
    simp at this
    omega
  · rintro rfl; rfl

theorem indexByte_zero (xs : List Nat) (hb : ∀ x ∈ xs, x < 256) : Lib.indexByte (xs.map UInt8.ofNat) 0 = zeroI xs := by
  induction xs with
  | nil => rfl
  | cons x l ih =>
    have ih := ih (fun y hy => hb y (List.mem_cons_of_mem _ hy))
    have hx := hb x List.mem_cons_self
    rw [List.map_cons, Lib.indexByte, ofNat_zero hx, ih]
    unfold zeroI
    rw [zeroAt]
    by_cases c : x = 0
    · simp [c]
    · simp only [c, decide_false, Bool.false_eq_true, if_false]
      cases h : zeroAt l with
      | none => simp
      | some z =>
        simp only [Option.map_some]
        rw [if_neg (by rw [beq_iff_eq]; omega)]
        omega

theorem bytesOf_cast (xs : List Nat) : Lib.bytesOf (xs.map fun (x : Nat) => (x : Int)) = xs.map UInt8.ofNat := by
  unfold Lib.bytesOf
  rw [List.map_map]
  apply List.map_congr_left
  intro x _
  simp

set_option maxRecDepth 100000 in
theorem index_any (w : World) (v : Value) (xs : List Nat) (h : ByteRow w v xs) :
    Calls Tryz.prog 169 #[v, .int .u8 0] w fun e w' => e = .returned (.int .i64 (zeroI xs)) ∧ w = w' := by
  have hb := h.byte
  obtain ⟨a, cap, rfl, hc, hn, hat⟩ := h
  go_enter Tryz.func169, Tryz.ntmps169
  cases a with
  | none =>
    have h0 : xs = [] := List.eq_nil_of_length_eq_zero (by have := hn rfl; omega)
    subst h0
    go_wp2
    rw [run_callFunc_extern Tryz.func185 (by kernel_rfl) (by kernel_rfl) (by kernel_rfl) (e := Extern.BytealgIndexByte.indexByte) (by kernel_rfl), Lib.run_indexByteNil w _ _ 0]
    simp only [Result.andThen]
    rw [Oper.upon_value]
    go_wp2
    go_ret
    exact ⟨rfl, rfl⟩
  | some ad =>
    have hplace : ∃ b off, ∀ i, i < xs.length → some ad = some ⟨b, off, none⟩ ∧ w.cell? ⟨b, off + i, none⟩ = some (.int .u8 ((xs.map fun (x : Nat) => (x : Int)).getD i 0)) := by
      by_cases h0 : 0 < xs.length
      · obtain ⟨_, b, off, e, _⟩ := hat 0 h0
        refine ⟨b, off, fun i hi => ?_⟩
        obtain ⟨_, b2, off2, e2, c2⟩ := hat i hi
        rw [e] at e2
        obtain ⟨rfl, rfl⟩ : b = b2 ∧ off = off2 := by simpa using e2
        refine ⟨e, ?_⟩
        rw [c2, List.getD_eq_getElem?_getD, List.getElem?_map, List.getElem?_eq_getElem hi]
        rfl
      · exact ⟨0, 0, fun i hi => absurd hi (by omega)⟩
    obtain ⟨b, off, hp⟩ := hplace
    clear hat
    go_wp2
    rw [run_callFunc_extern Tryz.func185 (by kernel_rfl) (by kernel_rfl) (by kernel_rfl) (e := Extern.BytealgIndexByte.indexByte) (by kernel_rfl)]
    have hz := indexByte_zero xs hb
    rw [← bytesOf_cast] at hz
    by_cases h0 : 0 < xs.length
    · obtain ⟨e, _⟩ := hp 0 h0
      obtain rfl := Option.some.inj e
      have hrun := Lib.run_indexByteSlice (P := Tryz.prog) w b off xs.length cap (xs.map fun (x : Nat) => (x : Int)) (by rw [List.length_map]) (fun i hi => (hp i hi).2) 0
      rw [show (0 : Int).toNat.toUInt8 = 0 from rfl, hz] at hrun
      rw [hrun]
      simp only [Result.andThen]
      rw [Oper.upon_value]
      go_wp2
      go_ret
      exact ⟨rfl, rfl⟩
    · have h0 : xs = [] := List.eq_nil_of_length_eq_zero (by omega)
      subst h0
      have hrun := Lib.run_indexByteSlice (P := Tryz.prog) w ad.block ad.off 0 cap [] rfl (fun i hi => absurd hi (by omega)) 0
      have hs : ∀ c cv, (Extern.BytealgIndexByte.indexByte #[.slice (some ad) 0 c, .int .u8 cv]).run Tryz.prog w = (Extern.BytealgIndexByte.indexByte #[.slice (some ⟨ad.block, ad.off, none⟩) 0 c, .int .u8 cv]).run Tryz.prog w := fun _ _ => rfl
      rw [List.length_nil, hs, hrun]
      simp only [Result.andThen]
      rw [Oper.upon_value]
      go_wp2
      go_ret
      exact ⟨rfl, rfl⟩

set_option maxRecDepth 100000 in
theorem indexS_any (w : World) (xs : List Nat) (hb : ∀ x ∈ xs, x < 256) :
    Calls Tryz.prog 99 #[.string (strOf xs), .int .u8 0] w fun e w' => e = .returned (.int .i64 (zeroI xs)) ∧ w = w' := by
  have hrun := Lib.run_indexByteString (P := Tryz.prog) (strOf xs) 0 w
  rw [strOf_list, show (0 : Int).toNat.toUInt8 = 0 from rfl, indexByte_zero xs hb] at hrun
  have hin : Calls Tryz.prog 138 #[.string (strOf xs), .int .u8 0] w fun e w' => e = .returned (.int .i64 (zeroI xs)) ∧ w = w' := by
    go_enter Tryz.func138, Tryz.ntmps138
    go_wp2
    rw [run_callFunc_extern Tryz.func159 (by kernel_rfl) (by kernel_rfl) (by kernel_rfl) (e := Extern.BytealgIndexByte.indexByte) (by kernel_rfl), hrun]
    simp only [Result.andThen]
    rw [Oper.upon_value]
    go_wp2
    go_ret
    exact ⟨rfl, rfl⟩
  clear hrun
  go_enter Tryz.func99, Tryz.ntmps99
  go_wp2_with (go_at_call 138; refine hin.mono ?_; rintro e w1 ⟨rfl, rfl⟩)
  go_ret
  exact ⟨rfl, rfl⟩

end Fr
end Go.Proofs.YtmcjbkfiipmgeaaGreat

/-
  Contracts of package frame: the writer's fields. No conditions but that rows are small.
-/
namespace Go.Proofs.YtmcjbkfiipmgeaaGreat.Fr
open Go.RowKit Crc

theorem strCells_strOf (xs : List Nat) (hb : ∀ x ∈ xs, x < 256) : Lib.strCells (strOf xs) = u8s xs := by
  unfold Lib.strCells u8s
  rw [strOf_list, List.map_map]
  apply List.map_congr_left
  intro x hx
  have := hb x hx
  simp only [Function.comp, UInt8.toNat_ofNat']
  congr 1
  omega

/-- An append of a text to a slice of the call's own. -/
theorem run_append_str (w : World) (ty : TypeId) (v : Value) (n : Nat) (ys : List Value) (hown : w.ownsRow 0 5 1 v n ys) (xs : List Nat) (hb : ∀ x ∈ xs, x < 256) (hl : n + xs.length ≤ 140737488355328) :
    ∃ v' w', (Builtin.append_ #[26, 9] ty #[v, .string (strOf xs)]).run Tryz.prog w = .ok v' w' ∧ w'.ownsRow 0 5 1 v' (n + xs.length) (ys ++ u8s xs) ∧ w.grownBy w' v.ownBlock ∧ Fresh w v v' := by
  obtain ⟨i0, hi, hz0, hz1, hz2⟩ := info_parts info8
  have hsz := strOf_size xs
  have hsc := strCells_strOf xs hb
  rcases hown.2 with ⟨rfl, rfl⟩ | ⟨g, cap, cur, rfl, hbg, hg, hnc, hcm, hcs, htake⟩
  · obtain rfl : ys = [] := List.eq_nil_of_length_eq_zero (by simpa using hown.1)
    obtain ⟨v', w', hr, h2, h3, _⟩ := Lib.run_append_own_string (P := Tryz.prog) w w.heap.size 26 9 ty 5 i0 Tryz.underlying26 Tryz.underlying9 hi hz0 hz1 hz2 (.slice none 0 0) 0 [] (World.ownsRow_nil w _ _ _) (strOf xs) (by unfold maxLen; omega) (by omega) (Nat.le_refl _)
    rw [hsz, hsc] at h2
    exact ⟨v', w', hr, ownsRow_base h2, h3, .inr fun g hg => (h2.lt g hg).1⟩
  · obtain ⟨v', w', hr, h2, h3, _⟩ := Lib.run_append_own_string (P := Tryz.prog) w 0 26 9 ty 5 i0 Tryz.underlying26 Tryz.underlying9 hi hz0 hz1 hz2 (.slice (some ⟨g, 0, none⟩) n cap) n ys hown (strOf xs) (by unfold maxLen; omega) (by omega) (Nat.zero_le _)
    rw [hsz, hsc] at h2
    refine ⟨v', w', hr, h2, h3, ?_⟩
    by_cases hroom : n + (strOf xs).size ≤ cap
    · have hr2 := Lib.run_append_room_string (P := Tryz.prog) w 26 9 ty 5 i0 Tryz.underlying26 Tryz.underlying9 hi hz1 g n cap cur hg (strOf xs) hroom (by rw [Nat.mul_one] at hcs; omega)
      rw [hr2] at hr
      obtain ⟨rfl, _⟩ := Result.ok.inj hr
      exact .inl rfl
    · have hr2 := Lib.run_append_grow_string (P := Tryz.prog) w 26 9 ty 5 i0 (.int .u8 0) Tryz.underlying26 Tryz.underlying9 hi hz0 ⟨g, 0, none⟩ n cap ys (by rw [hz1]; simpa using hown.1) (hown.cells (g := g) rfl) (strOf xs) (by omega) (by omega) (by rw [hz2]; exact growslice_fits (by omega) (by omega))
      rw [hr2] at hr
      obtain ⟨rfl, _⟩ := Result.ok.inj hr
      exact .inr fun g' hg' => by simp [Value.ownBlock] at hg'; omega

theorem wpList_append_str {ops : Array Oper} {rest : List Oper} {o : Oper} {a : Act} {Q : Exit → Act → World → Prop} (hw : Region.wanted o (yielded ops a.tmps) = true) (s x : Operand)
    (ho : o.op = .call { callee := .builtin .append, args := #[s, x], argTypes := #[26, 9] })
    {B : Nat} {w0 w2 : World} {v : Value} {n : Nat} {ys : List Value} {r : List Thing} (st : St B w0 w2 (rowT 5 1 v n ys :: r)) (hs : a.eval s = v)
    (xs : List Nat) (hx : a.eval x = .string (strOf xs)) (hb : ∀ x ∈ xs, x < 256) (hl : n + xs.length ≤ 140737488355328)
    (h : ∀ v' w', St B w0 w' (rowT 5 1 v' (n + xs.length) (ys ++ u8s xs) :: r) → wpList Tryz.prog ops Q rest (a.put o.dst v') w') : wpList Tryz.prog ops Q (o :: rest) a w2 := by
  refine BigFrame.wpList_want hw fun K hK => ?_
  obtain ⟨v', w', hr, h2, h3, h4⟩ := run_append_str w2 o.type v n ys st.row xs hb hl
  unfold Oper.wp execOp
  simp only [ho, resolve, invoke, builtin, Sem.run_bind, Sem.run_pure, Result.andThen_ok, List.map_toArray, List.map_cons, List.map_nil, hs, hx, hr]
  exact hK _ _ (h v' w' (st.grown h2 h3 h4))

/-- A writer's cells. -/
abbrev wrtC (h : Gz) (ev v : Value) : Array Value := #[.bool h.text, .int .u32 (h.time : Int), .int .u8 (h.xfl : Int), .int .u8 (h.os : Int), ev, .string (strOf h.name), .string (strOf h.comment), .int .u8 (h.has : Int), .bool h.sum, v]

section
variable {B : Nat} {w0 w : World} {r : List Thing} {wb : Nat} {h : Gz} {ev : Value} {acc : List Nat}

/-- A writer that has laid these bytes. -/
def Wst (B : Nat) (w0 w : World) (r : List Thing) (wb : Nat) (h : Gz) (ev : Value) (acc : List Nat) : Prop :=
  ∃ v, St B w0 w (boxT wb (wrtC h ev v) 94 :: rowT 5 1 v acc.length (u8s acc) :: r)

set_option maxRecDepth 100000 in
set_option maxHeartbeats 1000000 in
theorem wnumber_st (st : Wst B w0 w r wb h ev acc) (x n : Nat) (hx : x < 4294967296) (hn : n ≤ 4) (hl : acc.length ≤ 100000000) :
    Calls Tryz.prog 74 #[.pointer (some ⟨wb, 0, none⟩), .int .u32 (x : Int), .int .i64 (n : Int)] w fun e w' => e = .returned (.tuple #[]) ∧ Wst B w0 w' r wb h ev (acc ++ le n x) := by
  obtain ⟨A, hA⟩ : ∃ A, acc ++ le n x = A := ⟨_, rfl⟩
  have HA := Lib.hid hA
  rw [hA]
  clear hA
  go_enter Tryz.func74, Tryz.ntmps74
  go_wp2
  go_loopw [1, 7] (fun y i wr => ∃ (k z : Nat) (L : List Nat), k ≤ n ∧ i = .int .i64 (k : Int) ∧ y = .int .u32 (z : Int) ∧ z < 4294967296 ∧ Hid (L ++ le (n - k) z = A) ∧ L.length ≤ acc.length + k ∧ Wst B w0 wr r wb h ev L) (fun _ i _ => n - (intOf i).toNat)
  case atStart => exact ⟨0, x, acc, Nat.zero_le _, rfl, rfl, hx, HA, Nat.le_refl _, st⟩
  case round =>
    clear st HA
    obtain ⟨k, z, L, hk, rfl, rfl, hz, HL, hll, v, s1⟩ := hrel
    by_cases hlt : k < n
    · have e1 : L ++ [z % 256] ++ le (n - (k + 1)) (z / 256) = A := by
        rw [← HL.out, show n - k = (n - (k + 1)) + 1 from by omega, le, List.append_assoc]
        rfl
      have HN := Lib.hid e1
      clear e1 HL
      have s2 := s1.swap
      obtain ⟨a, c, rfl⟩ := ownsRow_slice s2.row
      have c9 : w0 = w0 := rfl
      obtain ⟨k9, f9⟩ := St.boxAt s1 9
      replace k9 : wr.cell? ⟨wb, 9, none⟩ = some (.slice a L.length c) := k9
      have hb9 : wb < wr.heap.size := lt_of_block s1.box
      clear c9
      go_wp2_with (at_builtin; refine wpList_append_lit (m := 1) rfl _ _ rfl s2 rfl [.int .u8 (((z : Int)) % 256)] rfl rfl ?oneCell (by omega) ?_)
      case oneCell => simp [Value.oneCell']
      intro v' w' s3
      obtain ⟨a', c', rfl⟩ := ownsRow_slice s3.row
      have s4 := s3.swap
      obtain ⟨k8, f8⟩ := St.boxAt s4 9
      replace k8 : w'.cell? ⟨wb, 9, none⟩ = some (.slice a L.length c) := k8
      have s5 := s4.setBoxAt 9 (.slice a' (L.length + 1) c')
      clear s3 s4 s2 s1 k9 f9
      go_wp2
      refine ⟨⟨k + 1, z / 256, L ++ [z % 256], by omega, by go_num, by simp, by omega, HN, by rw [List.length_append, List.length_singleton]; omega, .slice a' (L.length + 1) c', ?_⟩, by simp [intOf]; omega⟩
      rw [u8s_append, List.length_append, List.length_singleton]
      exact s5
    · obtain rfl : k = n := by omega
      rw [Nat.sub_self, le, List.append_nil] at HL
      obtain rfl := HL.out
      go_wp2
      go_end0
      exact ⟨rfl, v, s1⟩

set_option maxRecDepth 100000 in
set_option maxHeartbeats 1000000 in
theorem wmagic_st (st : Wst B w0 w r wb h ev acc) (hl : acc.length ≤ 100000000) :
    Calls Tryz.prog 43 #[.pointer (some ⟨wb, 0, none⟩)] w fun e w' => e = .returned (.tuple #[]) ∧ Wst B w0 w' r wb h ev (acc ++ [31, 139, 8]) := by
  obtain ⟨v, s1⟩ := st
  have s2 := s1.swap
  obtain ⟨a, c, rfl⟩ := ownsRow_slice s2.row
  obtain ⟨k9, f9⟩ := St.boxAt s1 9
  replace k9 : w.cell? ⟨wb, 9, none⟩ = some (.slice a acc.length c) := k9
  go_enter Tryz.func43, Tryz.ntmps43
  go_wp2_with (at_builtin; refine wpList_append_str rfl _ _ rfl s2 rfl [31, 139, 8] rfl (by decide) (by simp; omega) ?_)
  intro v' w' s3
  obtain ⟨a', c', rfl⟩ := ownsRow_slice s3.row
  have s4 := s3.swap
  obtain ⟨k8, f8⟩ := St.boxAt s4 9
  replace k8 : w'.cell? ⟨wb, 9, none⟩ = some (.slice a acc.length c) := k8
  have s5 := s4.setBoxAt 9 (.slice a' (acc.length + 3) c')
  clear s3 s4 s2 s1 k9 f9
  go_wp2
  go_end0
  refine ⟨rfl, .slice a' (acc.length + 3) c', ?_⟩
  rw [u8s_append, List.length_append]
  exact s5

end
end Go.Proofs.YtmcjbkfiipmgeaaGreat.Fr

/-
  Contracts of package frame: the writer's fields, Put, Tail. No conditions but that rows are small.
-/
namespace Go.Proofs.YtmcjbkfiipmgeaaGreat.Fr
open Go.RowKit Crc

section
variable {B : Nat} {w0 w : World} {r : List Thing} {wb : Nat} {h : Gz} {ev : Value} {acc : List Nat}

theorem byte_or (x : Nat) (hx : x < 64) (a b : Bool) : x * 4 + a.toNat + 2 * b.toNat < 256 := by
  have := bool_le a
  have := bool_le b
  omega

theorem or_one (x : Nat) (hx : x < 256) (h4 : x % 2 = 0) : bits .or .u8 (x : Int) 1 = ((x + 1 : Nat) : Int) := by
  have : ∀ x : Nat, x < 256 → x % 2 = 0 → bits .or .u8 (x : Int) 1 = ((x + 1 : Nat) : Int) := by decide +kernel
  exact this x hx h4

theorem or_two (x : Nat) (hx : x < 256) (h4 : x % 4 < 2) : bits .or .u8 (x : Int) 2 = ((x + 2 : Nat) : Int) := by
  have : ∀ x : Nat, x < 256 → x % 4 < 2 → bits .or .u8 (x : Int) 2 = ((x + 2 : Nat) : Int) := by decide +kernel
  exact this x hx h4

theorem and_bit (x : Nat) (hx : x < 256) : bits .and .u8 (x : Int) 1 = ((x % 2 : Nat) : Int) ∧ bits .and .u8 (x : Int) 2 = ((2 * (x / 2 % 2) : Nat) : Int) ∧ bits .and .u8 (x : Int) 4 = ((4 * (x / 4 % 2) : Nat) : Int) := by
  have : ∀ x : Nat, x < 256 → bits .and .u8 (x : Int) 1 = ((x % 2 : Nat) : Int) ∧ bits .and .u8 (x : Int) 2 = ((2 * (x / 2 % 2) : Nat) : Int) ∧ bits .and .u8 (x : Int) 4 = ((4 * (x / 4 % 2) : Nat) : Int) := by decide +kernel
  exact this x hx

set_option maxRecDepth 100000 in
set_option maxHeartbeats 1000000 in
theorem wflags_st (st : Wst B w0 w r wb h ev acc) (hm : h.has < 8) (hl : acc.length ≤ 90000000) :
    Calls Tryz.prog 44 #[.pointer (some ⟨wb, 0, none⟩)] w fun e w' => e = .returned (.tuple #[]) ∧ Wst B w0 w' r wb h ev (acc ++ [flagsOf h]) := by
  have hn := wnumber_st st (flagsOf h) 1 (by have := flagsOf_lt hm; omega) (by omega) (by omega)
  have hle : le 1 (flagsOf h) = [flagsOf h] := by show [flagsOf h % 256] = _; rw [Nat.mod_eq_of_lt (by have := flagsOf_lt hm; omega)]
  rw [hle] at hn
  obtain ⟨v, s1⟩ := st
  obtain ⟨A, hA⟩ : ∃ A, acc ++ [flagsOf h] = A := ⟨_, rfl⟩
  rw [hA] at hn ⊢
  obtain ⟨F, hF⟩ : ∃ F, flagsOf h = F := ⟨_, rfl⟩
  rw [hF] at hn
  have k7 : w.cell? ⟨wb, 7, none⟩ = some (.int .u8 (h.has : Int)) := (St.boxAt s1 7).1
  have k0 : w.cell? ⟨wb, 0, none⟩ = some (.bool h.text) := (St.boxAt s1 0).1
  have k8 : w.cell? ⟨wb, 8, none⟩ = some (.bool h.sum) := (St.boxAt s1 8).1
  unfold flagsOf at hF
  clear s1 hA hle
  generalize h.has = x at *
  obtain ⟨y, hy⟩ : ∃ y, x * 4 = y := ⟨_, rfl⟩
  have e1 : (x : Int) * 4 % 256 = (y : Int) := by omega
  have hy4 : y % 4 = 0 := by omega
  have hy28 : y < 32 := by omega
  rw [hy] at hF
  clear hy hm
  have hFF : F < 256 := by have := bool_le h.text; have := bool_le h.sum; omega
  go_enter Tryz.func44, Tryz.ntmps44
  cases ht : h.text with
  | false =>
    rw [ht] at k0 hF
    cases hs : h.sum with
    | false =>
      rw [hs] at k8 hF
      have hF2 : y = F := by rw [← hF]; simp
      subst hF2
      clear hF ht hs
      go_wp2_with (go_at_call 74; refine hn.mono ?_; rintro e w1 ⟨rfl, s2⟩)
      go_end0
      exact ⟨rfl, s2⟩
    | true =>
      rw [hs] at k8 hF
      have e2 : bits .or .u8 (y : Int) 2 = (F : Int) := by rw [or_two y (by omega) (by omega), ← hF]; simp
      clear hF ht hs
      go_wp2_with (go_at_call 74; refine hn.mono ?_; rintro e w1 ⟨rfl, s2⟩)
      go_end0
      exact ⟨rfl, s2⟩
  | true =>
    rw [ht] at k0 hF
    obtain ⟨q, hq⟩ : ∃ q, y + 1 = q := ⟨_, rfl⟩
    have e2 : bits .or .u8 (y : Int) 1 = (q : Int) := by rw [or_one y (by omega) (by omega), hq]
    cases hs : h.sum with
    | false =>
      rw [hs] at k8 hF
      have hF2 : q = F := by rw [← hF, ← hq]; simp
      subst hF2
      clear hF ht hs hq
      go_wp2_with (go_at_call 74; refine hn.mono ?_; rintro e w1 ⟨rfl, s2⟩)
      go_end0
      exact ⟨rfl, s2⟩
    | true =>
      rw [hs] at k8 hF
      have e3 : bits .or .u8 (q : Int) 2 = (F : Int) := by rw [or_two q (by omega) (by omega), ← hF, ← hq]; simp
      clear hF ht hs hq
      go_wp2_with (go_at_call 74; refine hn.mono ?_; rintro e w1 ⟨rfl, s2⟩)
      go_end0
      exact ⟨rfl, s2⟩

set_option maxRecDepth 100000 in
theorem wtime_st (st : Wst B w0 w r wb h ev acc) (ht : h.time < 4294967296) (hl : acc.length ≤ 90000000) :
    Calls Tryz.prog 45 #[.pointer (some ⟨wb, 0, none⟩)] w fun e w' => e = .returned (.tuple #[]) ∧ Wst B w0 w' r wb h ev (acc ++ le 4 h.time) := by
  have hn := wnumber_st st h.time 4 ht (by omega) (by omega)
  obtain ⟨v, s1⟩ := st
  have k7 : w.cell? ⟨wb, 1, none⟩ = some (.int .u32 (h.time : Int)) := (St.boxAt s1 1).1
  clear s1
  go_enter Tryz.func45, Tryz.ntmps45
  go_wp2_with (go_at_call 74; refine hn.mono ?_; rintro e w1 ⟨rfl, s2⟩)
  go_end0
  exact ⟨rfl, s2⟩

set_option maxRecDepth 100000 in
theorem wxfl_st (st : Wst B w0 w r wb h ev acc) (ht : h.xfl < 256) (hl : acc.length ≤ 90000000) :
    Calls Tryz.prog 46 #[.pointer (some ⟨wb, 0, none⟩)] w fun e w' => e = .returned (.tuple #[]) ∧ Wst B w0 w' r wb h ev (acc ++ [h.xfl]) := by
  have hn := wnumber_st st h.xfl 1 (by omega) (by omega) (by omega)
  have hle : le 1 h.xfl = [h.xfl] := by show [h.xfl % 256] = _; rw [Nat.mod_eq_of_lt ht]
  rw [hle] at hn
  obtain ⟨v, s1⟩ := st
  have k7 : w.cell? ⟨wb, 2, none⟩ = some (.int .u8 (h.xfl : Int)) := (St.boxAt s1 2).1
  clear s1
  go_enter Tryz.func46, Tryz.ntmps46
  go_wp2_with (go_at_call 74; refine hn.mono ?_; rintro e w1 ⟨rfl, s2⟩)
  go_end0
  exact ⟨rfl, s2⟩

set_option maxRecDepth 100000 in
theorem wos_st (st : Wst B w0 w r wb h ev acc) (ht : h.os < 256) (hl : acc.length ≤ 90000000) :
    Calls Tryz.prog 47 #[.pointer (some ⟨wb, 0, none⟩)] w fun e w' => e = .returned (.tuple #[]) ∧ Wst B w0 w' r wb h ev (acc ++ [h.os]) := by
  have hn := wnumber_st st h.os 1 (by omega) (by omega) (by omega)
  have hle : le 1 h.os = [h.os] := by show [h.os % 256] = _; rw [Nat.mod_eq_of_lt ht]
  rw [hle] at hn
  obtain ⟨v, s1⟩ := st
  have k7 : w.cell? ⟨wb, 3, none⟩ = some (.int .u8 (h.os : Int)) := (St.boxAt s1 3).1
  clear s1
  go_enter Tryz.func47, Tryz.ntmps47
  go_wp2_with (go_at_call 74; refine hn.mono ?_; rintro e w1 ⟨rfl, s2⟩)
  go_end0
  exact ⟨rfl, s2⟩

set_option maxRecDepth 100000 in
set_option maxHeartbeats 1000000 in
theorem wtext_st (st : Wst B w0 w r wb h ev acc) (t : List Nat) (bit : Nat) (hbit : bit = 2 ∨ bit = 4) (hm : h.has < 8) (ht : ∀ x ∈ t, x < 256) (hl : acc.length + t.length ≤ 90000000) :
    Calls Tryz.prog 75 #[.pointer (some ⟨wb, 0, none⟩), .string (strOf t), .int .u8 (bit : Int)] w fun e w' => e = .returned (.tuple #[]) ∧ Wst B w0 w' r wb h ev (acc ++ (if h.has / bit % 2 = 1 then t ++ [0] else [])) := by
  have hS := st
  obtain ⟨v, s1⟩ := st
  have k7 : w.cell? ⟨wb, 7, none⟩ = some (.int .u8 (h.has : Int)) := (St.boxAt s1 7).1
  have hand := and_bit h.has (by omega)
  have hbits : bits .and .u8 (h.has : Int) (bit : Int) = ((bit * (h.has / bit % 2) : Nat) : Int) := by
    rcases hbit with rfl | rfl
    · exact hand.2.1
    · exact hand.2.2
  clear hand
  by_cases c : h.has / bit % 2 = 1
  · rw [if_pos c]
    rw [c, Nat.mul_one] at hbits
    have hne : ((bit : Int) != 0) = true := by rcases hbit with rfl | rfl <;> rfl
    have hne2 : ¬ (bit : Int) = 0 := by omega
    have s2 := s1.swap
    obtain ⟨a, d, rfl⟩ := ownsRow_slice s2.row
    obtain ⟨k9, f9⟩ := St.boxAt s1 9
    replace k9 : w.cell? ⟨wb, 9, none⟩ = some (.slice a acc.length d) := k9
    have hH := Lib.hid hbit
    clear hbit hS c
    generalize (h.has : Int) = hh at *
    go_enter Tryz.func75, Tryz.ntmps75
    go_wp2_with (at_builtin; refine wpList_append_str rfl _ _ rfl s2 rfl t rfl ht (by omega) ?_)
    intro v' w' s3
    obtain ⟨a', c', rfl⟩ := ownsRow_slice s3.row
    rw [← u8s_append] at s3
    clear s2 s1 k9 f9 k7
    go_wp2_with (at_builtin; refine wpList_append_lit (m := 1) rfl _ _ rfl s3 rfl [.int .u8 0] rfl rfl ?oneCell (by omega) ?_)
    case oneCell => simp [Value.oneCell']
    intro v2 w2 s4
    obtain ⟨a2, c2, rfl⟩ := ownsRow_slice s4.row
    have s5 := s4.swap
    obtain ⟨k8, f8⟩ := St.boxAt s5 9
    replace k8 : w2.cell? ⟨wb, 9, none⟩ = some (.slice a acc.length d) := k8
    have s6 := s5.setBoxAt 9 (.slice a2 (acc.length + t.length + 1) c2)
    clear s3 s4 s5
    go_wp2
    go_end0
    refine ⟨rfl, .slice a2 (acc.length + t.length + 1) c2, ?_⟩
    rw [← List.append_assoc, u8s_append, List.length_append, List.length_append]
    exact s6
  · rw [if_neg c, List.append_nil]
    rw [show h.has / bit % 2 = 0 from by omega, Nat.mul_zero] at hbits
    clear c s1
    generalize (h.has : Int) = hh at *
    go_enter Tryz.func75, Tryz.ntmps75
    go_wp2
    go_end0
    exact ⟨rfl, hS⟩

set_option maxRecDepth 100000 in
theorem wname_st (st : Wst B w0 w r wb h ev acc) (hm : h.has < 8) (ht : ∀ x ∈ h.name, x < 256) (hl : acc.length + h.name.length ≤ 90000000) :
    Calls Tryz.prog 49 #[.pointer (some ⟨wb, 0, none⟩)] w fun e w' => e = .returned (.tuple #[]) ∧ Wst B w0 w' r wb h ev (acc ++ (if h.has / 2 % 2 = 1 then h.name ++ [0] else [])) := by
  have hn := wtext_st st h.name 2 (.inl rfl) hm ht hl
  obtain ⟨A, hA⟩ : ∃ A, acc ++ (if h.has / 2 % 2 = 1 then h.name ++ [0] else []) = A := ⟨_, rfl⟩
  rw [hA] at hn ⊢
  clear hA
  obtain ⟨v, s1⟩ := st
  have k7 : w.cell? ⟨wb, 5, none⟩ = some (.string (strOf h.name)) := (St.boxAt s1 5).1
  clear s1
  go_enter Tryz.func49, Tryz.ntmps49
  go_wp2_with (go_at_call 75; refine hn.mono ?_; rintro e w1 ⟨rfl, s2⟩)
  go_end0
  exact ⟨rfl, s2⟩

set_option maxRecDepth 100000 in
theorem wcomment_st (st : Wst B w0 w r wb h ev acc) (hm : h.has < 8) (ht : ∀ x ∈ h.comment, x < 256) (hl : acc.length + h.comment.length ≤ 90000000) :
    Calls Tryz.prog 50 #[.pointer (some ⟨wb, 0, none⟩)] w fun e w' => e = .returned (.tuple #[]) ∧ Wst B w0 w' r wb h ev (acc ++ (if h.has / 4 % 2 = 1 then h.comment ++ [0] else [])) := by
  have hn := wtext_st st h.comment 4 (.inr rfl) hm ht hl
  obtain ⟨A, hA⟩ : ∃ A, acc ++ (if h.has / 4 % 2 = 1 then h.comment ++ [0] else []) = A := ⟨_, rfl⟩
  rw [hA] at hn ⊢
  clear hA
  obtain ⟨v, s1⟩ := st
  have k7 : w.cell? ⟨wb, 6, none⟩ = some (.string (strOf h.comment)) := (St.boxAt s1 6).1
  clear s1
  go_enter Tryz.func50, Tryz.ntmps50
  go_wp2_with (go_at_call 75; refine hn.mono ?_; rintro e w1 ⟨rfl, s2⟩)
  go_end0
  exact ⟨rfl, s2⟩

set_option maxRecDepth 100000 in
theorem wsum_st (st : Wst B w0 w r wb h ev acc) (hb : ∀ x ∈ acc, x < 256) (hl : acc.length ≤ 90000000) :
    Calls Tryz.prog 51 #[.pointer (some ⟨wb, 0, none⟩)] w fun e w' => e = .returned (.tuple #[]) ∧ Wst B w0 w' r wb h ev (acc ++ (if h.sum then le 2 (lowSum acc) else [])) := by
  have hS := st
  obtain ⟨v, s1⟩ := st
  have k7 : w.cell? ⟨wb, 8, none⟩ = some (.bool h.sum) := (St.boxAt s1 8).1
  obtain ⟨a, d, rfl⟩ := ownsRow_slice s1.swap.row
  have k9 : w.cell? ⟨wb, 9, none⟩ = some (.slice a acc.length d) := (St.boxAt s1 9).1
  have hrow := s1.swap.bytesRow hb
  have hlow := low_st s1 hrow (by omega)
  have hlt : lowSum acc < 4294967296 := (lowReg acc ^^^ ones).isLt
  clear hrow
  cases hs : h.sum with
  | false =>
    rw [hs] at k7
    simp only [Bool.false_eq_true, if_false, List.append_nil]
    clear hlow s1 hs
    go_enter Tryz.func51, Tryz.ntmps51
    go_wp2
    go_end0
    exact ⟨rfl, hS⟩
  | true =>
    rw [hs] at k7
    simp only [if_true]
    clear s1 hs hS
    generalize lowSum acc = S at *
    go_enter Tryz.func51, Tryz.ntmps51
    go_wp2_with (go_at_call 76; refine hlow.mono ?_; rintro e w1 ⟨rfl, s2, -⟩)
    have hn := wnumber_st ⟨_, s2⟩ S 2 hlt (by omega) (by omega)
    clear s2 hlow
    go_wp2_with (go_at_call 74; refine hn.mono ?_; rintro e w3 ⟨rfl, s3⟩)
    go_end0
    exact ⟨rfl, s3⟩

set_option maxRecDepth 100000 in
set_option maxHeartbeats 1000000 in
theorem wextra_st (st : Wst B w0 w r wb h ev acc) (hev : ∀ W, St B w0 W r → ByteRow W ev h.extra) (hm : h.has < 8) (he : h.extra.length ≤ 65535) (hl : acc.length ≤ 80000000) :
    Calls Tryz.prog 48 #[.pointer (some ⟨wb, 0, none⟩)] w fun e w' => e = .returned (.tuple #[]) ∧ Wst B w0 w' r wb h ev (acc ++ (if h.has % 2 = 1 then le 2 h.extra.length ++ h.extra else [])) := by
  have hn := wnumber_st st h.extra.length 2 (by omega) (by omega) (by omega)
  have hS := st
  obtain ⟨v, s1⟩ := st
  have k7 : w.cell? ⟨wb, 7, none⟩ = some (.int .u8 (h.has : Int)) := (St.boxAt s1 7).1
  have k4 : w.cell? ⟨wb, 4, none⟩ = some ev := (St.boxAt s1 4).1
  have hand := (and_bit h.has (by omega)).1
  obtain ⟨ea, ec, hev2, _⟩ := hev w s1.drop.drop
  by_cases c : h.has % 2 = 1
  · rw [if_pos c]
    rw [c] at hand
    have hEV := Lib.hid hev
    rw [hev2] at k4
    clear c s1 hev hS
    generalize (h.has : Int) = hh at *
    go_enter Tryz.func48, Tryz.ntmps48
    go_wp2_with (go_at_call 74; refine hn.mono ?_; rintro e w1 ⟨rfl, v1, s2⟩)
    have s3 := s2.swap
    obtain ⟨a, d, rfl⟩ := ownsRow_slice s3.row
    have hrow := hEV.out w1 s2.drop.drop
    rw [hev2] at hrow
    obtain ⟨k9, f9⟩ := St.boxAt s2 9
    replace k9 : w1.cell? ⟨wb, 9, none⟩ = some (.slice a (acc ++ le 2 h.extra.length).length d) := k9
    have k5 : w1.cell? ⟨wb, 4, none⟩ = some (.slice ea h.extra.length ec) := by rw [← hev2]; exact (St.boxAt s2 4).1
    have hlen : (acc ++ le 2 h.extra.length).length = acc.length + 2 := by rw [List.length_append, le_length]
    have HL := Lib.hid hlen
    obtain ⟨A, hA2⟩ : ∃ A, acc ++ le 2 h.extra.length = A := ⟨_, rfl⟩
    rw [hA2] at s2 s3 k9 HL
    clear hlen hn k4 k7 hand
    obtain ⟨m, hm2⟩ : ∃ m, A.length = m := ⟨_, rfl⟩
    rw [hm2] at s3 s2 k9 HL
    have hm3 : m ≤ 80000002 := by have := HL.out; omega
    have s4 := s3.drew
    have hrow2 := hrow.below (Below.refl _ _).drew (Nat.le_refl _)
    have k9d : w1.drew.cell? ⟨wb, 9, none⟩ = some (.slice a m d) := k9
    have k5d : w1.drew.cell? ⟨wb, 4, none⟩ = some (.slice ea h.extra.length ec) := k5
    clear s2 s3 k9 k5 hrow f9
    go_wp2_with fail
    refine region_seg (by kernel_rfl) [0, 1, 5] 11 rfl (by kernel_rfl) (by kernel_rfl) (fun _ _ d _ _ h => by cases d <;> exact h) ?_
    generalize w1.drew = wd at *
    intro K hK
    simp only [pickL, List.getElem?_cons_zero, List.getElem?_cons_succ]
    go_wp2_with fail
    refine wpAny_take (i := 2) (v := .pointer (some ⟨wb, 0, none⟩)) rfl (by kernel_rfl) (by kernel_rfl) (by kernel_rfl) (fun _ _ _ h => h) (.inl ⟨rfl, fun w => by go_simp⟩) ?_
    refine wpAny_take (i := 3) (v := .pointer (some ⟨wb, 9, none⟩)) rfl (by kernel_rfl) (by kernel_rfl) (by kernel_rfl) (fun _ _ _ h => h) (.inl ⟨rfl, fun w => by go_simp⟩) ?_
    refine wpAny_take (i := 6) (v := .pointer (some ⟨wb, 0, none⟩)) rfl (by kernel_rfl) (by kernel_rfl) (by kernel_rfl) (fun _ _ _ h => h) (.inl ⟨rfl, fun w => by go_simp⟩) ?_
    refine wpAny_take (i := 7) (v := .pointer (some ⟨wb, 0, none⟩)) rfl (by kernel_rfl) (by kernel_rfl) (by kernel_rfl) (fun _ _ _ h => h) (.inl ⟨rfl, fun w => by go_simp⟩) ?_
    refine wpAny_take (i := 8) (v := .pointer (some ⟨wb, 4, none⟩)) rfl (by kernel_rfl) (by kernel_rfl) (by kernel_rfl) (fun _ _ _ h => h) (.inl ⟨rfl, fun w => by go_simp⟩) ?_
    refine mid_two 4 9 [9, 10, 11, 12, 13] [4, 10, 11, 12, 13] 0 _ _ (by kernel_rfl) rfl rfl rfl (by kernel_rfl) (by kernel_rfl) (by kernel_rfl) (by kernel_rfl) (fun _ _ d _ _ h => by cases d <;> exact h) ?_ ?_
    all_goals
      intro K hK
      simp only [pickL, List.getElem?_cons_zero, List.getElem?_cons_succ]
      go_wp2_with (at_builtin; refine wpList_append_bytes rfl _ _ rfl s4 hrow2 rfl rfl (by omega) ?_)
      intro v' w' s5 _ _
      obtain ⟨a', c', rfl⟩ := ownsRow_slice s5.row
      have s6 := s5.swap
      obtain ⟨k8, f8⟩ := St.boxAt s6 9
      replace k8 : w'.cell? ⟨wb, 9, none⟩ = some (.slice a m d) := k8
      have s7 := s6.setBoxAt 9 (.slice a' (m + h.extra.length) c')
      clear s4 s5 s6 hrow2 k9d k5d
      go_wp2
      refine wpAny_done (by kernel_rfl) ?_ 0
      go_wp2
      go_end0
      refine ⟨rfl, .slice a' (m + h.extra.length) c', ?_⟩
      rw [← hev2] at s7
      rw [← List.append_assoc, hA2, u8s_append, List.length_append, hm2]
      exact s7
  · rw [if_neg c, List.append_nil]
    rw [show h.has % 2 = 0 from by omega] at hand
    clear c s1 hn k4 hev hev2
    generalize (h.has : Int) = hh at *
    go_enter Tryz.func48, Tryz.ntmps48
    go_wp2
    go_end0
    exact ⟨rfl, hS⟩

end
end Go.Proofs.YtmcjbkfiipmgeaaGreat.Fr

/-
  Contracts of package frame: whether a text may be. No conditions but that rows are small.
-/
namespace Go.Proofs.YtmcjbkfiipmgeaaGreat.Fr
open Go.RowKit Crc

theorem has_any (w : World) (pb x bit : Nat) (hx : x < 256) (hbit : bit = 1 ∨ bit = 2 ∨ bit = 4) (c7 : w.cell? ⟨pb, 7, none⟩ = some (.int .u8 (x : Int))) :
    Calls Tryz.prog 72 #[.int .u8 (bit : Int), .pointer (some ⟨pb, 0, none⟩)] w fun e w' => e = .returned (.bool (decide (x / bit % 2 = 1))) ∧ w' = w := by
  have hand := and_bit x hx
  have hb : bits .and .u8 (x : Int) (bit : Int) = ((bit * (x / bit % 2) : Nat) : Int) := by
    rcases hbit with rfl | rfl | rfl
    · simpa using hand.1
    · exact hand.2.1
    · exact hand.2.2
  clear hand
  have h01 : x / bit % 2 = 0 ∨ x / bit % 2 = 1 := by omega
  generalize x / bit % 2 = y at *
  generalize (x : Int) = z at *
  go_enter Tryz.func72, Tryz.ntmps72
  rcases h01 with rfl | rfl
  · rw [Nat.mul_zero] at hb
    go_wp2
    go_ret
    exact ⟨rfl, rfl⟩
  · rw [Nat.mul_one] at hb
    have h0 : ¬ (bit : Int) = 0 := by omega
    go_wp2
    go_ret
    refine ⟨?_, rfl⟩
    simp
    omega

def textOk (t : List Nat) (b : Bool) : Bool := decide (0 ∉ t) && (b || decide (t = []))

theorem strOf_nil (t : List Nat) : (strOf t).toList = (⟨#[]⟩ : ByteArray).toList ↔ t = [] := by
  rw [str_list]
  constructor
  · intro h
    have := congrArg ByteArray.size h
    rw [strOf_size] at this
    exact List.eq_nil_of_length_eq_zero this
  · rintro rfl; rfl

set_option maxRecDepth 100000 in
theorem mayText_any (w : World) (t : List Nat) (b : Bool) (hb : ∀ x ∈ t, x < 256) :
    Calls Tryz.prog 73 #[.string (strOf t), .bool b] w fun e w' => e = .returned (.bool (textOk t b)) ∧ w' = w := by
  have hi := indexS_any w t hb
  have hz := zeroI_neg t
  have hn := strOf_nil t
  unfold textOk
  rw [← hz]
  generalize zeroI t = z at *
  generalize strOf t = s at *
  rw [show decide (t = []) = decide (s.toList = (⟨#[]⟩ : ByteArray).toList) from decide_eq_decide.2 hn.symm]
  clear hn hz hb
  go_enter Tryz.func73, Tryz.ntmps73
  go_wp2_with (go_at_call 99; refine hi.mono ?_; rintro e w1 ⟨rfl, rfl⟩)
  all_goals go_ret
  all_goals simp_all
  all_goals first | omega | (intro hz; omega) | (cases s.toList <;> simp)

end Go.Proofs.YtmcjbkfiipmgeaaGreat.Fr
