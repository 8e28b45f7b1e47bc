/-
  FrA FrB FrC FrD, one behind the other (merged by wip/merge.py). No conditions but those that each states.
-/
import Derived.Test.YtpinfihmageeoaaGreatGX
import Derived.Test.YtpinfihmageeoaaGreatGC
import Derived.Test.YtpinfihmageeoaaGreatGA
import Derived.Test.YtpinfihmageeoaaGreatGA
import Derived.Test.YtpinfihmageeoaaGreatGA
import Derived.Lib.BytesEntry
import Derived.Deep.Fields
import Derived.Test.YtpinfihmageeoaaGreatGZ
import Derived.Lib.AppendStr
import Derived.StillTailTactics

namespace Go.Proofs.YtpinfihmageeoaaGreat
open Go.RowKit

namespace Fr
open Go.ChangeShapes Go.WideShapes Go.Deep

abbrev headC (h : Gz) (ev : Value) : Array Value := #[.bool h.text, .int .u32 (h.time : Int), .int .u8 (h.xfl : Int), .int .u8 (h.os : Int), ev, .string (strOf h.name), .string (strOf h.comment), .int .u8 (h.has : Int), .bool h.sum]

theorem strOf_size (a : List Nat) : (strOf a).size = a.length := by
  show (strOf a).data.size = _
  rw [strOf_data]
  simp

theorem strOf_list (a : List Nat) : (strOf a).data.toList = a.map UInt8.ofNat := by rw [strOf_data]

theorem strOf_app (a b : List Nat) : strOf a ++ strOf b = strOf (a ++ b) := by
  apply ByteArray.ext
  rw [ByteArray.data_append, strOf_data, strOf_data, strOf_data, List.map_append]
  simp

theorem strOf_eq {xs ys : List Nat} (hx : ∀ x ∈ xs, x < 256) (hy : ∀ y ∈ ys, y < 256) : strOf xs = strOf ys ↔ xs = ys := by
  constructor
  · intro h
    have h1 := congrArg ByteArray.data h
    simp only [strOf_data] at h1
    have h2 : xs.map UInt8.ofNat = ys.map UInt8.ofNat := by simpa using congrArg Array.toList h1
    have key : ∀ (l : List Nat), (∀ x ∈ l, x < 256) → (l.map UInt8.ofNat).map UInt8.toNat = l := by
      intro l hl
      induction l with
      | nil => rfl
      | cons x l ih =>
        simp only [List.map_cons]
        rw [ih (fun y hy => hl y (List.mem_cons_of_mem _ hy))]
        congr 1
        have := hl x List.mem_cons_self
        simp
        omega
    rw [← key xs hx, ← key ys hy, h2]
  · rintro rfl; rfl

theorem str_list (s t : ByteArray) : s.toList = t.toList ↔ s = t := by
  rw [ByteArray.toList_eq, ByteArray.toList_eq]
  constructor
  · intro h
    cases s; cases t
    simp only at h
    rw [Array.toList_inj.1 h]
  · rintro rfl; rfl

theorem str_bytes (s : ByteArray) : ∃ xs : List Nat, s = strOf xs ∧ ∀ x ∈ xs, x < 256 := by
  refine ⟨s.data.toList.map UInt8.toNat, ?_, ?_⟩
  · apply ByteArray.ext
    rw [strOf_data, List.map_map]
    have : UInt8.ofNat ∘ UInt8.toNat = id := by funext x; simp
    rw [this]
    simp
  · intro x hx
    obtain ⟨y, _, rfl⟩ := List.mem_map.1 hx
    exact y.toNat_lt

def zeroI (xs : List Nat) : Int := match zeroAt xs with | some z => (z : Int) | none => -1

theorem zeroI_neg (xs : List Nat) : decide (zeroI xs < 0) = decide (0 ∉ xs) := by
  rw [decide_eq_decide]
  unfold zeroI
  cases h : zeroAt xs with
  | none => exact ⟨fun _ => zeroAt_none h, fun _ => by decide⟩
  | some z =>
    obtain ⟨_, g2, _⟩ := zeroAt_some h
    refine ⟨fun h1 => absurd h1 (by simp only; omega), fun h1 => absurd (List.mem_of_getElem? g2) h1⟩

theorem ofNat_zero {x : Nat} (h : x < 256) : (UInt8.ofNat x == 0) = decide (x = 0) := by
  rw [Bool.eq_iff_iff, beq_iff_eq, decide_eq_true_eq]
  constructor
  · intro h1
    have := congrArg UInt8.toNat h1
    simp at this
    omega
  · rintro rfl; rfl

theorem indexByte_zero (xs : List Nat) (hb : ∀ x ∈ xs, x < 256) : Lib.indexByte (xs.map UInt8.ofNat) 0 = zeroI xs := by
  induction xs with
  | nil => rfl
  | cons x l ih =>
    have ih := ih (fun y hy => hb y (List.mem_cons_of_mem _ hy))
    have hx := hb x List.mem_cons_self
    rw [List.map_cons, Lib.indexByte, ofNat_zero hx, ih]
    unfold zeroI
    rw [zeroAt]
    by_cases c : x = 0
    · simp [c]
    · simp only [c, decide_false, Bool.false_eq_true, if_false]
      cases h : zeroAt l with
      | none => simp
      | some z =>
        simp only [Option.map_some]
        rw [if_neg (by rw [beq_iff_eq]; omega)]
        omega

theorem bytesOf_cast (xs : List Nat) : Lib.bytesOf (xs.map fun (x : Nat) => (x : Int)) = xs.map UInt8.ofNat := by
  unfold Lib.bytesOf
  rw [List.map_map]
  apply List.map_congr_left
  intro x _
  simp

set_option maxRecDepth 100000 in
theorem index_any (w : World) (v : Value) (xs : List Nat) (h : ByteRow w v xs) :
    Calls Tryz.prog 143 #[v, .int .u8 0] w fun e w' => e = .returned (.int .i64 (zeroI xs)) ∧ w = w' := by
  have hb := h.byte
  obtain ⟨a, cap, rfl, hc, hn, hat⟩ := h
  go_enter Tryz.func143, Tryz.ntmps143
  cases a with
  | none =>
    have h0 : xs = [] := List.eq_nil_of_length_eq_zero (by have := hn rfl; omega)
    subst h0
    go_wp2
    rw [run_callFunc_extern Tryz.func163 (by kernel_rfl) (by kernel_rfl) (by kernel_rfl) (e := Extern.BytealgIndexByte.indexByte) (by kernel_rfl), Lib.run_indexByteNil w _ _ 0]
    simp only [Result.andThen]
    rw [Oper.upon_value]
    go_wp2
    go_ret
    exact ⟨rfl, rfl⟩
  | some ad =>
    have hplace : ∃ b off, ∀ i, i < xs.length → some ad = some ⟨b, off, none⟩ ∧ w.cell? ⟨b, off + i, none⟩ = some (.int .u8 ((xs.map fun (x : Nat) => (x : Int)).getD i 0)) := by
      by_cases h0 : 0 < xs.length
      · obtain ⟨_, b, off, e, _⟩ := hat 0 h0
        refine ⟨b, off, fun i hi => ?_⟩
        obtain ⟨_, b2, off2, e2, c2⟩ := hat i hi
        rw [e] at e2
        obtain ⟨rfl, rfl⟩ : b = b2 ∧ off = off2 := by simpa using e2
        refine ⟨e, ?_⟩
        rw [c2, List.getD_eq_getElem?_getD, List.getElem?_map, List.getElem?_eq_getElem hi]
        rfl
      · exact ⟨0, 0, fun i hi => absurd hi (by omega)⟩
    obtain ⟨b, off, hp⟩ := hplace
    clear hat
    go_wp2
    rw [run_callFunc_extern Tryz.func163 (by kernel_rfl) (by kernel_rfl) (by kernel_rfl) (e := Extern.BytealgIndexByte.indexByte) (by kernel_rfl)]
    have hz := indexByte_zero xs hb
    rw [← bytesOf_cast] at hz
    by_cases h0 : 0 < xs.length
    · obtain ⟨e, _⟩ := hp 0 h0
      obtain rfl := Option.some.inj e
      have hrun := Lib.run_indexByteSlice (P := Tryz.prog) w b off xs.length cap (xs.map fun (x : Nat) => (x : Int)) (by rw [List.length_map]) (fun i hi => (hp i hi).2) 0
      rw [show (0 : Int).toNat.toUInt8 = 0 from rfl, hz] at hrun
      rw [hrun]
      simp only [Result.andThen]
      rw [Oper.upon_value]
      go_wp2
      go_ret
      exact ⟨rfl, rfl⟩
    · have h0 : xs = [] := List.eq_nil_of_length_eq_zero (by omega)
      subst h0
      have hrun := Lib.run_indexByteSlice (P := Tryz.prog) w ad.block ad.off 0 cap [] rfl (fun i hi => absurd hi (by omega)) 0
      have hs : ∀ c cv, (Extern.BytealgIndexByte.indexByte #[.slice (some ad) 0 c, .int .u8 cv]).run Tryz.prog w = (Extern.BytealgIndexByte.indexByte #[.slice (some ⟨ad.block, ad.off, none⟩) 0 c, .int .u8 cv]).run Tryz.prog w := fun _ _ => rfl
      rw [List.length_nil, hs, hrun]
      simp only [Result.andThen]
      rw [Oper.upon_value]
      go_wp2
      go_ret
      exact ⟨rfl, rfl⟩

end Fr
end Go.Proofs.YtpinfihmageeoaaGreat

namespace Go.Proofs.YtpinfihmageeoaaGreat.Fr
open Go.RowKit Crc

theorem strCells_strOf (xs : List Nat) (hb : ∀ x ∈ xs, x < 256) : Lib.strCells (strOf xs) = u8s xs := by
  unfold Lib.strCells u8s
  rw [strOf_list, List.map_map]
  apply List.map_congr_left
  intro x hx
  have := hb x hx
  simp only [Function.comp, UInt8.toNat_ofNat']
  congr 1
  omega

theorem run_append_str (w : World) (ty : TypeId) (v : Value) (n : Nat) (ys : List Value) (hown : w.ownsRow 0 5 1 v n ys) (xs : List Nat) (hb : ∀ x ∈ xs, x < 256) (hl : n + xs.length ≤ 140737488355328) :
    ∃ v' w', (Builtin.append_ #[26, 9] ty #[v, .string (strOf xs)]).run Tryz.prog w = .ok v' w' ∧ w'.ownsRow 0 5 1 v' (n + xs.length) (ys ++ u8s xs) ∧ w.grownBy w' v.ownBlock ∧ Fresh w v v' := by
  obtain ⟨i0, hi, hz0, hz1, hz2⟩ := info_parts info8
  have hsz := strOf_size xs
  have hsc := strCells_strOf xs hb
  rcases hown.2 with ⟨rfl, rfl⟩ | ⟨g, cap, cur, rfl, hbg, hg, hnc, hcm, hcs, htake⟩
  · obtain rfl : ys = [] := List.eq_nil_of_length_eq_zero (by simpa using hown.1)
    obtain ⟨v', w', hr, h2, h3, _⟩ := Lib.run_append_own_string (P := Tryz.prog) w w.heap.size 26 9 ty 5 i0 Tryz.underlying26 Tryz.underlying9 hi hz0 hz1 hz2 (.slice none 0 0) 0 [] (World.ownsRow_nil w _ _ _) (strOf xs) (by unfold maxLen; omega) (by omega) (Nat.le_refl _)
    rw [hsz, hsc] at h2
    exact ⟨v', w', hr, ownsRow_base h2, h3, .inr fun g hg => (h2.lt g hg).1⟩
  · obtain ⟨v', w', hr, h2, h3, _⟩ := Lib.run_append_own_string (P := Tryz.prog) w 0 26 9 ty 5 i0 Tryz.underlying26 Tryz.underlying9 hi hz0 hz1 hz2 (.slice (some ⟨g, 0, none⟩) n cap) n ys hown (strOf xs) (by unfold maxLen; omega) (by omega) (Nat.zero_le _)
    rw [hsz, hsc] at h2
    refine ⟨v', w', hr, h2, h3, ?_⟩
    by_cases hroom : n + (strOf xs).size ≤ cap
    · have hr2 := Lib.run_append_room_string (P := Tryz.prog) w 26 9 ty 5 i0 Tryz.underlying26 Tryz.underlying9 hi hz1 g n cap cur hg (strOf xs) hroom (by rw [Nat.mul_one] at hcs; omega)
      rw [hr2] at hr
      obtain ⟨rfl, _⟩ := Result.ok.inj hr
      exact .inl rfl
    · have hr2 := Lib.run_append_grow_string (P := Tryz.prog) w 26 9 ty 5 i0 (.int .u8 0) Tryz.underlying26 Tryz.underlying9 hi hz0 ⟨g, 0, none⟩ n cap ys (by rw [hz1]; simpa using hown.1) (hown.cells (g := g) rfl) (strOf xs) (by omega) (by omega) (by rw [hz2]; exact growslice_fits (by omega) (by omega))
      rw [hr2] at hr
      obtain ⟨rfl, _⟩ := Result.ok.inj hr
      exact .inr fun g' hg' => by simp [Value.ownBlock] at hg'; omega

theorem wpList_append_str {ops : Array Oper} {rest : List Oper} {o : Oper} {a : Act} {Q : Exit → Act → World → Prop} (hw : Region.wanted o (yielded ops a.tmps) = true) (s x : Operand)
    (ho : o.op = .call { callee := .builtin .append, args := #[s, x], argTypes := #[26, 9] })
    {B : Nat} {w0 w2 : World} {v : Value} {n : Nat} {ys : List Value} {r : List Thing} (st : St B w0 w2 (rowT 5 1 v n ys :: r)) (hs : a.eval s = v)
    (xs : List Nat) (hx : a.eval x = .string (strOf xs)) (hb : ∀ x ∈ xs, x < 256) (hl : n + xs.length ≤ 140737488355328)
    (h : ∀ v' w', St B w0 w' (rowT 5 1 v' (n + xs.length) (ys ++ u8s xs) :: r) → wpList Tryz.prog ops Q rest (a.put o.dst v') w') : wpList Tryz.prog ops Q (o :: rest) a w2 := by
  refine BigFrame.wpList_want hw fun K hK => ?_
  obtain ⟨v', w', hr, h2, h3, h4⟩ := run_append_str w2 o.type v n ys st.row xs hb hl
  unfold Oper.wp execOp
  simp only [ho, resolve, invoke, builtin, Sem.run_bind, Sem.run_pure, Result.andThen_ok, List.map_toArray, List.map_cons, List.map_nil, hs, hx, hr]
  exact hK _ _ (h v' w' (st.grown h2 h3 h4))

abbrev wrtC (h : Gz) (ev v : Value) : Array Value := #[.bool h.text, .int .u32 (h.time : Int), .int .u8 (h.xfl : Int), .int .u8 (h.os : Int), ev, .string (strOf h.name), .string (strOf h.comment), .int .u8 (h.has : Int), .bool h.sum, v]

section
variable {B : Nat} {w0 w : World} {r : List Thing} {wb : Nat} {h : Gz} {ev : Value} {acc : List Nat}

def Wst (B : Nat) (w0 w : World) (r : List Thing) (wb : Nat) (h : Gz) (ev : Value) (acc : List Nat) : Prop :=
  ∃ v, St B w0 w (boxT wb (wrtC h ev v) 175 :: rowT 5 1 v acc.length (u8s acc) :: r)

set_option maxRecDepth 100000 in
set_option maxHeartbeats 1000000 in
theorem wnumber_st (st : Wst B w0 w r wb h ev acc) (x n : Nat) (hx : x < 4294967296) (hn : n ≤ 4) (hl : acc.length ≤ 100000000) :
    Calls Tryz.prog 127 #[.pointer (some ⟨wb, 0, none⟩), .int .u32 (x : Int), .int .i64 (n : Int)] w fun e w' => e = .returned (.tuple #[]) ∧ Wst B w0 w' r wb h ev (acc ++ le n x) := by
  obtain ⟨A, hA⟩ : ∃ A, acc ++ le n x = A := ⟨_, rfl⟩
  have HA := Lib.hid hA
  rw [hA]
  clear hA
  go_enter Tryz.func127, Tryz.ntmps127
  go_wp2
  go_loopw [1, 7] (fun y i wr => ∃ (k z : Nat) (L : List Nat), k ≤ n ∧ i = .int .i64 (k : Int) ∧ y = .int .u32 (z : Int) ∧ z < 4294967296 ∧ Hid (L ++ le (n - k) z = A) ∧ L.length ≤ acc.length + k ∧ Wst B w0 wr r wb h ev L) (fun _ i _ => n - (intOf i).toNat)
  case atStart => exact ⟨0, x, acc, Nat.zero_le _, rfl, rfl, hx, HA, Nat.le_refl _, st⟩
  case round =>
    clear st HA
    obtain ⟨k, z, L, hk, rfl, rfl, hz, HL, hll, v, s1⟩ := hrel
    by_cases hlt : k < n
    · have e1 : L ++ [z % 256] ++ le (n - (k + 1)) (z / 256) = A := by
        rw [← HL.out, show n - k = (n - (k + 1)) + 1 from by omega, le, List.append_assoc]
        rfl
      have HN := Lib.hid e1
      clear e1 HL
      have s2 := s1.swap
      obtain ⟨a, c, rfl⟩ := ownsRow_slice s2.row
      have c9 : w0 = w0 := rfl
      obtain ⟨k9, f9⟩ := St.boxAt s1 9
      replace k9 : wr.cell? ⟨wb, 9, none⟩ = some (.slice a L.length c) := k9
      have hb9 : wb < wr.heap.size := lt_of_block s1.box
      clear c9
      go_wp2_with (at_builtin; refine wpList_append_lit (m := 1) rfl _ _ rfl s2 rfl [.int .u8 (((z : Int)) % 256)] rfl rfl ?oneCell (by omega) ?_)
      case oneCell => simp [Value.oneCell']
      intro v' w' s3
      obtain ⟨a', c', rfl⟩ := ownsRow_slice s3.row
      have s4 := s3.swap
      obtain ⟨k8, f8⟩ := St.boxAt s4 9
      replace k8 : w'.cell? ⟨wb, 9, none⟩ = some (.slice a L.length c) := k8
      have s5 := s4.setBoxAt 9 (.slice a' (L.length + 1) c')
      clear s3 s4 s2 s1 k9 f9
      go_wp2
      refine ⟨⟨k + 1, z / 256, L ++ [z % 256], by omega, by go_num, by simp, by omega, HN, by rw [List.length_append, List.length_singleton]; omega, .slice a' (L.length + 1) c', ?_⟩, by simp [intOf]; omega⟩
      rw [u8s_append, List.length_append, List.length_singleton]
      exact s5
    · obtain rfl : k = n := by omega
      rw [Nat.sub_self, le, List.append_nil] at HL
      obtain rfl := HL.out
      go_wp2
      go_end0
      exact ⟨rfl, v, s1⟩

end
end Go.Proofs.YtpinfihmageeoaaGreat.Fr

namespace Go.Proofs.YtpinfihmageeoaaGreat.Fr
open Go.RowKit Crc

section
variable {B : Nat} {w0 w : World} {r : List Thing} {wb : Nat} {h : Gz} {ev : Value} {acc : List Nat}

theorem byte_or (x : Nat) (hx : x < 64) (a b : Bool) : x * 4 + a.toNat + 2 * b.toNat < 256 := by
  have := bool_le a
  have := bool_le b
  omega

theorem or_one (x : Nat) (hx : x < 256) (h4 : x % 2 = 0) : bits .or .u8 (x : Int) 1 = ((x + 1 : Nat) : Int) := by
  have : ∀ x : Nat, x < 256 → x % 2 = 0 → bits .or .u8 (x : Int) 1 = ((x + 1 : Nat) : Int) := by decide +kernel
  exact this x hx h4

theorem or_two (x : Nat) (hx : x < 256) (h4 : x % 4 < 2) : bits .or .u8 (x : Int) 2 = ((x + 2 : Nat) : Int) := by
  have : ∀ x : Nat, x < 256 → x % 4 < 2 → bits .or .u8 (x : Int) 2 = ((x + 2 : Nat) : Int) := by decide +kernel
  exact this x hx h4

theorem and_bit (x : Nat) (hx : x < 256) : bits .and .u8 (x : Int) 1 = ((x % 2 : Nat) : Int) ∧ bits .and .u8 (x : Int) 2 = ((2 * (x / 2 % 2) : Nat) : Int) ∧ bits .and .u8 (x : Int) 4 = ((4 * (x / 4 % 2) : Nat) : Int) := by
  have : ∀ x : Nat, x < 256 → bits .and .u8 (x : Int) 1 = ((x % 2 : Nat) : Int) ∧ bits .and .u8 (x : Int) 2 = ((2 * (x / 2 % 2) : Nat) : Int) ∧ bits .and .u8 (x : Int) 4 = ((4 * (x / 4 % 2) : Nat) : Int) := by decide +kernel
  exact this x hx

end
end Go.Proofs.YtpinfihmageeoaaGreat.Fr

namespace Go.Proofs.YtpinfihmageeoaaGreat.Fr
open Go.RowKit Crc

def textOk (t : List Nat) (b : Bool) : Bool := decide (0 ∉ t) && (b || decide (t = []))

theorem strOf_nil (t : List Nat) : (strOf t).toList = (⟨#[]⟩ : ByteArray).toList ↔ t = [] := by
  rw [str_list]
  constructor
  · intro h
    have := congrArg ByteArray.size h
    rw [strOf_size] at this
    exact List.eq_nil_of_length_eq_zero this
  · rintro rfl; rfl

end Go.Proofs.YtpinfihmageeoaaGreat.Fr
