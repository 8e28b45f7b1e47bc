/-
  Contracts of package frame: the writer's fields. No conditions but that rows are small.
-/
import Derived.Test.YtiggbioaaglgaaaFrA
import Derived.Test.YtiggbioaaglgaaaCrcL
import Derived.Lib.AppendStr
namespace Go.Proofs.Ytiggbioaaglgaaa.Fr
open Go.RowKit Crc

theorem strCells_strOf (xs : List Nat) (hb : ∀ x ∈ xs, x < 256) : Lib.strCells (strOf xs) = u8s xs := by
  unfold Lib.strCells u8s
  rw [strOf_list, List.map_map]
  apply List.map_congr_left
  intro x hx
  have := hb x hx
  simp only [Function.comp, UInt8.toNat_ofNat']
  congr 1
  omega

/-- An append of a text to a slice of the call's own. -/
theorem run_append_str (w : World) (ty : TypeId) (v : Value) (n : Nat) (ys : List Value) (hown : w.ownsRow 0 5 1 v n ys) (xs : List Nat) (hb : ∀ x ∈ xs, x < 256) (hl : n + xs.length ≤ 140737488355328) :
    ∃ v' w', (Builtin.append_ #[23, 9] ty #[v, .string (strOf xs)]).run Try.prog w = .ok v' w' ∧ w'.ownsRow 0 5 1 v' (n + xs.length) (ys ++ u8s xs) ∧ w.grownBy w' v.ownBlock ∧ Fresh w v v' := by
  obtain ⟨i0, hi, hz0, hz1, hz2⟩ := info_parts info8
  have hsz := strOf_size xs
  have hsc := strCells_strOf xs hb
  rcases hown.2 with ⟨rfl, rfl⟩ | ⟨g, cap, cur, rfl, hbg, hg, hnc, hcm, hcs, htake⟩
  · obtain rfl : ys = [] := List.eq_nil_of_length_eq_zero (by simpa using hown.1)
    obtain ⟨v', w', hr, h2, h3, _⟩ := Lib.run_append_own_string (P := Try.prog) w w.heap.size 23 9 ty 5 i0 Try.underlying23 Try.underlying9 hi hz0 hz1 hz2 (.slice none 0 0) 0 [] (World.ownsRow_nil w _ _ _) (strOf xs) (by unfold maxLen; omega) (by omega) (Nat.le_refl _)
    rw [hsz, hsc] at h2
    exact ⟨v', w', hr, ownsRow_base h2, h3, .inr fun g hg => (h2.lt g hg).1⟩
  · obtain ⟨v', w', hr, h2, h3, _⟩ := Lib.run_append_own_string (P := Try.prog) w 0 23 9 ty 5 i0 Try.underlying23 Try.underlying9 hi hz0 hz1 hz2 (.slice (some ⟨g, 0, none⟩) n cap) n ys hown (strOf xs) (by unfold maxLen; omega) (by omega) (Nat.zero_le _)
    rw [hsz, hsc] at h2
    refine ⟨v', w', hr, h2, h3, ?_⟩
    by_cases hroom : n + (strOf xs).size ≤ cap
    · have hr2 := Lib.run_append_room_string (P := Try.prog) w 23 9 ty 5 i0 Try.underlying23 Try.underlying9 hi hz1 g n cap cur hg (strOf xs) hroom (by rw [Nat.mul_one] at hcs; omega)
      rw [hr2] at hr
      obtain ⟨rfl, _⟩ := Result.ok.inj hr
      exact .inl rfl
    · have hr2 := Lib.run_append_grow_string (P := Try.prog) w 23 9 ty 5 i0 (.int .u8 0) Try.underlying23 Try.underlying9 hi hz0 ⟨g, 0, none⟩ n cap ys (by rw [hz1]; simpa using hown.1) (hown.cells (g := g) rfl) (strOf xs) (by omega) (by omega) (by rw [hz2]; exact growslice_fits (by omega) (by omega))
      rw [hr2] at hr
      obtain ⟨rfl, _⟩ := Result.ok.inj hr
      exact .inr fun g' hg' => by simp [Value.ownBlock] at hg'; omega

theorem wpList_append_str {ops : Array Oper} {rest : List Oper} {o : Oper} {a : Act} {Q : Exit → Act → World → Prop} (hw : Region.wanted o (yielded ops a.tmps) = true) (s x : Operand)
    (ho : o.op = .call { callee := .builtin .append, args := #[s, x], argTypes := #[23, 9] })
    {B : Nat} {w0 w2 : World} {v : Value} {n : Nat} {ys : List Value} {r : List Thing} (st : St B w0 w2 (rowT 5 1 v n ys :: r)) (hs : a.eval s = v)
    (xs : List Nat) (hx : a.eval x = .string (strOf xs)) (hb : ∀ x ∈ xs, x < 256) (hl : n + xs.length ≤ 140737488355328)
    (h : ∀ v' w', St B w0 w' (rowT 5 1 v' (n + xs.length) (ys ++ u8s xs) :: r) → wpList Try.prog ops Q rest (a.put o.dst v') w') : wpList Try.prog ops Q (o :: rest) a w2 := by
  refine BigFrame.wpList_want hw fun K hK => ?_
  obtain ⟨v', w', hr, h2, h3, h4⟩ := run_append_str w2 o.type v n ys st.row xs hb hl
  unfold Oper.wp execOp
  simp only [ho, resolve, invoke, builtin, Sem.run_bind, Sem.run_pure, Result.andThen_ok, List.map_toArray, List.map_cons, List.map_nil, hs, hx, hr]
  exact hK _ _ (h v' w' (st.grown h2 h3 h4))

/-- A writer's cells. -/
abbrev wrtC (h : Gz) (ev v : Value) : Array Value := #[.bool h.text, .int .u32 (h.time : Int), .int .u8 (h.xfl : Int), .int .u8 (h.os : Int), ev, .string (strOf h.name), .string (strOf h.comment), .int .u8 (h.has : Int), .bool h.sum, v]

section
variable {B : Nat} {w0 w : World} {r : List Thing} {wb : Nat} {h : Gz} {ev : Value} {acc : List Nat}

/-- A writer that has laid these bytes. -/
def Wst (B : Nat) (w0 w : World) (r : List Thing) (wb : Nat) (h : Gz) (ev : Value) (acc : List Nat) : Prop :=
  ∃ v, St B w0 w (boxT wb (wrtC h ev v) 44 :: rowT 5 1 v acc.length (u8s acc) :: r)

set_option maxRecDepth 100000 in
set_option maxHeartbeats 1000000 in
theorem wnumber_st (st : Wst B w0 w r wb h ev acc) (x n : Nat) (hx : x < 4294967296) (hn : n ≤ 4) (hl : acc.length ≤ 100000000) :
    Calls Try.prog 45 #[.pointer (some ⟨wb, 0, none⟩), .int .u32 (x : Int), .int .i64 (n : Int)] w fun e w' => e = .returned (.tuple #[]) ∧ Wst B w0 w' r wb h ev (acc ++ le n x) := by
  obtain ⟨A, hA⟩ : ∃ A, acc ++ le n x = A := ⟨_, rfl⟩
  have HA := Lib.hid hA
  rw [hA]
  clear hA
  go_enter Try.func45, Try.ntmps45
  go_wp2
  go_loopw [1, 7] (fun y i wr => ∃ (k z : Nat) (L : List Nat), k ≤ n ∧ i = .int .i64 (k : Int) ∧ y = .int .u32 (z : Int) ∧ z < 4294967296 ∧ Hid (L ++ le (n - k) z = A) ∧ L.length ≤ acc.length + k ∧ Wst B w0 wr r wb h ev L) (fun _ i _ => n - (intOf i).toNat)
  case atStart => exact ⟨0, x, acc, Nat.zero_le _, rfl, rfl, hx, HA, Nat.le_refl _, st⟩
  case round =>
    clear st HA
    obtain ⟨k, z, L, hk, rfl, rfl, hz, HL, hll, v, s1⟩ := hrel
    by_cases hlt : k < n
    · have e1 : L ++ [z % 256] ++ le (n - (k + 1)) (z / 256) = A := by
        rw [← HL.out, show n - k = (n - (k + 1)) + 1 from by omega, le, List.append_assoc]
        rfl
      have HN := Lib.hid e1
      clear e1 HL
      have s2 := s1.swap
      obtain ⟨a, c, rfl⟩ := ownsRow_slice s2.row
      have c9 : w0 = w0 := rfl
      obtain ⟨k9, f9⟩ := St.boxAt s1 9
      replace k9 : wr.cell? ⟨wb, 9, none⟩ = some (.slice a L.length c) := k9
      have hb9 : wb < wr.heap.size := lt_of_block s1.box
      clear c9
      go_wp2_with (at_builtin; refine wpList_append_lit (m := 1) rfl _ _ rfl s2 rfl [.int .u8 (((z : Int)) % 256)] rfl rfl ?oneCell (by omega) ?_)
      case oneCell => simp [Value.oneCell']
      intro v' w' s3
      obtain ⟨a', c', rfl⟩ := ownsRow_slice s3.row
      have s4 := s3.swap
      obtain ⟨k8, f8⟩ := St.boxAt s4 9
      replace k8 : w'.cell? ⟨wb, 9, none⟩ = some (.slice a L.length c) := k8
      have s5 := s4.setBoxAt 9 (.slice a' (L.length + 1) c')
      clear s3 s4 s2 s1 k9 f9
      go_wp2
      refine ⟨⟨k + 1, z / 256, L ++ [z % 256], by omega, by go_num, by simp, by omega, HN, by rw [List.length_append, List.length_singleton]; omega, .slice a' (L.length + 1) c', ?_⟩, by simp [intOf]; omega⟩
      rw [u8s_append, List.length_append, List.length_singleton]
      exact s5
    · obtain rfl : k = n := by omega
      rw [Nat.sub_self, le, List.append_nil] at HL
      obtain rfl := HL.out
      go_wp2
      go_end0
      exact ⟨rfl, v, s1⟩

set_option maxRecDepth 100000 in
set_option maxHeartbeats 1000000 in
theorem wmagic_st (st : Wst B w0 w r wb h ev acc) (hl : acc.length ≤ 100000000) :
    Calls Try.prog 22 #[.pointer (some ⟨wb, 0, none⟩)] w fun e w' => e = .returned (.tuple #[]) ∧ Wst B w0 w' r wb h ev (acc ++ [31, 139, 8]) := by
  obtain ⟨v, s1⟩ := st
  have s2 := s1.swap
  obtain ⟨a, c, rfl⟩ := ownsRow_slice s2.row
  obtain ⟨k9, f9⟩ := St.boxAt s1 9
  replace k9 : w.cell? ⟨wb, 9, none⟩ = some (.slice a acc.length c) := k9
  go_enter Try.func22, Try.ntmps22
  go_wp2_with (at_builtin; refine wpList_append_str rfl _ _ rfl s2 rfl [31, 139, 8] rfl (by decide) (by simp; omega) ?_)
  intro v' w' s3
  obtain ⟨a', c', rfl⟩ := ownsRow_slice s3.row
  have s4 := s3.swap
  obtain ⟨k8, f8⟩ := St.boxAt s4 9
  replace k8 : w'.cell? ⟨wb, 9, none⟩ = some (.slice a acc.length c) := k8
  have s5 := s4.setBoxAt 9 (.slice a' (acc.length + 3) c')
  clear s3 s4 s2 s1 k9 f9
  go_wp2
  go_end0
  refine ⟨rfl, .slice a' (acc.length + 3) c', ?_⟩
  rw [u8s_append, List.length_append]
  exact s5

end
end Go.Proofs.Ytiggbioaaglgaaa.Fr
