/-
  Contracts of package frame: the reader's fields. No conditions but that rows are small.
-/
import Derived.Test.YtpinfihmageeoaaGreatFrN
namespace Go.Proofs.YtpinfihmageeoaaGreat.Fr
open Go.RowKit Crc

section
variable {B : Nat} {w0 w : World} {r : List Thing} {rb : Nat} {xs : List Nat} {v : Value} {s : Rs}

/-- Number: what is missing is thrown. -/
theorem rnumber_no (st : Rst B w0 w r rb v s) (hv : ∀ W, St B w0 W r → ByteRow W v xs) (n : Nat) (hn : n ≤ 4) (hs : s.p ≤ xs.length) (hp : xs.length < s.p + n) :
    Calls Tryz.prog 124 #[.pointer (some ⟨rb, 0, none⟩), .int .i64 (n : Int)] w fun e w' => e = .panicked oops ∧ St B w0 w' r := by
  have hnx := next_no st hv n hs hp (by omega)
  clear st hv hp hs
  go_enter Tryz.func124, Tryz.ntmps124
  go_wp2_with (go_at_call 123; refine hnx.mono ?_; rintro e w1 ⟨rfl, s1⟩)
  exact ⟨rfl, rfl, s1⟩

/-- What a field's reading does. -/
def StepSt (B : Nat) (w0 : World) (r : List Thing) (rb : Nat) (v : Value) (x : Option Rs) (e : Ending) (w' : World) : Prop :=
  match x with
  | none => e = .panicked oops ∧ St B w0 w' r
  | some s => e = .returned (.tuple #[]) ∧ Rst B w0 w' r rb v s

theorem magic_bytes : strOf [31, 139, 8] = ⟨#[31, 139, 8]⟩ := by decide

set_option maxRecDepth 100000 in
set_option maxHeartbeats 1000000 in
theorem rmagic_st (st : Rst B w0 w r rb v s) (hv : ∀ W, St B w0 W r → ByteRow W v xs) (hx : xs.length ≤ 1000000) (hs : s.p ≤ xs.length) :
    Calls Tryz.prog 87 #[.pointer (some ⟨rb, 0, none⟩)] w (StepSt B w0 r rb v (rdStep xs 0 s)) := by
  by_cases c : s.p + 3 ≤ xs.length
  · have hnx := next_ok st hv hx 3 c
    by_cases e : sl xs s.p 3 = [31, 139, 8]
    · have h1 : rdStep xs 0 s = some { s with p := s.p + 3 } := by unfold rdStep; simp only; rw [if_pos ⟨c, e⟩]
      rw [h1]
      clear h1
      rw [e] at hnx
      go_enter Tryz.func87, Tryz.ntmps87
      go_wp2_with fail
      refine hnx.mono ?_
      rintro e w1 ⟨a, c, rfl, hrow, s1⟩
      have hstr := run_string _ _ _ (hrow w1 (by obtain ⟨ev, t⟩ := s1; exact t.drop.drop)).reads
      rw [magic_bytes] at hstr
      have hy := need_yes w1
      clear hnx
      go_wp2_with (go_at_call 122; refine hy.mono ?_; rintro e w2 ⟨rfl, rfl⟩)
      go_end0
      exact ⟨rfl, s1⟩
    · have h1 : rdStep xs 0 s = none := by unfold rdStep; simp only; rw [if_neg (fun h => e h.2)]
      rw [h1]
      clear h1
      have hbs : ∀ x ∈ sl xs s.p 3, x < 256 := sl_byte (hv w (by obtain ⟨ev, t⟩ := st; exact t.drop.drop)).byte _ _
      have hne : ¬ (strOf (sl xs s.p 3)).toList = (⟨#[31, 139, 8]⟩ : ByteArray).toList := by
        rw [str_list, ← magic_bytes, strOf_eq hbs (by decide)]
        exact e
      generalize sl xs s.p 3 = L at *
      go_enter Tryz.func87, Tryz.ntmps87
      go_wp2_with fail
      refine hnx.mono ?_
      rintro e w1 ⟨a, c, rfl, hrow, s1⟩
      have hstr := run_string _ _ _ (hrow w1 (by obtain ⟨ev, t⟩ := s1; exact t.drop.drop)).reads
      have hst : St B w0 w1 r := by obtain ⟨ev, t⟩ := s1; exact t.drop.drop
      generalize strOf L = str at *
      rw [show (⟨#[31, 139, 8]⟩ : ByteArray).toList = [31, 139, 8] from by rw [ByteArray.toList_eq]] at hne
      have hb : (str.toList == [31, 139, 8]) = false := by rw [beq_eq_false_iff_ne]; exact hne
      have hy : Calls Tryz.prog 122 #[.bool (str.toList == [31, 139, 8])] w1 fun e w' => e = .panicked oops ∧ w' = w1 := by rw [hb]; exact need_no w1
      clear hnx hb hne
      go_wp2_with (go_at_call 122; refine hy.mono ?_; rintro e w2 ⟨rfl, rfl⟩)
      exact ⟨rfl, rfl, hst⟩
  · have hnx := next_no st hv 3 hs (by omega) (by omega)
    have h1 : rdStep xs 0 s = none := by unfold rdStep; simp only; rw [if_neg (fun h => c h.1)]
    rw [h1]
    clear h1
    go_enter Tryz.func87, Tryz.ntmps87
    go_wp2_with (go_at_call 123; refine hnx.mono ?_; rintro e w1 ⟨rfl, s1⟩)
    exact ⟨rfl, rfl, s1⟩

theorem and_flags (x : Nat) (hx : x < 32) : bits .and .u32 (x : Int) 1 = ((x % 2 : Nat) : Int) ∧ bits .and .u32 (x : Int) 2 = ((2 * (x / 2 % 2) : Nat) : Int) := by
  have : ∀ x : Nat, x < 32 → bits .and .u32 (x : Int) 1 = ((x % 2 : Nat) : Int) ∧ bits .and .u32 (x : Int) 2 = ((2 * (x / 2 % 2) : Nat) : Int) := by decide +kernel
  exact this x hx

set_option maxRecDepth 100000 in
set_option maxHeartbeats 2000000 in
theorem rflags_st (st : Rst B w0 w r rb v s) (hv : ∀ W, St B w0 W r → ByteRow W v xs) (hx : xs.length ≤ 1000000) (hs : s.p ≤ xs.length) :
    Calls Tryz.prog 88 #[.pointer (some ⟨rb, 0, none⟩)] w (StepSt B w0 r rb v (rdStep xs 1 s)) := by
  by_cases c : s.p + 1 ≤ xs.length
  · have hnx := rnumber_ok st hv hx 1 (by omega) c
    have hlt := sl_val (hv w (by obtain ⟨ev, t⟩ := st; exact t.drop.drop)).byte c
    rw [Nat.pow_one] at hlt
    by_cases e : val (sl xs s.p 1) < 32
    · have h1 : rdStep xs 1 s = some { s with p := s.p + 1, h := { s.h with text := val (sl xs s.p 1) % 2 == 1, sum := val (sl xs s.p 1) / 2 % 2 == 1, has := val (sl xs s.p 1) / 4 } } := by unfold rdStep; simp only; rw [if_pos ⟨c, e⟩]
      rw [h1]
      clear h1
      obtain ⟨a1, a2⟩ := and_flags _ e
      generalize val (sl xs s.p 1) = F at *
      obtain ⟨p, h, wr⟩ := s
      simp only at hnx ⊢
      go_enter Tryz.func88, Tryz.ntmps88
      go_wp2_with (go_at_call 124; refine hnx.mono ?_; rintro e w1 ⟨rfl, ev, s1⟩)
      have hy : Calls Tryz.prog 122 #[.bool (decide ((F : Int) < 32))] w1 fun e w' => e = .returned (.tuple #[]) ∧ w' = w1 := by rw [decide_eq_true (show (F : Int) < 32 by omega)]; exact need_yes w1
      obtain ⟨k2, f2⟩ := St.boxAt s1 2
      replace k2 : w1.cell? ⟨rb, 2, none⟩ = some (.bool h.text) := k2
      obtain ⟨k10, f10⟩ := St.boxAt s1 10
      replace k10 : w1.cell? ⟨rb, 10, none⟩ = some (.bool h.sum) := k10
      obtain ⟨k9, f9⟩ := St.boxAt s1 9
      replace k9 : w1.cell? ⟨rb, 9, none⟩ = some (.int .u8 (h.has : Int)) := k9
      have s4 := ((s1.setBoxAt 2 (.bool (((F % 2 : Nat) : Int) != 0))).setBoxAt 10 (.bool (((2 * (F / 2 % 2) : Nat) : Int) != 0))).setBoxAt 9 (.int .u8 ((F / 4 : Nat) : Int))
      have hT : ((((F % 2 : Nat) : Int) != 0) = (F % 2 == 1)) ∧ ((((2 * (F / 2 % 2) : Nat) : Int) != 0) = (F / 2 % 2 == 1)) := by
        have g1 : F % 2 = 0 ∨ F % 2 = 1 := by omega
        have g2 : F / 2 % 2 = 0 ∨ F / 2 % 2 = 1 := by omega
        constructor
        · rcases g1 with g | g <;> rw [g] <;> rfl
        · rcases g2 with g | g <;> rw [g] <;> rfl
      have HT := Lib.hid hT
      have hq : ((F : Int) / 4) = ((F / 4 : Nat) : Int) := by omega
      obtain ⟨y1, hy1⟩ : ∃ y, F % 2 = y := ⟨_, rfl⟩
      obtain ⟨y2, hy2⟩ : ∃ y, 2 * (F / 2 % 2) = y := ⟨_, rfl⟩
      obtain ⟨q, hqq⟩ : ∃ q, F / 4 = q := ⟨_, rfl⟩
      have hq8 : q < 256 := by omega
      rw [hy1, hy2] at HT
      rw [hy1] at a1
      rw [hy2] at a2
      rw [hy1, hy2, hqq] at s4
      rw [hqq] at hq ⊢
      have HY := Lib.hid hy1
      have HQ := Lib.hid hqq
      clear hnx hT s1 hy1 hy2 hqq
      go_wp2_with fail
      refine hy.mono ?_
      rintro e w2 ⟨rfl, rfl⟩
      go_wp2
      go_end0
      have h1 := HT.out
      have t1 : (F % 2 == 1) = ((y1 : Int) != 0) := by rw [HY.out]; exact h1.1.symm
      refine ⟨rfl, ev, ?_⟩
      simp only
      rw [t1, ← h1.2, HQ.out]
      exact s4
    · have h1 : rdStep xs 1 s = none := by unfold rdStep; simp only; rw [if_neg (fun h => e h.2)]
      rw [h1]
      clear h1
      generalize val (sl xs s.p 1) = F at *
      go_enter Tryz.func88, Tryz.ntmps88
      go_wp2_with (go_at_call 124; refine hnx.mono ?_; rintro e w1 ⟨rfl, s1⟩)
      have hst : St B w0 w1 r := by obtain ⟨ev, t⟩ := s1; exact t.drop.drop
      have hy : Calls Tryz.prog 122 #[.bool (decide ((F : Int) < 32))] w1 fun e w' => e = .panicked oops ∧ w' = w1 := by rw [decide_eq_false (show ¬ (F : Int) < 32 by omega)]; exact need_no w1
      clear hnx
      go_wp2_with (go_at_call 122; refine hy.mono ?_; rintro e w2 ⟨rfl, rfl⟩)
      exact ⟨rfl, rfl, hst⟩
  · have hnx := rnumber_no st hv 1 (by omega) hs (by omega)
    have h1 : rdStep xs 1 s = none := by unfold rdStep; simp only; rw [if_neg (fun h => c h.1)]
    rw [h1]
    clear h1
    go_enter Tryz.func88, Tryz.ntmps88
    go_wp2_with (go_at_call 124; refine hnx.mono ?_; rintro e w1 ⟨rfl, s1⟩)
    exact ⟨rfl, rfl, s1⟩

set_option maxRecDepth 100000 in
set_option maxHeartbeats 1000000 in
theorem rtime_st (st : Rst B w0 w r rb v s) (hv : ∀ W, St B w0 W r → ByteRow W v xs) (hx : xs.length ≤ 1000000) (hs : s.p ≤ xs.length) :
    Calls Tryz.prog 89 #[.pointer (some ⟨rb, 0, none⟩)] w (StepSt B w0 r rb v (rdStep xs 2 s)) := by
  by_cases c : s.p + 4 ≤ xs.length
  · have hnx := rnumber_ok st hv hx 4 (by omega) c
    have hlt := sl_val (hv w (by obtain ⟨ev, t⟩ := st; exact t.drop.drop)).byte c
    have h1 : rdStep xs 2 s = some { s with p := s.p + 4, h := { s.h with time := val (sl xs s.p 4) } } := by unfold rdStep; simp only; rw [if_pos c]
    rw [h1]
    clear h1
    rw [show (256 : Nat) ^ 4 = 4294967296 from rfl] at hlt
    generalize val (sl xs s.p 4) = F at *
    obtain ⟨p, h, wr⟩ := s
    simp only at hnx ⊢
    go_enter Tryz.func89, Tryz.ntmps89
    go_wp2_with fail
    refine hnx.mono ?_
    rintro e w1 ⟨rfl, ev, s1⟩
    obtain ⟨k2, f2⟩ := St.boxAt s1 3
    replace k2 : w1.cell? ⟨rb, 3, none⟩ = some (.int .u32 (h.time : Int)) := k2
    have s4 := s1.setBoxAt 3 (.int .u32 (F : Int))
    clear hnx s1
    go_wp2
    go_end0
    exact ⟨rfl, ev, s4⟩
  · have hnx := rnumber_no st hv 4 (by omega) hs (by omega)
    have h1 : rdStep xs 2 s = none := by unfold rdStep; simp only; rw [if_neg c]
    rw [h1]
    clear h1
    go_enter Tryz.func89, Tryz.ntmps89
    go_wp2_with (go_at_call 124; refine hnx.mono ?_; rintro e w1 ⟨rfl, s1⟩)
    exact ⟨rfl, rfl, s1⟩

set_option maxRecDepth 100000 in
set_option maxHeartbeats 1000000 in
theorem rxfl_st (st : Rst B w0 w r rb v s) (hv : ∀ W, St B w0 W r → ByteRow W v xs) (hx : xs.length ≤ 1000000) (hs : s.p ≤ xs.length) :
    Calls Tryz.prog 90 #[.pointer (some ⟨rb, 0, none⟩)] w (StepSt B w0 r rb v (rdStep xs 3 s)) := by
  by_cases c : s.p + 1 ≤ xs.length
  · have hnx := rnumber_ok st hv hx 1 (by omega) c
    have hlt := sl_val (hv w (by obtain ⟨ev, t⟩ := st; exact t.drop.drop)).byte c
    have h1 : rdStep xs 3 s = some { s with p := s.p + 1, h := { s.h with xfl := val (sl xs s.p 1) } } := by unfold rdStep; simp only; rw [if_pos c]
    rw [h1]
    clear h1
    rw [show (256 : Nat) ^ 1 = 256 from rfl] at hlt
    generalize val (sl xs s.p 1) = F at *
    obtain ⟨p, h, wr⟩ := s
    simp only at hnx ⊢
    go_enter Tryz.func90, Tryz.ntmps90
    go_wp2_with fail
    refine hnx.mono ?_
    rintro e w1 ⟨rfl, ev, s1⟩
    obtain ⟨k2, f2⟩ := St.boxAt s1 4
    replace k2 : w1.cell? ⟨rb, 4, none⟩ = some (.int .u8 (h.xfl : Int)) := k2
    have s4 := s1.setBoxAt 4 (.int .u8 (F : Int))
    clear hnx s1
    go_wp2
    go_end0
    exact ⟨rfl, ev, s4⟩
  · have hnx := rnumber_no st hv 1 (by omega) hs (by omega)
    have h1 : rdStep xs 3 s = none := by unfold rdStep; simp only; rw [if_neg c]
    rw [h1]
    clear h1
    go_enter Tryz.func90, Tryz.ntmps90
    go_wp2_with (go_at_call 124; refine hnx.mono ?_; rintro e w1 ⟨rfl, s1⟩)
    exact ⟨rfl, rfl, s1⟩

set_option maxRecDepth 100000 in
set_option maxHeartbeats 1000000 in
theorem ros_st (st : Rst B w0 w r rb v s) (hv : ∀ W, St B w0 W r → ByteRow W v xs) (hx : xs.length ≤ 1000000) (hs : s.p ≤ xs.length) :
    Calls Tryz.prog 91 #[.pointer (some ⟨rb, 0, none⟩)] w (StepSt B w0 r rb v (rdStep xs 4 s)) := by
  by_cases c : s.p + 1 ≤ xs.length
  · have hnx := rnumber_ok st hv hx 1 (by omega) c
    have hlt := sl_val (hv w (by obtain ⟨ev, t⟩ := st; exact t.drop.drop)).byte c
    have h1 : rdStep xs 4 s = some { s with p := s.p + 1, h := { s.h with os := val (sl xs s.p 1) } } := by unfold rdStep; simp only; rw [if_pos c]
    rw [h1]
    clear h1
    rw [show (256 : Nat) ^ 1 = 256 from rfl] at hlt
    generalize val (sl xs s.p 1) = F at *
    obtain ⟨p, h, wr⟩ := s
    simp only at hnx ⊢
    go_enter Tryz.func91, Tryz.ntmps91
    go_wp2_with fail
    refine hnx.mono ?_
    rintro e w1 ⟨rfl, ev, s1⟩
    obtain ⟨k2, f2⟩ := St.boxAt s1 5
    replace k2 : w1.cell? ⟨rb, 5, none⟩ = some (.int .u8 (h.os : Int)) := k2
    have s4 := s1.setBoxAt 5 (.int .u8 (F : Int))
    clear hnx s1
    go_wp2
    go_end0
    exact ⟨rfl, ev, s4⟩
  · have hnx := rnumber_no st hv 1 (by omega) hs (by omega)
    have h1 : rdStep xs 4 s = none := by unfold rdStep; simp only; rw [if_neg c]
    rw [h1]
    clear h1
    go_enter Tryz.func91, Tryz.ntmps91
    go_wp2_with (go_at_call 124; refine hnx.mono ?_; rintro e w1 ⟨rfl, s1⟩)
    exact ⟨rfl, rfl, s1⟩

end
end Go.Proofs.YtpinfihmageeoaaGreat.Fr
