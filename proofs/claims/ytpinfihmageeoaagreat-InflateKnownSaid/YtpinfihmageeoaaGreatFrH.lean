/-
  Contract of package frame: Get, walked. No conditions but that rows are small. (Written by wip/gen_frg.py.)
-/
import Derived.Test.YtpinfihmageeoaaGreatFrG
namespace Go.Proofs.YtpinfihmageeoaaGreat.Fr
open Go.RowKit Crc

section
variable {B : Nat} {w0 w : World} {r : List Thing} {xs : List Nat} {v : Value}

/-- What Get hands out. -/
def GetSt (B : Nat) (w0 : World) (r : List Thing) (x : Option Rs) (e : Ending) (w' : World) : Prop :=
  match x with
  | none => e = .returned (.tuple #[.agg noHead, .int .i64 0, .bool false, .int .i64 2]) ∧ St B w0 w' r
  | some s => ∃ ev, e = .returned (.tuple #[.agg (headC s.h ev), .int .i64 (s.p : Int), .bool s.wrong, .int .i64 0]) ∧ St B w0 w' (rowT 5 1 ev s.h.extra.length (u8s s.h.extra) :: r)

set_option maxRecDepth 100000 in
set_option maxHeartbeats 60000000 in
theorem get_st (st : St B w0 w r) (v : Value) (xs : List Nat) (hv : ∀ W, St B w0 W r → ByteRow W v xs) (hx : xs.length ≤ 1000000) :
    Calls Tryz.prog 69 #[v] w (GetSt B w0 r (get xs)) := by
  have hmf : ∀ (fn : Fn) (first cap : Array Value) (w : World), (Instr.makeFunc fn first cap).run Tryz.prog w = .ok (.func fn first cap) w := fun _ _ _ _ => rfl
  obtain ⟨X, hX⟩ : ∃ X, get xs = X := ⟨_, rfl⟩
  rw [hX]
  have HX := Lib.hid hX
  clear hX
  have hbyte := (hv w st).byte
  obtain ⟨va, vc, hv0⟩ : ∃ a c, v = .slice a xs.length c := by obtain ⟨a, c, e, _⟩ := hv w st; exact ⟨a, c, e⟩
  subst hv0
  obtain ⟨n, hn⟩ : ∃ n, w.heap.size = n := ⟨_, rfl⟩
  have s0 := (((st.newBox noHead 80).newBox #[.int .i64 0] 3).newBox #[.bool false] 4).newBox #[.int .i64 0] 22
  have s1 := (s0.addNil (e := 5) (size := 1)).newBox (rdrC (.slice va xs.length vc) 0 Gz.nil (.slice none 0 0) false) 141
  have s2 := s1.newBox (reads (n + 1 + 1 + 1 + 1)) 1
  have z1 : (w.alloc (.cells noHead 80)).heap.size = n + 1 := by simp [hn]
  have z2 : ((w.alloc (.cells noHead 80)).alloc (.cells #[.int .i64 0] 3)).heap.size = n + 1 + 1 := by simp [hn]
  have z3 : (((w.alloc (.cells noHead 80)).alloc (.cells #[.int .i64 0] 3)).alloc (.cells #[.bool false] 4)).heap.size = n + 1 + 1 + 1 := by simp [hn]
  have z4 : ((((w.alloc (.cells noHead 80)).alloc (.cells #[.int .i64 0] 3)).alloc (.cells #[.bool false] 4)).alloc (.cells #[.int .i64 0] 22)).heap.size = n + 1 + 1 + 1 + 1 := by simp [hn]
  have z5 : (((((w.alloc (.cells noHead 80)).alloc (.cells #[.int .i64 0] 3)).alloc (.cells #[.bool false] 4)).alloc (.cells #[.int .i64 0] 22)).alloc (.cells (rdrC (.slice va xs.length vc) 0 Gz.nil (.slice none 0 0) false) 141)).heap.size = n + 1 + 1 + 1 + 1 + 1 := by simp [hn]
  rw [z5, z4, z3, z2, z1, hn] at s2
  clear z1 z2 z3 z4 z5 s0 s1
  have h0 : Rst B w0 ((((((w.alloc (.cells noHead 80)).alloc (.cells #[.int .i64 0] 3)).alloc (.cells #[.bool false] 4)).alloc (.cells #[.int .i64 0] 22)).alloc (.cells (rdrC (.slice va xs.length vc) 0 Gz.nil (.slice none 0 0) false) 141)).alloc (.cells (reads (n + 1 + 1 + 1 + 1)) 1)) (boxT (n + 1 + 1 + 1 + 1 + 1) (reads (n + 1 + 1 + 1 + 1)) 1 :: boxT (n + 1 + 1 + 1) #[.int .i64 0] 22 :: boxT (n + 1 + 1) #[.bool false] 4 :: boxT (n + 1) #[.int .i64 0] 3 :: boxT n noHead 80 :: r) (n + 1 + 1 + 1 + 1) (.slice va xs.length vc) ⟨0, Gz.nil, false⟩ := ⟨_, s2.third.third⟩
  clear s2 st
  go_enter_defers Tryz.func69, Tryz.ntmps69
  go_wp2
  have d12 : n ≠ n + 1 := by omega
  have d13 : n ≠ n + 1 + 1 := by omega
  have d14 : n ≠ n + 1 + 1 + 1 := by omega
  have d23 : n + 1 ≠ n + 1 + 1 := by omega
  have d24 : n + 1 ≠ n + 1 + 1 + 1 := by omega
  have d34 : n + 1 + 1 ≠ n + 1 + 1 + 1 := by omega
  clear hmf hn
  generalize n + 1 = n2 at *
  generalize n2 + 1 = n3 at *
  generalize n3 + 1 = n4 at *
  generalize n4 + 1 = n5 at *
  generalize n5 + 1 = n6 at *
  have hv' : ∀ W, St B w0 W (boxT n6 (reads n5) 1 :: boxT n4 #[.int .i64 0] 22 :: boxT n3 #[.bool false] 4 :: boxT n2 #[.int .i64 0] 3 :: boxT n noHead 80 :: r) → ByteRow W (.slice va xs.length vc) xs := fun W t => hv W t.drop.drop.drop.drop.drop
  go_loopw [8, 33] (fun _ iv wr => ∃ (k : Nat) (s : Rs), k ≤ 9 ∧ iv = .int .i64 (k : Int) ∧ Hid (after xs k = some s) ∧ Rst B w0 wr (boxT n6 (reads n5) 1 :: boxT n4 #[.int .i64 0] 22 :: boxT n3 #[.bool false] 4 :: boxT n2 #[.int .i64 0] 3 :: boxT n noHead 80 :: r) n5 (.slice va xs.length vc) s) (fun _ iv _ => 9 - (intOf iv).toNat)
  case atStart => exact ⟨0, ⟨0, Gz.nil, false⟩, Nat.zero_le _, rfl, Lib.hid rfl, h0⟩
  case round =>
    clear h0
    obtain ⟨k, s, hk, rfl, HS, h1⟩ := hrel
    have g := good_after hbyte hk HS.out
    by_cases hlt : k < 9
    · have hc : ∀ j, wr.cell? ⟨n6, j, none⟩ = (reads n5)[j]? := fun j => by obtain ⟨ev, t⟩ := h1; exact (St.boxAt t.third j).1
      have hkk : k = 0 ∨ k = 1 ∨ k = 2 ∨ k = 3 ∨ k = 4 ∨ k = 5 ∨ k = 6 ∨ k = 7 ∨ k = 8 := by omega
      rcases hkk with rfl | rfl | rfl | rfl | rfl | rfl | rfl | rfl | rfl
      · have hcall := rmagic_st h1 hv' hx g.here
        have ck : wr.cell? ⟨n6, 0, none⟩ = some (.func (.func 87) #[.pointer (some ⟨n5, 0, none⟩)] #[]) := hc 0
        clear hc
        cases hst : rdStep xs 0 s with
        | none =>
          rw [hst] at hcall
          have hX : X = none := by
            rw [← HX.out]
            refine get_none (k := 1) (by omega) ?_
            show (after xs 0).bind _ = none
            rw [HS.out]
            exact hst
          subst hX
          clear hst HS HX hv hv' g h1
          go_wp2_with fail
          refine hcall.mono ?_
          rintro e w4 ⟨rfl, s4⟩
          have hcatch := catch11_oops n n2 n3 n4 w4 d12 d13 d14 d23 d24 d34 (St.box (s4.front 4)) (St.box (s4.front 3)) (St.box (s4.front 2)) (St.box (s4.front 1))
          have t1 := s4.front 4
          have t2 := ((((((((t1.setBoxAt 0 (.bool false)).setBoxAt 1 (.int .u32 0)).setBoxAt 2 (.int .u8 0)).setBoxAt 3 (.int .u8 0)).setBoxAt 4 (.slice none 0 0)).setBoxAt 5 (.string ⟨#[]⟩)).setBoxAt 6 (.string ⟨#[]⟩)).setBoxAt 7 (.int .u8 0)).setBoxAt 8 (.bool false)
          have t3 := (t2.front 4).setBoxAt 0 (.int .i64 0)
          have t4 := (t3.front 4).setBoxAt 0 (.bool false)
          have t5 := (t4.front 4).setBoxAt 0 (.int .i64 2)
          clear t1 t2 t3 t4 s4 hcall
          go_wp2
          refine leaves_cons (f := 86) (args := #[.pointer (some ⟨n, 0, none⟩), .pointer (some ⟨n2, 0, none⟩), .pointer (some ⟨n3, 0, none⟩), .pointer (some ⟨n4, 0, none⟩)]) (by simp) (by simp [go_sem]) ?_
          refine hcatch.mono ?_
          rintro e u' w'' ⟨rfl, rfl, hw⟩
          rw [← hw] at t5
          clear hw hcatch
          replace t5 : St B w0 w'' (boxT n4 #[.int .i64 2] 22 :: boxT n3 #[.bool false] 4 :: boxT n2 #[.int .i64 0] 3 :: boxT n noHead 80 :: boxT n6 (reads n5) 1 :: r) := t5
          have e0 : w''.cell? ⟨n4, 0, none⟩ = some (.int .i64 2) := (t5.boxAt 0).1
          have e1 : w''.cell? ⟨n3, 0, none⟩ = some (.bool false) := (St.boxAt (t5.front 1) 0).1
          have e2 : w''.cell? ⟨n2, 0, none⟩ = some (.int .i64 0) := (St.boxAt (t5.front 2) 0).1
          have k0 : w''.cell? ⟨n, 0, none⟩ = some (.bool false) := (St.boxAt (t5.front 3) 0).1
          have k1 : w''.cell? ⟨n, 1, none⟩ = some (.int .u32 0) := (St.boxAt (t5.front 3) 1).1
          have k2 : w''.cell? ⟨n, 2, none⟩ = some (.int .u8 0) := (St.boxAt (t5.front 3) 2).1
          have k3 : w''.cell? ⟨n, 3, none⟩ = some (.int .u8 0) := (St.boxAt (t5.front 3) 3).1
          have k4 : w''.cell? ⟨n, 4, none⟩ = some (.slice none 0 0) := (St.boxAt (t5.front 3) 4).1
          have k5 : w''.cell? ⟨n, 5, none⟩ = some (.string ⟨#[]⟩) := (St.boxAt (t5.front 3) 5).1
          have k6 : w''.cell? ⟨n, 6, none⟩ = some (.string ⟨#[]⟩) := (St.boxAt (t5.front 3) 6).1
          have k7 : w''.cell? ⟨n, 7, none⟩ = some (.int .u8 0) := (St.boxAt (t5.front 3) 7).1
          have k8 : w''.cell? ⟨n, 8, none⟩ = some (.bool false) := (St.boxAt (t5.front 3) 8).1
          have hfin : GetSt B w0 r none (.returned (.tuple #[.agg noHead, .int .i64 0, .bool false, .int .i64 2])) w'' := ⟨rfl, t5.drop.drop.drop.drop.drop⟩
          clear t5
          simp [Leaves, settle, results, Tryz.results69, go_sem, e0, e1, e2, k0, k1, k2, k3, k4, k5, k6, k7, k8]
          exact hfin
        | some s' =>
          rw [hst] at hcall
          have hnx : after xs 1 = some s' := by
            show (after xs 0).bind _ = _
            rw [HS.out]
            exact hst
          have HN := Lib.hid hnx
          clear hst HS hnx hv hv' g h1
          go_wp2_with fail
          refine hcall.mono ?_
          rintro e w4 ⟨rfl, s4⟩
          clear hcall
          go_wp2
          exact ⟨⟨1, s', by omega, rfl, HN, s4⟩, by simp [intOf]⟩
      · have hcall := rflags_st h1 hv' hx g.here
        have ck : wr.cell? ⟨n6, 1, none⟩ = some (.func (.func 88) #[.pointer (some ⟨n5, 0, none⟩)] #[]) := hc 1
        clear hc
        cases hst : rdStep xs 1 s with
        | none =>
          rw [hst] at hcall
          have hX : X = none := by
            rw [← HX.out]
            refine get_none (k := 2) (by omega) ?_
            show (after xs 1).bind _ = none
            rw [HS.out]
            exact hst
          subst hX
          clear hst HS HX hv hv' g h1
          go_wp2_with fail
          refine hcall.mono ?_
          rintro e w4 ⟨rfl, s4⟩
          have hcatch := catch11_oops n n2 n3 n4 w4 d12 d13 d14 d23 d24 d34 (St.box (s4.front 4)) (St.box (s4.front 3)) (St.box (s4.front 2)) (St.box (s4.front 1))
          have t1 := s4.front 4
          have t2 := ((((((((t1.setBoxAt 0 (.bool false)).setBoxAt 1 (.int .u32 0)).setBoxAt 2 (.int .u8 0)).setBoxAt 3 (.int .u8 0)).setBoxAt 4 (.slice none 0 0)).setBoxAt 5 (.string ⟨#[]⟩)).setBoxAt 6 (.string ⟨#[]⟩)).setBoxAt 7 (.int .u8 0)).setBoxAt 8 (.bool false)
          have t3 := (t2.front 4).setBoxAt 0 (.int .i64 0)
          have t4 := (t3.front 4).setBoxAt 0 (.bool false)
          have t5 := (t4.front 4).setBoxAt 0 (.int .i64 2)
          clear t1 t2 t3 t4 s4 hcall
          go_wp2
          refine leaves_cons (f := 86) (args := #[.pointer (some ⟨n, 0, none⟩), .pointer (some ⟨n2, 0, none⟩), .pointer (some ⟨n3, 0, none⟩), .pointer (some ⟨n4, 0, none⟩)]) (by simp) (by simp [go_sem]) ?_
          refine hcatch.mono ?_
          rintro e u' w'' ⟨rfl, rfl, hw⟩
          rw [← hw] at t5
          clear hw hcatch
          replace t5 : St B w0 w'' (boxT n4 #[.int .i64 2] 22 :: boxT n3 #[.bool false] 4 :: boxT n2 #[.int .i64 0] 3 :: boxT n noHead 80 :: boxT n6 (reads n5) 1 :: r) := t5
          have e0 : w''.cell? ⟨n4, 0, none⟩ = some (.int .i64 2) := (t5.boxAt 0).1
          have e1 : w''.cell? ⟨n3, 0, none⟩ = some (.bool false) := (St.boxAt (t5.front 1) 0).1
          have e2 : w''.cell? ⟨n2, 0, none⟩ = some (.int .i64 0) := (St.boxAt (t5.front 2) 0).1
          have k0 : w''.cell? ⟨n, 0, none⟩ = some (.bool false) := (St.boxAt (t5.front 3) 0).1
          have k1 : w''.cell? ⟨n, 1, none⟩ = some (.int .u32 0) := (St.boxAt (t5.front 3) 1).1
          have k2 : w''.cell? ⟨n, 2, none⟩ = some (.int .u8 0) := (St.boxAt (t5.front 3) 2).1
          have k3 : w''.cell? ⟨n, 3, none⟩ = some (.int .u8 0) := (St.boxAt (t5.front 3) 3).1
          have k4 : w''.cell? ⟨n, 4, none⟩ = some (.slice none 0 0) := (St.boxAt (t5.front 3) 4).1
          have k5 : w''.cell? ⟨n, 5, none⟩ = some (.string ⟨#[]⟩) := (St.boxAt (t5.front 3) 5).1
          have k6 : w''.cell? ⟨n, 6, none⟩ = some (.string ⟨#[]⟩) := (St.boxAt (t5.front 3) 6).1
          have k7 : w''.cell? ⟨n, 7, none⟩ = some (.int .u8 0) := (St.boxAt (t5.front 3) 7).1
          have k8 : w''.cell? ⟨n, 8, none⟩ = some (.bool false) := (St.boxAt (t5.front 3) 8).1
          have hfin : GetSt B w0 r none (.returned (.tuple #[.agg noHead, .int .i64 0, .bool false, .int .i64 2])) w'' := ⟨rfl, t5.drop.drop.drop.drop.drop⟩
          clear t5
          simp [Leaves, settle, results, Tryz.results69, go_sem, e0, e1, e2, k0, k1, k2, k3, k4, k5, k6, k7, k8]
          exact hfin
        | some s' =>
          rw [hst] at hcall
          have hnx : after xs 2 = some s' := by
            show (after xs 1).bind _ = _
            rw [HS.out]
            exact hst
          have HN := Lib.hid hnx
          clear hst HS hnx hv hv' g h1
          go_wp2_with fail
          refine hcall.mono ?_
          rintro e w4 ⟨rfl, s4⟩
          clear hcall
          go_wp2
          exact ⟨⟨2, s', by omega, rfl, HN, s4⟩, by simp [intOf]⟩
      · have hcall := rtime_st h1 hv' hx g.here
        have ck : wr.cell? ⟨n6, 2, none⟩ = some (.func (.func 89) #[.pointer (some ⟨n5, 0, none⟩)] #[]) := hc 2
        clear hc
        cases hst : rdStep xs 2 s with
        | none =>
          rw [hst] at hcall
          have hX : X = none := by
            rw [← HX.out]
            refine get_none (k := 3) (by omega) ?_
            show (after xs 2).bind _ = none
            rw [HS.out]
            exact hst
          subst hX
          clear hst HS HX hv hv' g h1
          go_wp2_with fail
          refine hcall.mono ?_
          rintro e w4 ⟨rfl, s4⟩
          have hcatch := catch11_oops n n2 n3 n4 w4 d12 d13 d14 d23 d24 d34 (St.box (s4.front 4)) (St.box (s4.front 3)) (St.box (s4.front 2)) (St.box (s4.front 1))
          have t1 := s4.front 4
          have t2 := ((((((((t1.setBoxAt 0 (.bool false)).setBoxAt 1 (.int .u32 0)).setBoxAt 2 (.int .u8 0)).setBoxAt 3 (.int .u8 0)).setBoxAt 4 (.slice none 0 0)).setBoxAt 5 (.string ⟨#[]⟩)).setBoxAt 6 (.string ⟨#[]⟩)).setBoxAt 7 (.int .u8 0)).setBoxAt 8 (.bool false)
          have t3 := (t2.front 4).setBoxAt 0 (.int .i64 0)
          have t4 := (t3.front 4).setBoxAt 0 (.bool false)
          have t5 := (t4.front 4).setBoxAt 0 (.int .i64 2)
          clear t1 t2 t3 t4 s4 hcall
          go_wp2
          refine leaves_cons (f := 86) (args := #[.pointer (some ⟨n, 0, none⟩), .pointer (some ⟨n2, 0, none⟩), .pointer (some ⟨n3, 0, none⟩), .pointer (some ⟨n4, 0, none⟩)]) (by simp) (by simp [go_sem]) ?_
          refine hcatch.mono ?_
          rintro e u' w'' ⟨rfl, rfl, hw⟩
          rw [← hw] at t5
          clear hw hcatch
          replace t5 : St B w0 w'' (boxT n4 #[.int .i64 2] 22 :: boxT n3 #[.bool false] 4 :: boxT n2 #[.int .i64 0] 3 :: boxT n noHead 80 :: boxT n6 (reads n5) 1 :: r) := t5
          have e0 : w''.cell? ⟨n4, 0, none⟩ = some (.int .i64 2) := (t5.boxAt 0).1
          have e1 : w''.cell? ⟨n3, 0, none⟩ = some (.bool false) := (St.boxAt (t5.front 1) 0).1
          have e2 : w''.cell? ⟨n2, 0, none⟩ = some (.int .i64 0) := (St.boxAt (t5.front 2) 0).1
          have k0 : w''.cell? ⟨n, 0, none⟩ = some (.bool false) := (St.boxAt (t5.front 3) 0).1
          have k1 : w''.cell? ⟨n, 1, none⟩ = some (.int .u32 0) := (St.boxAt (t5.front 3) 1).1
          have k2 : w''.cell? ⟨n, 2, none⟩ = some (.int .u8 0) := (St.boxAt (t5.front 3) 2).1
          have k3 : w''.cell? ⟨n, 3, none⟩ = some (.int .u8 0) := (St.boxAt (t5.front 3) 3).1
          have k4 : w''.cell? ⟨n, 4, none⟩ = some (.slice none 0 0) := (St.boxAt (t5.front 3) 4).1
          have k5 : w''.cell? ⟨n, 5, none⟩ = some (.string ⟨#[]⟩) := (St.boxAt (t5.front 3) 5).1
          have k6 : w''.cell? ⟨n, 6, none⟩ = some (.string ⟨#[]⟩) := (St.boxAt (t5.front 3) 6).1
          have k7 : w''.cell? ⟨n, 7, none⟩ = some (.int .u8 0) := (St.boxAt (t5.front 3) 7).1
          have k8 : w''.cell? ⟨n, 8, none⟩ = some (.bool false) := (St.boxAt (t5.front 3) 8).1
          have hfin : GetSt B w0 r none (.returned (.tuple #[.agg noHead, .int .i64 0, .bool false, .int .i64 2])) w'' := ⟨rfl, t5.drop.drop.drop.drop.drop⟩
          clear t5
          simp [Leaves, settle, results, Tryz.results69, go_sem, e0, e1, e2, k0, k1, k2, k3, k4, k5, k6, k7, k8]
          exact hfin
        | some s' =>
          rw [hst] at hcall
          have hnx : after xs 3 = some s' := by
            show (after xs 2).bind _ = _
            rw [HS.out]
            exact hst
          have HN := Lib.hid hnx
          clear hst HS hnx hv hv' g h1
          go_wp2_with fail
          refine hcall.mono ?_
          rintro e w4 ⟨rfl, s4⟩
          clear hcall
          go_wp2
          exact ⟨⟨3, s', by omega, rfl, HN, s4⟩, by simp [intOf]⟩
      · have hcall := rxfl_st h1 hv' hx g.here
        have ck : wr.cell? ⟨n6, 3, none⟩ = some (.func (.func 90) #[.pointer (some ⟨n5, 0, none⟩)] #[]) := hc 3
        clear hc
        cases hst : rdStep xs 3 s with
        | none =>
          rw [hst] at hcall
          have hX : X = none := by
            rw [← HX.out]
            refine get_none (k := 4) (by omega) ?_
            show (after xs 3).bind _ = none
            rw [HS.out]
            exact hst
          subst hX
          clear hst HS HX hv hv' g h1
          go_wp2_with fail
          refine hcall.mono ?_
          rintro e w4 ⟨rfl, s4⟩
          have hcatch := catch11_oops n n2 n3 n4 w4 d12 d13 d14 d23 d24 d34 (St.box (s4.front 4)) (St.box (s4.front 3)) (St.box (s4.front 2)) (St.box (s4.front 1))
          have t1 := s4.front 4
          have t2 := ((((((((t1.setBoxAt 0 (.bool false)).setBoxAt 1 (.int .u32 0)).setBoxAt 2 (.int .u8 0)).setBoxAt 3 (.int .u8 0)).setBoxAt 4 (.slice none 0 0)).setBoxAt 5 (.string ⟨#[]⟩)).setBoxAt 6 (.string ⟨#[]⟩)).setBoxAt 7 (.int .u8 0)).setBoxAt 8 (.bool false)
          have t3 := (t2.front 4).setBoxAt 0 (.int .i64 0)
          have t4 := (t3.front 4).setBoxAt 0 (.bool false)
          have t5 := (t4.front 4).setBoxAt 0 (.int .i64 2)
          clear t1 t2 t3 t4 s4 hcall
          go_wp2
          refine leaves_cons (f := 86) (args := #[.pointer (some ⟨n, 0, none⟩), .pointer (some ⟨n2, 0, none⟩), .pointer (some ⟨n3, 0, none⟩), .pointer (some ⟨n4, 0, none⟩)]) (by simp) (by simp [go_sem]) ?_
          refine hcatch.mono ?_
          rintro e u' w'' ⟨rfl, rfl, hw⟩
          rw [← hw] at t5
          clear hw hcatch
          replace t5 : St B w0 w'' (boxT n4 #[.int .i64 2] 22 :: boxT n3 #[.bool false] 4 :: boxT n2 #[.int .i64 0] 3 :: boxT n noHead 80 :: boxT n6 (reads n5) 1 :: r) := t5
          have e0 : w''.cell? ⟨n4, 0, none⟩ = some (.int .i64 2) := (t5.boxAt 0).1
          have e1 : w''.cell? ⟨n3, 0, none⟩ = some (.bool false) := (St.boxAt (t5.front 1) 0).1
          have e2 : w''.cell? ⟨n2, 0, none⟩ = some (.int .i64 0) := (St.boxAt (t5.front 2) 0).1
          have k0 : w''.cell? ⟨n, 0, none⟩ = some (.bool false) := (St.boxAt (t5.front 3) 0).1
          have k1 : w''.cell? ⟨n, 1, none⟩ = some (.int .u32 0) := (St.boxAt (t5.front 3) 1).1
          have k2 : w''.cell? ⟨n, 2, none⟩ = some (.int .u8 0) := (St.boxAt (t5.front 3) 2).1
          have k3 : w''.cell? ⟨n, 3, none⟩ = some (.int .u8 0) := (St.boxAt (t5.front 3) 3).1
          have k4 : w''.cell? ⟨n, 4, none⟩ = some (.slice none 0 0) := (St.boxAt (t5.front 3) 4).1
          have k5 : w''.cell? ⟨n, 5, none⟩ = some (.string ⟨#[]⟩) := (St.boxAt (t5.front 3) 5).1
          have k6 : w''.cell? ⟨n, 6, none⟩ = some (.string ⟨#[]⟩) := (St.boxAt (t5.front 3) 6).1
          have k7 : w''.cell? ⟨n, 7, none⟩ = some (.int .u8 0) := (St.boxAt (t5.front 3) 7).1
          have k8 : w''.cell? ⟨n, 8, none⟩ = some (.bool false) := (St.boxAt (t5.front 3) 8).1
          have hfin : GetSt B w0 r none (.returned (.tuple #[.agg noHead, .int .i64 0, .bool false, .int .i64 2])) w'' := ⟨rfl, t5.drop.drop.drop.drop.drop⟩
          clear t5
          simp [Leaves, settle, results, Tryz.results69, go_sem, e0, e1, e2, k0, k1, k2, k3, k4, k5, k6, k7, k8]
          exact hfin
        | some s' =>
          rw [hst] at hcall
          have hnx : after xs 4 = some s' := by
            show (after xs 3).bind _ = _
            rw [HS.out]
            exact hst
          have HN := Lib.hid hnx
          clear hst HS hnx hv hv' g h1
          go_wp2_with fail
          refine hcall.mono ?_
          rintro e w4 ⟨rfl, s4⟩
          clear hcall
          go_wp2
          exact ⟨⟨4, s', by omega, rfl, HN, s4⟩, by simp [intOf]⟩
      · have hcall := ros_st h1 hv' hx g.here
        have ck : wr.cell? ⟨n6, 4, none⟩ = some (.func (.func 91) #[.pointer (some ⟨n5, 0, none⟩)] #[]) := hc 4
        clear hc
        cases hst : rdStep xs 4 s with
        | none =>
          rw [hst] at hcall
          have hX : X = none := by
            rw [← HX.out]
            refine get_none (k := 5) (by omega) ?_
            show (after xs 4).bind _ = none
            rw [HS.out]
            exact hst
          subst hX
          clear hst HS HX hv hv' g h1
          go_wp2_with fail
          refine hcall.mono ?_
          rintro e w4 ⟨rfl, s4⟩
          have hcatch := catch11_oops n n2 n3 n4 w4 d12 d13 d14 d23 d24 d34 (St.box (s4.front 4)) (St.box (s4.front 3)) (St.box (s4.front 2)) (St.box (s4.front 1))
          have t1 := s4.front 4
          have t2 := ((((((((t1.setBoxAt 0 (.bool false)).setBoxAt 1 (.int .u32 0)).setBoxAt 2 (.int .u8 0)).setBoxAt 3 (.int .u8 0)).setBoxAt 4 (.slice none 0 0)).setBoxAt 5 (.string ⟨#[]⟩)).setBoxAt 6 (.string ⟨#[]⟩)).setBoxAt 7 (.int .u8 0)).setBoxAt 8 (.bool false)
          have t3 := (t2.front 4).setBoxAt 0 (.int .i64 0)
          have t4 := (t3.front 4).setBoxAt 0 (.bool false)
          have t5 := (t4.front 4).setBoxAt 0 (.int .i64 2)
          clear t1 t2 t3 t4 s4 hcall
          go_wp2
          refine leaves_cons (f := 86) (args := #[.pointer (some ⟨n, 0, none⟩), .pointer (some ⟨n2, 0, none⟩), .pointer (some ⟨n3, 0, none⟩), .pointer (some ⟨n4, 0, none⟩)]) (by simp) (by simp [go_sem]) ?_
          refine hcatch.mono ?_
          rintro e u' w'' ⟨rfl, rfl, hw⟩
          rw [← hw] at t5
          clear hw hcatch
          replace t5 : St B w0 w'' (boxT n4 #[.int .i64 2] 22 :: boxT n3 #[.bool false] 4 :: boxT n2 #[.int .i64 0] 3 :: boxT n noHead 80 :: boxT n6 (reads n5) 1 :: r) := t5
          have e0 : w''.cell? ⟨n4, 0, none⟩ = some (.int .i64 2) := (t5.boxAt 0).1
          have e1 : w''.cell? ⟨n3, 0, none⟩ = some (.bool false) := (St.boxAt (t5.front 1) 0).1
          have e2 : w''.cell? ⟨n2, 0, none⟩ = some (.int .i64 0) := (St.boxAt (t5.front 2) 0).1
          have k0 : w''.cell? ⟨n, 0, none⟩ = some (.bool false) := (St.boxAt (t5.front 3) 0).1
          have k1 : w''.cell? ⟨n, 1, none⟩ = some (.int .u32 0) := (St.boxAt (t5.front 3) 1).1
          have k2 : w''.cell? ⟨n, 2, none⟩ = some (.int .u8 0) := (St.boxAt (t5.front 3) 2).1
          have k3 : w''.cell? ⟨n, 3, none⟩ = some (.int .u8 0) := (St.boxAt (t5.front 3) 3).1
          have k4 : w''.cell? ⟨n, 4, none⟩ = some (.slice none 0 0) := (St.boxAt (t5.front 3) 4).1
          have k5 : w''.cell? ⟨n, 5, none⟩ = some (.string ⟨#[]⟩) := (St.boxAt (t5.front 3) 5).1
          have k6 : w''.cell? ⟨n, 6, none⟩ = some (.string ⟨#[]⟩) := (St.boxAt (t5.front 3) 6).1
          have k7 : w''.cell? ⟨n, 7, none⟩ = some (.int .u8 0) := (St.boxAt (t5.front 3) 7).1
          have k8 : w''.cell? ⟨n, 8, none⟩ = some (.bool false) := (St.boxAt (t5.front 3) 8).1
          have hfin : GetSt B w0 r none (.returned (.tuple #[.agg noHead, .int .i64 0, .bool false, .int .i64 2])) w'' := ⟨rfl, t5.drop.drop.drop.drop.drop⟩
          clear t5
          simp [Leaves, settle, results, Tryz.results69, go_sem, e0, e1, e2, k0, k1, k2, k3, k4, k5, k6, k7, k8]
          exact hfin
        | some s' =>
          rw [hst] at hcall
          have hnx : after xs 5 = some s' := by
            show (after xs 4).bind _ = _
            rw [HS.out]
            exact hst
          have HN := Lib.hid hnx
          clear hst HS hnx hv hv' g h1
          go_wp2_with fail
          refine hcall.mono ?_
          rintro e w4 ⟨rfl, s4⟩
          clear hcall
          go_wp2
          exact ⟨⟨5, s', by omega, rfl, HN, s4⟩, by simp [intOf]⟩
      · have hcall := rextra_st h1 hv' hx g.here g.has
        have ck : wr.cell? ⟨n6, 5, none⟩ = some (.func (.func 92) #[.pointer (some ⟨n5, 0, none⟩)] #[]) := hc 5
        clear hc
        cases hst : rdStep xs 5 s with
        | none =>
          rw [hst] at hcall
          have hX : X = none := by
            rw [← HX.out]
            refine get_none (k := 6) (by omega) ?_
            show (after xs 5).bind _ = none
            rw [HS.out]
            exact hst
          subst hX
          clear hst HS HX hv hv' g h1
          go_wp2_with fail
          refine hcall.mono ?_
          rintro e w4 ⟨rfl, s4⟩
          have hcatch := catch11_oops n n2 n3 n4 w4 d12 d13 d14 d23 d24 d34 (St.box (s4.front 4)) (St.box (s4.front 3)) (St.box (s4.front 2)) (St.box (s4.front 1))
          have t1 := s4.front 4
          have t2 := ((((((((t1.setBoxAt 0 (.bool false)).setBoxAt 1 (.int .u32 0)).setBoxAt 2 (.int .u8 0)).setBoxAt 3 (.int .u8 0)).setBoxAt 4 (.slice none 0 0)).setBoxAt 5 (.string ⟨#[]⟩)).setBoxAt 6 (.string ⟨#[]⟩)).setBoxAt 7 (.int .u8 0)).setBoxAt 8 (.bool false)
          have t3 := (t2.front 4).setBoxAt 0 (.int .i64 0)
          have t4 := (t3.front 4).setBoxAt 0 (.bool false)
          have t5 := (t4.front 4).setBoxAt 0 (.int .i64 2)
          clear t1 t2 t3 t4 s4 hcall
          go_wp2
          refine leaves_cons (f := 86) (args := #[.pointer (some ⟨n, 0, none⟩), .pointer (some ⟨n2, 0, none⟩), .pointer (some ⟨n3, 0, none⟩), .pointer (some ⟨n4, 0, none⟩)]) (by simp) (by simp [go_sem]) ?_
          refine hcatch.mono ?_
          rintro e u' w'' ⟨rfl, rfl, hw⟩
          rw [← hw] at t5
          clear hw hcatch
          replace t5 : St B w0 w'' (boxT n4 #[.int .i64 2] 22 :: boxT n3 #[.bool false] 4 :: boxT n2 #[.int .i64 0] 3 :: boxT n noHead 80 :: boxT n6 (reads n5) 1 :: r) := t5
          have e0 : w''.cell? ⟨n4, 0, none⟩ = some (.int .i64 2) := (t5.boxAt 0).1
          have e1 : w''.cell? ⟨n3, 0, none⟩ = some (.bool false) := (St.boxAt (t5.front 1) 0).1
          have e2 : w''.cell? ⟨n2, 0, none⟩ = some (.int .i64 0) := (St.boxAt (t5.front 2) 0).1
          have k0 : w''.cell? ⟨n, 0, none⟩ = some (.bool false) := (St.boxAt (t5.front 3) 0).1
          have k1 : w''.cell? ⟨n, 1, none⟩ = some (.int .u32 0) := (St.boxAt (t5.front 3) 1).1
          have k2 : w''.cell? ⟨n, 2, none⟩ = some (.int .u8 0) := (St.boxAt (t5.front 3) 2).1
          have k3 : w''.cell? ⟨n, 3, none⟩ = some (.int .u8 0) := (St.boxAt (t5.front 3) 3).1
          have k4 : w''.cell? ⟨n, 4, none⟩ = some (.slice none 0 0) := (St.boxAt (t5.front 3) 4).1
          have k5 : w''.cell? ⟨n, 5, none⟩ = some (.string ⟨#[]⟩) := (St.boxAt (t5.front 3) 5).1
          have k6 : w''.cell? ⟨n, 6, none⟩ = some (.string ⟨#[]⟩) := (St.boxAt (t5.front 3) 6).1
          have k7 : w''.cell? ⟨n, 7, none⟩ = some (.int .u8 0) := (St.boxAt (t5.front 3) 7).1
          have k8 : w''.cell? ⟨n, 8, none⟩ = some (.bool false) := (St.boxAt (t5.front 3) 8).1
          have hfin : GetSt B w0 r none (.returned (.tuple #[.agg noHead, .int .i64 0, .bool false, .int .i64 2])) w'' := ⟨rfl, t5.drop.drop.drop.drop.drop⟩
          clear t5
          simp [Leaves, settle, results, Tryz.results69, go_sem, e0, e1, e2, k0, k1, k2, k3, k4, k5, k6, k7, k8]
          exact hfin
        | some s' =>
          rw [hst] at hcall
          have hnx : after xs 6 = some s' := by
            show (after xs 5).bind _ = _
            rw [HS.out]
            exact hst
          have HN := Lib.hid hnx
          clear hst HS hnx hv hv' g h1
          go_wp2_with fail
          refine hcall.mono ?_
          rintro e w4 ⟨rfl, s4⟩
          clear hcall
          go_wp2
          exact ⟨⟨6, s', by omega, rfl, HN, s4⟩, by simp [intOf]⟩
      · have hcall := rname_st h1 hv' hx g.here g.has
        have ck : wr.cell? ⟨n6, 6, none⟩ = some (.func (.func 93) #[.pointer (some ⟨n5, 0, none⟩)] #[]) := hc 6
        clear hc
        cases hst : rdStep xs 6 s with
        | none =>
          rw [hst] at hcall
          have hX : X = none := by
            rw [← HX.out]
            refine get_none (k := 7) (by omega) ?_
            show (after xs 6).bind _ = none
            rw [HS.out]
            exact hst
          subst hX
          clear hst HS HX hv hv' g h1
          go_wp2_with fail
          refine hcall.mono ?_
          rintro e w4 ⟨rfl, s4⟩
          have hcatch := catch11_oops n n2 n3 n4 w4 d12 d13 d14 d23 d24 d34 (St.box (s4.front 4)) (St.box (s4.front 3)) (St.box (s4.front 2)) (St.box (s4.front 1))
          have t1 := s4.front 4
          have t2 := ((((((((t1.setBoxAt 0 (.bool false)).setBoxAt 1 (.int .u32 0)).setBoxAt 2 (.int .u8 0)).setBoxAt 3 (.int .u8 0)).setBoxAt 4 (.slice none 0 0)).setBoxAt 5 (.string ⟨#[]⟩)).setBoxAt 6 (.string ⟨#[]⟩)).setBoxAt 7 (.int .u8 0)).setBoxAt 8 (.bool false)
          have t3 := (t2.front 4).setBoxAt 0 (.int .i64 0)
          have t4 := (t3.front 4).setBoxAt 0 (.bool false)
          have t5 := (t4.front 4).setBoxAt 0 (.int .i64 2)
          clear t1 t2 t3 t4 s4 hcall
          go_wp2
          refine leaves_cons (f := 86) (args := #[.pointer (some ⟨n, 0, none⟩), .pointer (some ⟨n2, 0, none⟩), .pointer (some ⟨n3, 0, none⟩), .pointer (some ⟨n4, 0, none⟩)]) (by simp) (by simp [go_sem]) ?_
          refine hcatch.mono ?_
          rintro e u' w'' ⟨rfl, rfl, hw⟩
          rw [← hw] at t5
          clear hw hcatch
          replace t5 : St B w0 w'' (boxT n4 #[.int .i64 2] 22 :: boxT n3 #[.bool false] 4 :: boxT n2 #[.int .i64 0] 3 :: boxT n noHead 80 :: boxT n6 (reads n5) 1 :: r) := t5
          have e0 : w''.cell? ⟨n4, 0, none⟩ = some (.int .i64 2) := (t5.boxAt 0).1
          have e1 : w''.cell? ⟨n3, 0, none⟩ = some (.bool false) := (St.boxAt (t5.front 1) 0).1
          have e2 : w''.cell? ⟨n2, 0, none⟩ = some (.int .i64 0) := (St.boxAt (t5.front 2) 0).1
          have k0 : w''.cell? ⟨n, 0, none⟩ = some (.bool false) := (St.boxAt (t5.front 3) 0).1
          have k1 : w''.cell? ⟨n, 1, none⟩ = some (.int .u32 0) := (St.boxAt (t5.front 3) 1).1
          have k2 : w''.cell? ⟨n, 2, none⟩ = some (.int .u8 0) := (St.boxAt (t5.front 3) 2).1
          have k3 : w''.cell? ⟨n, 3, none⟩ = some (.int .u8 0) := (St.boxAt (t5.front 3) 3).1
          have k4 : w''.cell? ⟨n, 4, none⟩ = some (.slice none 0 0) := (St.boxAt (t5.front 3) 4).1
          have k5 : w''.cell? ⟨n, 5, none⟩ = some (.string ⟨#[]⟩) := (St.boxAt (t5.front 3) 5).1
          have k6 : w''.cell? ⟨n, 6, none⟩ = some (.string ⟨#[]⟩) := (St.boxAt (t5.front 3) 6).1
          have k7 : w''.cell? ⟨n, 7, none⟩ = some (.int .u8 0) := (St.boxAt (t5.front 3) 7).1
          have k8 : w''.cell? ⟨n, 8, none⟩ = some (.bool false) := (St.boxAt (t5.front 3) 8).1
          have hfin : GetSt B w0 r none (.returned (.tuple #[.agg noHead, .int .i64 0, .bool false, .int .i64 2])) w'' := ⟨rfl, t5.drop.drop.drop.drop.drop⟩
          clear t5
          simp [Leaves, settle, results, Tryz.results69, go_sem, e0, e1, e2, k0, k1, k2, k3, k4, k5, k6, k7, k8]
          exact hfin
        | some s' =>
          rw [hst] at hcall
          have hnx : after xs 7 = some s' := by
            show (after xs 6).bind _ = _
            rw [HS.out]
            exact hst
          have HN := Lib.hid hnx
          clear hst HS hnx hv hv' g h1
          go_wp2_with fail
          refine hcall.mono ?_
          rintro e w4 ⟨rfl, s4⟩
          clear hcall
          go_wp2
          exact ⟨⟨7, s', by omega, rfl, HN, s4⟩, by simp [intOf]⟩
      · have hcall := rcomment_st h1 hv' hx g.here g.has
        have ck : wr.cell? ⟨n6, 7, none⟩ = some (.func (.func 94) #[.pointer (some ⟨n5, 0, none⟩)] #[]) := hc 7
        clear hc
        cases hst : rdStep xs 7 s with
        | none =>
          rw [hst] at hcall
          have hX : X = none := by
            rw [← HX.out]
            refine get_none (k := 8) (by omega) ?_
            show (after xs 7).bind _ = none
            rw [HS.out]
            exact hst
          subst hX
          clear hst HS HX hv hv' g h1
          go_wp2_with fail
          refine hcall.mono ?_
          rintro e w4 ⟨rfl, s4⟩
          have hcatch := catch11_oops n n2 n3 n4 w4 d12 d13 d14 d23 d24 d34 (St.box (s4.front 4)) (St.box (s4.front 3)) (St.box (s4.front 2)) (St.box (s4.front 1))
          have t1 := s4.front 4
          have t2 := ((((((((t1.setBoxAt 0 (.bool false)).setBoxAt 1 (.int .u32 0)).setBoxAt 2 (.int .u8 0)).setBoxAt 3 (.int .u8 0)).setBoxAt 4 (.slice none 0 0)).setBoxAt 5 (.string ⟨#[]⟩)).setBoxAt 6 (.string ⟨#[]⟩)).setBoxAt 7 (.int .u8 0)).setBoxAt 8 (.bool false)
          have t3 := (t2.front 4).setBoxAt 0 (.int .i64 0)
          have t4 := (t3.front 4).setBoxAt 0 (.bool false)
          have t5 := (t4.front 4).setBoxAt 0 (.int .i64 2)
          clear t1 t2 t3 t4 s4 hcall
          go_wp2
          refine leaves_cons (f := 86) (args := #[.pointer (some ⟨n, 0, none⟩), .pointer (some ⟨n2, 0, none⟩), .pointer (some ⟨n3, 0, none⟩), .pointer (some ⟨n4, 0, none⟩)]) (by simp) (by simp [go_sem]) ?_
          refine hcatch.mono ?_
          rintro e u' w'' ⟨rfl, rfl, hw⟩
          rw [← hw] at t5
          clear hw hcatch
          replace t5 : St B w0 w'' (boxT n4 #[.int .i64 2] 22 :: boxT n3 #[.bool false] 4 :: boxT n2 #[.int .i64 0] 3 :: boxT n noHead 80 :: boxT n6 (reads n5) 1 :: r) := t5
          have e0 : w''.cell? ⟨n4, 0, none⟩ = some (.int .i64 2) := (t5.boxAt 0).1
          have e1 : w''.cell? ⟨n3, 0, none⟩ = some (.bool false) := (St.boxAt (t5.front 1) 0).1
          have e2 : w''.cell? ⟨n2, 0, none⟩ = some (.int .i64 0) := (St.boxAt (t5.front 2) 0).1
          have k0 : w''.cell? ⟨n, 0, none⟩ = some (.bool false) := (St.boxAt (t5.front 3) 0).1
          have k1 : w''.cell? ⟨n, 1, none⟩ = some (.int .u32 0) := (St.boxAt (t5.front 3) 1).1
          have k2 : w''.cell? ⟨n, 2, none⟩ = some (.int .u8 0) := (St.boxAt (t5.front 3) 2).1
          have k3 : w''.cell? ⟨n, 3, none⟩ = some (.int .u8 0) := (St.boxAt (t5.front 3) 3).1
          have k4 : w''.cell? ⟨n, 4, none⟩ = some (.slice none 0 0) := (St.boxAt (t5.front 3) 4).1
          have k5 : w''.cell? ⟨n, 5, none⟩ = some (.string ⟨#[]⟩) := (St.boxAt (t5.front 3) 5).1
          have k6 : w''.cell? ⟨n, 6, none⟩ = some (.string ⟨#[]⟩) := (St.boxAt (t5.front 3) 6).1
          have k7 : w''.cell? ⟨n, 7, none⟩ = some (.int .u8 0) := (St.boxAt (t5.front 3) 7).1
          have k8 : w''.cell? ⟨n, 8, none⟩ = some (.bool false) := (St.boxAt (t5.front 3) 8).1
          have hfin : GetSt B w0 r none (.returned (.tuple #[.agg noHead, .int .i64 0, .bool false, .int .i64 2])) w'' := ⟨rfl, t5.drop.drop.drop.drop.drop⟩
          clear t5
          simp [Leaves, settle, results, Tryz.results69, go_sem, e0, e1, e2, k0, k1, k2, k3, k4, k5, k6, k7, k8]
          exact hfin
        | some s' =>
          rw [hst] at hcall
          have hnx : after xs 8 = some s' := by
            show (after xs 7).bind _ = _
            rw [HS.out]
            exact hst
          have HN := Lib.hid hnx
          clear hst HS hnx hv hv' g h1
          go_wp2_with fail
          refine hcall.mono ?_
          rintro e w4 ⟨rfl, s4⟩
          clear hcall
          go_wp2
          exact ⟨⟨8, s', by omega, rfl, HN, s4⟩, by simp [intOf]⟩
      · have hcall := rsum_st h1 hv' hx g.here
        have ck : wr.cell? ⟨n6, 8, none⟩ = some (.func (.func 95) #[.pointer (some ⟨n5, 0, none⟩)] #[]) := hc 8
        clear hc
        cases hst : rdStep xs 8 s with
        | none =>
          rw [hst] at hcall
          have hX : X = none := by
            rw [← HX.out]
            refine get_none (k := 9) (by omega) ?_
            show (after xs 8).bind _ = none
            rw [HS.out]
            exact hst
          subst hX
          clear hst HS HX hv hv' g h1
          go_wp2_with fail
          refine hcall.mono ?_
          rintro e w4 ⟨rfl, s4⟩
          have hcatch := catch11_oops n n2 n3 n4 w4 d12 d13 d14 d23 d24 d34 (St.box (s4.front 4)) (St.box (s4.front 3)) (St.box (s4.front 2)) (St.box (s4.front 1))
          have t1 := s4.front 4
          have t2 := ((((((((t1.setBoxAt 0 (.bool false)).setBoxAt 1 (.int .u32 0)).setBoxAt 2 (.int .u8 0)).setBoxAt 3 (.int .u8 0)).setBoxAt 4 (.slice none 0 0)).setBoxAt 5 (.string ⟨#[]⟩)).setBoxAt 6 (.string ⟨#[]⟩)).setBoxAt 7 (.int .u8 0)).setBoxAt 8 (.bool false)
          have t3 := (t2.front 4).setBoxAt 0 (.int .i64 0)
          have t4 := (t3.front 4).setBoxAt 0 (.bool false)
          have t5 := (t4.front 4).setBoxAt 0 (.int .i64 2)
          clear t1 t2 t3 t4 s4 hcall
          go_wp2
          refine leaves_cons (f := 86) (args := #[.pointer (some ⟨n, 0, none⟩), .pointer (some ⟨n2, 0, none⟩), .pointer (some ⟨n3, 0, none⟩), .pointer (some ⟨n4, 0, none⟩)]) (by simp) (by simp [go_sem]) ?_
          refine hcatch.mono ?_
          rintro e u' w'' ⟨rfl, rfl, hw⟩
          rw [← hw] at t5
          clear hw hcatch
          replace t5 : St B w0 w'' (boxT n4 #[.int .i64 2] 22 :: boxT n3 #[.bool false] 4 :: boxT n2 #[.int .i64 0] 3 :: boxT n noHead 80 :: boxT n6 (reads n5) 1 :: r) := t5
          have e0 : w''.cell? ⟨n4, 0, none⟩ = some (.int .i64 2) := (t5.boxAt 0).1
          have e1 : w''.cell? ⟨n3, 0, none⟩ = some (.bool false) := (St.boxAt (t5.front 1) 0).1
          have e2 : w''.cell? ⟨n2, 0, none⟩ = some (.int .i64 0) := (St.boxAt (t5.front 2) 0).1
          have k0 : w''.cell? ⟨n, 0, none⟩ = some (.bool false) := (St.boxAt (t5.front 3) 0).1
          have k1 : w''.cell? ⟨n, 1, none⟩ = some (.int .u32 0) := (St.boxAt (t5.front 3) 1).1
          have k2 : w''.cell? ⟨n, 2, none⟩ = some (.int .u8 0) := (St.boxAt (t5.front 3) 2).1
          have k3 : w''.cell? ⟨n, 3, none⟩ = some (.int .u8 0) := (St.boxAt (t5.front 3) 3).1
          have k4 : w''.cell? ⟨n, 4, none⟩ = some (.slice none 0 0) := (St.boxAt (t5.front 3) 4).1
          have k5 : w''.cell? ⟨n, 5, none⟩ = some (.string ⟨#[]⟩) := (St.boxAt (t5.front 3) 5).1
          have k6 : w''.cell? ⟨n, 6, none⟩ = some (.string ⟨#[]⟩) := (St.boxAt (t5.front 3) 6).1
          have k7 : w''.cell? ⟨n, 7, none⟩ = some (.int .u8 0) := (St.boxAt (t5.front 3) 7).1
          have k8 : w''.cell? ⟨n, 8, none⟩ = some (.bool false) := (St.boxAt (t5.front 3) 8).1
          have hfin : GetSt B w0 r none (.returned (.tuple #[.agg noHead, .int .i64 0, .bool false, .int .i64 2])) w'' := ⟨rfl, t5.drop.drop.drop.drop.drop⟩
          clear t5
          simp [Leaves, settle, results, Tryz.results69, go_sem, e0, e1, e2, k0, k1, k2, k3, k4, k5, k6, k7, k8]
          exact hfin
        | some s' =>
          rw [hst] at hcall
          have hnx : after xs 9 = some s' := by
            show (after xs 8).bind _ = _
            rw [HS.out]
            exact hst
          have HN := Lib.hid hnx
          clear hst HS hnx hv hv' g h1
          go_wp2_with fail
          refine hcall.mono ?_
          rintro e w4 ⟨rfl, s4⟩
          clear hcall
          go_wp2
          exact ⟨⟨9, s', by omega, rfl, HN, s4⟩, by simp [intOf]⟩
    · obtain rfl : k = 9 := by omega
      have hX : X = some s := by rw [← HX.out]; exact HS.out
      subst hX
      clear HX HS hv hv' hbyte g hlt hk
      obtain ⟨ev, s6⟩ := h1
      obtain ⟨p, h, wr'⟩ := s
      simp only at s6
      obtain ⟨ea, ec, hev⟩ : ∃ a c, ev = .slice a h.extra.length c := ownsRow_slice s6.swap.row
      subst hev
      have hS : ∀ W T, St B w0 W (boxT n5 (rdrC (.slice va xs.length vc) p h (.slice ea h.extra.length ec) wr') 141 :: T) → ((W.cell? ⟨n5, 1, none⟩ = some (.int .i64 (p : Int))) ∧ W.cell? ⟨n5, 2, none⟩ = some (.bool h.text) ∧ W.cell? ⟨n5, 3, none⟩ = some (.int .u32 (h.time : Int)) ∧ W.cell? ⟨n5, 4, none⟩ = some (.int .u8 (h.xfl : Int)) ∧ W.cell? ⟨n5, 5, none⟩ = some (.int .u8 (h.os : Int)) ∧ W.cell? ⟨n5, 6, none⟩ = some (.slice ea h.extra.length ec) ∧ W.cell? ⟨n5, 7, none⟩ = some (.string (strOf h.name)) ∧ W.cell? ⟨n5, 8, none⟩ = some (.string (strOf h.comment)) ∧ W.cell? ⟨n5, 9, none⟩ = some (.int .u8 (h.has : Int)) ∧ W.cell? ⟨n5, 10, none⟩ = some (.bool h.sum) ∧ W.cell? ⟨n5, 11, none⟩ = some (.bool wr')) := fun W T t => ⟨(t.boxAt 1).1, (t.boxAt 2).1, (t.boxAt 3).1, (t.boxAt 4).1, (t.boxAt 5).1, (t.boxAt 6).1, (t.boxAt 7).1, (t.boxAt 8).1, (t.boxAt 9).1, (t.boxAt 10).1, (t.boxAt 11).1⟩
      go_wp2
      refine wp_calm11 ?_
      refine region_seg (by kernel_rfl) [0, 4, 8] 13 rfl (by kernel_rfl) (by kernel_rfl) (fun _ _ d _ _ h => h.elim) ?_
      have s7 := s6.drew
      have x1 := hS _ _ s7
      clear s6
      generalize wr.drew = wd at *
      intro K hK
      simp only [pickL, List.getElem?_cons_zero, List.getElem?_cons_succ]
      go_wp2_with fail
      try clear hK K
      refine wpAny_of_held (S := fun W => (W.cell? ⟨n5, 1, none⟩ = some (.int .i64 (p : Int))) ∧ W.cell? ⟨n5, 2, none⟩ = some (.bool h.text) ∧ W.cell? ⟨n5, 3, none⟩ = some (.int .u32 (h.time : Int)) ∧ W.cell? ⟨n5, 4, none⟩ = some (.int .u8 (h.xfl : Int)) ∧ W.cell? ⟨n5, 5, none⟩ = some (.int .u8 (h.os : Int)) ∧ W.cell? ⟨n5, 6, none⟩ = some (.slice ea h.extra.length ec) ∧ W.cell? ⟨n5, 7, none⟩ = some (.string (strOf h.name)) ∧ W.cell? ⟨n5, 8, none⟩ = some (.string (strOf h.comment)) ∧ W.cell? ⟨n5, 9, none⟩ = some (.int .u8 (h.has : Int)) ∧ W.cell? ⟨n5, 10, none⟩ = some (.bool h.sum) ∧ W.cell? ⟨n5, 11, none⟩ = some (.bool wr')) _ _ _ _ ?_
      refine wpAnyH_take (i := 1) (v := .pointer (some ⟨n5, 0, none⟩)) rfl (by kernel_rfl) (by kernel_rfl) (by kernel_rfl) (fun _ _ _ h => h) (.inl ⟨by kernel_rfl, fun W hW => by obtain ⟨q0, q1, q2, q3, q4, q5, q6, q7, q8, q9, q10⟩ := hW; go_simp⟩) x1 ?_
      refine wpAnyH_take (i := 2) (v := .pointer (some ⟨n5, 2, none⟩)) rfl (by kernel_rfl) (by kernel_rfl) (by kernel_rfl) (fun _ _ _ h => h) (.inl ⟨by kernel_rfl, fun W hW => by obtain ⟨q0, q1, q2, q3, q4, q5, q6, q7, q8, q9, q10⟩ := hW; go_simp⟩) x1 ?_
      refine wpAnyH_take (i := 3) (v := .agg (headC h (.slice ea h.extra.length ec))) rfl (by kernel_rfl) (by kernel_rfl) (by kernel_rfl) (fun _ _ _ h => h) (.inl ⟨by kernel_rfl, fun W hW => by obtain ⟨q0, q1, q2, q3, q4, q5, q6, q7, q8, q9, q10⟩ := hW; go_simp⟩) x1 ?_
      refine wpAnyH_take (i := 5) (v := .pointer (some ⟨n5, 0, none⟩)) rfl (by kernel_rfl) (by kernel_rfl) (by kernel_rfl) (fun _ _ _ h => h) (.inl ⟨by kernel_rfl, fun W hW => by obtain ⟨q0, q1, q2, q3, q4, q5, q6, q7, q8, q9, q10⟩ := hW; go_simp⟩) x1 ?_
      refine wpAnyH_take (i := 6) (v := .pointer (some ⟨n5, 1, none⟩)) rfl (by kernel_rfl) (by kernel_rfl) (by kernel_rfl) (fun _ _ _ h => h) (.inl ⟨by kernel_rfl, fun W hW => by obtain ⟨q0, q1, q2, q3, q4, q5, q6, q7, q8, q9, q10⟩ := hW; go_simp⟩) x1 ?_
      refine wpAnyH_take (i := 7) (v := .int .i64 (p : Int)) rfl (by kernel_rfl) (by kernel_rfl) (by kernel_rfl) (fun _ _ _ h => h) (.inl ⟨by kernel_rfl, fun W hW => by obtain ⟨q0, q1, q2, q3, q4, q5, q6, q7, q8, q9, q10⟩ := hW; go_simp⟩) x1 ?_
      refine wpAnyH_take (i := 9) (v := .pointer (some ⟨n5, 0, none⟩)) rfl (by kernel_rfl) (by kernel_rfl) (by kernel_rfl) (fun _ _ _ h => h) (.inl ⟨by kernel_rfl, fun W hW => by obtain ⟨q0, q1, q2, q3, q4, q5, q6, q7, q8, q9, q10⟩ := hW; go_simp⟩) x1 ?_
      refine wpAnyH_take (i := 10) (v := .pointer (some ⟨n5, 11, none⟩)) rfl (by kernel_rfl) (by kernel_rfl) (by kernel_rfl) (fun _ _ _ h => h) (.inl ⟨by kernel_rfl, fun W hW => by obtain ⟨q0, q1, q2, q3, q4, q5, q6, q7, q8, q9, q10⟩ := hW; go_simp⟩) x1 ?_
      refine wpAnyH_take (i := 11) (v := .bool wr') rfl (by kernel_rfl) (by kernel_rfl) (by kernel_rfl) (fun _ _ _ h => h) (.inl ⟨by kernel_rfl, fun W hW => by obtain ⟨q0, q1, q2, q3, q4, q5, q6, q7, q8, q9, q10⟩ := hW; go_simp⟩) x1 ?_
      refine held_step (j := 12) _ (by kernel_rfl) rfl ?_
      intro N1 hN1
      have s8 := s7.front 6
      have k0 : wd.cell? ⟨n, 0, none⟩ = some (.bool false) := (St.boxAt s8 0).1
      have z0 := (St.boxAt s8 0).2
      have k1 : wd.cell? ⟨n, 1, none⟩ = some (.int .u32 0) := (St.boxAt s8 1).1
      have z1 := (St.boxAt s8 1).2
      have k2 : wd.cell? ⟨n, 2, none⟩ = some (.int .u8 0) := (St.boxAt s8 2).1
      have z2 := (St.boxAt s8 2).2
      have k3 : wd.cell? ⟨n, 3, none⟩ = some (.int .u8 0) := (St.boxAt s8 3).1
      have z3 := (St.boxAt s8 3).2
      have k4 : wd.cell? ⟨n, 4, none⟩ = some (.slice none 0 0) := (St.boxAt s8 4).1
      have z4 := (St.boxAt s8 4).2
      have k5 : wd.cell? ⟨n, 5, none⟩ = some (.string ⟨#[]⟩) := (St.boxAt s8 5).1
      have z5 := (St.boxAt s8 5).2
      have k6 : wd.cell? ⟨n, 6, none⟩ = some (.string ⟨#[]⟩) := (St.boxAt s8 6).1
      have z6 := (St.boxAt s8 6).2
      have k7 : wd.cell? ⟨n, 7, none⟩ = some (.int .u8 0) := (St.boxAt s8 7).1
      have z7 := (St.boxAt s8 7).2
      have k8 : wd.cell? ⟨n, 8, none⟩ = some (.bool false) := (St.boxAt s8 8).1
      have z8 := (St.boxAt s8 8).2
      have s9 := (((((((((s8.setBoxAt 0 (.bool h.text)).setBoxAt 1 (.int .u32 (h.time : Int))).setBoxAt 2 (.int .u8 (h.xfl : Int))).setBoxAt 3 (.int .u8 (h.os : Int))).setBoxAt 4 (.slice ea h.extra.length ec)).setBoxAt 5 (.string (strOf h.name))).setBoxAt 6 (.string (strOf h.comment))).setBoxAt 7 (.int .u8 (h.has : Int))).setBoxAt 8 (.bool h.sum))
      go_wp2_with fail
      generalize ((((((((wd.setCell ⟨n, 0, none⟩ (.bool h.text)).setCell ⟨n, 1, none⟩ (.int .u32 (h.time : Int))).setCell ⟨n, 2, none⟩ (.int .u8 (h.xfl : Int))).setCell ⟨n, 3, none⟩ (.int .u8 (h.os : Int))).setCell ⟨n, 4, none⟩ (.slice ea h.extra.length ec)).setCell ⟨n, 5, none⟩ (.string (strOf h.name))).setCell ⟨n, 6, none⟩ (.string (strOf h.comment))).setCell ⟨n, 7, none⟩ (.int .u8 (h.has : Int))).setCell ⟨n, 8, none⟩ (.bool h.sum) = we at s9 ⊢
      replace s9 : St B w0 we (boxT n (headC h (.slice ea h.extra.length ec)) 80 :: boxT n5 (rdrC (.slice va xs.length vc) p h (.slice ea h.extra.length ec) wr') 141 :: rowT 5 1 (.slice ea h.extra.length ec) h.extra.length (u8s h.extra) :: boxT n6 (reads n5) 1 :: boxT n4 #[.int .i64 0] 22 :: boxT n3 #[.bool false] 4 :: boxT n2 #[.int .i64 0] 3 :: r) := s9
      have x2 := hS _ _ s9.swap
      refine hN1 _ _ x2 ?_
      try clear hN1 N1
      clear k0 z0 k1 z1 k2 z2 k3 z3 k4 z4 k5 z5 k6 z6 k7 z7 k8 z8 s8 s7 x1
      refine held_step (j := 13) _ (by kernel_rfl) rfl ?_
      intro N2 hN2
      have t13 := s9.front 6
      have d0 : we.cell? ⟨n2, 0, none⟩ = some (.int .i64 0) := (St.boxAt t13 0).1
      have d1 := (St.boxAt t13 0).2
      have sA := t13.setBoxAt 0 (.int .i64 (p : Int))
      go_wp2_with fail
      generalize we.setCell ⟨n2, 0, none⟩ (.int .i64 (p : Int)) = wf at sA ⊢
      replace sA : St B w0 wf (boxT n2 #[.int .i64 (p : Int)] 3 :: boxT n (headC h (.slice ea h.extra.length ec)) 80 :: boxT n5 (rdrC (.slice va xs.length vc) p h (.slice ea h.extra.length ec) wr') 141 :: rowT 5 1 (.slice ea h.extra.length ec) h.extra.length (u8s h.extra) :: boxT n6 (reads n5) 1 :: boxT n4 #[.int .i64 0] 22 :: boxT n3 #[.bool false] 4 :: r) := sA
      have x3 := hS _ _ (sA.front 2)
      refine hN2 _ _ x3 ?_
      try clear hN2 N2
      clear d0 d1 t13 s9 x2
      refine held_step (j := 14) _ (by kernel_rfl) rfl ?_
      intro N3 hN3
      have t14 := sA.front 6
      have d0 : wf.cell? ⟨n3, 0, none⟩ = some (.bool false) := (St.boxAt t14 0).1
      have d1 := (St.boxAt t14 0).2
      have sB := t14.setBoxAt 0 (.bool wr')
      go_wp2_with fail
      generalize wf.setCell ⟨n3, 0, none⟩ (.bool wr') = wg at sB ⊢
      replace sB : St B w0 wg (boxT n3 #[.bool wr'] 4 :: boxT n2 #[.int .i64 (p : Int)] 3 :: boxT n (headC h (.slice ea h.extra.length ec)) 80 :: boxT n5 (rdrC (.slice va xs.length vc) p h (.slice ea h.extra.length ec) wr') 141 :: rowT 5 1 (.slice ea h.extra.length ec) h.extra.length (u8s h.extra) :: boxT n6 (reads n5) 1 :: boxT n4 #[.int .i64 0] 22 :: r) := sB
      have x4 := hS _ _ (sB.front 3)
      refine hN3 _ _ x4 ?_
      try clear hN3 N3
      clear d0 d1 t14 sA x3
      refine held_step (j := 15) _ (by kernel_rfl) rfl ?_
      intro N4 hN4
      have t15 := sB.front 6
      have d0 : wg.cell? ⟨n4, 0, none⟩ = some (.int .i64 0) := (St.boxAt t15 0).1
      have d1 := (St.boxAt t15 0).2
      have sC := t15.setBoxAt 0 (.int .i64 0)
      go_wp2_with fail
      generalize wg.setCell ⟨n4, 0, none⟩ (.int .i64 0) = wi at sC ⊢
      replace sC : St B w0 wi (boxT n4 #[.int .i64 0] 22 :: boxT n3 #[.bool wr'] 4 :: boxT n2 #[.int .i64 (p : Int)] 3 :: boxT n (headC h (.slice ea h.extra.length ec)) 80 :: boxT n5 (rdrC (.slice va xs.length vc) p h (.slice ea h.extra.length ec) wr') 141 :: rowT 5 1 (.slice ea h.extra.length ec) h.extra.length (u8s h.extra) :: boxT n6 (reads n5) 1 :: r) := sC
      have x5 := hS _ _ (sC.front 4)
      refine hN4 _ _ x5 ?_
      try clear hN4 N4
      clear d0 d1 t15 sB x4
      clear x5 hS
      refine wpAnyH_done (by kernel_rfl) ?_ 0
      show Exit.then _ _ Exit.normal _ _
      go_wp2
      refine leaves_cons (f := 86) (args := #[.pointer (some ⟨n, 0, none⟩), .pointer (some ⟨n2, 0, none⟩), .pointer (some ⟨n3, 0, none⟩), .pointer (some ⟨n4, 0, none⟩)]) (by simp) (by simp [go_sem]) ?_
      refine (catch11_idle n n2 n3 n4 wi).mono ?_
      rintro e u' w'' ⟨rfl, rfl, rfl⟩
      have e0 : w''.cell? ⟨n4, 0, none⟩ = some (.int .i64 0) := (sC.boxAt 0).1
      have e1 : w''.cell? ⟨n3, 0, none⟩ = some (.bool wr') := (St.boxAt (sC.front 1) 0).1
      have e2 : w''.cell? ⟨n2, 0, none⟩ = some (.int .i64 (p : Int)) := (St.boxAt (sC.front 2) 0).1
      have k0 : w''.cell? ⟨n, 0, none⟩ = some (.bool h.text) := (St.boxAt (sC.front 3) 0).1
      have k1 : w''.cell? ⟨n, 1, none⟩ = some (.int .u32 (h.time : Int)) := (St.boxAt (sC.front 3) 1).1
      have k2 : w''.cell? ⟨n, 2, none⟩ = some (.int .u8 (h.xfl : Int)) := (St.boxAt (sC.front 3) 2).1
      have k3 : w''.cell? ⟨n, 3, none⟩ = some (.int .u8 (h.os : Int)) := (St.boxAt (sC.front 3) 3).1
      have k4 : w''.cell? ⟨n, 4, none⟩ = some (.slice ea h.extra.length ec) := (St.boxAt (sC.front 3) 4).1
      have k5 : w''.cell? ⟨n, 5, none⟩ = some (.string (strOf h.name)) := (St.boxAt (sC.front 3) 5).1
      have k6 : w''.cell? ⟨n, 6, none⟩ = some (.string (strOf h.comment)) := (St.boxAt (sC.front 3) 6).1
      have k7 : w''.cell? ⟨n, 7, none⟩ = some (.int .u8 (h.has : Int)) := (St.boxAt (sC.front 3) 7).1
      have k8 : w''.cell? ⟨n, 8, none⟩ = some (.bool h.sum) := (St.boxAt (sC.front 3) 8).1
      have hfin : GetSt B w0 r (some ⟨p, h, wr'⟩) (.returned (.tuple #[.agg (headC h (.slice ea h.extra.length ec)), .int .i64 (p : Int), .bool wr', .int .i64 0])) w'' := ⟨(.slice ea h.extra.length ec), rfl, sC.drop.drop.drop.drop.drop.swap.drop⟩
      clear sC
      simp [Leaves, settle, results, Tryz.results69, go_sem, e0, e1, e2, k0, k1, k2, k3, k4, k5, k6, k7, k8]
      exact hfin

end
end Go.Proofs.YtpinfihmageeoaaGreat.Fr
