/-
  Contract of package sufsort: sorted: all places in the order of the texts from there on. No conditions but that rows are small.
-/
import Derived.Test.YtfifkbadniekfaaSufE
namespace Go.Proofs.Ytfifkbadniekfaa.Suf
open Go.RowKit

theorem pairOne_enters (args : Array Value) (w : World) : (callFunc 31 args).run Try.prog w = .ok (.enter 31 args) w := by
  simp [callFunc, Try.func31, Try.f31]

theorem pairTwo_enters (args : Array Value) (w : World) : (callFunc 32 args).run Try.prog w = .ok (.enter 32 args) w := by
  simp [callFunc, Try.func32, Try.f32]

/-- What sorted leaves: a new row of all places in the order of the texts from there on. -/
def OrderSt (B : Nat) (w0 : World) (r : List Thing) (rot : Bool) (b : List Nat) (en : Ending) (w' : World) : Prop := ∃ O, Whole b.length (Ahead rot b) O ∧ NumsNew B w0 r O en w'

section
variable {B : Nat} {w0 w : World} {r : List Thing}

set_option maxRecDepth 100000 in
set_option maxHeartbeats 8000000 in
theorem sorted_st (rot : Bool) (st : St B w0 w r) (v : Value) (b : List Nat) (hv : ∀ W, St B w0 W r → ByteRow W v b) (hb : b.length ≤ 400000) (G : Nat) (cap : Value)
    (hent : ∀ (args : Array Value) (w : World), (callFunc G args).run Try.prog w = .ok (.enter G args) w)
    (hbeh : ∀ W, St B w0 W r → ∀ p d, p < b.length → d ≤ b.length → Calls Try.prog G #[.int .i64 (p : Int), .int .i64 (d : Int), cap] W fun e w' => e = .returned (.int .i64 (beh rot b.length p d : Int)) ∧ w' = W) :
    Calls Try.prog 23 #[v, .func (.func G) #[] #[cap]] w (OrderSt B w0 r rot b) := by
  obtain ⟨i0, hi, hz0, hz1, hz2⟩ := info_parts infoI
  have hbyte := (hv w st).byte
  obtain ⟨n, hn⟩ : ∃ n, b.length = n := ⟨_, rfl⟩
  have hmk : i0.bytes * n ≤ 281474976710656 := by rw [hz2]; omega
  have hmx : n ≤ maxLen := by unfold maxLen; omega
  obtain ⟨va, vc, rfl⟩ : ∃ a c, v = .slice a b.length c := by obtain ⟨a, c, e, _⟩ := hv w st; exact ⟨a, c, e⟩
  have hread : ∀ W, St B w0 W r → ∀ k, k < n → nth b k < 256 ∧ ∃ g off, va = some ⟨g, off, none⟩ ∧ W.cell? ⟨g, off + k, none⟩ = some (.int .u8 (nth b k : Int)) := by
    intro W t k h
    rw [← hn] at h
    obtain ⟨a, c, e, _, _, hat⟩ := hv W t
    obtain ⟨rfl, -, -⟩ := Value.slice.inj e
    obtain ⟨e0, g, off, e1, e2⟩ := hat k h
    rw [nth_lt h]
    exact ⟨e0, g, off, e1, e2⟩
  have HR := Lib.hid hread
  clear hread hv
  have HBY := Lib.hid hbyte
  clear hbyte
  rw [hn] at hbeh
  have HB := Lib.hid hbeh
  clear hbeh
  rw [hn]
  rw [hn] at hb
  have HN := Lib.hid hn
  have hfl := firsts_length b
  rw [hn] at hfl
  clear hn
  go_enter Try.func23, Try.ntmps23
  go_wp2_with fail
  refine (rising_st st n (by omega)).mono ?_
  rintro e w1 ⟨gp, rfl, s1⟩
  rw [List.length_range] at s1
  clear st
  go_wp2_with (at_make; refine wpList_make_full _ rfl _ _ 23 rfl w1.heap.size 3 i0 (.int .i64 0) 1 Try.underlying23 hi hz0 hz1 _ _ _ _ n rfl rfl rfl rfl hmk hmx (Nat.le_refl _) ?_)
  intro w2 hown hg
  have s2 := s1.madeNums hown hg
  rw [tab_zeros n (fun i => if i < 0 then 1 + nth b i else 0) (fun v _ => by simp)] at s2
  clear hown hg s1
  generalize w1.heap.size = gf at s2
  obtain ⟨fb, hfb⟩ : ∃ x, w2.heap.size = x := ⟨_, rfl⟩
  have s3 := s2.newBox #[.slice (some ⟨gf, 0, none⟩) n n] 23
  rw [hfb] at s3
  go_wp2
  generalize hw3 : w2.alloc (.cells #[.slice (some ⟨gf, 0, none⟩) n n] 23) = w3 at *
  clear s2 hfb hw3
  go_loopw [7, 8, 25] (fun _ _ i wr => ∃ k : Nat, k ≤ n ∧ i = .int .i64 (k : Int) ∧ St B w0 wr (boxT fb #[.slice (some ⟨gf, 0, none⟩) n n] 23 :: numsT 3 gf n (tab n fun i => if i < k then 1 + nth b i else 0) :: numsT 3 gp n (List.range n) :: r)) (fun _ _ i _ => n - (intOf i).toNat)
  case atStart => exact ⟨0, by omega, rfl, s3⟩
  case round =>
    obtain ⟨k, hk, rfl, s4⟩ := hrel
    clear s3
    by_cases hlt : k < n
    · obtain ⟨hy, g, off, rfl, c0⟩ := HR.out wr s4.drop.drop.drop k hlt
      have hset := tab_set n (fun i => if i < k then 1 + nth b i else 0) (fun i => if i < k + 1 then 1 + nth b i else 0) k (1 + nth b k) (by simp) (fun v _ h => by show (if v < k + 1 then 1 + nth b v else 0) = (if v < k then 1 + nth b v else 0); split <;> split <;> omega)
      have k0 := (s4.boxAt 0).1
      obtain ⟨d0, f0⟩ := s4.swap.numCell k (tab_length ..) hlt
      have s5 := s4.swap.putNum k (1 + nth b k)
      rw [hset] at s5
      clear hset s4
      have HS := Lib.hid s5
      clear s5
      generalize (tab n fun i => if i < k then 1 + nth b i else 0)[k]'(by rw [tab_length]; omega) = z at d0
      generalize nth b k = y at *
      go_wp2
      go_roundw
      case rel => exact ⟨k + 1, by omega, by go_num, HS.out.swap⟩
      case measure => simp [intOf]; omega
    · obtain rfl : n = k := by omega
      rw [show (tab n fun i => if i < n then 1 + nth b i else 0) = firsts b from by unfold firsts; rw [HN.out]; exact tab_same _ _ _ fun v h => if_pos h] at s4
      have hX256 : ∀ p, p < n → nth (firsts b) p ≤ 256 := fun p hp => by
        rw [firsts_at b p (by rw [HN.out]; exact hp)]
        have := HBY.out _ (List.getElem_mem (show p < b.length by rw [HN.out]; exact hp))
        omega
      obtain ⟨X, hX⟩ : ∃ X, firsts b = X := ⟨_, rfl⟩
      rw [hX] at s4 hfl hX256
      have k0 := (s4.boxAt 0).1
      have hc := counted_st s4 (.slice (some ⟨gp, 0, none⟩) n n) (.slice (some ⟨gf, 0, none⟩) n n) (List.range n) X (fun W t => numsRow t.third List.length_range) (fun W t => numsRow t.swap hfl) 256 (by omega) (by rw [List.length_range]; omega) (fun p hp => by rw [hfl]; exact List.mem_range.1 hp) (fun p hp => hX256 p (List.mem_range.1 hp))
      have hw := bucket_whole (m := 256) (nth X) (range_whole n) (fun p hp => hX256 p (List.mem_range.1 hp))
      obtain ⟨O, hO⟩ : ∃ O, bucket (List.range n) (nth X) 256 = O := ⟨_, rfl⟩
      rw [hO] at hc hw
      have hOl := hw.len
      have HOl := Lib.hid hOl
      have HF := Lib.hid hfl
      have HX := Lib.hid hX
      have HX256 := Lib.hid hX256
      have HO := Lib.hid hO
      clear hfl hX hX256 hO hOl
      go_wp2_with fail
      refine hc.mono ?_
      rintro e w5 ⟨go, rfl, s5⟩
      clear hc s4 k0
      rw [HOl.out] at s5 ⊢
      have hmf : ∀ (fn : Fn) (first cap : Array Value) (w : World), (Instr.makeFunc fn first cap).run Try.prog w = .ok (.func fn first cap) w := fun _ _ _ _ => rfl
      have hr := ranked_st s5 (.slice (some ⟨go, 0, none⟩) n n) O (fun W t => numsRow t HOl.out) (by rw [HOl.out]; omega) (fun p hp => by rw [HOl.out]; exact hw.mem p hp) (hw.nodup (fun x h => by omega)) 31 #[.pointer (some ⟨fb, 0, none⟩)] (nth X) (fun _ => 0) pairOne_enters
        (fun W t p hp => pairOne_any W fb _ X (t.swap.boxAt 0).1 (numsRow t.third HF.out) p (by rw [HF.out, ← HOl.out]; exact hp))
      go_wp2_with fail
      refine hr.mono ?_
      rintro e w6 ⟨gr, R, rfl, hR, s6⟩
      have hRl : R.length = n + 1 := by rw [hR.1, HOl.out]
      have hfr := first_round (rot := rot) (b := b) (R := R) (O := O) (by rw [HN.out, HX.out, HO.out]) HBY.out (by rw [HX.out]; exact hR)
      rw [HX.out] at hfr
      rw [HOl.out]
      rw [show kd (pairs O (nth X) fun _ => 0) b.length = kd (pairs O (nth X) fun _ => 0) n by rw [HN.out]] at hfr
      obtain ⟨K, hK⟩ : ∃ K, kd (pairs O (nth X) fun _ => 0) n = K := ⟨_, rfl⟩
      rw [hK] at hfr ⊢
      obtain ⟨hrk, hby⟩ := hfr
      have hKn : K ≤ n := by have := hrk.most; rwa [HN.out] at this
      clear hr s5 hR hw hK
      obtain ⟨N, hN⟩ : ∃ N, n + 1 = N := ⟨_, rfl⟩
      rw [hRl, hN] at s6 ⊢
      rw [hN] at hRl
      have s7 := s6.third.third
      obtain ⟨rb, hrb⟩ : ∃ x, w6.heap.size = x := ⟨_, rfl⟩
      have s8 := s7.newBox #[.slice (some ⟨gr, 0, none⟩) N N] 23
      rw [hrb] at s8
      have HRK := Lib.hid (And.intro hRl (And.intro hrk hby))
      clear hRl hrk hby s6 s7
      go_wp2_with fail
      generalize hw7 : w6.alloc (.cells #[.slice (some ⟨gr, 0, none⟩) N N] 23) = w7 at *
      clear hw7 hrb
      have s9 := s8.third.drop.fourth.drop
      clear s8 HF HX HX256 HO HOl
      go_loopw [9, 11, 12] (fun ov kk fr wr => ∃ (d K go gr : Nat) (O R : List Nat), (1 ≤ d ∧ d ≤ 800000 ∧ K ≤ n) ∧ fr = .int .i64 (d : Int) ∧ kk = .int .i64 (K : Int) ∧ ov = .slice (some ⟨go, 0, none⟩) n n ∧ Hid (R.length = N ∧ Rk rot b d K (nth R) ∧ Whole b.length (By rot b d) O) ∧
          St B w0 wr (boxT rb #[.slice (some ⟨gr, 0, none⟩) N N] 23 :: numsT 3 go n O :: numsT 3 gr N R :: numsT 3 gp n (List.range n) :: r)) (fun _ _ fr _ => n - (intOf fr).toNat)
      case atStart => exact ⟨1, K, go, gr, O, R, ⟨by omega, by omega, hKn⟩, rfl, rfl, rfl, HRK, s9⟩
      case round =>
        clear s9 HRK hKn
        obtain ⟨d, K, go, gr, O, R, ⟨hd1, hd8, hKn⟩, rfl, rfl, rfl, hR, s10⟩ := hrel
        have hOl : O.length = n := by rw [hR.out.2.2.len, HN.out]
        have HOl := Lib.hid hOl
        clear hOl
        by_cases hd : d < n
        · by_cases hK : K < n
          · obtain ⟨i0, hi, hz0, hz1, hz2⟩ := info_parts infoI
            have hmk : i0.bytes * n ≤ 281474976710656 := by rw [hz2]; omega
            have hmx : n ≤ maxLen := by unfold maxLen; omega
            go_wp2_with (at_make; refine wpList_make_full _ rfl _ _ 23 rfl wr.heap.size 3 i0 (.int .i64 0) 1 Try.underlying23 hi hz0 hz1 _ _ _ _ n rfl rfl rfl rfl hmk hmx (Nat.le_refl _) ?_)
            intro w8 hown hg
            have s11 := s10.madeNums hown hg
            rw [tab_zeros n (fun i => if i < 0 then nth R (beh rot n i d) else 0) (fun v _ => by simp)] at s11
            clear hown hg s10 hmk hmx hi hz0 hz1 hz2
            generalize wr.heap.size = gt at s11
            obtain ⟨ob, hob⟩ : ∃ x, w8.heap.size = x := ⟨_, rfl⟩
            have s12 := s11.newBox #[.slice (some ⟨gt, 0, none⟩) n n] 23
            rw [hob] at s12
            have k0 := (s12.boxAt 0).1
            go_wp2
            generalize hw9 : w8.alloc (.cells #[.slice (some ⟨gt, 0, none⟩) n n] 23) = w9 at *
            clear hw9 hob s11 k0
            have hrest : ∀ W, St B w0 W (boxT ob #[.slice (some ⟨gt, 0, none⟩) n n] 23 :: numsT 3 gt n (tab n fun i => if i < 0 then nth R (beh rot n i d) else 0) :: boxT rb #[.slice (some ⟨gr, 0, none⟩) N N] 23 :: numsT 3 go n O :: numsT 3 gr N R :: numsT 3 gp n (List.range n) :: r) → True := fun _ _ => trivial
            clear hrest
            go_loopw [14, 63] (fun _ i wr => ∃ k : Nat, k ≤ n ∧ i = .int .i64 (k : Int) ∧
                St B w0 wr (boxT ob #[.slice (some ⟨gt, 0, none⟩) n n] 23 :: numsT 3 gt n (tab n fun i => if i < k then nth R (beh rot n i d) else 0) :: boxT rb #[.slice (some ⟨gr, 0, none⟩) N N] 23 :: numsT 3 go n O :: numsT 3 gr N R :: numsT 3 gp n (List.range n) :: r)) (fun _ i _ => n - (intOf i).toNat)
            case atStart => exact ⟨0, by omega, rfl, s12⟩
            case round =>
              clear s12
              obtain ⟨k, hk, rfl, s13⟩ := hrel
              by_cases hlt : k < n
              · have hcall := HB.out wr.drew s13.drew.drop.drop.drop.drop.drop.drop k d hlt (by omega)
                have hq : beh rot n k d ≤ n := beh_le rot n k d hlt
                have hset := tab_set n (fun i => if i < k then nth R (beh rot n i d) else 0) (fun i => if i < k + 1 then nth R (beh rot n i d) else 0) k (nth R (beh rot n k d)) (by simp) (fun v _ h => by show (if v < k + 1 then nth R (beh rot n v d) else 0) = (if v < k then nth R (beh rot n v d) else 0); split <;> split <;> omega)
                have s14 := s13.drew
                obtain ⟨d0, f0⟩ := s14.swap.numCell k (tab_length ..) hlt
                have hS : ∀ W Y, St B w0 W (boxT ob #[.slice (some ⟨gt, 0, none⟩) n n] 23 :: numsT 3 gt n Y :: boxT rb #[.slice (some ⟨gr, 0, none⟩) N N] 23 :: numsT 3 go n O :: numsT 3 gr N R :: numsT 3 gp n (List.range n) :: r) →
                    W.cell? ⟨ob, 0, none⟩ = some (.slice (some ⟨gt, 0, none⟩) n n) ∧ W.cell? ⟨rb, 0, none⟩ = some (.slice (some ⟨gr, 0, none⟩) N N) ∧ W.cell? ⟨gr, beh rot n k d, none⟩ = some (.int .i64 (nth R (beh rot n k d) : Int)) := fun W Y t => by
                  have c1 := (t.drop.drop.drop.swap.numCell (beh rot n k d) hR.out.1 (by omega)).1
                  rw [← nth_lt (show beh rot n k d < R.length by rw [hR.out.1]; omega)] at c1
                  exact ⟨(t.boxAt 0).1, (t.third.boxAt 0).1, c1⟩
                have s15 := s14.swap.putNum k (nth R (beh rot n k d))
                rw [hset] at s15
                have s16 := s15.swap
                clear hset s13 s15
                generalize (tab n fun i => if i < k then nth R (beh rot n i d) else 0)[k]'(by rw [tab_length]; omega) = z at d0
                generalize hqq : beh rot n k d = q at *
                generalize hyy : nth R q = y at *
                have hqN : q < N := by omega
                go_wp2_with fail
                refine region_seg (by kernel_rfl) [1, 3, 4, 5] 7 rfl (by kernel_rfl) (by kernel_rfl) (fun _ _ d _ _ h => by cases d <;> exact h) ?_
                generalize wr.drew = wd at *
                intro K hK
                simp only [pickL, List.getElem?_cons_zero, List.getElem?_cons_succ]
                go_wp2_with fail
                try clear hK K
                refine wpAny_of_held (S := fun W => ∃ Y, St B w0 W (boxT ob #[.slice (some ⟨gt, 0, none⟩) n n] 23 :: numsT 3 gt n Y :: boxT rb #[.slice (some ⟨gr, 0, none⟩) N N] 23 :: numsT 3 go n O :: numsT 3 gr N R :: numsT 3 gp n (List.range n) :: r)) _ _ _ _ ?_
                refine wpAnyH_take (i := 0) (v := .slice (some ⟨gt, 0, none⟩) n n) rfl (by kernel_rfl) (by kernel_rfl) (by kernel_rfl) (fun _ _ _ h => h) (.inl ⟨by kernel_rfl, fun W hW => by obtain ⟨Y, t⟩ := hW; obtain ⟨k0, k1, c1⟩ := hS W Y t; go_simp; try (simp); try (intro h; omega)⟩) ⟨_, s14⟩ ?_
                refine wpAnyH_take (i := 2) (v := .slice (some ⟨gr, 0, none⟩) N N) rfl (by kernel_rfl) (by kernel_rfl) (by kernel_rfl) (fun _ _ _ h => h) (.inl ⟨by kernel_rfl, fun W hW => by obtain ⟨Y, t⟩ := hW; obtain ⟨k0, k1, c1⟩ := hS W Y t; go_simp; try (simp); try (intro h; omega)⟩) ⟨_, s14⟩ ?_
                refine held_step (j := 6) _ (by kernel_rfl) rfl ?_
                intro M hM
                go_wp2_with fail
                refine hcall.mono ?_
                rintro e w' ⟨rfl, rfl⟩
                go_wp2_with fail
                refine hM _ _ ⟨_, s14⟩ ?_
                try clear hM M
                refine wpAnyH_take (i := 7) (v := .pointer (some ⟨gr, q, none⟩)) rfl (by kernel_rfl) (by kernel_rfl) (by kernel_rfl) (fun _ _ _ h => h) (.inl ⟨by kernel_rfl, fun W hW => by obtain ⟨Y, t⟩ := hW; obtain ⟨k0, k1, c1⟩ := hS W Y t; go_simp; try (simp); try (intro h; omega)⟩) ⟨_, s14⟩ ?_
                refine wpAnyH_take (i := 8) (v := .int .i64 (y : Int)) rfl (by kernel_rfl) (by kernel_rfl) (by kernel_rfl) (fun _ _ _ h => h) (.inl ⟨by kernel_rfl, fun W hW => by obtain ⟨Y, t⟩ := hW; obtain ⟨k0, k1, c1⟩ := hS W Y t; go_simp; try (simp); try (intro h; omega)⟩) ⟨_, s14⟩ ?_
                refine wpAnyH_take (i := 9) (v := .pointer (some ⟨gt, k, none⟩)) rfl (by kernel_rfl) (by kernel_rfl) (by kernel_rfl) (fun _ _ _ h => h) (.inl ⟨by kernel_rfl, fun W hW => by obtain ⟨Y, t⟩ := hW; obtain ⟨k0, k1, c1⟩ := hS W Y t; go_simp; try (simp); try (intro h; omega)⟩) ⟨_, s14⟩ ?_
                refine held_step (j := 10) _ (by kernel_rfl) rfl ?_
                intro M hM
                go_wp2_with fail
                refine hM _ _ ⟨_, s16⟩ ?_
                try clear hM M
                refine wpAnyH_done (by kernel_rfl) ?_ 0
                go_wp2_with fail
                go_roundw
                case rel => exact ⟨k + 1, by omega, by go_num, s16⟩
                case measure => simp [intOf]; omega
              · obtain rfl : n = k := by omega
                obtain ⟨Y, hY⟩ : ∃ Y, (tab n fun i => if i < n then nth R (beh rot n i d) else 0) = Y := ⟨_, rfl⟩
                have hYl : Y.length = n := by rw [← hY, tab_length]
                have hYat : ∀ i, i < n → nth Y i = nth R (beh rot n i d) := fun i h => by rw [nth_lt (by rw [hYl]; exact h)]; subst hY; rw [tab_get, if_pos h]
                rw [hY] at s13
                have hlast : nth R n = 0 := by have := hR.out.2.1.last; rwa [HN.out] at this
                have hin1 : ∀ p, p < n → 1 ≤ nth R p ∧ nth R p ≤ K := fun p hp => hR.out.2.1.within p (by rw [HN.out]; exact hp)
                have hYK : ∀ p, p < n → nth Y p ≤ K := fun p hp => by
                  rw [hYat p hp]
                  have h1 := beh_le rot n p d hp
                  by_cases e : beh rot n p d = n
                  · rw [e, hlast]; omega
                  · exact (hin1 _ (by omega)).2
                have s14 := s13.drew.third.swap
                have hc1 := fun W (t : St B w0 W (boxT ob #[.slice (some ⟨gt, 0, none⟩) n n] 23 :: boxT rb #[.slice (some ⟨gr, 0, none⟩) N N] 23 :: numsT 3 gt n Y :: numsT 3 go n O :: numsT 3 gr N R :: numsT 3 gp n (List.range n) :: r)) =>
                  counted_st t (.slice (some ⟨gp, 0, none⟩) n n) (.slice (some ⟨gt, 0, none⟩) n n) (List.range n) Y (fun W t => numsRow t.drop.drop.drop.drop.drop List.length_range) (fun W t => numsRow t.drop.drop hYl) K (by omega) (by rw [List.length_range]; omega) (fun p hp => by rw [hYl]; exact List.mem_range.1 hp) (fun p hp => hYK p (List.mem_range.1 hp))
                have hw1 := bucket_whole (m := K) (nth Y) (range_whole n) (fun p hp => hYK p (List.mem_range.1 hp))
                obtain ⟨P1, hP1⟩ : ∃ P1, bucket (List.range n) (nth Y) K = P1 := ⟨_, rfl⟩
                rw [hP1] at hc1 hw1
                have HP1 : Hid (P1.length = n) := Lib.hid hw1.len
                have hw2 := bucket_whole (m := K) (nth R) hw1 (fun p hp => (hin1 p (hw1.mem p hp)).2)
                have hc2 := fun g1 W (t : St B w0 W (boxT ob #[.slice (some ⟨gt, 0, none⟩) n n] 23 :: boxT rb #[.slice (some ⟨gr, 0, none⟩) N N] 23 :: numsT 3 g1 n P1 :: numsT 3 gt n Y :: numsT 3 go n O :: numsT 3 gr N R :: numsT 3 gp n (List.range n) :: r)) =>
                  counted_st t (.slice (some ⟨g1, 0, none⟩) n n) (.slice (some ⟨gr, 0, none⟩) N N) P1 R (fun W t => numsRow t.drop.drop HP1.out) (fun W t => numsRow t.drop.drop.drop.drop.drop hR.out.1) K (by omega) (by rw [HP1.out]; omega) (fun p hp => by rw [hR.out.1]; have := hw1.mem p hp; omega) (fun p hp => (hin1 p (hw1.mem p hp)).2)
                obtain ⟨O2, hO2⟩ : ∃ O2, bucket P1 (nth R) K = O2 := ⟨_, rfl⟩
                rw [hO2] at hc2 hw2
                have HO2 : Hid (O2.length = n) := Lib.hid hw2.len
                have HQ := Lib.hid (And.intro hP1 (And.intro hO2 (And.intro hYl (And.intro hYat hw2))))
                have HC1 := Lib.hid hc1
                have HC2 := Lib.hid hc2
                clear s13 hY hYl hYat hlast hin1 hYK hc1 hc2 hw1 hw2 hP1 hO2
                have hS : ∀ W T, St B w0 W (boxT ob #[.slice (some ⟨gt, 0, none⟩) n n] 23 :: boxT rb #[.slice (some ⟨gr, 0, none⟩) N N] 23 :: T) → W.cell? ⟨ob, 0, none⟩ = some (.slice (some ⟨gt, 0, none⟩) n n) ∧ W.cell? ⟨rb, 0, none⟩ = some (.slice (some ⟨gr, 0, none⟩) N N) := fun W T t => ⟨(t.boxAt 0).1, (t.swap.boxAt 0).1⟩
                go_wp2_with fail
                refine region_seg (by kernel_rfl) [0, 2, 5] 5 rfl (by kernel_rfl) (by kernel_rfl) (fun _ _ d _ _ h => by cases d <;> exact h) ?_
                generalize wr.drew = wd at *
                intro M hM
                simp only [pickL, List.getElem?_cons_zero, List.getElem?_cons_succ]
                go_wp2_with fail
                try clear hM M
                refine wpAny_of_held (S := fun W => ∃ T, St B w0 W (boxT ob #[.slice (some ⟨gt, 0, none⟩) n n] 23 :: boxT rb #[.slice (some ⟨gr, 0, none⟩) N N] 23 :: T)) _ _ _ _ ?_
                refine wpAnyH_take (i := 1) (v := .slice (some ⟨gt, 0, none⟩) n n) rfl (by kernel_rfl) (by kernel_rfl) (by kernel_rfl) (fun _ _ _ h => h) (.inl ⟨by kernel_rfl, fun W hW => by obtain ⟨T, t⟩ := hW; obtain ⟨k0, k1⟩ := hS W T t; go_simp; try simp⟩) ⟨_, s14⟩ ?_
                refine wpAnyH_take (i := 4) (v := .slice (some ⟨gr, 0, none⟩) N N) rfl (by kernel_rfl) (by kernel_rfl) (by kernel_rfl) (fun _ _ _ h => h) (.inl ⟨by kernel_rfl, fun W hW => by obtain ⟨T, t⟩ := hW; obtain ⟨k0, k1⟩ := hS W T t; go_simp; try simp⟩) ⟨_, s14⟩ ?_
                refine held_step (j := 3) _ (by kernel_rfl) rfl ?_
                intro M hM
                have hcall := HC1.out wd s14
                go_wp2_with fail
                refine hcall.mono ?_
                rintro e w10 ⟨g1, rfl, s15⟩
                rw [HP1.out] at s15 ⊢
                have s16 := s15.third.third
                clear hcall s14 s15
                go_wp2_with fail
                refine hM _ _ ⟨_, s16⟩ ?_
                try clear hM M
                refine held_step (j := 6) _ (by kernel_rfl) rfl ?_
                intro M hM
                have hcall := HC2.out g1 w10 s16
                go_wp2_with fail
                refine hcall.mono ?_
                rintro e w11 ⟨g2, rfl, s17⟩
                rw [HO2.out] at s17 ⊢
                have s18 := s17.third.third
                clear hcall s16 s17
                go_wp2_with fail
                refine hM _ _ ⟨_, s18⟩ ?_
                try clear hM M
                refine held_step (j := 7) _ (by kernel_rfl) rfl ?_
                intro M hM
                go_wp2_with fail
                refine hM _ _ ⟨_, s18⟩ ?_
                try clear hM M
                refine wpAnyH_done (by kernel_rfl) ?_ 0
                have s19 := (s18.fourth.drop.front 4).drop
                replace s19 : St B w0 w11 (boxT ob #[.slice (some ⟨gt, 0, none⟩) n n] 23 :: boxT rb #[.slice (some ⟨gr, 0, none⟩) N N] 23 :: numsT 3 g2 n O2 :: numsT 3 gt n Y :: numsT 3 gr N R :: numsT 3 gp n (List.range n) :: r) := s19
                clear s18 HC1 HC2 hS
                have hnx := fun (M : List Nat) (hM : Ranks O2 (pairs O2 (nth R) (nth Y)) O2.length M) => next_round (rot := rot) (b := b) (Y := Y) (R := M) (O := O2) (d := d) (K := K) (f := nth R) hR.out.2.1 hd1 (by rw [HN.out]; exact HQ.out.2.2.2.1) (by rw [HN.out, HQ.out.1, HQ.out.2.1]) hM
                have hr := ranked_st s19 (.slice (some ⟨g2, 0, none⟩) n n) O2 (fun W t => numsRow t.drop.drop HO2.out) (by rw [HO2.out]; omega) (fun p hp => by rw [HO2.out]; exact HQ.out.2.2.2.2.mem p hp) (HQ.out.2.2.2.2.nodup (fun x h => by omega)) 32 #[.pointer (some ⟨rb, 0, none⟩), .pointer (some ⟨ob, 0, none⟩)] (nth R) (nth Y) pairTwo_enters
                  (fun W t p hp => pairTwo_any W rb ob _ _ R Y (t.swap.boxAt 0).1 (numsRow t.drop.drop.drop.drop hR.out.1) (t.boxAt 0).1 (numsRow t.drop.drop.drop HQ.out.2.2.1) p (by rw [hR.out.1]; rw [HO2.out] at hp; omega) (by rw [HQ.out.2.2.1, ← HO2.out]; exact hp))
                have HNX := Lib.hid hnx
                clear hnx HQ
                go_wp2_with fail
                refine hr.mono ?_
                rintro e w12 ⟨g3, R2, rfl, hR2, s20⟩
                have hrk := HNX.out R2 hR2
                have hR2l : R2.length = N := by rw [hR2.1, HO2.out, hN]
                rw [HO2.out]
                rw [show kd (pairs O2 (nth R) (nth Y)) b.length = kd (pairs O2 (nth R) (nth Y)) n by rw [HN.out]] at hrk
                obtain ⟨M, hM⟩ : ∃ M, kd (pairs O2 (nth R) (nth Y)) n = M := ⟨_, rfl⟩
                rw [hM] at hrk ⊢
                have hMn : M ≤ n := by have := hrk.1.most; rwa [HN.out] at this
                rw [hR2l] at s20 ⊢
                have HRK := Lib.hid (And.intro hR2l hrk)
                clear hr s19 hR2 hM hR2l hrk HNX
                by_cases hMK : M = K
                · subst hMK
                  have hw := done_same hR.out.2.1 HRK.out.2.1 hd1 HRK.out.2.2
                  have HW := Lib.hid hw
                  clear hw
                  go_wp2_with fail
                  go_ret
                  exact ⟨O2, HW.out, g2, by rw [HO2.out]; rfl, by rw [HO2.out]; exact (s20.front 3).swap.drop.swap.drop.swap.drop.swap.drop.swap.drop.swap.drop⟩
                · have s21 := s20.third
                  have f0 := (s21.boxAt 0).2
                  have k0 := (s21.boxAt 0).1
                  have s22 := s21.setBox (.slice (some ⟨g3, 0, none⟩) N N)
                  have hdd : (d : Int) * 2 = ((d + d : Nat) : Int) := by omega
                  go_wp2_with fail
                  go_roundw
                  case rel => exact ⟨d + d, M, g2, g3, O2, R2, ⟨by omega, by omega, hMn⟩, by go_num, rfl, rfl, HRK, s22.third.drop.fourth.drop.fourth.drop.third.swap⟩
                  case measure => simp [intOf]; omega
          · have hw := done_full hR.out.2.1 hd1 hR.out.2.2 (by rw [HN.out]; omega)
            have hdK : decide ((K : Int) < (n : Int)) = false := by simp; omega
            go_wp2
            go_ret
            exact ⟨O, hw, go, by rw [HOl.out]; rfl, by rw [HOl.out]; exact s10.drop.swap.drop.swap.drop⟩
        · have hw := done_far hR.out.2.2 (by rw [HN.out]; omega)
          have hdn : decide ((d : Int) < (n : Int)) = false := by simp; omega
          go_wp2
          go_ret
          exact ⟨O, hw, go, by rw [HOl.out]; rfl, by rw [HOl.out]; exact s10.drop.swap.drop.swap.drop⟩

end
end Go.Proofs.Ytfifkbadniekfaa.Suf
