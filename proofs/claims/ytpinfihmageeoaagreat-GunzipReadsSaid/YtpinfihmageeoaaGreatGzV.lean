/-
  Contract of pressworkref12.Gunzip (written by wip/gen_gzv.py). No conditions but that rows are small.
-/
import Derived.Test.YtpinfihmageeoaaGreatGzG
import Derived.Test.YtpinfihmageeoaaGreatFrZ
import Derived.Test.YtpinfihmageeoaaGreatGL
import Derived.Test.YtpinfihmageeoaaGreatFrU
import Derived.Deep.Cut
import Derived.Deep.CutRange
namespace Go.Proofs.YtpinfihmageeoaaGreat.Gu
open Go.RowKit Kraft Hd Inf Fr

section
variable {B : Nat} {w0 w : World} {r : List Thing}

/-- Where the members reach to the last byte. -/
theorem ends_file {xs : List Nat} {X : Option (List Mem)} {ms : List Mem} {k keep nz uz tk n n1 : Nat} {wr : Bool} {acc ot : List Nat} {xa : Option Addr} {xc : Nat} {W : World} {c1 c2 : Array Value} {t1 t2 : TypeId} {A C : Thing} (hX : file xs = X) (hms : goods xs = ms)
    (h1 : (outs (ms.take (k + 1))).length = nz) (h2 : total (ms.take (k + 1)) = uz) (hw : wrongs keep (ms.take (k + 1)) = wr) (h3 : (outs (ms.take (k + 1))).take keep = acc ++ ot) (hfin : uz = xs.length) (hpos : 0 < uz) (htk : ot.length = tk)
    (st : St B w0 W (boxT n c1 t1 :: boxT n1 c2 t2 :: rowT 5 1 (.slice xa (acc.length + tk) xc) (acc.length + tk) (u8s (acc ++ ot)) :: A :: C :: r)) :
    GzSt B w0 r keep xs.length X (.returned (.tuple #[.agg (flowW (.slice xa (acc.length + tk) xc) nz uz wr), .int .i64 0])) W := by
  have hall : ms.take (k + 1) = ms := by
    rcases Nat.lt_or_ge k ms.length with hk | hk
    · have hg := (goods_at (k + 1) xs (by rw [hms]; omega)).2
      rw [hms, h2, hfin, List.drop_of_length_le (Nat.le_refl _), goods_nil] at hg
      refine List.take_of_length_le ?_
      have := congrArg List.length hg
      rw [List.length_drop, List.length_nil] at this
      omega
    · exact List.take_of_length_le (by omega)
  rw [hall] at h1 h2 hw h3
  have hf : X = some ms := by rw [← hX]; exact file_yes hms (by rw [h2, hfin]) (by omega)
  subst hf
  refine ⟨xa, xc, ?_, ?_⟩
  · rw [h3, h1, hw, List.length_append, htk, hfin]
  · rw [h3, List.length_append, htk]
    exact st.drop.drop.swap.drop.swap.drop

set_option maxRecDepth 100000 in
set_option maxHeartbeats 40000000 in
theorem refGunzip_st (st : St B w0 w r) (v : Value) (xs : List Nat) (hv : ∀ W, St B w0 W r → ByteRow W v xs) (hx : xs.length ≤ 400) (keep : Nat) (hk : keep ≤ 3000) :
    Calls Tryz.prog 14 #[v, .int .i64 (keep : Int)] w (GzSt B w0 r keep xs.length (file xs)) := by
  obtain ⟨X, hX⟩ : ∃ X, file xs = X := ⟨_, rfl⟩
  rw [hX]
  have HX := Lib.hid hX
  clear hX
  have hbyte := (hv w st).byte
  obtain ⟨va, vc, rfl⟩ : ∃ a c, v = .slice a xs.length c := by obtain ⟨a, c, e, _⟩ := hv w st; exact ⟨a, c, e⟩
  have hvc : xs.length ≤ vc := by obtain ⟨a, c, e, h, _⟩ := hv w st; obtain ⟨-, -, rfl⟩ := Value.slice.inj e; exact h
  have HV := Lib.hid hv
  clear hv
  obtain ⟨ms, hms⟩ : ∃ ms, goods xs = ms := ⟨_, rfl⟩
  have hfar := goods_far _ xs (Nat.le_refl _)
  have htl := total_le _ xs (Nat.le_refl _)
  rw [hms] at hfar htl
  obtain ⟨n, hn⟩ : ∃ n, w.heap.size = n := ⟨_, rfl⟩
  have s1 := (st.newBox (flowW (.slice none 0 0) 0 0 false) 28).newBox (flowW (.slice none 0 0) 0 0 false) 28
  rw [show (w.alloc (.cells (flowW (.slice none 0 0) 0 0 false) 28)).heap.size = n + 1 from by simp [hn], hn] at s1
  have s2 := (s1.addNil (e := 5) (size := 1)).swap
  go_enter Tryz.func14, Tryz.ntmps14
  go_wp2
  clear s1 st
  generalize (w.alloc (.cells #[.slice none 0 0, .int .i64 0, .int .i64 0, .bool false] 28)).alloc (.cells #[.slice none 0 0, .int .i64 0, .int .i64 0, .bool false] 28) = w2 at *
  go_loopw [] (fun wr => ∃ (k : Nat) (v' : Value), k ≤ ms.length ∧ Hid (total (ms.take k) < xs.length ∨ k = 0) ∧
      St B w0 wr (boxT (n + 1) (flowW v' (outs (ms.take k)).length (total (ms.take k)) (wrongs keep (ms.take k))) 28 :: rowT 5 1 v' ((outs (ms.take k)).take keep).length (u8s ((outs (ms.take k)).take keep)) :: boxT n (flowW (.slice none 0 0) 0 0 false) 28 :: r))
    (fun wr => match wr.cell? ⟨n + 1, 2, none⟩ with | some v => xs.length - (intOf v).toNat | none => 0)
  case atStart =>
    refine ⟨0, .slice none 0 0, Nat.zero_le _, Lib.hid (.inr rfl), ?_⟩
    rw [show (outs (ms.take 0)).take keep = [] from List.take_nil]
    exact s2
  case round =>
    obtain ⟨k, v', hkl, hlt, s3⟩ := hrel
    clear s2
    obtain ⟨hp, hgo⟩ := goods_at k xs (by rw [hms]; exact hkl)
    rw [hms] at hp hgo
    obtain ⟨p, hpe⟩ : ∃ p, total (ms.take k) = p := ⟨_, rfl⟩
    rw [hpe] at hp hgo s3 hlt
    have HG := Lib.hid hgo
    clear hgo
    have hp0 : k = 0 → p = 0 := fun e => by rw [← hpe, e]; rfl
    have hsub := fun W (t : St B w0 W r) => Fr.byteRow_sub (HV.out W t) p (xs.length - p) (by omega)
    have hsl : sl xs p (xs.length - p) = xs.drop p := by unfold sl; rw [List.take_of_length_le (by rw [List.length_drop]; omega)]
    have hdl : (xs.drop p).length = xs.length - p := List.length_drop
    obtain ⟨m, hm⟩ : ∃ m, xs.length - p = m := ⟨_, rfl⟩
    obtain ⟨a2, ha2⟩ : ∃ a2, (if vc = p then va else va.map (·.add p)) = a2 := ⟨_, rfl⟩
    rw [hsl, hm, ha2] at hsub
    rw [hm] at hdl
    have HS := Lib.hid hsub
    clear hsub hsl
    have k2 : wr.cell? ⟨n + 1, 2, none⟩ = some (.int .i64 (p : Int)) := (St.boxAt s3 2).1
    have hget := refGet_st s3 (.slice a2 m (vc - p)) (xs.drop p) (fun W t => HS.out W t.drop.drop.drop) (by omega)
    have hnone : memAt (xs.drop p) = none → X = none := by
      intro hmn
      rw [← HX.out]
      refine file_no ?_
      have h1 := HG.out
      rw [goods_none hmn] at h1
      have h2 : ms.take k = ms := List.take_of_length_le (by have := congrArg List.length h1; simp at this; omega)
      rw [h2] at hpe
      rw [hms, hpe]
      rintro ⟨e1, e2⟩
      rcases hlt.out with h3 | h3
      · omega
      · have := hp0 h3
        omega
    cases hg : Fr.get (xs.drop p) with
    | none =>
      rw [hg] at hget
      have e := hnone (memAt_head hg)
      subst e
      go_wp2_with fail
      refine hget.mono ?_
      rintro e w4 ⟨rfl, s4⟩
      have t0 := (s4.newBox noHead 80).front 3
      replace t0 : St B w0 (w4.alloc (.cells noHead 80)) (boxT n (flowW (.slice none 0 0) 0 0 false) 28 :: _) := t0
      have k0 : (w4.alloc (.cells noHead 80)).cell? ⟨n, 0, none⟩ = some (.slice none 0 0) := (St.boxAt t0 0).1
      have k1 : (w4.alloc (.cells noHead 80)).cell? ⟨n, 1, none⟩ = some (.int .i64 0) := (St.boxAt t0 1).1
      have k2 : (w4.alloc (.cells noHead 80)).cell? ⟨n, 2, none⟩ = some (.int .i64 0) := (St.boxAt t0 2).1
      have k3 : (w4.alloc (.cells noHead 80)).cell? ⟨n, 3, none⟩ = some (.bool false) := (St.boxAt t0 3).1
      have z0 := (St.boxAt t0 0).2
      have z1 := (St.boxAt t0 1).2
      have z2 := (St.boxAt t0 2).2
      have z3 := (St.boxAt t0 3).2
      have t1 := (((t0.setBoxAt 0 (.slice none 0 0)).setBoxAt 1 (.int .i64 0)).setBoxAt 2 (.int .i64 0)).setBoxAt 3 (.bool false)
      go_wp2_with fail
      generalize ((((w4.alloc (.cells noHead 80)).setCell ⟨n, 0, none⟩ (.slice none 0 0)).setCell ⟨n, 1, none⟩ (.int .i64 0)).setCell ⟨n, 2, none⟩ (.int .i64 0)).setCell ⟨n, 3, none⟩ (.bool false) = W1 at t1 ⊢
      refine bodyPost_ret (results_row_one rfl _ _ n 28 (flowW (.slice none 0 0) 0 0 false) (0, 0) _ rfl t1.box Tryz.underlying28 rfl size_flow) rfl ?_
      exact ⟨rfl, t1.drop.drop.drop.drop⟩
    | some s =>
      obtain ⟨ph, h, wh⟩ := s
      rw [hg] at hget
      have hph : ph ≤ m := by rw [← hdl]; exact (got (fun x hx => hbyte x (List.mem_of_mem_drop hx)) hg).2.2.1
      have hzf := outs_take ms k
      obtain ⟨z, hz⟩ : ∃ z, (outs (ms.take k)).length = z := ⟨_, rfl⟩
      obtain ⟨acc, hacc⟩ : ∃ a, (outs (ms.take k)).take keep = a := ⟨_, rfl⟩
      obtain ⟨wr0, hwr0⟩ : ∃ b, wrongs keep (ms.take k) = b := ⟨_, rfl⟩
      rw [hz] at hzf
      have hzb : z ≤ 2064 * 400 := by omega
      obtain ⟨mk, hmk, hmk2⟩ : ∃ mk, keep - z = mk ∧ mk ≤ 3000 := ⟨_, rfl, by omega⟩
      have hmax : max (0 : Int) ((keep : Int) - (z : Int)) = (mk : Int) := by omega
      have hmax2 : (if (keep : Int) - (z : Int) < 0 then (0 : Int) else (keep : Int) - (z : Int)) = (mk : Int) := by split <;> omega
      have hmax3 : (if z < keep then (keep : Int) - (z : Int) else 0) = (mk : Int) := by split <;> omega
      rw [hz, hacc, hwr0] at hget
      have hsum : (p : Int) + (ph : Int) = ((p + ph : Nat) : Int) := by omega
      have hb2 : ((p + ph : Nat) : Int) ≤ (xs.length : Int) := by omega
      have hb3 : (xs.length : Int) ≤ (vc : Int) := by omega
      obtain ⟨p2, hp2⟩ : ∃ p2, p + ph = p2 := ⟨_, rfl⟩
      rw [hp2] at hsum hb2
      go_wp2_with fail
      refine hget.mono ?_
      rintro e w4 ⟨ev, rfl, s4⟩
      simp only at s4
      have s5 := (s4.newBox (headC h ev) 80).front 2
      obtain ⟨ea, ec, rfl⟩ : ∃ a c, ev = .slice a h.extra.length c := ownsRow_slice s4.row
      have K2 := Lib.hid k2
      clear hget s3 s4 k2
      have hw0 : ∀ x : Int, -1000000 ≤ x → x ≤ 1000000 → IntKind.i64.wrap x = x := fun x h1 h2 => by
        simp only [IntKind.wrap, IntKind.signed, IntKind.bits]
        simp
        omega
      have hw1 : IntKind.i64.wrap (p2 : Int) = (p2 : Int) := hw0 _ (by omega) (by omega)
      have hw2 : IntKind.i64.wrap ((keep : Int) - (z : Int)) = (keep : Int) - (z : Int) := hw0 _ (by omega) (by omega)
      clear hw0
      obtain ⟨a3, ha3⟩ : ∃ a3, (if vc = p2 then va else va.map (·.add p2)) = a3 := ⟨_, rfl⟩
      have hsub3 := fun W (t : St B w0 W r) => Fr.byteRow_sub (HV.out W t) p2 (xs.length - p2) (by omega)
      have hsl3 : sl xs p2 (xs.length - p2) = (xs.drop p).drop ph := by unfold sl; rw [List.drop_drop, hp2, List.take_of_length_le (by rw [List.length_drop]; omega)]
      obtain ⟨m3, hm3⟩ : ∃ m3, xs.length - p2 = m3 := ⟨_, rfl⟩
      rw [hsl3, hm3, ha3] at hsub3
      have H3 := Lib.hid hsub3
      clear hsub3 hsl3
      have hS : ∀ W T, St B w0 W (boxT (n + 1) (flowW v' z p wr0) 28 :: T) → W.cell? ⟨n + 1, 1, none⟩ = some (.int .i64 (z : Int)) ∧ W.cell? ⟨n + 1, 2, none⟩ = some (.int .i64 (p : Int)) := fun W T t => ⟨(St.boxAt t 1).1, (St.boxAt t 2).1⟩
      go_wp2_with fail
      refine region_seg (by kernel_rfl) [0, 3, 6] 15 rfl (by kernel_rfl) (by kernel_rfl) (fun _ _ d _ _ h => by cases d <;> exact h) ?_
      have sd := s5.drew
      clear s5
      generalize (w4.alloc (.cells (headC h (.slice ea h.extra.length ec)) 80)).drew = wd at *
      intro K hK
      simp only [pickL, List.getElem?_cons_zero, List.getElem?_cons_succ]
      go_wp2_with fail
      try clear hK K
      refine wpAny_of_held (S := fun W => ∃ T, St B w0 W (boxT (n + 1) (flowW v' z p wr0) 28 :: T)) _ _ _ _ ?_
      refine wpAnyH_take (i := 1) (v := .pointer (some ⟨n + 1, 2, none⟩)) rfl (by kernel_rfl) (by kernel_rfl) (by kernel_rfl) (fun _ _ _ h => h) (.inl ⟨by kernel_rfl, fun W hW => by obtain ⟨T, t⟩ := hW; obtain ⟨k1, k2⟩ := hS W T t; go_simp; try simp⟩) ⟨_, sd⟩ ?_
      refine wpAnyH_take (i := 2) (v := .int .i64 (p : Int)) rfl (by kernel_rfl) (by kernel_rfl) (by kernel_rfl) (fun _ _ _ h => h) (.inl ⟨by kernel_rfl, fun W hW => by obtain ⟨T, t⟩ := hW; obtain ⟨k1, k2⟩ := hS W T t; go_simp; try simp⟩) ⟨_, sd⟩ ?_
      refine wpAnyH_take (i := 4) (v := .int .i64 (p2 : Int)) rfl (by kernel_rfl) (by kernel_rfl) (by kernel_rfl) (fun _ _ _ h => h) (.inl ⟨by kernel_rfl, fun W hW => by obtain ⟨T, t⟩ := hW; obtain ⟨k1, k2⟩ := hS W T t; go_simp; try simp⟩) ⟨_, sd⟩ ?_
      refine wpAnyH_take (i := 5) (v := .slice a3 m3 (vc - p2)) rfl (by kernel_rfl) (by kernel_rfl) (by kernel_rfl) (fun _ _ _ h => h) (.inl ⟨by kernel_rfl, fun W hW => by obtain ⟨T, t⟩ := hW; obtain ⟨k1, k2⟩ := hS W T t; go_simp; try simp⟩) ⟨_, sd⟩ ?_
      refine wpAnyH_take (i := 7) (v := .pointer (some ⟨n + 1, 1, none⟩)) rfl (by kernel_rfl) (by kernel_rfl) (by kernel_rfl) (fun _ _ _ h => h) (.inl ⟨by kernel_rfl, fun W hW => by obtain ⟨T, t⟩ := hW; obtain ⟨k1, k2⟩ := hS W T t; go_simp; try simp⟩) ⟨_, sd⟩ ?_
      refine wpAnyH_take (i := 8) (v := .int .i64 (z : Int)) rfl (by kernel_rfl) (by kernel_rfl) (by kernel_rfl) (fun _ _ _ h => h) (.inl ⟨by kernel_rfl, fun W hW => by obtain ⟨T, t⟩ := hW; obtain ⟨k1, k2⟩ := hS W T t; go_simp; try simp⟩) ⟨_, sd⟩ ?_
      refine wpAnyH_take (i := 9) (v := .int .i64 ((keep : Int) - (z : Int))) rfl (by kernel_rfl) (by kernel_rfl) (by kernel_rfl) (fun _ _ _ h => h) (.inl ⟨by kernel_rfl, fun W hW => by obtain ⟨T, t⟩ := hW; obtain ⟨k1, k2⟩ := hS W T t; go_simp; try simp⟩) ⟨_, sd⟩ ?_
      refine wpAnyH_take (i := 10) (v := .int .i64 (mk : Int)) rfl (by kernel_rfl) (by kernel_rfl) (by kernel_rfl) (fun _ _ _ h => h) (.inl ⟨by kernel_rfl, fun W hW => by obtain ⟨T, t⟩ := hW; obtain ⟨k1, k2⟩ := hS W T t; go_simp; try simp⟩) ⟨_, sd⟩ ?_
      have hinf : ∀ W T, St B w0 W T → (∀ W', St B w0 W' T → St B w0 W' r) → Calls Tryz.prog 33 #[.slice a3 m3 (vc - p2), .int .i64 (mk : Int)] W (Flow10 B w0 T mk (infl ((xs.drop p).drop ph))) := fun W T t hr =>
        refInflate_st t (.slice a3 m3 (vc - p2)) ((xs.drop p).drop ph) (fun W' t' => H3.out W' (hr W' t')) (by rw [List.length_drop, List.length_drop]; omega) mk (by omega)
      cases hi : infl ((xs.drop p).drop ph) with
      | none =>
        rw [hi] at hinf
        have e := hnone (memAt_stream hg hi)
        subst e
        refine held_two (i := 11) (j := 15) _ _ (by kernel_rfl) rfl rfl ?_ ?_
        · intro N hN
          have h1 := hinf wd _ sd (fun W' t' => t'.drop.drop.drop.drop.drop)
          go_wp2_with fail
          refine h1.mono ?_
          rintro e w5 ⟨rfl, s6⟩
          go_wp2_with fail
          refine hN _ _ ⟨_, s6⟩ ?_
          try clear hN N
          clear h1
          refine wpAnyH_take (i := 12) (v := .tuple #[.agg (flowW (.slice none 0 0) 0 0 false), .int .i64 2]) rfl (by kernel_rfl) (by kernel_rfl) (by kernel_rfl) (fun _ _ _ h => h) (.inl ⟨by kernel_rfl, fun W hW => by go_simp; try simp⟩) ⟨_, s6⟩ ?_
          refine wpAnyH_take (i := 13) (v := .agg (flowW (.slice none 0 0) 0 0 false)) rfl (by kernel_rfl) (by kernel_rfl) (by kernel_rfl) (fun _ _ _ h => h) (.inl ⟨by kernel_rfl, fun W hW => by go_simp; try simp⟩) ⟨_, s6⟩ ?_
          refine wpAnyH_take (i := 14) (v := .int .i64 2) rfl (by kernel_rfl) (by kernel_rfl) (by kernel_rfl) (fun _ _ _ h => h) (.inl ⟨by kernel_rfl, fun W hW => by go_simp; try simp⟩) ⟨_, s6⟩ ?_
          have s7 := s6.newBox (flowW (.slice none 0 0) 0 0 false) 28
          obtain ⟨XB, hXB⟩ : ∃ b, w5.heap.size = b := ⟨_, rfl⟩
          rw [hXB] at s7
          refine held_step (j := 15) _ (by kernel_rfl) rfl ?_
          intro N hN
          go_wp2_with fail
          refine hN _ _ ⟨_, s7.front 1⟩ ?_
          try clear hN N
          clear hXB
          generalize w5.alloc (.cells #[.slice none 0 0, .int .i64 0, .int .i64 0, .bool false] 28) = wf at *
          have x0 : wf.cell? ⟨XB, 0, none⟩ = some (.slice none 0 0) := (St.boxAt s7 0).1
          have x1 : wf.cell? ⟨XB, 1, none⟩ = some (.int .i64 0) := (St.boxAt s7 1).1
          have x2 : wf.cell? ⟨XB, 2, none⟩ = some (.int .i64 0) := (St.boxAt s7 2).1
          have x3 : wf.cell? ⟨XB, 3, none⟩ = some (.bool false) := (St.boxAt s7 3).1
          have z0 := (St.boxAt s7 0).2
          have z1 := (St.boxAt s7 1).2
          have z2 := (St.boxAt s7 2).2
          have z3 := (St.boxAt s7 3).2
          have s8 := (((s7.setBoxAt 0 (.slice none 0 0)).setBoxAt 1 (.int .i64 0)).setBoxAt 2 (.int .i64 0)).setBoxAt 3 (.bool false)
          refine held_step (j := 16) _ (by kernel_rfl) rfl ?_
          intro N hN
          go_wp2_with fail
          refine hN _ _ ⟨_, s8.front 1⟩ ?_
          try clear hN N
          clear x0 x1 x2 x3 z0 z1 z2 z3
          generalize (((wf.setCell ⟨XB, 0, none⟩ (.slice none 0 0)).setCell ⟨XB, 1, none⟩ (.int .i64 0)).setCell ⟨XB, 2, none⟩ (.int .i64 0)).setCell ⟨XB, 3, none⟩ (.bool false) = wg at *
          refine held_step (j := 17) _ (by kernel_rfl) rfl ?_
          intro N hN
          go_wp2_with fail
          refine hN _ _ ⟨_, s8.front 1⟩ ?_
          try clear hN N
          refine wpAnyH_done (by kernel_rfl) ?_ 0
          have t0 := s8.front 5
          replace t0 : St B w0 wg (boxT n (flowW (.slice none 0 0) 0 0 false) 28 :: _) := t0
          have k0 : wg.cell? ⟨n, 0, none⟩ = some (.slice none 0 0) := (St.boxAt t0 0).1
          have k1 : wg.cell? ⟨n, 1, none⟩ = some (.int .i64 0) := (St.boxAt t0 1).1
          have k2 : wg.cell? ⟨n, 2, none⟩ = some (.int .i64 0) := (St.boxAt t0 2).1
          have k3 : wg.cell? ⟨n, 3, none⟩ = some (.bool false) := (St.boxAt t0 3).1
          have z0 := (St.boxAt t0 0).2
          have z1 := (St.boxAt t0 1).2
          have z2 := (St.boxAt t0 2).2
          have z3 := (St.boxAt t0 3).2
          have t1 := (((t0.setBoxAt 0 (.slice none 0 0)).setBoxAt 1 (.int .i64 0)).setBoxAt 2 (.int .i64 0)).setBoxAt 3 (.bool false)
          go_wp2_with fail
          generalize (((wg.setCell ⟨n, 0, none⟩ (.slice none 0 0)).setCell ⟨n, 1, none⟩ (.int .i64 0)).setCell ⟨n, 2, none⟩ (.int .i64 0)).setCell ⟨n, 3, none⟩ (.bool false) = W1 at t1 ⊢
          refine bodyPost_ret (results_row_one rfl _ _ n 28 (flowW (.slice none 0 0) 0 0 false) (0, 0) _ rfl t1.box Tryz.underlying28 rfl size_flow) rfl ?_
          exact ⟨rfl, t1.drop.drop.drop.drop.drop.drop⟩
        · intro N hN
          have s5 := sd.newBox (flowW (.slice none 0 0) 0 0 false) 28
          obtain ⟨XB, hXB⟩ : ∃ b, wd.heap.size = b := ⟨_, rfl⟩
          rw [hXB] at s5
          go_wp2_with fail
          refine hN _ _ ⟨_, s5.front 1⟩ ?_
          try clear hN N
          clear hXB
          generalize wd.alloc (.cells #[.slice none 0 0, .int .i64 0, .int .i64 0, .bool false] 28) = wb at *
          refine held_step (j := 11) _ (by kernel_rfl) rfl ?_
          intro N hN
          have h1 := hinf wb _ (s5.front 1) (fun W' t' => t'.drop.drop.drop.drop.drop.drop)
          go_wp2_with fail
          refine h1.mono ?_
          rintro e wf ⟨rfl, s6⟩
          go_wp2_with fail
          refine hN _ _ ⟨_, s6⟩ ?_
          try clear hN N
          clear h1
          refine wpAnyH_take (i := 12) (v := .tuple #[.agg (flowW (.slice none 0 0) 0 0 false), .int .i64 2]) rfl (by kernel_rfl) (by kernel_rfl) (by kernel_rfl) (fun _ _ _ h => h) (.inl ⟨by kernel_rfl, fun W hW => by go_simp; try simp⟩) ⟨_, s6⟩ ?_
          refine wpAnyH_take (i := 13) (v := .agg (flowW (.slice none 0 0) 0 0 false)) rfl (by kernel_rfl) (by kernel_rfl) (by kernel_rfl) (fun _ _ _ h => h) (.inl ⟨by kernel_rfl, fun W hW => by go_simp; try simp⟩) ⟨_, s6⟩ ?_
          refine wpAnyH_take (i := 14) (v := .int .i64 2) rfl (by kernel_rfl) (by kernel_rfl) (by kernel_rfl) (fun _ _ _ h => h) (.inl ⟨by kernel_rfl, fun W hW => by go_simp; try simp⟩) ⟨_, s6⟩ ?_
          have s7 := s6.front 1
          have x0 : wf.cell? ⟨XB, 0, none⟩ = some (.slice none 0 0) := (St.boxAt s7 0).1
          have x1 : wf.cell? ⟨XB, 1, none⟩ = some (.int .i64 0) := (St.boxAt s7 1).1
          have x2 : wf.cell? ⟨XB, 2, none⟩ = some (.int .i64 0) := (St.boxAt s7 2).1
          have x3 : wf.cell? ⟨XB, 3, none⟩ = some (.bool false) := (St.boxAt s7 3).1
          have z0 := (St.boxAt s7 0).2
          have z1 := (St.boxAt s7 1).2
          have z2 := (St.boxAt s7 2).2
          have z3 := (St.boxAt s7 3).2
          have s8 := (((s7.setBoxAt 0 (.slice none 0 0)).setBoxAt 1 (.int .i64 0)).setBoxAt 2 (.int .i64 0)).setBoxAt 3 (.bool false)
          refine held_step (j := 16) _ (by kernel_rfl) rfl ?_
          intro N hN
          go_wp2_with fail
          refine hN _ _ ⟨_, s8.front 1⟩ ?_
          try clear hN N
          clear x0 x1 x2 x3 z0 z1 z2 z3
          generalize (((wf.setCell ⟨XB, 0, none⟩ (.slice none 0 0)).setCell ⟨XB, 1, none⟩ (.int .i64 0)).setCell ⟨XB, 2, none⟩ (.int .i64 0)).setCell ⟨XB, 3, none⟩ (.bool false) = wg at *
          refine held_step (j := 17) _ (by kernel_rfl) rfl ?_
          intro N hN
          go_wp2_with fail
          refine hN _ _ ⟨_, s8.front 1⟩ ?_
          try clear hN N
          refine wpAnyH_done (by kernel_rfl) ?_ 0
          have t0 := s8.front 5
          replace t0 : St B w0 wg (boxT n (flowW (.slice none 0 0) 0 0 false) 28 :: _) := t0
          have k0 : wg.cell? ⟨n, 0, none⟩ = some (.slice none 0 0) := (St.boxAt t0 0).1
          have k1 : wg.cell? ⟨n, 1, none⟩ = some (.int .i64 0) := (St.boxAt t0 1).1
          have k2 : wg.cell? ⟨n, 2, none⟩ = some (.int .i64 0) := (St.boxAt t0 2).1
          have k3 : wg.cell? ⟨n, 3, none⟩ = some (.bool false) := (St.boxAt t0 3).1
          have z0 := (St.boxAt t0 0).2
          have z1 := (St.boxAt t0 1).2
          have z2 := (St.boxAt t0 2).2
          have z3 := (St.boxAt t0 3).2
          have t1 := (((t0.setBoxAt 0 (.slice none 0 0)).setBoxAt 1 (.int .i64 0)).setBoxAt 2 (.int .i64 0)).setBoxAt 3 (.bool false)
          go_wp2_with fail
          generalize (((wg.setCell ⟨n, 0, none⟩ (.slice none 0 0)).setCell ⟨n, 1, none⟩ (.int .i64 0)).setCell ⟨n, 2, none⟩ (.int .i64 0)).setCell ⟨n, 3, none⟩ (.bool false) = W1 at t1 ⊢
          refine bodyPost_ret (results_row_one rfl _ _ n 28 (flowW (.slice none 0 0) 0 0 false) (0, 0) _ rfl t1.box Tryz.underlying28 rfl size_flow) rfl ?_
          exact ⟨rfl, t1.drop.drop.drop.drop.drop.drop⟩
      | some y =>
        rw [hi] at hinf
        obtain ⟨q, o⟩ := y
        have hob := infl_byte hi
        have hul := (infl_some hi).2.1
        rw [List.length_drop, List.length_drop] at hul
        obtain ⟨u, hu⟩ : ∃ u, used q = u := ⟨_, rfl⟩
        obtain ⟨zo, hzo⟩ : ∃ zo, o.length = zo := ⟨_, rfl⟩
        obtain ⟨ot, hot⟩ : ∃ ot, o.take mk = ot := ⟨_, rfl⟩
        obtain ⟨tk, htk⟩ : ∃ tk, ot.length = tk := ⟨_, rfl⟩
        rw [hu] at hul
        have hinf2 : ∀ W T, St B w0 W T → (∀ W', St B w0 W' T → St B w0 W' r) → Calls Tryz.prog 33 #[.slice a3 m3 (vc - p2), .int .i64 (mk : Int)] W fun e w' =>
            ∃ oa oc, e = .returned (.tuple #[.agg (flowW (.slice oa tk oc) zo u false), .int .i64 0]) ∧ St B w0 w' (rowT 5 1 (.slice oa tk oc) tk (u8s ot) :: T) := fun W T t hr => by
          have h := hinf W T t hr
          unfold Flow10 at h
          simp only [hot, htk, hzo, hu] at h
          exact h
        have hotb : ∀ x ∈ ot, x < 256 := fun x hx => by rw [← hot] at hx; exact hob x (List.mem_of_mem_take hx)
        have hal : acc.length ≤ 3000 := by rw [← hacc, List.length_take]; omega
        have htkm : tk ≤ mk := by rw [← htk, ← hot, List.length_take]; omega
        have hshort : xs.length < p2 + u + 8 → X = none := fun h => hnone (memAt_short hg hi (by rw [List.length_drop, hu]; simp only; omega))
        have hmem : p2 + u + 8 ≤ xs.length → k < ms.length ∧ (outs (ms.take (k + 1))).length = z + zo ∧ total (ms.take (k + 1)) = p2 + u + 8 ∧ wrongs keep (ms.take (k + 1)) = (wr0 || (wh || (decide (zo ≤ mk) && decide (tailOf o ≠ sl xs (p2 + u) 8)))) ∧ (outs (ms.take (k + 1))).take keep = acc ++ ot := fun h => by
          have hy := memAt_yes hg hi (by rw [List.length_drop, hu]; simp only; omega)
          have h1 := HG.out
          rw [goods_some hy] at h1
          obtain ⟨h2, h3, h4, h5⟩ := nth_at h1.symm
          obtain ⟨e1, e2, e3, e4⟩ := step_at h2 keep
          rw [h3] at e1 e2 e3 e4
          have hmore : more ms keep k = mk := by unfold more; rw [hz, hmk]
          simp only [hmore, hu, hzo, hot, hacc, hwr0, hpe] at e1 e2 e3 e4
          have hsl : sl (xs.drop p) (ph + u) 8 = sl xs (p2 + u) 8 := by unfold sl; rw [List.drop_drop, ← hp2, Nat.add_assoc]
          rw [hsl] at e3
          refine ⟨h2, by rw [e1, List.length_append, hz, hzo], by omega, e3, e4⟩
        have HSH := Lib.hid hshort
        have HMEM := Lib.hid hmem
        have HOTB := Lib.hid hotb
        have HOT := Lib.hid hot
        have HZO := Lib.hid hzo
        have HTK := Lib.hid htk
        clear hshort hmem hotb hot hzo htk hob hinf hnone
        refine held_two (i := 11) (j := 15) _ _ (by kernel_rfl) rfl rfl ?_ ?_
        · intro N hN
          have h1 := hinf2 wd _ sd (fun W' t' => t'.drop.drop.drop.drop.drop)
          go_wp2_with fail
          refine h1.mono ?_
          rintro e w5 ⟨oa, oc, rfl, s6⟩
          replace s6 := s6.front 1
          go_wp2_with fail
          refine hN _ _ ⟨_, s6⟩ ?_
          try clear hN N
          clear h1
          refine wpAnyH_take (i := 12) (v := .tuple #[.agg (flowW (.slice oa tk oc) zo u false), .int .i64 0]) rfl (by kernel_rfl) (by kernel_rfl) (by kernel_rfl) (fun _ _ _ h => h) (.inl ⟨by kernel_rfl, fun W hW => by go_simp; try simp⟩) ⟨_, s6⟩ ?_
          refine wpAnyH_take (i := 13) (v := .agg (flowW (.slice oa tk oc) zo u false)) rfl (by kernel_rfl) (by kernel_rfl) (by kernel_rfl) (fun _ _ _ h => h) (.inl ⟨by kernel_rfl, fun W hW => by go_simp; try simp⟩) ⟨_, s6⟩ ?_
          refine wpAnyH_take (i := 14) (v := .int .i64 0) rfl (by kernel_rfl) (by kernel_rfl) (by kernel_rfl) (fun _ _ _ h => h) (.inl ⟨by kernel_rfl, fun W hW => by go_simp; try simp⟩) ⟨_, s6⟩ ?_
          have s7 := s6.newBox (flowW (.slice none 0 0) 0 0 false) 28
          obtain ⟨XB, hXB⟩ : ∃ b, w5.heap.size = b := ⟨_, rfl⟩
          rw [hXB] at s7
          refine held_step (j := 15) _ (by kernel_rfl) rfl ?_
          intro N hN
          go_wp2_with fail
          refine hN _ _ ⟨_, s7.front 1⟩ ?_
          try clear hN N
          clear hXB
          generalize w5.alloc (.cells #[.slice none 0 0, .int .i64 0, .int .i64 0, .bool false] 28) = wf at *
          have x0 : wf.cell? ⟨XB, 0, none⟩ = some (.slice none 0 0) := (St.boxAt s7 0).1
          have x1 : wf.cell? ⟨XB, 1, none⟩ = some (.int .i64 0) := (St.boxAt s7 1).1
          have x2 : wf.cell? ⟨XB, 2, none⟩ = some (.int .i64 0) := (St.boxAt s7 2).1
          have x3 : wf.cell? ⟨XB, 3, none⟩ = some (.bool false) := (St.boxAt s7 3).1
          have z0 := (St.boxAt s7 0).2
          have z1 := (St.boxAt s7 1).2
          have z2 := (St.boxAt s7 2).2
          have z3 := (St.boxAt s7 3).2
          have s8 := (((s7.setBoxAt 0 (.slice oa tk oc)).setBoxAt 1 (.int .i64 (zo : Int))).setBoxAt 2 (.int .i64 (u : Int))).setBoxAt 3 (.bool false)
          refine held_step (j := 16) _ (by kernel_rfl) rfl ?_
          intro N hN
          go_wp2_with fail
          refine hN _ _ ⟨_, s8.front 1⟩ ?_
          try clear hN N
          clear x0 x1 x2 x3 z0 z1 z2 z3
          generalize (((wf.setCell ⟨XB, 0, none⟩ (.slice oa tk oc)).setCell ⟨XB, 1, none⟩ (.int .i64 (zo : Int))).setCell ⟨XB, 2, none⟩ (.int .i64 (u : Int))).setCell ⟨XB, 3, none⟩ (.bool false) = wg at *
          refine held_step (j := 17) _ (by kernel_rfl) rfl ?_
          intro N hN
          go_wp2_with fail
          refine hN _ _ ⟨_, s8.front 1⟩ ?_
          try clear hN N
          refine wpAnyH_done (by kernel_rfl) ?_ 0
          clear sd
          have sT := ((((s8.front 3).drop).front 3).drop).swap
          replace sT : St B w0 wg (boxT (n + 1) (flowW v' z p wr0) 28 :: boxT XB (flowW (.slice oa tk oc) zo u false) 28 :: rowT 5 1 (.slice oa tk oc) tk (u8s ot) :: rowT 5 1 v' acc.length (u8s acc) :: boxT n (flowW (.slice none 0 0) 0 0 false) 28 :: r) := sT
          obtain ⟨eP, heP⟩ : ∃ eP, p2 + u = eP := ⟨_, rfl⟩
          have hend : (p2 : Int) + (u : Int) = (eP : Int) := by omega
          have b1 : wg.cell? ⟨n + 1, 2, none⟩ = some (.int .i64 (p : Int)) := (St.boxAt sT 2).1
          have b2 : wg.cell? ⟨XB, 2, none⟩ = some (.int .i64 (u : Int)) := (St.boxAt sT.swap 2).1
          clear s8 s6
          by_cases hsh : xs.length < eP + 8
          · have e := HSH.out (by omega)
            subst e
            have hc : decide ((xs.length : Int) - (eP : Int) < 8) = true := by simp; omega
            have t0 := sT.front 4
            replace t0 : St B w0 wg (boxT n (flowW (.slice none 0 0) 0 0 false) 28 :: _) := t0
            have k0 : wg.cell? ⟨n, 0, none⟩ = some (.slice none 0 0) := (St.boxAt t0 0).1
            have k1 : wg.cell? ⟨n, 1, none⟩ = some (.int .i64 0) := (St.boxAt t0 1).1
            have k2 : wg.cell? ⟨n, 2, none⟩ = some (.int .i64 0) := (St.boxAt t0 2).1
            have k3 : wg.cell? ⟨n, 3, none⟩ = some (.bool false) := (St.boxAt t0 3).1
            have z0 := (St.boxAt t0 0).2
            have z1 := (St.boxAt t0 1).2
            have z2 := (St.boxAt t0 2).2
            have z3 := (St.boxAt t0 3).2
            have t1 := (((t0.setBoxAt 0 (.slice none 0 0)).setBoxAt 1 (.int .i64 0)).setBoxAt 2 (.int .i64 0)).setBoxAt 3 (.bool false)
            go_wp2_with fail
            generalize (((wg.setCell ⟨n, 0, none⟩ (.slice none 0 0)).setCell ⟨n, 1, none⟩ (.int .i64 0)).setCell ⟨n, 2, none⟩ (.int .i64 0)).setCell ⟨n, 3, none⟩ (.bool false) = W1 at t1 ⊢
            refine bodyPost_ret (results_row_one rfl _ _ n 28 (flowW (.slice none 0 0) 0 0 false) (0, 0) _ rfl t1.box Tryz.underlying28 rfl size_flow) rfl ?_
            exact ⟨rfl, t1.drop.drop.drop.drop.drop⟩
          · have hc : decide ((xs.length : Int) - (eP : Int) < 8) = false := by simp; omega
            obtain ⟨hk1, E1, E2, E3, E4⟩ := HMEM.out (by omega)
            rw [heP] at E2 E3
            have hzz : z + zo ≤ 2064 * 400 := by have := outs_take ms (k + 1); omega
            obtain ⟨nz, hnz⟩ : ∃ nz, z + zo = nz := ⟨_, rfl⟩
            obtain ⟨uz, huz⟩ : ∃ uz, eP + 8 = uz := ⟨_, rfl⟩
            rw [hnz] at E1
            rw [huz] at E2
            have hnz2 : (z : Int) + (zo : Int) = (nz : Int) := by omega
            have huz2 : (eP : Int) + 8 = (uz : Int) := by omega
            have HE := Lib.hid (And.intro hk1 (And.intro E1 (And.intro E2 E4)))
            have HE3 := Lib.hid E3
            clear hk1 E1 E2 E3 E4 HMEM HSH
            have HROW : Hid (∀ W r', St B w0 W (rowT 5 1 (.slice oa tk oc) tk (u8s ot) :: r') → ByteRow W (.slice oa tk oc) ot) := Lib.hid fun W r' t => by
              have h := t.row
              rw [← HTK.out] at h ⊢
              exact byteRow_owns h HOTB.out
            obtain ⟨wr1, hwr1⟩ : ∃ wr1, (wr0 || wh) = wr1 := ⟨_, rfl⟩
            have HE4 : Hid (wrongs keep (ms.take (k + 1)) = (wr1 || (decide (zo ≤ mk) && decide (tailOf o ≠ sl xs eP 8)))) := Lib.hid (by rw [HE3.out, ← hwr1, Bool.or_assoc])
            have HW1 := Lib.hid hwr1
            clear HE3 hwr1
            go_upto_if 60 with fail
            go_cut [] from 16 to 104 (fun wx => St B w0 wx (boxT (n + 1) (flowW v' z p wr1) 28 :: boxT XB (flowW (.slice oa tk oc) zo u false) 28 :: rowT 5 1 (.slice oa tk oc) tk (u8s ot) :: rowT 5 1 v' acc.length (u8s acc) :: boxT n (flowW (.slice none 0 0) 0 0 false) 28 :: r))
            case first =>
              have hwr1 := HW1.out
              cases wh with
              | true =>
                rw [Bool.or_true] at hwr1
                subst hwr1
                have z3 := (St.boxAt sT 3).2
                have b3 : wg.cell? ⟨n + 1, 3, none⟩ = some (.bool wr0) := (St.boxAt sT 3).1
                have sU := sT.setBoxAt 3 (.bool true)
                clear sT
                go_wp2_with fail
                go_meet
                exact sU
              | false =>
                rw [Bool.or_false] at hwr1
                subst hwr1
                go_wp2_with fail
                go_meet
                exact sT
            case rest =>
              have sT := hcut
              clear hcut
              obtain ⟨bt, hbt⟩ : ∃ bt, (decide (zo ≤ mk) && decide (tailOf o ≠ sl xs eP 8)) = bt := ⟨_, rfl⟩
              rw [hbt] at HE4
              have HBT := Lib.hid hbt
              clear hbt HW1
              go_upto_region 15 with fail
              go_cut [82] from 16 to 104 (fun tv wx => tv = .bool bt ∧ St B w0 wx (boxT (n + 1) (flowW v' z p wr1) 28 :: boxT XB (flowW (.slice oa tk oc) zo u false) 28 :: rowT 5 1 (.slice oa tk oc) tk (u8s ot) :: rowT 5 1 v' acc.length (u8s acc) :: boxT n (flowW (.slice none 0 0) 0 0 false) 28 :: r))
              case first =>
                by_cases hzm : zo ≤ mk
                · have hto : ot = o := by rw [← HOT.out]; exact List.take_of_length_le (by rw [HZO.out]; exact hzm)
                  have hzi : (zo : Int) ≤ (mk : Int) := by omega
                  have hdz : decide (zo ≤ mk) = true := decide_eq_true hzm
                  have hrow8 := fun W (t : St B w0 W r) => Fr.byteRow_sub (HV.out W t) eP 8 (by omega)
                  obtain ⟨a8, ha8⟩ : ∃ a8, (if vc = eP then va else va.map (·.add eP)) = a8 := ⟨_, rfl⟩
                  rw [ha8] at hrow8
                  have sV := sT.drew
                  have hs8 := run_string wc.drew _ (sl xs eP 8) (hrow8 _ sV.drop.drop.drop.drop.drop).reads
                  have hb8 : ∀ x ∈ sl xs eP 8, x < 256 := fun x hx => hbyte x (List.mem_of_mem_drop (List.mem_of_mem_take hx))
                  have heI : (eP : Int) + 8 ≤ (xs.length : Int) := by omega
                  have c1 : wc.drew.cell? ⟨n + 1, 1, none⟩ = some (.int .i64 (z : Int)) := (St.boxAt sV 1).1
                  have c2 : wc.drew.cell? ⟨XB, 1, none⟩ = some (.int .i64 (zo : Int)) := (St.boxAt sV.swap 1).1
                  have c3 : wc.drew.cell? ⟨XB, 0, none⟩ = some (.slice oa tk oc) := (St.boxAt sV.swap 0).1
                  have htail := refTail_st sV (.slice oa tk oc) ot (fun W t => HROW.out W _ t.third) (by rw [HTK.out]; omega)
                  clear sT
                  have hwu : IntKind.i64.wrap (uz : Int) = (uz : Int) := by
                    simp only [IntKind.wrap, IntKind.signed, IntKind.bits]
                    simp
                    omega
                  have hu1 : uz ≤ vc := by omega
                  have hu2 : eP ≤ uz := by omega
                  have hu3 : uz - eP = 8 := by omega
                  generalize hstr8 : strOf (sl xs eP 8) = s8 at *
                  have hS : ∀ W T, (∀ W', St B w0 W' T → St B w0 W' r) → St B w0 W (boxT (n + 1) (flowW v' z p wr1) 28 :: boxT XB (flowW (.slice oa tk oc) zo u false) 28 :: T) → W.cell? ⟨n + 1, 1, none⟩ = some (.int .i64 (z : Int)) ∧ W.cell? ⟨XB, 1, none⟩ = some (.int .i64 (zo : Int)) ∧ W.cell? ⟨XB, 0, none⟩ = some (.slice oa tk oc) ∧ (convert 26 9 (.slice a8 8 (vc - eP))).run Tryz.prog W = .ok (.string s8) W := fun W T hr t =>
                    ⟨(St.boxAt t 1).1, (St.boxAt t.swap 1).1, (St.boxAt t.swap 0).1, by rw [← hstr8]; exact run_string W _ (sl xs eP 8) (hrow8 W (hr W t.drop.drop)).reads⟩
                  refine region_seg (by kernel_rfl) [2] 20 rfl (by kernel_rfl) (by kernel_rfl) (fun _ _ d _ _ h => by cases d <;> exact h) ?_
                  generalize wc.drew = wu at *
                  have hr5 : ∀ W', St B w0 W' (rowT 5 1 (.slice oa tk oc) tk (u8s ot) :: rowT 5 1 v' acc.length (u8s acc) :: boxT n (flowW (.slice none 0 0) 0 0 false) 28 :: r) → St B w0 W' r := fun W' t => t.drop.drop.drop
                  intro K hK
                  simp only [pickL, List.getElem?_cons_zero, List.getElem?_cons_succ]
                  go_wp2_with fail
                  try clear hK K
                  refine wpAny_of_held (S := fun W => ∃ T, (∀ W', St B w0 W' T → St B w0 W' r) ∧ St B w0 W (boxT (n + 1) (flowW v' z p wr1) 28 :: boxT XB (flowW (.slice oa tk oc) zo u false) 28 :: T)) _ _ _ _ ?_
                  refine wpAnyH_take (i := 0) (v := .pointer (some ⟨XB, 1, none⟩)) rfl (by kernel_rfl) (by kernel_rfl) (by kernel_rfl) (fun _ _ _ h => h) (.inl ⟨by kernel_rfl, fun W hW => by obtain ⟨T, hr, t⟩ := hW; obtain ⟨q1, q2, q3, q4⟩ := hS W T hr t; go_simp; try simp; try omega⟩) ⟨_, hr5, sV⟩ ?_
                  refine wpAnyH_take (i := 1) (v := .int .i64 (zo : Int)) rfl (by kernel_rfl) (by kernel_rfl) (by kernel_rfl) (fun _ _ _ h => h) (.inl ⟨by kernel_rfl, fun W hW => by obtain ⟨T, hr, t⟩ := hW; obtain ⟨q1, q2, q3, q4⟩ := hS W T hr t; go_simp; try simp; try omega⟩) ⟨_, hr5, sV⟩ ?_
                  refine wpAnyH_take (i := 3) (v := .pointer (some ⟨n + 1, 1, none⟩)) rfl (by kernel_rfl) (by kernel_rfl) (by kernel_rfl) (fun _ _ _ h => h) (.inl ⟨by kernel_rfl, fun W hW => by obtain ⟨T, hr, t⟩ := hW; obtain ⟨q1, q2, q3, q4⟩ := hS W T hr t; go_simp; try simp; try omega⟩) ⟨_, hr5, sV⟩ ?_
                  refine wpAnyH_take (i := 4) (v := .int .i64 (z : Int)) rfl (by kernel_rfl) (by kernel_rfl) (by kernel_rfl) (fun _ _ _ h => h) (.inl ⟨by kernel_rfl, fun W hW => by obtain ⟨T, hr, t⟩ := hW; obtain ⟨q1, q2, q3, q4⟩ := hS W T hr t; go_simp; try simp; try omega⟩) ⟨_, hr5, sV⟩ ?_
                  refine wpAnyH_take (i := 5) (v := .int .i64 ((keep : Int) - (z : Int))) rfl (by kernel_rfl) (by kernel_rfl) (by kernel_rfl) (fun _ _ _ h => h) (.inl ⟨by kernel_rfl, fun W hW => by obtain ⟨T, hr, t⟩ := hW; obtain ⟨q1, q2, q3, q4⟩ := hS W T hr t; go_simp; try simp; try omega⟩) ⟨_, hr5, sV⟩ ?_
                  refine wpAnyH_take (i := 6) (v := .int .i64 (mk : Int)) rfl (by kernel_rfl) (by kernel_rfl) (by kernel_rfl) (fun _ _ _ h => h) (.inl ⟨by kernel_rfl, fun W hW => by obtain ⟨T, hr, t⟩ := hW; obtain ⟨q1, q2, q3, q4⟩ := hS W T hr t; go_simp; try simp; try omega⟩) ⟨_, hr5, sV⟩ ?_
                  refine wpAnyH_take (i := 7) (v := .bool true) rfl (by kernel_rfl) (by kernel_rfl) (by kernel_rfl) (fun _ _ _ h => h) (.inl ⟨by kernel_rfl, fun W hW => by obtain ⟨T, hr, t⟩ := hW; obtain ⟨q1, q2, q3, q4⟩ := hS W T hr t; go_simp; try simp; try omega⟩) ⟨_, hr5, sV⟩ ?_
                  refine held_step (j := 8) _ (by kernel_rfl) rfl ?_
                  intro M hM
                  go_wp2_with fail
                  refine hM _ _ ⟨_, hr5, sV⟩ ?_
                  try clear hM M
                  refine wpAnyH_take (i := 9) (v := .slice va xs.length vc) rfl (by kernel_rfl) (by kernel_rfl) (by kernel_rfl) (fun _ _ _ h => h) (.inl ⟨by kernel_rfl, fun W hW => by obtain ⟨T, hr, t⟩ := hW; obtain ⟨q1, q2, q3, q4⟩ := hS W T hr t; go_simp; try simp; try omega⟩) ⟨_, hr5, sV⟩ ?_
                  refine wpAnyH_take (i := 10) (v := .int .i64 (eP : Int)) rfl (by kernel_rfl) (by kernel_rfl) (by kernel_rfl) (fun _ _ _ h => h) (.inl ⟨by kernel_rfl, fun W hW => by obtain ⟨T, hr, t⟩ := hW; obtain ⟨q1, q2, q3, q4⟩ := hS W T hr t; go_simp; try simp; try omega⟩) ⟨_, hr5, sV⟩ ?_
                  refine wpAnyH_take (i := 11) (v := .int .i64 (eP : Int)) rfl (by kernel_rfl) (by kernel_rfl) (by kernel_rfl) (fun _ _ _ h => h) (.inl ⟨by kernel_rfl, fun W hW => by obtain ⟨T, hr, t⟩ := hW; obtain ⟨q1, q2, q3, q4⟩ := hS W T hr t; go_simp; try simp; try omega⟩) ⟨_, hr5, sV⟩ ?_
                  refine wpAnyH_take (i := 12) (v := .int .i64 (uz : Int)) rfl (by kernel_rfl) (by kernel_rfl) (by kernel_rfl) (fun _ _ _ h => h) (.inl ⟨by kernel_rfl, fun W hW => by obtain ⟨T, hr, t⟩ := hW; obtain ⟨q1, q2, q3, q4⟩ := hS W T hr t; go_simp; try simp; try omega⟩) ⟨_, hr5, sV⟩ ?_
                  refine wpAnyH_take (i := 13) (v := .slice a8 8 (vc - eP)) rfl (by kernel_rfl) (by kernel_rfl) (by kernel_rfl) (fun _ _ _ h => h) (.inl ⟨by kernel_rfl, fun W hW => by obtain ⟨T, hr, t⟩ := hW; obtain ⟨q1, q2, q3, q4⟩ := hS W T hr t; go_simp; try simp; try omega⟩) ⟨_, hr5, sV⟩ ?_
                  refine wpAnyH_take (i := 14) (v := .string s8) rfl (by kernel_rfl) (by kernel_rfl) (by kernel_rfl) (fun _ _ _ h => h) (.inl ⟨by kernel_rfl, fun W hW => by obtain ⟨T, hr, t⟩ := hW; obtain ⟨q1, q2, q3, q4⟩ := hS W T hr t; go_simp; try simp; try omega⟩) ⟨_, hr5, sV⟩ ?_
                  refine wpAnyH_take (i := 15) (v := .pointer (some ⟨XB, 0, none⟩)) rfl (by kernel_rfl) (by kernel_rfl) (by kernel_rfl) (fun _ _ _ h => h) (.inl ⟨by kernel_rfl, fun W hW => by obtain ⟨T, hr, t⟩ := hW; obtain ⟨q1, q2, q3, q4⟩ := hS W T hr t; go_simp; try simp; try omega⟩) ⟨_, hr5, sV⟩ ?_
                  refine wpAnyH_take (i := 16) (v := .slice oa tk oc) rfl (by kernel_rfl) (by kernel_rfl) (by kernel_rfl) (fun _ _ _ h => h) (.inl ⟨by kernel_rfl, fun W hW => by obtain ⟨T, hr, t⟩ := hW; obtain ⟨q1, q2, q3, q4⟩ := hS W T hr t; go_simp; try simp; try omega⟩) ⟨_, hr5, sV⟩ ?_
                  have HTO := Lib.hid hto
                  have HS8 := Lib.hid hstr8
                  have HTA := Lib.hid htail
                  have HHS := Lib.hid hS
                  clear hwu hu1 hu2 hu3 ha8 hstr8 c1 c2 c3 hto htail hS hrow8 heI
                  refine held_step (j := 17) _ (by kernel_rfl) rfl ?_
                  intro M hM
                  try simp only [List.getElem_toArray, List.getElem_cons_succ, List.getElem_cons_zero]
                  go_wp2_with fail
                  refine HTA.out.mono ?_
                  rintro e wt ⟨v8, rfl, sX⟩
                  obtain ⟨x8, c8, rfl⟩ := ownsRow_slice sX.row
                  have hs9 := run_string wt _ (tailOf ot) (Reads.of_owns sX.row)
                  have hr6 : ∀ W', St B w0 W' (rowT 5 1 (.slice x8 8 c8) 8 (u8s (tailOf ot)) :: rowT 5 1 (.slice oa tk oc) tk (u8s ot) :: rowT 5 1 v' acc.length (u8s acc) :: boxT n (flowW (.slice none 0 0) 0 0 false) 28 :: r) → St B w0 W' r := fun W' t => t.drop.drop.drop.drop
                  go_wp2_with fail
                  refine hM _ _ ⟨_, hr6, sX.third.third⟩ ?_
                  try clear hM M
                  have hto := HTO.out
                  have hstr8 := HS8.out
                  clear sV HTA HHS HTO HS8
                  by_cases htl : tailOf ot = sl xs eP 8
                  · have hs9' : (convert 26 9 (.slice x8 8 c8)).run Tryz.prog wt = .ok (.string s8) wt := by rw [hs9, htl, hstr8]
                    clear hs9
                    refine held_step (j := 18) _ (by kernel_rfl) rfl ?_
                    intro M hM
                    try simp only [List.getElem_toArray, List.getElem_cons_succ, List.getElem_cons_zero]
                    go_wp2_with fail
                    refine hM _ _ ⟨_, hr6, sX.third.third⟩ ?_
                    try clear hM M
                    refine held_step (j := 19) _ (by kernel_rfl) rfl ?_
                    intro M hM
                    try simp only [List.getElem_toArray, List.getElem_cons_succ, List.getElem_cons_zero]
                    go_wp2_with fail
                    refine hM _ _ ⟨_, hr6, sX.third.third⟩ ?_
                    try clear hM M
                    refine held_step (j := 20) _ (by kernel_rfl) rfl ?_
                    intro M hM
                    try simp only [List.getElem_toArray, List.getElem_cons_succ, List.getElem_cons_zero]
                    go_wp2_with fail
                    refine hM _ _ ⟨_, hr6, sX.third.third⟩ ?_
                    try clear hM M
                    refine wpAnyH_done (by kernel_rfl) ?_ 0
                    have sY := sX.drop
                    clear sX hs9' hr6
                    have hbt := HBT.out
                    rw [← hto, htl] at hbt
                    simp at hbt
                    subst hbt
                    go_wp2_with fail
                    go_meet
                    exact ⟨rfl, sY⟩
                  · have hne : (s8.toList == (strOf (tailOf ot)).toList) = false := by
                      rw [beq_eq_false_iff_ne, ← hstr8]
                      intro e
                      exact htl ((Inf.strOf_eq hb8 (tailOf_byte ot)).1 ((Inf.str_list _ _).1 e)).symm
                    generalize strOf (tailOf ot) = s9 at *
                    refine held_step (j := 18) _ (by kernel_rfl) rfl ?_
                    intro M hM
                    try simp only [List.getElem_toArray, List.getElem_cons_succ, List.getElem_cons_zero]
                    go_wp2_with fail
                    refine hM _ _ ⟨_, hr6, sX.third.third⟩ ?_
                    try clear hM M
                    refine held_step (j := 19) _ (by kernel_rfl) rfl ?_
                    intro M hM
                    try simp only [List.getElem_toArray, List.getElem_cons_succ, List.getElem_cons_zero]
                    go_wp2_with fail
                    refine hM _ _ ⟨_, hr6, sX.third.third⟩ ?_
                    try clear hM M
                    refine held_step (j := 20) _ (by kernel_rfl) rfl ?_
                    intro M hM
                    try simp only [List.getElem_toArray, List.getElem_cons_succ, List.getElem_cons_zero]
                    go_wp2_with fail
                    refine hM _ _ ⟨_, hr6, sX.third.third⟩ ?_
                    try clear hM M
                    refine wpAnyH_done (by kernel_rfl) ?_ 0
                    have sX2 := sX.drop
                    clear sX hs9 hr6
                    have hbt := HBT.out
                    rw [← hto, hdz] at hbt
                    simp [htl] at hbt
                    subst hbt
                    go_wp2_with fail
                    go_meet
                    exact ⟨rfl, sX2⟩
                · have hzi : (mk : Int) < (zo : Int) := by omega
                  have hdz : decide (zo ≤ mk) = false := decide_eq_false hzm
                  have sV := sT.drew
                  clear sT
                  have hS : ∀ W T, St B w0 W (boxT (n + 1) (flowW v' z p wr1) 28 :: boxT XB (flowW (.slice oa tk oc) zo u false) 28 :: T) → W.cell? ⟨n + 1, 1, none⟩ = some (.int .i64 (z : Int)) ∧ W.cell? ⟨XB, 1, none⟩ = some (.int .i64 (zo : Int)) := fun W T t => ⟨(St.boxAt t 1).1, (St.boxAt t.swap 1).1⟩
                  refine region_seg (by kernel_rfl) [2] 20 rfl (by kernel_rfl) (by kernel_rfl) (fun _ _ d _ _ h => by cases d <;> exact h) ?_
                  generalize wc.drew = wu at *
                  intro K hK
                  simp only [pickL, List.getElem?_cons_zero, List.getElem?_cons_succ]
                  go_wp2_with fail
                  try clear hK K
                  refine wpAny_of_held (S := fun W => ∃ T, St B w0 W (boxT (n + 1) (flowW v' z p wr1) 28 :: boxT XB (flowW (.slice oa tk oc) zo u false) 28 :: T)) _ _ _ _ ?_
                  refine wpAnyH_take (i := 0) (v := .pointer (some ⟨XB, 1, none⟩)) rfl (by kernel_rfl) (by kernel_rfl) (by kernel_rfl) (fun _ _ _ h => h) (.inl ⟨by kernel_rfl, fun W hW => by obtain ⟨T, t⟩ := hW; obtain ⟨q1, q2⟩ := hS W T t; go_simp; try simp; try omega⟩) ⟨_, sV⟩ ?_
                  refine wpAnyH_take (i := 1) (v := .int .i64 (zo : Int)) rfl (by kernel_rfl) (by kernel_rfl) (by kernel_rfl) (fun _ _ _ h => h) (.inl ⟨by kernel_rfl, fun W hW => by obtain ⟨T, t⟩ := hW; obtain ⟨q1, q2⟩ := hS W T t; go_simp; try simp; try omega⟩) ⟨_, sV⟩ ?_
                  refine wpAnyH_take (i := 3) (v := .pointer (some ⟨n + 1, 1, none⟩)) rfl (by kernel_rfl) (by kernel_rfl) (by kernel_rfl) (fun _ _ _ h => h) (.inl ⟨by kernel_rfl, fun W hW => by obtain ⟨T, t⟩ := hW; obtain ⟨q1, q2⟩ := hS W T t; go_simp; try simp; try omega⟩) ⟨_, sV⟩ ?_
                  refine wpAnyH_take (i := 4) (v := .int .i64 (z : Int)) rfl (by kernel_rfl) (by kernel_rfl) (by kernel_rfl) (fun _ _ _ h => h) (.inl ⟨by kernel_rfl, fun W hW => by obtain ⟨T, t⟩ := hW; obtain ⟨q1, q2⟩ := hS W T t; go_simp; try simp; try omega⟩) ⟨_, sV⟩ ?_
                  refine wpAnyH_take (i := 5) (v := .int .i64 ((keep : Int) - (z : Int))) rfl (by kernel_rfl) (by kernel_rfl) (by kernel_rfl) (fun _ _ _ h => h) (.inl ⟨by kernel_rfl, fun W hW => by obtain ⟨T, t⟩ := hW; obtain ⟨q1, q2⟩ := hS W T t; go_simp; try simp; try omega⟩) ⟨_, sV⟩ ?_
                  refine wpAnyH_take (i := 6) (v := .int .i64 (mk : Int)) rfl (by kernel_rfl) (by kernel_rfl) (by kernel_rfl) (fun _ _ _ h => h) (.inl ⟨by kernel_rfl, fun W hW => by obtain ⟨T, t⟩ := hW; obtain ⟨q1, q2⟩ := hS W T t; go_simp; try simp; try omega⟩) ⟨_, sV⟩ ?_
                  refine wpAnyH_take (i := 7) (v := .bool false) rfl (by kernel_rfl) (by kernel_rfl) (by kernel_rfl) (fun _ _ _ h => h) (.inl ⟨by kernel_rfl, fun W hW => by obtain ⟨T, t⟩ := hW; obtain ⟨q1, q2⟩ := hS W T t; go_simp; try simp; try omega⟩) ⟨_, sV⟩ ?_
                  refine wpAnyH_take (i := 8) (v := .bool false) rfl (by kernel_rfl) (by kernel_rfl) (by kernel_rfl) (fun _ _ _ h => h) (.inl ⟨by kernel_rfl, fun W hW => by obtain ⟨T, t⟩ := hW; obtain ⟨q1, q2⟩ := hS W T t; go_simp; try simp; try omega⟩) ⟨_, sV⟩ ?_
                  refine wpAnyH_take (i := 9) (v := undef) rfl (by kernel_rfl) (by kernel_rfl) (by kernel_rfl) (fun _ _ _ h => h) (.inr ⟨by kernel_rfl, rfl⟩) ⟨_, sV⟩ ?_
                  refine wpAnyH_take (i := 10) (v := undef) rfl (by kernel_rfl) (by kernel_rfl) (by kernel_rfl) (fun _ _ _ h => h) (.inr ⟨by kernel_rfl, rfl⟩) ⟨_, sV⟩ ?_
                  refine wpAnyH_take (i := 11) (v := undef) rfl (by kernel_rfl) (by kernel_rfl) (by kernel_rfl) (fun _ _ _ h => h) (.inr ⟨by kernel_rfl, rfl⟩) ⟨_, sV⟩ ?_
                  refine wpAnyH_take (i := 12) (v := undef) rfl (by kernel_rfl) (by kernel_rfl) (by kernel_rfl) (fun _ _ _ h => h) (.inr ⟨by kernel_rfl, rfl⟩) ⟨_, sV⟩ ?_
                  refine wpAnyH_take (i := 13) (v := undef) rfl (by kernel_rfl) (by kernel_rfl) (by kernel_rfl) (fun _ _ _ h => h) (.inr ⟨by kernel_rfl, rfl⟩) ⟨_, sV⟩ ?_
                  refine wpAnyH_take (i := 14) (v := undef) rfl (by kernel_rfl) (by kernel_rfl) (by kernel_rfl) (fun _ _ _ h => h) (.inr ⟨by kernel_rfl, rfl⟩) ⟨_, sV⟩ ?_
                  refine wpAnyH_take (i := 15) (v := undef) rfl (by kernel_rfl) (by kernel_rfl) (by kernel_rfl) (fun _ _ _ h => h) (.inr ⟨by kernel_rfl, rfl⟩) ⟨_, sV⟩ ?_
                  refine wpAnyH_take (i := 16) (v := undef) rfl (by kernel_rfl) (by kernel_rfl) (by kernel_rfl) (fun _ _ _ h => h) (.inr ⟨by kernel_rfl, rfl⟩) ⟨_, sV⟩ ?_
                  refine wpAnyH_take (i := 17) (v := undef) rfl (by kernel_rfl) (by kernel_rfl) (by kernel_rfl) (fun _ _ _ h => h) (.inr ⟨by kernel_rfl, rfl⟩) ⟨_, sV⟩ ?_
                  refine wpAnyH_take (i := 18) (v := undef) rfl (by kernel_rfl) (by kernel_rfl) (by kernel_rfl) (fun _ _ _ h => h) (.inr ⟨by kernel_rfl, rfl⟩) ⟨_, sV⟩ ?_
                  refine wpAnyH_take (i := 19) (v := undef) rfl (by kernel_rfl) (by kernel_rfl) (by kernel_rfl) (fun _ _ _ h => h) (.inr ⟨by kernel_rfl, rfl⟩) ⟨_, sV⟩ ?_
                  refine held_step (j := 20) _ (by kernel_rfl) rfl ?_
                  intro M hM
                  go_wp2_with fail
                  refine hM _ _ ⟨_, sV⟩ ?_
                  try clear hM M
                  refine wpAnyH_done (by kernel_rfl) ?_ 0
                  have hbt := HBT.out
                  rw [hdz] at hbt
                  simp at hbt
                  subst hbt
                  go_wp2_with fail
                  go_meet
                  exact ⟨rfl, sV⟩
              case rest =>
                obtain ⟨rfl, sZ⟩ := hcut
                clear HBT
                obtain ⟨wr2, hwr2⟩ : ∃ wr2, (wr1 || bt) = wr2 := ⟨_, rfl⟩
                rw [hwr2] at HE4
                have HW2 := Lib.hid hwr2
                clear hwr2
                go_upto_if 82 with fail
                go_cut [] from 16 to 104 (fun wx => St B w0 wx (boxT (n + 1) (flowW v' z p wr2) 28 :: boxT XB (flowW (.slice oa tk oc) zo u false) 28 :: rowT 5 1 (.slice oa tk oc) tk (u8s ot) :: rowT 5 1 v' acc.length (u8s acc) :: boxT n (flowW (.slice none 0 0) 0 0 false) 28 :: r))
                case first =>
                  have hwr2 := HW2.out
                  cases bt with
                  | true =>
                    rw [Bool.or_true] at hwr2
                    subst hwr2
                    have z3 := (St.boxAt sZ 3).2
                    have b3 := (St.boxAt sZ 3).1
                    simp only [List.getElem?_toArray, List.getElem?_cons_zero, List.getElem?_cons_succ] at b3
                    have sU := sZ.setBoxAt 3 (.bool true)
                    clear sZ
                    go_wp2_with fail
                    go_meet
                    exact sU
                  | false =>
                    rw [Bool.or_false] at hwr2
                    subst hwr2
                    go_wp2_with fail
                    go_meet
                    exact sZ
                case rest =>
                  have sY := hcut
                  clear hcut sZ HW2
                  have sA := sY.fourth
                  have hrowA := HROW.out _ _ sY.third
                  have kv := (St.boxAt sY 0).1
                  have kx := (St.boxAt sY.swap 0).1
                  simp only [List.getElem?_toArray, List.getElem?_cons_zero] at kv kx
                  have hwrk : wrongs keep (ms.take (k + 1)) = wr2 := HE4.out
                  have HWK := Lib.hid hwrk
                  clear hwrk
                  go_wp2_with (at_builtin; refine wpList_append_bytes rfl _ _ rfl sA hrowA rfl rfl (by rw [HTK.out]; omega) ?_)
                  intro v2 w2 s3 _ _
                  rw [HTK.out, ← u8s_append] at s3
                  obtain ⟨xa, xc, rfl⟩ := ownsRow_slice s3.row
                  have t0 := s3.swap
                  have j1 : w2.cell? ⟨n + 1, 1, none⟩ = some (.int .i64 (z : Int)) := (St.boxAt t0 1).1
                  have j2 : w2.cell? ⟨n + 1, 2, none⟩ = some (.int .i64 (p : Int)) := (St.boxAt t0 2).1
                  have j3 : w2.cell? ⟨n + 1, 3, none⟩ = some (.bool wr2) := (St.boxAt t0 3).1
                  have j0 : w2.cell? ⟨n + 1, 0, none⟩ = some v' := (St.boxAt t0 0).1
                  have f0 := (St.boxAt t0 0).2
                  have f1 := (St.boxAt t0 1).2
                  have f2 := (St.boxAt t0 2).2
                  have m1 : w2.cell? ⟨XB, 1, none⟩ = some (.int .i64 (zo : Int)) := (St.boxAt (t0.front 2) 1).1
                  have t1 := ((t0.setBoxAt 0 (.slice xa (acc.length + tk) xc)).setBoxAt 1 (.int .i64 (nz : Int))).setBoxAt 2 (.int .i64 (uz : Int))
                  replace t1 : St B w0 (((w2.setCell ⟨n + 1, 0, none⟩ (.slice xa (acc.length + tk) xc)).setCell ⟨n + 1, 1, none⟩ (.int .i64 (nz : Int))).setCell ⟨n + 1, 2, none⟩ (.int .i64 (uz : Int))) (boxT (n + 1) (flowW (.slice xa (acc.length + tk) xc) nz uz wr2) 28 :: _) := t1
                  clear sY sA s3 kv kx hrowA
                  go_upto_if 103 with fail
                  clear j0 j1 j2 j3 f0 f1 f2 m1 t0
                  generalize ((w2.setCell ⟨n + 1, 0, none⟩ (.slice xa (acc.length + tk) xc)).setCell ⟨n + 1, 1, none⟩ (.int .i64 (nz : Int))).setCell ⟨n + 1, 2, none⟩ (.int .i64 (uz : Int)) = W3 at t1 ⊢
                  have c0 := (St.boxAt t1 0).1
                  have c1 := (St.boxAt t1 1).1
                  have c2 := (St.boxAt t1 2).1
                  have c3 := (St.boxAt t1 3).1
                  simp only [List.getElem?_toArray, List.getElem?_cons_zero, List.getElem?_cons_succ] at c0 c1 c2 c3
                  by_cases hfin : uz = xs.length
                  · have tn := t1.front 4
                    replace tn : St B w0 W3 (boxT n (flowW (.slice none 0 0) 0 0 false) 28 :: _) := tn
                    have g0 := (St.boxAt tn 0).1
                    have g1 := (St.boxAt tn 1).1
                    have g2 := (St.boxAt tn 2).1
                    have g3 := (St.boxAt tn 3).1
                    have y0 := (St.boxAt tn 0).2
                    have y1 := (St.boxAt tn 1).2
                    have y2 := (St.boxAt tn 2).2
                    have y3 := (St.boxAt tn 3).2
                    simp only [List.getElem?_toArray, List.getElem?_cons_zero, List.getElem?_cons_succ] at g0 g1 g2 g3
                    have t2 := (((tn.setBoxAt 0 (.slice xa (acc.length + tk) xc)).setBoxAt 1 (.int .i64 (nz : Int))).setBoxAt 2 (.int .i64 (xs.length : Int))).setBoxAt 3 (.bool wr2)
                    have HF := Lib.hid (show total (ms.take (k + 1)) = xs.length by rw [HE.out.2.2.1]; exact hfin)
                    have hpos : 0 < xs.length := by omega
                    have hfin2 : (uz : Int) = (xs.length : Int) := by omega
                    clear hfin t1 tn
                    go_wp2_with fail
                    generalize (((W3.setCell ⟨n, 0, none⟩ (.slice xa (acc.length + tk) xc)).setCell ⟨n, 1, none⟩ (.int .i64 (nz : Int))).setCell ⟨n, 2, none⟩ (.int .i64 (xs.length : Int))).setCell ⟨n, 3, none⟩ (.bool wr2) = W4 at t2 ⊢
                    refine bodyPost_ret (results_row_one rfl _ _ n 28 (flowW (.slice xa (acc.length + tk) xc) nz xs.length wr2) (0, 0) _ rfl t2.box Tryz.underlying28 rfl size_flow) rfl ?_
                    exact ends_file HX.out hms HE.out.2.1 HF.out HWK.out HE.out.2.2.2 rfl hpos HTK.out t2
                  · have hfin2 : ¬ (uz : Int) = (xs.length : Int) := by omega
                    have HK2 := K2
                    have hm2 := K2.out
                    go_wp2_with fail
                    refine ⟨⟨k + 1, .slice xa (acc.length + tk) xc, HE.out.1, Lib.hid (.inl (by rw [HE.out.2.2.1]; omega)), ?_⟩, ?_⟩
                    · rw [HE.out.2.1, HE.out.2.2.1, HWK.out, HE.out.2.2.2, List.length_append, HTK.out]
                      exact t1.third.drop.third.drop
                    · rw [c2, hm2]
                      simp [intOf]
                      omega
        · intro N hN
          have s5 := sd.newBox (flowW (.slice none 0 0) 0 0 false) 28
          obtain ⟨XB, hXB⟩ : ∃ b, wd.heap.size = b := ⟨_, rfl⟩
          rw [hXB] at s5
          go_wp2_with fail
          refine hN _ _ ⟨_, s5.front 1⟩ ?_
          try clear hN N
          clear hXB
          generalize wd.alloc (.cells #[.slice none 0 0, .int .i64 0, .int .i64 0, .bool false] 28) = wb at *
          refine held_step (j := 11) _ (by kernel_rfl) rfl ?_
          intro N hN
          have h1 := hinf2 wb _ (s5.front 1) (fun W' t' => t'.drop.drop.drop.drop.drop.drop)
          go_wp2_with fail
          refine h1.mono ?_
          rintro e wf ⟨oa, oc, rfl, s6⟩
          replace s6 := s6.front 1
          go_wp2_with fail
          refine hN _ _ ⟨_, s6⟩ ?_
          try clear hN N
          clear h1
          refine wpAnyH_take (i := 12) (v := .tuple #[.agg (flowW (.slice oa tk oc) zo u false), .int .i64 0]) rfl (by kernel_rfl) (by kernel_rfl) (by kernel_rfl) (fun _ _ _ h => h) (.inl ⟨by kernel_rfl, fun W hW => by go_simp; try simp⟩) ⟨_, s6⟩ ?_
          refine wpAnyH_take (i := 13) (v := .agg (flowW (.slice oa tk oc) zo u false)) rfl (by kernel_rfl) (by kernel_rfl) (by kernel_rfl) (fun _ _ _ h => h) (.inl ⟨by kernel_rfl, fun W hW => by go_simp; try simp⟩) ⟨_, s6⟩ ?_
          refine wpAnyH_take (i := 14) (v := .int .i64 0) rfl (by kernel_rfl) (by kernel_rfl) (by kernel_rfl) (fun _ _ _ h => h) (.inl ⟨by kernel_rfl, fun W hW => by go_simp; try simp⟩) ⟨_, s6⟩ ?_
          have s7 := s6.front 2
          have x0 : wf.cell? ⟨XB, 0, none⟩ = some (.slice none 0 0) := (St.boxAt s7 0).1
          have x1 : wf.cell? ⟨XB, 1, none⟩ = some (.int .i64 0) := (St.boxAt s7 1).1
          have x2 : wf.cell? ⟨XB, 2, none⟩ = some (.int .i64 0) := (St.boxAt s7 2).1
          have x3 : wf.cell? ⟨XB, 3, none⟩ = some (.bool false) := (St.boxAt s7 3).1
          have z0 := (St.boxAt s7 0).2
          have z1 := (St.boxAt s7 1).2
          have z2 := (St.boxAt s7 2).2
          have z3 := (St.boxAt s7 3).2
          have s8 := (((s7.setBoxAt 0 (.slice oa tk oc)).setBoxAt 1 (.int .i64 (zo : Int))).setBoxAt 2 (.int .i64 (u : Int))).setBoxAt 3 (.bool false)
          refine held_step (j := 16) _ (by kernel_rfl) rfl ?_
          intro N hN
          go_wp2_with fail
          refine hN _ _ ⟨_, s8.front 1⟩ ?_
          try clear hN N
          clear x0 x1 x2 x3 z0 z1 z2 z3
          generalize (((wf.setCell ⟨XB, 0, none⟩ (.slice oa tk oc)).setCell ⟨XB, 1, none⟩ (.int .i64 (zo : Int))).setCell ⟨XB, 2, none⟩ (.int .i64 (u : Int))).setCell ⟨XB, 3, none⟩ (.bool false) = wg at *
          refine held_step (j := 17) _ (by kernel_rfl) rfl ?_
          intro N hN
          go_wp2_with fail
          refine hN _ _ ⟨_, s8.front 1⟩ ?_
          try clear hN N
          refine wpAnyH_done (by kernel_rfl) ?_ 0
          clear sd
          have sT := ((((s8.front 3).drop).front 3).drop).swap
          replace sT : St B w0 wg (boxT (n + 1) (flowW v' z p wr0) 28 :: boxT XB (flowW (.slice oa tk oc) zo u false) 28 :: rowT 5 1 (.slice oa tk oc) tk (u8s ot) :: rowT 5 1 v' acc.length (u8s acc) :: boxT n (flowW (.slice none 0 0) 0 0 false) 28 :: r) := sT
          obtain ⟨eP, heP⟩ : ∃ eP, p2 + u = eP := ⟨_, rfl⟩
          have hend : (p2 : Int) + (u : Int) = (eP : Int) := by omega
          have b1 : wg.cell? ⟨n + 1, 2, none⟩ = some (.int .i64 (p : Int)) := (St.boxAt sT 2).1
          have b2 : wg.cell? ⟨XB, 2, none⟩ = some (.int .i64 (u : Int)) := (St.boxAt sT.swap 2).1
          clear s8 s6
          by_cases hsh : xs.length < eP + 8
          · have e := HSH.out (by omega)
            subst e
            have hc : decide ((xs.length : Int) - (eP : Int) < 8) = true := by simp; omega
            have t0 := sT.front 4
            replace t0 : St B w0 wg (boxT n (flowW (.slice none 0 0) 0 0 false) 28 :: _) := t0
            have k0 : wg.cell? ⟨n, 0, none⟩ = some (.slice none 0 0) := (St.boxAt t0 0).1
            have k1 : wg.cell? ⟨n, 1, none⟩ = some (.int .i64 0) := (St.boxAt t0 1).1
            have k2 : wg.cell? ⟨n, 2, none⟩ = some (.int .i64 0) := (St.boxAt t0 2).1
            have k3 : wg.cell? ⟨n, 3, none⟩ = some (.bool false) := (St.boxAt t0 3).1
            have z0 := (St.boxAt t0 0).2
            have z1 := (St.boxAt t0 1).2
            have z2 := (St.boxAt t0 2).2
            have z3 := (St.boxAt t0 3).2
            have t1 := (((t0.setBoxAt 0 (.slice none 0 0)).setBoxAt 1 (.int .i64 0)).setBoxAt 2 (.int .i64 0)).setBoxAt 3 (.bool false)
            go_wp2_with fail
            generalize (((wg.setCell ⟨n, 0, none⟩ (.slice none 0 0)).setCell ⟨n, 1, none⟩ (.int .i64 0)).setCell ⟨n, 2, none⟩ (.int .i64 0)).setCell ⟨n, 3, none⟩ (.bool false) = W1 at t1 ⊢
            refine bodyPost_ret (results_row_one rfl _ _ n 28 (flowW (.slice none 0 0) 0 0 false) (0, 0) _ rfl t1.box Tryz.underlying28 rfl size_flow) rfl ?_
            exact ⟨rfl, t1.drop.drop.drop.drop.drop⟩
          · have hc : decide ((xs.length : Int) - (eP : Int) < 8) = false := by simp; omega
            obtain ⟨hk1, E1, E2, E3, E4⟩ := HMEM.out (by omega)
            rw [heP] at E2 E3
            have hzz : z + zo ≤ 2064 * 400 := by have := outs_take ms (k + 1); omega
            obtain ⟨nz, hnz⟩ : ∃ nz, z + zo = nz := ⟨_, rfl⟩
            obtain ⟨uz, huz⟩ : ∃ uz, eP + 8 = uz := ⟨_, rfl⟩
            rw [hnz] at E1
            rw [huz] at E2
            have hnz2 : (z : Int) + (zo : Int) = (nz : Int) := by omega
            have huz2 : (eP : Int) + 8 = (uz : Int) := by omega
            have HE := Lib.hid (And.intro hk1 (And.intro E1 (And.intro E2 E4)))
            have HE3 := Lib.hid E3
            clear hk1 E1 E2 E3 E4 HMEM HSH
            have HROW : Hid (∀ W r', St B w0 W (rowT 5 1 (.slice oa tk oc) tk (u8s ot) :: r') → ByteRow W (.slice oa tk oc) ot) := Lib.hid fun W r' t => by
              have h := t.row
              rw [← HTK.out] at h ⊢
              exact byteRow_owns h HOTB.out
            obtain ⟨wr1, hwr1⟩ : ∃ wr1, (wr0 || wh) = wr1 := ⟨_, rfl⟩
            have HE4 : Hid (wrongs keep (ms.take (k + 1)) = (wr1 || (decide (zo ≤ mk) && decide (tailOf o ≠ sl xs eP 8)))) := Lib.hid (by rw [HE3.out, ← hwr1, Bool.or_assoc])
            have HW1 := Lib.hid hwr1
            clear HE3 hwr1
            go_upto_if 60 with fail
            go_cut [] from 16 to 104 (fun wx => St B w0 wx (boxT (n + 1) (flowW v' z p wr1) 28 :: boxT XB (flowW (.slice oa tk oc) zo u false) 28 :: rowT 5 1 (.slice oa tk oc) tk (u8s ot) :: rowT 5 1 v' acc.length (u8s acc) :: boxT n (flowW (.slice none 0 0) 0 0 false) 28 :: r))
            case first =>
              have hwr1 := HW1.out
              cases wh with
              | true =>
                rw [Bool.or_true] at hwr1
                subst hwr1
                have z3 := (St.boxAt sT 3).2
                have b3 : wg.cell? ⟨n + 1, 3, none⟩ = some (.bool wr0) := (St.boxAt sT 3).1
                have sU := sT.setBoxAt 3 (.bool true)
                clear sT
                go_wp2_with fail
                go_meet
                exact sU
              | false =>
                rw [Bool.or_false] at hwr1
                subst hwr1
                go_wp2_with fail
                go_meet
                exact sT
            case rest =>
              have sT := hcut
              clear hcut
              obtain ⟨bt, hbt⟩ : ∃ bt, (decide (zo ≤ mk) && decide (tailOf o ≠ sl xs eP 8)) = bt := ⟨_, rfl⟩
              rw [hbt] at HE4
              have HBT := Lib.hid hbt
              clear hbt HW1
              go_upto_region 15 with fail
              go_cut [82] from 16 to 104 (fun tv wx => tv = .bool bt ∧ St B w0 wx (boxT (n + 1) (flowW v' z p wr1) 28 :: boxT XB (flowW (.slice oa tk oc) zo u false) 28 :: rowT 5 1 (.slice oa tk oc) tk (u8s ot) :: rowT 5 1 v' acc.length (u8s acc) :: boxT n (flowW (.slice none 0 0) 0 0 false) 28 :: r))
              case first =>
                by_cases hzm : zo ≤ mk
                · have hto : ot = o := by rw [← HOT.out]; exact List.take_of_length_le (by rw [HZO.out]; exact hzm)
                  have hzi : (zo : Int) ≤ (mk : Int) := by omega
                  have hdz : decide (zo ≤ mk) = true := decide_eq_true hzm
                  have hrow8 := fun W (t : St B w0 W r) => Fr.byteRow_sub (HV.out W t) eP 8 (by omega)
                  obtain ⟨a8, ha8⟩ : ∃ a8, (if vc = eP then va else va.map (·.add eP)) = a8 := ⟨_, rfl⟩
                  rw [ha8] at hrow8
                  have sV := sT.drew
                  have hs8 := run_string wc.drew _ (sl xs eP 8) (hrow8 _ sV.drop.drop.drop.drop.drop).reads
                  have hb8 : ∀ x ∈ sl xs eP 8, x < 256 := fun x hx => hbyte x (List.mem_of_mem_drop (List.mem_of_mem_take hx))
                  have heI : (eP : Int) + 8 ≤ (xs.length : Int) := by omega
                  have c1 : wc.drew.cell? ⟨n + 1, 1, none⟩ = some (.int .i64 (z : Int)) := (St.boxAt sV 1).1
                  have c2 : wc.drew.cell? ⟨XB, 1, none⟩ = some (.int .i64 (zo : Int)) := (St.boxAt sV.swap 1).1
                  have c3 : wc.drew.cell? ⟨XB, 0, none⟩ = some (.slice oa tk oc) := (St.boxAt sV.swap 0).1
                  have htail := refTail_st sV (.slice oa tk oc) ot (fun W t => HROW.out W _ t.third) (by rw [HTK.out]; omega)
                  clear sT
                  have hwu : IntKind.i64.wrap (uz : Int) = (uz : Int) := by
                    simp only [IntKind.wrap, IntKind.signed, IntKind.bits]
                    simp
                    omega
                  have hu1 : uz ≤ vc := by omega
                  have hu2 : eP ≤ uz := by omega
                  have hu3 : uz - eP = 8 := by omega
                  generalize hstr8 : strOf (sl xs eP 8) = s8 at *
                  have hS : ∀ W T, (∀ W', St B w0 W' T → St B w0 W' r) → St B w0 W (boxT (n + 1) (flowW v' z p wr1) 28 :: boxT XB (flowW (.slice oa tk oc) zo u false) 28 :: T) → W.cell? ⟨n + 1, 1, none⟩ = some (.int .i64 (z : Int)) ∧ W.cell? ⟨XB, 1, none⟩ = some (.int .i64 (zo : Int)) ∧ W.cell? ⟨XB, 0, none⟩ = some (.slice oa tk oc) ∧ (convert 26 9 (.slice a8 8 (vc - eP))).run Tryz.prog W = .ok (.string s8) W := fun W T hr t =>
                    ⟨(St.boxAt t 1).1, (St.boxAt t.swap 1).1, (St.boxAt t.swap 0).1, by rw [← hstr8]; exact run_string W _ (sl xs eP 8) (hrow8 W (hr W t.drop.drop)).reads⟩
                  refine region_seg (by kernel_rfl) [2] 20 rfl (by kernel_rfl) (by kernel_rfl) (fun _ _ d _ _ h => by cases d <;> exact h) ?_
                  generalize wc.drew = wu at *
                  have hr5 : ∀ W', St B w0 W' (rowT 5 1 (.slice oa tk oc) tk (u8s ot) :: rowT 5 1 v' acc.length (u8s acc) :: boxT n (flowW (.slice none 0 0) 0 0 false) 28 :: r) → St B w0 W' r := fun W' t => t.drop.drop.drop
                  intro K hK
                  simp only [pickL, List.getElem?_cons_zero, List.getElem?_cons_succ]
                  go_wp2_with fail
                  try clear hK K
                  refine wpAny_of_held (S := fun W => ∃ T, (∀ W', St B w0 W' T → St B w0 W' r) ∧ St B w0 W (boxT (n + 1) (flowW v' z p wr1) 28 :: boxT XB (flowW (.slice oa tk oc) zo u false) 28 :: T)) _ _ _ _ ?_
                  refine wpAnyH_take (i := 0) (v := .pointer (some ⟨XB, 1, none⟩)) rfl (by kernel_rfl) (by kernel_rfl) (by kernel_rfl) (fun _ _ _ h => h) (.inl ⟨by kernel_rfl, fun W hW => by obtain ⟨T, hr, t⟩ := hW; obtain ⟨q1, q2, q3, q4⟩ := hS W T hr t; go_simp; try simp; try omega⟩) ⟨_, hr5, sV⟩ ?_
                  refine wpAnyH_take (i := 1) (v := .int .i64 (zo : Int)) rfl (by kernel_rfl) (by kernel_rfl) (by kernel_rfl) (fun _ _ _ h => h) (.inl ⟨by kernel_rfl, fun W hW => by obtain ⟨T, hr, t⟩ := hW; obtain ⟨q1, q2, q3, q4⟩ := hS W T hr t; go_simp; try simp; try omega⟩) ⟨_, hr5, sV⟩ ?_
                  refine wpAnyH_take (i := 3) (v := .pointer (some ⟨n + 1, 1, none⟩)) rfl (by kernel_rfl) (by kernel_rfl) (by kernel_rfl) (fun _ _ _ h => h) (.inl ⟨by kernel_rfl, fun W hW => by obtain ⟨T, hr, t⟩ := hW; obtain ⟨q1, q2, q3, q4⟩ := hS W T hr t; go_simp; try simp; try omega⟩) ⟨_, hr5, sV⟩ ?_
                  refine wpAnyH_take (i := 4) (v := .int .i64 (z : Int)) rfl (by kernel_rfl) (by kernel_rfl) (by kernel_rfl) (fun _ _ _ h => h) (.inl ⟨by kernel_rfl, fun W hW => by obtain ⟨T, hr, t⟩ := hW; obtain ⟨q1, q2, q3, q4⟩ := hS W T hr t; go_simp; try simp; try omega⟩) ⟨_, hr5, sV⟩ ?_
                  refine wpAnyH_take (i := 5) (v := .int .i64 ((keep : Int) - (z : Int))) rfl (by kernel_rfl) (by kernel_rfl) (by kernel_rfl) (fun _ _ _ h => h) (.inl ⟨by kernel_rfl, fun W hW => by obtain ⟨T, hr, t⟩ := hW; obtain ⟨q1, q2, q3, q4⟩ := hS W T hr t; go_simp; try simp; try omega⟩) ⟨_, hr5, sV⟩ ?_
                  refine wpAnyH_take (i := 6) (v := .int .i64 (mk : Int)) rfl (by kernel_rfl) (by kernel_rfl) (by kernel_rfl) (fun _ _ _ h => h) (.inl ⟨by kernel_rfl, fun W hW => by obtain ⟨T, hr, t⟩ := hW; obtain ⟨q1, q2, q3, q4⟩ := hS W T hr t; go_simp; try simp; try omega⟩) ⟨_, hr5, sV⟩ ?_
                  refine wpAnyH_take (i := 7) (v := .bool true) rfl (by kernel_rfl) (by kernel_rfl) (by kernel_rfl) (fun _ _ _ h => h) (.inl ⟨by kernel_rfl, fun W hW => by obtain ⟨T, hr, t⟩ := hW; obtain ⟨q1, q2, q3, q4⟩ := hS W T hr t; go_simp; try simp; try omega⟩) ⟨_, hr5, sV⟩ ?_
                  refine held_step (j := 8) _ (by kernel_rfl) rfl ?_
                  intro M hM
                  go_wp2_with fail
                  refine hM _ _ ⟨_, hr5, sV⟩ ?_
                  try clear hM M
                  refine wpAnyH_take (i := 9) (v := .slice va xs.length vc) rfl (by kernel_rfl) (by kernel_rfl) (by kernel_rfl) (fun _ _ _ h => h) (.inl ⟨by kernel_rfl, fun W hW => by obtain ⟨T, hr, t⟩ := hW; obtain ⟨q1, q2, q3, q4⟩ := hS W T hr t; go_simp; try simp; try omega⟩) ⟨_, hr5, sV⟩ ?_
                  refine wpAnyH_take (i := 10) (v := .int .i64 (eP : Int)) rfl (by kernel_rfl) (by kernel_rfl) (by kernel_rfl) (fun _ _ _ h => h) (.inl ⟨by kernel_rfl, fun W hW => by obtain ⟨T, hr, t⟩ := hW; obtain ⟨q1, q2, q3, q4⟩ := hS W T hr t; go_simp; try simp; try omega⟩) ⟨_, hr5, sV⟩ ?_
                  refine wpAnyH_take (i := 11) (v := .int .i64 (eP : Int)) rfl (by kernel_rfl) (by kernel_rfl) (by kernel_rfl) (fun _ _ _ h => h) (.inl ⟨by kernel_rfl, fun W hW => by obtain ⟨T, hr, t⟩ := hW; obtain ⟨q1, q2, q3, q4⟩ := hS W T hr t; go_simp; try simp; try omega⟩) ⟨_, hr5, sV⟩ ?_
                  refine wpAnyH_take (i := 12) (v := .int .i64 (uz : Int)) rfl (by kernel_rfl) (by kernel_rfl) (by kernel_rfl) (fun _ _ _ h => h) (.inl ⟨by kernel_rfl, fun W hW => by obtain ⟨T, hr, t⟩ := hW; obtain ⟨q1, q2, q3, q4⟩ := hS W T hr t; go_simp; try simp; try omega⟩) ⟨_, hr5, sV⟩ ?_
                  refine wpAnyH_take (i := 13) (v := .slice a8 8 (vc - eP)) rfl (by kernel_rfl) (by kernel_rfl) (by kernel_rfl) (fun _ _ _ h => h) (.inl ⟨by kernel_rfl, fun W hW => by obtain ⟨T, hr, t⟩ := hW; obtain ⟨q1, q2, q3, q4⟩ := hS W T hr t; go_simp; try simp; try omega⟩) ⟨_, hr5, sV⟩ ?_
                  refine wpAnyH_take (i := 14) (v := .string s8) rfl (by kernel_rfl) (by kernel_rfl) (by kernel_rfl) (fun _ _ _ h => h) (.inl ⟨by kernel_rfl, fun W hW => by obtain ⟨T, hr, t⟩ := hW; obtain ⟨q1, q2, q3, q4⟩ := hS W T hr t; go_simp; try simp; try omega⟩) ⟨_, hr5, sV⟩ ?_
                  refine wpAnyH_take (i := 15) (v := .pointer (some ⟨XB, 0, none⟩)) rfl (by kernel_rfl) (by kernel_rfl) (by kernel_rfl) (fun _ _ _ h => h) (.inl ⟨by kernel_rfl, fun W hW => by obtain ⟨T, hr, t⟩ := hW; obtain ⟨q1, q2, q3, q4⟩ := hS W T hr t; go_simp; try simp; try omega⟩) ⟨_, hr5, sV⟩ ?_
                  refine wpAnyH_take (i := 16) (v := .slice oa tk oc) rfl (by kernel_rfl) (by kernel_rfl) (by kernel_rfl) (fun _ _ _ h => h) (.inl ⟨by kernel_rfl, fun W hW => by obtain ⟨T, hr, t⟩ := hW; obtain ⟨q1, q2, q3, q4⟩ := hS W T hr t; go_simp; try simp; try omega⟩) ⟨_, hr5, sV⟩ ?_
                  have HTO := Lib.hid hto
                  have HS8 := Lib.hid hstr8
                  have HTA := Lib.hid htail
                  have HHS := Lib.hid hS
                  clear hwu hu1 hu2 hu3 ha8 hstr8 c1 c2 c3 hto htail hS hrow8 heI
                  refine held_step (j := 17) _ (by kernel_rfl) rfl ?_
                  intro M hM
                  try simp only [List.getElem_toArray, List.getElem_cons_succ, List.getElem_cons_zero]
                  go_wp2_with fail
                  refine HTA.out.mono ?_
                  rintro e wt ⟨v8, rfl, sX⟩
                  obtain ⟨x8, c8, rfl⟩ := ownsRow_slice sX.row
                  have hs9 := run_string wt _ (tailOf ot) (Reads.of_owns sX.row)
                  have hr6 : ∀ W', St B w0 W' (rowT 5 1 (.slice x8 8 c8) 8 (u8s (tailOf ot)) :: rowT 5 1 (.slice oa tk oc) tk (u8s ot) :: rowT 5 1 v' acc.length (u8s acc) :: boxT n (flowW (.slice none 0 0) 0 0 false) 28 :: r) → St B w0 W' r := fun W' t => t.drop.drop.drop.drop
                  go_wp2_with fail
                  refine hM _ _ ⟨_, hr6, sX.third.third⟩ ?_
                  try clear hM M
                  have hto := HTO.out
                  have hstr8 := HS8.out
                  clear sV HTA HHS HTO HS8
                  by_cases htl : tailOf ot = sl xs eP 8
                  · have hs9' : (convert 26 9 (.slice x8 8 c8)).run Tryz.prog wt = .ok (.string s8) wt := by rw [hs9, htl, hstr8]
                    clear hs9
                    refine held_step (j := 18) _ (by kernel_rfl) rfl ?_
                    intro M hM
                    try simp only [List.getElem_toArray, List.getElem_cons_succ, List.getElem_cons_zero]
                    go_wp2_with fail
                    refine hM _ _ ⟨_, hr6, sX.third.third⟩ ?_
                    try clear hM M
                    refine held_step (j := 19) _ (by kernel_rfl) rfl ?_
                    intro M hM
                    try simp only [List.getElem_toArray, List.getElem_cons_succ, List.getElem_cons_zero]
                    go_wp2_with fail
                    refine hM _ _ ⟨_, hr6, sX.third.third⟩ ?_
                    try clear hM M
                    refine held_step (j := 20) _ (by kernel_rfl) rfl ?_
                    intro M hM
                    try simp only [List.getElem_toArray, List.getElem_cons_succ, List.getElem_cons_zero]
                    go_wp2_with fail
                    refine hM _ _ ⟨_, hr6, sX.third.third⟩ ?_
                    try clear hM M
                    refine wpAnyH_done (by kernel_rfl) ?_ 0
                    have sY := sX.drop
                    clear sX hs9' hr6
                    have hbt := HBT.out
                    rw [← hto, htl] at hbt
                    simp at hbt
                    subst hbt
                    go_wp2_with fail
                    go_meet
                    exact ⟨rfl, sY⟩
                  · have hne : (s8.toList == (strOf (tailOf ot)).toList) = false := by
                      rw [beq_eq_false_iff_ne, ← hstr8]
                      intro e
                      exact htl ((Inf.strOf_eq hb8 (tailOf_byte ot)).1 ((Inf.str_list _ _).1 e)).symm
                    generalize strOf (tailOf ot) = s9 at *
                    refine held_step (j := 18) _ (by kernel_rfl) rfl ?_
                    intro M hM
                    try simp only [List.getElem_toArray, List.getElem_cons_succ, List.getElem_cons_zero]
                    go_wp2_with fail
                    refine hM _ _ ⟨_, hr6, sX.third.third⟩ ?_
                    try clear hM M
                    refine held_step (j := 19) _ (by kernel_rfl) rfl ?_
                    intro M hM
                    try simp only [List.getElem_toArray, List.getElem_cons_succ, List.getElem_cons_zero]
                    go_wp2_with fail
                    refine hM _ _ ⟨_, hr6, sX.third.third⟩ ?_
                    try clear hM M
                    refine held_step (j := 20) _ (by kernel_rfl) rfl ?_
                    intro M hM
                    try simp only [List.getElem_toArray, List.getElem_cons_succ, List.getElem_cons_zero]
                    go_wp2_with fail
                    refine hM _ _ ⟨_, hr6, sX.third.third⟩ ?_
                    try clear hM M
                    refine wpAnyH_done (by kernel_rfl) ?_ 0
                    have sX2 := sX.drop
                    clear sX hs9 hr6
                    have hbt := HBT.out
                    rw [← hto, hdz] at hbt
                    simp [htl] at hbt
                    subst hbt
                    go_wp2_with fail
                    go_meet
                    exact ⟨rfl, sX2⟩
                · have hzi : (mk : Int) < (zo : Int) := by omega
                  have hdz : decide (zo ≤ mk) = false := decide_eq_false hzm
                  have sV := sT.drew
                  clear sT
                  have hS : ∀ W T, St B w0 W (boxT (n + 1) (flowW v' z p wr1) 28 :: boxT XB (flowW (.slice oa tk oc) zo u false) 28 :: T) → W.cell? ⟨n + 1, 1, none⟩ = some (.int .i64 (z : Int)) ∧ W.cell? ⟨XB, 1, none⟩ = some (.int .i64 (zo : Int)) := fun W T t => ⟨(St.boxAt t 1).1, (St.boxAt t.swap 1).1⟩
                  refine region_seg (by kernel_rfl) [2] 20 rfl (by kernel_rfl) (by kernel_rfl) (fun _ _ d _ _ h => by cases d <;> exact h) ?_
                  generalize wc.drew = wu at *
                  intro K hK
                  simp only [pickL, List.getElem?_cons_zero, List.getElem?_cons_succ]
                  go_wp2_with fail
                  try clear hK K
                  refine wpAny_of_held (S := fun W => ∃ T, St B w0 W (boxT (n + 1) (flowW v' z p wr1) 28 :: boxT XB (flowW (.slice oa tk oc) zo u false) 28 :: T)) _ _ _ _ ?_
                  refine wpAnyH_take (i := 0) (v := .pointer (some ⟨XB, 1, none⟩)) rfl (by kernel_rfl) (by kernel_rfl) (by kernel_rfl) (fun _ _ _ h => h) (.inl ⟨by kernel_rfl, fun W hW => by obtain ⟨T, t⟩ := hW; obtain ⟨q1, q2⟩ := hS W T t; go_simp; try simp; try omega⟩) ⟨_, sV⟩ ?_
                  refine wpAnyH_take (i := 1) (v := .int .i64 (zo : Int)) rfl (by kernel_rfl) (by kernel_rfl) (by kernel_rfl) (fun _ _ _ h => h) (.inl ⟨by kernel_rfl, fun W hW => by obtain ⟨T, t⟩ := hW; obtain ⟨q1, q2⟩ := hS W T t; go_simp; try simp; try omega⟩) ⟨_, sV⟩ ?_
                  refine wpAnyH_take (i := 3) (v := .pointer (some ⟨n + 1, 1, none⟩)) rfl (by kernel_rfl) (by kernel_rfl) (by kernel_rfl) (fun _ _ _ h => h) (.inl ⟨by kernel_rfl, fun W hW => by obtain ⟨T, t⟩ := hW; obtain ⟨q1, q2⟩ := hS W T t; go_simp; try simp; try omega⟩) ⟨_, sV⟩ ?_
                  refine wpAnyH_take (i := 4) (v := .int .i64 (z : Int)) rfl (by kernel_rfl) (by kernel_rfl) (by kernel_rfl) (fun _ _ _ h => h) (.inl ⟨by kernel_rfl, fun W hW => by obtain ⟨T, t⟩ := hW; obtain ⟨q1, q2⟩ := hS W T t; go_simp; try simp; try omega⟩) ⟨_, sV⟩ ?_
                  refine wpAnyH_take (i := 5) (v := .int .i64 ((keep : Int) - (z : Int))) rfl (by kernel_rfl) (by kernel_rfl) (by kernel_rfl) (fun _ _ _ h => h) (.inl ⟨by kernel_rfl, fun W hW => by obtain ⟨T, t⟩ := hW; obtain ⟨q1, q2⟩ := hS W T t; go_simp; try simp; try omega⟩) ⟨_, sV⟩ ?_
                  refine wpAnyH_take (i := 6) (v := .int .i64 (mk : Int)) rfl (by kernel_rfl) (by kernel_rfl) (by kernel_rfl) (fun _ _ _ h => h) (.inl ⟨by kernel_rfl, fun W hW => by obtain ⟨T, t⟩ := hW; obtain ⟨q1, q2⟩ := hS W T t; go_simp; try simp; try omega⟩) ⟨_, sV⟩ ?_
                  refine wpAnyH_take (i := 7) (v := .bool false) rfl (by kernel_rfl) (by kernel_rfl) (by kernel_rfl) (fun _ _ _ h => h) (.inl ⟨by kernel_rfl, fun W hW => by obtain ⟨T, t⟩ := hW; obtain ⟨q1, q2⟩ := hS W T t; go_simp; try simp; try omega⟩) ⟨_, sV⟩ ?_
                  refine wpAnyH_take (i := 8) (v := .bool false) rfl (by kernel_rfl) (by kernel_rfl) (by kernel_rfl) (fun _ _ _ h => h) (.inl ⟨by kernel_rfl, fun W hW => by obtain ⟨T, t⟩ := hW; obtain ⟨q1, q2⟩ := hS W T t; go_simp; try simp; try omega⟩) ⟨_, sV⟩ ?_
                  refine wpAnyH_take (i := 9) (v := undef) rfl (by kernel_rfl) (by kernel_rfl) (by kernel_rfl) (fun _ _ _ h => h) (.inr ⟨by kernel_rfl, rfl⟩) ⟨_, sV⟩ ?_
                  refine wpAnyH_take (i := 10) (v := undef) rfl (by kernel_rfl) (by kernel_rfl) (by kernel_rfl) (fun _ _ _ h => h) (.inr ⟨by kernel_rfl, rfl⟩) ⟨_, sV⟩ ?_
                  refine wpAnyH_take (i := 11) (v := undef) rfl (by kernel_rfl) (by kernel_rfl) (by kernel_rfl) (fun _ _ _ h => h) (.inr ⟨by kernel_rfl, rfl⟩) ⟨_, sV⟩ ?_
                  refine wpAnyH_take (i := 12) (v := undef) rfl (by kernel_rfl) (by kernel_rfl) (by kernel_rfl) (fun _ _ _ h => h) (.inr ⟨by kernel_rfl, rfl⟩) ⟨_, sV⟩ ?_
                  refine wpAnyH_take (i := 13) (v := undef) rfl (by kernel_rfl) (by kernel_rfl) (by kernel_rfl) (fun _ _ _ h => h) (.inr ⟨by kernel_rfl, rfl⟩) ⟨_, sV⟩ ?_
                  refine wpAnyH_take (i := 14) (v := undef) rfl (by kernel_rfl) (by kernel_rfl) (by kernel_rfl) (fun _ _ _ h => h) (.inr ⟨by kernel_rfl, rfl⟩) ⟨_, sV⟩ ?_
                  refine wpAnyH_take (i := 15) (v := undef) rfl (by kernel_rfl) (by kernel_rfl) (by kernel_rfl) (fun _ _ _ h => h) (.inr ⟨by kernel_rfl, rfl⟩) ⟨_, sV⟩ ?_
                  refine wpAnyH_take (i := 16) (v := undef) rfl (by kernel_rfl) (by kernel_rfl) (by kernel_rfl) (fun _ _ _ h => h) (.inr ⟨by kernel_rfl, rfl⟩) ⟨_, sV⟩ ?_
                  refine wpAnyH_take (i := 17) (v := undef) rfl (by kernel_rfl) (by kernel_rfl) (by kernel_rfl) (fun _ _ _ h => h) (.inr ⟨by kernel_rfl, rfl⟩) ⟨_, sV⟩ ?_
                  refine wpAnyH_take (i := 18) (v := undef) rfl (by kernel_rfl) (by kernel_rfl) (by kernel_rfl) (fun _ _ _ h => h) (.inr ⟨by kernel_rfl, rfl⟩) ⟨_, sV⟩ ?_
                  refine wpAnyH_take (i := 19) (v := undef) rfl (by kernel_rfl) (by kernel_rfl) (by kernel_rfl) (fun _ _ _ h => h) (.inr ⟨by kernel_rfl, rfl⟩) ⟨_, sV⟩ ?_
                  refine held_step (j := 20) _ (by kernel_rfl) rfl ?_
                  intro M hM
                  go_wp2_with fail
                  refine hM _ _ ⟨_, sV⟩ ?_
                  try clear hM M
                  refine wpAnyH_done (by kernel_rfl) ?_ 0
                  have hbt := HBT.out
                  rw [hdz] at hbt
                  simp at hbt
                  subst hbt
                  go_wp2_with fail
                  go_meet
                  exact ⟨rfl, sV⟩
              case rest =>
                obtain ⟨rfl, sZ⟩ := hcut
                clear HBT
                obtain ⟨wr2, hwr2⟩ : ∃ wr2, (wr1 || bt) = wr2 := ⟨_, rfl⟩
                rw [hwr2] at HE4
                have HW2 := Lib.hid hwr2
                clear hwr2
                go_upto_if 82 with fail
                go_cut [] from 16 to 104 (fun wx => St B w0 wx (boxT (n + 1) (flowW v' z p wr2) 28 :: boxT XB (flowW (.slice oa tk oc) zo u false) 28 :: rowT 5 1 (.slice oa tk oc) tk (u8s ot) :: rowT 5 1 v' acc.length (u8s acc) :: boxT n (flowW (.slice none 0 0) 0 0 false) 28 :: r))
                case first =>
                  have hwr2 := HW2.out
                  cases bt with
                  | true =>
                    rw [Bool.or_true] at hwr2
                    subst hwr2
                    have z3 := (St.boxAt sZ 3).2
                    have b3 := (St.boxAt sZ 3).1
                    simp only [List.getElem?_toArray, List.getElem?_cons_zero, List.getElem?_cons_succ] at b3
                    have sU := sZ.setBoxAt 3 (.bool true)
                    clear sZ
                    go_wp2_with fail
                    go_meet
                    exact sU
                  | false =>
                    rw [Bool.or_false] at hwr2
                    subst hwr2
                    go_wp2_with fail
                    go_meet
                    exact sZ
                case rest =>
                  have sY := hcut
                  clear hcut sZ HW2
                  have sA := sY.fourth
                  have hrowA := HROW.out _ _ sY.third
                  have kv := (St.boxAt sY 0).1
                  have kx := (St.boxAt sY.swap 0).1
                  simp only [List.getElem?_toArray, List.getElem?_cons_zero] at kv kx
                  have hwrk : wrongs keep (ms.take (k + 1)) = wr2 := HE4.out
                  have HWK := Lib.hid hwrk
                  clear hwrk
                  go_wp2_with (at_builtin; refine wpList_append_bytes rfl _ _ rfl sA hrowA rfl rfl (by rw [HTK.out]; omega) ?_)
                  intro v2 w2 s3 _ _
                  rw [HTK.out, ← u8s_append] at s3
                  obtain ⟨xa, xc, rfl⟩ := ownsRow_slice s3.row
                  have t0 := s3.swap
                  have j1 : w2.cell? ⟨n + 1, 1, none⟩ = some (.int .i64 (z : Int)) := (St.boxAt t0 1).1
                  have j2 : w2.cell? ⟨n + 1, 2, none⟩ = some (.int .i64 (p : Int)) := (St.boxAt t0 2).1
                  have j3 : w2.cell? ⟨n + 1, 3, none⟩ = some (.bool wr2) := (St.boxAt t0 3).1
                  have j0 : w2.cell? ⟨n + 1, 0, none⟩ = some v' := (St.boxAt t0 0).1
                  have f0 := (St.boxAt t0 0).2
                  have f1 := (St.boxAt t0 1).2
                  have f2 := (St.boxAt t0 2).2
                  have m1 : w2.cell? ⟨XB, 1, none⟩ = some (.int .i64 (zo : Int)) := (St.boxAt (t0.front 2) 1).1
                  have t1 := ((t0.setBoxAt 0 (.slice xa (acc.length + tk) xc)).setBoxAt 1 (.int .i64 (nz : Int))).setBoxAt 2 (.int .i64 (uz : Int))
                  replace t1 : St B w0 (((w2.setCell ⟨n + 1, 0, none⟩ (.slice xa (acc.length + tk) xc)).setCell ⟨n + 1, 1, none⟩ (.int .i64 (nz : Int))).setCell ⟨n + 1, 2, none⟩ (.int .i64 (uz : Int))) (boxT (n + 1) (flowW (.slice xa (acc.length + tk) xc) nz uz wr2) 28 :: _) := t1
                  clear sY sA s3 kv kx hrowA
                  go_upto_if 103 with fail
                  clear j0 j1 j2 j3 f0 f1 f2 m1 t0
                  generalize ((w2.setCell ⟨n + 1, 0, none⟩ (.slice xa (acc.length + tk) xc)).setCell ⟨n + 1, 1, none⟩ (.int .i64 (nz : Int))).setCell ⟨n + 1, 2, none⟩ (.int .i64 (uz : Int)) = W3 at t1 ⊢
                  have c0 := (St.boxAt t1 0).1
                  have c1 := (St.boxAt t1 1).1
                  have c2 := (St.boxAt t1 2).1
                  have c3 := (St.boxAt t1 3).1
                  simp only [List.getElem?_toArray, List.getElem?_cons_zero, List.getElem?_cons_succ] at c0 c1 c2 c3
                  by_cases hfin : uz = xs.length
                  · have tn := t1.front 4
                    replace tn : St B w0 W3 (boxT n (flowW (.slice none 0 0) 0 0 false) 28 :: _) := tn
                    have g0 := (St.boxAt tn 0).1
                    have g1 := (St.boxAt tn 1).1
                    have g2 := (St.boxAt tn 2).1
                    have g3 := (St.boxAt tn 3).1
                    have y0 := (St.boxAt tn 0).2
                    have y1 := (St.boxAt tn 1).2
                    have y2 := (St.boxAt tn 2).2
                    have y3 := (St.boxAt tn 3).2
                    simp only [List.getElem?_toArray, List.getElem?_cons_zero, List.getElem?_cons_succ] at g0 g1 g2 g3
                    have t2 := (((tn.setBoxAt 0 (.slice xa (acc.length + tk) xc)).setBoxAt 1 (.int .i64 (nz : Int))).setBoxAt 2 (.int .i64 (xs.length : Int))).setBoxAt 3 (.bool wr2)
                    have HF := Lib.hid (show total (ms.take (k + 1)) = xs.length by rw [HE.out.2.2.1]; exact hfin)
                    have hpos : 0 < xs.length := by omega
                    have hfin2 : (uz : Int) = (xs.length : Int) := by omega
                    clear hfin t1 tn
                    go_wp2_with fail
                    generalize (((W3.setCell ⟨n, 0, none⟩ (.slice xa (acc.length + tk) xc)).setCell ⟨n, 1, none⟩ (.int .i64 (nz : Int))).setCell ⟨n, 2, none⟩ (.int .i64 (xs.length : Int))).setCell ⟨n, 3, none⟩ (.bool wr2) = W4 at t2 ⊢
                    refine bodyPost_ret (results_row_one rfl _ _ n 28 (flowW (.slice xa (acc.length + tk) xc) nz xs.length wr2) (0, 0) _ rfl t2.box Tryz.underlying28 rfl size_flow) rfl ?_
                    exact ends_file HX.out hms HE.out.2.1 HF.out HWK.out HE.out.2.2.2 rfl hpos HTK.out t2
                  · have hfin2 : ¬ (uz : Int) = (xs.length : Int) := by omega
                    have HK2 := K2
                    have hm2 := K2.out
                    go_wp2_with fail
                    refine ⟨⟨k + 1, .slice xa (acc.length + tk) xc, HE.out.1, Lib.hid (.inl (by rw [HE.out.2.2.1]; omega)), ?_⟩, ?_⟩
                    · rw [HE.out.2.1, HE.out.2.2.1, HWK.out, HE.out.2.2.2, List.length_append, HTK.out]
                      exact t1.third.drop.third.drop
                    · rw [c2, hm2]
                      simp [intOf]
                      omega

end
end Go.Proofs.YtpinfihmageeoaaGreat.Gu
