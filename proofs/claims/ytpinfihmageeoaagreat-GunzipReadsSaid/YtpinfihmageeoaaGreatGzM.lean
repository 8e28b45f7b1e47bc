/-
  Contract of package gunzip: member. No conditions but that rows are small.
-/
import Derived.Test.YtpinfihmageeoaaGreatGzP
import Derived.Test.YtpinfihmageeoaaGreatFrH
import Derived.Test.YtpinfihmageeoaaGreatGR
namespace Go
variable {P : Program}
/-- Two results, a struct that lies in a variable, and one cell. -/
theorem results_row_one {fn : Func} {p q : Tmp} {ty : TypeId} (h : fn.results = #[.cell p ty, .tmp q]) (tmps : Array Value) (w : World) (g : Nat) (t : TypeId) (cs : Array Value) (fr : Nat × Nat) (d : TypeDesc)
    (hp : tmps.getD p undef = .pointer (some ⟨g, 0, none⟩)) (hg : w.heap[g]? = some (.cells cs t fr))
    (hu : P.underlying ty = some d) (hd : (match d with | .struct _ | .array _ _ => true | _ => false) = true) (hi : (P.info? ty).map (·.size) = some cs.size) :
    (results fn tmps).run P w = .ok (.tuple #[.agg cs, tmps.getD q undef]) w := by
  have hp' : tmps[p]?.getD undef = .pointer (some ⟨g, 0, none⟩) := by simpa using hp
  simp [results, h, hp', asAddr, run_loadVar_row w g t ty cs fr d hg hu hd hi]
end Go
namespace Go.Proofs.YtpinfihmageeoaaGreat.Gu
open Go.RowKit Kraft Hd Inf Fr

/-- A flow's cells. -/
abbrev flowW (bytes : Value) (size used : Nat) (wr : Bool) : Array Value := #[bytes, .int .i64 (size : Int), .int .i64 (used : Int), .bool wr]

/-- What member hands out. -/
def MemSt (B : Nat) (w0 : World) (r : List Thing) (keep : Nat) (x : Option Mem) (e : Ending) (w' : World) : Prop :=
  match x with
  | none => e = .returned (.tuple #[.agg (flowW (.slice none 0 0) 0 0 false), .bool false]) ∧ St B w0 w' r
  | some m => ∃ oa oc, e = .returned (.tuple #[.agg (flowW (.slice oa (m.out.take keep).length oc) m.out.length m.used (m.head || (decide (m.out.length ≤ keep) && m.tail))), .bool true]) ∧ St B w0 w' (rowT 5 1 (.slice oa (m.out.take keep).length oc) (m.out.take keep).length (u8s (m.out.take keep)) :: r)

theorem byteRow_first {w : World} {a : Option Addr} {len cap : Nat} {xs : List Nat} (h : ByteRow w (.slice a len cap) xs) (d : Nat) (hd : d ≤ xs.length) : ByteRow w (.slice a d cap) (xs.take d) := by
  obtain ⟨a', cap', e, hc, hn, hat⟩ := h
  obtain ⟨rfl, rfl, rfl⟩ := Value.slice.inj e
  have hl : (xs.take d).length = d := by rw [List.length_take]; omega
  refine ⟨_, _, by rw [hl], by omega, fun e => by have := hn e; omega, fun i hi => ?_⟩
  rw [hl] at hi
  have hg : (xs.take d)[i]'(by omega) = xs[i]'(by omega) := List.getElem_take
  rw [hg]
  exact hat i (by omega)

section
variable {B : Nat} {w0 w : World} {r : List Thing}

set_option maxRecDepth 100000 in
set_option maxHeartbeats 4000000 in
theorem member_st (st : St B w0 w r) (v : Value) (xs : List Nat) (hv : ∀ W, St B w0 W r → ByteRow W v xs) (hx : xs.length ≤ 60000) (keep : Nat) (hk : keep ≤ 1000000) :
    Calls Tryz.prog 47 #[v, .int .i64 (keep : Int)] w (MemSt B w0 r keep (memAt xs)) := by
  obtain ⟨X, hX⟩ : ∃ X, memAt xs = X := ⟨_, rfl⟩
  rw [hX]
  have HX := Lib.hid hX
  clear hX
  have hb := (hv w st).byte
  obtain ⟨va, vc, rfl⟩ : ∃ a c, v = .slice a xs.length c := by obtain ⟨a, c, e, _⟩ := hv w st; exact ⟨a, c, e⟩
  have hvc : xs.length ≤ vc := by obtain ⟨a, c, e, h, _⟩ := hv w st; obtain ⟨-, -, rfl⟩ := Value.slice.inj e; exact h
  have HV := Lib.hid hv
  clear hv
  have s1 := st.newBox (flowW (.slice none 0 0) 0 0 false) 28
  have hget := Fr.get_st s1 (.slice va xs.length vc) xs (fun W s => HV.out W s.drop) (by omega)
  obtain ⟨n, hn⟩ : ∃ n, w.heap.size = n := ⟨_, rfl⟩
  rw [hn] at s1 hget
  cases hg : Fr.get xs with
  | none =>
    rw [hg] at hget
    have e : X = none := by rw [← HX.out]; exact memAt_head hg
    subst e
    go_enter Tryz.func47, Tryz.ntmps47
    go_wp2_with fail
    refine hget.mono ?_
    rintro e w1 ⟨rfl, s2⟩
    have t0 := (s2.newBox noHead 80).front 1
    clear hget s1 s2
    replace t0 : St B w0 (w1.alloc (.cells noHead 80)) (boxT n (flowW (.slice none 0 0) 0 0 false) 28 :: boxT w1.heap.size noHead 80 :: r) := t0
    have k0 : (w1.alloc (.cells noHead 80)).cell? ⟨n, 0, none⟩ = some (.slice none 0 0) := (St.boxAt t0 0).1
    have k1 : (w1.alloc (.cells noHead 80)).cell? ⟨n, 1, none⟩ = some (.int .i64 0) := (St.boxAt t0 1).1
    have k2 : (w1.alloc (.cells noHead 80)).cell? ⟨n, 2, none⟩ = some (.int .i64 0) := (St.boxAt t0 2).1
    have k3 : (w1.alloc (.cells noHead 80)).cell? ⟨n, 3, none⟩ = some (.bool false) := (St.boxAt t0 3).1
    have z0 := (St.boxAt t0 0).2
    have z1 := (St.boxAt t0 1).2
    have z2 := (St.boxAt t0 2).2
    have z3 := (St.boxAt t0 3).2
    have t1 := (((t0.setBoxAt 0 (.slice none 0 0)).setBoxAt 1 (.int .i64 0)).setBoxAt 2 (.int .i64 0)).setBoxAt 3 (.bool false)
    go_wp2_with fail
    generalize ((((w1.alloc (.cells noHead 80)).setCell ⟨n, 0, none⟩ (.slice none 0 0)).setCell ⟨n, 1, none⟩ (.int .i64 0)).setCell ⟨n, 2, none⟩ (.int .i64 0)).setCell ⟨n, 3, none⟩ (.bool false) = W1 at t1 ⊢
    refine bodyPost_ret (results_row_one rfl _ _ n 28 (flowW (.slice none 0 0) 0 0 false) (0, 0) _ rfl t1.box Tryz.underlying28 rfl size_flow) rfl ?_
    exact ⟨rfl, t1.drop.drop⟩
  | some s =>
    obtain ⟨p, h, wr⟩ := s
    rw [hg] at hget
    have hp : p ≤ xs.length := (got hb hg).2.2.1
    have hsub := fun W (t : St B w0 W r) => Fr.byteRow_sub (HV.out W t) p (xs.length - p) (by omega)
    have hsl : sl xs p (xs.length - p) = xs.drop p := by unfold sl; rw [List.take_of_length_le (by rw [List.length_drop]; omega)]
    have hdl : (xs.drop p).length = xs.length - p := List.length_drop
    obtain ⟨m, hm⟩ : ∃ m, xs.length - p = m := ⟨_, rfl⟩
    obtain ⟨a2, ha2⟩ : ∃ a2, (if vc = p then va else va.map (·.add p)) = a2 := ⟨_, rfl⟩
    rw [hsl, hm, ha2] at hsub
    rw [hm] at hdl
    have HS := Lib.hid hsub
    clear hsub hsl
    go_enter Tryz.func47, Tryz.ntmps47
    go_wp2_with fail
    refine hget.mono ?_
    rintro e w1 ⟨ev, rfl, s2⟩
    simp only at s2
    have s3 := (s2.newBox (headC h ev) 80).front 2
    clear hget s1 s2
    have hinf := inflate_st s3 (.slice a2 m (vc - p)) (xs.drop p) (fun W t => HS.out W t.drop.drop.drop) (by omega) keep hk
    obtain ⟨ea, ec, rfl⟩ : ∃ a c, ev = .slice a h.extra.length c := ownsRow_slice (St.row (s3.front 2))
    unfold Flow10 at hinf
    cases hi : infl (xs.drop p) with
    | none =>
      rw [hi] at hinf
      have e : X = none := by rw [← HX.out]; exact memAt_stream hg hi
      subst e
      go_wp2_with fail
      refine hinf.mono ?_
      rintro e w2 ⟨rfl, s4⟩
      have t0 := (s4.newBox (flowW (.slice none 0 0) 0 0 false) 28).front 1
      clear hinf s3 s4
      replace t0 : St B w0 (w2.alloc (.cells #[.slice none 0 0, .int .i64 0, .int .i64 0, .bool false] 28)) (boxT n (flowW (.slice none 0 0) 0 0 false) 28 :: boxT w2.heap.size (flowW (.slice none 0 0) 0 0 false) 28 :: boxT w1.heap.size (headC h (.slice ea h.extra.length ec)) 80 :: rowT 5 1 (.slice ea h.extra.length ec) h.extra.length (u8s h.extra) :: r) := t0
      have k0 : (w2.alloc (.cells #[.slice none 0 0, .int .i64 0, .int .i64 0, .bool false] 28)).cell? ⟨n, 0, none⟩ = some (.slice none 0 0) := (St.boxAt t0 0).1
      have k1 : (w2.alloc (.cells #[.slice none 0 0, .int .i64 0, .int .i64 0, .bool false] 28)).cell? ⟨n, 1, none⟩ = some (.int .i64 0) := (St.boxAt t0 1).1
      have k2 : (w2.alloc (.cells #[.slice none 0 0, .int .i64 0, .int .i64 0, .bool false] 28)).cell? ⟨n, 2, none⟩ = some (.int .i64 0) := (St.boxAt t0 2).1
      have k3 : (w2.alloc (.cells #[.slice none 0 0, .int .i64 0, .int .i64 0, .bool false] 28)).cell? ⟨n, 3, none⟩ = some (.bool false) := (St.boxAt t0 3).1
      have z0 := (St.boxAt t0 0).2
      have z1 := (St.boxAt t0 1).2
      have z2 := (St.boxAt t0 2).2
      have z3 := (St.boxAt t0 3).2
      have t1 := (((t0.setBoxAt 0 (.slice none 0 0)).setBoxAt 1 (.int .i64 0)).setBoxAt 2 (.int .i64 0)).setBoxAt 3 (.bool false)
      go_wp2_with fail
      generalize ((((w2.alloc (.cells #[.slice none 0 0, .int .i64 0, .int .i64 0, .bool false] 28)).setCell ⟨n, 0, none⟩ (.slice none 0 0)).setCell ⟨n, 1, none⟩ (.int .i64 0)).setCell ⟨n, 2, none⟩ (.int .i64 0)).setCell ⟨n, 3, none⟩ (.bool false) = W1 at t1 ⊢
      refine bodyPost_ret (results_row_one rfl _ _ n 28 (flowW (.slice none 0 0) 0 0 false) (0, 0) _ rfl t1.box Tryz.underlying28 rfl size_flow) rfl ?_
      exact ⟨rfl, t1.drop.drop.drop.drop⟩
    | some y =>
      obtain ⟨q, o⟩ := y
      rw [hi] at hinf
      simp only at hinf
      have hus := (infl_some hi).2.1
      have hob := infl_byte hi
      rw [hdl] at hus
      have hmem := fun (hl : p + used q + 8 ≤ xs.length) => memAt_yes hg hi hl
      have hmno := fun (hl : xs.length < p + used q + 8) => memAt_short hg hi hl
      have hsub2 := fun W (t : St B w0 W r) => Fr.byteRow_sub (HV.out W t) (p + used q) (xs.length - (p + used q)) (by omega)
      obtain ⟨uq, huq⟩ : ∃ uq, used q = uq := ⟨_, rfl⟩
      rw [huq] at hus hinf hmem hmno hsub2
      obtain ⟨k, hk1, hk2⟩ : ∃ k, (o.take keep).length = k ∧ (k ≤ keep ∧ k ≤ o.length ∧ (keep ≤ k ∨ o.length ≤ k)) := ⟨_, rfl, by rw [List.length_take]; omega⟩
      obtain ⟨z, hz⟩ : ∃ z, o.length = z := ⟨_, rfl⟩
      rw [hk1, hz] at hinf
      rw [hz] at hk2
      have hzb : z ≤ 1000000000 := by have h1 := infl_far hi; have h2 := infl_some hi; rw [hz] at h1; rw [hdl] at h2; omega
      obtain ⟨c2, hc2⟩ : ∃ c, xs.length - (p + uq) = c := ⟨_, rfl⟩
      obtain ⟨a3, ha3⟩ : ∃ a3, (if vc = p + uq then va else va.map (·.add (p + uq))) = a3 := ⟨_, rfl⟩
      rw [hc2, ha3] at hsub2
      have HM := Lib.hid hmem
      have HN := Lib.hid hmno
      have H2 := Lib.hid hsub2
      clear hmem hmno hsub2
      go_wp2_with fail
      refine hinf.mono ?_
      rintro e w2 ⟨oa, oc, rfl, s4⟩
      obtain ⟨us, hus2⟩ : ∃ us, u8s (o.take keep) = us := ⟨_, rfl⟩
      rw [hus2] at s4
      have t0 := (s4.newBox #[.slice oa k oc, .int .i64 (z : Int), .int .i64 (uq : Int), .bool false] 28)
      by_cases hl : p + uq + 8 ≤ xs.length
      · have e := HX.out.symm.trans (HM.out hl)
        have d1 : ¬ (c2 : Int) < 8 := by omega
        subst e
        have hnb : n < w2.heap.size := (Array.getElem?_eq_some_iff.1 (St.box s4.swap)).1
        have hwk : (z ≤ keep ∧ k = z) ∨ (¬ z ≤ keep ∧ k ≠ z) := by omega
        rcases hwk with ⟨hw, hkz⟩ | ⟨hw, hkz⟩
        · have d2 : ((k : Int) == (z : Int)) = true := by rw [hkz]; simp
          have HW := Lib.hid hw
          clear hkz hw
          go_wp2_with fail
          obtain ⟨b, hb2⟩ : ∃ b, w2.heap.size = b := ⟨_, rfl⟩
          rw [hb2] at t0 hnb
          try rw [hb2]
          clear s3 hinf hi hg hb2
          generalize w2.alloc (.cells #[.slice oa k oc, .int .i64 (z : Int), .int .i64 (uq : Int), .bool false] 28) = wd at *
          replace t0 : St B w0 wd (boxT b #[.slice oa k oc, .int .i64 (z : Int), .int .i64 (uq : Int), .bool false] 28 :: rowT 5 1 (.slice oa k oc) k us :: boxT n (flowW (.slice none 0 0) 0 0 false) 28 :: boxT w1.heap.size (headC h (.slice ea h.extra.length ec)) 80 :: rowT 5 1 (.slice ea h.extra.length ec) h.extra.length (u8s h.extra) :: r) := t0
          have hne : n ≠ b := by omega
          have hne2 : b ≠ n := by omega
          have j0 : wd.cell? ⟨b, 0, none⟩ = some (.slice oa k oc) := (St.boxAt t0 0).1
          have j1 : wd.cell? ⟨b, 1, none⟩ = some (.int .i64 (z : Int)) := (St.boxAt t0 1).1
          have j2 : wd.cell? ⟨b, 2, none⟩ = some (.int .i64 (uq : Int)) := (St.boxAt t0 2).1
          have j3 : wd.cell? ⟨b, 3, none⟩ = some (.bool false) := (St.boxAt t0 3).1
          have f3 := (St.boxAt t0 3).2
          obtain ⟨uz, huz⟩ : ∃ uz, p + uq + 8 = uz := ⟨_, rfl⟩
          have hfin : ∀ W x, x = (wr || (decide (o.length ≤ keep) && decide (tailOf o ≠ sl xs (p + uq) 8))) → St B w0 W (rowT 5 1 (.slice oa k oc) k us :: r) → MemSt B w0 r keep (some ⟨p + uq + 8, o, wr, decide (tailOf o ≠ sl xs (p + uq) 8)⟩) (.returned (.tuple #[.agg #[.slice oa k oc, .int .i64 (z : Int), .int .i64 (uz : Int), .bool x], .bool true])) W := by
            rintro W x rfl t
            refine ⟨oa, oc, ?_, ?_⟩
            · show _ = Ending.returned (.tuple #[.agg (flowW (.slice oa (o.take keep).length oc) o.length (p + uq + 8) (wr || (decide (o.length ≤ keep) && decide (tailOf o ≠ sl xs (p + uq) 8)))), .bool true])
              rw [hk1, hz, huz]
            · show St B w0 W (rowT 5 1 (.slice oa (o.take keep).length oc) (o.take keep).length (u8s (o.take keep)) :: r)
              rw [hk1, hus2]
              exact t
          have HF := Lib.hid hfin
          clear hfin
          have hsum : (uq : Int) + ((p : Int) + 8) = (uz : Int) := by omega
          have h3 : ∀ W, St B w0 W r → ByteRow W (.slice (va.map (·.add (p + uq))) 8 (vc - (p + uq))) (sl xs (p + uq) 8) := by
            intro W t
            have h4 := H2.out W t
            rw [← ha3, if_neg (by omega)] at h4
            have h5 := byteRow_first h4 8 (by rw [sl_length (by omega)]; omega)
            have e4 : (sl xs (p + uq) c2).take 8 = sl xs (p + uq) 8 := by unfold sl; rw [List.take_take, Nat.min_eq_left (by omega)]
            rw [e4] at h5
            exact h5
          have h8 : (8 : Int) ≤ ((vc - (p + uq) : Nat) : Int) := by omega
          have hvn : 8 ≤ vc - (p + uq) := by omega
          have H3 := Lib.hid h3
          have hoe : ∀ W, St B w0 W (boxT b #[.slice oa k oc, .int .i64 (z : Int), .int .i64 (uq : Int), .bool false] 28 :: rowT 5 1 (.slice oa k oc) k us :: boxT n (flowW (.slice none 0 0) 0 0 false) 28 :: boxT w1.heap.size (headC h (.slice ea h.extra.length ec)) 80 :: rowT 5 1 (.slice ea h.extra.length ec) h.extra.length (u8s h.extra) :: r) → z ≤ keep → Calls Tryz.prog 70 #[.slice oa k oc, .slice (va.map (·.add (p + uq))) 8 (vc - (p + uq))] W fun e w' => e = .returned (.bool (decide (tailOf o = sl xs (p + uq) 8))) ∧ St B w0 w' (boxT b #[.slice oa k oc, .int .i64 (z : Int), .int .i64 (uq : Int), .bool false] 28 :: rowT 5 1 (.slice oa k oc) k us :: boxT n (flowW (.slice none 0 0) 0 0 false) 28 :: boxT w1.heap.size (headC h (.slice ea h.extra.length ec)) 80 :: rowT 5 1 (.slice ea h.extra.length ec) h.extra.length (u8s h.extra) :: r) := by
            intro W t hw
            have hkz : k = o.length := by omega
            have htake : o.take keep = o := List.take_of_length_le (by omega)
            refine ends_st t _ _ o (sl xs (p + uq) 8) (fun W' t' => ?_) (fun W' t' => H3.out W' (t'.drop.drop.drop.drop.drop)) (by omega)
            have hrow := St.row t'.drop
            rw [← hus2, htake, hkz] at hrow
            rw [hkz]
            exact byteRow_owns hrow hob
          have HO := Lib.hid hoe
          have hkk := Lib.hid hk2
          clear huz
          clear hoe h3 H2 ha3 HM HN HX HV HS st hk1 hus2 hob huq hus hdl hm ha2 hp hb
          obtain ⟨tl, htl⟩ : ∃ t, decide (tailOf o = sl xs (p + uq) 8) = t := ⟨_, rfl⟩
          rw [htl] at HO
          generalize va.map (·.add (p + uq)) = a4 at *
          generalize vc - (p + uq) = c4 at *
          clear d2
          cases wr
          · have hends := HO.out _ t0.drew HW.out
            go_region_with (go_at_call 70; refine hends.mono ?_; rintro e wx ⟨rfl, t1⟩; have q3 : wx.cell? ⟨b, 3, none⟩ = some (.bool false) := (St.boxAt t1 3).1; have g3 := (St.boxAt t1 3).2)
            clear q3 g3
            have t2 := t1.setBoxAt 3 (.bool (!tl))
            generalize wx.setCell ⟨b, 3, none⟩ (.bool (!tl)) = we at t2 ⊢
            replace t2 : St B w0 we (boxT b #[.slice oa k oc, .int .i64 (z : Int), .int .i64 (uq : Int), .bool (!tl)] 28 :: rowT 5 1 (.slice oa k oc) k us :: boxT n (flowW (.slice none 0 0) 0 0 false) 28 :: boxT w1.heap.size (headC h (.slice ea h.extra.length ec)) 80 :: rowT 5 1 (.slice ea h.extra.length ec) h.extra.length (u8s h.extra) :: r) := t2
            clear j0 j1 j2 j3 f3
            have j0 : we.cell? ⟨b, 0, none⟩ = some (.slice oa k oc) := (St.boxAt t2 0).1
            have j1 : we.cell? ⟨b, 1, none⟩ = some (.int .i64 (z : Int)) := (St.boxAt t2 1).1
            have j2 : we.cell? ⟨b, 2, none⟩ = some (.int .i64 (uq : Int)) := (St.boxAt t2 2).1
            have j3 : we.cell? ⟨b, 3, none⟩ = some (.bool (!tl)) := (St.boxAt t2 3).1
            have f2 := (St.boxAt t2 2).2
            have t3 := t2.front 2
            have k0 : we.cell? ⟨n, 0, none⟩ = some (.slice none 0 0) := (St.boxAt t3 0).1
            have k1 : we.cell? ⟨n, 1, none⟩ = some (.int .i64 0) := (St.boxAt t3 1).1
            have k2 : we.cell? ⟨n, 2, none⟩ = some (.int .i64 0) := (St.boxAt t3 2).1
            have k3 : we.cell? ⟨n, 3, none⟩ = some (.bool false) := (St.boxAt t3 3).1
            have z0 := (St.boxAt t3 0).2
            have z1 := (St.boxAt t3 1).2
            have z2 := (St.boxAt t3 2).2
            have z3 := (St.boxAt t3 3).2
            have t4 := (t2.setBoxAt 2 (.int .i64 (uz : Int))).front 2
            have t5 := (((t4.setBoxAt 0 (.slice oa k oc)).setBoxAt 1 (.int .i64 (z : Int))).setBoxAt 2 (.int .i64 (uz : Int))).setBoxAt 3 (.bool (!tl))
            go_wp2_with fail
            try rw [hsum]
            generalize ((((we.setCell ⟨b, 2, none⟩ (.int .i64 (uz : Int))).setCell ⟨n, 0, none⟩ (.slice oa k oc)).setCell ⟨n, 1, none⟩ (.int .i64 (z : Int))).setCell ⟨n, 2, none⟩ (.int .i64 (uz : Int))).setCell ⟨n, 3, none⟩ (.bool (!tl)) = wf at t5 ⊢
            refine bodyPost_ret (results_row_one rfl _ _ n 28 #[.slice oa k oc, .int .i64 (z : Int), .int .i64 (uz : Int), .bool (!tl)] (0, 0) _ rfl t5.box Tryz.underlying28 rfl size_flow) rfl ?_
            exact HF.out _ _ (by rw [hz, decide_eq_true HW.out, ← htl]; simp) t5.drop.drop.swap.drop.swap.drop
          · go_region
            have t2 := (t0.setBoxAt 3 (.bool true)).drew
            generalize (wd.setCell ⟨b, 3, none⟩ (.bool true)).drew = we at t2 ⊢
            replace t2 : St B w0 we (boxT b #[.slice oa k oc, .int .i64 (z : Int), .int .i64 (uq : Int), .bool true] 28 :: rowT 5 1 (.slice oa k oc) k us :: boxT n (flowW (.slice none 0 0) 0 0 false) 28 :: boxT w1.heap.size (headC h (.slice ea h.extra.length ec)) 80 :: rowT 5 1 (.slice ea h.extra.length ec) h.extra.length (u8s h.extra) :: r) := t2
            clear j0 j1 j2 j3 f3
            have j0 : we.cell? ⟨b, 0, none⟩ = some (.slice oa k oc) := (St.boxAt t2 0).1
            have j1 : we.cell? ⟨b, 1, none⟩ = some (.int .i64 (z : Int)) := (St.boxAt t2 1).1
            have j2 : we.cell? ⟨b, 2, none⟩ = some (.int .i64 (uq : Int)) := (St.boxAt t2 2).1
            have j3 : we.cell? ⟨b, 3, none⟩ = some (.bool true) := (St.boxAt t2 3).1
            have f2 := (St.boxAt t2 2).2
            have t3 := t2.front 2
            have k0 : we.cell? ⟨n, 0, none⟩ = some (.slice none 0 0) := (St.boxAt t3 0).1
            have k1 : we.cell? ⟨n, 1, none⟩ = some (.int .i64 0) := (St.boxAt t3 1).1
            have k2 : we.cell? ⟨n, 2, none⟩ = some (.int .i64 0) := (St.boxAt t3 2).1
            have k3 : we.cell? ⟨n, 3, none⟩ = some (.bool false) := (St.boxAt t3 3).1
            have z0 := (St.boxAt t3 0).2
            have z1 := (St.boxAt t3 1).2
            have z2 := (St.boxAt t3 2).2
            have z3 := (St.boxAt t3 3).2
            have t4 := (t2.setBoxAt 2 (.int .i64 (uz : Int))).front 2
            have t5 := (((t4.setBoxAt 0 (.slice oa k oc)).setBoxAt 1 (.int .i64 (z : Int))).setBoxAt 2 (.int .i64 (uz : Int))).setBoxAt 3 (.bool true)
            go_wp2_with fail
            try rw [hsum]
            generalize ((((we.setCell ⟨b, 2, none⟩ (.int .i64 (uz : Int))).setCell ⟨n, 0, none⟩ (.slice oa k oc)).setCell ⟨n, 1, none⟩ (.int .i64 (z : Int))).setCell ⟨n, 2, none⟩ (.int .i64 (uz : Int))).setCell ⟨n, 3, none⟩ (.bool true) = wf at t5 ⊢
            refine bodyPost_ret (results_row_one rfl _ _ n 28 #[.slice oa k oc, .int .i64 (z : Int), .int .i64 (uz : Int), .bool true] (0, 0) _ rfl t5.box Tryz.underlying28 rfl size_flow) rfl ?_
            exact HF.out _ _ (by simp) t5.drop.drop.swap.drop.swap.drop
        · have d2 : ((k : Int) == (z : Int)) = false := beq_eq_false_iff_ne.2 (by omega)
          have HW := Lib.hid hw
          clear hkz hw
          go_wp2_with fail
          obtain ⟨b, hb2⟩ : ∃ b, w2.heap.size = b := ⟨_, rfl⟩
          rw [hb2] at t0 hnb
          try rw [hb2]
          clear s3 hinf hi hg hb2
          generalize w2.alloc (.cells #[.slice oa k oc, .int .i64 (z : Int), .int .i64 (uq : Int), .bool false] 28) = wd at *
          replace t0 : St B w0 wd (boxT b #[.slice oa k oc, .int .i64 (z : Int), .int .i64 (uq : Int), .bool false] 28 :: rowT 5 1 (.slice oa k oc) k us :: boxT n (flowW (.slice none 0 0) 0 0 false) 28 :: boxT w1.heap.size (headC h (.slice ea h.extra.length ec)) 80 :: rowT 5 1 (.slice ea h.extra.length ec) h.extra.length (u8s h.extra) :: r) := t0
          have hne : n ≠ b := by omega
          have hne2 : b ≠ n := by omega
          have j0 : wd.cell? ⟨b, 0, none⟩ = some (.slice oa k oc) := (St.boxAt t0 0).1
          have j1 : wd.cell? ⟨b, 1, none⟩ = some (.int .i64 (z : Int)) := (St.boxAt t0 1).1
          have j2 : wd.cell? ⟨b, 2, none⟩ = some (.int .i64 (uq : Int)) := (St.boxAt t0 2).1
          have j3 : wd.cell? ⟨b, 3, none⟩ = some (.bool false) := (St.boxAt t0 3).1
          have f3 := (St.boxAt t0 3).2
          obtain ⟨uz, huz⟩ : ∃ uz, p + uq + 8 = uz := ⟨_, rfl⟩
          have hfin : ∀ W x, x = (wr || (decide (o.length ≤ keep) && decide (tailOf o ≠ sl xs (p + uq) 8))) → St B w0 W (rowT 5 1 (.slice oa k oc) k us :: r) → MemSt B w0 r keep (some ⟨p + uq + 8, o, wr, decide (tailOf o ≠ sl xs (p + uq) 8)⟩) (.returned (.tuple #[.agg #[.slice oa k oc, .int .i64 (z : Int), .int .i64 (uz : Int), .bool x], .bool true])) W := by
            rintro W x rfl t
            refine ⟨oa, oc, ?_, ?_⟩
            · show _ = Ending.returned (.tuple #[.agg (flowW (.slice oa (o.take keep).length oc) o.length (p + uq + 8) (wr || (decide (o.length ≤ keep) && decide (tailOf o ≠ sl xs (p + uq) 8)))), .bool true])
              rw [hk1, hz, huz]
            · show St B w0 W (rowT 5 1 (.slice oa (o.take keep).length oc) (o.take keep).length (u8s (o.take keep)) :: r)
              rw [hk1, hus2]
              exact t
          have HF := Lib.hid hfin
          clear hfin
          have hsum : (uq : Int) + ((p : Int) + 8) = (uz : Int) := by omega
          have h3 : ∀ W, St B w0 W r → ByteRow W (.slice (va.map (·.add (p + uq))) 8 (vc - (p + uq))) (sl xs (p + uq) 8) := by
            intro W t
            have h4 := H2.out W t
            rw [← ha3, if_neg (by omega)] at h4
            have h5 := byteRow_first h4 8 (by rw [sl_length (by omega)]; omega)
            have e4 : (sl xs (p + uq) c2).take 8 = sl xs (p + uq) 8 := by unfold sl; rw [List.take_take, Nat.min_eq_left (by omega)]
            rw [e4] at h5
            exact h5
          have h8 : (8 : Int) ≤ ((vc - (p + uq) : Nat) : Int) := by omega
          have hvn : 8 ≤ vc - (p + uq) := by omega
          have H3 := Lib.hid h3
          have hoe : ∀ W, St B w0 W (boxT b #[.slice oa k oc, .int .i64 (z : Int), .int .i64 (uq : Int), .bool false] 28 :: rowT 5 1 (.slice oa k oc) k us :: boxT n (flowW (.slice none 0 0) 0 0 false) 28 :: boxT w1.heap.size (headC h (.slice ea h.extra.length ec)) 80 :: rowT 5 1 (.slice ea h.extra.length ec) h.extra.length (u8s h.extra) :: r) → z ≤ keep → Calls Tryz.prog 70 #[.slice oa k oc, .slice (va.map (·.add (p + uq))) 8 (vc - (p + uq))] W fun e w' => e = .returned (.bool (decide (tailOf o = sl xs (p + uq) 8))) ∧ St B w0 w' (boxT b #[.slice oa k oc, .int .i64 (z : Int), .int .i64 (uq : Int), .bool false] 28 :: rowT 5 1 (.slice oa k oc) k us :: boxT n (flowW (.slice none 0 0) 0 0 false) 28 :: boxT w1.heap.size (headC h (.slice ea h.extra.length ec)) 80 :: rowT 5 1 (.slice ea h.extra.length ec) h.extra.length (u8s h.extra) :: r) := by
            intro W t hw
            have hkz : k = o.length := by omega
            have htake : o.take keep = o := List.take_of_length_le (by omega)
            refine ends_st t _ _ o (sl xs (p + uq) 8) (fun W' t' => ?_) (fun W' t' => H3.out W' (t'.drop.drop.drop.drop.drop)) (by omega)
            have hrow := St.row t'.drop
            rw [← hus2, htake, hkz] at hrow
            rw [hkz]
            exact byteRow_owns hrow hob
          have HO := Lib.hid hoe
          have hkk := Lib.hid hk2
          clear huz
          clear hoe h3 H2 ha3 HM HN HX HV HS st hk1 hus2 hob huq hus hdl hm ha2 hp hb
          obtain ⟨tl, htl⟩ : ∃ t, decide (tailOf o = sl xs (p + uq) 8) = t := ⟨_, rfl⟩
          rw [htl] at HO
          generalize va.map (·.add (p + uq)) = a4 at *
          generalize vc - (p + uq) = c4 at *
          clear d2
          cases wr
          · go_region
            have t2 := (t0.setBoxAt 3 (.bool false)).drew
            generalize (wd.setCell ⟨b, 3, none⟩ (.bool false)).drew = we at t2 ⊢
            replace t2 : St B w0 we (boxT b #[.slice oa k oc, .int .i64 (z : Int), .int .i64 (uq : Int), .bool false] 28 :: rowT 5 1 (.slice oa k oc) k us :: boxT n (flowW (.slice none 0 0) 0 0 false) 28 :: boxT w1.heap.size (headC h (.slice ea h.extra.length ec)) 80 :: rowT 5 1 (.slice ea h.extra.length ec) h.extra.length (u8s h.extra) :: r) := t2
            clear j0 j1 j2 j3 f3
            have j0 : we.cell? ⟨b, 0, none⟩ = some (.slice oa k oc) := (St.boxAt t2 0).1
            have j1 : we.cell? ⟨b, 1, none⟩ = some (.int .i64 (z : Int)) := (St.boxAt t2 1).1
            have j2 : we.cell? ⟨b, 2, none⟩ = some (.int .i64 (uq : Int)) := (St.boxAt t2 2).1
            have j3 : we.cell? ⟨b, 3, none⟩ = some (.bool false) := (St.boxAt t2 3).1
            have f2 := (St.boxAt t2 2).2
            have t3 := t2.front 2
            have k0 : we.cell? ⟨n, 0, none⟩ = some (.slice none 0 0) := (St.boxAt t3 0).1
            have k1 : we.cell? ⟨n, 1, none⟩ = some (.int .i64 0) := (St.boxAt t3 1).1
            have k2 : we.cell? ⟨n, 2, none⟩ = some (.int .i64 0) := (St.boxAt t3 2).1
            have k3 : we.cell? ⟨n, 3, none⟩ = some (.bool false) := (St.boxAt t3 3).1
            have z0 := (St.boxAt t3 0).2
            have z1 := (St.boxAt t3 1).2
            have z2 := (St.boxAt t3 2).2
            have z3 := (St.boxAt t3 3).2
            have t4 := (t2.setBoxAt 2 (.int .i64 (uz : Int))).front 2
            have t5 := (((t4.setBoxAt 0 (.slice oa k oc)).setBoxAt 1 (.int .i64 (z : Int))).setBoxAt 2 (.int .i64 (uz : Int))).setBoxAt 3 (.bool false)
            go_wp2_with fail
            try rw [hsum]
            generalize ((((we.setCell ⟨b, 2, none⟩ (.int .i64 (uz : Int))).setCell ⟨n, 0, none⟩ (.slice oa k oc)).setCell ⟨n, 1, none⟩ (.int .i64 (z : Int))).setCell ⟨n, 2, none⟩ (.int .i64 (uz : Int))).setCell ⟨n, 3, none⟩ (.bool false) = wf at t5 ⊢
            refine bodyPost_ret (results_row_one rfl _ _ n 28 #[.slice oa k oc, .int .i64 (z : Int), .int .i64 (uz : Int), .bool false] (0, 0) _ rfl t5.box Tryz.underlying28 rfl size_flow) rfl ?_
            exact HF.out _ _ (by rw [hz, decide_eq_false HW.out]; simp) t5.drop.drop.swap.drop.swap.drop
          · go_region
            have t2 := (t0.setBoxAt 3 (.bool true)).drew
            generalize (wd.setCell ⟨b, 3, none⟩ (.bool true)).drew = we at t2 ⊢
            replace t2 : St B w0 we (boxT b #[.slice oa k oc, .int .i64 (z : Int), .int .i64 (uq : Int), .bool true] 28 :: rowT 5 1 (.slice oa k oc) k us :: boxT n (flowW (.slice none 0 0) 0 0 false) 28 :: boxT w1.heap.size (headC h (.slice ea h.extra.length ec)) 80 :: rowT 5 1 (.slice ea h.extra.length ec) h.extra.length (u8s h.extra) :: r) := t2
            clear j0 j1 j2 j3 f3
            have j0 : we.cell? ⟨b, 0, none⟩ = some (.slice oa k oc) := (St.boxAt t2 0).1
            have j1 : we.cell? ⟨b, 1, none⟩ = some (.int .i64 (z : Int)) := (St.boxAt t2 1).1
            have j2 : we.cell? ⟨b, 2, none⟩ = some (.int .i64 (uq : Int)) := (St.boxAt t2 2).1
            have j3 : we.cell? ⟨b, 3, none⟩ = some (.bool true) := (St.boxAt t2 3).1
            have f2 := (St.boxAt t2 2).2
            have t3 := t2.front 2
            have k0 : we.cell? ⟨n, 0, none⟩ = some (.slice none 0 0) := (St.boxAt t3 0).1
            have k1 : we.cell? ⟨n, 1, none⟩ = some (.int .i64 0) := (St.boxAt t3 1).1
            have k2 : we.cell? ⟨n, 2, none⟩ = some (.int .i64 0) := (St.boxAt t3 2).1
            have k3 : we.cell? ⟨n, 3, none⟩ = some (.bool false) := (St.boxAt t3 3).1
            have z0 := (St.boxAt t3 0).2
            have z1 := (St.boxAt t3 1).2
            have z2 := (St.boxAt t3 2).2
            have z3 := (St.boxAt t3 3).2
            have t4 := (t2.setBoxAt 2 (.int .i64 (uz : Int))).front 2
            have t5 := (((t4.setBoxAt 0 (.slice oa k oc)).setBoxAt 1 (.int .i64 (z : Int))).setBoxAt 2 (.int .i64 (uz : Int))).setBoxAt 3 (.bool true)
            go_wp2_with fail
            try rw [hsum]
            generalize ((((we.setCell ⟨b, 2, none⟩ (.int .i64 (uz : Int))).setCell ⟨n, 0, none⟩ (.slice oa k oc)).setCell ⟨n, 1, none⟩ (.int .i64 (z : Int))).setCell ⟨n, 2, none⟩ (.int .i64 (uz : Int))).setCell ⟨n, 3, none⟩ (.bool true) = wf at t5 ⊢
            refine bodyPost_ret (results_row_one rfl _ _ n 28 #[.slice oa k oc, .int .i64 (z : Int), .int .i64 (uz : Int), .bool true] (0, 0) _ rfl t5.box Tryz.underlying28 rfl size_flow) rfl ?_
            exact HF.out _ _ (by simp) t5.drop.drop.swap.drop.swap.drop
      · have e : X = none := by rw [← HX.out]; exact HN.out (by omega)
        subst e
        have d1 : (c2 : Int) < 8 := by omega
        replace t0 := t0.front 2
        replace t0 : St B w0 (w2.alloc (.cells #[.slice oa k oc, .int .i64 (z : Int), .int .i64 (uq : Int), .bool false] 28)) (boxT n (flowW (.slice none 0 0) 0 0 false) 28 :: boxT w2.heap.size #[.slice oa k oc, .int .i64 (z : Int), .int .i64 (uq : Int), .bool false] 28 :: rowT 5 1 (.slice oa k oc) k us :: boxT w1.heap.size (headC h (.slice ea h.extra.length ec)) 80 :: rowT 5 1 (.slice ea h.extra.length ec) h.extra.length (u8s h.extra) :: r) := t0
        have k0 : (w2.alloc (.cells #[.slice oa k oc, .int .i64 (z : Int), .int .i64 (uq : Int), .bool false] 28)).cell? ⟨n, 0, none⟩ = some (.slice none 0 0) := (St.boxAt t0 0).1
        have k1 : (w2.alloc (.cells #[.slice oa k oc, .int .i64 (z : Int), .int .i64 (uq : Int), .bool false] 28)).cell? ⟨n, 1, none⟩ = some (.int .i64 0) := (St.boxAt t0 1).1
        have k2 : (w2.alloc (.cells #[.slice oa k oc, .int .i64 (z : Int), .int .i64 (uq : Int), .bool false] 28)).cell? ⟨n, 2, none⟩ = some (.int .i64 0) := (St.boxAt t0 2).1
        have k3 : (w2.alloc (.cells #[.slice oa k oc, .int .i64 (z : Int), .int .i64 (uq : Int), .bool false] 28)).cell? ⟨n, 3, none⟩ = some (.bool false) := (St.boxAt t0 3).1
        have z0 := (St.boxAt t0 0).2
        have z1 := (St.boxAt t0 1).2
        have z2 := (St.boxAt t0 2).2
        have z3 := (St.boxAt t0 3).2
        have t1 := (((t0.setBoxAt 0 (.slice none 0 0)).setBoxAt 1 (.int .i64 0)).setBoxAt 2 (.int .i64 0)).setBoxAt 3 (.bool false)
        go_wp2_with fail
        all_goals
          generalize ((((w2.alloc (.cells #[.slice oa k oc, .int .i64 (z : Int), .int .i64 (uq : Int), .bool false] 28)).setCell ⟨n, 0, none⟩ (.slice none 0 0)).setCell ⟨n, 1, none⟩ (.int .i64 0)).setCell ⟨n, 2, none⟩ (.int .i64 0)).setCell ⟨n, 3, none⟩ (.bool false) = W1 at t1 ⊢
          refine bodyPost_ret (results_row_one rfl _ _ n 28 (flowW (.slice none 0 0) 0 0 false) (0, 0) _ rfl t1.box Tryz.underlying28 rfl size_flow) rfl ?_
          exact ⟨rfl, t1.drop.drop.drop.drop.drop⟩

end
end Go.Proofs.YtpinfihmageeoaaGreat.Gu
