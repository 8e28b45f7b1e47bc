/-
  Contract of package gunzip: members. No conditions but that rows are small.
-/
import Derived.Test.YtpinfihmageeoaaGreatGzM
import Derived.Test.YtpinfihmageeoaaGreatGzS
import Derived.Test.YtpinfihmageeoaaGreatGC
import Derived.Sort.QuietTacIn
import Derived.Sort.BigQuietIn
namespace Go.Proofs.YtpinfihmageeoaaGreat.Gu
open Go.RowKit Go.Shelf Kraft Hd Inf Fr

attribute [local go_sem] Oper.semAt_some

set_option maxHeartbeats 1000000 in
/-- members: the bytes and keep are boxed; the function that comes back holds the boxes. -/
theorem members_any (a : Option Addr) (len cap : Nat) (keep : Int) (w : World) :
    Calls Tryz.prog 31 #[.slice a len cap, .int .i64 keep] w fun e w' => e = .returned (.func (.func 46) #[] #[.pointer (some ⟨w.heap.size, 0, none⟩), .pointer (some ⟨w.heap.size + 1, 0, none⟩)]) ∧ w' = (w.alloc (.cells #[.slice a len cap] 26)).alloc (.cells #[.int .i64 keep] 3) := by
  have hmf : ∀ (fn : Fn) (first cap : Array Value) (w : World), (Instr.makeFunc fn first cap).run Tryz.prog w = .ok (.func fn first cap) w := fun _ _ _ _ => rfl
  go_enter Tryz.func31, Tryz.ntmps31
  go_wp2
  go_ret
  exact ⟨rfl, rfl⟩

/-- What a round keeps: what lies below n0, and flows from n0 + 3 on. -/
def KeepG (n0 : Nat) (A B : World) : Prop := Below n0 A B ∧ ∀ k cs fr, n0 + 3 ≤ k → A.heap[k]? = some (.cells cs 28 fr) → B.heap[k]? = some (.cells cs 28 fr)

theorem KeepG.trans {n0 : Nat} {A B C : World} (h : KeepG n0 A B) (k : KeepG n0 B C) : KeepG n0 A C := ⟨h.1.trans k.1, fun i cs fr hi hc => k.2 i cs fr hi (h.2 i cs fr hi hc)⟩

theorem KeepG.putObj {n0 : Nat} {w : World} (hn : n0 ≤ w.heap.size) (W : World) (l : Nat) (o o' : Obj) (hl : w.heap.size ≤ l) (h : W.heap[l]? = some o) (h3 : o.isCells = false) (h4 : o.isWalk = false) : KeepG n0 W (W.putObj l o') := by
  refine ⟨belowK_b hn W l o o' hl h h3 h4, fun k cs fr _ hc => ?_⟩
  have hne : k ≠ l := fun e => by
    subst e
    rw [hc] at h
    obtain rfl := Option.some.inj h
    cases h3
  exact (World.putObj_heap_other hne).trans hc

/-- Which member comes in round k, and how many bytes are still kept then. -/
def nth (ms : List Mem) (k : Nat) : Mem := ms.getD k ⟨0, [], false, false⟩
def more (ms : List Mem) (keep k : Nat) : Nat := keep - (outs (ms.take k)).length

/-- What is handed on in round k. -/
def OneAt (ms : List Mem) (keep k : Nat) (x : Array Value) (W : World) : Prop :=
  ∃ oa oc, x = #[.agg (flowW (.slice oa ((nth ms k).out.take (more ms keep k)).length oc) (nth ms k).out.length (nth ms k).used ((nth ms k).head || (decide ((nth ms k).out.length ≤ more ms keep k) && (nth ms k).tail)))] ∧
    ByteRow W (.slice oa ((nth ms k).out.take (more ms keep k)).length oc) ((nth ms k).out.take (more ms keep k))

theorem nth_at {ms : List Mem} {k : Nat} {m : Mem} {rest : List Mem} (h : ms.drop k = m :: rest) : k < ms.length ∧ nth ms k = m ∧ ms.drop (k + 1) = rest ∧ ms.take (k + 1) = ms.take k ++ [m] := by
  have h1 : k < ms.length := by
    rcases Nat.lt_or_ge k ms.length with c | c
    · exact c
    · rw [List.drop_of_length_le c] at h; cases h
  rw [List.drop_eq_getElem_cons h1] at h
  obtain ⟨h2, h3⟩ := List.cons.inj h
  refine ⟨h1, ?_, h3, ?_⟩
  · unfold nth
    rw [List.getD_eq_getElem?_getD, List.getElem?_eq_getElem h1, h2]
    rfl
  · rw [List.take_succ_eq_append_getElem h1, h2]

set_option maxRecDepth 100000 in
set_option maxHeartbeats 4000000 in
theorem members_seq (n : Nat) (hn : 1 ≤ n) (Bg Bk n0 : Nat) (v : Value) (xs : List Nat) (keep : Nat) (w : World) (hg0 : Bg < w.heap.size) (hk0 : Bk < w.heap.size) (hn0 : n0 + 3 ≤ w.heap.size) (hx : xs.length ≤ 60000) (hk : keep ≤ 1000000)
    (hbg : w.cell? ⟨Bg, 0, none⟩ = some v) (hbk : w.cell? ⟨Bk, 0, none⟩ = some (.int .i64 (keep : Int))) (hrow : ∀ W, Below n0 w W → ByteRow W v xs) :
    SeqA Fence.wide n Tryz.prog 46 #[.pointer (some ⟨Bg, 0, none⟩), .pointer (some ⟨Bk, 0, none⟩)] (OneAt (goods xs) keep) (KeepG n0) (goods xs).length w := by
  intro l J W hW hJB hY h0
  refine callsIn_of_wp Tryz.func46 rfl trivial ?_ rfl
  simp only [Tryz.ntmps46, List.size_toArray, List.length_cons, List.length_nil, Nat.reduceAdd, Nat.reduceSub, Array.replicate_succ, Array.replicate_zero, List.push_toArray, List.append_toArray, List.nil_append, List.cons_append]
  have hb1 := (hW.cell (p := ⟨Bg, 0, none⟩) hg0).trans hbg
  have hb2 := (hW.cell (p := ⟨Bk, 0, none⟩) hk0).trans hbk
  have hW0 : Below n0 w W := hW.mono (by omega)
  have hWs : n0 + 3 ≤ W.heap.size := by have := hW.size; omega
  have hbyte := (hrow w (Below.refl _ _)).byte
  obtain ⟨a, cap, rfl, -, -, -⟩ := hrow w (Below.refl _ _)
  have HR := Lib.hid hrow
  clear hrow
  gi_wp2
  refine wpIn_region_quiet_lit rfl (by kernel_rfl) (by kernel_rfl) ?_
  repeat (gi_big_quiet_step (fail))
  refine wpQuietIn_nil ?_
  intro _ hw'
  obtain ⟨nq, hw''⟩ := hw'
  subst hw''
  gi_wp2
  have hJ1 : J 0 (W.drewN nq) := hJB _ _ _ h0 (below_drewN nq)
  have hW1 : Below n0 w (W.drewN nq) := hW0.drewN nq
  have hWs1 : n0 + 3 ≤ (W.drewN nq).heap.size := hWs
  clear hb1 hb2 hW0 h0 hWs
  generalize W.drewN nq = Wd at *
  gi_loopw [4, 5] (fun lv mv wr => ∃ (k p : Nat) (a2 : Option Addr) (c2 : Nat), p ≤ xs.length ∧ k ≤ (goods xs).length ∧ lv = .slice a2 (xs.length - p) c2 ∧ Hid (∀ W, Below n0 w W → ByteRow W (.slice a2 (xs.length - p) c2) (xs.drop p)) ∧ Hid (goods (xs.drop p) = (goods xs).drop k) ∧ mv = .int .i64 ((more (goods xs) keep k : Nat) : Int) ∧ J k wr ∧ Below n0 w wr ∧ n0 + 3 ≤ wr.heap.size)
    (fun lv _ _ => match lv with | .slice _ n _ => n | _ => 0)
  case atStart => exact ⟨0, 0, a, cap, Nat.zero_le _, Nat.zero_le _, rfl, HR, Lib.hid rfl, by simp [more, outs], hJ1, hW1, hWs1⟩
  case round =>
    obtain ⟨k, p, a2, c2, hp, hkl, rfl, HB, HG, rfl, hJ, hBl, hws⟩ := hrel
    clear hJ1 hW1 hWs1
    have hdl : (xs.drop p).length = xs.length - p := List.length_drop
    obtain ⟨q, hq⟩ : ∃ q, xs.length - p = q := ⟨_, rfl⟩
    rw [hq] at HB hdl
    try rw [hq]
    have hmk : more (goods xs) keep k ≤ 1000000 := by unfold more; omega
    obtain ⟨mk, hmk2⟩ : ∃ mk, more (goods xs) keep k = mk := ⟨_, rfl⟩
    rw [hmk2] at hmk
    try rw [hmk2]
    by_cases h0 : 0 < q
    · have d1 : (0 : Int) < (q : Int) := by omega
      have hmem := (member_st (St.start wr) (.slice a2 q c2) (xs.drop p) (fun W' s => HB.out W' (hBl.trans ((s.below (Nat.le_refl _)).mono (by omega)))) (by omega) mk hmk)
      unfold MemSt at hmem
      cases hm : memAt (xs.drop p) with
      | none =>
        rw [hm] at hmem
        have hkN : k = (goods xs).length := by
          have h1 := HG.out
          rw [goods_none hm] at h1
          have h2 := congrArg List.length h1
          simp at h2
          omega
        subst hkN
        gi_wp2_with fail
        refine ⟨trivial, ?_⟩
        refine (callsIn_wide.2 hmem).mono ?_
        rintro e w1 ⟨rfl, s1⟩
        have hJ2 := hJB _ _ _ hJ (((s1.below (Nat.le_refl _))).trans ((below_alloc w1 (.cells #[.slice none 0 0, .int .i64 0, .int .i64 0, .bool false] 28)).mono (s1.below (Nat.le_refl _)).size))
        gi_wp2_with fail
        refine ⟨fun _ h => (by cases h), ?_⟩
        gi_wp2_with fail
        refine bodyPost_ret (results_none rfl _ _ _) rfl ?_
        exact ⟨⟨_, rfl⟩, hJ2⟩
      | some m =>
        rw [hm] at hmem
        have hgs := goods_some hm
        have hdr := HG.out.symm.trans hgs
        obtain ⟨hkN, hnth, hdk, htk⟩ := nth_at hdr
        have hmu := memAt_some hm
        have hmb := memAt_byte hm
        obtain ⟨bs, hbs⟩ : ∃ bs, m.out.take mk = bs := ⟨_, rfl⟩
        obtain ⟨z, hz⟩ : ∃ z, m.out.length = z := ⟨_, rfl⟩
        obtain ⟨wb, hwb⟩ : ∃ wb, (m.head || decide (z ≤ mk) && m.tail) = wb := ⟨_, rfl⟩
        obtain ⟨u, hu⟩ : ∃ u, m.used = u := ⟨_, rfl⟩
        obtain ⟨t, ht⟩ : ∃ t, bs.length = t := ⟨_, rfl⟩
        simp only [hz, hu, hwb, hbs, ht] at hmem
        have hyb : ∀ x ∈ bs, x < 256 := fun x hx => hmb x (by rw [← hbs] at hx; exact List.mem_of_mem_take hx)
        have hA : ∀ W oa oc, ByteRow W (.slice oa t oc) bs → OneAt (goods xs) keep k #[.agg #[.slice oa t oc, .int .i64 (z : Int), .int .i64 (u : Int), .bool wb]] W := by
          intro W oa oc hr
          refine ⟨oa, oc, ?_, ?_⟩
          · rw [hnth, hmk2, hz, hu, hwb, hbs, ht]
          · rw [hnth, hmk2, hbs, ht]; exact hr
        gi_wp2_with fail
        refine ⟨trivial, ?_⟩
        refine (callsIn_wide.2 hmem).mono ?_
        rintro e w1 ⟨oa, oc, rfl, s1⟩
        have hbw := s1.below (Nat.le_refl _)
        have s2 := s1.newBox #[.slice oa t oc, .int .i64 (z : Int), .int .i64 (u : Int), .bool wb] 28
        have hbw2 := s2.below (Nat.le_refl _)
        obtain ⟨w2, hw2⟩ : ∃ w2, w1.alloc (.cells #[.slice oa t oc, .int .i64 (z : Int), .int .i64 (u : Int), .bool wb] 28) = w2 := ⟨_, rfl⟩
        have hrow : ByteRow w2 (.slice oa t oc) bs := by
          rw [← hw2]
          have h9 := St.row s2.swap
          rw [← ht]
          rw [← ht] at h9
          exact byteRow_owns h9 hyb
        have hbox := s2.box
        rw [hw2] at hbw2 hbox
        have hJ2 := hJB _ _ _ hJ hbw2
        obtain ⟨fn, tmps, assign, body, hy, hRd⟩ := hY k _ w2 hkN hJ2 (hA w2 oa oc hrow)
        have q0 : w2.cell? ⟨w1.heap.size, 0, none⟩ = some (.slice oa t oc) := cell_of_row _ w1.heap.size 0 _ _ (0, 0) hbox
        have q1 : w2.cell? ⟨w1.heap.size, 1, none⟩ = some (.int .i64 (z : Int)) := cell_of_row _ w1.heap.size 1 _ _ (0, 0) hbox
        have q2 : w2.cell? ⟨w1.heap.size, 2, none⟩ = some (.int .i64 (u : Int)) := cell_of_row _ w1.heap.size 2 _ _ (0, 0) hbox
        have q3 : w2.cell? ⟨w1.heap.size, 3, none⟩ = some (.bool wb) := cell_of_row _ w1.heap.size 3 _ _ (0, 0) hbox
        have hws2 := hbw.size
        gi_wp2_with fail
        refine hRd.mono ?_
        rintro e W3 ⟨rfl, hJ3, hK3⟩
        have hbox3 := hK3.2 _ _ _ (by omega) hbox
        have e0 : W3.cell? ⟨w1.heap.size, 0, none⟩ = some (.slice oa t oc) := cell_of_row _ w1.heap.size 0 _ _ (0, 0) hbox3
        have e2 : W3.cell? ⟨w1.heap.size, 2, none⟩ = some (.int .i64 (u : Int)) := cell_of_row _ w1.heap.size 2 _ _ (0, 0) hbox3
        have hBl3 : Below n0 w W3 := (hBl.trans (hbw2.mono (by omega))).trans hK3.1
        have hsz3 : n0 + 3 ≤ W3.heap.size := by
          have h1 := hK3.1.size
          have h2 := hbw2.size
          omega
        have htz : t = min mk z := by rw [← ht, ← hbs, List.length_take, hz]
        have hmo : more (goods xs) keep (k + 1) = mk - z := by
          rw [← hmk2]
          unfold more
          rw [htk, outs_app, List.length_append, show outs [m] = m.out from by simp [outs], hz, Nat.sub_add_eq]
        rw [hu, hdl] at hmu
        have hmi : (mk : Int) - (t : Int) = ((more (goods xs) keep (k + 1) : Nat) : Int) := by rw [hmo]; omega
        have hgo : goods (xs.drop (p + u)) = (goods xs).drop (k + 1) := by rw [hdk, List.drop_drop, hu]
        have hsl : sl (xs.drop p) u (q - u) = xs.drop (p + u) := by
          unfold sl
          rw [List.drop_drop, List.take_of_length_le (by rw [List.length_drop]; omega)]
        have hB4 := fun W' (h' : Below n0 w W') => Fr.byteRow_sub (HB.out W' h') u (q - u) (by omega)
        rw [hsl] at hB4
        have hqu : q - u = xs.length - (p + u) := by omega
        have hB5 := Lib.hid hB4
        have hJ4 : ∀ j, J (k + 1) (W3.drewN j) := fun j => hJB _ _ _ hJ3 (below_drewN j)
        have hBl4 : ∀ j, Below n0 w (W3.drewN j) := fun j => hBl3.drewN j
        have HMO := Lib.hid hmo
        have HMI := Lib.hid hmi
        have HGO := Lib.hid hgo
        have HTZ := Lib.hid htz
        clear hmo hmi hgo htz hsl hB4 HB HG hJ2 hJ3 hY hnth hdk htk hdr hgs hm hRd hy hrow hbox hbox3 q0 q1 q2 q3 hA hyb hmb hmem s1 s2 hbs hz hwb hu ht
        gi_wp2_with fail
        refine wpIn_region_quiet_lit rfl (by kernel_rfl) (by kernel_rfl) ?_
        repeat (gi_big_quiet_step (fail))
        refine wpQuietIn_nil ?_
        intro _ hw'
        obtain ⟨n4, hw''⟩ := hw'
        subst hw''
        gi_wp2_with fail
        refine ⟨⟨k + 1, p + u, _, _, by omega, hkN, rfl, by rw [← hqu]; exact hB5, HGO, ?_, hJ4 n4, hBl4 n4, hsz3⟩, ?_⟩
        · rw [HMI.out, HMO.out]
          have hb9 : mk - z ≤ 1000000 := by omega
          generalize mk - z = y at hb9 ⊢
          congr 1
          unfold wrap64
          omega
        · show xs.length - (p + u) < q
          omega
    · have hq0 : q = 0 := by omega
      subst hq0
      have hkN : k = (goods xs).length := by
        have h1 := HG.out
        rw [List.length_eq_zero_iff.1 hdl, goods_nil] at h1
        have h2 := congrArg List.length h1
        simp at h2
        omega
      subst hkN
      gi_wp2
      go_end0
      exact ⟨⟨_, rfl⟩, hJ⟩

end Go.Proofs.YtpinfihmageeoaaGreat.Gu
