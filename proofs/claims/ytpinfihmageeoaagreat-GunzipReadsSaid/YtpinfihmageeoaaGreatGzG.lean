/-
  Contract of package gunzip: Gunzip. No conditions but that rows are small.
-/
import Derived.Test.YtpinfihmageeoaaGreatGzI
namespace Go.Proofs.YtpinfihmageeoaaGreat.Gu
open Go.RowKit Go.Shelf Kraft Hd Inf Fr

section
variable {B : Nat} {w0 w : World} {r : List Thing}

set_option maxRecDepth 100000 in
set_option maxHeartbeats 4000000 in
/-- add: a flow more. -/
theorem add_st {ab : Nat} {v : Value} {acc : List Nat} {n u : Nat} {wr : Bool} (st : St B w0 w (boxT ab (flowW v n u wr) 28 :: rowT 5 1 v acc.length (u8s acc) :: r)) (oa : Option Addr) (oc : Nat) (bs : List Nat) (z uu : Nat) (wb : Bool) (hrow : ByteRow w (.slice oa bs.length oc) bs)
    (hl : acc.length + bs.length ≤ 100000000) (hn : n + z ≤ 1000000000000) (hu : u + uu ≤ 1000000000000) :
    Calls Tryz.prog 30 #[.agg (flowW (.slice oa bs.length oc) z uu wb), .pointer (some ⟨ab, 0, none⟩)] w fun e w' => e = .returned (.tuple #[]) ∧
      ∃ v', St B w0 w' (boxT ab (flowW v' (n + z) (u + uu) (wr || wb)) 28 :: rowT 5 1 v' (acc ++ bs).length (u8s (acc ++ bs)) :: r) := by
  have s1 := st.newBox (flowW (.slice oa bs.length oc) z uu wb) 28
  have hrow2 := hrow.below (below_alloc w (.cells #[.slice oa bs.length oc, .int .i64 (z : Int), .int .i64 (uu : Int), .bool wb] 28)) (Nat.le_refl _)
  obtain ⟨ob, hob⟩ : ∃ ob, w.heap.size = ob := ⟨_, rfl⟩
  rw [hob] at s1
  have s2 := s1.front 2
  have k0 : (w.alloc (.cells #[.slice oa bs.length oc, .int .i64 (z : Int), .int .i64 (uu : Int), .bool wb] 28)).cell? ⟨ab, 0, none⟩ = some v := (St.boxAt (s1.front 1) 0).1
  obtain ⟨va, vc, rfl⟩ : ∃ a c, v = .slice a acc.length c := ownsRow_slice (St.row st.swap)
  have hbx := st.box
  clear st
  have hne : ab ≠ ob := by
    have h1 := (Array.getElem?_eq_some_iff.1 hbx).1
    omega
  have hne2 : ob ≠ ab := fun e => hne e.symm
  obtain ⟨nz, hz3⟩ : ∃ nz, n + z = nz := ⟨_, rfl⟩
  obtain ⟨uz, hz4⟩ : ∃ uz, u + uu = uz := ⟨_, rfl⟩
  have hnz : (n : Int) + (z : Int) = (nz : Int) := by omega
  have huz : (u : Int) + (uu : Int) = (uz : Int) := by omega
  have hnb : nz ≤ 1000000000000 := by omega
  have hub : uz ≤ 1000000000000 := by omega
  clear hbx
  cases wr with
  | true =>
    go_enter Tryz.func30, Tryz.ntmps30
    go_wp2_with (at_builtin; refine wpList_append_bytes rfl _ _ rfl s2 hrow2 rfl rfl (by omega) ?_)
    intro v' w2 s3 _ _
    obtain ⟨xa, xc, rfl⟩ := ownsRow_slice s3.row
    have t0 := s3.front 2
    replace t0 : St B w0 w2 (boxT ab (flowW (.slice va acc.length vc) n u true) 28 :: rowT 5 1 (.slice xa (acc.length + bs.length) xc) (acc.length + bs.length) (u8s acc ++ u8s bs) :: boxT ob (flowW (.slice oa bs.length oc) z uu wb) 28 :: r) := t0
    have j0 : w2.cell? ⟨ab, 0, none⟩ = some (.slice va acc.length vc) := (St.boxAt t0 0).1
    have j1 : w2.cell? ⟨ab, 1, none⟩ = some (.int .i64 (n : Int)) := (St.boxAt t0 1).1
    have j2 : w2.cell? ⟨ab, 2, none⟩ = some (.int .i64 (u : Int)) := (St.boxAt t0 2).1
    have j3 : w2.cell? ⟨ab, 3, none⟩ = some (.bool true) := (St.boxAt t0 3).1
    have f0 := (St.boxAt t0 0).2
    have f1 := (St.boxAt t0 1).2
    have f2 := (St.boxAt t0 2).2
    have f3 := (St.boxAt t0 3).2
    have m1 : w2.cell? ⟨ob, 1, none⟩ = some (.int .i64 (z : Int)) := (St.boxAt (s3.front 1) 1).1
    have m2 : w2.cell? ⟨ob, 2, none⟩ = some (.int .i64 (uu : Int)) := (St.boxAt (s3.front 1) 2).1
    have m3 : w2.cell? ⟨ob, 3, none⟩ = some (.bool wb) := (St.boxAt (s3.front 1) 3).1
    have t1 := (((t0.setBoxAt 0 (.slice xa (acc.length + bs.length) xc)).setBoxAt 1 (.int .i64 (nz : Int))).setBoxAt 2 (.int .i64 (uz : Int))).setBoxAt 3 (.bool (true || wb))
    have hwb : (true || wb) = true := by simp
    rw [hwb] at t1
    clear s1 s2 s3 t0 hrow hrow2
    go_wp2_with fail
    try rw [hnz]
    try rw [huz]
    generalize (((w2.setCell ⟨ab, 0, none⟩ (.slice xa (acc.length + bs.length) xc)).setCell ⟨ab, 1, none⟩ (.int .i64 (nz : Int))).setCell ⟨ab, 2, none⟩ (.int .i64 (uz : Int))).setCell ⟨ab, 3, none⟩ (.bool (true)) = w3 at t1 ⊢
    go_end0
    refine ⟨rfl, .slice xa (acc.length + bs.length) xc, ?_⟩
    rw [hwb, hz3, hz4, List.length_append, u8s_append]
    exact (t1.front 2).drop
  | false =>
    go_enter Tryz.func30, Tryz.ntmps30
    go_wp2_with (at_builtin; refine wpList_append_bytes rfl _ _ rfl s2 hrow2 rfl rfl (by omega) ?_)
    intro v' w2 s3 _ _
    obtain ⟨xa, xc, rfl⟩ := ownsRow_slice s3.row
    have t0 := s3.front 2
    replace t0 : St B w0 w2 (boxT ab (flowW (.slice va acc.length vc) n u false) 28 :: rowT 5 1 (.slice xa (acc.length + bs.length) xc) (acc.length + bs.length) (u8s acc ++ u8s bs) :: boxT ob (flowW (.slice oa bs.length oc) z uu wb) 28 :: r) := t0
    have j0 : w2.cell? ⟨ab, 0, none⟩ = some (.slice va acc.length vc) := (St.boxAt t0 0).1
    have j1 : w2.cell? ⟨ab, 1, none⟩ = some (.int .i64 (n : Int)) := (St.boxAt t0 1).1
    have j2 : w2.cell? ⟨ab, 2, none⟩ = some (.int .i64 (u : Int)) := (St.boxAt t0 2).1
    have j3 : w2.cell? ⟨ab, 3, none⟩ = some (.bool false) := (St.boxAt t0 3).1
    have f0 := (St.boxAt t0 0).2
    have f1 := (St.boxAt t0 1).2
    have f2 := (St.boxAt t0 2).2
    have f3 := (St.boxAt t0 3).2
    have m1 : w2.cell? ⟨ob, 1, none⟩ = some (.int .i64 (z : Int)) := (St.boxAt (s3.front 1) 1).1
    have m2 : w2.cell? ⟨ob, 2, none⟩ = some (.int .i64 (uu : Int)) := (St.boxAt (s3.front 1) 2).1
    have m3 : w2.cell? ⟨ob, 3, none⟩ = some (.bool wb) := (St.boxAt (s3.front 1) 3).1
    have t1 := (((t0.setBoxAt 0 (.slice xa (acc.length + bs.length) xc)).setBoxAt 1 (.int .i64 (nz : Int))).setBoxAt 2 (.int .i64 (uz : Int))).setBoxAt 3 (.bool (false || wb))
    have hwb : (false || wb) = wb := by simp
    rw [hwb] at t1
    clear s1 s2 s3 t0 hrow hrow2
    go_wp2_with fail
    try rw [hnz]
    try rw [huz]
    generalize (((w2.setCell ⟨ab, 0, none⟩ (.slice xa (acc.length + bs.length) xc)).setCell ⟨ab, 1, none⟩ (.int .i64 (nz : Int))).setCell ⟨ab, 2, none⟩ (.int .i64 (uz : Int))).setCell ⟨ab, 3, none⟩ (.bool (wb)) = w3 at t1 ⊢
    go_end0
    refine ⟨rfl, .slice xa (acc.length + bs.length) xc, ?_⟩
    rw [hwb, hz3, hz4, List.length_append, u8s_append]
    exact (t1.front 2).drop

/-- What Gunzip hands out. -/
def GzSt (B : Nat) (w0 : World) (r : List Thing) (keep len : Nat) (x : Option (List Mem)) (e : Ending) (w' : World) : Prop :=
  match x with
  | none => e = .returned (.tuple #[.agg (flowW (.slice none 0 0) 0 0 false), .int .i64 2]) ∧ St B w0 w' r
  | some ms => ∃ oa oc, e = .returned (.tuple #[.agg (flowW (.slice oa ((outs ms).take keep).length oc) (outs ms).length len (wrongs keep ms)), .int .i64 0]) ∧ St B w0 w' (rowT 5 1 (.slice oa ((outs ms).take keep).length oc) ((outs ms).take keep).length (u8s ((outs ms).take keep)) :: r)

/-- What the loop's own memory holds. -/
def LoopG (w : World) (ms : List Mem) (keep k : Nat) (rest : List Thing) (W : World) : Prop :=
  ∃ v, St w.heap.size w W (boxT (w.heap.size + 1) (flowW v (outs (ms.take k)).length (total (ms.take k)) (wrongs keep (ms.take k))) 28 :: rowT 5 1 v ((outs (ms.take k)).take keep).length (u8s ((outs (ms.take k)).take keep)) ::
    boxT (w.heap.size + 2) #[.func (.func 30) #[] #[.pointer (some ⟨w.heap.size + 1, 0, none⟩)]] 75 :: boxT w.heap.size (flowW (.slice none 0 0) 0 0 false) 28 :: rest)

theorem memAt_far {xs : List Nat} {m : Mem} (h : memAt xs = some m) : m.out.length ≤ 2064 * m.used := by
  obtain ⟨s, q, _, hi, hl, e⟩ := memAt_of h
  have h1 := infl_far hi
  have h2 := infl_some hi
  rw [e]
  show m.out.length ≤ 2064 * (s.p + used q + 8)
  omega

theorem goods_far : ∀ (n : Nat) (xs : List Nat), xs.length ≤ n → (outs (goods xs)).length ≤ 2064 * total (goods xs)
  | n, xs, hn => by
    cases h : memAt xs with
    | none => rw [goods_none h]; simp [outs]
    | some m =>
      have h1 := memAt_some h
      have h2 := memAt_far h
      rw [goods_some h, total_cons, outs_cons, List.length_append]
      cases n with
      | zero => omega
      | succ n =>
        have := goods_far n (xs.drop m.used) (by rw [List.length_drop]; omega)
        omega

theorem outs_take (ms : List Mem) (k : Nat) : (outs (ms.take k)).length ≤ (outs ms).length := by
  conv => rhs; rw [← List.take_append_drop k ms, outs_app, List.length_append]
  omega

/-- A member more. -/
theorem step_at {ms : List Mem} {k : Nat} (hk : k < ms.length) (keep : Nat) :
    outs (ms.take (k + 1)) = outs (ms.take k) ++ (nth ms k).out ∧ total (ms.take (k + 1)) = total (ms.take k) + (nth ms k).used ∧
    wrongs keep (ms.take (k + 1)) = (wrongs keep (ms.take k) || ((nth ms k).head || (decide ((nth ms k).out.length ≤ more ms keep k) && (nth ms k).tail))) ∧
    (outs (ms.take (k + 1))).take keep = (outs (ms.take k)).take keep ++ (nth ms k).out.take (more ms keep k) := by
  obtain ⟨-, -, -, ht⟩ := nth_at (List.drop_eq_getElem_cons hk)
  have hm : nth ms k = ms[k] := (nth_at (List.drop_eq_getElem_cons hk)).2.1
  have ho : outs [ms[k]] = ms[k].out := by simp [outs]
  rw [ht, hm, outs_app, total_app, wrongs_app, ho]
  refine ⟨rfl, by simp [total], ?_, ?_⟩
  · unfold more
    simp [wrongs]
  · rw [List.take_append]
    rfl

theorem LoopG.putObj {w : World} {ms : List Mem} {keep k : Nat} {W : World} {l : Nat} {o : Obj} (o' : Obj) (h : LoopG w ms keep k [] W) (hl : w.heap.size ≤ l) (ho : W.heap[l]? = some o) (hc : o.isCells = false) : LoopG w ms keep k [] (W.putObj l o') := by
  obtain ⟨v, s⟩ := h
  have hne : ∀ j cs t fr, W.heap[j]? = some (.cells cs t fr) → ¬ j = l := by
    rintro j cs t fr h rfl
    rw [h] at ho
    obtain rfl := Option.some.inj ho
    cases hc
  refine ⟨v, s.other (T := fun k => k = l) ?_ (fun k e => by omega) (only_putObj W l o')⟩
  intro A hA
  simp only [List.mem_cons, List.not_mem_nil, or_false] at hA
  rcases hA with rfl | rfl | rfl | rfl
  · exact off_box (fun h => hne _ _ _ _ h)
  · exact off_row (fun j cs fr h => hne _ _ _ _ h)
  · exact off_box (fun h => hne _ _ _ _ h)
  · exact off_box (fun h => hne _ _ _ _ h)

theorem byteRow_put {W : World} {v : Value} {xs : List Nat} {l : Nat} {o : Obj} (o' : Obj) (h : ByteRow W v xs) (ho : W.heap[l]? = some o) (hc : o.isCells = false) : ByteRow (W.putObj l o') v xs := by
  obtain ⟨a, cap, e, h1, h2, hat⟩ := h
  refine ⟨a, cap, e, h1, h2, fun i hi => ?_⟩
  obtain ⟨hb, b, off, e2, c⟩ := hat i hi
  exact ⟨hb, b, off, e2, cell_kept c (grownBy_putObj' W l o') (fun r e => by cases e; exact ⟨o, ho, hc⟩)⟩

/-- The loop's activation. -/
def frameG (n0 : Nat) (a : Option Addr) (len cap keep ob : Nat) (x : Value) : Array Value :=
  #[.slice a len cap, .int .i64 (keep : Int), undef, undef, .pointer (some ⟨n0, 0, none⟩), .int .i64 0, .pointer (some ⟨n0 + 1, 0, none⟩), .pointer (some ⟨n0 + 1 + 1, 0, none⟩), .pointer (some ⟨ob, 0, none⟩), .int .i64 (keep : Int), .bool (decide ((keep : Int) < 0)), undef,
    .func (.func 30) #[] #[.pointer (some ⟨n0 + 1, 0, none⟩)], .slice a len cap, .int .i64 (keep : Int), .func (.func 46) #[] #[.pointer (some ⟨n0 + 1 + 1 + 1, 0, none⟩), .pointer (some ⟨n0 + 1 + 1 + 1 + 1, 0, none⟩)], x,
    undef, undef, undef, undef, undef, undef, undef, undef, undef, undef, undef, undef, undef, undef, undef]

theorem store_func (P : Program) (W : World) (p : Addr) (m : Mode) (fn : Fn) (f c : Array Value) : (store p (.func fn f c) m).run P W = Go.stored P W p (.func fn f c) m := run_store P W p _ m rfl
attribute [local go_sem] store_func Oper.semAt_some

set_option maxRecDepth 100000 in
set_option maxHeartbeats 4000000 in
theorem gunzip_st (st : St B w0 w r) (v : Value) (xs : List Nat) (h : ByteRow w v xs) (hx : xs.length ≤ 60000) (keep : Nat) (hk : keep ≤ 1000000) :
    Calls Tryz.prog 13 #[v, .int .i64 (keep : Int)] w (GzSt B w0 r keep xs.length (file xs)) := by
  have hmf : ∀ (fn : Fn) (first cap : Array Value) (w : World), (Instr.makeFunc fn first cap).run Tryz.prog w = .ok (.func fn first cap) w := fun _ _ _ _ => rfl
  have HR := Lib.hid (fun W hB => h.below (B := w.heap.size) (w' := W) hB (Nat.le_refl _))
  have hbyte := h.byte
  obtain ⟨a, cap, rfl, -, -, -⟩ := id h
  clear h
  obtain ⟨X, hX⟩ : ∃ X, file xs = X := ⟨_, rfl⟩
  rw [hX]
  have HX := Lib.hid hX
  clear hX
  obtain ⟨ms, hms⟩ : ∃ ms, goods xs = ms := ⟨_, rfl⟩
  refine (callsIn_wide (n := 3)).1 ?_
  refine callsIn_of_wp_marks Tryz.func13 rfl trivial ?_ rfl
  simp only [Tryz.ntmps13, List.size_toArray, List.length_cons, List.length_nil, Nat.reduceAdd, Nat.reduceSub, Array.replicate_succ, Array.replicate_zero, List.push_toArray, List.append_toArray, List.nil_append, List.cons_append]
  obtain ⟨n0, hn0⟩ : ∃ n0, w.heap.size = n0 := ⟨_, rfl⟩
  gi_wp2_with fail
  refine ⟨trivial, ?_⟩
  refine (callsIn_wide.2 (members_any a xs.length cap (keep : Int) _)).mono ?_
  rintro e w9 ⟨rfl, rfl⟩
  gi_wp2_with fail
  have sA := ((St.start w).newBox (flowW (.slice none 0 0) 0 0 false) 28).newBox (flowW (.slice none 0 0) 0 0 false) 28
  have sB := ((sA.newBox #[.func (.func 30) #[] #[.pointer (some ⟨n0 + 1, 0, none⟩)]] 75).alloc (.cells #[.slice a xs.length cap] 26)).alloc (.cells #[.int .i64 (keep : Int)] 3)
  have cg : ∀ (W : World) (x y : Obj) (z : Value) (t : TypeId), x = .cells #[z] t → (((W.alloc x)).alloc y).cell? ⟨W.heap.size, 0, none⟩ = some z := by
    intro W x y z t e
    subst e
    rw [cell_of_row _ W.heap.size 0 #[z] t (0, 0) ((Below.heap_alloc _ _ _ (by simp)).trans (heap_alloc_new W _))]
    rfl
  have c1 := cg (((w.alloc (.cells #[.slice none 0 0, .int .i64 0, .int .i64 0, .bool false] 28)).alloc (.cells #[.slice none 0 0, .int .i64 0, .int .i64 0, .bool false] 28)).alloc (.cells #[.func (.func 30) #[] #[.pointer (some ⟨n0 + 1, 0, none⟩)]] 75)) (.cells #[.slice a xs.length cap] 26) (.cells #[.int .i64 (keep : Int)] 3) _ _ rfl
  have c2 : ∀ W : World, (W.alloc (.cells #[.int .i64 (keep : Int)] 3)).cell? ⟨W.heap.size, 0, none⟩ = some (.int .i64 (keep : Int)) := by
    intro W
    rw [cell_of_row _ W.heap.size 0 #[.int .i64 (keep : Int)] 3 (0, 0) (heap_alloc_new W _)]
    rfl
  have c2 := c2 ((((w.alloc (.cells #[.slice none 0 0, .int .i64 0, .int .i64 0, .bool false] 28)).alloc (.cells #[.slice none 0 0, .int .i64 0, .int .i64 0, .bool false] 28)).alloc (.cells #[.func (.func 30) #[] #[.pointer (some ⟨n0 + 1, 0, none⟩)]] 75)).alloc (.cells #[.slice a xs.length cap] 26))
  have z5 : (((((w.alloc (.cells #[.slice none 0 0, .int .i64 0, .int .i64 0, .bool false] 28)).alloc (.cells #[.slice none 0 0, .int .i64 0, .int .i64 0, .bool false] 28)).alloc (.cells #[.func (.func 30) #[] #[.pointer (some ⟨n0 + 1, 0, none⟩)]] 75)).alloc (.cells #[.slice a xs.length cap] 26)).alloc (.cells #[.int .i64 (keep : Int)] 3)).heap.size = n0 + 5 := by simp [hn0]
  simp only [World.size_alloc, hn0] at c1 c2 sB
  generalize ((((w.alloc (.cells #[.slice none 0 0, .int .i64 0, .int .i64 0, .bool false] 28)).alloc (.cells #[.slice none 0 0, .int .i64 0, .int .i64 0, .bool false] 28)).alloc (.cells #[.func (.func 30) #[] #[.pointer (some ⟨n0 + 1, 0, none⟩)]] 75)).alloc (.cells #[.slice a xs.length cap] 26)).alloc (.cells #[.int .i64 (keep : Int)] 3) = w2 at *
  have hbel := sB.below (by omega)
  have hI0 : LoopG w ms keep 0 [] w2 := by
    refine ⟨.slice none 0 0, ?_⟩
    have sC := sB.swap.addNil (e := 5) (size := 1)
    rw [hn0, show (outs (ms.take 0)).take keep = [] from List.take_nil]
    exact sC.swap
  clear sA sB cg
  have hfar := goods_far _ xs (Nat.le_refl _)
  have htl := total_le _ xs (Nat.le_refl _)
  rw [hms] at hfar htl
  have hseq := members_seq 2 (by omega) (n0 + 1 + 1 + 1) (n0 + 1 + 1 + 1 + 1) n0 (.slice a xs.length cap) xs keep w2 (by omega) (by omega) (by omega) hx hk c1 c2 (fun W hW => HR.out W (by rw [hn0]; exact hbel.trans hW))
  rw [hms] at hseq
  clear c1 c2
  refine range_some rfl (by omega) (gf := 46) (lb := #[.pointer (some ⟨n0 + 1 + 1 + 1, 0, none⟩), .pointer (some ⟨n0 + 1 + 1 + 1 + 1, 0, none⟩)]) rfl trivial (enters_of Tryz.func46 (by kernel_rfl) rfl)
    hseq KeepG.trans (KeepG.putObj (by omega)) (Below.refl _ _) (fun k x W _ hx => by obtain ⟨oa, oc, rfl, -⟩ := hx; rfl)
    (fun k W => LoopG w ms keep k [] W) ?hIB ?hIp hI0
    (fun k aa W => k < ms.length ∧ LoopG w ms keep k [] W ∧ ∃ ob oa oc bs, n0 + 3 ≤ ob ∧ bs = (nth ms k).out.take (more ms keep k) ∧ ByteRow W (.slice oa bs.length oc) bs ∧
      W.heap[ob]? = some (.cells (flowW (.slice oa bs.length oc) (nth ms k).out.length (nth ms k).used ((nth ms k).head || (decide ((nth ms k).out.length ≤ more ms keep k) && (nth ms k).tail))) 28 (0, 0)) ∧
      aa = ⟨frameG n0 a xs.length cap keep ob (.agg (flowW (.slice oa bs.length oc) (nth ms k).out.length (nth ms k).used ((nth ms k).head || (decide ((nth ms k).out.length ≤ more ms keep k) && (nth ms k).tail)))), []⟩)
    ?hI2 ?assign ?body ?done
  case hIB =>
    rintro k A B ⟨v, s⟩ hb
    exact ⟨v, s.quiet hb⟩
  case hIp =>
    intro k W l o o' h hl ho hc
    exact h.putObj o' (by omega) ho hc
  case hI2 =>
    rintro k aa W l o o' ⟨h0, h1, ob, oa, oc, bs, h2, h3, h4, h5, h6⟩ hl ho hc
    refine ⟨h0, h1.putObj o' (by omega) ho hc, ob, oa, oc, bs, h2, h3, byteRow_put o' h4 ho hc, (World.putObj_heap_other ?_).trans h5, h6⟩
    rintro rfl
    rw [ho] at h5
    obtain rfl := Option.some.inj h5
    cases hc
  case assign =>
    rintro l k x W K hk ⟨v, s⟩ ⟨oa, oc, rfl, hrow⟩ hK
    obtain ⟨bs, hbs⟩ : ∃ bs, (nth ms k).out.take (more ms keep k) = bs := ⟨_, rfl⟩
    obtain ⟨z, hz⟩ : ∃ z, (nth ms k).out.length = z := ⟨_, rfl⟩
    obtain ⟨wb, hwb⟩ : ∃ wb, ((nth ms k).head || (decide (z ≤ more ms keep k) && (nth ms k).tail)) = wb := ⟨_, rfl⟩
    simp only [hz, hwb, hbs] at hK hrow ⊢
    obtain ⟨t, ht⟩ : ∃ t, bs.length = t := ⟨_, rfl⟩
    simp only [ht]
    obtain ⟨uu, huu⟩ : ∃ u, (nth ms k).used = u := ⟨_, rfl⟩
    simp only [huu] at hK ⊢
    have hsz := s.size
    have hsz3 : n0 + 3 ≤ W.heap.size := by have := (Array.getElem?_eq_some_iff.1 (St.box (s.front 2))).1; omega
    have hbl := below_alloc W (.cells (flowW (.slice oa t oc) z uu wb) 28)
    have hfin := hK ⟨frameG n0 a xs.length cap keep W.heap.size (.agg (flowW (.slice oa t oc) z uu wb)), []⟩ (W.alloc (.cells (flowW (.slice oa t oc) z uu wb) 28)) ⟨hk, ⟨v, s.alloc _⟩, W.heap.size, oa, oc, bs, hsz3, rfl, hrow.below hbl (Nat.le_refl _), by rw [ht]; exact heap_alloc_new W _, by rw [ht]⟩ (KeepsOthers.alloc _ _)
      ⟨hbl.mono (by omega), fun j cs fr _ h => (Below.heap_alloc _ _ _ (Array.getElem?_eq_some_iff.1 h).1).trans h⟩
    clear hK
    gi_wp2
    exact hfin
  case body =>
    rintro l k aa W hk ⟨-, ⟨v, s⟩, ob, oa, oc, bs, hob, hbs, hrow, hbox, rfl⟩
    have hbw : ∀ k, k < 0 → False := fun k h => by omega
    obtain ⟨e1, e2, e3, e4⟩ := step_at hk keep
    have hf2 := outs_take ms (k + 1)
    have hf3 := (goods_at (k + 1) xs (by rw [hms]; omega)).1
    rw [hms] at hf3
    unfold LoopG
    rw [e4, ← hbs]
    rw [e1] at hf2
    rw [List.length_append] at hf2
    rw [e2] at hf3
    rw [e1, e2, e3, List.length_append]
    have hbl : bs.length ≤ 1000000 := by rw [hbs, List.length_take]; unfold more; omega
    clear e1 e2 e3 e4 hbs
    have hal : ((outs (ms.take k)).take keep).length ≤ 1000000 := by rw [List.length_take]; omega
    generalize (outs (ms.take k)).take keep = acc at *
    generalize (outs (ms.take k)).length = n at *
    generalize total (ms.take k) = u at *
    generalize wrongs keep (ms.take k) = wr at *
    generalize ((nth ms k).head || (decide ((nth ms k).out.length ≤ more ms keep k) && (nth ms k).tail)) = wb at *
    generalize (nth ms k).out.length = z at *
    generalize (nth ms k).used = uu at *
    have sF := s.freeze (T := fun k => n0 ≤ k ∧ ((∃ o, W.heap[k]? = some o ∧ o.isCells = false) ∨ (n0 + 3 ≤ k ∧ ∃ cs fr, W.heap[k]? = some (.cells cs 28 fr)))) ?offs (fun k hk => by omega)
    case offs =>
      have hbx : ∀ b cs t, b < n0 + 3 → W.heap[b]? = some (.cells cs t (0, 0)) → ¬ (n0 ≤ b ∧ ((∃ o, W.heap[b]? = some o ∧ o.isCells = false) ∨ (n0 + 3 ≤ b ∧ ∃ cs fr, W.heap[b]? = some (.cells cs 28 fr)))) := by
        rintro b cs t hb h ⟨-, ⟨o, ho, hc⟩ | ⟨h3, -⟩⟩
        · rw [h] at ho
          obtain rfl := Option.some.inj ho
          cases hc
        · omega
      intro A hA
      simp only [List.mem_cons, List.not_mem_nil, or_false] at hA
      rcases hA with rfl | rfl | rfl | rfl
      · exact off_box (fun h => hbx _ _ _ (by omega) h)
      · refine off_row ?_
        rintro j cs fr h ⟨-, ⟨o, ho, hc⟩ | ⟨-, cs2, fr2, h2⟩⟩
        · rw [h] at ho
          obtain rfl := Option.some.inj ho
          cases hc
        · rw [h] at h2
          have := (Obj.cells.inj (Option.some.inj h2)).2.1
          exact absurd this (by decide)
      · exact off_box (fun h => hbx _ _ _ (by omega) h)
      · exact off_box (fun h => hbx _ _ _ (by omega) h)
    have sG := (sF.front 2).front 2
    have hadd := add_st sG oa oc bs z uu wb hrow (by omega) (by omega) (by omega)
    have cf : W.cell? ⟨n0 + 1 + 1, 0, none⟩ = some (.func (.func 30) #[] #[.pointer (some ⟨n0 + 1, 0, none⟩)]) := by
      have h9 := (St.boxAt (s.front 2) 0).1
      rw [hn0] at h9
      exact h9
    obtain ⟨t, ht⟩ : ∃ t, bs.length = t := ⟨_, rfl⟩
    rw [ht] at hbox hadd
    rw [hn0] at hadd
    have o0 : W.cell? ⟨ob, 0, none⟩ = some (.slice oa t oc) := cell_of_row _ ob 0 _ _ (0, 0) hbox
    have o1 : W.cell? ⟨ob, 1, none⟩ = some (.int .i64 (z : Int)) := cell_of_row _ ob 1 _ _ (0, 0) hbox
    have o2 : W.cell? ⟨ob, 2, none⟩ = some (.int .i64 (uu : Int)) := cell_of_row _ ob 2 _ _ (0, 0) hbox
    have o3 : W.cell? ⟨ob, 3, none⟩ = some (.bool wb) := cell_of_row _ ob 3 _ _ (0, 0) hbox
    unfold frameG
    simp only [ht]
    clear hbox hrow
    gi_wp2_with fail
    refine ⟨trivial, ?_⟩
    refine (callsIn_wide.2 hadd).mono ?_
    rintro e W3 ⟨rfl, v3, t3⟩
    have tf := (t3.front 2).frozen
    have t4 := (t3.front 2).drop
    have hbw3 : Below n0 W W3 := by
      have h9 := s
      rw [hn0] at h9
      exact h9.between t3 (by omega) tf.1
    have hfin : KeepsOthers W W3 ∧ KeepG n0 W W3 ∧ ∃ v, St w.heap.size w W3 [boxT (w.heap.size + 1) (flowW v (n + z) (u + uu) (wr || wb)) 28, rowT 5 1 v (acc ++ bs).length (u8s (acc ++ bs)), boxT (w.heap.size + 2) #[.func (.func 30) #[] #[.pointer (some ⟨w.heap.size + 1, 0, none⟩)]] 75, boxT w.heap.size (flowW (.slice none 0 0) 0 0 false) 28] := by
      refine ⟨⟨tf.1, fun j o hj hc => ?_⟩, ⟨hbw3, fun j cs fr hj h => ?_⟩, v3, by rw [hn0]; exact t4⟩
      · have hlt := (Array.getElem?_eq_some_iff.1 hj).1
        by_cases c : j < n0
        · exact (hbw3.block j c).trans hj
        · exact (tf.2 j ⟨by omega, .inl ⟨o, hj, hc⟩⟩ hlt).trans hj
      · have hlt := (Array.getElem?_eq_some_iff.1 h).1
        exact (tf.2 j ⟨by omega, .inr ⟨hj, cs, fr, h⟩⟩ hlt).trans h
    clear hadd sG sF s t3 tf t4 cf o0 o1 o2 o3 hbw3
    gi_wp2_with fail
    exact hfin
  case done =>
    rintro D W hD ⟨v, s⟩ hdef
    rw [List.take_length, hn0] at s
    have k0 : W.cell? ⟨n0, 0, none⟩ = some (.slice none 0 0) := (St.boxAt (s.front 3) 0).1
    have k1 : W.cell? ⟨n0, 1, none⟩ = some (.int .i64 0) := (St.boxAt (s.front 3) 1).1
    have k2 : W.cell? ⟨n0, 2, none⟩ = some (.int .i64 0) := (St.boxAt (s.front 3) 2).1
    have k3 : W.cell? ⟨n0, 3, none⟩ = some (.bool false) := (St.boxAt (s.front 3) 3).1
    have z0 := (St.boxAt (s.front 3) 0).2
    have z1 := (St.boxAt (s.front 3) 1).2
    have z2 := (St.boxAt (s.front 3) 2).2
    have z3 := (St.boxAt (s.front 3) 3).2
    have j2 : W.cell? ⟨n0 + 1, 2, none⟩ = some (.int .i64 (total ms : Int)) := (St.boxAt s 2).1
    obtain ⟨va, vc, rfl⟩ : ∃ a c, v = .slice a ((outs ms).take keep).length c := ownsRow_slice (St.row s.swap)
    have hend : ∀ (W' : World) (f : Array Value), St n0 w W' (boxT n0 f 28 :: boxT (n0 + 1) (flowW (.slice va ((outs ms).take keep).length vc) (outs ms).length (total ms) (wrongs keep ms)) 28 :: rowT 5 1 (.slice va ((outs ms).take keep).length vc) ((outs ms).take keep).length (u8s ((outs ms).take keep)) :: [boxT (n0 + 2) #[.func (.func 30) #[] #[.pointer (some ⟨n0 + 1, 0, none⟩)]] 75]) → W'.heap[D]? = some (.deferred (some [])) →
        St n0 w (W'.putObj D (.deferred none)) (boxT n0 f 28 :: boxT (n0 + 1) (flowW (.slice va ((outs ms).take keep).length vc) (outs ms).length (total ms) (wrongs keep ms)) 28 :: rowT 5 1 (.slice va ((outs ms).take keep).length vc) ((outs ms).take keep).length (u8s ((outs ms).take keep)) :: [boxT (n0 + 2) #[.func (.func 30) #[] #[.pointer (some ⟨n0 + 1, 0, none⟩)]] 75]) := by
      intro W' f s' hd
      have hne : ∀ j cs t fr, W'.heap[j]? = some (.cells cs t fr) → ¬ j = D := by
        rintro j cs t fr h rfl
        rw [h] at hd
        cases hd
      refine s'.other (T := fun k => k = D) ?_ (fun k e => by omega) (only_putObj W' D _)
      intro A hA
      simp only [List.mem_cons, List.not_mem_nil, or_false] at hA
      rcases hA with rfl | rfl | rfl | rfl
      · exact off_box (fun h => hne _ _ _ _ h)
      · exact off_box (fun h => hne _ _ _ _ h)
      · exact off_row (fun j cs fr h => hne _ _ _ _ h)
      · exact off_box (fun h => hne _ _ _ _ h)
    have HE := Lib.hid hend
    clear hend hI0 hseq hbel z5 hfar
    obtain ⟨tt, htt⟩ : ∃ t, total ms = t := ⟨_, rfl⟩
    rw [htt] at htl j2 s HE
    by_cases hc : tt = xs.length ∧ xs.length ≠ 0
    · obtain ⟨hc1, hc2⟩ := hc
      have e : X = some ms := by
        rw [← HX.out]
        exact file_yes hms (by omega) hc2
      subst e
      subst hc1
      have j0 : W.cell? ⟨n0 + 1, 0, none⟩ = some (.slice va ((outs ms).take keep).length vc) := (St.boxAt s 0).1
      have j1 : W.cell? ⟨n0 + 1, 1, none⟩ = some (.int .i64 ((outs ms).length : Int)) := (St.boxAt s 1).1
      have j3 : W.cell? ⟨n0 + 1, 3, none⟩ = some (.bool (wrongs keep ms)) := (St.boxAt s 3).1
      have hfin : ∀ W', St n0 w W' (boxT n0 (flowW (.slice va ((outs ms).take keep).length vc) (outs ms).length xs.length (wrongs keep ms)) 28 :: boxT (n0 + 1) (flowW (.slice va ((outs ms).take keep).length vc) (outs ms).length xs.length (wrongs keep ms)) 28 :: rowT 5 1 (.slice va ((outs ms).take keep).length vc) ((outs ms).take keep).length (u8s ((outs ms).take keep)) :: [boxT (n0 + 2) #[.func (.func 30) #[] #[.pointer (some ⟨n0 + 1, 0, none⟩)]] 75]) →
          GzSt B w0 r keep xs.length (some ms) (.returned (.tuple #[.agg (flowW (.slice va ((outs ms).take keep).length vc) (outs ms).length xs.length (wrongs keep ms)), .int .i64 0])) W' := by
        intro W' s'
        have hbE := s'.below (by omega)
        have hrE := (s'.drop.drop).rowFrom
        rw [← hn0] at hbE hrE
        exact ⟨va, vc, rfl, st.addRow hbE hrE⟩
      have HF := Lib.hid hfin
      clear hfin htt
      have hz0 : ((xs.length : Int) == 0) = false := beq_eq_false_iff_ne.2 (by omega)
      have hz1 : ¬ (xs.length : Int) = 0 := by omega
      obtain ⟨t, ht⟩ : ∃ t, ((outs ms).take keep).length = t := ⟨_, rfl⟩
      obtain ⟨z, hz⟩ : ∃ z, (outs ms).length = z := ⟨_, rfl⟩
      obtain ⟨wb, hwb⟩ : ∃ wb, wrongs keep ms = wb := ⟨_, rfl⟩
      obtain ⟨us, hus⟩ : ∃ us, u8s ((outs ms).take keep) = us := ⟨_, rfl⟩
      rw [ht, hz, hwb, hus] at HF HE s
      rw [ht] at j0
      rw [hz] at j1
      rw [hwb] at j3
      clear ht hz hwb hus
      have sW := ((((s.front 3).setBoxAt 0 (.slice va t vc)).setBoxAt 1 (.int .i64 (z : Int))).setBoxAt 2 (.int .i64 (xs.length : Int))).setBoxAt 3 (.bool wb)
      have hdef2 := ((((KeepsOthers.setCell W ⟨n0, 0, none⟩ (.slice va t vc)).trans (KeepsOthers.setCell _ ⟨n0, 1, none⟩ (.int .i64 (z : Int)))).trans (KeepsOthers.setCell _ ⟨n0, 2, none⟩ (.int .i64 (xs.length : Int)))).trans (KeepsOthers.setCell _ ⟨n0, 3, none⟩ (.bool wb))).same D _ hdef rfl
      gi_wp2_with fail
      refine ⟨by simp, .inl ⟨_, _, rfl, run_takeDeferred hdef2, ?_⟩⟩
      have sE := HE.out _ _ sW hdef2
      refine ⟨_, results_row_one rfl _ _ n0 28 (flowW (.slice va t vc) z xs.length wb) (0, 0) _ rfl sE.box Tryz.underlying28 rfl size_flow, ?_⟩
      exact HF.out _ sE
    · have e : X = none := by
        rw [← HX.out]
        refine file_no ?_
        rw [hms, htt]
        exact hc
      subst e
      have sW := ((((s.front 3).setBoxAt 0 (.slice none 0 0)).setBoxAt 1 (.int .i64 0)).setBoxAt 2 (.int .i64 0)).setBoxAt 3 (.bool false)
      have hdef2 := ((((KeepsOthers.setCell W ⟨n0, 0, none⟩ (.slice none 0 0)).trans (KeepsOthers.setCell _ ⟨n0, 1, none⟩ (.int .i64 0))).trans (KeepsOthers.setCell _ ⟨n0, 2, none⟩ (.int .i64 0))).trans (KeepsOthers.setCell _ ⟨n0, 3, none⟩ (.bool false))).same D _ hdef rfl
      by_cases h0 : tt = 0
      · subst h0
        gi_wp2_with fail
        refine ⟨by simp, .inl ⟨_, _, rfl, run_takeDeferred hdef2, ?_⟩⟩
        have sE := HE.out _ _ sW hdef2
        refine ⟨_, results_row_one rfl _ _ n0 28 (flowW (.slice none 0 0) 0 0 false) (0, 0) _ rfl sE.box Tryz.underlying28 rfl size_flow, ?_⟩
        refine ⟨rfl, ?_⟩
        have hbE := sE.below (by omega)
        rw [← hn0] at hbE
        rw [← hn0]
        exact st.quiet hbE
      · have hz0 : ((tt : Int) == 0) = false := beq_eq_false_iff_ne.2 (by omega)
        have hz1 : ¬ (tt : Int) = 0 := by omega
        have hz2 : (tt : Int) < (xs.length : Int) := by omega
        gi_wp2_with fail
        refine ⟨by simp, .inl ⟨_, _, rfl, run_takeDeferred hdef2, ?_⟩⟩
        have sE := HE.out _ _ sW hdef2
        refine ⟨_, results_row_one rfl _ _ n0 28 (flowW (.slice none 0 0) 0 0 false) (0, 0) _ rfl sE.box Tryz.underlying28 rfl size_flow, ?_⟩
        refine ⟨rfl, ?_⟩
        have hbE := sE.below (by omega)
        rw [← hn0] at hbE
        rw [← hn0]
        exact st.quiet hbE

set_option maxRecDepth 100000 in
set_option maxHeartbeats 1000000 in
theorem gunzip_arg (st : St B w0 w r) (v : Value) (keep : Int) (hk : keep < 0) :
    Calls Tryz.prog 13 #[v, .int .i64 keep] w fun e w' => e = .returned (.tuple #[.agg (flowW (.slice none 0 0) 0 0 false), .int .i64 5]) ∧ St B w0 w' r := by
  have s3 := st.newBox (flowW (.slice none 0 0) 0 0 false) 28
  go_enter Tryz.func13, Tryz.ntmps13
  go_wp2
  refine bodyPost_ret (results_row_one rfl _ _ w.heap.size 28 (flowW (.slice none 0 0) 0 0 false) (0, 0) _ rfl s3.box Tryz.underlying28 rfl size_flow) rfl ?_
  exact ⟨rfl, s3.drop⟩

end
end Go.Proofs.YtpinfihmageeoaaGreat.Gu
