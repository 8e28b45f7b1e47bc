/-
  Every Gunzip answers as the document says: the walk of GunzipReads. No conditions.
-/
import Derived.Test.YtpinfihmageeoaaGreatGzV
import Derived.Test.YtpinfihmageeoaaGreatGzJ
import Derived.Test.YtpinfihmageeoaaGreatGzK
namespace Go.Proofs.YtpinfihmageeoaaGreat.gunzipReads
open Go.RowKit Kraft Hd Inf Fr Gu

theorem int_of {mo : Int} (hmo : (Lit.int .i64 mo).wf = true) : -9223372036854775808 ≤ mo ∧ mo ≤ 9223372036854775807 := by
  simp only [Lit.wf, Bool.and_eq_true, decide_eq_true_eq] at hmo
  have e1 : IntKind.i64.min = -9223372036854775808 := rfl
  have e2 : IntKind.i64.max = 9223372036854775807 := rfl
  rw [e1, e2] at hmo
  exact hmo

section
variable {B : Nat} {w0 w : World} {r : List Thing}

set_option maxRecDepth 100000 in
set_option maxHeartbeats 1000000 in
theorem refGunzip_arg (st : St B w0 w r) (v : Value) (keep : Int) (hk : keep < 0) :
    Calls Tryz.prog 14 #[v, .int .i64 keep] w fun e w' => e = .returned (.tuple #[.agg (flowW (.slice none 0 0) 0 0 false), .int .i64 5]) ∧ St B w0 w' r := by
  have s3 := st.newBox (flowW (.slice none 0 0) 0 0 false) 28
  obtain ⟨n, hn⟩ : ∃ n, w.heap.size = n := ⟨_, rfl⟩
  rw [hn] at s3
  go_enter Tryz.func14, Tryz.ntmps14
  go_wp2
  refine bodyPost_ret (results_row_one rfl _ _ n 28 (flowW (.slice none 0 0) 0 0 false) (0, 0) _ rfl s3.box Tryz.underlying28 rfl size_flow) rfl ?_
  exact ⟨rfl, s3.drop⟩

end

set_option maxRecDepth 100000 in
set_option maxHeartbeats 4000000 in
theorem walk (w : World) (v0 : Value) (xs : List Nat) (h0 : ByteRow w v0 xs) (kp : Int) (hkp : (Lit.int .i64 kp).wf = true) :
    Calls Tryz.prog 4 #[v0, .int .i64 kp] w fun e w' => e = .returned (.bool true) ∧ Below w.heap.size w w' := by
  have hB := Nat.le_refl w.heap.size
  have HIN := fun W (hb : Below w.heap.size w W) => h0.below hb hB
  have hxb := h0.byte
  have hki := int_of hkp
  obtain ⟨a0, cap0, rfl, hc0, hn0, -⟩ := h0
  clear hkp
  by_cases c0 : 400 < xs.length
  · go_enter Tryz.func4, Tryz.ntmps4
    go_wp2
    go_ret
    exact ⟨rfl, Below.refl _ _⟩
  by_cases c1 : 3000 < kp
  · go_enter Tryz.func4, Tryz.ntmps4
    go_wp2
    go_ret
    exact ⟨rfl, Below.refl _ _⟩
  have HIN := Lib.hid HIN
  have c1' : kp ≤ 3000 := by omega
  clear c1
  go_enter Tryz.func4, Tryz.ntmps4
  have hcp := HIN.out w (Below.refl _ _)
  go_wp2_with (at_builtin; refine wpList_copyW rfl _ _ rfl (St.start w) hcp rfl rfl (by omega) ?_)
  intro v1 w1 s1
  obtain ⟨a1, c1, hv1⟩ := ownsRow_slice s1.row
  subst hv1
  clear hcp
  by_cases hneg : kp < 0
  · have hi1 := gunzip_arg s1 (.slice a1 xs.length c1) kp hneg
    go_wp2_with fail
    refine hi1.mono ?_
    rintro e w2 ⟨rfl, s2⟩
    have s3 := s2.newBox #[.slice none 0 0, .int .i64 0, .int .i64 0, .bool false] 28
    have hi2 := refGunzip_arg s3 (.slice a0 xs.length cap0) kp hneg
    clear hi1 s1 s2
    go_wp2_with fail
    refine hi2.mono ?_
    rintro e w3 ⟨rfl, s4⟩
    have s5 := s4.newBox #[.slice none 0 0, .int .i64 0, .int .i64 0, .bool false] 28
    clear hi2 s3 s4
    have p0 : (w3.alloc (.cells #[.slice none 0 0, .int .i64 0, .int .i64 0, .bool false] 28)).cell? ⟨w2.heap.size, 0, none⟩ = some (.slice none 0 0) := (St.boxAt (s5.front 1) 0).1
    have p1 : (w3.alloc (.cells #[.slice none 0 0, .int .i64 0, .int .i64 0, .bool false] 28)).cell? ⟨w2.heap.size, 1, none⟩ = some (.int .i64 0) := (St.boxAt (s5.front 1) 1).1
    have p2 : (w3.alloc (.cells #[.slice none 0 0, .int .i64 0, .int .i64 0, .bool false] 28)).cell? ⟨w2.heap.size, 2, none⟩ = some (.int .i64 0) := (St.boxAt (s5.front 1) 2).1
    have p3 : (w3.alloc (.cells #[.slice none 0 0, .int .i64 0, .int .i64 0, .bool false] 28)).cell? ⟨w2.heap.size, 3, none⟩ = some (.bool false) := (St.boxAt (s5.front 1) 3).1
    have hsm := same_eq (w3.alloc (.cells #[.slice none 0 0, .int .i64 0, .int .i64 0, .bool false] 28)) (.slice none 0 0) (.slice none 0 0) [] 0 0 false (byteRow_none _) (byteRow_none _)
    go_wp2_with fail
    refine hsm.mono ?_
    rintro e w6 ⟨rfl, hb6⟩
    have s6 := s5.quiet hb6
    have t1 := run_string _ _ _ (Reads.of_owns (St.row (s6.front 2)))
    have t2 := run_string _ _ _ (HIN.out _ (s6.below hB)).reads
    have hbel := s6.below hB
    clear s5 s6 hsm HIN
    go_wp2_with (go_at_call 16; refine (opens_any _).mono ?_; rintro e w7 ⟨rfl, hb7⟩)
    go_ret
    exact ⟨rfl, hbel.trans (hb7.mono hbel.size)⟩
  · obtain ⟨k, rfl⟩ : ∃ k : Nat, kp = (k : Int) := ⟨kp.toNat, by omega⟩
    have hk3 : k ≤ 3000 := by omega
    have hi1 := gunzip_st s1 (.slice a1 xs.length c1) xs (s1.bytesRow hxb) (by omega) k (by omega)
    have hi2 := fun W r (s : St w.heap.size w W r) => refGunzip_st s (.slice a0 xs.length cap0) xs (fun W s => HIN.out W (s.below hB)) (by omega) k hk3
    have hmb : ∀ ms, file xs = some ms → ∀ x ∈ (outs ms).take k, x < 256 := fun ms h x hx => outs_byte xs x (by rw [(file_of h).1]; exact List.mem_of_mem_take hx)
    unfold GzSt at hi1 hi2
    cases hx : file xs with
    | none =>
      simp only [hx] at hi1 hi2
      go_wp2_with fail
      refine hi1.mono ?_
      rintro e w2 ⟨rfl, s2⟩
      have s3 := s2.newBox #[.slice none 0 0, .int .i64 0, .int .i64 0, .bool false] 28
      have hi2 := hi2 _ _ s3
      clear hi1 s1 s2 hmb
      go_wp2_with fail
      refine hi2.mono ?_
      rintro e w3 ⟨rfl, s4⟩
      have s5 := s4.newBox #[.slice none 0 0, .int .i64 0, .int .i64 0, .bool false] 28
      clear hi2 s3 s4
      have p0 : (w3.alloc (.cells #[.slice none 0 0, .int .i64 0, .int .i64 0, .bool false] 28)).cell? ⟨w2.heap.size, 0, none⟩ = some (.slice none 0 0) := (St.boxAt (s5.front 1) 0).1
      have p1 : (w3.alloc (.cells #[.slice none 0 0, .int .i64 0, .int .i64 0, .bool false] 28)).cell? ⟨w2.heap.size, 1, none⟩ = some (.int .i64 0) := (St.boxAt (s5.front 1) 1).1
      have p2 : (w3.alloc (.cells #[.slice none 0 0, .int .i64 0, .int .i64 0, .bool false] 28)).cell? ⟨w2.heap.size, 2, none⟩ = some (.int .i64 0) := (St.boxAt (s5.front 1) 2).1
      have p3 : (w3.alloc (.cells #[.slice none 0 0, .int .i64 0, .int .i64 0, .bool false] 28)).cell? ⟨w2.heap.size, 3, none⟩ = some (.bool false) := (St.boxAt (s5.front 1) 3).1
      have hsm := same_eq (w3.alloc (.cells #[.slice none 0 0, .int .i64 0, .int .i64 0, .bool false] 28)) (.slice none 0 0) (.slice none 0 0) [] 0 0 false (byteRow_none _) (byteRow_none _)
      go_wp2_with fail
      refine hsm.mono ?_
      rintro e w6 ⟨rfl, hb6⟩
      have s6 := s5.quiet hb6
      have t1 := run_string _ _ _ (Reads.of_owns (St.row (s6.front 2)))
      have t2 := run_string _ _ _ (HIN.out _ (s6.below hB)).reads
      have hbel := s6.below hB
      clear s5 s6 hsm HIN
      go_wp2_with (go_at_call 16; refine (opens_any _).mono ?_; rintro e w7 ⟨rfl, hb7⟩)
      go_ret
      exact ⟨rfl, hbel.trans (hb7.mono hbel.size)⟩
    | some ms =>
      simp only [hx] at hi1 hi2
      have hob := hmb ms hx
      obtain ⟨ok, hok⟩ : ∃ ok, (outs ms).take k = ok := ⟨_, rfl⟩
      obtain ⟨m, hm⟩ : ∃ m, ok.length = m := ⟨_, rfl⟩
      obtain ⟨z, hz⟩ : ∃ z, (outs ms).length = z := ⟨_, rfl⟩
      obtain ⟨wr, hwr⟩ : ∃ b, wrongs k ms = b := ⟨_, rfl⟩
      rw [hok] at hob
      simp only [hok, hm, hz, hwr] at hi1 hi2
      have HM := Lib.hid hm
      clear hok hm hz hwr hx hmb
      go_wp2_with fail
      refine hi1.mono ?_
      rintro e w2 ⟨oa, oc, rfl, s2⟩
      have s3 := s2.newBox #[.slice oa m oc, .int .i64 (z : Int), .int .i64 (xs.length : Int), .bool wr] 28
      have hi2 := hi2 _ _ s3
      clear hi1 s1 s2
      go_wp2_with fail
      refine hi2.mono ?_
      rintro e w3 ⟨ob, od, rfl, s4⟩
      have s5 := s4.newBox #[.slice ob m od, .int .i64 (z : Int), .int .i64 (xs.length : Int), .bool wr] 28
      clear hi2 s3 s4
      have p0 : (w3.alloc (.cells #[.slice ob m od, .int .i64 (z : Int), .int .i64 (xs.length : Int), .bool wr] 28)).cell? ⟨w2.heap.size, 0, none⟩ = some (.slice oa m oc) := (St.boxAt (s5.front 2) 0).1
      have p1 : (w3.alloc (.cells #[.slice ob m od, .int .i64 (z : Int), .int .i64 (xs.length : Int), .bool wr] 28)).cell? ⟨w2.heap.size, 1, none⟩ = some (.int .i64 (z : Int)) := (St.boxAt (s5.front 2) 1).1
      have p2 : (w3.alloc (.cells #[.slice ob m od, .int .i64 (z : Int), .int .i64 (xs.length : Int), .bool wr] 28)).cell? ⟨w2.heap.size, 2, none⟩ = some (.int .i64 (xs.length : Int)) := (St.boxAt (s5.front 2) 2).1
      have p3 : (w3.alloc (.cells #[.slice ob m od, .int .i64 (z : Int), .int .i64 (xs.length : Int), .bool wr] 28)).cell? ⟨w2.heap.size, 3, none⟩ = some (.bool wr) := (St.boxAt (s5.front 2) 3).1
      have hr1 := St.bytesRow (xs := ok) (v := .slice oa m oc) (by rw [HM.out]; exact s5.front 3) hob
      have hr2 := St.bytesRow (xs := ok) (v := .slice ob m od) (by rw [HM.out]; exact s5.front 1) hob
      have hsm := same_eq (w3.alloc (.cells #[.slice ob m od, .int .i64 (z : Int), .int .i64 (xs.length : Int), .bool wr] 28)) (.slice oa m oc) (.slice ob m od) ok z xs.length wr hr1 hr2
      go_wp2_with fail
      refine hsm.mono ?_
      rintro e w6 ⟨rfl, hb6⟩
      have s6 := s5.quiet hb6
      have t1 := run_string _ _ _ (Reads.of_owns (St.row (s6.front 4)))
      have t2 := run_string _ _ _ (HIN.out _ (s6.below hB)).reads
      have hbel := s6.below hB
      clear s5 s6 hsm HIN
      go_wp2_with (go_at_call 16; refine (opens_any _).mono ?_; rintro e w7 ⟨rfl, hb7⟩)
      go_ret
      exact ⟨rfl, hbel.trans (hb7.mono hbel.size)⟩

end Go.Proofs.YtpinfihmageeoaaGreat.gunzipReads
