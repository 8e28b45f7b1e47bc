/-
  Plain facts for layer 13, besides: what a round makes of ranks that lie in rows. No conditions.
-/
import Derived.Test.YtjchchinmggldaaSufD
namespace Go.Proofs.Ytjchchinmggldaa.Suf
open Go.RowKit

theorem range_whole (n : Nat) : Whole n (fun p q => p < q) (List.range n) := ⟨List.length_range, fun _ hx => List.mem_range.1 hx, List.pairwise_lt_range⟩

theorem Whole.imp {n : Nat} {R S : Nat → Nat → Prop} {O : List Nat} (h : Whole n R O) (f : ∀ p q, p < n → q < n → R p q → S p q) : Whole n S O :=
  ⟨h.len, h.mem, List.Pairwise.imp_of_mem (fun {p q} hp hq h' => f p q (h.mem p hp) (h.mem q hq) h') h.ord⟩

/-- The first bytes, as ranks. -/
def firsts (b : List Nat) : List Nat := tab b.length fun i => 1 + nth b i
theorem firsts_length (b : List Nat) : (firsts b).length = b.length := tab_length ..
theorem firsts_at (b : List Nat) (p : Nat) (h : p < b.length) : nth (firsts b) p = 1 + b[p] := by
  rw [nth_lt (by rw [firsts_length]; exact h)]
  unfold firsts
  rw [tab_get, nth_lt h]

theorem first_round {rot : Bool} {b R : List Nat} {O : List Nat} (hO : O = bucket (List.range b.length) (nth (firsts b)) 256) (hb : ∀ x ∈ b, x < 256) (hR : Ranks O (pairs O (nth (firsts b)) fun _ => 0) O.length R) :
    Rk rot b 1 (kd (pairs O (nth (firsts b)) fun _ => 0) b.length) (nth R) ∧ Whole b.length (By rot b 1) O := by
  have hw := bucket_whole (m := 256) (nth (firsts b)) (range_whole b.length) (fun p hp => by
    have hp' := List.mem_range.1 hp
    rw [firsts_at b p hp']
    have := hb _ (List.getElem_mem hp')
    omega)
  rw [← hO] at hw
  have hlen := hw.len
  rw [hlen] at hR
  refine rk_of (a := nth (firsts b)) (c := fun _ => 0) (hw.imp fun p q _ _ h => ?_) (fun p hp => by rw [firsts_at b p hp]; omega) (fun i h => ?_) (fun i h => ?_) (by have := hR.2.2; rwa [hlen] at this) (fun p q hp hq => ?_)
  · rcases h with h | ⟨h, h'⟩
    · exact .inl h
    · exact .inr ⟨h, .inr ⟨rfl, h'⟩⟩
  · simp only [pairs]; rw [nth_lt h]
  · have := hR.2.1 i (by omega)
    rwa [nth_lt h] at this
  · rw [less_one rot b p q hp hq, firsts_at b p hp, firsts_at b q hq]; omega

theorem next_round {rot : Bool} {b Y R : List Nat} {O : List Nat} {d K : Nat} {f : Nat → Nat} (h : Rk rot b d K f) (hd : 1 ≤ d) (hY : ∀ i, i < b.length → nth Y i = f (beh rot b.length i d))
    (hO : O = bucket (bucket (List.range b.length) (nth Y) K) f K) (hR : Ranks O (pairs O f (nth Y)) O.length R) :
    Rk rot b (d + d) (kd (pairs O f (nth Y)) b.length) (nth R) ∧ Whole b.length (By rot b (d + d)) O := by
  have hYK : ∀ p, p < b.length → nth Y p ≤ K := fun p hp => by
    rw [hY p hp]
    have h1 := beh_le rot b.length p d hp
    by_cases e : beh rot b.length p d = b.length
    · rw [e, h.last]; omega
    · exact (h.within _ (by omega)).2
  have hw1 := bucket_whole (m := K) (nth Y) (range_whole b.length) (fun p hp => hYK p (List.mem_range.1 hp))
  have hw := bucket_whole (m := K) f hw1 (fun p hp => (h.within p (hw1.mem p hp)).2)
  rw [← hO] at hw
  have hlen := hw.len
  rw [hlen] at hR
  refine rk_of (a := f) (c := nth Y) hw (fun p hp => (h.within p hp).1) (fun i h => ?_) (fun i h => ?_) (by have := hR.2.2; rwa [hlen] at this) (fun p q hp hq => ?_)
  · simp only [pairs]; rw [nth_lt h]
  · have := hR.2.1 i (by omega)
    rwa [nth_lt h] at this
  · rw [less_twice h hd p q hp hq, hY p hp, hY q hq]

theorem done_far {rot : Bool} {b : List Nat} {d : Nat} {O : List Nat} (h : Whole b.length (By rot b d) O) (hd : b.length ≤ d) : Whole b.length (Ahead rot b) O :=
  order_done h fun p q hp hq e => like_all rot b p q d hp hq hd e _

theorem done_full {rot : Bool} {b : List Nat} {d K : Nat} {f : Nat → Nat} {O : List Nat} (hr : Rk rot b d K f) (hd : 1 ≤ d) (h : Whole b.length (By rot b d) O) (hK : b.length ≤ K) : Whole b.length (Ahead rot b) O :=
  order_done h fun p q hp hq e => by
    have := hr.full hK p q hp hq ((hr.like' hd p q (by omega) (by omega)).2 e)
    subst this
    exact Like.rfl

theorem done_same {rot : Bool} {b : List Nat} {d K : Nat} {f g : Nat → Nat} {O : List Nat} (hr : Rk rot b d K f) (hr2 : Rk rot b (d + d) K g) (hd : 1 ≤ d) (h : Whole b.length (By rot b (d + d)) O) : Whole b.length (Ahead rot b) O :=
  order_done h fun p q hp hq e => like_ever hd (fun p q hp hq e => by
    have h1 := (hr.like' hd p q (by omega) (by omega)).2 e
    rw [same_kinds hr hr2 h p hp, same_kinds hr hr2 h q hq] at h1
    exact (hr2.like' (by omega) p q (by omega) (by omega)).1 h1) _ p q (by omega) (by omega) (e.mono (by omega))

theorem numsRow {B : Nat} {w0 w : World} {e : TypeId} {g n : Nat} {xs : List Nat} {r : List Thing} (h : St B w0 w (numsT e g n xs :: r)) (hl : xs.length = n) : NumRow w (.slice (some ⟨g, 0, none⟩) n n) xs := by
  subst hl
  exact h.numRow

end Go.Proofs.Ytjchchinmggldaa.Suf
