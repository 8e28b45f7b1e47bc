/-
  Facts for InflateLaid: how long what is laid is; tokens joined; the whole stream. No conditions but that rows are small.
-/
import Derived.Test.YtpcbhmkalofkmaaGreatInfW
import Derived.Test.YtpcbhmkalofkmaaGreatGO
import Derived.Test.YtpcbhmkalofkmaaGreatGR
import Derived.Test.YtpcbhmkalofkmaaGreatGL
import Derived.Test.YtpcbhmkalofkmaaGreatTokB
namespace Go.Proofs.YtpcbhmkalofkmaaGreat.Inf
open Go.RowKit Kraft Hd Limit

/-- 'append(s, t...)', s a row of tokens of the call's own. -/
theorem wpList_append_toks {ops : Array Oper} {rest : List Oper} {o : Oper} {a : Act} {Q : Exit → Act → World → Prop} (hw : Region.wanted o (yielded ops a.tmps) = true) (s x : Operand)
    (ho : o.op = .call { callee := .builtin .append, args := #[s, x], argTypes := #[31, 31] })
    {B : Nat} {w0 w2 : World} {r : List Thing} {v u : Value} {l m : List Tok.Tk} (st : St B w0 w2 (Tok.tokT v l :: r)) (h : Tok.TokRow w2 u m) (hs : a.eval s = v) (hx : a.eval x = u) (hl : l.length + m.length ≤ 1000000)
    (K : ∀ v' w', St B w0 w' (Tok.tokT v' (l ++ m) :: r) → wpList Tryz.prog ops Q rest (a.put o.dst v') w') : wpList Tryz.prog ops Q (o :: rest) a w2 := by
  obtain ⟨i0, hi, hz0, hz1, hz2⟩ := info_parts Tok.infoTok
  have hr := h.reads
  obtain ⟨ad, cap, rfl, hc, hmx, hn, hat⟩ := h
  obtain ⟨hr1, hr2⟩ := hr ad m.length cap rfl
  refine wpList_append_mineW _ hw s x 31 ho 33 i0 (.agg #[.int .i64 0, .int .i64 0, .int .u8 0]) 3 24 Tryz.underlying31 hi hz0 hz1 hz2 rfl (by decide) v l.length (Tok.tks l) hs st.row ad m.length cap (Tok.tks m) hx hr1 (Tok.tks_length m) hr2 (Tok.tks_one m) (by unfold maxLen; omega) (by omega) ?_
  intro v' w' g1 g2 g3
  refine K v' w' ?_
  have h9 := st.grown g1 g2 g3
  unfold Tok.tokT
  rw [Tok.tks_append, List.length_append]
  exact h9

theorem reads_of {L : List Nat} (h : wordsErr L = 0) : Reads L := ⟨len_le_of (wordsErr_ok h).1, (wordsErr_ok h).2⟩

/-- A byte's token. -/
def tb (x : Nat) : Tok.Tk := (0, 0, x)
theorem tb_B (xs : List Nat) : ∀ t ∈ xs.map tb, Tok.isB t = true := fun t h => by
  obtain ⟨x, _, rfl⟩ := List.mem_map.1 h
  rfl
theorem tb_bytes (xs : List Nat) : (xs.map tb).map (fun t => t.2.2) = xs := by rw [List.map_map]; simp [Function.comp_def, tb]

theorem say_long : ∀ (l : List Tok.Tk) (out o : List Nat), (∀ t ∈ l, Tok.may t = true) → Tok.say out l = some o → o.length ≤ out.length + 258 * l.length
  | [], out, o, _, h => by
    obtain rfl := Option.some.inj h
    simp
  | t :: l, out, o, hm, h => by
    rw [Tok.say] at h
    cases hb : Tok.isB t with
    | true =>
      rw [if_pos hb] at h
      have := say_long l _ o (fun s hs => hm s (List.mem_cons_of_mem _ hs)) h
      simp only [List.length_append, List.length_cons, List.length_nil] at this ⊢
      omega
    | false =>
      rw [hb] at h
      simp only [Bool.false_eq_true, if_false] at h
      split at h
      · cases h
      · have := say_long l _ o (fun s hs => hm s (List.mem_cons_of_mem _ hs)) h
        obtain ⟨_, h1, h2, _⟩ := Tok.may_rep (hm t List.mem_cons_self) hb
        rw [Tok.rep_length] at this
        rw [List.length_cons]
        omega

theorem tokBits_le {P Q : List Nat} (hP : Reads P) (hQ : Reads Q) (t : Tok.Tk) (hm : Tok.may t = true) : (tokBits P Q t).length ≤ 58 := by
  unfold tokBits
  cases hb : Tok.isB t with
  | true =>
    rw [if_pos rfl]
    have := bitsAt_le hP (t.2.2 : Int)
    omega
  | false =>
    simp only [Bool.false_eq_true, if_false]
    obtain ⟨_, l1, l2, d1, d2⟩ := Tok.may_rep hm hb
    obtain ⟨n, hn⟩ : ∃ n : Nat, t.1 = (n : Int) := ⟨t.1.toNat, by omega⟩
    obtain ⟨f, hf⟩ : ∃ f : Nat, t.2.1 = (f : Int) := ⟨t.2.1.toNat, by omega⟩
    obtain ⟨i, hi, e1, _⟩ := len_says n (by omega) (by omega)
    obtain ⟨j, hj, g1, _⟩ := dis_says f (by omega) (by omega)
    rw [hn, hf, e1, g1]
    simp only [List.length_append, bitsOf_length]
    have a1 := bitsAt_le hP ((257 + i : Nat) : Int)
    have a2 := bitsAt_le hQ (j : Int)
    have a3 := lenB_le (257 + i) (by omega) (by omega)
    have a4 := disB_le j hj
    omega

theorem laid_le {P Q : List Nat} (hP : Reads P) (hQ : Reads Q) (l : List Tok.Tk) (hm : ∀ t ∈ l, Tok.may t = true) : (laidBits P Q l).length ≤ 58 * l.length + 20 := by
  have key : (l.flatMap (tokBits P Q)).length ≤ 58 * l.length := by
    induction l with
    | nil => simp
    | cons t l ih =>
      have h1 := ih (fun s hs => hm s (List.mem_cons_of_mem _ hs))
      have h2 := tokBits_le hP hQ t (hm t List.mem_cons_self)
      simp only [List.flatMap_cons, List.length_append, List.length_cons]
      omega
  have := bitsAt_le hP 256
  unfold laidBits
  rw [List.length_append]
  omega

/-- The best lengths of these tokens. -/
def bestP (l : List Tok.Tk) : List Nat := lengths (litTo l) (rare (litTo l)) 15
def bestQ (l : List Tok.Tk) : List Nat := lengths (disTo l) (rare (disTo l)) 15

theorem bestP_choice (l : List Tok.Tk) : Choice (litTo l) 15 (bestP l) := lengths_choice (rare_is _) (by omega) (by
  rw [rare_len]
  have := pos_small (litTo l)
  rw [litTo_length] at this
  omega)
theorem bestQ_choice (l : List Tok.Tk) : Choice (disTo l) 15 (bestQ l) := lengths_choice (rare_is _) (by omega) (by
  rw [rare_len]
  have := pos_small (disTo l)
  rw [disTo_length] at this
  omega)
theorem best_may (l : List Tok.Tk) : mayH (bestP l) (bestQ l) = true :=
  choice_may (bestP_choice l) (bestQ_choice l) (by rw [litTo_length]; omega) (by rw [litTo_length]; omega) (litTo_end l) (by rw [disTo_length]; omega) (by rw [disTo_length]; omega)
theorem bestP_length (l : List Tok.Tk) : (bestP l).length = 286 := by rw [(bestP_choice l).length, litTo_length]
theorem bestQ_length (l : List Tok.Tk) : (bestQ l).length = 30 := by rw [(bestQ_choice l).length, disTo_length]
theorem best_byte (l : List Tok.Tk) : (∀ x ∈ bestP l, x < 256) ∧ ∀ x ∈ bestQ l, x < 256 := by
  constructor
  · intro x hx
    obtain ⟨i, hi, rfl⟩ := List.getElem_of_mem hx
    have := (bestP_choice l).limit i (by rw [← (bestP_choice l).length]; exact hi)
    rw [nth_lt hi] at this
    omega
  · intro x hx
    obtain ⟨i, hi, rfl⟩ := List.getElem_of_mem hx
    have := (bestQ_choice l).limit i (by rw [← (bestQ_choice l).length]; exact hi)
    rw [nth_lt hi] at this
    omega

/-- All bits that are laid. -/
def stoB (b : List Nat) : List Bool := bitsOf 0 3 ++ bitsOf 0 5 ++ bitsOf b.length 16 ++ bitsOf (65535 - b.length) 16 ++ b.flatMap fun x => bitsOf x 8
def fixB (l : List Tok.Tk) : List Bool := bitsOf 2 3 ++ laidBits fixP fixQ l
def dynB (l : List Tok.Tk) : List Bool := bitsOf 5 3 ++ hbits (bestP l) (bestQ l) ++ laidBits (bestP l) (bestQ l) l
def allB (b : List Nat) (l : List Tok.Tk) : List Bool := stoB b ++ fixB l ++ dynB l

theorem flat8 (b : List Nat) : (b.flatMap fun x => bitsOf x 8).length = 8 * b.length := by
  induction b with
  | nil => rfl
  | cons x b ih => simp only [List.flatMap_cons, List.length_append, bitsOf_length, List.length_cons, ih]; omega

theorem allB_le (b : List Nat) (l : List Tok.Tk) (hm : ∀ t ∈ l, Tok.may t = true) : (allB b l).length ≤ 8 * b.length + 116 * l.length + 5000 := by
  have h1 := laid_le (reads_of fix_fits.1) (reads_of fix_fits.2) l hm
  have hf := mayH_fits (best_may l)
  have h2 := laid_le (reads_of hf.1) (reads_of hf.2) l hm
  have h3 := hbits_small (best_may l)
  rw [bestP_length, bestQ_length] at h3
  have h4 := flat8 b
  unfold allB stoB fixB dynB
  simp only [List.length_append, bitsOf_length, h4]
  omega

theorem infl_laid (b : List Nat) (hb : ∀ x ∈ b, x < 256) (hn : b.length ≤ 65535) (l : List Tok.Tk) (ht : ∀ t ∈ l, Tok.may t = true ∧ t.2.2 < 256) {o : List Nat} (h : Tok.say [] (b.map tb ++ l ++ l) = some o) (ys : List Nat) :
    infl (pk (allB b l) ++ ys) = some ((allB b l).length, o) := by
  obtain ⟨C, hC⟩ := row_pk_more (allB b l) ys
  rw [List.append_assoc, Tok.say_append, say_bytes b [] (b.map tb) (tb_B b) (tb_bytes b)] at h
  simp only [Option.bind_some, List.nil_append] at h
  rw [Tok.say_append] at h
  cases h1 : Tok.say b l with
  | none => rw [h1] at h; cases h
  | some o1 =>
    rw [h1] at h
    simp only [Option.bind_some] at h
    have hf := mayH_fits (best_may l)
    have hh := best_has (bestP_choice l) (bestQ_choice l)
    unfold infl
    rw [hC]
    exact strm_laid b hb hn l ht h1 h (hbits (bestP l) (bestQ l)) (fun A C => hbits_at (best_may l) A C) (reads_of hf.1) (reads_of hf.2) hh.1 (fun t h => hh.2 t h (ht t h).1 (ht t h).2) C (stoB b) (fixB l) (dynB l) rfl rfl rfl

end Go.Proofs.YtpcbhmkalofkmaaGreat.Inf
