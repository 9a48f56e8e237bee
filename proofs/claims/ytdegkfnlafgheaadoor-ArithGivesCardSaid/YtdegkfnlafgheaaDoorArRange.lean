/- DERIVED. Plain mathematics of layer 10: all numbers that are reckoned have 64 bits, all names that are read are short, all errors are errors. -/
import Derived.Test.YtdegkfnlafgheaaDoorArLess
import Derived.Test.YtdegkfnlafgheaaDoorArLawA
namespace ArM
open PathM WdM
open Go.Proofs.YtdegkfnlafgheaaDoor.NumM
set_option linter.unusedVariables false

def In64 (n : Int) : Prop := -9223372036854775808 ≤ n ∧ n ≤ 9223372036854775807
def TokOk : Tok → Prop | .sg _ => True | .num _ n => In64 n | .nam t => t.length ≤ 8192
def TmOk : Tm → Prop
  | .const n => In64 n
  | .named t => t.length ≤ 8192
  | .led _ t => TmOk t
  | .pair _ l r => TmOk l ∧ TmOk r
  | .gift _ n t => n.length ≤ 8192 ∧ TmOk t
  | .choice a b c => TmOk a ∧ TmOk b ∧ TmOk c
def Toks (l : List Tok) : Prop := ∀ x ∈ l, TokOk x
theorem toks_tail {a : Tok} {l : List Tok} (h : Toks (a :: l)) : TokOk a ∧ Toks l := ⟨h a (List.mem_cons_self ..), fun x hx => h x (List.mem_cons_of_mem _ hx)⟩
/-- What is read of good tokens is good. -/
def Good (f : List Tok → Rr) : Prop := ∀ l t r, Toks l → f l = .ok (t, r) → TmOk t ∧ Toks r
theorem pairLoop_good {sub : List Tok → Rr} (h : Good sub) (tight : Nat) : ∀ (n : Nat) (t : Tm) (l : List Tok) (t2 : Tm) (r : List Tok), TmOk t → Toks l → pairLoop sub tight n t l = .ok (t2, r) → TmOk t2 ∧ Toks r
  | 0, t, l, t2, r, ht, hl, e => by simp only [pairLoop, Except.ok.injEq, Prod.mk.injEq] at e; rw [← e.1, ← e.2]; exact ⟨ht, hl⟩
  | n + 1, t, l, t2, r, ht, hl, e => by
    unfold pairLoop at e
    split at e
    · split at e
      · split at e
        · cases e
        · rename_i hs
          have h1 := h _ _ _ (toks_tail hl).2 hs
          exact pairLoop_good h tight n _ _ _ _ (show TmOk (.pair _ t _) from ⟨ht, h1.1⟩) h1.2 e
      · simp only [Except.ok.injEq, Prod.mk.injEq] at e; rw [← e.1, ← e.2]; exact ⟨ht, hl⟩
    · simp only [Except.ok.injEq, Prod.mk.injEq] at e; rw [← e.1, ← e.2]; exact ⟨ht, hl⟩
theorem pairsK_good {lead : List Tok → Rr} (h : Good lead) : ∀ k, Good (pairsK lead k)
  | 0 => h
  | k + 1 => by
    intro l t r hl e
    unfold pairsK at e
    split at e
    · cases e
    · rename_i hs
      have h1 := pairsK_good h k _ _ _ hl hs
      exact pairLoop_good (pairsK_good h k) _ _ _ _ _ _ h1.1 h1.2 e
def RdGood (d : Rd) : Prop := ∀ dp, Good (d.all dp) ∧ Good (d.cond dp) ∧ Good (d.lead dp)
theorem leadF_good {d : Rd} (h : RdGood d) (dp : Nat) : Good (leadF d dp) := by
  intro l t r hl e
  unfold leadF at e
  split at e
  · cases e
  · simp only [Except.ok.injEq, Prod.mk.injEq] at e; rw [← e.1, ← e.2]; exact toks_tail hl
  · simp only [Except.ok.injEq, Prod.mk.injEq] at e; rw [← e.1, ← e.2]; exact toks_tail hl
  · split at e
    · split at e
      · cases e
      · split at e
        · cases e
        · rename_i hs
          have h1 := (h _).2.2 _ _ _ (toks_tail hl).2 hs
          simp only [Except.ok.injEq, Prod.mk.injEq] at e
          rw [← e.1, ← e.2]; exact h1
    · split at e
      · split at e
        · cases e
        · split at e
          · cases e
          · rename_i hs
            have h1 := (h _).1 _ _ _ (toks_tail hl).2 hs
            split at e
            · split at e
              · simp only [Except.ok.injEq, Prod.mk.injEq] at e
                rw [← e.1, ← e.2]
                exact ⟨h1.1, (toks_tail h1.2).2⟩
              · cases e
            · cases e
      · cases e
theorem condF_good {d : Rd} (h : RdGood d) (dp : Nat) : Good (condF d dp) := by
  intro l t r hl e
  unfold condF at e
  split at e
  · cases e
  · rename_i hs
    have h0 := pairsK_good (leadF_good h dp) 10 _ _ _ hl hs
    split at e
    · split at e
      · split at e
        · cases e
        · rename_i hs2
          have h1 := (h _).1 _ _ _ (toks_tail h0.2).2 hs2
          split at e
          · split at e
            · split at e
              · cases e
              · rename_i hs3
                have h2 := (h _).2.1 _ _ _ (toks_tail h1.2).2 hs3
                simp only [Except.ok.injEq, Prod.mk.injEq] at e
                rw [← e.1, ← e.2]
                exact ⟨⟨h0.1, h1.1, h2.1⟩, h2.2⟩
            · cases e
          · cases e
      · simp only [Except.ok.injEq, Prod.mk.injEq] at e; rw [← e.1, ← e.2]; exact h0
    · simp only [Except.ok.injEq, Prod.mk.injEq] at e; rw [← e.1, ← e.2]; exact h0
theorem allF_good {d : Rd} (h : RdGood d) (dp : Nat) : Good (allF d dp) := by
  intro l t r hl e
  unfold allF at e
  split at e
  · split at e
    · split at e
      · cases e
      · rename_i hs
        have h1 := (h _).1 _ _ _ (toks_tail (toks_tail hl).2).2 hs
        simp only [Except.ok.injEq, Prod.mk.injEq] at e
        rw [← e.1, ← e.2]
        exact ⟨⟨(toks_tail hl).1, h1.1⟩, h1.2⟩
    · exact condF_good h dp _ _ _ hl e
  · exact condF_good h dp _ _ _ hl e
theorem rd_good : ∀ n, RdGood (rd n)
  | 0 => fun dp => ⟨(fun l t r _ e => nomatch e), (fun l t r _ e => nomatch e), (fun l t r _ e => nomatch e)⟩
  | n + 1 => fun dp => ⟨allF_good (rd_good n) dp, condF_good (rd_good n) dp, leadF_good (rd_good n) dp⟩
theorem read_good {l : List Tok} {t : Tm} (hl : Toks l) (h : readL l = .ok t) : TmOk t := by
  unfold readL at h
  split at h
  · cases h
  · rename_i hs
    split at h
    · simp only [Except.ok.injEq] at h
      rw [← h]
      exact ((rd_good _ 0).1 _ _ _ hl hs).1
    · cases h
theorem in_wrap (n : Int) : In64 (wrapL n) := wrapL_bd n
theorem in_truth (b : Bool) : In64 (truthL b) := by cases b <;> exact ⟨by decide, by decide⟩
theorem tmod_in {a b : Int} (ha : In64 a) (hb : b ≠ 0) : In64 (a.tmod b) := by
  obtain ⟨h0, h1⟩ := ha
  have key : ∀ x : Int, 0 ≤ x → x.tmod b ≤ x := by
    intro x hx
    have e := Int.natAbs_tmod x b
    have h2 := Int.tmod_nonneg b hx
    have h3 := Nat.mod_le x.natAbs b.natAbs
    omega
  rcases Int.le_total 0 a with h | h
  · have h2 := Int.tmod_nonneg b h
    have h3 := key a h
    exact ⟨by omega, by omega⟩
  · have h2 := Int.tmod_nonneg b (show 0 ≤ -a by omega)
    have h3 := key (-a) (by omega)
    rw [Int.neg_tmod] at h2 h3
    exact ⟨by omega, by omega⟩
theorem fdiv_in {a : Int} (k : Nat) (ha : In64 a) : In64 (a.fdiv (2 ^ k)) := by
  obtain ⟨h0, h1⟩ := ha
  obtain ⟨q, hq, hq1⟩ : ∃ q : Nat, (2 : Int) ^ k = (q : Int) ∧ 1 ≤ q := ⟨2 ^ k, by simp, Nat.one_le_two_pow⟩
  rw [hq, Int.fdiv_eq_ediv_of_nonneg _ (by omega)]
  have e := Int.mul_ediv_add_emod a q
  have e0 := Int.emod_nonneg a (show (q : Int) ≠ 0 by omega)
  have e1 := Int.emod_lt_of_pos a (show (0 : Int) < q by omega)
  generalize a / (q : Int) = d at *
  generalize a % (q : Int) = r at *
  refine ⟨?_, ?_⟩
  · rcases Int.le_total (-9223372036854775808) d with h | h
    · exact h
    · have h2 : (q : Int) * (d + 1) ≤ 1 * (d + 1) := by
        rcases Int.lt_or_le (d + 1) 1 with h3 | h3
        · exact Int.mul_le_mul_of_nonpos_right (by omega) (by omega)
        · omega
      rw [Int.mul_add] at h2
      omega
  · rcases Int.le_total d 9223372036854775807 with h | h
    · exact h
    · have h2 : 1 * d ≤ (q : Int) * d := Int.mul_le_mul_of_nonneg_right (by omega) (by omega)
      omega
theorem between_in {s : Bs} {a b n : Int} (ha : In64 a) (hb : In64 b) (h : betweenL s a b = .ok n) : In64 n := by
  unfold betweenL at h
  split at h
  · split at h
    · cases h
    · cases h; exact in_wrap _
  split at h
  · split at h
    · cases h
    · rename_i h0; cases h; exact tmod_in ha h0
  split at h
  · split at h
    · cases h
    · cases h; exact in_wrap _
  split at h
  · split at h
    · cases h
    · cases h; exact fdiv_in _ ha
  (repeat' split at h) <;> first | (cases h; exact in_wrap _) | (cases h; exact in_truth _)
theorem between_ne {s : Bs} {a b e : Int} (h : betweenL s a b = .error e) : e ≠ 0 := by
  unfold betweenL at h
  (repeat' split at h) <;> first | (cases h; decide) | cases h
theorem of_in {s : Bs} {n : Int} (hn : In64 n) : In64 (ofL s n) := by
  unfold ofL
  (repeat' split) <;> first | exact in_wrap _ | exact in_truth _ | exact hn
theorem dec_in (l : List UInt8) : In64 (decN l) := by
  unfold decN
  split
  · have := readN_le 10 P63 l.tail
    unfold P63 at *
    exact ⟨by omega, by omega⟩
  split
  · have := readN_le 10 M63 l.tail
    unfold M63 at *
    exact ⟨by omega, by omega⟩
  · have := readN_le 10 M63 l
    unfold M63 at *
    exact ⟨by omega, by omega⟩
theorem con_in (l : List UInt8) : In64 (conN l : Nat) := by
  have h : conN l ≤ M63 := by
    unfold conN
    (repeat' split) <;> exact readN_le _ _ _
  unfold M63 at h
  exact ⟨by omega, by omega⟩
theorem number_in {v : Vs} {t : Bs} {n : Int} (h : numberL v t = .ok n) : In64 n := by
  unfold numberL at h
  split at h
  · cases h; exact ⟨by decide, by decide⟩
  · split at h
    · cases h; exact ⟨by decide, by decide⟩
    · split at h
      · cases h; exact dec_in _
      · split at h
        · cases h; exact con_in _
        · cases h
theorem number_ne {v : Vs} {t : Bs} {e : Int} (h : numberL v t = .error e) : e ≠ 0 := by
  unfold numberL at h
  split at h
  · cases h
  · split at h
    · cases h
    · split at h
      · cases h
      · split at h
        · cases h
        · rename_i hc; cases h; omega
theorem give_ne {v : Vs} {t : Bs} {n e : Int} (h : giveL v t n = .error e) : e ≠ 0 := by
  unfold giveL at h
  split at h
  · cases h; decide
  · cases h
theorem reckon_in : ∀ (t : Tm) (v : Vs) (n : Int) (v' : Vs), TmOk t → reckonL t v = .ok (n, v') → In64 n
  | .const k, v, n, v', ht, h => by
    rw [reckonL] at h; cases h; exact ht
  | .named t, v, n, v', ht, h => by
    rw [reckonL] at h
    split at h
    · cases h
    · rename_i hn; cases h; exact number_in hn
  | .led s t, v, n, v', ht, h => by
    rw [reckonL] at h
    split at h
    · cases h
    · rename_i hn; cases h; exact of_in (reckon_in t _ _ _ ht hn)
  | .pair s l r, v, n, v', ht, h => by
    rw [reckonL] at h
    split at h
    · cases h
    · rename_i hl
      split at h
      · cases h; exact in_truth _
      · split at h
        · cases h
        · rename_i hr
          split at h
          · cases h
          · rename_i hb; cases h; exact between_in (reckon_in l _ _ _ ht.1 hl) (reckon_in r _ _ _ ht.2 hr) hb
  | .gift b nm t, v, n, v', ht, h => by
    rw [reckonL] at h
    split at h
    · cases h
    · rename_i a v2 hn
      have ha := reckon_in t _ _ _ ht.2 hn
      dsimp only at h
      split at h
      · cases h
      · rename_i k hk
        have hk2 : In64 k := by
          split at hk
          · cases hk; exact ha
          · split at hk
            · cases hk
            · rename_i ho; exact between_in (number_in ho) ha hk
        split at h
        · cases h
        · cases h; exact hk2
  | .choice a b c, v, n, v', ht, h => by
    rw [reckonL] at h
    split at h
    · cases h
    · split at h
      · exact reckon_in b _ _ _ ht.2.1 h
      · exact reckon_in c _ _ _ ht.2.2 h
end ArM
