/- DERIVED. Plain mathematics: strings.ReplaceAll of a ' is how a text is quoted. -/
import Derived.Test.YtkbhjjmgacahdaaDoorWdWrite
import Derived.Lib.Replace
import Derived.Lib.SplitLaws
import Derived.Lib.IndexBytes
namespace WdM
open PathM Go
set_option linter.unusedVariables false

theorem index_head (l : Bs) : Lib.index (39 :: l) [39] = ((0 : Nat) : Int) := by
  unfold Lib.index
  rw [if_pos (by simp)]
  rfl
theorem index_tail (b : UInt8) (l : Bs) (i : Nat) (hb : ¬ b = 39) (h : Lib.index l [39] = (i : Int)) : Lib.index (b :: l) [39] = ((i + 1 : Nat) : Int) := by
  unfold Lib.index
  have h0 : ([39] : Bs).isPrefixOf (b :: l) = false := by
    have : ((39 : UInt8) == b) = false := beq_eq_false_iff_ne.2 (fun e => hb e.symm)
    simp only [List.isPrefixOf, this, Bool.false_and]
  rw [h0, h]
  have h1 : ((i : Int) == -1) = false := beq_eq_false_iff_ne.2 (by omega)
  rw [h1]
  simp
theorem replaceK_quote : ∀ (s : Bs), Lib.replaceK [39] [39, 92, 39, 39] (Lib.count s [39]) s = quoteT s
  | [] => by rw [Lib.count_one]; rfl
  | b :: l => by
    have ih := replaceK_quote l
    rw [Lib.count_one] at ih ⊢
    by_cases hb : b = 39
    · subst hb
      rw [List.count_cons_self, Lib.replaceK_hit _ _ _ _ 0 (index_head l), quoteT, if_pos rfl, ← ih]
      rfl
    · rw [List.count_cons_of_ne (by simpa using hb), quoteT, if_neg hb, ← ih]
      cases hc : l.count 39 with
      | zero => rfl
      | succ k =>
        obtain ⟨i, hi⟩ := Lib.index_of_count (s := l) (old := [39]) (by rw [Lib.count_one]; omega)
        rw [Lib.replaceK_hit _ _ _ _ i hi, Lib.replaceK_hit _ _ _ _ (i + 1) (index_tail b l i hb hi)]
        rfl
theorem replace_quote (s : Bs) : Lib.replaceAll s [39] [39, 92, 39, 39] = quoteT s := by
  unfold Lib.replaceAll Lib.replace
  rw [if_neg (by decide)]
  unfold Lib.replaceNum
  rw [if_pos (Or.inl (by decide))]
  exact replaceK_quote s

end WdM
