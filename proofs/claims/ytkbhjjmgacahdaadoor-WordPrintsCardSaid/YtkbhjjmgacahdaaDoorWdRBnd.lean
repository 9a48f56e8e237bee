/- DERIVED. What words of a small Size come to when they are written. -/
import Derived.Test.YtkbhjjmgacahdaaDoorWdRText
import Derived.Test.YtkbhjjmgacahdaaDoorWdLit
namespace Go.Proofs.YtkbhjjmgacahdaaDoor.Wd
open Go.RowKit
open PathM WdM
set_option linter.unusedVariables false

theorem szGo_ge (g : List PT → Nat) : ∀ (l : List PT) (n : Nat), n ≤ szGo g n l
  | [], n => Nat.le_refl _
  | p :: r, n => by
    rw [szGo]
    split
    · have := szGo_ge g r (n + p.text.length + p.op.length + g p.word); omega
    · exact Nat.le_refl _
theorem one_len (k : Int) (q : Bool) (t o : Bs) (w : List PT) : (rText [.mk k q t o w]).length ≤ 9 + 4 * t.length + o.length + (rText w).length := by
  rw [rText_one]
  have hq := (quoteT_len t).2
  have hm : (markT q k).length ≤ 1 := by unfold markT; split <;> simp
  have hm1 : k = 1 → (markT q k).length = 0 := fun e => by unfold markT; rw [e]; simp
  rw [List.length_append, List.length_append]
  split
  · rename_i h1
    have := hm1 h1
    unfold literalT
    split <;> simp <;> omega
  · split
    · split <;> simp <;> omega
    · split <;> simp <;> omega
theorem szGo_text (g : List PT → Nat) (hg : ∀ l, g l ≤ 4000 → (rText l).length ≤ 9 * g l) : ∀ (l : List PT) (n : Nat), szGo g n l ≤ 4000 → (rText l).length + 9 * n ≤ 9 * szGo g n l + 9 * l.length
  | [], n, h => by rw [rText_nil, szGo]; simp
  | .mk k q t o w :: r, n, h => by
    rw [szGo] at h ⊢
    by_cases hn : n ≤ 4000
    · rw [if_pos hn] at h ⊢
      have ih := szGo_text g hg r _ h
      have hge := szGo_ge g r (n + (PT.mk k q t o w).text.length + (PT.mk k q t o w).op.length + g (PT.mk k q t o w).word)
      have e : rText (.mk k q t o w :: r) = rText [.mk k q t o w] ++ rText r := rText_app [.mk k q t o w] r
      have h1 := one_len k q t o w
      rw [e, List.length_append, List.length_cons]
      simp only [PT.text, PT.op, PT.word] at ih hge h ⊢
      have hw := hg w (by omega)
      omega
    · rw [if_neg hn] at h; omega
theorem sizeF_text : ∀ (f : Nat) (l : List PT), sizeF f l ≤ 4000 → (rText l).length ≤ 9 * sizeF f l
  | 0, l, h => by rw [sizeF] at h; omega
  | f + 1, l, h => by
    rw [sizeF] at h ⊢
    by_cases hl : 4000 < l.length
    · rw [if_pos hl] at h; omega
    · rw [if_neg hl] at h ⊢
      have := szGo_text (sizeF f) (sizeF_text f) l l.length h
      omega

end Go.Proofs.YtkbhjjmgacahdaaDoor.Wd
