/- DERIVED. Plain mathematics of layer 7: what reading gives up with is no 0. -/
import Derived.Test.YtgajbehlggikdaaWdQuote
namespace WdM
open PathM
set_option linter.unusedVariables false

def Good {α : Type} (r : Rs α) : Prop := ∀ a e, r = .bad a e → e ≠ 0
theorem good_ok {α : Type} (x : α) (r : Bs) : Good (.ok x r) := fun a e h => by cases h
theorem good_bad {α : Type} (a : Nat) (e : Int) (h : e ≠ 0) : Good (.bad a e : Rs α) := fun a' e' h' => by cases h'; exact h
theorem good_param (l : Bs) : Good (param l) := by
  unfold param
  split
  · split
    · exact good_ok _ _
    · exact good_bad _ _ (by decide)
  · exact good_bad _ _ (by decide)
theorem good_arith (fl : Nat) : ∀ (l : Bs) (d : Nat) (acc : Bs), Good (arithS fl d acc l)
  | [], d, acc => good_bad _ _ (by decide)
  | c :: t, d, acc => by
    rw [arithS]
    split
    · exact good_bad _ _ (by decide)
    · split
      · exact good_arith fl t _ _
      · split
        · split
          · exact good_arith fl t _ _
          · split
            · exact good_ok _ _
            · exact good_bad _ _ (by decide)
        · exact good_arith fl t _ _
theorem good_cmd (fl : Nat) (l : Bs) : Good (cmdS fl l) := by
  unfold cmdS
  split
  · exact good_bad _ _ (by decide)
  · exact good_ok _ _
theorem good_finish (fl : Nat) (p : PT) (l : Bs) : Good (finish fl p l) := by
  unfold finish
  split
  · exact good_bad _ _ (by decide)
  · split
    · exact good_ok _ _
    · exact good_bad _ _ (by decide)
def GoodRec (rec : Rec) : Prop := ∀ parts, rec = some parts → ∀ q l, Good (parts q l)
theorem good_braces {rec : Rec} (hr : GoodRec rec) (fl : Nat) (q : Bool) (l : Bs) : Good (braces rec fl q l) := by
  unfold braces
  split
  · exact good_bad _ _ (by decide)
  · rename_i parts
    split
    · split
      · rename_i a e h; exact good_bad _ _ (good_param _ _ _ h)
      · exact good_finish _ _ _
    · split
      · rename_i a e h; exact good_bad _ _ (good_param _ _ _ h)
      · split
        · exact good_finish _ _ _
        · split
          · rename_i a e h; exact good_bad _ _ (hr parts rfl _ _ _ _ h)
          · exact good_finish _ _ _
theorem good_dollarP {rec : Rec} (hr : GoodRec rec) (q : Bool) (l : Bs) : ∀ x, dollarP rec q l = some x → Good x := by
  intro x hx
  unfold dollarP at hx
  by_cases h1 : stands [123] l = true
  · rw [if_pos h1] at hx; cases hx; exact good_braces hr _ _ _
  rw [if_neg h1] at hx
  by_cases h2 : stands [40, 40] l = true
  · rw [if_pos h2] at hx
    cases hx
    split
    · rename_i a e h; exact good_bad _ _ (good_arith _ _ _ _ _ _ h)
    · exact good_ok _ _
  rw [if_neg h2] at hx
  by_cases h3 : stands [40] l = true
  · rw [if_pos h3] at hx
    cases hx
    split
    · rename_i a e h; exact good_bad _ _ (good_cmd _ _ _ _ h)
    · exact good_ok _ _
  rw [if_neg h3] at hx
  have hz : ∀ b : Bool, (if b = true then some (Rs.ok (PT.mk 2 false (l.take 1) [] []) (l.drop 1)) else if paramStands l = true then some (match param l with
      | .bad a e => .bad a e
      | .ok t r => .ok (.mk 2 false t [] []) r) else none) = some x → Good x := by
    intro b hx
    cases b with
    | true => rw [if_pos rfl] at hx; cases hx; exact good_ok _ _
    | false =>
      rw [if_neg (by decide)] at hx
      by_cases h5 : paramStands l = true
      · rw [if_pos h5] at hx
        cases hx
        split
        · rename_i a e h; exact good_bad _ _ (good_param _ _ _ h)
        · exact good_ok _ _
      · rw [if_neg h5] at hx
        cases hx
  exact hz _ hx
theorem good_dollar {rec : Rec} (hr : GoodRec rec) (g : Ga) (q : Bool) (l : Bs) : Good (dollar rec g q l) := by
  unfold dollar
  split
  · exact good_ok _ _
  · rename_i a e h; exact good_bad _ _ (good_dollarP hr q l _ h _ _ rfl)
  · exact good_ok _ _
theorem good_escape (esc : UInt8 → Bool) (g : Ga) (l : Bs) : Good (escape esc g l) := by
  unfold escape
  split
  · exact good_bad _ _ (by decide)
  · split
    · split
      · exact good_ok _ _
      · exact good_ok _ _
    · exact good_ok _ _
theorem good_piece {rec : Rec} (hr : GoodRec rec) (esc : UInt8 → Bool) (g : Ga) (q : Bool) (c : UInt8) (t : Bs) : Good (piece rec esc g q (c :: t)) := by
  unfold piece
  simp only
  split
  · exact good_escape _ _ _
  · split
    · exact good_dollar hr _ _ _
    · split
      · exact good_bad _ _ (by decide)
      · exact good_ok _ _
theorem good_dloop {rec : Rec} (hr : GoodRec rec) (fl : Nat) : ∀ (n : Nat) (g : Ga) (l : Bs), Good (dloop rec fl n g l)
  | 0, g, l => good_bad _ _ (by decide)
  | n + 1, g, [] => good_bad _ _ (by decide)
  | n + 1, g, c :: t => by
    rw [dloop]
    split
    · exact good_ok _ _
    · split
      · rename_i a e h; exact good_bad _ _ (good_piece hr _ _ _ _ _ _ _ h)
      · exact good_dloop hr fl n _ _
theorem good_step {rec : Rec} (hr : GoodRec rec) (g : Ga) (q : Bool) (c : UInt8) (t : Bs) : Good (step rec g q (c :: t)) := by
  unfold step
  simp only
  split
  · unfold single
    split
    · exact good_bad _ _ (by decide)
    · exact good_ok _ _
  · split
    · exact good_dloop hr _ _ _ _
    · exact good_piece hr _ _ _ _ _
theorem good_ploop {rec : Rec} (hr : GoodRec rec) (ends : UInt8 → Bool) (q : Bool) : ∀ (n : Nat) (g : Ga) (l : Bs), Good (ploop rec ends q n g l)
  | 0, g, l => good_ok _ _
  | n + 1, g, [] => good_ok _ _
  | n + 1, g, c :: t => by
    rw [ploop]
    split
    · exact good_ok _ _
    · split
      · rename_i a e h; exact good_bad _ _ (good_step hr _ _ _ _ _ _ h)
      · exact good_ploop hr ends q n _ _
theorem good_parts {rec : Rec} (hr : GoodRec rec) (ends : UInt8 → Bool) (q : Bool) (l : Bs) : Good (partsR rec ends q l) := by
  unfold partsR
  split
  · rename_i a e h; exact good_bad _ _ (good_ploop hr _ _ _ _ _ _ _ h)
  · exact good_ok _ _
theorem good_recN : ∀ n, GoodRec (recN n)
  | 0 => fun parts h => by cases h
  | n + 1 => fun parts h q l => by cases h; exact good_parts (good_recN n) _ _ _
theorem scan_err {l : Bs} {a : Nat} {e : Int} (h : scan l = .bad a e) : e ≠ 0 := good_parts (good_recN 16) _ _ _ a e h

end WdM
