/- DERIVED. Plain mathematics of layer 7: of which forms what is scanned is; what is printed. -/
import Derived.Test.YtkbhjjmgacahdaaDoorWdWrite
namespace WdM
open PathM
set_option linter.unusedVariables false

theorem WF.append {a b : List PT} (ha : WF a) (hb : WF b) : WF (a ++ b) := by
  induction ha with
  | nil => exact hb
  | lit q t r hr ih => exact .lit q t _ ih
  | par q t o w r hw hr _ ih => exact .par q t o w _ hw ih
  | cmd q t w r hr ih => exact .cmd q t w _ ih
  | ari q t w r hr ih => exact .ari q t w _ ih
theorem WF.withQ {p : PT} (h : WF [p]) (q : Bool) : WF [p.withQ q] := by
  cases h with
  | lit q' t r hr => exact .lit q t _ .nil
  | par q' t o w r hw hr => exact .par q t o w _ hw .nil
  | cmd q' t w r hr => exact .cmd q t w _ .nil
  | ari q' t w r hr => exact .ari q t w _ .nil
def WG (m : Rs Ga) : Prop := ∀ g r, m = .ok g r → WF g.ps
def W1 (m : Rs PT) : Prop := ∀ p r, m = .ok p r → WF [p]
def WL (m : Rs (List PT)) : Prop := ∀ l r, m = .ok l r → WF l
theorem wg_bad (a : Nat) (e : Int) : WG (.bad a e) := fun g r h => by cases h
theorem wg_ok {g : Ga} (r : Bs) (h : WF g.ps) : WG (.ok g r) := fun g' r' e => by injection e with e _; rw [← e]; exact h
theorem w1_bad (a : Nat) (e : Int) : W1 (.bad a e) := fun g r h => by cases h
theorem w1_ok {p : PT} (r : Bs) (h : WF [p]) : W1 (.ok p r) := fun g' r' e => by injection e with e _; rw [← e]; exact h
theorem wf_close {g : Ga} (h : WF g.ps) : WF g.close.ps := by
  unfold Ga.close
  cases g.op with
  | true => simp only [if_true]; exact h.append (.lit _ _ _ .nil)
  | false => simp only [Bool.false_eq_true, if_false]; exact h
theorem wf_add {g : Ga} (h : WF g.ps) (t : Bs) (q : Bool) : WF (g.add t q).ps := by
  unfold Ga.add
  by_cases hq : g.q = q
  · simp only [if_pos hq]; exact h
  · simp only [if_neg hq]; exact wf_close h
theorem wf_put {g : Ga} (h : WF g.ps) {p : PT} (hp : WF [p]) : WF (g.put p).ps := (wf_close h).append hp
def WR (rec : Rec) : Prop := ∀ parts, rec = some parts → ∀ q l, WL (parts q l)
theorem wf_finish (fl : Nat) {p : PT} (h : WF [p]) (l : Bs) : W1 (finish fl p l) := by
  unfold finish
  split
  · exact w1_bad _ _
  · split
    · exact w1_ok _ h
    · exact w1_bad _ _
theorem wf_braces {rec : Rec} (hr : WR rec) (fl : Nat) (q : Bool) (l : Bs) : W1 (braces rec fl q l) := by
  unfold braces
  split
  · exact w1_bad _ _
  · rename_i parts
    split
    · split
      · exact w1_bad _ _
      · exact wf_finish _ (.par _ _ _ _ _ .nil .nil) _
    · split
      · exact w1_bad _ _
      · split
        · exact wf_finish _ (.par _ _ _ _ _ .nil .nil) _
        · split
          · exact w1_bad _ _
          · rename_i w r2 h
            exact wf_finish _ (.par _ _ _ _ _ (hr parts rfl _ _ _ _ h) .nil) _
theorem wf_dollarP {rec : Rec} (hr : WR rec) (q : Bool) (l : Bs) : ∀ x, dollarP rec q l = some x → W1 x := by
  intro x hx
  unfold dollarP at hx
  by_cases h1 : stands [123] l = true
  · rw [if_pos h1] at hx; cases hx; exact wf_braces hr _ _ _
  rw [if_neg h1] at hx
  by_cases h2 : stands [40, 40] l = true
  · rw [if_pos h2] at hx
    cases hx
    split
    · exact w1_bad _ _
    · exact w1_ok _ (.ari _ _ _ _ .nil)
  rw [if_neg h2] at hx
  by_cases h3 : stands [40] l = true
  · rw [if_pos h3] at hx
    cases hx
    split
    · exact w1_bad _ _
    · exact w1_ok _ (.cmd _ _ _ _ .nil)
  rw [if_neg h3] at hx
  have hz : ∀ b : Bool, (if b = true then some (Rs.ok (PT.mk 2 false (l.take 1) [] []) (l.drop 1)) else if paramStands l = true then some (match param l with
      | .bad a e => .bad a e
      | .ok t r => .ok (.mk 2 false t [] []) r) else none) = some x → W1 x := by
    intro b hx
    cases b with
    | true => rw [if_pos rfl] at hx; cases hx; exact w1_ok _ (.par _ _ _ _ _ .nil .nil)
    | false =>
      rw [if_neg (by decide)] at hx
      by_cases h5 : paramStands l = true
      · rw [if_pos h5] at hx
        cases hx
        split
        · exact w1_bad _ _
        · exact w1_ok _ (.par _ _ _ _ _ .nil .nil)
      · rw [if_neg h5] at hx
        cases hx
  exact hz _ hx
theorem wf_dollar {rec : Rec} (hr : WR rec) {g : Ga} (h : WF g.ps) (q : Bool) (l : Bs) : WG (dollar rec g q l) := by
  unfold dollar
  split
  · exact wg_ok _ (wf_add h _ _)
  · exact wg_bad _ _
  · rename_i p r hd
    exact wg_ok _ (wf_put h ((wf_dollarP hr q l _ hd p r rfl).withQ q))
theorem wf_escape (esc : UInt8 → Bool) {g : Ga} (h : WF g.ps) (l : Bs) : WG (escape esc g l) := by
  unfold escape
  split
  · exact wg_bad _ _
  · split
    · split
      · exact wg_ok _ h
      · exact wg_ok _ (wf_add h _ _)
    · exact wg_ok _ (wf_add h _ _)
theorem wf_piece {rec : Rec} (hr : WR rec) (esc : UInt8 → Bool) {g : Ga} (h : WF g.ps) (q : Bool) (l : Bs) : WG (piece rec esc g q l) := by
  unfold piece
  split
  · exact wg_bad _ _
  · split
    · exact wf_escape _ h _
    · split
      · exact wf_dollar hr h _ _
      · split
        · exact wg_bad _ _
        · exact wg_ok _ (wf_add h _ _)
theorem wf_dloop {rec : Rec} (hr : WR rec) (fl : Nat) : ∀ (n : Nat) (g : Ga) (l : Bs), WF g.ps → WG (dloop rec fl n g l)
  | 0, g, l, h => wg_bad _ _
  | n + 1, g, [], h => wg_bad _ _
  | n + 1, g, c :: t, h => by
    rw [dloop]
    split
    · exact wg_ok _ h
    · split
      · exact wg_bad _ _
      · rename_i g' l' hp
        exact wf_dloop hr fl n g' l' (wf_piece hr _ h _ _ _ _ hp)
theorem wf_step {rec : Rec} (hr : WR rec) {g : Ga} (h : WF g.ps) (q : Bool) (l : Bs) : WG (step rec g q l) := by
  unfold step
  split
  · exact wg_bad _ _
  · split
    · unfold single
      split
      · exact wg_bad _ _
      · exact wg_ok _ (wf_add h _ _)
    · split
      · unfold double
        refine wf_dloop hr _ _ _ _ ?_
        split
        · exact wf_add h _ _
        · exact h
      · exact wf_piece hr _ h _ _
theorem wf_ploop {rec : Rec} (hr : WR rec) (ends : UInt8 → Bool) (q : Bool) : ∀ (n : Nat) (g : Ga) (l : Bs), WF g.ps → WG (ploop rec ends q n g l)
  | 0, g, l, h => wg_ok _ h
  | n + 1, g, [], h => wg_ok _ h
  | n + 1, g, c :: t, h => by
    rw [ploop]
    split
    · exact wg_ok _ h
    · split
      · exact wg_bad _ _
      · rename_i g' l' hp
        exact wf_ploop hr ends q n g' l' (wf_step hr h _ _ _ _ hp)
theorem wf_parts {rec : Rec} (hr : WR rec) (ends : UInt8 → Bool) (q : Bool) (l : Bs) : WL (partsR rec ends q l) := by
  intro L r h
  unfold partsR at h
  cases hp : ploop rec ends q (l.length + 1) .empty l with
  | bad a e => rw [hp] at h; cases h
  | ok g r' =>
    rw [hp] at h
    injection h with h1 _
    rw [← h1]
    exact wf_close (wf_ploop hr ends q _ _ _ .nil _ _ hp)
theorem wf_recN : ∀ n, WR (recN n)
  | 0 => fun parts h => by cases h
  | n + 1 => fun parts h q l => by cases h; exact wf_parts (wf_recN n) _ _ _
theorem scan_form {l : Bs} {L : List PT} {r : Bs} (h : scan l = .ok L r) : WF L := wf_parts (wf_recN 16) _ _ _ L r h
/-- Is a text what a word is written as? -/
def Writes (s : Bs) (w : List PT) : Prop := s.length ≤ 8192 ∧ scan s = .ok w []
/-- Where the program leaves off there is no such text. -/
theorem leaves_off {w : List PT} (h : pText 0 w = none) : ¬ Writes (rText w) w := fun ⟨h1, h2⟩ => by
  rw [(scan_form h2).text 0 (by omega)] at h
  cases h

end WdM
