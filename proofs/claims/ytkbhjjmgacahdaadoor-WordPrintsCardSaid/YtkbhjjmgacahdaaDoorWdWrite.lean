/- DERIVED. Plain mathematics of layer 7: how words are written, by the program and by the document. -/
import Derived.Test.YtkbhjjmgacahdaaDoorWdRef
namespace WdM
open PathM
set_option linter.unusedVariables false

/-- A text in single quotes. -/
def quoteT : Bs → Bs
  | [] => []
  | c :: t => if c = 39 then [39, 92, 39, 39] ++ quoteT t else c :: quoteT t
def literalT (q : Bool) (t : Bs) : Bs := if q then [39] ++ quoteT t ++ [39] else t
def markT (q : Bool) (k : Int) : Bs := if q && decide (k ≠ 1) then [34] else []
def lenT : Bs := [108, 101, 110]
/-- The document's text. -/
def rText : List PT → Bs
  | [] => []
  | .mk k q t o w :: r =>
    markT q k ++ (if k = 1 then literalT q t else if k = 2 then (if o = lenT then [36, 123, 35] ++ t ++ [125] else [36, 123] ++ t ++ o ++ rText w ++ [125]) else if k = 3 then [36, 40] ++ t ++ [41] else [36, 40, 40] ++ t ++ [41, 41]) ++ markT q k ++ rText r
/-- The program's; b: how much is written already; none: it leaves off. -/
def pText : Nat → List PT → Option Bs
  | _, [] => some []
  | b, .mk k q t o w :: r =>
    if 8192 < b + t.length + o.length then none
    else match (if k = 1 then some (literalT q t) else if k = 2 then (if o = lenT then some ([36, 123, 35] ++ t ++ [125]) else (pText (b + (markT q k).length + (2 + t.length + o.length)) w).map fun z => [36, 123] ++ t ++ o ++ z ++ [125])
      else if k = 3 then some ([36, 40] ++ t ++ [41]) else if k = 4 then some ([36, 40, 40] ++ t ++ [41, 41]) else none) with
      | none => none
      | some x => (pText (b + (markT q k ++ x ++ markT q k).length) r).map fun z => markT q k ++ x ++ markT q k ++ z
theorem pText_text : ∀ (w : List PT) (b : Nat) (s : Bs), pText b w = some s → s = rText w
  | [], b, s, h => by rw [pText] at h; injection h with h; rw [rText]; exact h.symm
  | .mk k q t o w :: r, b, s, h => by
    rw [pText] at h
    rw [rText]
    by_cases h0 : 8192 < b + t.length + o.length
    · rw [if_pos h0] at h; cases h
    · rw [if_neg h0] at h
      have hr : ∀ x, (pText (b + (markT q k ++ x ++ markT q k).length) r).map (fun z => markT q k ++ x ++ markT q k ++ z) = some s → s = markT q k ++ x ++ markT q k ++ rText r := by
        intro x hx
        cases hp : pText (b + (markT q k ++ x ++ markT q k).length) r with
        | none => rw [hp] at hx; cases hx
        | some z =>
          rw [hp] at hx
          injection hx with hx
          rw [← pText_text r _ z hp]
          exact hx.symm
      by_cases k1 : k = 1
      · rw [if_pos k1] at h ⊢
        exact hr _ h
      rw [if_neg k1] at h ⊢
      by_cases k2 : k = 2
      · rw [if_pos k2] at h ⊢
        by_cases ho : o = lenT
        · rw [if_pos ho] at h ⊢
          exact hr _ h
        · rw [if_neg ho] at h ⊢
          cases hp : pText (b + (markT q k).length + (2 + t.length + o.length)) w with
          | none => rw [hp] at h; cases h
          | some z =>
            rw [hp] at h
            rw [← pText_text w _ z hp]
            exact hr _ h
      rw [if_neg k2] at h ⊢
      by_cases k3 : k = 3
      · rw [if_pos k3] at h ⊢
        exact hr _ h
      rw [if_neg k3] at h ⊢
      by_cases k4 : k = 4
      · rw [if_pos k4] at h
        exact hr _ h
      · rw [if_neg k4] at h
        cases h
/-- What is scanned is of these forms. -/
inductive WF : List PT → Prop
  | nil : WF []
  | lit (q : Bool) (t : Bs) (r : List PT) : WF r → WF (.mk 1 q t [] [] :: r)
  | par (q : Bool) (t o : Bs) (w r : List PT) : WF w → WF r → WF (.mk 2 q t o w :: r)
  | cmd (q : Bool) (t : Bs) (w r : List PT) : WF r → WF (.mk 3 q t [] w :: r)
  | ari (q : Bool) (t : Bs) (w r : List PT) : WF r → WF (.mk 4 q t [] w :: r)
theorem quoteT_len (t : Bs) : t.length ≤ (quoteT t).length := by
  induction t with
  | nil => exact Nat.le_refl _
  | cons c t ih =>
    rw [quoteT]
    split
    · simp; omega
    · simp; exact ih
theorem literal_len (q : Bool) (t : Bs) : t.length ≤ (literalT q t).length := by
  unfold literalT
  have := quoteT_len t
  cases q <;> simp <;> omega
theorem WF.text {w : List PT} (h : WF w) : ∀ b, b + (rText w).length ≤ 8192 → pText b w = some (rText w) := by
  induction h with
  | nil => intro b _; rw [pText, rText]
  | lit q t r hr ih =>
    intro b hb
    rw [rText] at hb ⊢
    rw [pText]
    simp only [if_true, List.length_append] at hb ⊢
    have hl := literal_len q t
    rw [if_neg (by simp; omega), ih _ (by omega)]
    rfl
  | par q t o w r hw hr ih1 ih2 =>
    intro b hb
    rw [rText] at hb ⊢
    rw [pText]
    have k1 : ¬ (2 : Int) = 1 := by decide
    simp only [if_neg k1, if_true, List.length_append] at hb ⊢
    by_cases ho : o = lenT
    · have hol : o.length = 3 := by rw [ho]; rfl
      simp only [if_pos ho] at hb ⊢
      simp only [List.length_append, List.length_cons, List.length_nil] at hb ⊢
      rw [if_neg (by omega), ih2 _ (by omega)]
      rfl
    · simp only [if_neg ho] at hb ⊢
      simp only [List.length_append, List.length_cons, List.length_nil] at hb ⊢
      rw [if_neg (by omega), ih1 _ (by omega)]
      simp only [Option.map_some, List.length_append, List.length_cons, List.length_nil]
      rw [ih2 _ (by omega)]
      rfl
  | cmd q t w r hr ih =>
    intro b hb
    rw [rText] at hb ⊢
    rw [pText]
    have k1 : ¬ (3 : Int) = 1 := by decide
    have k2 : ¬ (3 : Int) = 2 := by decide
    simp only [if_neg k1, if_neg k2, if_true, List.length_append, List.length_cons, List.length_nil] at hb ⊢
    rw [if_neg (by omega), ih _ (by omega)]
    rfl
  | ari q t w r hr ih =>
    intro b hb
    rw [rText] at hb ⊢
    rw [pText]
    have k1 : ¬ (4 : Int) = 1 := by decide
    have k2 : ¬ (4 : Int) = 2 := by decide
    have k3 : ¬ (4 : Int) = 3 := by decide
    simp only [if_neg k1, if_neg k2, if_neg k3, if_true, List.length_append, List.length_cons, List.length_nil] at hb ⊢
    rw [if_neg (by omega), ih _ (by omega)]
    rfl
theorem sameL_eq : ∀ (l m : List PT), sameL l m = true → l = m
  | [], [], _ => rfl
  | [], q :: m, h => by simp [sameL] at h
  | .mk _ _ _ _ _ :: l, [], h => by simp [sameL] at h
  | .mk k q t o w :: l, .mk k' q' t' o' w' :: m, h => by
    rw [sameL] at h
    simp only [Bool.and_eq_true, beq_iff_eq] at h
    obtain ⟨⟨⟨⟨⟨h1, h2⟩, h3⟩, h4⟩, h5⟩, h6⟩ := h
    rw [h1, h2, h3, h4, sameL_eq w w' h5, sameL_eq l m h6]

end WdM
