/- DERIVED. Plain mathematics: how the document sets a variable. -/
import Derived.Test.YtdegkfnlafgheaaVrMath
namespace VrM
open PathM
set_option linter.unusedVariables false
def goL (name t : Bs) : Bool → Vs → Vs
  | d, [] => if d then [] else [(name, t)]
  | d, x :: r => (if !d && !decide (x.1 < name) then [(name, t)] else []) ++ ((if decide (x.1 = name) then [] else [x]) ++ goL name t (d || !decide (x.1 < name)) r)
theorem go_cons (name t : Bs) (d : Bool) (x : Bs × Bs) (r : Vs) : goL name t d (x :: r) = (if !d && !decide (x.1 < name) then [(name, t)] else []) ++ ((if decide (x.1 = name) then [] else [x]) ++ goL name t (d || !decide (x.1 < name)) r) := rfl
theorem go_true (name t : Bs) : ∀ (r : Vs), (∀ y ∈ r, name < y.1) → goL name t true r = r
  | [], _ => rfl
  | y :: r, h => by
    have h1 := h y (by simp)
    have hne : ¬ y.1 = name := by intro e; rw [e] at h1; exact lt_irr _ h1
    show ([] : Vs) ++ ((if decide (y.1 = name) then [] else [y]) ++ goL name t true r) = _
    rw [go_true name t r (fun z hz => h z (by simp [hz]))]
    simp [hne]
theorem go_put (name t : Bs) : ∀ (vs : Vs), Srt vs → goL name t false vs = putV vs name t
  | [], _ => rfl
  | x :: r, hs => by
    have hs2 := List.pairwise_cons.1 hs
    rcases lt_tri x.1 name with h | h | h
    · have hne : ¬ x.1 = name := by intro e; rw [e] at h; exact lt_irr _ h
      rw [put_cons_lt h, ← go_put name t r hs2.2]
      show (if !false && !decide (x.1 < name) then [(name, t)] else []) ++ ((if decide (x.1 = name) then [] else [x]) ++ goL name t (false || !decide (x.1 < name)) r) = _
      simp [h, hne]
    · have hn : ¬ x.1 < name := by rw [h]; exact lt_irr _
      rw [put_cons_eq h]
      show (if !false && !decide (x.1 < name) then [(name, t)] else []) ++ ((if decide (x.1 = name) then [] else [x]) ++ goL name t (false || !decide (x.1 < name)) r) = _
      simp only [decide_eq_false hn, decide_eq_true h, Bool.not_false, Bool.and_self, Bool.or_true, if_true, List.nil_append]
      rw [go_true name t r (fun y hy => by rw [← h]; exact hs2.1 y hy)]
      rfl
    · have hn : ¬ x.1 < name := fun h2 => lt_irr _ (lt_tr h2 h)
      have hne : ¬ x.1 = name := by intro e; rw [e] at h; exact lt_irr _ h
      rw [put_cons_gt hs h]
      show (if !false && !decide (x.1 < name) then [(name, t)] else []) ++ ((if decide (x.1 = name) then [] else [x]) ++ goL name t (false || !decide (x.1 < name)) r) = _
      simp only [decide_eq_false hn, decide_eq_false hne, Bool.not_false, Bool.and_self, Bool.or_true, if_true]
      rw [go_true name t r (fun y hy => lt_tr h (hs2.1 y hy))]
      rfl
/-- Where the document finds a name. -/
def plV (vs : Vs) (name : Bs) : Int := if hasV vs name then (posV vs name : Int) else -1
theorem pl_found {vs : Vs} {name : Bs} (hs : Srt vs) (i : Nat) (hi : i < vs.length) (h : vs[i].1 = name) : plV vs name = (i : Int) := by
  have hp : posV vs name = i := by
    refine pos_of vs i (by omega) (fun t ht hti => ?_) (fun t ht hti h2 => ?_)
    · have := (List.pairwise_iff_getElem.1 hs) t i ht hi hti
      rw [h] at this; exact this
    · by_cases e : t = i
      · subst e; rw [h] at h2; exact lt_irr _ h2
      · have := (List.pairwise_iff_getElem.1 hs) i t hi ht (by omega)
        rw [h] at this; exact lt_irr _ (lt_tr this h2)
  have hh : hasV vs name = true := by
    unfold hasV
    rw [List.any_eq_true]
    exact ⟨vs[i], List.getElem_mem hi, by simpa using h⟩
  unfold plV
  rw [hh, hp]; rfl
theorem pl_none {vs : Vs} {name : Bs} (h : ∀ t (ht : t < vs.length), vs[t].1 ≠ name) : plV vs name = -1 := by
  have hh : hasV vs name = false := by
    unfold hasV
    rw [List.any_eq_false]
    intro x hx
    obtain ⟨t, ht, rfl⟩ := List.getElem_of_mem hx
    simpa using h t ht
  unfold plV
  rw [hh]; rfl
end VrM
