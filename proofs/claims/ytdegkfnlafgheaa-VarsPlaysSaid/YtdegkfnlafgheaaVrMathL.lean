/- DERIVED. Plain mathematics: what a name stands for when a variable was set, or taken away. -/
import Derived.Test.YtdegkfnlafgheaaVrMath
namespace VrM
open PathM
set_option linter.unusedVariables false
theorem val_cons (x : Bs × Bs) (vs : Vs) (name : Bs) : valV (x :: vs) name = if x.1 = name then some x.2 else valV vs name := by
  unfold valV
  rw [List.find?_cons]
  by_cases h : x.1 = name <;> simp [h]
theorem val_put_same {vs : Vs} {name t : Bs} (hs : Srt vs) : valV (putV vs name t) name = some t := by
  induction vs with
  | nil => show valV [(name, t)] name = _; rw [val_cons, if_pos rfl]
  | cons x vs ih =>
    have hs2 := List.pairwise_cons.1 hs
    rcases lt_tri x.1 name with h | h | h
    · have hne : ¬ x.1 = name := by intro e; rw [e] at h; exact lt_irr _ h
      rw [put_cons_lt h, val_cons, if_neg hne, ih hs2.2]
    · rw [put_cons_eq h, val_cons, if_pos rfl]
    · rw [put_cons_gt hs h, val_cons, if_pos rfl]
theorem val_put_other {vs : Vs} {name t other : Bs} (hs : Srt vs) (hne : name ≠ other) : valV (putV vs name t) other = valV vs other := by
  induction vs with
  | nil => show valV [(name, t)] other = _; rw [val_cons, if_neg hne]
  | cons x vs ih =>
    have hs2 := List.pairwise_cons.1 hs
    rcases lt_tri x.1 name with h | h | h
    · rw [put_cons_lt h, val_cons, val_cons, ih hs2.2]
    · rw [put_cons_eq h, val_cons, val_cons, if_neg hne, if_neg (by rw [h]; exact hne)]
    · rw [put_cons_gt hs h, val_cons, if_neg hne]
theorem val_del_same {vs : Vs} {name : Bs} : valV (delV vs name) name = none := by
  refine val_no ?_
  unfold hasV delV
  rw [List.any_eq_false]
  intro x hx
  have := (List.mem_filter.1 hx).2
  simpa using this
theorem val_del_other {vs : Vs} {name other : Bs} (hne : name ≠ other) : valV (delV vs name) other = valV vs other := by
  induction vs with
  | nil => rfl
  | cons x vs ih =>
    have e : delV (x :: vs) name = if x.1 ≠ name then x :: delV vs name else delV vs name := by unfold delV; rw [List.filter_cons]; simp
    rw [e, val_cons]
    by_cases h : x.1 = name
    · rw [if_neg (by simpa using h), if_neg (by rw [h]; exact hne), ih]
    · rw [if_pos h, val_cons, ih]
/-- How the document takes a variable away, and the program. -/
theorem del_length {vs : Vs} {name : Bs} (hs : Srt vs) : (delV vs name).length = if hasV vs name then vs.length - 1 else vs.length := by
  cases h : hasV vs name with
  | false => rw [del_no h]; rfl
  | true =>
    obtain ⟨hp, _⟩ := val_at hs h
    rw [del_has hs h, List.length_append, List.length_take, List.length_drop]
    simp; omega
theorem del_mem {vs : Vs} {name : Bs} {x : Bs × Bs} (h : x ∈ delV vs name) : x ∈ vs := (List.mem_filter.1 h).1
end VrM
