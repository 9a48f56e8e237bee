/- DERIVED. Plain mathematics of layer 11: variables by rising names. -/
import Derived.Test.YtdegkfnlafgheaaPathMath
import Derived.Lib.Bytealg
namespace VrM
open PathM
set_option linter.unusedVariables false
abbrev Vs := List (Bs × Bs)
theorem lt_tri (a b : Bs) : a < b ∨ a = b ∨ b < a := by
  by_cases h1 : a < b
  · exact .inl h1
  · by_cases h2 : b < a
    · exact .inr (.inr h2)
    · exact .inr (.inl (List.le_antisymm (List.not_lt.1 h2) (List.not_lt.1 h1)))
theorem lt_irr (a : Bs) : ¬ a < a := List.lt_irrefl a
theorem lt_tr {a b c : Bs} (h1 : a < b) (h2 : b < c) : a < c := List.lt_trans h1 h2
theorem cmp_cases : ∀ (a b : Bs), (a < b ∧ Go.Lib.compareBytes a b = -1) ∨ (a = b ∧ Go.Lib.compareBytes a b = 0) ∨ (b < a ∧ Go.Lib.compareBytes a b = 1)
  | [], [] => .inr (.inl ⟨rfl, rfl⟩)
  | [], b :: bs => .inl ⟨by simp, rfl⟩
  | a :: as, [] => .inr (.inr ⟨by simp, rfl⟩)
  | a :: as, b :: bs => by
    unfold Go.Lib.compareBytes
    simp only [List.cons_lt_cons_iff]
    by_cases h1 : a < b
    · exact .inl ⟨.inl h1, by rw [if_pos h1]⟩
    · rw [if_neg h1]
      by_cases h2 : b < a
      · exact .inr (.inr ⟨.inl h2, by rw [if_pos h2]⟩)
      · rw [if_neg h2]
        have e : a = b := UInt8.le_antisymm (UInt8.not_lt.1 h2) (UInt8.not_lt.1 h1)
        subst e
        rcases cmp_cases as bs with ⟨h, k⟩ | ⟨h, k⟩ | ⟨h, k⟩
        · exact .inl ⟨.inr ⟨rfl, h⟩, k⟩
        · exact .inr (.inl ⟨by rw [h], k⟩)
        · exact .inr (.inr ⟨.inr ⟨rfl, h⟩, k⟩)
theorem cmp_lt (a b : Bs) : decide (Go.Lib.compareBytes a b < 0) = decide (a < b) := by
  rcases cmp_cases a b with ⟨h, k⟩ | ⟨h, k⟩ | ⟨h, k⟩ <;> rw [k]
  · simp [h]
  · subst h; simp [lt_irr]
  · have : ¬ a < b := fun h2 => lt_irr a (lt_tr h2 h)
    simp [this]
theorem cmp_eq (a b : Bs) : decide (Go.Lib.compareBytes a b = 0) = decide (a = b) := by
  rcases cmp_cases a b with ⟨h, k⟩ | ⟨h, k⟩ | ⟨h, k⟩ <;> rw [k]
  · have : ¬ a = b := by rintro rfl; exact lt_irr _ h
    simp [this]
  · simp [h]
  · have : ¬ a = b := by rintro rfl; exact lt_irr _ h
    simp [this]
/-- Rising names. -/
def Srt (vs : Vs) : Prop := vs.Pairwise (fun x y => x.1 < y.1)
/-- How many names are less. -/
def posV (vs : Vs) (name : Bs) : Nat := (vs.takeWhile (fun x => decide (x.1 < name))).length
def hasV (vs : Vs) (name : Bs) : Bool := vs.any (fun x => decide (x.1 = name))
theorem pos_le (vs : Vs) (name : Bs) : posV vs name ≤ vs.length := by
  unfold posV
  exact (List.takeWhile_sublist _).length_le
theorem pos_cons_lt {x : Bs × Bs} {vs : Vs} {name : Bs} (h : x.1 < name) : posV (x :: vs) name = posV vs name + 1 := by unfold posV; rw [List.takeWhile_cons]; simp [h]
theorem pos_cons_not {x : Bs × Bs} {vs : Vs} {name : Bs} (h : ¬ x.1 < name) : posV (x :: vs) name = 0 := by unfold posV; rw [List.takeWhile_cons]; simp [h]
/-- Where the names part. -/
theorem pos_of {name : Bs} : ∀ (vs : Vs) (i : Nat), i ≤ vs.length → (∀ t (h : t < vs.length), t < i → vs[t].1 < name) → (∀ t (h : t < vs.length), i ≤ t → ¬ vs[t].1 < name) → posV vs name = i
  | [], i, hi, _, _ => by simp at hi; subst hi; rfl
  | x :: vs, 0, _, _, h2 => pos_cons_not (h2 0 (by simp) (by simp))
  | x :: vs, i + 1, hi, h1, h2 => by
    have hx : x.1 < name := h1 0 (by simp) (by simp)
    rw [pos_cons_lt hx]
    congr 1
    exact pos_of vs i (by simpa using hi) (fun t h ht => h1 (t + 1) (by simpa using h) (by omega)) (fun t h ht => h2 (t + 1) (by simpa using h) (by omega))
theorem pos_lt {name : Bs} : ∀ (vs : Vs) (t : Nat) (h : t < vs.length), t < posV vs name → vs[t].1 < name
  | [], t, h, _ => absurd h (by simp)
  | x :: vs, t, h, ht => by
    by_cases hx : x.1 < name
    · cases t with
      | zero => exact hx
      | succ t => rw [pos_cons_lt hx] at ht; exact pos_lt vs t (by simpa using h) (by omega)
    · rw [pos_cons_not hx] at ht; omega
theorem pos_ge {name : Bs} {vs : Vs} (hs : Srt vs) (t : Nat) (h : t < vs.length) (ht : posV vs name ≤ t) : ¬ vs[t].1 < name := by
  induction vs generalizing t with
  | nil => simp at h
  | cons x vs ih =>
    have hs2 := List.pairwise_cons.1 hs
    by_cases hx : x.1 < name
    · cases t with
      | zero => rw [pos_cons_lt hx] at ht; omega
      | succ t => rw [pos_cons_lt hx] at ht; exact ih hs2.2 t (by simpa using h) (by omega)
    · cases t with
      | zero => exact hx
      | succ t => intro h2; exact hx (lt_tr (hs2.1 _ (List.getElem_mem (by simpa using h))) h2)
/-- Is the name there: at that place, or nowhere. -/
theorem has_at {name : Bs} {vs : Vs} (hs : Srt vs) : hasV vs name = (decide (posV vs name < vs.length) && decide ((vs[posV vs name]?.map (·.1)) = some name)) := by
  induction vs with
  | nil => rfl
  | cons x vs ih =>
    have hs2 := List.pairwise_cons.1 hs
    by_cases hx : x.1 < name
    · rw [pos_cons_lt hx]
      have hne : ¬ x.1 = name := by intro e; rw [e] at hx; exact lt_irr _ hx
      have e1 : hasV (x :: vs) name = hasV vs name := by unfold hasV; simp [hne]
      rw [e1, ih hs2.2]
      simp
    · rw [pos_cons_not hx]
      by_cases he : x.1 = name
      · unfold hasV; simp [he]
      · have hgt : name < x.1 := by rcases lt_tri x.1 name with h | h | h; exact absurd h hx; exact absurd h he; exact h
        have hno : ∀ y ∈ vs, ¬ y.1 = name := by
          intro y hy e
          have := hs2.1 y hy
          rw [e] at this
          exact lt_irr _ (lt_tr this hgt)
        have e1 : hasV (x :: vs) name = false := by
          unfold hasV
          rw [List.any_eq_false]
          intro y hy
          rcases List.mem_cons.1 hy with rfl | hy
          · simpa using he
          · simpa using hno y hy
        rw [e1]; simp [he]
theorem has_not {name : Bs} {vs : Vs} (h : hasV vs name = false) : ∀ x ∈ vs, x.1 ≠ name := by
  intro x hx
  unfold hasV at h
  simpa using List.any_eq_false.1 h x hx
/-- The value of a name. -/
def valV (vs : Vs) (name : Bs) : Option Bs := (vs.find? (fun x => decide (x.1 = name))).map (·.2)
theorem val_at {name : Bs} {vs : Vs} (hs : Srt vs) (h : hasV vs name = true) : ∃ (hp : posV vs name < vs.length), vs[posV vs name].1 = name ∧ valV vs name = some vs[posV vs name].2 := by
  rw [has_at hs, Bool.and_eq_true, decide_eq_true_iff, decide_eq_true_iff] at h
  obtain ⟨hp, he⟩ := h
  rw [List.getElem?_eq_getElem hp] at he
  have he : vs[posV vs name].1 = name := Option.some.inj he
  refine ⟨hp, he, ?_⟩
  unfold valV
  have : vs.find? (fun x => decide (x.1 = name)) = some vs[posV vs name] := by
    rw [List.find?_eq_some_iff_getElem]
    refine ⟨by simpa using he, posV vs name, hp, rfl, fun j hj => ?_⟩
    have hl := pos_lt vs j (by omega) hj
    simp only [Bool.not_eq_true', decide_eq_false_iff_not]
    intro e
    rw [e] at hl
    exact lt_irr _ hl
  rw [this]; rfl
theorem val_no {name : Bs} {vs : Vs} (h : hasV vs name = false) : valV vs name = none := by
  unfold valV
  rw [List.find?_eq_none.2]
  · rfl
  · intro x hx
    have := has_not h x hx
    simpa using this
/-- With a variable more, or another value. -/
def putV (vs : Vs) (name t : Bs) : Vs := vs.take (posV vs name) ++ (name, t) :: vs.drop (posV vs name + (if hasV vs name then 1 else 0))
def delV (vs : Vs) (name : Bs) : Vs := vs.filter (fun x => decide (x.1 ≠ name))
theorem put_cons_lt {x : Bs × Bs} {vs : Vs} {name t : Bs} (hx : x.1 < name) : putV (x :: vs) name t = x :: putV vs name t := by
  have hne : ¬ x.1 = name := by intro e; rw [e] at hx; exact lt_irr _ hx
  have e1 : hasV (x :: vs) name = hasV vs name := by unfold hasV; simp [hne]
  unfold putV
  rw [pos_cons_lt hx, e1, Nat.add_right_comm]
  rfl
theorem put_cons_eq {x : Bs × Bs} {vs : Vs} {name t : Bs} (hx : x.1 = name) : putV (x :: vs) name t = (name, t) :: vs := by
  have hn : ¬ x.1 < name := by rw [hx]; exact lt_irr _
  have e1 : hasV (x :: vs) name = true := by unfold hasV; simp [hx]
  unfold putV
  rw [pos_cons_not hn, e1]
  rfl
theorem put_cons_gt {x : Bs × Bs} {vs : Vs} {name t : Bs} (hs : Srt (x :: vs)) (hx : name < x.1) : putV (x :: vs) name t = (name, t) :: x :: vs := by
  have hn : ¬ x.1 < name := fun h => lt_irr _ (lt_tr h hx)
  have hs2 := List.pairwise_cons.1 hs
  have e1 : hasV (x :: vs) name = false := by
    unfold hasV
    rw [List.any_eq_false]
    intro y hy
    rcases List.mem_cons.1 hy with rfl | hy
    · simp; intro e; rw [e] at hx; exact lt_irr _ hx
    · simp; intro e; have := hs2.1 y hy; rw [e] at this; exact lt_irr _ (lt_tr this hx)
  unfold putV
  rw [pos_cons_not hn, e1]
  rfl
theorem put_mem {vs : Vs} {name t : Bs} {y : Bs × Bs} (h : y ∈ putV vs name t) : y = (name, t) ∨ y ∈ vs := by
  unfold putV at h
  rcases List.mem_append.1 h with h | h
  · exact .inr (List.mem_of_mem_take h)
  · rcases List.mem_cons.1 h with h | h
    · exact .inl h
    · exact .inr (List.mem_of_mem_drop h)
theorem put_srt {vs : Vs} {name t : Bs} (hs : Srt vs) : Srt (putV vs name t) := by
  induction vs with
  | nil => show Srt [(name, t)]; unfold Srt; simp
  | cons x vs ih =>
    have hs2 := List.pairwise_cons.1 hs
    rcases lt_tri x.1 name with h | h | h
    · rw [put_cons_lt h]
      refine List.pairwise_cons.2 ⟨fun y hy => ?_, ih hs2.2⟩
      rcases put_mem hy with rfl | hy
      · exact h
      · exact hs2.1 y hy
    · rw [put_cons_eq h]
      exact List.pairwise_cons.2 ⟨fun y hy => by rw [← h]; exact hs2.1 y hy, hs2.2⟩
    · rw [put_cons_gt hs h]
      exact List.pairwise_cons.2 ⟨fun y hy => by
        rcases List.mem_cons.1 hy with rfl | hy
        · exact h
        · exact lt_tr h (hs2.1 y hy), hs⟩
theorem put_len {vs : Vs} {name t : Bs} (hs : Srt vs) : (putV vs name t).length = if hasV vs name then vs.length else vs.length + 1 := by
  have hp := pos_le vs name
  unfold putV
  rw [List.length_append, List.length_take, List.length_cons, List.length_drop]
  cases h : hasV vs name with
  | true =>
    obtain ⟨hp, _⟩ := val_at hs h
    simp; omega
  | false => simp; omega
theorem put_has {vs : Vs} {name t : Bs} (hs : Srt vs) (h : hasV vs name = true) : putV vs name t = vs.set (posV vs name) (name, t) := by
  obtain ⟨hp, _⟩ := val_at hs h
  unfold putV
  rw [h, List.set_eq_take_append_cons_drop, if_pos hp]
  rfl
theorem put_new {vs : Vs} {name t : Bs} (h : hasV vs name = false) : putV vs name t = vs.take (posV vs name) ++ (name, t) :: vs.drop (posV vs name) := by
  unfold putV
  rw [h]; rfl
theorem del_srt {vs : Vs} {name : Bs} (hs : Srt vs) : Srt (delV vs name) := List.Pairwise.filter _ hs
theorem del_has {vs : Vs} {name : Bs} (hs : Srt vs) (h : hasV vs name = true) : delV vs name = vs.take (posV vs name) ++ vs.drop (posV vs name + 1) := by
  induction vs with
  | nil => cases h
  | cons x vs ih =>
    have hs2 := List.pairwise_cons.1 hs
    rcases lt_tri x.1 name with hx | hx | hx
    · have hne : ¬ x.1 = name := by intro e; rw [e] at hx; exact lt_irr _ hx
      have e1 : hasV (x :: vs) name = hasV vs name := by unfold hasV; simp [hne]
      rw [e1] at h
      have e2 : delV (x :: vs) name = x :: delV vs name := by unfold delV; rw [List.filter_cons]; simp [hne]
      rw [e2, ih hs2.2 h, pos_cons_lt hx]
      rfl
    · have hn : ¬ x.1 < name := by rw [hx]; exact lt_irr _
      have e2 : delV (x :: vs) name = delV vs name := by unfold delV; rw [List.filter_cons]; simp [hx]
      have e3 : delV vs name = vs := by
        unfold delV
        rw [List.filter_eq_self]
        intro y hy
        simp; intro e
        have := hs2.1 y hy
        rw [e, hx] at this
        exact lt_irr _ this
      rw [e2, e3, pos_cons_not hn]
      rfl
    · exfalso
      rw [has_at hs, pos_cons_not (fun h => lt_irr _ (lt_tr h hx))] at h
      simp at h
      rw [h] at hx; exact lt_irr _ hx
theorem del_no {vs : Vs} {name : Bs} (h : hasV vs name = false) : delV vs name = vs := by
  unfold delV
  rw [List.filter_eq_self]
  intro y hy
  simpa using has_not h y hy
end VrM
