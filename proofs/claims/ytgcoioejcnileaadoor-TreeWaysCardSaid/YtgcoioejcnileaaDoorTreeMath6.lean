/- DERIVED. Plain mathematics of layer 4: other numbers make no other tree. -/
import Derived.Test.YtgcoioejcnileaaDoorTreeMath5
namespace TreeM
open PathM
set_option linter.unusedVariables false

/-- Another number; the root's stays. -/
def movedI (b : Nat) (id : Int) : Int := if id = 1 then 1 else 2 * id + b
theorem moved_lt {b : Nat} {x y : Int} (hx : 1 ≤ x) (h : x < y) : movedI b x < movedI b y := by
  unfold movedI
  rw [if_neg (show ¬ y = 1 by omega)]
  split <;> omega
theorem moved_inj {b : Nat} {x y : Int} (hx : 1 ≤ x) (hy : 1 ≤ y) (h : movedI b x = movedI b y) : x = y := by
  rcases Int.lt_trichotomy x y with hlt | rfl | hlt
  · have := moved_lt (b := b) hx hlt; omega
  · rfl
  · have := moved_lt (b := b) hy hlt; omega
def farN (A : List Nd) (b : Nat) : List Nd := A.map (reN (movedI b))
theorem far_at {A : List Nd} {b i : Nat} (h : i < A.length) : ndAt (farN A b) i = reN (movedI b) (ndAt A i) := by simp [farN, ndAt, h]
theorem far_iso {A : List Nd} {b : Nat} (hpos : ∀ i, i < A.length → 1 ≤ (ndAt A i).id) (hri : Rising A) (hled : ∀ x ∈ flat A, place A x.to < A.length) : Iso A (farN A b) (movedI b) (fun i => i) := by
  refine ⟨by simp [farN], ?_, fun i hi => hi, ?_, hled, ?_⟩
  · intro i j hij hj
    have hj : j < A.length := by simpa [farN] using hj
    rw [far_at (by omega), far_at hj]
    exact moved_lt (hpos i (by omega)) (hri i j hij hj)
  · intro i j hi hj e
    exact moved_inj (hpos i hi) (hpos j hj) e
  · intro i hi
    exact far_at hi
theorem check_pos {t : Tr} (h : checkB t = true) {i : Nat} (hi : i < t.nodes.length) : 1 ≤ (ndAt t.nodes i).id := by
  obtain ⟨_, _, k3, _⟩ := head_parts (check_parts h).1
  by_cases e : i = 0
  · rw [e, k3]; omega
  · have := check_rising h 0 i (by omega) hi
    omega
/-- A tree with other numbers may be, and is numbered anew as it was. -/
theorem far_check {t : Tr} {b : Nat} {last rn rb : Int} (h : checkB t = true) (hl : ∀ i, i < t.nodes.length → movedI b (ndAt t.nodes i).id ≤ last) :
    checkB ⟨farN t.nodes b, last, rn, rb⟩ = true ∧ canonN (farN t.nodes b) (way (farN t.nodes b)) = canonN t.nodes (way t.nodes) := by
  obtain ⟨hh, hn, hp, hled, hr⟩ := check_parts h
  obtain ⟨k1, k2, k3, k4⟩ := head_parts hh
  have hri := check_rising h
  have hI := far_iso (b := b) (fun i hi => check_pos h hi) hri (fun x hx => (led_mem hled hx).1)
  have r1 : movedI b 1 = 1 := by unfold movedI; rw [if_pos rfl]
  have r2 : place t.nodes 1 < t.nodes.length := place_lt (i := 0) (by omega) k3
  have hlen : (farN t.nodes b).length = t.nodes.length := by simp [farN]
  refine ⟨check_of ?_ ?_ (hI.nodesB hri hp) (hI.ledB hri r1 r2 hled) (hI.reachedB r1 r2 hr), hI.canon r1 r2⟩
  · unfold headB
    simp only [decide_eq_true_eq]
    rw [hlen, far_at (by omega)]
    exact ⟨k1, k2, by show movedI b (ndAt t.nodes 0).id = 1; rw [k3, r1], k4⟩
  · refine allTo_iff.2 (fun i hi => ?_)
    have hi : i < t.nodes.length := by rw [← hlen]; exact hi
    show okNum (farN t.nodes b) last i = true
    unfold okNum
    rw [far_at hi]
    simp only [Bool.and_eq_true, decide_eq_true_eq, Bool.or_eq_true, beq_iff_eq]
    refine ⟨hl i hi, ?_⟩
    by_cases e : i = 0
    · exact .inl e
    · right
      rw [far_at (by omega)]
      exact moved_lt (check_pos h (by omega)) (hri _ _ (by omega) hi)

end TreeM
