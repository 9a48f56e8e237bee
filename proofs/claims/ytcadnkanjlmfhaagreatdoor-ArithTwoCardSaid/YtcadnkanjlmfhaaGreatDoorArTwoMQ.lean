/- DERIVED. Plain mathematics of layer 10: every two numbers with every sign between. -/
import Derived.Test.YtcadnkanjlmfhaaGreatDoorAzQ10
namespace ArM
open PathM WdM
open Go.Proofs.YtcadnkanjlmfhaaGreatDoor.NumM
set_option linter.unusedVariables false

/-- The signs of the law. -/
def twoS : List Bs := [[43], [45], [42], [47], [37], [60, 60], [62, 62], [60], [60, 61], [62], [62, 61], [61, 61], [33, 61], [38], [94], [124]]
def twoP (k : Nat) : Bs := [40, 120, 32] ++ twoS.getD k [] ++ [36, 121, 41]
def twoD (k : Nat) : Bs := [120] ++ twoS.getD k [] ++ [121]
def twoT (k : Nat) : Tm := .pair (twoS.getD k []) (tN 120) (tN 121)
theorem twoP_read : ∀ k, k < 16 → ∃ l, cutL (twoP k) = .ok l ∧ l ≠ [] ∧ readL l = .ok (twoT k) ∧ (twoP k).length ≤ 8192
  | 0, _ => ⟨_, rfl, by simp, rfl, by decide⟩
  | 1, _ => ⟨_, rfl, by simp, rfl, by decide⟩
  | 2, _ => ⟨_, rfl, by simp, rfl, by decide⟩
  | 3, _ => ⟨_, rfl, by simp, rfl, by decide⟩
  | 4, _ => ⟨_, rfl, by simp, rfl, by decide⟩
  | 5, _ => ⟨_, rfl, by simp, rfl, by decide⟩
  | 6, _ => ⟨_, rfl, by simp, rfl, by decide⟩
  | 7, _ => ⟨_, rfl, by simp, rfl, by decide⟩
  | 8, _ => ⟨_, rfl, by simp, rfl, by decide⟩
  | 9, _ => ⟨_, rfl, by simp, rfl, by decide⟩
  | 10, _ => ⟨_, rfl, by simp, rfl, by decide⟩
  | 11, _ => ⟨_, rfl, by simp, rfl, by decide⟩
  | 12, _ => ⟨_, rfl, by simp, rfl, by decide⟩
  | 13, _ => ⟨_, rfl, by simp, rfl, by decide⟩
  | 14, _ => ⟨_, rfl, by simp, rfl, by decide⟩
  | 15, _ => ⟨_, rfl, by simp, rfl, by decide⟩
  | n + 16, h => absurd h (by omega)
theorem twoD_read : ∀ k, k < 16 → ∃ l, cutL (twoD k) = .ok l ∧ l ≠ [] ∧ readL l = .ok (twoT k) ∧ (twoD k).length ≤ 8192
  | 0, _ => ⟨_, rfl, by simp, rfl, by decide⟩
  | 1, _ => ⟨_, rfl, by simp, rfl, by decide⟩
  | 2, _ => ⟨_, rfl, by simp, rfl, by decide⟩
  | 3, _ => ⟨_, rfl, by simp, rfl, by decide⟩
  | 4, _ => ⟨_, rfl, by simp, rfl, by decide⟩
  | 5, _ => ⟨_, rfl, by simp, rfl, by decide⟩
  | 6, _ => ⟨_, rfl, by simp, rfl, by decide⟩
  | 7, _ => ⟨_, rfl, by simp, rfl, by decide⟩
  | 8, _ => ⟨_, rfl, by simp, rfl, by decide⟩
  | 9, _ => ⟨_, rfl, by simp, rfl, by decide⟩
  | 10, _ => ⟨_, rfl, by simp, rfl, by decide⟩
  | 11, _ => ⟨_, rfl, by simp, rfl, by decide⟩
  | 12, _ => ⟨_, rfl, by simp, rfl, by decide⟩
  | 13, _ => ⟨_, rfl, by simp, rfl, by decide⟩
  | 14, _ => ⟨_, rfl, by simp, rfl, by decide⟩
  | 15, _ => ⟨_, rfl, by simp, rfl, by decide⟩
  | n + 16, h => absurd h (by omega)
def vTwo (a b : Int) : Vs := [([120], textL a), ([121], textL b)]
/-- Both texts come to the same. -/
theorem two_same (a b : Int) (k : Nat) (h : k < 16) : evalL (twoD k) (vTwo a b) = evalL (twoP k) (vTwo a b) := by
  obtain ⟨l, h1, h2, h3, h4⟩ := twoP_read k h
  obtain ⟨m, g1, g2, g3, g4⟩ := twoD_read k h
  rw [eval_of h4 (by simp [vTwo]) h1 h2 h3, eval_of g4 (by simp [vTwo]) g1 g2 g3]
theorem twoS_len : ∀ k, (twoS.getD k []).length ≤ 2
  | 0 => by decide
  | 1 => by decide
  | 2 => by decide
  | 3 => by decide
  | 4 => by decide
  | 5 => by decide
  | 6 => by decide
  | 7 => by decide
  | 8 => by decide
  | 9 => by decide
  | 10 => by decide
  | 11 => by decide
  | 12 => by decide
  | 13 => by decide
  | 14 => by decide
  | 15 => by decide
  | n + 16 => by show ([] : Bs).length ≤ 2; decide
end ArM
