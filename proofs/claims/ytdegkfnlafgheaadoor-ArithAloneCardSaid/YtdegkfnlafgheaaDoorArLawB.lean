/- DERIVED. Plain mathematics of layer 10: what doesn't matter is not reckoned. -/
import Derived.Test.YtdegkfnlafgheaaDoorArLawA
namespace ArM
open PathM WdM
open Go.Proofs.YtdegkfnlafgheaaDoor.NumM
set_option linter.unusedVariables false

def v1 (a : Int) : Vs := [([97], textL a)]
theorem v1_a (a : Int) (h : -9223372036854775808 ≤ a ∧ a ≤ 9223372036854775807) : numberL (v1 a) [97] = .ok a := number_text rfl h.1 h.2
def lzS : List Bs := [[40, 97, 33, 61, 48, 41, 38, 38, 40, 120, 61, 49, 47, 97, 41], [97, 61, 61, 48, 124, 124, 49, 47, 97, 61, 61, 50], [97, 32, 63, 32, 55, 32, 58, 32, 40, 121, 61, 49, 47, 97, 41]]
def lzT : List Tm := [.pair [38, 38] (.pair [33, 61] (tN 97) (.const 0)) (.gift [] [120] (.pair [47] (.const 1) (tN 97))), .pair [124, 124] (.pair [61, 61] (tN 97) (.const 0)) (.pair [61, 61] (.pair [47] (.const 1) (tN 97)) (.const 2)), .choice (tN 97) (.const 7) (.gift [] [121] (.pair [47] (.const 1) (tN 97)))]
theorem lz_read : ∀ i, i < 3 → ∃ l, cutL (lzS.getD i []) = .ok l ∧ l ≠ [] ∧ readL l = .ok (lzT.getD i (.const 0)) ∧ (lzS.getD i []).length ≤ 8192
  | 0, _ => ⟨_, rfl, by simp, rfl, by decide⟩
  | 1, _ => ⟨_, rfl, by simp, rfl, by decide⟩
  | 2, _ => ⟨_, rfl, by simp, rfl, by decide⟩
  | n + 3, h => absurd h (by omega)
theorem lz_eval (a : Int) (i : Nat) (h : i < 3) : evalL (lzS.getD i []) (v1 a) = reckonL (lzT.getD i (.const 0)) (v1 a) := by
  obtain ⟨l, h1, h2, h3, h4⟩ := lz_read i h
  exact eval_of h4 (by simp [v1]) h1 h2 h3
theorem rk_err {v v2 v3 : Vs} {s : Bs} {l r : Tm} {a b e : Int} (hl : reckonL l v = .ok (a, v2)) (hr : reckonL r v2 = .ok (b, v3)) (hs : settledL s a = false) (hb : betweenL s a b = .error e) : reckonL (.pair s l r) v = .error e := by
  rw [reckonL, hl]
  dsimp only
  rw [if_neg (by rw [hs]; simp), hr]
  dsimp only
  rw [hb]
theorem rk_set {v v2 : Vs} {s : Bs} {l r : Tm} {a : Int} (hl : reckonL l v = .ok (a, v2)) (hs : settledL s a = true) : reckonL (.pair s l r) v = .ok (truthL (a != 0), v2) := by
  rw [reckonL, hl]
  dsimp only
  rw [if_pos hs]
theorem rk_gift {v v2 v3 : Vs} {n : Bs} {t : Tm} {a : Int} (h : reckonL t v = .ok (a, v2)) (hg : giveL v2 n a = .ok v3) : reckonL (.gift [] n t) v = .ok (a, v3) := by
  rw [reckonL, h]
  dsimp only
  rw [if_pos rfl]
  dsimp only
  rw [hg]
theorem rk_gerr {v : Vs} {n b : Bs} {t : Tm} {e : Int} (h : reckonL t v = .error e) : reckonL (.gift b n t) v = .error e := by
  rw [reckonL, h]
theorem one_div (a : Int) (h : a ≠ 0) (h0 : -9223372036854775808 ≤ a) (h1 : a ≤ 9223372036854775807) : wrapL (Int.tdiv 1 a) = if a = 1 then 1 else if a = -1 then -1 else 0 := by
  by_cases e : a = 1
  · subst e; rfl
  · by_cases e2 : a = -1
    · subst e2; rfl
    · rw [if_neg e, if_neg e2]
      have : Int.tdiv 1 a = 0 := by
        rcases Int.lt_or_gt_of_ne h with hl | hl
        · have := Int.tdiv_eq_zero_of_lt (a := 1) (b := -a) (by omega) (by omega)
          rw [Int.tdiv_neg] at this
          omega
        · exact Int.tdiv_eq_zero_of_lt (by omega) (by omega)
      rw [this]; rfl
theorem lz_zero (a : Int) (h : a = 0) : evalL (lzS.getD 0 []) (v1 a) = .ok (0, v1 a) ∧ evalL (lzS.getD 1 []) (v1 a) = .ok (1, v1 a) ∧ evalL (lzS.getD 2 []) (v1 a) = .error 42 := by
  subst h
  exact ⟨(lz_eval 0 0 (by omega)).trans rfl, (lz_eval 0 1 (by omega)).trans rfl, (lz_eval 0 2 (by omega)).trans rfl⟩
/-- Is a number one, or less one? -/
def oneL (a : Int) : Int := if a = 1 ∨ a = -1 then 1 else 0
theorem lz_more (a : Int) (h : a ≠ 0) (h0 : -9223372036854775808 ≤ a) (h1 : a ≤ 9223372036854775807) : (∃ t, evalL (lzS.getD 0 []) (v1 a) = .ok (oneL a, v1 a ++ [([120], t)])) ∧ evalL (lzS.getD 1 []) (v1 a) = .ok (0, v1 a) ∧ evalL (lzS.getD 2 []) (v1 a) = .ok (7, v1 a) := by
  have A := rk_n (v1_a a ⟨h0, h1⟩)
  have hd := one_div a h h0 h1
  have D : reckonL (.pair [47] (.const 1) (tN 97)) (v1 a) = .ok (wrapL (Int.tdiv 1 a), v1 a) := rk_p rfl A rfl (by show (if a = 0 then _ else _) = _; rw [if_neg h])
  have N : reckonL (.pair [33, 61] (tN 97) (.const 0)) (v1 a) = .ok (1, v1 a) := rk_p A rfl rfl (by show Except.ok (truthL (a != 0)) = _; rw [show (a != 0) = true by simpa using h]; rfl)
  have Z : reckonL (.pair [61, 61] (tN 97) (.const 0)) (v1 a) = .ok (0, v1 a) := rk_p A rfl rfl (by show Except.ok (truthL (a == 0)) = _; rw [show (a == 0) = false by simpa using h]; rfl)
  refine ⟨?_, ?_, ?_⟩
  · refine ⟨textL (wrapL (Int.tdiv 1 a)), (lz_eval a 0 (by omega)).trans (rk_p N (rk_gift D rfl) rfl ?_)⟩
    rw [hd]
    show Except.ok (truthL (holdsL [38, 38] 1 _)) = _
    unfold oneL
    by_cases e : a = 1
    · rw [if_pos e, if_pos (.inl e)]; rfl
    · by_cases e2 : a = -1
      · rw [if_neg e, if_pos e2, if_pos (.inr e2)]; rfl
      · rw [if_neg e, if_neg e2, if_neg (by rintro (x | x) <;> contradiction)]; rfl
  · have E : reckonL (.pair [61, 61] (.pair [47] (.const 1) (tN 97)) (.const 2)) (v1 a) = .ok (0, v1 a) := rk_p D rfl rfl (by
      rw [hd]
      show Except.ok (truthL (_ == 2)) = _
      by_cases e : a = 1
      · rw [if_pos e]; rfl
      · by_cases e2 : a = -1
        · rw [if_neg e, if_pos e2]; rfl
        · rw [if_neg e, if_neg e2]; rfl)
    exact (lz_eval a 1 (by omega)).trans (rk_p Z E rfl rfl)
  · refine (lz_eval a 2 (by omega)).trans ?_
    show reckonL (.choice (tN 97) (.const 7) _) (v1 a) = _
    rw [reckonL, A]
    dsimp only
    rw [if_pos (by simpa using h)]
    rfl
end ArM
