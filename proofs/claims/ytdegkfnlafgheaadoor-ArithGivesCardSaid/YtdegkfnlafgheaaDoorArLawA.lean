/- DERIVED. Plain mathematics of layer 10: what the texts of the laws come to by the model: the chapter's examples; sums and products that go round; what doesn't matter. -/
import Derived.Test.YtdegkfnlafgheaaDoorArMath
import Derived.Test.YtdegkfnlafgheaaDoorNumMath2
namespace ArM
open PathM WdM
open Go.Proofs.YtdegkfnlafgheaaDoor.NumM
set_option linter.unusedVariables false

theorem wrapL_eq (n : Int) : ∃ k : Int, wrapL n = n + k * 18446744073709551616 := by
  refine ⟨-((n + 9223372036854775808) / 18446744073709551616), ?_⟩
  unfold wrapL
  rw [Go.IntKind.wrap_i64]
  omega
theorem wrapL_add (n k : Int) : wrapL (n + k * 18446744073709551616) = wrapL n := by
  unfold wrapL
  rw [Go.IntKind.wrap_i64, Go.IntKind.wrap_i64]
  omega
theorem wrapL_in (n : Int) (h0 : -9223372036854775808 ≤ n) (h1 : n ≤ 9223372036854775807) : wrapL n = n := by
  unfold wrapL
  rw [Go.IntKind.wrap_i64]
  omega
theorem wrapL_bd (n : Int) : -9223372036854775808 ≤ wrapL n ∧ wrapL n ≤ 9223372036854775807 := by
  unfold wrapL
  rw [Go.IntKind.wrap_i64]
  omega
theorem wrap_addl (a b : Int) : wrapL (wrapL a + b) = wrapL (a + b) := by
  obtain ⟨k, hk⟩ := wrapL_eq a
  rw [hk, show a + k * 18446744073709551616 + b = a + b + k * 18446744073709551616 by omega, wrapL_add]
theorem wrap_addr (a b : Int) : wrapL (a + wrapL b) = wrapL (a + b) := by rw [Int.add_comm, wrap_addl, Int.add_comm]
theorem wrap_subl (a b : Int) : wrapL (wrapL a - b) = wrapL (a - b) := by rw [Int.sub_eq_add_neg, wrap_addl, ← Int.sub_eq_add_neg]
theorem wrap_subr (a b : Int) : wrapL (a - wrapL b) = wrapL (a - b) := by
  obtain ⟨k, hk⟩ := wrapL_eq b
  rw [hk, show a - (b + k * 18446744073709551616) = a - b + (-k) * 18446744073709551616 by omega, wrapL_add]
theorem wrap_mull (a b : Int) : wrapL (wrapL a * b) = wrapL (a * b) := by
  obtain ⟨k, hk⟩ := wrapL_eq a
  rw [hk, Int.add_mul, Int.mul_assoc, Int.mul_comm 18446744073709551616 b, ← Int.mul_assoc, wrapL_add]
theorem wrap_mulr (a b : Int) : wrapL (a * wrapL b) = wrapL (a * b) := by rw [Int.mul_comm, wrap_mull, Int.mul_comm]
/-- All the ones but for those of a number. -/
theorem not_is (a : Int) (h0 : -9223372036854775808 ≤ a) (h1 : a ≤ 9223372036854775807) : bvL (· ^^^ ·) (-1) a = -a - 1 := by
  unfold bvL
  have e : (BitVec.ofInt 64 (-1) ^^^ BitVec.ofInt 64 a) = ~~~ (BitVec.ofInt 64 a) := by
    rw [show BitVec.ofInt 64 (-1) = BitVec.allOnes 64 from rfl, BitVec.allOnes_xor]
  show wrapL ((BitVec.ofInt 64 (-1) ^^^ BitVec.ofInt 64 a).toNat) = _
  rw [e, BitVec.toNat_not]
  have hn : ((BitVec.ofInt 64 a).toNat : Int) = a % 18446744073709551616 := by
    rw [BitVec.toNat_ofInt]
    have := Int.emod_nonneg a (show (18446744073709551616 : Int) ≠ 0 by omega)
    show ((a % (18446744073709551616 : Int)).toNat : Int) = _
    omega
  have hlt := (BitVec.ofInt 64 a).isLt
  generalize (BitVec.ofInt 64 a).toNat = t at *
  unfold wrapL
  rw [Go.IntKind.wrap_i64]
  omega
theorem eval_of {s : Bs} {v : Vs} {l : List Tok} {t : Tm} (hs : s.length ≤ 8192) (hv : v.length ≤ 64) (hc : cutL s = .ok l) (hl : l ≠ []) (ht : readL l = .ok t) : evalL s v = reckonL t v := by
  unfold evalL
  rw [if_neg (by omega), hc]
  dsimp only
  rw [if_neg (by simpa using hl), ht]
theorem text_ne (a : Int) : textL a ≠ [] := by
  unfold textL
  split
  · simp
  · exact digs_ne _ _
/-- A variable that has a number. -/
theorem number_text {v : Vs} {n : Bs} {a : Int} (h : findV v n = some (textL a)) (h0 : -9223372036854775808 ≤ a) (h1 : a ≤ 9223372036854775807) : numberL v n = .ok a := by
  unfold numberL
  rw [h]
  dsimp only
  rw [if_neg (text_ne a), if_pos (dec_text a h0 h1).2, (dec_text a h0 h1).1]
def v3 (a b c : Int) : Vs := [([97], textL a), ([98], textL b), ([99], textL c)]
theorem v3_a (a b c : Int) (h : -9223372036854775808 ≤ a ∧ a ≤ 9223372036854775807) : numberL (v3 a b c) [97] = .ok a := number_text rfl h.1 h.2
theorem v3_b (a b c : Int) (h : -9223372036854775808 ≤ b ∧ b ≤ 9223372036854775807) : numberL (v3 a b c) [98] = .ok b := number_text rfl h.1 h.2
theorem v3_c (a b c : Int) (h : -9223372036854775808 ≤ c ∧ c ≤ 9223372036854775807) : numberL (v3 a b c) [99] = .ok c := number_text rfl h.1 h.2
def tN (c : UInt8) : Tm := .named [c]
def tP (s : Bs) (l r : Tm) : Tm := .pair s l r
/-- The texts of the law, and what is read of them. -/
def grpS : List Bs := [[40, 97, 43, 98, 41, 43, 99], [97, 43, 40, 99, 43, 98, 41], [97, 42, 98, 42, 99], [99, 42, 40, 97, 42, 98, 41], [97, 42, 40, 98, 43, 99, 41], [97, 42, 98, 43, 97, 42, 99], [97, 45, 40, 98, 45, 99, 41], [97, 45, 98, 43, 99], [45, 97], [126, 97, 43, 49]]
def grpT : List Tm := [.pair [43] (.pair [43] (tN 97) (tN 98)) (tN 99), .pair [43] (tN 97) (.pair [43] (tN 99) (tN 98)), .pair [42] (.pair [42] (tN 97) (tN 98)) (tN 99), .pair [42] (tN 99) (.pair [42] (tN 97) (tN 98)),
  .pair [42] (tN 97) (.pair [43] (tN 98) (tN 99)), .pair [43] (.pair [42] (tN 97) (tN 98)) (.pair [42] (tN 97) (tN 99)), .pair [45] (tN 97) (.pair [45] (tN 98) (tN 99)), .pair [43] (.pair [45] (tN 97) (tN 98)) (tN 99), .led [45] (tN 97), .pair [43] (.led [126] (tN 97)) (.const 1)]
theorem grp_read : ∀ i, i < 10 → ∃ l, cutL (grpS.getD i []) = .ok l ∧ l ≠ [] ∧ readL l = .ok (grpT.getD i (.const 0)) ∧ (grpS.getD i []).length ≤ 8192
  | 0, _ => ⟨_, rfl, by simp, rfl, by decide⟩
  | 1, _ => ⟨_, rfl, by simp, rfl, by decide⟩
  | 2, _ => ⟨_, rfl, by simp, rfl, by decide⟩
  | 3, _ => ⟨_, rfl, by simp, rfl, by decide⟩
  | 4, _ => ⟨_, rfl, by simp, rfl, by decide⟩
  | 5, _ => ⟨_, rfl, by simp, rfl, by decide⟩
  | 6, _ => ⟨_, rfl, by simp, rfl, by decide⟩
  | 7, _ => ⟨_, rfl, by simp, rfl, by decide⟩
  | 8, _ => ⟨_, rfl, by simp, rfl, by decide⟩
  | 9, _ => ⟨_, rfl, by simp, rfl, by decide⟩
  | n + 10, h => absurd h (by omega)
theorem grp_eval (a b c : Int) (i : Nat) (h : i < 10) : evalL (grpS.getD i []) (v3 a b c) = reckonL (grpT.getD i (.const 0)) (v3 a b c) := by
  obtain ⟨l, h1, h2, h3, h4⟩ := grp_read i h
  exact eval_of h4 (by simp [v3]) h1 h2 h3
theorem rk_n {v : Vs} {c : UInt8} {a : Int} (h : numberL v [c] = .ok a) : reckonL (tN c) v = .ok (a, v) := by
  show (match numberL v [c] with | .error e => _ | .ok n => _) = _
  rw [h]
theorem rk_p {v v2 v3 : Vs} {s : Bs} {l r : Tm} {a b n : Int} (hl : reckonL l v = .ok (a, v2)) (hr : reckonL r v2 = .ok (b, v3)) (hs : settledL s a = false) (hb : betweenL s a b = .ok n) : reckonL (.pair s l r) v = .ok (n, v3) := by
  rw [reckonL, hl]
  dsimp only
  rw [if_neg (by rw [hs]; simp), hr]
  dsimp only
  rw [hb]
theorem rk_l {v v2 : Vs} {s : Bs} {t : Tm} {a : Int} (h : reckonL t v = .ok (a, v2)) : reckonL (.led s t) v = .ok (ofL s a, v2) := by
  rw [reckonL, h]
/-- What each comes to. -/
def grpN (a b c : Int) : List Int := [wrapL (wrapL (a + b) + c), wrapL (a + wrapL (c + b)), wrapL (wrapL (a * b) * c), wrapL (c * wrapL (a * b)), wrapL (a * wrapL (b + c)), wrapL (wrapL (a * b) + wrapL (a * c)), wrapL (a - wrapL (b - c)), wrapL (wrapL (a - b) + c), wrapL (-a), wrapL (bvL (· ^^^ ·) (-1) a + 1)]
theorem grp_rk (a b c : Int) (ha : -9223372036854775808 ≤ a ∧ a ≤ 9223372036854775807) (hb : -9223372036854775808 ≤ b ∧ b ≤ 9223372036854775807) (hc : -9223372036854775808 ≤ c ∧ c ≤ 9223372036854775807) :
    ∀ i, i < 10 → reckonL (grpT.getD i (.const 0)) (v3 a b c) = .ok ((grpN a b c).getD i 0, v3 a b c) := by
  have A := rk_n (v3_a a b c ha)
  have B := rk_n (v3_b a b c hb)
  have C := rk_n (v3_c a b c hc)
  intro i hi
  match i, hi with
  | 0, _ => exact rk_p (rk_p A B rfl rfl) C rfl rfl
  | 1, _ => exact rk_p A (rk_p C B rfl rfl) rfl rfl
  | 2, _ => exact rk_p (rk_p A B rfl rfl) C rfl rfl
  | 3, _ => exact rk_p C (rk_p A B rfl rfl) rfl rfl
  | 4, _ => exact rk_p A (rk_p B C rfl rfl) rfl rfl
  | 5, _ => exact rk_p (rk_p A B rfl rfl) (rk_p A C rfl rfl) rfl rfl
  | 6, _ => exact rk_p A (rk_p B C rfl rfl) rfl rfl
  | 7, _ => exact rk_p (rk_p A B rfl rfl) C rfl rfl
  | 8, _ => exact rk_l A
  | 9, _ => exact rk_p (rk_l A) rfl rfl rfl
  | n + 10, h => exact absurd h (by omega)
theorem grp_same (a b c : Int) (ha : -9223372036854775808 ≤ a ∧ a ≤ 9223372036854775807) : ∀ j, j < 5 → (grpN a b c).getD (2 * j) 0 = (grpN a b c).getD (2 * j + 1) 0 := by
  intro j hj
  match j, hj with
  | 0, _ =>
    show wrapL (wrapL (a + b) + c) = wrapL (a + wrapL (c + b))
    rw [wrap_addl, wrap_addr]; congr 1; omega
  | 1, _ =>
    show wrapL (wrapL (a * b) * c) = wrapL (c * wrapL (a * b))
    rw [Int.mul_comm]
  | 2, _ =>
    show wrapL (a * wrapL (b + c)) = wrapL (wrapL (a * b) + wrapL (a * c))
    rw [wrap_mulr, wrap_addl, wrap_addr, Int.mul_add]
  | 3, _ =>
    show wrapL (a - wrapL (b - c)) = wrapL (wrapL (a - b) + c)
    rw [wrap_subr, wrap_addl]; congr 1; omega
  | 4, _ =>
    show wrapL (-a) = wrapL (bvL (· ^^^ ·) (-1) a + 1)
    rw [not_is a ha.1 ha.2]; congr 1; omega
  | n + 5, h => exact absurd h (by omega)
/-- All of ArithGroups. -/
theorem groups_all (a b c : Int) (ha : -9223372036854775808 ≤ a ∧ a ≤ 9223372036854775807) (hb : -9223372036854775808 ≤ b ∧ b ≤ 9223372036854775807) (hc : -9223372036854775808 ≤ c ∧ c ≤ 9223372036854775807) (i : Nat) (hi : i < 10) :
    evalL (grpS.getD i []) (v3 a b c) = .ok ((grpN a b c).getD i 0, v3 a b c) := (grp_eval a b c i hi).trans (grp_rk a b c ha hb hc i hi)
/-- The chapter's examples. -/
theorem ex_1 : evalL [49, 43, 50, 42, 51] [] = .ok (7, []) := rfl
theorem ex_2 : evalL [120, 61, 53] [] = .ok (5, [([120], [53])]) := rfl
theorem ex_3 : evalL [49, 124, 124, 40, 121, 61, 50, 41] [] = .ok (1, []) := rfl
theorem ex_4 : evalL [55, 47, 45, 50] [] = .ok (-3, []) := rfl
theorem ex_5 : evalL [48, 49, 48, 43, 48, 120, 49, 48] [] = .ok (24, []) := rfl
end ArM
