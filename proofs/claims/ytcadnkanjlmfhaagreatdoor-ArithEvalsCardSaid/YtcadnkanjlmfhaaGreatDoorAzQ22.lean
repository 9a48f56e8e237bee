/- DERIVED. Texts of this claim, joined: ArRTwo. -/
import Derived.Test.YtcadnkanjlmfhaaGreatDoorAzQ17
namespace Go.Proofs.YtcadnkanjlmfhaaGreatDoor.Ar
open Go.RowKit
open PathM WdM ArM
open Go.Proofs.YtcadnkanjlmfhaaGreatDoor.Wd
set_option linter.unusedVariables false

theorem rtruth_any (b : Bool) (w : World) : Calls Tryz.prog 33 #[.bool b] w fun e w' => e = .returned (.int .i64 (truthL b)) ∧ w' = w := by
  cases b
  all_goals
    go_enter Tryz.func33, Tryz.ntmps33
    go_wp2
    go_ret
    exact ⟨rfl, rfl⟩
def TwoP (s : Bs) (a b : Int) (w : World) : Prop := Calls Tryz.prog 31 #[.string (nm s), .int .i64 a, .int .i64 b] w fun e w' => e = .returned (pairE (betweenL s a b)) ∧ w' = w
set_option maxRecDepth 100000 in
set_option maxHeartbeats 1600000 in
theorem two_add (a b : Int) (w : World) : TwoP [43] a b w := by
  unfold TwoP
  have hr : betweenL [43] a b = .ok (wrapL (a + b)) := rfl
  have q0 : ((nm [43]).toList == [47]) = false := by rw [str_is]; rfl
  have q1 : ((nm [43]).toList == [37]) = false := by rw [str_is]; rfl
  have q2 : ((nm [43]).toList == [60, 60]) = false := by rw [str_is]; rfl
  have q3 : ((nm [43]).toList == [62, 62]) = false := by rw [str_is]; rfl
  have q4 : ((nm [43]).toList == [43]) = true := by rw [str_is]; rfl
  have q5 : ((nm [43]).toList == [45]) = false := by rw [str_is]; rfl
  have q6 : ((nm [43]).toList == [42]) = false := by rw [str_is]; rfl
  have q7 : ((nm [43]).toList == [60]) = false := by rw [str_is]; rfl
  have q8 : ((nm [43]).toList == [62, 61]) = false := by rw [str_is]; rfl
  have q9 : ((nm [43]).toList == [62]) = false := by rw [str_is]; rfl
  have q10 : ((nm [43]).toList == [60, 61]) = false := by rw [str_is]; rfl
  have q11 : ((nm [43]).toList == [61, 61]) = false := by rw [str_is]; rfl
  have q12 : ((nm [43]).toList == [33, 61]) = false := by rw [str_is]; rfl
  have q13 : ((nm [43]).toList == [38]) = false := by rw [str_is]; rfl
  have q14 : ((nm [43]).toList == [94]) = false := by rw [str_is]; rfl
  rw [hr]
  generalize nm [43] = S at *
  clear hr
  go_enter Tryz.func31, Tryz.ntmps31
  go_wp2_with fail
  go_ret2
  exact ⟨ret_pair (by first | rfl | (rw [wrapL_64]; rfl)), rfl⟩
set_option maxRecDepth 100000 in
set_option maxHeartbeats 1600000 in
theorem two_sub (a b : Int) (w : World) : TwoP [45] a b w := by
  unfold TwoP
  have hr : betweenL [45] a b = .ok (wrapL (a - b)) := rfl
  have q0 : ((nm [45]).toList == [47]) = false := by rw [str_is]; rfl
  have q1 : ((nm [45]).toList == [37]) = false := by rw [str_is]; rfl
  have q2 : ((nm [45]).toList == [60, 60]) = false := by rw [str_is]; rfl
  have q3 : ((nm [45]).toList == [62, 62]) = false := by rw [str_is]; rfl
  have q4 : ((nm [45]).toList == [43]) = false := by rw [str_is]; rfl
  have q5 : ((nm [45]).toList == [45]) = true := by rw [str_is]; rfl
  have q6 : ((nm [45]).toList == [42]) = false := by rw [str_is]; rfl
  have q7 : ((nm [45]).toList == [60]) = false := by rw [str_is]; rfl
  have q8 : ((nm [45]).toList == [62, 61]) = false := by rw [str_is]; rfl
  have q9 : ((nm [45]).toList == [62]) = false := by rw [str_is]; rfl
  have q10 : ((nm [45]).toList == [60, 61]) = false := by rw [str_is]; rfl
  have q11 : ((nm [45]).toList == [61, 61]) = false := by rw [str_is]; rfl
  have q12 : ((nm [45]).toList == [33, 61]) = false := by rw [str_is]; rfl
  have q13 : ((nm [45]).toList == [38]) = false := by rw [str_is]; rfl
  have q14 : ((nm [45]).toList == [94]) = false := by rw [str_is]; rfl
  rw [hr]
  generalize nm [45] = S at *
  clear hr
  go_enter Tryz.func31, Tryz.ntmps31
  go_wp2_with fail
  go_ret2
  exact ⟨ret_pair (by first | rfl | (rw [wrapL_64]; rfl)), rfl⟩
set_option maxRecDepth 100000 in
set_option maxHeartbeats 1600000 in
theorem two_mul (a b : Int) (w : World) : TwoP [42] a b w := by
  unfold TwoP
  have hr : betweenL [42] a b = .ok (wrapL (a * b)) := rfl
  have q0 : ((nm [42]).toList == [47]) = false := by rw [str_is]; rfl
  have q1 : ((nm [42]).toList == [37]) = false := by rw [str_is]; rfl
  have q2 : ((nm [42]).toList == [60, 60]) = false := by rw [str_is]; rfl
  have q3 : ((nm [42]).toList == [62, 62]) = false := by rw [str_is]; rfl
  have q4 : ((nm [42]).toList == [43]) = false := by rw [str_is]; rfl
  have q5 : ((nm [42]).toList == [45]) = false := by rw [str_is]; rfl
  have q6 : ((nm [42]).toList == [42]) = true := by rw [str_is]; rfl
  have q7 : ((nm [42]).toList == [60]) = false := by rw [str_is]; rfl
  have q8 : ((nm [42]).toList == [62, 61]) = false := by rw [str_is]; rfl
  have q9 : ((nm [42]).toList == [62]) = false := by rw [str_is]; rfl
  have q10 : ((nm [42]).toList == [60, 61]) = false := by rw [str_is]; rfl
  have q11 : ((nm [42]).toList == [61, 61]) = false := by rw [str_is]; rfl
  have q12 : ((nm [42]).toList == [33, 61]) = false := by rw [str_is]; rfl
  have q13 : ((nm [42]).toList == [38]) = false := by rw [str_is]; rfl
  have q14 : ((nm [42]).toList == [94]) = false := by rw [str_is]; rfl
  rw [hr]
  generalize nm [42] = S at *
  clear hr
  go_enter Tryz.func31, Tryz.ntmps31
  go_wp2_with fail
  go_ret2
  exact ⟨ret_pair (by first | rfl | (rw [wrapL_64]; rfl)), rfl⟩
set_option maxRecDepth 100000 in
set_option maxHeartbeats 1600000 in
theorem two_and (a b : Int) (w : World) : TwoP [38] a b w := by
  unfold TwoP
  have hr : betweenL [38] a b = .ok (bvL (· &&& ·) a b) := rfl
  have q0 : ((nm [38]).toList == [47]) = false := by rw [str_is]; rfl
  have q1 : ((nm [38]).toList == [37]) = false := by rw [str_is]; rfl
  have q2 : ((nm [38]).toList == [60, 60]) = false := by rw [str_is]; rfl
  have q3 : ((nm [38]).toList == [62, 62]) = false := by rw [str_is]; rfl
  have q4 : ((nm [38]).toList == [43]) = false := by rw [str_is]; rfl
  have q5 : ((nm [38]).toList == [45]) = false := by rw [str_is]; rfl
  have q6 : ((nm [38]).toList == [42]) = false := by rw [str_is]; rfl
  have q7 : ((nm [38]).toList == [60]) = false := by rw [str_is]; rfl
  have q8 : ((nm [38]).toList == [62, 61]) = false := by rw [str_is]; rfl
  have q9 : ((nm [38]).toList == [62]) = false := by rw [str_is]; rfl
  have q10 : ((nm [38]).toList == [60, 61]) = false := by rw [str_is]; rfl
  have q11 : ((nm [38]).toList == [61, 61]) = false := by rw [str_is]; rfl
  have q12 : ((nm [38]).toList == [33, 61]) = false := by rw [str_is]; rfl
  have q13 : ((nm [38]).toList == [38]) = true := by rw [str_is]; rfl
  have q14 : ((nm [38]).toList == [94]) = false := by rw [str_is]; rfl
  rw [hr]
  generalize nm [38] = S at *
  clear hr
  go_enter Tryz.func31, Tryz.ntmps31
  go_wp2_with fail
  go_ret2
  exact ⟨ret_pair (by first | rfl | (rw [wrapL_64]; rfl)), rfl⟩
set_option maxRecDepth 100000 in
set_option maxHeartbeats 1600000 in
theorem two_xor (a b : Int) (w : World) : TwoP [94] a b w := by
  unfold TwoP
  have hr : betweenL [94] a b = .ok (bvL (· ^^^ ·) a b) := rfl
  have q0 : ((nm [94]).toList == [47]) = false := by rw [str_is]; rfl
  have q1 : ((nm [94]).toList == [37]) = false := by rw [str_is]; rfl
  have q2 : ((nm [94]).toList == [60, 60]) = false := by rw [str_is]; rfl
  have q3 : ((nm [94]).toList == [62, 62]) = false := by rw [str_is]; rfl
  have q4 : ((nm [94]).toList == [43]) = false := by rw [str_is]; rfl
  have q5 : ((nm [94]).toList == [45]) = false := by rw [str_is]; rfl
  have q6 : ((nm [94]).toList == [42]) = false := by rw [str_is]; rfl
  have q7 : ((nm [94]).toList == [60]) = false := by rw [str_is]; rfl
  have q8 : ((nm [94]).toList == [62, 61]) = false := by rw [str_is]; rfl
  have q9 : ((nm [94]).toList == [62]) = false := by rw [str_is]; rfl
  have q10 : ((nm [94]).toList == [60, 61]) = false := by rw [str_is]; rfl
  have q11 : ((nm [94]).toList == [61, 61]) = false := by rw [str_is]; rfl
  have q12 : ((nm [94]).toList == [33, 61]) = false := by rw [str_is]; rfl
  have q13 : ((nm [94]).toList == [38]) = false := by rw [str_is]; rfl
  have q14 : ((nm [94]).toList == [94]) = true := by rw [str_is]; rfl
  rw [hr]
  generalize nm [94] = S at *
  clear hr
  go_enter Tryz.func31, Tryz.ntmps31
  go_wp2_with fail
  go_ret2
  exact ⟨ret_pair (by first | rfl | (rw [wrapL_64]; rfl)), rfl⟩
set_option maxRecDepth 100000 in
set_option maxHeartbeats 1600000 in
theorem two_or (a b : Int) (w : World) : TwoP [124] a b w := by
  unfold TwoP
  have hr : betweenL [124] a b = .ok (bvL (· ||| ·) a b) := rfl
  have q0 : ((nm [124]).toList == [47]) = false := by rw [str_is]; rfl
  have q1 : ((nm [124]).toList == [37]) = false := by rw [str_is]; rfl
  have q2 : ((nm [124]).toList == [60, 60]) = false := by rw [str_is]; rfl
  have q3 : ((nm [124]).toList == [62, 62]) = false := by rw [str_is]; rfl
  have q4 : ((nm [124]).toList == [43]) = false := by rw [str_is]; rfl
  have q5 : ((nm [124]).toList == [45]) = false := by rw [str_is]; rfl
  have q6 : ((nm [124]).toList == [42]) = false := by rw [str_is]; rfl
  have q7 : ((nm [124]).toList == [60]) = false := by rw [str_is]; rfl
  have q8 : ((nm [124]).toList == [62, 61]) = false := by rw [str_is]; rfl
  have q9 : ((nm [124]).toList == [62]) = false := by rw [str_is]; rfl
  have q10 : ((nm [124]).toList == [60, 61]) = false := by rw [str_is]; rfl
  have q11 : ((nm [124]).toList == [61, 61]) = false := by rw [str_is]; rfl
  have q12 : ((nm [124]).toList == [33, 61]) = false := by rw [str_is]; rfl
  have q13 : ((nm [124]).toList == [38]) = false := by rw [str_is]; rfl
  have q14 : ((nm [124]).toList == [94]) = false := by rw [str_is]; rfl
  rw [hr]
  generalize nm [124] = S at *
  clear hr
  go_enter Tryz.func31, Tryz.ntmps31
  go_wp2_with fail
  go_ret2
  exact ⟨ret_pair (by first | rfl | (rw [wrapL_64]; rfl)), rfl⟩
set_option maxRecDepth 100000 in
set_option maxHeartbeats 1600000 in
theorem two_div (a b : Int) (w : World) : TwoP [47] a b w := by
  unfold TwoP
  by_cases hb : b = 0
  · subst hb
    have hr : betweenL [47] a 0 = .error 42 := rfl
    have q0 : ((nm [47]).toList == [47]) = true := by rw [str_is]; rfl
    have q1 : ((nm [47]).toList == [37]) = false := by rw [str_is]; rfl
    have q2 : ((nm [47]).toList == [60, 60]) = false := by rw [str_is]; rfl
    have q3 : ((nm [47]).toList == [62, 62]) = false := by rw [str_is]; rfl
    have q4 : ((nm [47]).toList == [43]) = false := by rw [str_is]; rfl
    have q5 : ((nm [47]).toList == [45]) = false := by rw [str_is]; rfl
    have q6 : ((nm [47]).toList == [42]) = false := by rw [str_is]; rfl
    have q7 : ((nm [47]).toList == [60]) = false := by rw [str_is]; rfl
    have q8 : ((nm [47]).toList == [62, 61]) = false := by rw [str_is]; rfl
    have q9 : ((nm [47]).toList == [62]) = false := by rw [str_is]; rfl
    have q10 : ((nm [47]).toList == [60, 61]) = false := by rw [str_is]; rfl
    have q11 : ((nm [47]).toList == [61, 61]) = false := by rw [str_is]; rfl
    have q12 : ((nm [47]).toList == [33, 61]) = false := by rw [str_is]; rfl
    have q13 : ((nm [47]).toList == [38]) = false := by rw [str_is]; rfl
    have q14 : ((nm [47]).toList == [94]) = false := by rw [str_is]; rfl
    rw [hr]
    generalize nm [47] = S at *
    clear hr
    go_enter Tryz.func31, Tryz.ntmps31
    go_wp2_with fail
    go_ret2
    exact ⟨rfl, rfl⟩
  · have qb : (b == 0) = false := by simpa using hb
    have hr : betweenL [47] a b = .ok (wrapL (a.tdiv b)) := by show (if b = 0 then _ else _) = _; rw [if_neg hb]
    have q0 : ((nm [47]).toList == [47]) = true := by rw [str_is]; rfl
    have q1 : ((nm [47]).toList == [37]) = false := by rw [str_is]; rfl
    have q2 : ((nm [47]).toList == [60, 60]) = false := by rw [str_is]; rfl
    have q3 : ((nm [47]).toList == [62, 62]) = false := by rw [str_is]; rfl
    have q4 : ((nm [47]).toList == [43]) = false := by rw [str_is]; rfl
    have q5 : ((nm [47]).toList == [45]) = false := by rw [str_is]; rfl
    have q6 : ((nm [47]).toList == [42]) = false := by rw [str_is]; rfl
    have q7 : ((nm [47]).toList == [60]) = false := by rw [str_is]; rfl
    have q8 : ((nm [47]).toList == [62, 61]) = false := by rw [str_is]; rfl
    have q9 : ((nm [47]).toList == [62]) = false := by rw [str_is]; rfl
    have q10 : ((nm [47]).toList == [60, 61]) = false := by rw [str_is]; rfl
    have q11 : ((nm [47]).toList == [61, 61]) = false := by rw [str_is]; rfl
    have q12 : ((nm [47]).toList == [33, 61]) = false := by rw [str_is]; rfl
    have q13 : ((nm [47]).toList == [38]) = false := by rw [str_is]; rfl
    have q14 : ((nm [47]).toList == [94]) = false := by rw [str_is]; rfl
    rw [hr]
    generalize nm [47] = S at *
    clear hr
    go_enter Tryz.func31, Tryz.ntmps31
    go_wp2_with fail
    go_ret2
    exact ⟨ret_pair (by first | rfl | (rw [wrapL_64]; rfl)), rfl⟩
set_option maxRecDepth 100000 in
set_option maxHeartbeats 1600000 in
theorem two_mod (a b : Int) (w : World) : TwoP [37] a b w := by
  unfold TwoP
  by_cases hb : b = 0
  · subst hb
    have hr : betweenL [37] a 0 = .error 42 := rfl
    have q0 : ((nm [37]).toList == [47]) = false := by rw [str_is]; rfl
    have q1 : ((nm [37]).toList == [37]) = true := by rw [str_is]; rfl
    have q2 : ((nm [37]).toList == [60, 60]) = false := by rw [str_is]; rfl
    have q3 : ((nm [37]).toList == [62, 62]) = false := by rw [str_is]; rfl
    have q4 : ((nm [37]).toList == [43]) = false := by rw [str_is]; rfl
    have q5 : ((nm [37]).toList == [45]) = false := by rw [str_is]; rfl
    have q6 : ((nm [37]).toList == [42]) = false := by rw [str_is]; rfl
    have q7 : ((nm [37]).toList == [60]) = false := by rw [str_is]; rfl
    have q8 : ((nm [37]).toList == [62, 61]) = false := by rw [str_is]; rfl
    have q9 : ((nm [37]).toList == [62]) = false := by rw [str_is]; rfl
    have q10 : ((nm [37]).toList == [60, 61]) = false := by rw [str_is]; rfl
    have q11 : ((nm [37]).toList == [61, 61]) = false := by rw [str_is]; rfl
    have q12 : ((nm [37]).toList == [33, 61]) = false := by rw [str_is]; rfl
    have q13 : ((nm [37]).toList == [38]) = false := by rw [str_is]; rfl
    have q14 : ((nm [37]).toList == [94]) = false := by rw [str_is]; rfl
    rw [hr]
    generalize nm [37] = S at *
    clear hr
    go_enter Tryz.func31, Tryz.ntmps31
    go_wp2_with fail
    go_ret2
    exact ⟨rfl, rfl⟩
  · have qb : (b == 0) = false := by simpa using hb
    have hr : betweenL [37] a b = .ok (a.tmod b) := by show (if b = 0 then _ else _) = _; rw [if_neg hb]
    have q0 : ((nm [37]).toList == [47]) = false := by rw [str_is]; rfl
    have q1 : ((nm [37]).toList == [37]) = true := by rw [str_is]; rfl
    have q2 : ((nm [37]).toList == [60, 60]) = false := by rw [str_is]; rfl
    have q3 : ((nm [37]).toList == [62, 62]) = false := by rw [str_is]; rfl
    have q4 : ((nm [37]).toList == [43]) = false := by rw [str_is]; rfl
    have q5 : ((nm [37]).toList == [45]) = false := by rw [str_is]; rfl
    have q6 : ((nm [37]).toList == [42]) = false := by rw [str_is]; rfl
    have q7 : ((nm [37]).toList == [60]) = false := by rw [str_is]; rfl
    have q8 : ((nm [37]).toList == [62, 61]) = false := by rw [str_is]; rfl
    have q9 : ((nm [37]).toList == [62]) = false := by rw [str_is]; rfl
    have q10 : ((nm [37]).toList == [60, 61]) = false := by rw [str_is]; rfl
    have q11 : ((nm [37]).toList == [61, 61]) = false := by rw [str_is]; rfl
    have q12 : ((nm [37]).toList == [33, 61]) = false := by rw [str_is]; rfl
    have q13 : ((nm [37]).toList == [38]) = false := by rw [str_is]; rfl
    have q14 : ((nm [37]).toList == [94]) = false := by rw [str_is]; rfl
    rw [hr]
    generalize nm [37] = S at *
    clear hr
    go_enter Tryz.func31, Tryz.ntmps31
    go_wp2_with fail
    go_ret2
    exact ⟨ret_pair (by first | rfl | (rw [wrapL_64]; rfl)), rfl⟩
set_option maxRecDepth 100000 in
set_option maxHeartbeats 1600000 in
theorem two_shl (a b : Int) (w : World) : TwoP [60, 60] a b w := by
  unfold TwoP
  by_cases hb : b < 0 ∨ 63 < b
  · have hr : betweenL [60, 60] a b = .error 41 := by show (if b < 0 ∨ 63 < b then _ else _) = _; rw [if_pos hb]
    by_cases hc : b < 0
    · clear hb
      have q0 : ((nm [60, 60]).toList == [47]) = false := by rw [str_is]; rfl
      have q1 : ((nm [60, 60]).toList == [37]) = false := by rw [str_is]; rfl
      have q2 : ((nm [60, 60]).toList == [60, 60]) = true := by rw [str_is]; rfl
      have q3 : ((nm [60, 60]).toList == [62, 62]) = false := by rw [str_is]; rfl
      have q4 : ((nm [60, 60]).toList == [43]) = false := by rw [str_is]; rfl
      have q5 : ((nm [60, 60]).toList == [45]) = false := by rw [str_is]; rfl
      have q6 : ((nm [60, 60]).toList == [42]) = false := by rw [str_is]; rfl
      have q7 : ((nm [60, 60]).toList == [60]) = false := by rw [str_is]; rfl
      have q8 : ((nm [60, 60]).toList == [62, 61]) = false := by rw [str_is]; rfl
      have q9 : ((nm [60, 60]).toList == [62]) = false := by rw [str_is]; rfl
      have q10 : ((nm [60, 60]).toList == [60, 61]) = false := by rw [str_is]; rfl
      have q11 : ((nm [60, 60]).toList == [61, 61]) = false := by rw [str_is]; rfl
      have q12 : ((nm [60, 60]).toList == [33, 61]) = false := by rw [str_is]; rfl
      have q13 : ((nm [60, 60]).toList == [38]) = false := by rw [str_is]; rfl
      have q14 : ((nm [60, 60]).toList == [94]) = false := by rw [str_is]; rfl
      rw [hr]
      generalize nm [60, 60] = S at *
      clear hr
      go_enter Tryz.func31, Tryz.ntmps31
      go_wp2_with fail
      go_ret2
      exact ⟨rfl, rfl⟩
    · have hd : 63 < b := by omega
      clear hb
      have q0 : ((nm [60, 60]).toList == [47]) = false := by rw [str_is]; rfl
      have q1 : ((nm [60, 60]).toList == [37]) = false := by rw [str_is]; rfl
      have q2 : ((nm [60, 60]).toList == [60, 60]) = true := by rw [str_is]; rfl
      have q3 : ((nm [60, 60]).toList == [62, 62]) = false := by rw [str_is]; rfl
      have q4 : ((nm [60, 60]).toList == [43]) = false := by rw [str_is]; rfl
      have q5 : ((nm [60, 60]).toList == [45]) = false := by rw [str_is]; rfl
      have q6 : ((nm [60, 60]).toList == [42]) = false := by rw [str_is]; rfl
      have q7 : ((nm [60, 60]).toList == [60]) = false := by rw [str_is]; rfl
      have q8 : ((nm [60, 60]).toList == [62, 61]) = false := by rw [str_is]; rfl
      have q9 : ((nm [60, 60]).toList == [62]) = false := by rw [str_is]; rfl
      have q10 : ((nm [60, 60]).toList == [60, 61]) = false := by rw [str_is]; rfl
      have q11 : ((nm [60, 60]).toList == [61, 61]) = false := by rw [str_is]; rfl
      have q12 : ((nm [60, 60]).toList == [33, 61]) = false := by rw [str_is]; rfl
      have q13 : ((nm [60, 60]).toList == [38]) = false := by rw [str_is]; rfl
      have q14 : ((nm [60, 60]).toList == [94]) = false := by rw [str_is]; rfl
      rw [hr]
      generalize nm [60, 60] = S at *
      clear hr
      go_enter Tryz.func31, Tryz.ntmps31
      go_wp2_with fail
      go_ret2
      exact ⟨rfl, rfl⟩
  · obtain ⟨n, rfl⟩ : ∃ n : Nat, b = (n : Int) := ⟨b.toNat, by omega⟩
    have hr : betweenL [60, 60] a n = .ok (wrapL (a * 2 ^ (n : Int).toNat)) := by show (if (n : Int) < 0 ∨ 63 < (n : Int) then _ else _) = _; rw [if_neg hb]
    have hn : n ≤ 63 := by omega
    have hm : min n 64 = n := by omega
    have h9 : ¬ 63 < n := by omega
    clear hb
    have q0 : ((nm [60, 60]).toList == [47]) = false := by rw [str_is]; rfl
    have q1 : ((nm [60, 60]).toList == [37]) = false := by rw [str_is]; rfl
    have q2 : ((nm [60, 60]).toList == [60, 60]) = true := by rw [str_is]; rfl
    have q3 : ((nm [60, 60]).toList == [62, 62]) = false := by rw [str_is]; rfl
    have q4 : ((nm [60, 60]).toList == [43]) = false := by rw [str_is]; rfl
    have q5 : ((nm [60, 60]).toList == [45]) = false := by rw [str_is]; rfl
    have q6 : ((nm [60, 60]).toList == [42]) = false := by rw [str_is]; rfl
    have q7 : ((nm [60, 60]).toList == [60]) = false := by rw [str_is]; rfl
    have q8 : ((nm [60, 60]).toList == [62, 61]) = false := by rw [str_is]; rfl
    have q9 : ((nm [60, 60]).toList == [62]) = false := by rw [str_is]; rfl
    have q10 : ((nm [60, 60]).toList == [60, 61]) = false := by rw [str_is]; rfl
    have q11 : ((nm [60, 60]).toList == [61, 61]) = false := by rw [str_is]; rfl
    have q12 : ((nm [60, 60]).toList == [33, 61]) = false := by rw [str_is]; rfl
    have q13 : ((nm [60, 60]).toList == [38]) = false := by rw [str_is]; rfl
    have q14 : ((nm [60, 60]).toList == [94]) = false := by rw [str_is]; rfl
    rw [hr]
    generalize nm [60, 60] = S at *
    clear hr
    go_enter Tryz.func31, Tryz.ntmps31
    go_wp2_with fail
    go_ret2
    exact ⟨ret_pair (by first | rfl | (rw [wrapL_64]; rfl)), rfl⟩
set_option maxRecDepth 100000 in
set_option maxHeartbeats 1600000 in
theorem two_shr (a b : Int) (w : World) : TwoP [62, 62] a b w := by
  unfold TwoP
  by_cases hb : b < 0 ∨ 63 < b
  · have hr : betweenL [62, 62] a b = .error 41 := by show (if b < 0 ∨ 63 < b then _ else _) = _; rw [if_pos hb]
    by_cases hc : b < 0
    · clear hb
      have q0 : ((nm [62, 62]).toList == [47]) = false := by rw [str_is]; rfl
      have q1 : ((nm [62, 62]).toList == [37]) = false := by rw [str_is]; rfl
      have q2 : ((nm [62, 62]).toList == [60, 60]) = false := by rw [str_is]; rfl
      have q3 : ((nm [62, 62]).toList == [62, 62]) = true := by rw [str_is]; rfl
      have q4 : ((nm [62, 62]).toList == [43]) = false := by rw [str_is]; rfl
      have q5 : ((nm [62, 62]).toList == [45]) = false := by rw [str_is]; rfl
      have q6 : ((nm [62, 62]).toList == [42]) = false := by rw [str_is]; rfl
      have q7 : ((nm [62, 62]).toList == [60]) = false := by rw [str_is]; rfl
      have q8 : ((nm [62, 62]).toList == [62, 61]) = false := by rw [str_is]; rfl
      have q9 : ((nm [62, 62]).toList == [62]) = false := by rw [str_is]; rfl
      have q10 : ((nm [62, 62]).toList == [60, 61]) = false := by rw [str_is]; rfl
      have q11 : ((nm [62, 62]).toList == [61, 61]) = false := by rw [str_is]; rfl
      have q12 : ((nm [62, 62]).toList == [33, 61]) = false := by rw [str_is]; rfl
      have q13 : ((nm [62, 62]).toList == [38]) = false := by rw [str_is]; rfl
      have q14 : ((nm [62, 62]).toList == [94]) = false := by rw [str_is]; rfl
      rw [hr]
      generalize nm [62, 62] = S at *
      clear hr
      go_enter Tryz.func31, Tryz.ntmps31
      go_wp2_with fail
      go_ret2
      exact ⟨rfl, rfl⟩
    · have hd : 63 < b := by omega
      clear hb
      have q0 : ((nm [62, 62]).toList == [47]) = false := by rw [str_is]; rfl
      have q1 : ((nm [62, 62]).toList == [37]) = false := by rw [str_is]; rfl
      have q2 : ((nm [62, 62]).toList == [60, 60]) = false := by rw [str_is]; rfl
      have q3 : ((nm [62, 62]).toList == [62, 62]) = true := by rw [str_is]; rfl
      have q4 : ((nm [62, 62]).toList == [43]) = false := by rw [str_is]; rfl
      have q5 : ((nm [62, 62]).toList == [45]) = false := by rw [str_is]; rfl
      have q6 : ((nm [62, 62]).toList == [42]) = false := by rw [str_is]; rfl
      have q7 : ((nm [62, 62]).toList == [60]) = false := by rw [str_is]; rfl
      have q8 : ((nm [62, 62]).toList == [62, 61]) = false := by rw [str_is]; rfl
      have q9 : ((nm [62, 62]).toList == [62]) = false := by rw [str_is]; rfl
      have q10 : ((nm [62, 62]).toList == [60, 61]) = false := by rw [str_is]; rfl
      have q11 : ((nm [62, 62]).toList == [61, 61]) = false := by rw [str_is]; rfl
      have q12 : ((nm [62, 62]).toList == [33, 61]) = false := by rw [str_is]; rfl
      have q13 : ((nm [62, 62]).toList == [38]) = false := by rw [str_is]; rfl
      have q14 : ((nm [62, 62]).toList == [94]) = false := by rw [str_is]; rfl
      rw [hr]
      generalize nm [62, 62] = S at *
      clear hr
      go_enter Tryz.func31, Tryz.ntmps31
      go_wp2_with fail
      go_ret2
      exact ⟨rfl, rfl⟩
  · obtain ⟨n, rfl⟩ : ∃ n : Nat, b = (n : Int) := ⟨b.toNat, by omega⟩
    have hr : betweenL [62, 62] a n = .ok (a.fdiv (2 ^ (n : Int).toNat)) := by show (if (n : Int) < 0 ∨ 63 < (n : Int) then _ else _) = _; rw [if_neg hb]
    have hn : n ≤ 63 := by omega
    have hm : min n 64 = n := by omega
    have h9 : ¬ 63 < n := by omega
    clear hb
    have q0 : ((nm [62, 62]).toList == [47]) = false := by rw [str_is]; rfl
    have q1 : ((nm [62, 62]).toList == [37]) = false := by rw [str_is]; rfl
    have q2 : ((nm [62, 62]).toList == [60, 60]) = false := by rw [str_is]; rfl
    have q3 : ((nm [62, 62]).toList == [62, 62]) = true := by rw [str_is]; rfl
    have q4 : ((nm [62, 62]).toList == [43]) = false := by rw [str_is]; rfl
    have q5 : ((nm [62, 62]).toList == [45]) = false := by rw [str_is]; rfl
    have q6 : ((nm [62, 62]).toList == [42]) = false := by rw [str_is]; rfl
    have q7 : ((nm [62, 62]).toList == [60]) = false := by rw [str_is]; rfl
    have q8 : ((nm [62, 62]).toList == [62, 61]) = false := by rw [str_is]; rfl
    have q9 : ((nm [62, 62]).toList == [62]) = false := by rw [str_is]; rfl
    have q10 : ((nm [62, 62]).toList == [60, 61]) = false := by rw [str_is]; rfl
    have q11 : ((nm [62, 62]).toList == [61, 61]) = false := by rw [str_is]; rfl
    have q12 : ((nm [62, 62]).toList == [33, 61]) = false := by rw [str_is]; rfl
    have q13 : ((nm [62, 62]).toList == [38]) = false := by rw [str_is]; rfl
    have q14 : ((nm [62, 62]).toList == [94]) = false := by rw [str_is]; rfl
    rw [hr]
    generalize nm [62, 62] = S at *
    clear hr
    go_enter Tryz.func31, Tryz.ntmps31
    go_wp2_with fail
    go_ret2
    exact ⟨ret_pair (by first | rfl | (rw [Int.toNat_natCast, ← fdiv_2]; rfl)), rfl⟩
set_option maxRecDepth 100000 in
set_option maxHeartbeats 1600000 in
theorem two_lt (a b : Int) (w : World) : TwoP [60] a b w := by
  unfold TwoP
  by_cases h : a < b
  · have hr : betweenL [60] a b = .ok 1 := by show (Except.ok (truthL (decide (a < b))) : Except Int Int) = _; rw [show (decide (a < b)) = true by simp; omega]; rfl
    have q0 : ((nm [60]).toList == [47]) = false := by rw [str_is]; rfl
    have q1 : ((nm [60]).toList == [37]) = false := by rw [str_is]; rfl
    have q2 : ((nm [60]).toList == [60, 60]) = false := by rw [str_is]; rfl
    have q3 : ((nm [60]).toList == [62, 62]) = false := by rw [str_is]; rfl
    have q4 : ((nm [60]).toList == [43]) = false := by rw [str_is]; rfl
    have q5 : ((nm [60]).toList == [45]) = false := by rw [str_is]; rfl
    have q6 : ((nm [60]).toList == [42]) = false := by rw [str_is]; rfl
    have q7 : ((nm [60]).toList == [60]) = true := by rw [str_is]; rfl
    have q8 : ((nm [60]).toList == [62, 61]) = false := by rw [str_is]; rfl
    have q9 : ((nm [60]).toList == [62]) = false := by rw [str_is]; rfl
    have q10 : ((nm [60]).toList == [60, 61]) = false := by rw [str_is]; rfl
    have q11 : ((nm [60]).toList == [61, 61]) = false := by rw [str_is]; rfl
    have q12 : ((nm [60]).toList == [33, 61]) = false := by rw [str_is]; rfl
    have q13 : ((nm [60]).toList == [38]) = false := by rw [str_is]; rfl
    have q14 : ((nm [60]).toList == [94]) = false := by rw [str_is]; rfl
    rw [hr]
    generalize nm [60] = S at *
    clear hr
    go_enter Tryz.func31, Tryz.ntmps31
    go_wp2_with (go_at_call 33; refine (rtruth_any _ _).mono ?_; rintro e W ⟨rfl, rfl⟩)
    go_ret2
    exact ⟨rfl, rfl⟩
  · have hr : betweenL [60] a b = .ok 0 := by show (Except.ok (truthL (decide (a < b))) : Except Int Int) = _; rw [show (decide (a < b)) = false by simp; omega]; rfl
    have q0 : ((nm [60]).toList == [47]) = false := by rw [str_is]; rfl
    have q1 : ((nm [60]).toList == [37]) = false := by rw [str_is]; rfl
    have q2 : ((nm [60]).toList == [60, 60]) = false := by rw [str_is]; rfl
    have q3 : ((nm [60]).toList == [62, 62]) = false := by rw [str_is]; rfl
    have q4 : ((nm [60]).toList == [43]) = false := by rw [str_is]; rfl
    have q5 : ((nm [60]).toList == [45]) = false := by rw [str_is]; rfl
    have q6 : ((nm [60]).toList == [42]) = false := by rw [str_is]; rfl
    have q7 : ((nm [60]).toList == [60]) = true := by rw [str_is]; rfl
    have q8 : ((nm [60]).toList == [62, 61]) = false := by rw [str_is]; rfl
    have q9 : ((nm [60]).toList == [62]) = false := by rw [str_is]; rfl
    have q10 : ((nm [60]).toList == [60, 61]) = false := by rw [str_is]; rfl
    have q11 : ((nm [60]).toList == [61, 61]) = false := by rw [str_is]; rfl
    have q12 : ((nm [60]).toList == [33, 61]) = false := by rw [str_is]; rfl
    have q13 : ((nm [60]).toList == [38]) = false := by rw [str_is]; rfl
    have q14 : ((nm [60]).toList == [94]) = false := by rw [str_is]; rfl
    rw [hr]
    generalize nm [60] = S at *
    clear hr
    go_enter Tryz.func31, Tryz.ntmps31
    go_wp2_with (go_at_call 33; refine (rtruth_any _ _).mono ?_; rintro e W ⟨rfl, rfl⟩)
    go_ret2
    exact ⟨rfl, rfl⟩
set_option maxRecDepth 100000 in
set_option maxHeartbeats 1600000 in
theorem two_ge (a b : Int) (w : World) : TwoP [62, 61] a b w := by
  unfold TwoP
  by_cases h : a < b
  · have hr : betweenL [62, 61] a b = .ok 0 := by show (Except.ok (truthL (decide (b ≤ a))) : Except Int Int) = _; rw [show (decide (b ≤ a)) = false by simp; omega]; rfl
    have q0 : ((nm [62, 61]).toList == [47]) = false := by rw [str_is]; rfl
    have q1 : ((nm [62, 61]).toList == [37]) = false := by rw [str_is]; rfl
    have q2 : ((nm [62, 61]).toList == [60, 60]) = false := by rw [str_is]; rfl
    have q3 : ((nm [62, 61]).toList == [62, 62]) = false := by rw [str_is]; rfl
    have q4 : ((nm [62, 61]).toList == [43]) = false := by rw [str_is]; rfl
    have q5 : ((nm [62, 61]).toList == [45]) = false := by rw [str_is]; rfl
    have q6 : ((nm [62, 61]).toList == [42]) = false := by rw [str_is]; rfl
    have q7 : ((nm [62, 61]).toList == [60]) = false := by rw [str_is]; rfl
    have q8 : ((nm [62, 61]).toList == [62, 61]) = true := by rw [str_is]; rfl
    have q9 : ((nm [62, 61]).toList == [62]) = false := by rw [str_is]; rfl
    have q10 : ((nm [62, 61]).toList == [60, 61]) = false := by rw [str_is]; rfl
    have q11 : ((nm [62, 61]).toList == [61, 61]) = false := by rw [str_is]; rfl
    have q12 : ((nm [62, 61]).toList == [33, 61]) = false := by rw [str_is]; rfl
    have q13 : ((nm [62, 61]).toList == [38]) = false := by rw [str_is]; rfl
    have q14 : ((nm [62, 61]).toList == [94]) = false := by rw [str_is]; rfl
    rw [hr]
    generalize nm [62, 61] = S at *
    clear hr
    go_enter Tryz.func31, Tryz.ntmps31
    go_wp2_with (go_at_call 33; refine (rtruth_any _ _).mono ?_; rintro e W ⟨rfl, rfl⟩)
    go_ret2
    exact ⟨rfl, rfl⟩
  · have hr : betweenL [62, 61] a b = .ok 1 := by show (Except.ok (truthL (decide (b ≤ a))) : Except Int Int) = _; rw [show (decide (b ≤ a)) = true by simp; omega]; rfl
    have q0 : ((nm [62, 61]).toList == [47]) = false := by rw [str_is]; rfl
    have q1 : ((nm [62, 61]).toList == [37]) = false := by rw [str_is]; rfl
    have q2 : ((nm [62, 61]).toList == [60, 60]) = false := by rw [str_is]; rfl
    have q3 : ((nm [62, 61]).toList == [62, 62]) = false := by rw [str_is]; rfl
    have q4 : ((nm [62, 61]).toList == [43]) = false := by rw [str_is]; rfl
    have q5 : ((nm [62, 61]).toList == [45]) = false := by rw [str_is]; rfl
    have q6 : ((nm [62, 61]).toList == [42]) = false := by rw [str_is]; rfl
    have q7 : ((nm [62, 61]).toList == [60]) = false := by rw [str_is]; rfl
    have q8 : ((nm [62, 61]).toList == [62, 61]) = true := by rw [str_is]; rfl
    have q9 : ((nm [62, 61]).toList == [62]) = false := by rw [str_is]; rfl
    have q10 : ((nm [62, 61]).toList == [60, 61]) = false := by rw [str_is]; rfl
    have q11 : ((nm [62, 61]).toList == [61, 61]) = false := by rw [str_is]; rfl
    have q12 : ((nm [62, 61]).toList == [33, 61]) = false := by rw [str_is]; rfl
    have q13 : ((nm [62, 61]).toList == [38]) = false := by rw [str_is]; rfl
    have q14 : ((nm [62, 61]).toList == [94]) = false := by rw [str_is]; rfl
    rw [hr]
    generalize nm [62, 61] = S at *
    clear hr
    go_enter Tryz.func31, Tryz.ntmps31
    go_wp2_with (go_at_call 33; refine (rtruth_any _ _).mono ?_; rintro e W ⟨rfl, rfl⟩)
    go_ret2
    exact ⟨rfl, rfl⟩
set_option maxRecDepth 100000 in
set_option maxHeartbeats 1600000 in
theorem two_gt (a b : Int) (w : World) : TwoP [62] a b w := by
  unfold TwoP
  by_cases h : b < a
  · have hr : betweenL [62] a b = .ok 1 := by show (Except.ok (truthL (decide (b < a))) : Except Int Int) = _; rw [show (decide (b < a)) = true by simp; omega]; rfl
    have q0 : ((nm [62]).toList == [47]) = false := by rw [str_is]; rfl
    have q1 : ((nm [62]).toList == [37]) = false := by rw [str_is]; rfl
    have q2 : ((nm [62]).toList == [60, 60]) = false := by rw [str_is]; rfl
    have q3 : ((nm [62]).toList == [62, 62]) = false := by rw [str_is]; rfl
    have q4 : ((nm [62]).toList == [43]) = false := by rw [str_is]; rfl
    have q5 : ((nm [62]).toList == [45]) = false := by rw [str_is]; rfl
    have q6 : ((nm [62]).toList == [42]) = false := by rw [str_is]; rfl
    have q7 : ((nm [62]).toList == [60]) = false := by rw [str_is]; rfl
    have q8 : ((nm [62]).toList == [62, 61]) = false := by rw [str_is]; rfl
    have q9 : ((nm [62]).toList == [62]) = true := by rw [str_is]; rfl
    have q10 : ((nm [62]).toList == [60, 61]) = false := by rw [str_is]; rfl
    have q11 : ((nm [62]).toList == [61, 61]) = false := by rw [str_is]; rfl
    have q12 : ((nm [62]).toList == [33, 61]) = false := by rw [str_is]; rfl
    have q13 : ((nm [62]).toList == [38]) = false := by rw [str_is]; rfl
    have q14 : ((nm [62]).toList == [94]) = false := by rw [str_is]; rfl
    rw [hr]
    generalize nm [62] = S at *
    clear hr
    go_enter Tryz.func31, Tryz.ntmps31
    go_wp2_with (go_at_call 33; refine (rtruth_any _ _).mono ?_; rintro e W ⟨rfl, rfl⟩)
    go_ret2
    exact ⟨rfl, rfl⟩
  · have hr : betweenL [62] a b = .ok 0 := by show (Except.ok (truthL (decide (b < a))) : Except Int Int) = _; rw [show (decide (b < a)) = false by simp; omega]; rfl
    have q0 : ((nm [62]).toList == [47]) = false := by rw [str_is]; rfl
    have q1 : ((nm [62]).toList == [37]) = false := by rw [str_is]; rfl
    have q2 : ((nm [62]).toList == [60, 60]) = false := by rw [str_is]; rfl
    have q3 : ((nm [62]).toList == [62, 62]) = false := by rw [str_is]; rfl
    have q4 : ((nm [62]).toList == [43]) = false := by rw [str_is]; rfl
    have q5 : ((nm [62]).toList == [45]) = false := by rw [str_is]; rfl
    have q6 : ((nm [62]).toList == [42]) = false := by rw [str_is]; rfl
    have q7 : ((nm [62]).toList == [60]) = false := by rw [str_is]; rfl
    have q8 : ((nm [62]).toList == [62, 61]) = false := by rw [str_is]; rfl
    have q9 : ((nm [62]).toList == [62]) = true := by rw [str_is]; rfl
    have q10 : ((nm [62]).toList == [60, 61]) = false := by rw [str_is]; rfl
    have q11 : ((nm [62]).toList == [61, 61]) = false := by rw [str_is]; rfl
    have q12 : ((nm [62]).toList == [33, 61]) = false := by rw [str_is]; rfl
    have q13 : ((nm [62]).toList == [38]) = false := by rw [str_is]; rfl
    have q14 : ((nm [62]).toList == [94]) = false := by rw [str_is]; rfl
    rw [hr]
    generalize nm [62] = S at *
    clear hr
    go_enter Tryz.func31, Tryz.ntmps31
    go_wp2_with (go_at_call 33; refine (rtruth_any _ _).mono ?_; rintro e W ⟨rfl, rfl⟩)
    go_ret2
    exact ⟨rfl, rfl⟩
set_option maxRecDepth 100000 in
set_option maxHeartbeats 1600000 in
theorem two_le (a b : Int) (w : World) : TwoP [60, 61] a b w := by
  unfold TwoP
  by_cases h : b < a
  · have hr : betweenL [60, 61] a b = .ok 0 := by show (Except.ok (truthL (decide (a ≤ b))) : Except Int Int) = _; rw [show (decide (a ≤ b)) = false by simp; omega]; rfl
    have q0 : ((nm [60, 61]).toList == [47]) = false := by rw [str_is]; rfl
    have q1 : ((nm [60, 61]).toList == [37]) = false := by rw [str_is]; rfl
    have q2 : ((nm [60, 61]).toList == [60, 60]) = false := by rw [str_is]; rfl
    have q3 : ((nm [60, 61]).toList == [62, 62]) = false := by rw [str_is]; rfl
    have q4 : ((nm [60, 61]).toList == [43]) = false := by rw [str_is]; rfl
    have q5 : ((nm [60, 61]).toList == [45]) = false := by rw [str_is]; rfl
    have q6 : ((nm [60, 61]).toList == [42]) = false := by rw [str_is]; rfl
    have q7 : ((nm [60, 61]).toList == [60]) = false := by rw [str_is]; rfl
    have q8 : ((nm [60, 61]).toList == [62, 61]) = false := by rw [str_is]; rfl
    have q9 : ((nm [60, 61]).toList == [62]) = false := by rw [str_is]; rfl
    have q10 : ((nm [60, 61]).toList == [60, 61]) = true := by rw [str_is]; rfl
    have q11 : ((nm [60, 61]).toList == [61, 61]) = false := by rw [str_is]; rfl
    have q12 : ((nm [60, 61]).toList == [33, 61]) = false := by rw [str_is]; rfl
    have q13 : ((nm [60, 61]).toList == [38]) = false := by rw [str_is]; rfl
    have q14 : ((nm [60, 61]).toList == [94]) = false := by rw [str_is]; rfl
    rw [hr]
    generalize nm [60, 61] = S at *
    clear hr
    go_enter Tryz.func31, Tryz.ntmps31
    go_wp2_with (go_at_call 33; refine (rtruth_any _ _).mono ?_; rintro e W ⟨rfl, rfl⟩)
    go_ret2
    exact ⟨rfl, rfl⟩
  · have hr : betweenL [60, 61] a b = .ok 1 := by show (Except.ok (truthL (decide (a ≤ b))) : Except Int Int) = _; rw [show (decide (a ≤ b)) = true by simp; omega]; rfl
    have q0 : ((nm [60, 61]).toList == [47]) = false := by rw [str_is]; rfl
    have q1 : ((nm [60, 61]).toList == [37]) = false := by rw [str_is]; rfl
    have q2 : ((nm [60, 61]).toList == [60, 60]) = false := by rw [str_is]; rfl
    have q3 : ((nm [60, 61]).toList == [62, 62]) = false := by rw [str_is]; rfl
    have q4 : ((nm [60, 61]).toList == [43]) = false := by rw [str_is]; rfl
    have q5 : ((nm [60, 61]).toList == [45]) = false := by rw [str_is]; rfl
    have q6 : ((nm [60, 61]).toList == [42]) = false := by rw [str_is]; rfl
    have q7 : ((nm [60, 61]).toList == [60]) = false := by rw [str_is]; rfl
    have q8 : ((nm [60, 61]).toList == [62, 61]) = false := by rw [str_is]; rfl
    have q9 : ((nm [60, 61]).toList == [62]) = false := by rw [str_is]; rfl
    have q10 : ((nm [60, 61]).toList == [60, 61]) = true := by rw [str_is]; rfl
    have q11 : ((nm [60, 61]).toList == [61, 61]) = false := by rw [str_is]; rfl
    have q12 : ((nm [60, 61]).toList == [33, 61]) = false := by rw [str_is]; rfl
    have q13 : ((nm [60, 61]).toList == [38]) = false := by rw [str_is]; rfl
    have q14 : ((nm [60, 61]).toList == [94]) = false := by rw [str_is]; rfl
    rw [hr]
    generalize nm [60, 61] = S at *
    clear hr
    go_enter Tryz.func31, Tryz.ntmps31
    go_wp2_with (go_at_call 33; refine (rtruth_any _ _).mono ?_; rintro e W ⟨rfl, rfl⟩)
    go_ret2
    exact ⟨rfl, rfl⟩
set_option maxRecDepth 100000 in
set_option maxHeartbeats 1600000 in
theorem two_eq (a b : Int) (w : World) : TwoP [61, 61] a b w := by
  unfold TwoP
  by_cases h : a = b
  · have hr : betweenL [61, 61] a b = .ok 1 := by show (Except.ok (truthL (a == b)) : Except Int Int) = _; rw [show (a == b) = true by simp; omega]; rfl
    have q0 : ((nm [61, 61]).toList == [47]) = false := by rw [str_is]; rfl
    have q1 : ((nm [61, 61]).toList == [37]) = false := by rw [str_is]; rfl
    have q2 : ((nm [61, 61]).toList == [60, 60]) = false := by rw [str_is]; rfl
    have q3 : ((nm [61, 61]).toList == [62, 62]) = false := by rw [str_is]; rfl
    have q4 : ((nm [61, 61]).toList == [43]) = false := by rw [str_is]; rfl
    have q5 : ((nm [61, 61]).toList == [45]) = false := by rw [str_is]; rfl
    have q6 : ((nm [61, 61]).toList == [42]) = false := by rw [str_is]; rfl
    have q7 : ((nm [61, 61]).toList == [60]) = false := by rw [str_is]; rfl
    have q8 : ((nm [61, 61]).toList == [62, 61]) = false := by rw [str_is]; rfl
    have q9 : ((nm [61, 61]).toList == [62]) = false := by rw [str_is]; rfl
    have q10 : ((nm [61, 61]).toList == [60, 61]) = false := by rw [str_is]; rfl
    have q11 : ((nm [61, 61]).toList == [61, 61]) = true := by rw [str_is]; rfl
    have q12 : ((nm [61, 61]).toList == [33, 61]) = false := by rw [str_is]; rfl
    have q13 : ((nm [61, 61]).toList == [38]) = false := by rw [str_is]; rfl
    have q14 : ((nm [61, 61]).toList == [94]) = false := by rw [str_is]; rfl
    rw [hr]
    generalize nm [61, 61] = S at *
    clear hr
    go_enter Tryz.func31, Tryz.ntmps31
    go_wp2_with (go_at_call 33; refine (rtruth_any _ _).mono ?_; rintro e W ⟨rfl, rfl⟩)
    go_ret2
    exact ⟨rfl, rfl⟩
  · have hr : betweenL [61, 61] a b = .ok 0 := by show (Except.ok (truthL (a == b)) : Except Int Int) = _; rw [show (a == b) = false by simp; omega]; rfl
    have hq : (a == b) = false := by simpa using h
    have q0 : ((nm [61, 61]).toList == [47]) = false := by rw [str_is]; rfl
    have q1 : ((nm [61, 61]).toList == [37]) = false := by rw [str_is]; rfl
    have q2 : ((nm [61, 61]).toList == [60, 60]) = false := by rw [str_is]; rfl
    have q3 : ((nm [61, 61]).toList == [62, 62]) = false := by rw [str_is]; rfl
    have q4 : ((nm [61, 61]).toList == [43]) = false := by rw [str_is]; rfl
    have q5 : ((nm [61, 61]).toList == [45]) = false := by rw [str_is]; rfl
    have q6 : ((nm [61, 61]).toList == [42]) = false := by rw [str_is]; rfl
    have q7 : ((nm [61, 61]).toList == [60]) = false := by rw [str_is]; rfl
    have q8 : ((nm [61, 61]).toList == [62, 61]) = false := by rw [str_is]; rfl
    have q9 : ((nm [61, 61]).toList == [62]) = false := by rw [str_is]; rfl
    have q10 : ((nm [61, 61]).toList == [60, 61]) = false := by rw [str_is]; rfl
    have q11 : ((nm [61, 61]).toList == [61, 61]) = true := by rw [str_is]; rfl
    have q12 : ((nm [61, 61]).toList == [33, 61]) = false := by rw [str_is]; rfl
    have q13 : ((nm [61, 61]).toList == [38]) = false := by rw [str_is]; rfl
    have q14 : ((nm [61, 61]).toList == [94]) = false := by rw [str_is]; rfl
    rw [hr]
    generalize nm [61, 61] = S at *
    clear hr
    go_enter Tryz.func31, Tryz.ntmps31
    go_wp2_with (go_at_call 33; refine (rtruth_any _ _).mono ?_; rintro e W ⟨rfl, rfl⟩)
    go_ret2
    exact ⟨rfl, rfl⟩
set_option maxRecDepth 100000 in
set_option maxHeartbeats 1600000 in
theorem two_ne (a b : Int) (w : World) : TwoP [33, 61] a b w := by
  unfold TwoP
  by_cases h : a = b
  · have hr : betweenL [33, 61] a b = .ok 0 := by show (Except.ok (truthL (a != b)) : Except Int Int) = _; rw [show (a != b) = false by simp; omega]; rfl
    have q0 : ((nm [33, 61]).toList == [47]) = false := by rw [str_is]; rfl
    have q1 : ((nm [33, 61]).toList == [37]) = false := by rw [str_is]; rfl
    have q2 : ((nm [33, 61]).toList == [60, 60]) = false := by rw [str_is]; rfl
    have q3 : ((nm [33, 61]).toList == [62, 62]) = false := by rw [str_is]; rfl
    have q4 : ((nm [33, 61]).toList == [43]) = false := by rw [str_is]; rfl
    have q5 : ((nm [33, 61]).toList == [45]) = false := by rw [str_is]; rfl
    have q6 : ((nm [33, 61]).toList == [42]) = false := by rw [str_is]; rfl
    have q7 : ((nm [33, 61]).toList == [60]) = false := by rw [str_is]; rfl
    have q8 : ((nm [33, 61]).toList == [62, 61]) = false := by rw [str_is]; rfl
    have q9 : ((nm [33, 61]).toList == [62]) = false := by rw [str_is]; rfl
    have q10 : ((nm [33, 61]).toList == [60, 61]) = false := by rw [str_is]; rfl
    have q11 : ((nm [33, 61]).toList == [61, 61]) = false := by rw [str_is]; rfl
    have q12 : ((nm [33, 61]).toList == [33, 61]) = true := by rw [str_is]; rfl
    have q13 : ((nm [33, 61]).toList == [38]) = false := by rw [str_is]; rfl
    have q14 : ((nm [33, 61]).toList == [94]) = false := by rw [str_is]; rfl
    rw [hr]
    generalize nm [33, 61] = S at *
    clear hr
    go_enter Tryz.func31, Tryz.ntmps31
    go_wp2_with (go_at_call 33; refine (rtruth_any _ _).mono ?_; rintro e W ⟨rfl, rfl⟩)
    go_ret2
    exact ⟨rfl, rfl⟩
  · have hr : betweenL [33, 61] a b = .ok 1 := by show (Except.ok (truthL (a != b)) : Except Int Int) = _; rw [show (a != b) = true by simp; omega]; rfl
    have hq : (a == b) = false := by simpa using h
    have q0 : ((nm [33, 61]).toList == [47]) = false := by rw [str_is]; rfl
    have q1 : ((nm [33, 61]).toList == [37]) = false := by rw [str_is]; rfl
    have q2 : ((nm [33, 61]).toList == [60, 60]) = false := by rw [str_is]; rfl
    have q3 : ((nm [33, 61]).toList == [62, 62]) = false := by rw [str_is]; rfl
    have q4 : ((nm [33, 61]).toList == [43]) = false := by rw [str_is]; rfl
    have q5 : ((nm [33, 61]).toList == [45]) = false := by rw [str_is]; rfl
    have q6 : ((nm [33, 61]).toList == [42]) = false := by rw [str_is]; rfl
    have q7 : ((nm [33, 61]).toList == [60]) = false := by rw [str_is]; rfl
    have q8 : ((nm [33, 61]).toList == [62, 61]) = false := by rw [str_is]; rfl
    have q9 : ((nm [33, 61]).toList == [62]) = false := by rw [str_is]; rfl
    have q10 : ((nm [33, 61]).toList == [60, 61]) = false := by rw [str_is]; rfl
    have q11 : ((nm [33, 61]).toList == [61, 61]) = false := by rw [str_is]; rfl
    have q12 : ((nm [33, 61]).toList == [33, 61]) = true := by rw [str_is]; rfl
    have q13 : ((nm [33, 61]).toList == [38]) = false := by rw [str_is]; rfl
    have q14 : ((nm [33, 61]).toList == [94]) = false := by rw [str_is]; rfl
    rw [hr]
    generalize nm [33, 61] = S at *
    clear hr
    go_enter Tryz.func31, Tryz.ntmps31
    go_wp2_with (go_at_call 33; refine (rtruth_any _ _).mono ?_; rintro e W ⟨rfl, rfl⟩)
    go_ret2
    exact ⟨rfl, rfl⟩
def twS : List Bs := [[43], [45], [42], [38], [94], [124], [47], [37], [60, 60], [62, 62], [60], [62, 61], [62], [60, 61], [61, 61], [33, 61]]
theorem rtwo_any (s : Bs) (h : s ∈ twS) (a b : Int) (w : World) : TwoP s a b w := by
  simp only [twS, List.mem_cons, List.not_mem_nil, or_false] at h
  rcases h with rfl | rfl | rfl | rfl | rfl | rfl | rfl | rfl | rfl | rfl | rfl | rfl | rfl | rfl | rfl | rfl
  · exact two_add a b w
  · exact two_sub a b w
  · exact two_mul a b w
  · exact two_and a b w
  · exact two_xor a b w
  · exact two_or a b w
  · exact two_div a b w
  · exact two_mod a b w
  · exact two_shl a b w
  · exact two_shr a b w
  · exact two_lt a b w
  · exact two_ge a b w
  · exact two_gt a b w
  · exact two_le a b w
  · exact two_eq a b w
  · exact two_ne a b w

end Go.Proofs.YtcadnkanjlmfhaaGreatDoor.Ar
