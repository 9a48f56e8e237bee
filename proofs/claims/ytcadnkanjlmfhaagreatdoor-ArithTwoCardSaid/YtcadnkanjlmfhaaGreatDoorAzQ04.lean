/- DERIVED. Texts of this claim, joined: ArSign, ArBetw. -/
import Derived.Test.YtcadnkanjlmfhaaGreatDoorAzQ02
import Derived.Test.YtcadnkanjlmfhaaGreatDoorAzQ03
namespace Go.Proofs.YtcadnkanjlmfhaaGreatDoor.Ar
open Go.RowKit
open PathM WdM ArM
open Go.Proofs.YtcadnkanjlmfhaaGreatDoor.Wd
set_option linter.unusedVariables false

theorem str_is (k : Bs) (c : Bs) : ((nm k).toList == c) = decide (k = c) := by
  rw [listD, nm_data]
  rw [Bool.eq_iff_iff]; simp
theorem lit_is (c : Bs) {b : ByteArray} (h : b = nm c) : b.toList = c := by rw [h, listD, nm_data]
set_option maxHeartbeats 1600000 in
theorem tight_any (k : Bs) (w : World) :
    Calls Tryz.prog 70 #[.string (nm k)] w fun e w' => e = .returned (.int .i64 (tightOf k : Nat)) ∧ w' = w := by
  by_cases h0 : k = [124, 124]
  · have q0 : ((nm k).toList == [124, 124]) = true := by rw [str_is, decide_eq_true h0]
    have hr : tightOf k = 1 := by rw [h0]; first | rfl | (unfold settledL; simp) | (unfold holdsL; simp)
    rw [hr]
    generalize nm k = K at *
    clear hr h0
    go_enter Tryz.func70, Tryz.ntmps70
    go_wp2
    go_ret
    exact ⟨rfl, rfl⟩
  · have q0 : ((nm k).toList == [124, 124]) = false := by rw [str_is, decide_eq_false h0]
    by_cases h1 : k = [38, 38]
    · have q1 : ((nm k).toList == [38, 38]) = true := by rw [str_is, decide_eq_true h1]
      have hr : tightOf k = 2 := by rw [h1]; first | rfl | (unfold settledL; simp) | (unfold holdsL; simp)
      rw [hr]
      generalize nm k = K at *
      clear hr h0 h1
      go_enter Tryz.func70, Tryz.ntmps70
      go_wp2
      go_ret
      exact ⟨rfl, rfl⟩
    · have q1 : ((nm k).toList == [38, 38]) = false := by rw [str_is, decide_eq_false h1]
      by_cases h2 : k = [124]
      · have q2 : ((nm k).toList == [124]) = true := by rw [str_is, decide_eq_true h2]
        have hr : tightOf k = 3 := by rw [h2]; first | rfl | (unfold settledL; simp) | (unfold holdsL; simp)
        rw [hr]
        generalize nm k = K at *
        clear hr h0 h1 h2
        go_enter Tryz.func70, Tryz.ntmps70
        go_wp2
        go_ret
        exact ⟨rfl, rfl⟩
      · have q2 : ((nm k).toList == [124]) = false := by rw [str_is, decide_eq_false h2]
        by_cases h3 : k = [94]
        · have q3 : ((nm k).toList == [94]) = true := by rw [str_is, decide_eq_true h3]
          have hr : tightOf k = 4 := by rw [h3]; first | rfl | (unfold settledL; simp) | (unfold holdsL; simp)
          rw [hr]
          generalize nm k = K at *
          clear hr h0 h1 h2 h3
          go_enter Tryz.func70, Tryz.ntmps70
          go_wp2
          go_ret
          exact ⟨rfl, rfl⟩
        · have q3 : ((nm k).toList == [94]) = false := by rw [str_is, decide_eq_false h3]
          by_cases h4 : k = [38]
          · have q4 : ((nm k).toList == [38]) = true := by rw [str_is, decide_eq_true h4]
            have hr : tightOf k = 5 := by rw [h4]; first | rfl | (unfold settledL; simp) | (unfold holdsL; simp)
            rw [hr]
            generalize nm k = K at *
            clear hr h0 h1 h2 h3 h4
            go_enter Tryz.func70, Tryz.ntmps70
            go_wp2
            go_ret
            exact ⟨rfl, rfl⟩
          · have q4 : ((nm k).toList == [38]) = false := by rw [str_is, decide_eq_false h4]
            by_cases h5 : k = [61, 61]
            · have q5 : ((nm k).toList == [61, 61]) = true := by rw [str_is, decide_eq_true h5]
              have hr : tightOf k = 6 := by rw [h5]; first | rfl | (unfold settledL; simp) | (unfold holdsL; simp)
              rw [hr]
              generalize nm k = K at *
              clear hr h0 h1 h2 h3 h4 h5
              go_enter Tryz.func70, Tryz.ntmps70
              go_wp2
              go_ret
              exact ⟨rfl, rfl⟩
            · have q5 : ((nm k).toList == [61, 61]) = false := by rw [str_is, decide_eq_false h5]
              by_cases h6 : k = [33, 61]
              · have q6 : ((nm k).toList == [33, 61]) = true := by rw [str_is, decide_eq_true h6]
                have hr : tightOf k = 6 := by rw [h6]; first | rfl | (unfold settledL; simp) | (unfold holdsL; simp)
                rw [hr]
                generalize nm k = K at *
                clear hr h0 h1 h2 h3 h4 h5 h6
                go_enter Tryz.func70, Tryz.ntmps70
                go_wp2
                go_ret
                exact ⟨rfl, rfl⟩
              · have q6 : ((nm k).toList == [33, 61]) = false := by rw [str_is, decide_eq_false h6]
                by_cases h7 : k = [60]
                · have q7 : ((nm k).toList == [60]) = true := by rw [str_is, decide_eq_true h7]
                  have hr : tightOf k = 7 := by rw [h7]; first | rfl | (unfold settledL; simp) | (unfold holdsL; simp)
                  rw [hr]
                  generalize nm k = K at *
                  clear hr h0 h1 h2 h3 h4 h5 h6 h7
                  go_enter Tryz.func70, Tryz.ntmps70
                  go_wp2
                  go_ret
                  exact ⟨rfl, rfl⟩
                · have q7 : ((nm k).toList == [60]) = false := by rw [str_is, decide_eq_false h7]
                  by_cases h8 : k = [60, 61]
                  · have q8 : ((nm k).toList == [60, 61]) = true := by rw [str_is, decide_eq_true h8]
                    have hr : tightOf k = 7 := by rw [h8]; first | rfl | (unfold settledL; simp) | (unfold holdsL; simp)
                    rw [hr]
                    generalize nm k = K at *
                    clear hr h0 h1 h2 h3 h4 h5 h6 h7 h8
                    go_enter Tryz.func70, Tryz.ntmps70
                    go_wp2
                    go_ret
                    exact ⟨rfl, rfl⟩
                  · have q8 : ((nm k).toList == [60, 61]) = false := by rw [str_is, decide_eq_false h8]
                    by_cases h9 : k = [62]
                    · have q9 : ((nm k).toList == [62]) = true := by rw [str_is, decide_eq_true h9]
                      have hr : tightOf k = 7 := by rw [h9]; first | rfl | (unfold settledL; simp) | (unfold holdsL; simp)
                      rw [hr]
                      generalize nm k = K at *
                      clear hr h0 h1 h2 h3 h4 h5 h6 h7 h8 h9
                      go_enter Tryz.func70, Tryz.ntmps70
                      go_wp2
                      go_ret
                      exact ⟨rfl, rfl⟩
                    · have q9 : ((nm k).toList == [62]) = false := by rw [str_is, decide_eq_false h9]
                      by_cases h10 : k = [62, 61]
                      · have q10 : ((nm k).toList == [62, 61]) = true := by rw [str_is, decide_eq_true h10]
                        have hr : tightOf k = 7 := by rw [h10]; first | rfl | (unfold settledL; simp) | (unfold holdsL; simp)
                        rw [hr]
                        generalize nm k = K at *
                        clear hr h0 h1 h2 h3 h4 h5 h6 h7 h8 h9 h10
                        go_enter Tryz.func70, Tryz.ntmps70
                        go_wp2
                        go_ret
                        exact ⟨rfl, rfl⟩
                      · have q10 : ((nm k).toList == [62, 61]) = false := by rw [str_is, decide_eq_false h10]
                        by_cases h11 : k = [60, 60]
                        · have q11 : ((nm k).toList == [60, 60]) = true := by rw [str_is, decide_eq_true h11]
                          have hr : tightOf k = 8 := by rw [h11]; first | rfl | (unfold settledL; simp) | (unfold holdsL; simp)
                          rw [hr]
                          generalize nm k = K at *
                          clear hr h0 h1 h2 h3 h4 h5 h6 h7 h8 h9 h10 h11
                          go_enter Tryz.func70, Tryz.ntmps70
                          go_wp2
                          go_ret
                          exact ⟨rfl, rfl⟩
                        · have q11 : ((nm k).toList == [60, 60]) = false := by rw [str_is, decide_eq_false h11]
                          by_cases h12 : k = [62, 62]
                          · have q12 : ((nm k).toList == [62, 62]) = true := by rw [str_is, decide_eq_true h12]
                            have hr : tightOf k = 8 := by rw [h12]; first | rfl | (unfold settledL; simp) | (unfold holdsL; simp)
                            rw [hr]
                            generalize nm k = K at *
                            clear hr h0 h1 h2 h3 h4 h5 h6 h7 h8 h9 h10 h11 h12
                            go_enter Tryz.func70, Tryz.ntmps70
                            go_wp2
                            go_ret
                            exact ⟨rfl, rfl⟩
                          · have q12 : ((nm k).toList == [62, 62]) = false := by rw [str_is, decide_eq_false h12]
                            by_cases h13 : k = [43]
                            · have q13 : ((nm k).toList == [43]) = true := by rw [str_is, decide_eq_true h13]
                              have hr : tightOf k = 9 := by rw [h13]; first | rfl | (unfold settledL; simp) | (unfold holdsL; simp)
                              rw [hr]
                              generalize nm k = K at *
                              clear hr h0 h1 h2 h3 h4 h5 h6 h7 h8 h9 h10 h11 h12 h13
                              go_enter Tryz.func70, Tryz.ntmps70
                              go_wp2
                              go_ret
                              exact ⟨rfl, rfl⟩
                            · have q13 : ((nm k).toList == [43]) = false := by rw [str_is, decide_eq_false h13]
                              by_cases h14 : k = [45]
                              · have q14 : ((nm k).toList == [45]) = true := by rw [str_is, decide_eq_true h14]
                                have hr : tightOf k = 9 := by rw [h14]; first | rfl | (unfold settledL; simp) | (unfold holdsL; simp)
                                rw [hr]
                                generalize nm k = K at *
                                clear hr h0 h1 h2 h3 h4 h5 h6 h7 h8 h9 h10 h11 h12 h13 h14
                                go_enter Tryz.func70, Tryz.ntmps70
                                go_wp2
                                go_ret
                                exact ⟨rfl, rfl⟩
                              · have q14 : ((nm k).toList == [45]) = false := by rw [str_is, decide_eq_false h14]
                                by_cases h15 : k = [42]
                                · have q15 : ((nm k).toList == [42]) = true := by rw [str_is, decide_eq_true h15]
                                  have hr : tightOf k = 10 := by rw [h15]; first | rfl | (unfold settledL; simp) | (unfold holdsL; simp)
                                  rw [hr]
                                  generalize nm k = K at *
                                  clear hr h0 h1 h2 h3 h4 h5 h6 h7 h8 h9 h10 h11 h12 h13 h14 h15
                                  go_enter Tryz.func70, Tryz.ntmps70
                                  go_wp2
                                  go_ret
                                  exact ⟨rfl, rfl⟩
                                · have q15 : ((nm k).toList == [42]) = false := by rw [str_is, decide_eq_false h15]
                                  by_cases h16 : k = [47]
                                  · have q16 : ((nm k).toList == [47]) = true := by rw [str_is, decide_eq_true h16]
                                    have hr : tightOf k = 10 := by rw [h16]; first | rfl | (unfold settledL; simp) | (unfold holdsL; simp)
                                    rw [hr]
                                    generalize nm k = K at *
                                    clear hr h0 h1 h2 h3 h4 h5 h6 h7 h8 h9 h10 h11 h12 h13 h14 h15 h16
                                    go_enter Tryz.func70, Tryz.ntmps70
                                    go_wp2
                                    go_ret
                                    exact ⟨rfl, rfl⟩
                                  · have q16 : ((nm k).toList == [47]) = false := by rw [str_is, decide_eq_false h16]
                                    by_cases h17 : k = [37]
                                    · have q17 : ((nm k).toList == [37]) = true := by rw [str_is, decide_eq_true h17]
                                      have hr : tightOf k = 10 := by rw [h17]; first | rfl | (unfold settledL; simp) | (unfold holdsL; simp)
                                      rw [hr]
                                      generalize nm k = K at *
                                      clear hr h0 h1 h2 h3 h4 h5 h6 h7 h8 h9 h10 h11 h12 h13 h14 h15 h16 h17
                                      go_enter Tryz.func70, Tryz.ntmps70
                                      go_wp2
                                      go_ret
                                      exact ⟨rfl, rfl⟩
                                    · have q17 : ((nm k).toList == [37]) = false := by rw [str_is, decide_eq_false h17]
                                      have hr : tightOf k = 0 := by unfold tightOf; simp [h0, h1, h2, h3, h4, h5, h6, h7, h8, h9, h10, h11, h12, h13, h14, h15, h16, h17]
                                      rw [hr]
                                      generalize nm k = K at *
                                      clear hr h0 h1 h2 h3 h4 h5 h6 h7 h8 h9 h10 h11 h12 h13 h14 h15 h16 h17
                                      go_enter Tryz.func70, Tryz.ntmps70
                                      go_wp2
                                      go_ret
                                      exact ⟨rfl, rfl⟩
set_option maxHeartbeats 1600000 in
theorem leads_any (k : Bs) (w : World) :
    Calls Tryz.prog 77 #[.string (nm k)] w fun e w' => e = .returned (.bool (leadsOf k)) ∧ w' = w := by
  by_cases h0 : k = [43]
  · have q0 : ((nm k).toList == [43]) = true := by rw [str_is, decide_eq_true h0]
    have hr : leadsOf k = true := by rw [h0]; first | rfl | (unfold settledL; simp) | (unfold holdsL; simp)
    rw [hr]
    generalize nm k = K at *
    clear hr h0
    go_enter Tryz.func77, Tryz.ntmps77
    go_wp2
    go_ret
    exact ⟨rfl, rfl⟩
  · have q0 : ((nm k).toList == [43]) = false := by rw [str_is, decide_eq_false h0]
    by_cases h1 : k = [45]
    · have q1 : ((nm k).toList == [45]) = true := by rw [str_is, decide_eq_true h1]
      have hr : leadsOf k = true := by rw [h1]; first | rfl | (unfold settledL; simp) | (unfold holdsL; simp)
      rw [hr]
      generalize nm k = K at *
      clear hr h0 h1
      go_enter Tryz.func77, Tryz.ntmps77
      go_wp2
      go_ret
      exact ⟨rfl, rfl⟩
    · have q1 : ((nm k).toList == [45]) = false := by rw [str_is, decide_eq_false h1]
      by_cases h2 : k = [33]
      · have q2 : ((nm k).toList == [33]) = true := by rw [str_is, decide_eq_true h2]
        have hr : leadsOf k = true := by rw [h2]; first | rfl | (unfold settledL; simp) | (unfold holdsL; simp)
        rw [hr]
        generalize nm k = K at *
        clear hr h0 h1 h2
        go_enter Tryz.func77, Tryz.ntmps77
        go_wp2
        go_ret
        exact ⟨rfl, rfl⟩
      · have q2 : ((nm k).toList == [33]) = false := by rw [str_is, decide_eq_false h2]
        by_cases h3 : k = [126]
        · have q3 : ((nm k).toList == [126]) = true := by rw [str_is, decide_eq_true h3]
          have hr : leadsOf k = true := by rw [h3]; first | rfl | (unfold settledL; simp) | (unfold holdsL; simp)
          rw [hr]
          generalize nm k = K at *
          clear hr h0 h1 h2 h3
          go_enter Tryz.func77, Tryz.ntmps77
          go_wp2
          go_ret
          exact ⟨rfl, rfl⟩
        · have q3 : ((nm k).toList == [126]) = false := by rw [str_is, decide_eq_false h3]
          have hr : leadsOf k = false := by unfold leadsOf; simp [h0, h1, h2, h3]
          rw [hr]
          generalize nm k = K at *
          clear hr h0 h1 h2 h3
          go_enter Tryz.func77, Tryz.ntmps77
          go_wp2
          go_ret
          exact ⟨rfl, rfl⟩
theorem truth_any (b : Bool) (w : World) : Calls Tryz.prog 108 #[.bool b] w fun e w' => e = .returned (.int .i64 (truthL b)) ∧ w' = w := by
  cases b
  · go_enter Tryz.func108, Tryz.ntmps108
    go_wp2
    go_ret
    exact ⟨rfl, rfl⟩
  · go_enter Tryz.func108, Tryz.ntmps108
    go_wp2
    go_ret
    exact ⟨rfl, rfl⟩
/-- A number, or an error. -/
def pairE : Except Int Int → Value
  | .ok n => .tuple #[.int .i64 n, .int .i64 0]
  | .error e => .tuple #[.int .i64 0, .int .i64 e]
theorem in64 {n : Int} (h0 : -9223372036854775808 ≤ n) (h1 : n ≤ 9223372036854775807) : IntKind.i64.wrap n = n := IntWalk.i64_in _ ⟨h0, h1⟩
set_option maxHeartbeats 1600000 in
theorem settled_any (k : Bs) (a : Int) (w : World) : Calls Tryz.prog 116 #[.string (nm k), .int .i64 a] w fun e w' => e = .returned (.bool (settledL k a)) ∧ w' = w := by
  have q1 : ((nm k).toList == [38, 38]) = decide (k = [38, 38]) := str_is k _
  have q2 : ((nm k).toList == [124, 124]) = decide (k = [124, 124]) := str_is k _
  have hr : settledL k a = ((decide (k = [38, 38]) && (a == 0)) || (decide (k = [124, 124]) && (a != 0))) := by
    unfold settledL
    rw [Bool.eq_iff_iff]; simp
  rw [hr]
  have hbb : (a != 0) = !(a == 0) := rfl
  generalize decide (k = [38, 38]) = b1 at *
  generalize decide (k = [124, 124]) = b2 at *
  generalize nm k = K at *
  cases hba : (a == 0) <;> rw [hba] at hbb <;> cases b1 <;> cases b2 <;> simp only [Bool.not_true, Bool.not_false] at hbb <;> clear hr
  all_goals
    go_enter Tryz.func116, Tryz.ntmps116
    go_wp2
    go_ret
    exact ⟨ret_bool (by simp [*]), rfl⟩
set_option maxHeartbeats 1600000 in
theorem holds_any (k : Bs) (a b : Int) (w : World) :
    Calls Tryz.prog 109 #[.string (nm k), .int .i64 a, .int .i64 b] w fun e w' => e = .returned (.bool (holdsL k a b)) ∧ w' = w := by
  by_cases h0 : k = [61, 61]
  · have q0 : ((nm k).toList == [61, 61]) = true := by rw [str_is, decide_eq_true h0]
    have hr : holdsL k a b = (a == b) := by rw [h0]; first | rfl | (unfold settledL; simp) | (unfold holdsL; simp)
    rw [hr]
    generalize nm k = K at *
    clear hr h0
    go_enter Tryz.func109, Tryz.ntmps109
    go_wp2
    go_ret
    exact ⟨ret_bool (by first | rfl | simp [*]), rfl⟩
  · have q0 : ((nm k).toList == [61, 61]) = false := by rw [str_is, decide_eq_false h0]
    by_cases h1 : k = [33, 61]
    · have q1 : ((nm k).toList == [33, 61]) = true := by rw [str_is, decide_eq_true h1]
      have hr : holdsL k a b = (a != b) := by rw [h1]; first | rfl | (unfold settledL; simp) | (unfold holdsL; simp)
      rw [hr]
      generalize nm k = K at *
      clear hr h0 h1
      go_enter Tryz.func109, Tryz.ntmps109
      go_wp2
      go_ret
      exact ⟨ret_bool (by first | rfl | simp [*]), rfl⟩
    · have q1 : ((nm k).toList == [33, 61]) = false := by rw [str_is, decide_eq_false h1]
      by_cases h2 : k = [60]
      · have q2 : ((nm k).toList == [60]) = true := by rw [str_is, decide_eq_true h2]
        have hr : holdsL k a b = (decide (a < b)) := by rw [h2]; first | rfl | (unfold settledL; simp) | (unfold holdsL; simp)
        rw [hr]
        generalize nm k = K at *
        clear hr h0 h1 h2
        go_enter Tryz.func109, Tryz.ntmps109
        go_wp2
        go_ret
        exact ⟨ret_bool (by first | rfl | simp [*]), rfl⟩
      · have q2 : ((nm k).toList == [60]) = false := by rw [str_is, decide_eq_false h2]
        by_cases h3 : k = [60, 61]
        · have q3 : ((nm k).toList == [60, 61]) = true := by rw [str_is, decide_eq_true h3]
          have hr : holdsL k a b = (decide (a ≤ b)) := by rw [h3]; first | rfl | (unfold settledL; simp) | (unfold holdsL; simp)
          rw [hr]
          generalize nm k = K at *
          clear hr h0 h1 h2 h3
          go_enter Tryz.func109, Tryz.ntmps109
          go_wp2
          go_ret
          exact ⟨ret_bool (by first | rfl | simp [*]), rfl⟩
        · have q3 : ((nm k).toList == [60, 61]) = false := by rw [str_is, decide_eq_false h3]
          by_cases h4 : k = [62]
          · have q4 : ((nm k).toList == [62]) = true := by rw [str_is, decide_eq_true h4]
            have hr : holdsL k a b = (decide (b < a)) := by rw [h4]; first | rfl | (unfold settledL; simp) | (unfold holdsL; simp)
            rw [hr]
            generalize nm k = K at *
            clear hr h0 h1 h2 h3 h4
            go_enter Tryz.func109, Tryz.ntmps109
            go_wp2
            go_ret
            exact ⟨ret_bool (by first | rfl | simp [*]), rfl⟩
          · have q4 : ((nm k).toList == [62]) = false := by rw [str_is, decide_eq_false h4]
            by_cases h5 : k = [62, 61]
            · have q5 : ((nm k).toList == [62, 61]) = true := by rw [str_is, decide_eq_true h5]
              have hr : holdsL k a b = (decide (b ≤ a)) := by rw [h5]; first | rfl | (unfold settledL; simp) | (unfold holdsL; simp)
              rw [hr]
              generalize nm k = K at *
              clear hr h0 h1 h2 h3 h4 h5
              go_enter Tryz.func109, Tryz.ntmps109
              go_wp2
              go_ret
              exact ⟨ret_bool (by first | rfl | simp [*]), rfl⟩
            · have q5 : ((nm k).toList == [62, 61]) = false := by rw [str_is, decide_eq_false h5]
              by_cases h6 : k = [38, 38]
              · have q6 : ((nm k).toList == [38, 38]) = true := by rw [str_is, decide_eq_true h6]
                have hr : holdsL k a b = (a != 0 && b != 0) := by rw [h6]; first | rfl | (unfold settledL; simp) | (unfold holdsL; simp)
                rw [hr]
                generalize nm k = K at *
                clear hr h0 h1 h2 h3 h4 h5 h6
                rcases hba : (a == 0) with _ | _
                all_goals
                  have hbb : (a != 0) = !(a == 0) := rfl
                  rw [hba] at hbb
                  simp only [Bool.not_true, Bool.not_false] at hbb
                  go_enter Tryz.func109, Tryz.ntmps109
                  go_wp2
                  go_ret
                  exact ⟨ret_bool (by first | rfl | simp [*]), rfl⟩
              · have q6 : ((nm k).toList == [38, 38]) = false := by rw [str_is, decide_eq_false h6]
                have hr : holdsL k a b = (a != 0 || b != 0) := by unfold holdsL; simp [h0, h1, h2, h3, h4, h5, h6]
                rw [hr]
                generalize nm k = K at *
                clear hr h0 h1 h2 h3 h4 h5 h6
                rcases hba : (a == 0) with _ | _
                all_goals
                  have hbb : (a != 0) = !(a == 0) := rfl
                  rw [hba] at hbb
                  simp only [Bool.not_true, Bool.not_false] at hbb
                  go_enter Tryz.func109, Tryz.ntmps109
                  go_wp2
                  go_ret
                  exact ⟨ret_bool (by first | rfl | simp [*]), rfl⟩
theorem wrapL_64 (n : Int) : wrapL n = wrap64 n := IntWalk.i64_left n
theorem ret_pair {n m : Int} {e : Except Int Int} (h : pairE e = .tuple #[.int .i64 n, .int .i64 m]) : Ending.returned (.tuple #[.int .i64 n, .int .i64 m]) = .returned (pairE e) := by rw [h]
theorem fdiv_2 (a : Int) (n : Nat) : a / 2 ^ n = a.fdiv (2 ^ n) := (Int.fdiv_eq_ediv_of_nonneg a (Int.le_of_lt (Int.pow_pos (by decide)))).symm
theorem divided_any (k : Bs) (a b : Int) (w : World) : Calls Tryz.prog 106 #[.string (nm k), .int .i64 a, .int .i64 b] w fun e w' => e = .returned (pairE (if b = 0 then .error 42 else if k = [47] then .ok (wrapL (a.tdiv b)) else .ok (a.tmod b))) ∧ w' = w := by
  by_cases hb : b = 0
  · rw [if_pos hb]
    subst hb
    generalize nm k = K at *
    go_enter Tryz.func106, Tryz.ntmps106
    go_wp2
    go_ret2
    exact ⟨rfl, rfl⟩
  · rw [if_neg hb]
    have qb : (b == 0) = false := by simpa using hb
    by_cases h : k = [47]
    · rw [if_pos h]
      have q : ((nm k).toList == [47]) = true := by rw [str_is, decide_eq_true h]
      clear h
      generalize nm k = K at *
      go_enter Tryz.func106, Tryz.ntmps106
      go_wp2
      go_ret2
      exact ⟨ret_pair (by rw [wrapL_64]; rfl), rfl⟩
    · rw [if_neg h]
      have q : ((nm k).toList == [47]) = false := by rw [str_is, decide_eq_false h]
      clear h
      generalize nm k = K at *
      go_enter Tryz.func106, Tryz.ntmps106
      go_wp2
      go_ret2
      exact ⟨rfl, rfl⟩
theorem shifted_any (k : Bs) (a b : Int) (w : World) : Calls Tryz.prog 107 #[.string (nm k), .int .i64 a, .int .i64 b] w fun e w' => e = .returned (pairE (if b < 0 ∨ 63 < b then .error 41 else if k = [60, 60] then .ok (wrapL (a * 2 ^ b.toNat)) else .ok (a.fdiv (2 ^ b.toNat)))) ∧ w' = w := by
  by_cases hb : b < 0 ∨ 63 < b
  · rw [if_pos hb]
    generalize nm k = K at *
    by_cases hc : b < 0
    · clear hb
      go_enter Tryz.func107, Tryz.ntmps107
      go_wp2
      go_ret2
      exact ⟨rfl, rfl⟩
    · have hd : 63 < b := by omega
      clear hb
      go_enter Tryz.func107, Tryz.ntmps107
      go_wp2
      go_ret2
      exact ⟨rfl, rfl⟩
  · rw [if_neg hb]
    obtain ⟨n, rfl⟩ : ∃ n : Nat, b = (n : Int) := ⟨b.toNat, by omega⟩
    have hn : n ≤ 63 := by omega
    have hm : min n 64 = n := by omega
    have h9 : ¬ 63 < n := by omega
    clear hb
    by_cases h : k = [60, 60]
    · rw [if_pos h]
      have q : ((nm k).toList == [60, 60]) = true := by rw [str_is, decide_eq_true h]
      clear h
      generalize nm k = K at *
      go_enter Tryz.func107, Tryz.ntmps107
      go_wp2
      go_ret2
      exact ⟨ret_pair (by rw [wrapL_64]; rfl), rfl⟩
    · rw [if_neg h]
      have q : ((nm k).toList == [60, 60]) = false := by rw [str_is, decide_eq_false h]
      clear h
      generalize nm k = K at *
      go_enter Tryz.func107, Tryz.ntmps107
      go_wp2
      go_ret2
      exact ⟨ret_pair (by rw [Int.toNat_natCast, ← fdiv_2]; rfl), rfl⟩
set_option maxHeartbeats 3200000 in
theorem of_any (k : Bs) (n : Int) (w : World) :
    Calls Tryz.prog 118 #[.string (nm k), .int .i64 n] w fun e w' => e = .returned (.int .i64 (ofL k n)) ∧ w' = w := by
  by_cases h0 : k = [45]
  · have q0 : ((nm k).toList == [45]) = true := by rw [str_is, decide_eq_true h0]
    have hr : ofL k n = wrapL (-n) := by rw [h0]; rfl
    rw [hr]
    generalize nm k = K at *
    clear hr h0
    go_enter Tryz.func118, Tryz.ntmps118
    go_wp2_with (fail)
    go_ret
    exact ⟨ret_int (by first | rfl | (rw [wrapL_64]) | (rw [wrapL_64]; rfl)), rfl⟩
  · have q0 : ((nm k).toList == [45]) = false := by rw [str_is, decide_eq_false h0]
    by_cases h1 : k = [33]
    · have q1 : ((nm k).toList == [33]) = true := by rw [str_is, decide_eq_true h1]
      have hr : ofL k n = truthL (n == 0) := by rw [h1]; rfl
      rw [hr]
      generalize nm k = K at *
      clear hr h0 h1
      go_enter Tryz.func118, Tryz.ntmps118
      go_wp2_with ((go_at_call 108; refine (truth_any _ _).mono ?_; rintro e W ⟨rfl, rfl⟩))
      go_ret
      exact ⟨ret_int (by first | rfl | (rw [wrapL_64]) | (rw [wrapL_64]; rfl)), rfl⟩
    · have q1 : ((nm k).toList == [33]) = false := by rw [str_is, decide_eq_false h1]
      by_cases h2 : k = [126]
      · have q2 : ((nm k).toList == [126]) = true := by rw [str_is, decide_eq_true h2]
        have hr : ofL k n = bvL (· ^^^ ·) (-1) n := by rw [h2]; rfl
        rw [hr]
        generalize nm k = K at *
        clear hr h0 h1 h2
        go_enter Tryz.func118, Tryz.ntmps118
        go_wp2_with (fail)
        go_ret
        exact ⟨rfl, rfl⟩
      · have q2 : ((nm k).toList == [126]) = false := by rw [str_is, decide_eq_false h2]
        have hr : ofL k n = n := by unfold ofL; simp [h0, h1, h2]
        rw [hr]
        generalize nm k = K at *
        clear hr h0 h1 h2
        go_enter Tryz.func118, Tryz.ntmps118
        go_wp2_with (fail)
        go_ret
        exact ⟨ret_int (by first | rfl | (rw [wrapL_64]) | (rw [wrapL_64]; rfl)), rfl⟩
/- between: see XArBetw -/
end Go.Proofs.YtcadnkanjlmfhaaGreatDoor.Ar
namespace Go.Proofs.YtcadnkanjlmfhaaGreatDoor.Ar
open Go.RowKit
open PathM WdM ArM
open Go.Proofs.YtcadnkanjlmfhaaGreatDoor.Wd
set_option linter.unusedVariables false

theorem pair_form (R : Except Int Int) : ∃ n m, pairE R = .tuple #[.int .i64 n, .int .i64 m] := by cases R with
  | ok n => exact ⟨n, 0, rfl⟩
  | error e => exact ⟨0, e, rfl⟩
theorem div_as {k : Bs} {a b : Int} (h : k = [47] ∨ k = [37]) : (if b = 0 then .error 42 else if k = [47] then .ok (wrapL (a.tdiv b)) else .ok (a.tmod b) : Except Int Int) = betweenL k a b := by
  rcases h with rfl | rfl
  · unfold betweenL; simp
  · unfold betweenL; simp
theorem shift_as {k : Bs} {a b : Int} (h : k = [60, 60] ∨ k = [62, 62]) : (if b < 0 ∨ 63 < b then .error 41 else if k = [60, 60] then .ok (wrapL (a * 2 ^ b.toNat)) else .ok (a.fdiv (2 ^ b.toNat)) : Except Int Int) = betweenL k a b := by
  rcases h with rfl | rfl
  · unfold betweenL; simp
  · unfold betweenL; simp
set_option maxHeartbeats 3200000 in
theorem between_any (k : Bs) (a b : Int) (w : World) : Calls Tryz.prog 101 #[.string (nm k), .int .i64 a, .int .i64 b] w fun e w' => e = .returned (pairE (betweenL k a b)) ∧ w' = w := by
  by_cases h0 : k = [47]
  · have q0 : ((nm k).toList == [47]) = true := by rw [str_is, decide_eq_true h0]
    have hd := fun W => divided_any k a b W
    rw [div_as (.inl h0)] at hd
    obtain ⟨n, m, hR⟩ := pair_form (betweenL k a b)
    rw [hR] at hd ⊢
    have HD := Lib.hid hd
    clear hd hR h0
    generalize nm k = K at *
    go_enter Tryz.func101, Tryz.ntmps101
    go_wp2_with (go_at_call 106; refine (HD.out _).mono ?_; rintro e W ⟨rfl, rfl⟩)
    go_ret2
    exact ⟨rfl, rfl⟩
  · have q0 : ((nm k).toList == [47]) = false := by rw [str_is, decide_eq_false h0]
    by_cases h1 : k = [37]
    · have q1 : ((nm k).toList == [37]) = true := by rw [str_is, decide_eq_true h1]
      have hd := fun W => divided_any k a b W
      rw [div_as (.inr h1)] at hd
      obtain ⟨n, m, hR⟩ := pair_form (betweenL k a b)
      rw [hR] at hd ⊢
      have HD := Lib.hid hd
      clear hd hR h0 h1
      generalize nm k = K at *
      go_enter Tryz.func101, Tryz.ntmps101
      go_wp2_with (go_at_call 106; refine (HD.out _).mono ?_; rintro e W ⟨rfl, rfl⟩)
      go_ret2
      exact ⟨rfl, rfl⟩
    · have q1 : ((nm k).toList == [37]) = false := by rw [str_is, decide_eq_false h1]
      by_cases h2 : k = [60, 60]
      · have q2 : ((nm k).toList == [60, 60]) = true := by rw [str_is, decide_eq_true h2]
        have hd := fun W => shifted_any k a b W
        rw [shift_as (.inl h2)] at hd
        obtain ⟨n, m, hR⟩ := pair_form (betweenL k a b)
        rw [hR] at hd ⊢
        have HD := Lib.hid hd
        clear hd hR h0 h1 h2
        generalize nm k = K at *
        go_enter Tryz.func101, Tryz.ntmps101
        go_wp2_with (go_at_call 107; refine (HD.out _).mono ?_; rintro e W ⟨rfl, rfl⟩)
        go_ret2
        exact ⟨rfl, rfl⟩
      · have q2 : ((nm k).toList == [60, 60]) = false := by rw [str_is, decide_eq_false h2]
        by_cases h3 : k = [62, 62]
        · have q3 : ((nm k).toList == [62, 62]) = true := by rw [str_is, decide_eq_true h3]
          have hd := fun W => shifted_any k a b W
          rw [shift_as (.inr h3)] at hd
          obtain ⟨n, m, hR⟩ := pair_form (betweenL k a b)
          rw [hR] at hd ⊢
          have HD := Lib.hid hd
          clear hd hR h0 h1 h2 h3
          generalize nm k = K at *
          go_enter Tryz.func101, Tryz.ntmps101
          go_wp2_with (go_at_call 107; refine (HD.out _).mono ?_; rintro e W ⟨rfl, rfl⟩)
          go_ret2
          exact ⟨rfl, rfl⟩
        · have q3 : ((nm k).toList == [62, 62]) = false := by rw [str_is, decide_eq_false h3]
          by_cases h4 : k = [43]
          · have q4 : ((nm k).toList == [43]) = true := by rw [str_is, decide_eq_true h4]
            have hr : betweenL k a b = .ok (wrapL (a + b)) := by rw [h4]; rfl
            rw [hr]
            generalize nm k = K at *
            clear hr h0 h1 h2 h3 h4
            go_enter Tryz.func101, Tryz.ntmps101
            go_wp2_with (fail)
            go_ret2
            exact ⟨ret_pair (by first | rfl | (rw [wrapL_64]; rfl)), rfl⟩
          · have q4 : ((nm k).toList == [43]) = false := by rw [str_is, decide_eq_false h4]
            by_cases h5 : k = [45]
            · have q5 : ((nm k).toList == [45]) = true := by rw [str_is, decide_eq_true h5]
              have hr : betweenL k a b = .ok (wrapL (a - b)) := by rw [h5]; rfl
              rw [hr]
              generalize nm k = K at *
              clear hr h0 h1 h2 h3 h4 h5
              go_enter Tryz.func101, Tryz.ntmps101
              go_wp2_with (fail)
              go_ret2
              exact ⟨ret_pair (by first | rfl | (rw [wrapL_64]; rfl)), rfl⟩
            · have q5 : ((nm k).toList == [45]) = false := by rw [str_is, decide_eq_false h5]
              by_cases h6 : k = [42]
              · have q6 : ((nm k).toList == [42]) = true := by rw [str_is, decide_eq_true h6]
                have hr : betweenL k a b = .ok (wrapL (a * b)) := by rw [h6]; rfl
                rw [hr]
                generalize nm k = K at *
                clear hr h0 h1 h2 h3 h4 h5 h6
                go_enter Tryz.func101, Tryz.ntmps101
                go_wp2_with (fail)
                go_ret2
                exact ⟨ret_pair (by first | rfl | (rw [wrapL_64]; rfl)), rfl⟩
              · have q6 : ((nm k).toList == [42]) = false := by rw [str_is, decide_eq_false h6]
                by_cases h7 : k = [38]
                · have q7 : ((nm k).toList == [38]) = true := by rw [str_is, decide_eq_true h7]
                  have hr : betweenL k a b = .ok (bvL (· &&& ·) a b) := by rw [h7]; rfl
                  rw [hr]
                  generalize nm k = K at *
                  clear hr h0 h1 h2 h3 h4 h5 h6 h7
                  go_enter Tryz.func101, Tryz.ntmps101
                  go_wp2_with (fail)
                  go_ret2
                  exact ⟨ret_pair (by first | rfl | (rw [wrapL_64]; rfl)), rfl⟩
                · have q7 : ((nm k).toList == [38]) = false := by rw [str_is, decide_eq_false h7]
                  by_cases h8 : k = [94]
                  · have q8 : ((nm k).toList == [94]) = true := by rw [str_is, decide_eq_true h8]
                    have hr : betweenL k a b = .ok (bvL (· ^^^ ·) a b) := by rw [h8]; rfl
                    rw [hr]
                    generalize nm k = K at *
                    clear hr h0 h1 h2 h3 h4 h5 h6 h7 h8
                    go_enter Tryz.func101, Tryz.ntmps101
                    go_wp2_with (fail)
                    go_ret2
                    exact ⟨ret_pair (by first | rfl | (rw [wrapL_64]; rfl)), rfl⟩
                  · have q8 : ((nm k).toList == [94]) = false := by rw [str_is, decide_eq_false h8]
                    by_cases h9 : k = [124]
                    · have q9 : ((nm k).toList == [124]) = true := by rw [str_is, decide_eq_true h9]
                      have hr : betweenL k a b = .ok (bvL (· ||| ·) a b) := by rw [h9]; rfl
                      rw [hr]
                      generalize nm k = K at *
                      clear hr h0 h1 h2 h3 h4 h5 h6 h7 h8 h9
                      go_enter Tryz.func101, Tryz.ntmps101
                      go_wp2_with (fail)
                      go_ret2
                      exact ⟨ret_pair (by first | rfl | (rw [wrapL_64]; rfl)), rfl⟩
                    · have q9 : ((nm k).toList == [124]) = false := by rw [str_is, decide_eq_false h9]
                      have hr : betweenL k a b = .ok (truthL (holdsL k a b)) := by unfold betweenL; simp [h0, h1, h2, h3, h4, h5, h6, h7, h8, h9]
                      have HH := Lib.hid (fun W => holds_any k a b W)
                      rw [hr]
                      generalize holdsL k a b = bl at *
                      generalize nm k = K at *
                      clear hr h0 h1 h2 h3 h4 h5 h6 h7 h8 h9
                      go_enter Tryz.func101, Tryz.ntmps101
                      go_wp2_with (first | (go_at_call 109; refine (HH.out _).mono ?_; rintro e W ⟨rfl, rfl⟩) | (go_at_call 108; refine (truth_any _ _).mono ?_; rintro e W ⟨rfl, rfl⟩))
                      go_ret2
                      exact ⟨rfl, rfl⟩
end Go.Proofs.YtcadnkanjlmfhaaGreatDoor.Ar
