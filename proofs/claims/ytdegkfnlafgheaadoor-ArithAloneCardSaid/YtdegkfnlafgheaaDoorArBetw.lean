/- DERIVED. The walk over what a sign makes of two numbers. -/
import Derived.Test.YtdegkfnlafgheaaDoorArSign
namespace Go.Proofs.YtdegkfnlafgheaaDoor.Ar
open Go.RowKit
open PathM WdM ArM
open Go.Proofs.YtdegkfnlafgheaaDoor.Wd
set_option linter.unusedVariables false

theorem pair_form (R : Except Int Int) : ∃ n m, pairE R = .tuple #[.int .i64 n, .int .i64 m] := by cases R with
  | ok n => exact ⟨n, 0, rfl⟩
  | error e => exact ⟨0, e, rfl⟩
theorem div_as {k : Bs} {a b : Int} (h : k = [47] ∨ k = [37]) : (if b = 0 then .error 42 else if k = [47] then .ok (wrapL (a.tdiv b)) else .ok (a.tmod b) : Except Int Int) = betweenL k a b := by
  rcases h with rfl | rfl
  · unfold betweenL; simp
  · unfold betweenL; simp
theorem shift_as {k : Bs} {a b : Int} (h : k = [60, 60] ∨ k = [62, 62]) : (if b < 0 ∨ 63 < b then .error 41 else if k = [60, 60] then .ok (wrapL (a * 2 ^ b.toNat)) else .ok (a.fdiv (2 ^ b.toNat)) : Except Int Int) = betweenL k a b := by
  rcases h with rfl | rfl
  · unfold betweenL; simp
  · unfold betweenL; simp
set_option maxHeartbeats 3200000 in
theorem between_any (k : Bs) (a b : Int) (w : World) : Calls Tryd.prog 82 #[.string (nm k), .int .i64 a, .int .i64 b] w fun e w' => e = .returned (pairE (betweenL k a b)) ∧ w' = w := by
  by_cases h0 : k = [47]
  · have q0 : ((nm k).toList == [47]) = true := by rw [str_is, decide_eq_true h0]
    have hd := fun W => divided_any k a b W
    rw [div_as (.inl h0)] at hd
    obtain ⟨n, m, hR⟩ := pair_form (betweenL k a b)
    rw [hR] at hd ⊢
    have HD := Lib.hid hd
    clear hd hR h0
    generalize nm k = K at *
    go_enter Tryd.func82, Tryd.ntmps82
    go_wp2_with (go_at_call 87; refine (HD.out _).mono ?_; rintro e W ⟨rfl, rfl⟩)
    go_ret2
    exact ⟨rfl, rfl⟩
  · have q0 : ((nm k).toList == [47]) = false := by rw [str_is, decide_eq_false h0]
    by_cases h1 : k = [37]
    · have q1 : ((nm k).toList == [37]) = true := by rw [str_is, decide_eq_true h1]
      have hd := fun W => divided_any k a b W
      rw [div_as (.inr h1)] at hd
      obtain ⟨n, m, hR⟩ := pair_form (betweenL k a b)
      rw [hR] at hd ⊢
      have HD := Lib.hid hd
      clear hd hR h0 h1
      generalize nm k = K at *
      go_enter Tryd.func82, Tryd.ntmps82
      go_wp2_with (go_at_call 87; refine (HD.out _).mono ?_; rintro e W ⟨rfl, rfl⟩)
      go_ret2
      exact ⟨rfl, rfl⟩
    · have q1 : ((nm k).toList == [37]) = false := by rw [str_is, decide_eq_false h1]
      by_cases h2 : k = [60, 60]
      · have q2 : ((nm k).toList == [60, 60]) = true := by rw [str_is, decide_eq_true h2]
        have hd := fun W => shifted_any k a b W
        rw [shift_as (.inl h2)] at hd
        obtain ⟨n, m, hR⟩ := pair_form (betweenL k a b)
        rw [hR] at hd ⊢
        have HD := Lib.hid hd
        clear hd hR h0 h1 h2
        generalize nm k = K at *
        go_enter Tryd.func82, Tryd.ntmps82
        go_wp2_with (go_at_call 88; refine (HD.out _).mono ?_; rintro e W ⟨rfl, rfl⟩)
        go_ret2
        exact ⟨rfl, rfl⟩
      · have q2 : ((nm k).toList == [60, 60]) = false := by rw [str_is, decide_eq_false h2]
        by_cases h3 : k = [62, 62]
        · have q3 : ((nm k).toList == [62, 62]) = true := by rw [str_is, decide_eq_true h3]
          have hd := fun W => shifted_any k a b W
          rw [shift_as (.inr h3)] at hd
          obtain ⟨n, m, hR⟩ := pair_form (betweenL k a b)
          rw [hR] at hd ⊢
          have HD := Lib.hid hd
          clear hd hR h0 h1 h2 h3
          generalize nm k = K at *
          go_enter Tryd.func82, Tryd.ntmps82
          go_wp2_with (go_at_call 88; refine (HD.out _).mono ?_; rintro e W ⟨rfl, rfl⟩)
          go_ret2
          exact ⟨rfl, rfl⟩
        · have q3 : ((nm k).toList == [62, 62]) = false := by rw [str_is, decide_eq_false h3]
          by_cases h4 : k = [43]
          · have q4 : ((nm k).toList == [43]) = true := by rw [str_is, decide_eq_true h4]
            have hr : betweenL k a b = .ok (wrapL (a + b)) := by rw [h4]; rfl
            rw [hr]
            generalize nm k = K at *
            clear hr h0 h1 h2 h3 h4
            go_enter Tryd.func82, Tryd.ntmps82
            go_wp2_with (fail)
            go_ret2
            exact ⟨ret_pair (by first | rfl | (rw [wrapL_64]; rfl)), rfl⟩
          · have q4 : ((nm k).toList == [43]) = false := by rw [str_is, decide_eq_false h4]
            by_cases h5 : k = [45]
            · have q5 : ((nm k).toList == [45]) = true := by rw [str_is, decide_eq_true h5]
              have hr : betweenL k a b = .ok (wrapL (a - b)) := by rw [h5]; rfl
              rw [hr]
              generalize nm k = K at *
              clear hr h0 h1 h2 h3 h4 h5
              go_enter Tryd.func82, Tryd.ntmps82
              go_wp2_with (fail)
              go_ret2
              exact ⟨ret_pair (by first | rfl | (rw [wrapL_64]; rfl)), rfl⟩
            · have q5 : ((nm k).toList == [45]) = false := by rw [str_is, decide_eq_false h5]
              by_cases h6 : k = [42]
              · have q6 : ((nm k).toList == [42]) = true := by rw [str_is, decide_eq_true h6]
                have hr : betweenL k a b = .ok (wrapL (a * b)) := by rw [h6]; rfl
                rw [hr]
                generalize nm k = K at *
                clear hr h0 h1 h2 h3 h4 h5 h6
                go_enter Tryd.func82, Tryd.ntmps82
                go_wp2_with (fail)
                go_ret2
                exact ⟨ret_pair (by first | rfl | (rw [wrapL_64]; rfl)), rfl⟩
              · have q6 : ((nm k).toList == [42]) = false := by rw [str_is, decide_eq_false h6]
                by_cases h7 : k = [38]
                · have q7 : ((nm k).toList == [38]) = true := by rw [str_is, decide_eq_true h7]
                  have hr : betweenL k a b = .ok (bvL (· &&& ·) a b) := by rw [h7]; rfl
                  rw [hr]
                  generalize nm k = K at *
                  clear hr h0 h1 h2 h3 h4 h5 h6 h7
                  go_enter Tryd.func82, Tryd.ntmps82
                  go_wp2_with (fail)
                  go_ret2
                  exact ⟨ret_pair (by first | rfl | (rw [wrapL_64]; rfl)), rfl⟩
                · have q7 : ((nm k).toList == [38]) = false := by rw [str_is, decide_eq_false h7]
                  by_cases h8 : k = [94]
                  · have q8 : ((nm k).toList == [94]) = true := by rw [str_is, decide_eq_true h8]
                    have hr : betweenL k a b = .ok (bvL (· ^^^ ·) a b) := by rw [h8]; rfl
                    rw [hr]
                    generalize nm k = K at *
                    clear hr h0 h1 h2 h3 h4 h5 h6 h7 h8
                    go_enter Tryd.func82, Tryd.ntmps82
                    go_wp2_with (fail)
                    go_ret2
                    exact ⟨ret_pair (by first | rfl | (rw [wrapL_64]; rfl)), rfl⟩
                  · have q8 : ((nm k).toList == [94]) = false := by rw [str_is, decide_eq_false h8]
                    by_cases h9 : k = [124]
                    · have q9 : ((nm k).toList == [124]) = true := by rw [str_is, decide_eq_true h9]
                      have hr : betweenL k a b = .ok (bvL (· ||| ·) a b) := by rw [h9]; rfl
                      rw [hr]
                      generalize nm k = K at *
                      clear hr h0 h1 h2 h3 h4 h5 h6 h7 h8 h9
                      go_enter Tryd.func82, Tryd.ntmps82
                      go_wp2_with (fail)
                      go_ret2
                      exact ⟨ret_pair (by first | rfl | (rw [wrapL_64]; rfl)), rfl⟩
                    · have q9 : ((nm k).toList == [124]) = false := by rw [str_is, decide_eq_false h9]
                      have hr : betweenL k a b = .ok (truthL (holdsL k a b)) := by unfold betweenL; simp [h0, h1, h2, h3, h4, h5, h6, h7, h8, h9]
                      have HH := Lib.hid (fun W => holds_any k a b W)
                      rw [hr]
                      generalize holdsL k a b = bl at *
                      generalize nm k = K at *
                      clear hr h0 h1 h2 h3 h4 h5 h6 h7 h8 h9
                      go_enter Tryd.func82, Tryd.ntmps82
                      go_wp2_with (first | (go_at_call 90; refine (HH.out _).mono ?_; rintro e W ⟨rfl, rfl⟩) | (go_at_call 89; refine (truth_any _ _).mono ?_; rintro e W ⟨rfl, rfl⟩))
                      go_ret2
                      exact ⟨rfl, rfl⟩
end Go.Proofs.YtdegkfnlafgheaaDoor.Ar
