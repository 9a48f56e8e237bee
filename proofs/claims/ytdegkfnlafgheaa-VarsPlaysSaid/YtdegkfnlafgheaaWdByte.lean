/- DERIVED. Walks over the calls that look at one byte, the program's and the document's. -/
import Derived.Test.YtdegkfnlafgheaaWdBase
namespace Go.Proofs.Ytdegkfnlafgheaa.Wd
open Go.RowKit
open PathM WdM
set_option linter.unusedVariables false

theorem letter_eq (c : UInt8) : letter c = (decide ((97 : Int) ≤ (c.toNat : Int)) && decide ((c.toNat : Int) ≤ 122) || decide ((65 : Int) ≤ (c.toNat : Int)) && decide ((c.toNat : Int) ≤ 90) || ((c.toNat : Int) == 95)) := by
  unfold letter
  have h : (c == 95) = ((c.toNat : Int) == 95) := by
    rw [Bool.eq_iff_iff]
    simp only [beq_iff_eq]
    constructor
    · rintro rfl; rfl
    · intro h; exact UInt8.toNat_inj.1 (by show c.toNat = 95; omega)
  have g : ∀ a b : UInt8, decide (a ≤ b) = decide ((a.toNat : Int) ≤ (b.toNat : Int)) := fun a b => by
    rw [decide_eq_decide, UInt8.le_iff_toNat_le]; omega
  rw [h, g, g, g, g]
  rfl
theorem digit_eq (c : UInt8) : digit c = (decide ((48 : Int) ≤ (c.toNat : Int)) && decide ((c.toNat : Int) ≤ 57)) := by
  unfold digit
  have g : ∀ a b : UInt8, decide (a ≤ b) = decide ((a.toNat : Int) ≤ (b.toNat : Int)) := fun a b => by
    rw [decide_eq_decide, UInt8.le_iff_toNat_le]; omega
  rw [g, g]
  rfl
theorem byte_eq (c : UInt8) (n : Nat) (hn : n < 256) : ((c.toNat : Int) == (n : Int)) = (c == n.toUInt8) := by
  rw [Bool.eq_iff_iff]
  simp only [beq_iff_eq]
  constructor
  · intro h; exact UInt8.toNat_inj.1 (by rw [UInt8.toNat_ofNat_of_lt' hn]; omega)
  · rintro rfl; rw [UInt8.toNat_ofNat_of_lt' hn]
theorem toU8 (c : UInt8) : ((c.toNat : Int)).toNat.toUInt8 = c := by simp
theorem has_idx (l : Bs) (c : UInt8) : l.contains c = decide (0 ≤ Lib.indexByte l c) := by
  induction l with
  | nil => simp [Lib.indexByte]
  | cons d l ih =>
    have hge := Lib.indexByte_ge l c
    unfold Lib.indexByte
    by_cases hc : d = c
    · simp [hc]
    · have h1 : (d == c) = false := by simpa using hc
      have h2 : (d :: l).contains c = l.contains c := by simp; exact fun e => absurd e.symm hc
      rw [h1, h2, ih]
      simp only [Bool.false_eq_true, if_false]
      split
      · rename_i h
        have h' : Lib.indexByte l c = -1 := by simpa using h
        rw [h']
      · rename_i h
        have h' : Lib.indexByte l c ≠ -1 := by simpa using h
        simp only [decide_eq_decide]
        omega

set_option maxHeartbeats 400000 in
theorem letter_any (c : UInt8) (w : World) :
    Calls Try.prog 60 #[.int .u8 c.toNat] w fun e w' => e = .returned (.bool (letter c)) ∧ w = w' := by
  rw [letter_eq]
  generalize (c.toNat : Int) = n
  go_enter Try.func60, Try.ntmps60
  go_wp2
  all_goals (go_ret; refine ⟨ret_bool ?_, rfl⟩; first | (simp_all; done) | (simp_all; omega) | (rw [Bool.eq_iff_iff]; simp; omega) | (simp; omega))
set_option maxHeartbeats 400000 in
theorem rletter_any (c : UInt8) (w : World) :
    Calls Try.prog 65 #[.int .u8 c.toNat] w fun e w' => e = .returned (.bool (letter c)) ∧ w = w' := by
  rw [letter_eq]
  generalize (c.toNat : Int) = n
  go_enter Try.func65, Try.ntmps65
  go_wp2
  all_goals (go_ret; refine ⟨ret_bool ?_, rfl⟩; first | (simp_all; done) | (simp_all; omega) | (rw [Bool.eq_iff_iff]; simp; omega) | (simp; omega))
theorem digit_any (c : UInt8) (w : World) :
    Calls Try.prog 34 #[.int .u8 c.toNat] w fun e w' => e = .returned (.bool (digit c)) ∧ w = w' := by
  rw [digit_eq]
  generalize (c.toNat : Int) = n
  go_enter Try.func34, Try.ntmps34
  go_wp2
  all_goals (go_ret; refine ⟨ret_bool ?_, rfl⟩; first | (simp_all; done) | (simp_all; omega) | (rw [Bool.eq_iff_iff]; simp; omega) | (simp; omega))
theorem rdigit_any (c : UInt8) (w : World) :
    Calls Try.prog 39 #[.int .u8 c.toNat] w fun e w' => e = .returned (.bool (digit c)) ∧ w = w' := by
  rw [digit_eq]
  generalize (c.toNat : Int) = n
  go_enter Try.func39, Try.ntmps39
  go_wp2
  all_goals (go_ret; refine ⟨ret_bool ?_, rfl⟩; first | (simp_all; done) | (simp_all; omega) | (rw [Bool.eq_iff_iff]; simp; omega) | (simp; omega))
theorem named_any (c : UInt8) (w : World) :
    Calls Try.prog 62 #[.int .u8 c.toNat] w fun e w' => e = .returned (.bool (named c)) ∧ w = w' := by
  have h1 := letter_any c
  have h2 := digit_any c
  unfold named
  generalize (c.toNat : Int) = n at *
  generalize letter c = x at *
  generalize digit c = y at *
  have H1 := Lib.hid h1; have H2 := Lib.hid h2; clear h1 h2
  cases x
  all_goals
    go_enter Try.func62, Try.ntmps62
    go_wp2_with (first | (go_at_call 60; refine (H1.out _).mono ?_; rintro e w' ⟨rfl, rfl⟩) | (go_at_call 34; refine (H2.out _).mono ?_; rintro e w' ⟨rfl, rfl⟩))
    go_ret
    refine ⟨ret_bool ?_, rfl⟩
    simp
end Go.Proofs.Ytdegkfnlafgheaa.Wd
