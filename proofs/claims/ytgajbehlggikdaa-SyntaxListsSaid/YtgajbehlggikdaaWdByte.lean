/- DERIVED. Walks over the calls that look at one byte, the program's and the document's. -/
import Derived.Test.YtgajbehlggikdaaWdBase
namespace Go.Proofs.Ytgajbehlggikdaa.Wd
open Go.RowKit
open PathM WdM
set_option linter.unusedVariables false

theorem letter_eq (c : UInt8) : letter c = (decide ((97 : Int) ≤ (c.toNat : Int)) && decide ((c.toNat : Int) ≤ 122) || decide ((65 : Int) ≤ (c.toNat : Int)) && decide ((c.toNat : Int) ≤ 90) || ((c.toNat : Int) == 95)) := by
  unfold letter
  have h : (c == 95) = ((c.toNat : Int) == 95) := by
    rw [Bool.eq_iff_iff]
    simp only [beq_iff_eq]
    constructor
    · rintro rfl; rfl
    · intro h; exact UInt8.toNat_inj.1 (by show c.toNat = 95; omega)
  have g : ∀ a b : UInt8, decide (a ≤ b) = decide ((a.toNat : Int) ≤ (b.toNat : Int)) := fun a b => by
    rw [decide_eq_decide, UInt8.le_iff_toNat_le]; omega
  rw [h, g, g, g, g]
  rfl
theorem digit_eq (c : UInt8) : digit c = (decide ((48 : Int) ≤ (c.toNat : Int)) && decide ((c.toNat : Int) ≤ 57)) := by
  unfold digit
  have g : ∀ a b : UInt8, decide (a ≤ b) = decide ((a.toNat : Int) ≤ (b.toNat : Int)) := fun a b => by
    rw [decide_eq_decide, UInt8.le_iff_toNat_le]; omega
  rw [g, g]
  rfl
theorem byte_eq (c : UInt8) (n : Nat) (hn : n < 256) : ((c.toNat : Int) == (n : Int)) = (c == n.toUInt8) := by
  rw [Bool.eq_iff_iff]
  simp only [beq_iff_eq]
  constructor
  · intro h; exact UInt8.toNat_inj.1 (by rw [UInt8.toNat_ofNat_of_lt' hn]; omega)
  · rintro rfl; rw [UInt8.toNat_ofNat_of_lt' hn]
theorem toU8 (c : UInt8) : ((c.toNat : Int)).toNat.toUInt8 = c := by simp
theorem has_idx (l : Bs) (c : UInt8) : l.contains c = decide (0 ≤ Lib.indexByte l c) := by
  induction l with
  | nil => simp [Lib.indexByte]
  | cons d l ih =>
    have hge := Lib.indexByte_ge l c
    unfold Lib.indexByte
    by_cases hc : d = c
    · simp [hc]
    · have h1 : (d == c) = false := by simpa using hc
      have h2 : (d :: l).contains c = l.contains c := by simp; exact fun e => absurd e.symm hc
      rw [h1, h2, ih]
      simp only [Bool.false_eq_true, if_false]
      split
      · rename_i h
        have h' : Lib.indexByte l c = -1 := by simpa using h
        rw [h']
      · rename_i h
        have h' : Lib.indexByte l c ≠ -1 := by simpa using h
        simp only [decide_eq_decide]
        omega

set_option maxHeartbeats 400000 in
theorem letter_any (c : UInt8) (w : World) :
    Calls Try.prog 57 #[.int .u8 c.toNat] w fun e w' => e = .returned (.bool (letter c)) ∧ w = w' := by
  rw [letter_eq]
  generalize (c.toNat : Int) = n
  go_enter Try.func57, Try.ntmps57
  go_wp2
  all_goals (go_ret; refine ⟨ret_bool ?_, rfl⟩; first | (simp_all; done) | (simp_all; omega) | (rw [Bool.eq_iff_iff]; simp; omega) | (simp; omega))
theorem digit_any (c : UInt8) (w : World) :
    Calls Try.prog 74 #[.int .u8 c.toNat] w fun e w' => e = .returned (.bool (digit c)) ∧ w = w' := by
  rw [digit_eq]
  generalize (c.toNat : Int) = n
  go_enter Try.func74, Try.ntmps74
  go_wp2
  all_goals (go_ret; refine ⟨ret_bool ?_, rfl⟩; first | (simp_all; done) | (simp_all; omega) | (rw [Bool.eq_iff_iff]; simp; omega) | (simp; omega))
theorem index_any (l : Bs) (c : UInt8) (w : World) :
    Calls Try.prog 28 #[.string (nm l), .int .u8 c.toNat] w fun e w' => e = .returned (.int .i64 (Lib.indexByte l c)) ∧ w = w' := by
  refine (Try.strings_IndexByte (nm l) c.toNat w).mono ?_
  rintro e w' ⟨rfl, rfl⟩
  rw [toU8]
  exact ⟨rfl, rfl⟩
theorem named_any (c : UInt8) (w : World) :
    Calls Try.prog 59 #[.int .u8 c.toNat] w fun e w' => e = .returned (.bool (named c)) ∧ w = w' := by
  have h1 := letter_any c
  have h2 := digit_any c
  unfold named
  generalize (c.toNat : Int) = n at *
  generalize letter c = x at *
  generalize digit c = y at *
  have H1 := Lib.hid h1; have H2 := Lib.hid h2; clear h1 h2
  cases x
  all_goals
    go_enter Try.func59, Try.ntmps59
    go_wp2_with (first | (go_at_call 57; refine (H1.out _).mono ?_; rintro e w' ⟨rfl, rfl⟩) | (go_at_call 74; refine (H2.out _).mono ?_; rintro e w' ⟨rfl, rfl⟩))
    go_ret
    refine ⟨ret_bool ?_, rfl⟩
    simp
theorem meta_any (c : UInt8) (w : World) :
    Calls Try.prog 36 #[.int .u8 c.toNat] w fun e w' => e = .returned (.bool (meta_ c)) ∧ w = w' := by
  have h1 := fun w => index_any metas c w
  unfold meta_
  rw [has_idx]
  generalize (c.toNat : Int) = n at *
  generalize Lib.indexByte metas c = x at *
  have H1 := Lib.hid h1; clear h1
  go_enter Try.func36, Try.ntmps36
  go_wp2_with (go_at_call 28; refine (H1.out _).mono ?_; rintro e w' ⟨rfl, rfl⟩)
  go_ret
  exact ⟨ret_bool (by simp), rfl⟩
theorem escD_any (c : UInt8) (w : World) :
    Calls Try.prog 69 #[.int .u8 c.toNat] w fun e w' => e = .returned (.bool (escD c)) ∧ w = w' := by
  have h1 := fun w => index_any [36, 34, 92, 96, 10] c w
  unfold escD
  rw [has_idx]
  generalize (c.toNat : Int) = n at *
  generalize Lib.indexByte [36, 34, 92, 96, 10] c = x at *
  have H1 := Lib.hid h1; clear h1
  go_enter Try.func69, Try.ntmps69
  go_wp2_with (go_at_call 28; refine (H1.out _).mono ?_; rintro e w' ⟨rfl, rfl⟩)
  go_ret
  exact ⟨ret_bool (by simp), rfl⟩
theorem escA_any (c : UInt8) (w : World) :
    Calls Try.prog 48 #[.int .u8 c.toNat] w fun e w' => e = .returned (.bool true) ∧ w = w' := by
  go_enter Try.func48, Try.ntmps48
  go_wp2
  go_ret
  exact ⟨rfl, rfl⟩
theorem endB_any (c : UInt8) (w : World) :
    Calls Try.prog 87 #[.int .u8 c.toNat] w fun e w' => e = .returned (.bool (c == 125)) ∧ w = w' := by
  have h := byte_eq c 125 (by decide)
  go_enter Try.func87, Try.ntmps87
  go_wp2
  go_ret
  exact ⟨ret_bool h, rfl⟩
end Go.Proofs.Ytgajbehlggikdaa.Wd
