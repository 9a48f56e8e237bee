/- DERIVED. What Get tells behind Set and Unset. -/
import Derived.Test.YtdegkfnlafgheaaVrGetV
import Derived.Test.YtdegkfnlafgheaaVrMathL
namespace Go.Proofs.Ytdegkfnlafgheaa.Vr
open Go.RowKit
open PathM WdM VrM
open Go.Proofs.Ytdegkfnlafgheaa.NumM (textL decN decE)
set_option linter.unusedVariables false
theorem name_form {name : Bs} (h : isName name = true) : ∃ d r, name = d :: r ∧ letter d = true := by
  cases name with
  | nil => cases h
  | cons d r =>
    unfold isName at h
    simp only [Bool.and_eq_true] at h
    exact ⟨d, r, rfl, h.1.2⟩
theorem letter_not {d : UInt8} (h : letter d = true) : d ≠ 35 ∧ d ≠ 63 ∧ d ≠ 64 ∧ d ≠ 42 ∧ digit d = false := by
  have : ∀ d : UInt8, letter d = true → d ≠ 35 ∧ d ≠ 63 ∧ d ≠ 64 ∧ d ≠ 42 ∧ digit d = false := by
    intro d
    have h2 : ∀ n, n < 256 → letter (UInt8.ofNat n) = true → UInt8.ofNat n ≠ 35 ∧ UInt8.ofNat n ≠ 63 ∧ UInt8.ofNat n ≠ 64 ∧ UInt8.ofNat n ≠ 42 ∧ digit (UInt8.ofNat n) = false := by decide +kernel
    have h3 := h2 d.toNat d.toNat_lt
    rwa [UInt8.ofNat_toNat] at h3
  exact this d h
theorem get_name {ps : List Bs} {st : Int} {vs : Vs} {name : Bs} (h : isName name = true) : getL ps st vs name = valV vs name := by
  obtain ⟨d, r, rfl, hl⟩ := name_form h
  obtain ⟨h1, h2, h3, h4, h5⟩ := letter_not hl
  rw [getL_cons, if_neg (by rintro e; cases e; exact h1 rfl), if_neg (by rintro e; cases e; exact h2 rfl), if_neg (by rintro (e | e) <;> cases e; exact h3 rfl; exact h4 rfl), h5]
  rfl
theorem get_same {ps : List Bs} {st : Int} {vs vs' : Vs} {name : Bs} (h : valV vs' name = valV vs name) : getL ps st vs' name = getL ps st vs name := by
  cases name with
  | nil => rfl
  | cons d r => rw [getL_cons, getL_cons, h]
theorem get_put_same {ps : List Bs} {st : Int} {vs : Vs} {name t : Bs} (hs : Srt vs) (h : isName name = true) : getL ps st (putV vs name t) name = some t := by rw [get_name h, val_put_same hs]
theorem get_put_other {ps : List Bs} {st : Int} {vs : Vs} {name t other : Bs} (hs : Srt vs) (h : name ≠ other) : getL ps st (putV vs name t) other = getL ps st vs other := get_same (val_put_other hs h)
theorem get_del_same {ps : List Bs} {st : Int} {vs : Vs} {name : Bs} (h : isName name = true) : getL ps st (delV vs name) name = none := by rw [get_name h, val_del_same]
theorem get_del_other {ps : List Bs} {st : Int} {vs : Vs} {name other : Bs} (h : name ≠ other) : getL ps st (delV vs name) other = getL ps st vs other := get_same (val_del_other h)
end Go.Proofs.Ytdegkfnlafgheaa.Vr
