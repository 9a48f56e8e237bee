/- DERIVED. Walks over word.Name and over what the document says of bytes, names and parentheses. -/
import Derived.Test.YtgajbehlggikdaaWdText
namespace Go.Proofs.Ytgajbehlggikdaa.Wd
open Go.RowKit
open PathM WdM
set_option linter.unusedVariables false

theorem leading_le (k : UInt8 → Bool) : ∀ l : Bs, leading k l ≤ l.length := by
  intro l
  induction l with
  | nil => exact Nat.le_refl _
  | cons c t ih => rw [leading]; split <;> simp <;> omega
theorem isName_eq (s : ByteArray) (h0 : 0 < s.size) : isName s.data.toList = (decide (s.size ≤ 64) && letter s[0] && decide (leading named s.data.toList = s.size)) := by
  have hd := get_at s 0 h0
  rw [List.drop_zero] at hd
  unfold isName
  rw [← sizeD, hd]
  simp
theorem isName_nil : isName [] = false := rfl

set_option maxHeartbeats 800000 in
theorem name_any (s : ByteArray) (w : World) (hs : s.size ≤ 4611686018427387904) :
    Calls Try.prog 41 #[.string s] w fun e w' => e = .returned (.bool (isName s.data.toList)) ∧ w = w' := by
  have HLD := Lib.hid (fun w => leading_any asks_named s w hs)
  have hle := leading_le named s.data.toList
  rw [← sizeD] at hle
  by_cases h0 : s.size = 0
  · have hl : s.data.toList = [] := List.length_eq_zero_iff.1 (by rw [← sizeD]; exact h0)
    have he : s.toList = [] := by rw [listD]; exact hl
    have HN : Hid (isName s.data.toList = false) := Lib.hid (by rw [hl]; rfl)
    clear hl hle
    go_enter Try.func41, Try.ntmps41
    go_wp2
    go_ret
    exact ⟨ret_bool HN.out.symm, rfl⟩
  · have hp : 0 < s.size := by omega
    have HN := Lib.hid (isName_eq s hp)
    have he : s.toList.isEmpty = false := by rw [listD]; rw [List.isEmpty_eq_false_iff]; intro h; have := congrArg List.length h; rw [← sizeD] at this; exact h0 this
    have HL := Lib.hid (letter_any s[0])
    have he2 : ¬ s.toList = [] := by intro h; rw [h] at he; cases he
    generalize leading named s.data.toList = n at *
    by_cases h1 : s.size ≤ 64
    · cases h2 : letter s[0] with
      | true =>
        rw [h2] at HL
        have HNN : Hid (isName s.data.toList = decide (n = s.size)) := Lib.hid (by rw [HN.out, h2, decide_eq_true h1]; simp)
        have h3 : ((n : Int) == (s.size : Int)) = decide (n = s.size) := by rw [Bool.eq_iff_iff]; simp; omega
        have H3 := Lib.hid h3
        clear h2 h3 h0 HN hle
        go_enter Try.func41, Try.ntmps41
        go_wp2_with (first | (go_at_call 57; refine (HL.out _).mono ?_; rintro e w' ⟨rfl, rfl⟩) | (go_at_call 58; refine (HLD.out _).mono ?_; rintro e w' ⟨rfl, rfl⟩))
        go_ret
        exact ⟨ret_bool (by rw [HNN.out]; exact H3.out), rfl⟩
      | false =>
        rw [h2] at HL
        have HNN : Hid (isName s.data.toList = false) := Lib.hid (by rw [HN.out, h2]; simp)
        clear h2 h0 HN hle
        go_enter Try.func41, Try.ntmps41
        go_wp2_with (first | (go_at_call 57; refine (HL.out _).mono ?_; rintro e w' ⟨rfl, rfl⟩) | (go_at_call 58; refine (HLD.out _).mono ?_; rintro e w' ⟨rfl, rfl⟩))
        go_ret
        exact ⟨ret_bool HNN.out.symm, rfl⟩
    · have HNN : Hid (isName s.data.toList = false) := Lib.hid (by rw [HN.out, decide_eq_false h1]; simp)
      clear h0 HN hle
      go_enter Try.func41, Try.ntmps41
      go_wp2
      go_ret
      exact ⟨ret_bool HNN.out.symm, rfl⟩

/-- How long the name that a text begins with is. -/
def nameLen (l : Bs) : Nat := match l with
  | [] => 0
  | c :: _ => if letter c then leading named l else 0
/-- .. from a place in it on. -/
def nameFrom (n : Nat) (l : Bs) : Nat := if n = 0 then nameLen l else leading named l
theorem isName_len (l : Bs) : isName l = (decide (0 < l.length) && decide (l.length ≤ 64) && decide (nameLen l = l.length)) := by
  unfold isName nameLen
  cases l with
  | nil => rfl
  | cons c t =>
    cases h : letter c with
    | true => simp [h]
    | false => simp [h]
end Go.Proofs.Ytgajbehlggikdaa.Wd
