/- DERIVED. Walks over package num of layer 1: Decimal, Constant, Mode. -/
import Derived.Test.YtdegkfnlafgheaaNumWalks
import Derived.Lib.IndexBytes
namespace Go.Proofs.Ytdegkfnlafgheaa
open Go.RowKit
open NumM
set_option linter.unusedVariables false

theorem pre1 (c : UInt8) (s : ByteArray) : (⟨#[c]⟩ : ByteArray).data.toList.isPrefixOf s.data.toList = hd c s.data.toList := by
  show [c].isPrefixOf s.data.toList = _
  unfold hd
  cases s.data.toList with
  | nil => rfl
  | cons a l => simp only [List.isPrefixOf, List.head?_cons, Bool.and_true]; exact Bool.beq_comm
theorem tail_data (s : ByteArray) : (s.extract 1 s.size).data.toList = s.data.toList.tail := by
  rw [Lib.extract_to_end, List.drop_one]
theorem tail_size (s : ByteArray) : (s.extract 1 s.size).size ≤ s.size := by
  rw [Lib.size_eq, tail_data, Lib.size_eq]; simp
theorem one_size (c : UInt8) : (⟨#[c]⟩ : ByteArray).size = 1 := rfl
theorem one_le (c : UInt8) : (⟨#[c]⟩ : ByteArray).size ≤ maxLen := by rw [one_size]; unfold maxLen; omega

theorem neg_wrap (x : Nat) (h : (x : Int) ≤ 9223372036854775808) : wrap64 (IntKind.u64.wrap (-(x : Int))) = -(x : Int) := by
  unfold wrap64; rw [IntKind.wrap_u64]; omega

set_option maxHeartbeats 400000 in
theorem decimal_any (s : ByteArray) (w : World) (hs : s.size ≤ maxLen) :
    Calls Try.prog 54 #[.string s] w fun e w' => e = .returned (.tuple #[.int .i64 (decN s.data.toList), .int .i64 (decE s.data.toList : Int)]) ∧ w = w' := by
  have hts := tail_size s
  by_cases h : hd 45 s.data.toList = true
  · have hc := fun w => cut_yes s ⟨#[45]⟩ w hs (by rw [pre1]; exact h)
    rw [one_size] at hc
    have hr := fun w => read_any (s.extract 1 s.size) 10 9223372036854775808 10 P63 w rfl rfl (by omega) (by omega) (by omega) (by unfold P63; omega) (by omega)
    rw [tail_data] at hr
    have e1 : decN s.data.toList = -(readN 10 P63 s.data.toList.tail : Int) := by unfold decN; rw [if_pos h]
    have e2 : decE s.data.toList = readE 10 P63 s.data.toList.tail := by unfold decE; rw [if_pos h]
    have hle := readN_P63 10 s.data.toList.tail
    generalize readN 10 P63 s.data.toList.tail = x at hr e1 hle
    generalize readE 10 P63 s.data.toList.tail = y at hr e2
    have E1 := Lib.hid e1; have E2 := Lib.hid e2; clear e1 e2
    have HC := Lib.hid hc; have HR := Lib.hid hr; clear hc hr h hts
    go_enter Try.func54, Try.ntmps54
    go_wp2_with (first | (go_at_call 69; refine (HC.out _).mono ?_; rintro e w' ⟨rfl, rfl⟩) | (go_at_call 70; refine (HR.out _).mono ?_; rintro e w' ⟨rfl, rfl⟩))
    go_ret2
    exact ⟨ret_two (by rw [E1.out]; exact neg_wrap x hle) (by rw [E2.out]), rfl⟩
  · have h' : hd 45 s.data.toList = false := by simpa using h
    have hc := fun w => cut_no s ⟨#[45]⟩ w hs (one_le _) (by rw [pre1]; exact h')
    have ht := fun w => trim_any s ⟨#[43]⟩ w hs (one_le _)
    rw [pre1, one_size] at ht
    by_cases h2 : hd 43 s.data.toList = true
    · rw [if_pos h2] at ht
      have hr := fun w => natural_any (s.extract 1 s.size) 10 10 w rfl (by omega) (by omega) (by omega)
      rw [tail_data] at hr
      have e1 : decN s.data.toList = (readN 10 M63 s.data.toList.tail : Int) := by unfold decN; rw [if_neg h, if_pos h2]
      have e2 : decE s.data.toList = readE 10 M63 s.data.toList.tail := by unfold decE; rw [if_neg h, if_pos h2]
      rw [← e1, ← e2] at hr
      have HC := Lib.hid hc; have HT := Lib.hid ht; have HR := Lib.hid hr; clear hc hr ht e1 e2 h h' h2 hts
      go_enter Try.func54, Try.ntmps54
      go_wp2_with (first | (go_at_call 69; refine (HC.out _).mono ?_; rintro e w' ⟨rfl, rfl⟩) | (go_at_call 72; refine (HT.out _).mono ?_; rintro e w' ⟨rfl, rfl⟩) | (go_at_call 71; refine (HR.out _).mono ?_; rintro e w' ⟨rfl, rfl⟩))
      go_ret2
      exact ⟨rfl, rfl⟩
    · rw [if_neg h2] at ht
      have hr := fun w => natural_any s 10 10 w rfl (by omega) (by omega) (by omega)
      have e1 : decN s.data.toList = (readN 10 M63 s.data.toList : Int) := by unfold decN; rw [if_neg h, if_neg h2]
      have e2 : decE s.data.toList = readE 10 M63 s.data.toList := by unfold decE; rw [if_neg h, if_neg h2]
      rw [← e1, ← e2] at hr
      have HC := Lib.hid hc; have HT := Lib.hid ht; have HR := Lib.hid hr; clear hc hr ht e1 e2 h h' h2 hts
      go_enter Try.func54, Try.ntmps54
      go_wp2_with (first | (go_at_call 69; refine (HC.out _).mono ?_; rintro e w' ⟨rfl, rfl⟩) | (go_at_call 72; refine (HT.out _).mono ?_; rintro e w' ⟨rfl, rfl⟩) | (go_at_call 71; refine (HR.out _).mono ?_; rintro e w' ⟨rfl, rfl⟩))
      go_ret2
      exact ⟨rfl, rfl⟩

theorem readN_511 (l : List UInt8) : (readN 8 511 l : Int) ≤ 511 := by
  have := readN_le 8 511 l; omega

theorem hd_at (t : ByteArray) (h : 0 < t.size) (c : UInt8) : hd c t.data.toList = ((t[0].toNat : Int) == (c.toNat : Int)) := by
  have hl : 0 < t.data.toList.length := by rw [← Lib.size_eq]; exact h
  have e : t.data.toList[0] = t[0] := by simp [ByteArray.getElem_eq_getElem_data]
  unfold hd
  rw [List.head?_eq_getElem?, List.getElem?_eq_getElem hl, e, Bool.eq_iff_iff, beq_iff_eq, beq_iff_eq, Option.some_inj]
  constructor
  · intro hh; rw [hh]
  · intro hh; exact UInt8.toNat_inj.1 (by omega)

end Go.Proofs.Ytdegkfnlafgheaa
