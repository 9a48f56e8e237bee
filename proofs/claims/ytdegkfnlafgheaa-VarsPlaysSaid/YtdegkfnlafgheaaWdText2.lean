/- DERIVED. Walks over word.Name and over what the document says of bytes, names and parentheses. -/
import Derived.Test.YtdegkfnlafgheaaWdText
namespace Go.Proofs.Ytdegkfnlafgheaa.Wd
open Go.RowKit
open PathM WdM
set_option linter.unusedVariables false

theorem leading_le (k : UInt8 → Bool) : ∀ l : Bs, leading k l ≤ l.length := by
  intro l
  induction l with
  | nil => exact Nat.le_refl _
  | cons c t ih => rw [leading]; split <;> simp <;> omega
theorem isName_eq (s : ByteArray) (h0 : 0 < s.size) : isName s.data.toList = (decide (s.size ≤ 64) && letter s[0] && decide (leading named s.data.toList = s.size)) := by
  have hd := get_at s 0 h0
  rw [List.drop_zero] at hd
  unfold isName
  rw [← sizeD, hd]
  simp
theorem isName_nil : isName [] = false := rfl

set_option maxHeartbeats 800000 in
theorem name_any (s : ByteArray) (w : World) (hs : s.size ≤ 4611686018427387904) :
    Calls Try.prog 42 #[.string s] w fun e w' => e = .returned (.bool (isName s.data.toList)) ∧ w = w' := by
  have HLD := Lib.hid (fun w => leading_any asks_named s w hs)
  have hle := leading_le named s.data.toList
  rw [← sizeD] at hle
  by_cases h0 : s.size = 0
  · have hl : s.data.toList = [] := List.length_eq_zero_iff.1 (by rw [← sizeD]; exact h0)
    have he : s.toList = [] := by rw [listD]; exact hl
    have HN : Hid (isName s.data.toList = false) := Lib.hid (by rw [hl]; rfl)
    clear hl hle
    go_enter Try.func42, Try.ntmps42
    go_wp2
    go_ret
    exact ⟨ret_bool HN.out.symm, rfl⟩
  · have hp : 0 < s.size := by omega
    have HN := Lib.hid (isName_eq s hp)
    have he : s.toList.isEmpty = false := by rw [listD]; rw [List.isEmpty_eq_false_iff]; intro h; have := congrArg List.length h; rw [← sizeD] at this; exact h0 this
    have HL := Lib.hid (letter_any s[0])
    have he2 : ¬ s.toList = [] := by intro h; rw [h] at he; cases he
    generalize leading named s.data.toList = n at *
    by_cases h1 : s.size ≤ 64
    · cases h2 : letter s[0] with
      | true =>
        rw [h2] at HL
        have HNN : Hid (isName s.data.toList = decide (n = s.size)) := Lib.hid (by rw [HN.out, h2, decide_eq_true h1]; simp)
        have h3 : ((n : Int) == (s.size : Int)) = decide (n = s.size) := by rw [Bool.eq_iff_iff]; simp; omega
        have H3 := Lib.hid h3
        clear h2 h3 h0 HN hle
        go_enter Try.func42, Try.ntmps42
        go_wp2_with (first | (go_at_call 60; refine (HL.out _).mono ?_; rintro e w' ⟨rfl, rfl⟩) | (go_at_call 61; refine (HLD.out _).mono ?_; rintro e w' ⟨rfl, rfl⟩))
        go_ret
        exact ⟨ret_bool (by rw [HNN.out]; exact H3.out), rfl⟩
      | false =>
        rw [h2] at HL
        have HNN : Hid (isName s.data.toList = false) := Lib.hid (by rw [HN.out, h2]; simp)
        clear h2 h0 HN hle
        go_enter Try.func42, Try.ntmps42
        go_wp2_with (first | (go_at_call 60; refine (HL.out _).mono ?_; rintro e w' ⟨rfl, rfl⟩) | (go_at_call 61; refine (HLD.out _).mono ?_; rintro e w' ⟨rfl, rfl⟩))
        go_ret
        exact ⟨ret_bool HNN.out.symm, rfl⟩
    · have HNN : Hid (isName s.data.toList = false) := Lib.hid (by rw [HN.out, decide_eq_false h1]; simp)
      clear h0 HN hle
      go_enter Try.func42, Try.ntmps42
      go_wp2
      go_ret
      exact ⟨ret_bool HNN.out.symm, rfl⟩

/-- How long the name that a text begins with is. -/
def nameLen (l : Bs) : Nat := match l with
  | [] => 0
  | c :: _ => if letter c then leading named l else 0
/-- .. from a place in it on. -/
def nameFrom (n : Nat) (l : Bs) : Nat := if n = 0 then nameLen l else leading named l
set_option maxRecDepth 100000 in
set_option maxHeartbeats 800000 in
theorem nameAt_any (s : ByteArray) (i : Nat) (hi : i ≤ s.size) (w : World) (hs : s.size ≤ 4611686018427387904) :
    Calls Try.prog 46 #[.string s, .int .i64 i] w fun e w' => e = .returned (.int .i64 (nameLen (s.data.toList.drop i) : Nat)) ∧ w = w' := by
  have HL := Lib.hid rletter_any
  have HG := Lib.hid rdigit_any
  obtain ⟨r, hr⟩ : ∃ r, nameLen (s.data.toList.drop i) = r := ⟨_, rfl⟩
  rw [hr]
  have HR : Hid (nameFrom 0 (s.data.toList.drop (i + 0)) + 0 = r) := Lib.hid hr
  clear hr
  go_enter Try.func46, Try.ntmps46
  go_wp2
  go_loop [5] (fun x => ∃ n : Nat, x = .int .i64 n ∧ i + n ≤ s.size ∧ Hid (nameFrom n (s.data.toList.drop (i + n)) + n = r)) (fun x => s.size - (intOf x).toNat)
  case atStart => exact ⟨0, rfl, by omega, HR⟩
  case round =>
    obtain ⟨n, rfl, hn, HI⟩ := hrel
    by_cases hlt : i + n < s.size
    · have HD := Lib.hid (get_at s (i + n) hlt)
      have c0 : (i : Int) + (n : Int) = ((i + n : Nat) : Int) := by omega
      cases h1 : letter s[i + n] with
      | true =>
        have HK : Hid (nameFrom (n + 1) (s.data.toList.drop (i + (n + 1))) + (n + 1) = r) := Lib.hid (by
          have := HI.out
          rw [HD.out] at this
          rw [← this]
          unfold nameFrom nameLen
          have hnm : named s[i + n] = true := by unfold named; rw [h1]; rfl
          rw [if_neg (by omega)]
          dsimp only
          rw [if_pos h1, leading, if_pos hnm]
          rw [show i + (n + 1) = i + n + 1 from rfl]
          split <;> omega)
        have HLX := Lib.hid (HL.out s[i + n])
        rw [h1] at HLX
        clear h1 c0
        go_wp2_with (go_at_call 65; refine (HLX.out _).mono ?_; rintro e w' ⟨rfl, rfl⟩)
        go_wp2
        go_round
        case rel => exact ⟨n + 1, by go_num, by omega, HK⟩
        case measure => simp [intOf]; omega
      | false =>
        have HLX := Lib.hid (HL.out s[i + n])
        rw [h1] at HLX
        have HGX := Lib.hid (HG.out s[i + n])
        by_cases hn0 : n = 0
        · subst hn0
          have HK : Hid (r = 0) := Lib.hid (by
            have := HI.out
            rw [HD.out] at this
            rw [← this]
            unfold nameFrom nameLen
            rw [if_pos rfl]
            dsimp only
            rw [h1]; rfl)
          clear h1 c0
          go_wp2_with (go_at_call 65; refine (HLX.out _).mono ?_; rintro e w' ⟨rfl, rfl⟩)
          go_wp2
          go_ret
          exact ⟨ret_int (by rw [HK.out]; rfl), rfl⟩
        · cases h2 : digit s[i + n] with
          | true =>
            rw [h2] at HGX
            have HK : Hid (nameFrom (n + 1) (s.data.toList.drop (i + (n + 1))) + (n + 1) = r) := Lib.hid (by
              have := HI.out
              rw [HD.out] at this
              rw [← this]
              unfold nameFrom
              have hnm : named s[i + n] = true := by unfold named; rw [h2]; simp
              rw [if_neg (by omega), if_neg hn0, leading, if_pos hnm, show i + (n + 1) = i + n + 1 from rfl]
              omega)
            have hp : 0 < n := by omega
            clear h1 h2 hn0 c0
            go_wp2_with (first | (go_at_call 65; refine (HLX.out _).mono ?_; rintro e w' ⟨rfl, rfl⟩) | (go_at_call 39; refine (HGX.out _).mono ?_; rintro e w' ⟨rfl, rfl⟩))
            go_wp2
            go_round
            case rel => exact ⟨n + 1, by go_num, by omega, HK⟩
            case measure => simp [intOf]; omega
          | false =>
            rw [h2] at HGX
            have HK : Hid (r = n) := Lib.hid (by
              have := HI.out
              rw [HD.out] at this
              rw [← this]
              unfold nameFrom
              have hnm : named s[i + n] = false := by unfold named; rw [h1, h2]; rfl
              rw [if_neg hn0, leading, if_neg (by rw [hnm]; decide)]
              omega)
            have hp : 0 < n := by omega
            clear h1 h2 hn0 c0
            go_wp2_with (first | (go_at_call 65; refine (HLX.out _).mono ?_; rintro e w' ⟨rfl, rfl⟩) | (go_at_call 39; refine (HGX.out _).mono ?_; rintro e w' ⟨rfl, rfl⟩))
            go_wp2
            go_ret
            exact ⟨ret_int (by rw [HK.out]), rfl⟩
    · have HK : Hid (r = n) := Lib.hid (by
        rw [← HI.out, List.drop_of_length_le (by rw [← sizeD]; omega)]
        unfold nameFrom nameLen
        split <;> (dsimp only [leading]; omega))
      go_wp2
      go_ret
      exact ⟨ret_int (by rw [HK.out]), rfl⟩

theorem isName_len (l : Bs) : isName l = (decide (0 < l.length) && decide (l.length ≤ 64) && decide (nameLen l = l.length)) := by
  unfold isName nameLen
  cases l with
  | nil => rfl
  | cons c t =>
    cases h : letter c with
    | true => simp [h]
    | false => simp [h]
theorem rname_any (s : ByteArray) (w : World) (hs : s.size ≤ 4611686018427387904) :
    Calls Try.prog 20 #[.string s] w fun e w' => e = .returned (.bool (isName s.data.toList)) ∧ w = w' := by
  have H := Lib.hid (fun w => nameAt_any s 0 (by omega) w hs)
  rw [List.drop_zero] at H
  have HN := Lib.hid (isName_len s.data.toList)
  rw [← sizeD] at HN
  generalize nameLen s.data.toList = n at *
  by_cases h0 : 0 < s.size
  · by_cases h1 : s.size ≤ 64
    · have HNN : Hid (isName s.data.toList = decide (n = s.size)) := Lib.hid (by rw [HN.out, decide_eq_true h1, decide_eq_true h0]; simp)
      have h3 : ((n : Int) == (s.size : Int)) = decide (n = s.size) := by rw [Bool.eq_iff_iff]; simp; omega
      have H3 := Lib.hid h3
      clear h3 HN
      go_enter Try.func20, Try.ntmps20
      go_wp2_with (go_at_call 46; refine (H.out _).mono ?_; rintro e w' ⟨rfl, rfl⟩)
      go_ret
      exact ⟨ret_bool (by rw [HNN.out]; exact H3.out), rfl⟩
    · have HNN : Hid (isName s.data.toList = false) := Lib.hid (by rw [HN.out, decide_eq_false h1]; simp)
      clear HN
      go_enter Try.func20, Try.ntmps20
      go_wp2
      go_ret
      exact ⟨ret_bool HNN.out.symm, rfl⟩
  · have HNN : Hid (isName s.data.toList = false) := Lib.hid (by rw [HN.out, decide_eq_false h0]; simp)
    have hz : s.size = 0 := by omega
    clear HN
    go_enter Try.func20, Try.ntmps20
    go_wp2
    go_ret
    exact ⟨ret_bool HNN.out.symm, rfl⟩

end Go.Proofs.Ytdegkfnlafgheaa.Wd
