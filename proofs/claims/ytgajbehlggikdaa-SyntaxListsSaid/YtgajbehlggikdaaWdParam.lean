/- DERIVED. Walks over the reader's calls about parameters and operations. -/
import Derived.Test.YtgajbehlggikdaaWdRead
import Derived.IntWalk
namespace Go.Proofs.Ytgajbehlggikdaa.Wd
open Go.RowKit
open PathM WdM
set_option linter.unusedVariables false
theorem drop_nil (s : ByteArray) (i : Nat) (h : s.size ≤ i) : s.data.toList.drop i = [] := List.drop_of_length_le (by rw [← sizeD]; exact h)
theorem over_lit (rb : Nat) (s : ByteArray) (i d : Nat) (w : World) (h : RdIn w rb s i d) (b : Bool) (hb : decide (i = s.size) = b) (n : Nat) :
    Calls Try.prog 44 #[.pointer (some ⟨rb, 0, none⟩)] (w.drewN n) fun e w' => e = .returned (.bool b) ∧ ∃ m, w' = w.drewN m := hb ▸ over_q rb s i d w h n
set_option maxRecDepth 100000 in
set_option maxHeartbeats 1600000 in
theorem pstands_any (rb : Nat) (s : ByteArray) (i d : Nat) (w : World) (h : RdIn w rb s i d) (hi : i ≤ s.size) (hs : s.size ≤ 8192) :
    Calls Try.prog 81 #[.pointer (some ⟨rb, 0, none⟩)] w fun e w' => e = .returned (.bool (paramStands (s.data.toList.drop i))) ∧ ∃ k, w' = w.drewN k := by
  by_cases hlt : i < s.size
  · have HO := Lib.hid (over_lit rb s i d w h false (decide_eq_false (by omega)))
    have hd := get_at s i hlt
    have hp : paramStands (s.data.toList.drop i) = (named s[i] || signs.contains s[i]) := by rw [hd]; rfl
    have HN := Lib.hid (named_any s[i])
    have HX := Lib.hid (fun W => index_any signs s[i] W)
    rw [hp, has_idx]
    clear hd hp
    generalize Lib.indexByte signs s[i] = x at *
    have HRD := Lib.hid h
    unfold RdIn at h
    have r0 := cell_blk h 0
    have r1 := cell_blk h 1
    have r2 := cell_blk h 2
    simp at r0 r1 r2
    have hz := fin_at h
    have f0 := froz_blk h 0
    have f1 := froz_blk h 1
    have f2 := froz_blk h 2
    clear h
    cases hn : named s[i] with
    | true =>
      rw [hn] at HN
      clear hn
      go_enter Try.func81, Try.ntmps81
      go_wp2_with fail
      go_quiet ((first | (go_at_call 44; exact HO.out _) | (go_at_call 59; exact qs HN.out) | (go_at_call 28; exact qs HX.out)))
      go_wp2
      go_ret
      exact ⟨rfl, _, rfl⟩
    | false =>
      rw [hn] at HN
      clear hn
      go_enter Try.func81, Try.ntmps81
      go_wp2_with fail
      go_quiet ((first | (go_at_call 44; exact HO.out _) | (go_at_call 59; exact qs HN.out) | (go_at_call 28; exact qs HX.out)))
      go_wp2
      go_ret
      exact ⟨ret_bool (by simp), _, rfl⟩
  · have HO := Lib.hid (over_lit rb s i d w h true (decide_eq_true (by omega)))
    rw [drop_nil s i (by omega)]
    have HRD := Lib.hid h
    unfold RdIn at h
    have r0 := cell_blk h 0
    have r1 := cell_blk h 1
    have r2 := cell_blk h 2
    simp at r0 r1 r2
    have hz := fin_at h
    have f0 := froz_blk h 0
    have f1 := froz_blk h 1
    have f2 := froz_blk h 2
    clear h
    go_enter Try.func81, Try.ntmps81
    go_wp2_with fail
    go_quiet ((go_at_call 44; exact HO.out _))
    go_wp2
    go_ret
    exact ⟨rfl, _, rfl⟩

theorem lens_not {l : Bs} (h : stands [35] l = false) : lengthStands l = false := by
  unfold lengthStands
  split
  · simp [stands] at h
  · rfl
theorem lens_two (c : UInt8) (t : Bs) : lengthStands (35 :: c :: t) = (c != 125) := rfl
theorem lens_one : lengthStands [35] = false := rfl
theorem stands_head {a : UInt8} {l : Bs} (h : stands [a] l = true) : ∃ t, l = a :: t := by
  cases l with
  | nil => cases h
  | cons c t => simp [stands] at h; exact ⟨t, by rw [h]⟩
set_option maxRecDepth 100000 in
set_option maxHeartbeats 1600000 in
theorem lens_any (rb : Nat) (s : ByteArray) (i d : Nat) (w : World) (h : RdIn w rb s i d) (hi : i ≤ s.size) (hs : s.size ≤ 8192) :
    Calls Try.prog 85 #[.pointer (some ⟨rb, 0, none⟩)] w fun e w' => e = .returned (.bool (lengthStands (s.data.toList.drop i))) ∧ ∃ k, w' = w.drewN k := by
  have hst := fun k => stands_any rb s i d ⟨#[35]⟩ (w.drewN k) (rd_drewN h k) hi
  have e35 : (⟨#[35]⟩ : ByteArray).data.toList = [35] := rfl
  rw [e35] at hst
  cases hx : stands [35] (s.data.toList.drop i) with
  | false =>
    rw [hx] at hst
    rw [lens_not hx]
    have HST := Lib.hid hst
    have HRD := Lib.hid h
    unfold RdIn at h
    have r0 := cell_blk h 0
    have r1 := cell_blk h 1
    have r2 := cell_blk h 2
    simp at r0 r1 r2
    have hz := fin_at h
    have f0 := froz_blk h 0
    have f1 := froz_blk h 1
    have f2 := froz_blk h 2
    clear h
    clear hst hx e35
    go_enter Try.func85, Try.ntmps85
    go_wp2_with fail
    go_quiet ((go_at_call 68; exact qd HST.out))
    go_wp2
    go_ret
    exact ⟨rfl, _, rfl⟩
  | true =>
    rw [hx] at hst
    obtain ⟨t, ht⟩ := stands_head hx
    have hlt : i < s.size := by have := congrArg List.length ht; rw [List.length_drop, ← sizeD, List.length_cons] at this; omega
    have hd := get_at s i hlt
    rw [ht] at hd
    obtain ⟨hhd, ht2⟩ := List.cons.inj hd
    clear hhd
    have HST := Lib.hid hst
    by_cases h1 : i + 1 < s.size
    · have hd1 := get_at s (i + 1) h1
      have b1 : ((s[i + 1].toNat : Int) != 125) = !decide (s[i + 1] = 125) := bn s[i + 1] 125 (by decide)
      have hr : lengthStands (s.data.toList.drop i) = !decide (s[i + 1] = 125) := by
        rw [ht, ht2, hd1, lens_two, Bool.eq_iff_iff]; simp
      rw [hr]
      have B1 := Lib.hid b1
      have h1i : decide ((i : Int) + 1 < (s.size : Int)) = true := decide_eq_true (by omega)
      have h1w : IntKind.i64.wrap ((i : Int) + 1) = (i : Int) + 1 := IntWalk.i64_in _ (by omega)
      have h1p : (0 : Int) ≤ (i : Int) + 1 := by omega
      have h1n : ((i : Int) + 1).toNat = i + 1 := by omega
      have h1j : (i : Int) + 1 < (s.size : Int) := by omega
      have HRD := Lib.hid h
      unfold RdIn at h
      have r0 := cell_blk h 0
      have r1 := cell_blk h 1
      have r2 := cell_blk h 2
      simp at r0 r1 r2
      have hz := fin_at h
      have f0 := froz_blk h 0
      have f1 := froz_blk h 1
      have f2 := froz_blk h 2
      clear h
      clear hst hx e35 hr hd1 hd ht ht2 b1 hs hi hlt
      go_enter Try.func85, Try.ntmps85
      go_wp2_with fail
      go_quiet ((go_at_call 68; exact qd HST.out))
      go_wp2
      go_ret
      exact ⟨ret_bool B1.out, _, rfl⟩
    · have hr : lengthStands (s.data.toList.drop i) = false := by
        rw [ht, ht2, drop_nil s (i + 1) (by omega)]; rfl
      rw [hr]
      have h1i : decide ((i : Int) + 1 < (s.size : Int)) = false := decide_eq_false (by omega)
      have h1w : IntKind.i64.wrap ((i : Int) + 1) = (i : Int) + 1 := IntWalk.i64_in _ (by omega)
      have HRD := Lib.hid h
      unfold RdIn at h
      have r0 := cell_blk h 0
      have r1 := cell_blk h 1
      have r2 := cell_blk h 2
      simp at r0 r1 r2
      have hz := fin_at h
      have f0 := froz_blk h 0
      have f1 := froz_blk h 1
      have f2 := froz_blk h 2
      clear h
      clear hst hx e35 hr hd ht ht2 hs hi hlt
      go_enter Try.func85, Try.ntmps85
      go_wp2_with fail
      go_quiet ((go_at_call 68; exact qd HST.out))
      go_wp2
      go_ret
      exact ⟨rfl, _, rfl⟩

theorem paramLen_le (s : ByteArray) (i : Nat) (h : i < s.size) : i + paramLen (s.data.toList.drop i) ≤ s.size ∧ paramLen (s.data.toList.drop i) = if letter s[i] then leading named (s.data.toList.drop i) else if digit s[i] then leading digit (s.data.toList.drop i) else 1 := by
  have hd := get_at s i h
  have e : paramLen (s.data.toList.drop i) = if letter s[i] then leading named (s.data.toList.drop i) else if digit s[i] then leading digit (s.data.toList.drop i) else 1 := by rw [hd]; rfl
  refine ⟨?_, e⟩
  rw [e]
  have h1 := leading_le named (s.data.toList.drop i)
  have h2 := leading_le digit (s.data.toList.drop i)
  rw [List.length_drop, ← sizeD] at h1 h2
  split
  · omega
  · split <;> omega
theorem head_ext (s : ByteArray) (i : Nat) (h : i < s.size) : ∃ L : ByteArray, s.extract i s.size = L ∧ L.data.toList = s.data.toList.drop i ∧ ∃ h0 : 0 < L.size, L.size = s.size - i ∧ L[0] = s[i] := by
  have h2 := drop_len s i (by omega)
  refine ⟨nm (s.data.toList.drop i), ext_from s i, rfl, by rw [h2]; omega, h2, ?_⟩
  have := get_at (nm (s.data.toList.drop i)) 0 (by rw [h2]; omega)
  exact (List.cons.inj ((get_at s i h).symm.trans this)).1.symm
theorem bad_len (s : ByteArray) (i : Nat) : (s.data.toList.drop i).length = s.size - i := by rw [List.length_drop, sizeD]

set_option maxRecDepth 100000 in
set_option maxHeartbeats 3200000 in
theorem param_any (rb : Nat) (s : ByteArray) (i d : Nat) (w : World) (h : RdIn w rb s i d) (hi : i ≤ s.size) (hs : s.size ≤ 8192) :
    Calls Try.prog 82 #[.pointer (some ⟨rb, 0, none⟩)] w
      (Ends s i (param (s.data.toList.drop i)) (fun x n e w' => Red rb s n d (.string (nm x)) w e w') (fun w' => Kept (· = rb) w w')) := by
  have hp := pstands_any rb s i d w h hi hs
  cases hx : paramStands (s.data.toList.drop i) with
  | false =>
    rw [hx] at hp
    have HP := Lib.hid hp
    have HE : Hid (param (s.data.toList.drop i) = .bad (s.size - i) 61) := Lib.hid (by unfold param; rw [hx, bad_len]; rfl)
    clear hp hx
    have HRD := Lib.hid h
    unfold RdIn at h
    have r0 := cell_blk h 0
    have r1 := cell_blk h 1
    have r2 := cell_blk h 2
    simp at r0 r1 r2
    have hz := fin_at h
    have f0 := froz_blk h 0
    have f1 := froz_blk h 1
    have f2 := froz_blk h 2
    clear h
    go_enter Try.func82, Try.ntmps82
    go_wp2_with (go_at_call 81; refine (HP.out).mono ?_; rintro e w' ⟨rfl, kp, rfl⟩)
    refine ⟨rfl, ?_⟩
    rw [HE.out]
    exact .inr ⟨i, 61, rfl, Nat.le_refl _, hi, rfl, Kept.drewN _⟩
  | true =>
    rw [hx] at hp
    have hlt : i < s.size := by
      rcases Nat.lt_or_ge i s.size with h | h
      · exact h
      · rw [drop_nil s i h] at hx; cases hx
    have HP := Lib.hid hp
    obtain ⟨hle, heq⟩ := paramLen_le s i hlt
    obtain ⟨L, hL1, hL2, hL3, hL4, hL5⟩ := head_ext s i hlt
    have hl := letter_any s[i]
    have hg := digit_any s[i]
    have hn := fun W => leading_any asks_named L W (by omega)
    have hd := fun W => leading_any asks_digit L W (by omega)
    have ht := fun W (hW : RdIn W rb s i d) => take_any rb s i d (paramLen (s.data.toList.drop i)) W hW hle hs
    have hpn : param (s.data.toList.drop i) = if paramLen (s.data.toList.drop i) ≤ 64 then .ok ((s.data.toList.drop i).take (paramLen (s.data.toList.drop i))) ((s.data.toList.drop i).drop (paramLen (s.data.toList.drop i))) else .bad (s.size - i) 61 := by
      unfold param; rw [hx, if_pos rfl, bad_len]
    rw [hL2] at hn hd
    have HX := Lib.hid hL1
    generalize paramLen (s.data.toList.drop i) = n at *
    have HPN := Lib.hid hpn
    have HT := Lib.hid ht
    clear hpn ht hx hp
    have HRD := Lib.hid h
    unfold RdIn at h
    have r0 := cell_blk h 0
    have r1 := cell_blk h 1
    have r2 := cell_blk h 2
    simp at r0 r1 r2
    have hz := fin_at h
    have f0 := froz_blk h 0
    have f1 := froz_blk h 1
    have f2 := froz_blk h 2
    clear h
    cases h1 : letter s[i] with
    | true =>
      rw [h1] at hl heq
      rw [if_pos rfl] at heq
      rw [← heq] at hn
      have HD := Lib.hid hn
      have HL := Lib.hid hl
      have HG := Lib.hid hg
      have HL5 := Lib.hid hL5
      rw [← hL5] at HL HG
      clear hl hg hn hd heq h1 hL1 hL2 hL5
      by_cases h64 : n ≤ 64
      · have HPA : Hid (param (s.data.toList.drop i) = .ok ((s.data.toList.drop i).take n) (s.data.toList.drop (i + n))) := Lib.hid (by rw [HPN.out, if_pos h64, List.drop_drop])
        go_enter Try.func82, Try.ntmps82
        go_wp2_with (go_at_call 81; refine (HP.out).mono ?_; rintro e w' ⟨rfl, kp, rfl⟩)
        go_quiet (fail)
        rw [HX.out]
        go_wp2_with (first | (go_at_call 57; refine (HL.out _).mono ?_; rintro e w' ⟨rfl, rfl⟩) | (go_at_call 74; refine (HG.out _).mono ?_; rintro e w' ⟨rfl, rfl⟩) | (go_at_call 58; refine (HD.out _).mono ?_; rintro e w' ⟨rfl, rfl⟩) | (go_at_call 67; refine (HT.out _ (rd_drewN HRD.out _)).mono ?_; rintro e w' h9; obtain ⟨rfl, h9⟩ := h9; have H9 := Lib.hid h9; clear h9))
        go_ret
        rw [HPA.out]
        exact .inl ⟨_, i + n, rfl, by omega, hle, rfl, (Kept.drewN _).trans H9.out.1, H9.out.2⟩
      · have HPA : Hid (param (s.data.toList.drop i) = .bad (s.size - i) 61) := Lib.hid (by rw [HPN.out, if_neg h64])
        have h65 : 64 < n := by omega
        clear h64
        go_enter Try.func82, Try.ntmps82
        go_wp2_with (go_at_call 81; refine (HP.out).mono ?_; rintro e w' ⟨rfl, kp, rfl⟩)
        go_quiet (fail)
        rw [HX.out]
        go_wp2_with (first | (go_at_call 57; refine (HL.out _).mono ?_; rintro e w' ⟨rfl, rfl⟩) | (go_at_call 74; refine (HG.out _).mono ?_; rintro e w' ⟨rfl, rfl⟩) | (go_at_call 58; refine (HD.out _).mono ?_; rintro e w' ⟨rfl, rfl⟩) | (go_at_call 67; refine (HT.out _ (rd_drewN HRD.out _)).mono ?_; rintro e w' h9; obtain ⟨rfl, h9⟩ := h9; have H9 := Lib.hid h9; clear h9))
        refine ⟨rfl, ?_⟩
        rw [HPA.out]
        exact .inr ⟨i, 61, rfl, Nat.le_refl _, hi, rfl, Kept.drewN _⟩
    | false =>
      rw [h1] at hl heq
      rw [if_neg (by decide)] at heq
      cases h2 : digit s[i] with
      | true =>
        rw [h2] at hg heq
        rw [if_pos rfl] at heq
        rw [← heq] at hd
        have HD := Lib.hid hd
        have HL := Lib.hid hl
        have HG := Lib.hid hg
        rw [← hL5] at HL HG
        clear hl hg hn hd heq h1 h2 hL1 hL2 hL5
        by_cases h64 : n ≤ 64
        · have HPA : Hid (param (s.data.toList.drop i) = .ok ((s.data.toList.drop i).take n) (s.data.toList.drop (i + n))) := Lib.hid (by rw [HPN.out, if_pos h64, List.drop_drop])
          go_enter Try.func82, Try.ntmps82
          go_wp2_with (go_at_call 81; refine (HP.out).mono ?_; rintro e w' ⟨rfl, kp, rfl⟩)
          go_quiet (fail)
          rw [HX.out]
          go_wp2_with (first | (go_at_call 57; refine (HL.out _).mono ?_; rintro e w' ⟨rfl, rfl⟩) | (go_at_call 74; refine (HG.out _).mono ?_; rintro e w' ⟨rfl, rfl⟩) | (go_at_call 58; refine (HD.out _).mono ?_; rintro e w' ⟨rfl, rfl⟩) | (go_at_call 67; refine (HT.out _ (rd_drewN HRD.out _)).mono ?_; rintro e w' h9; obtain ⟨rfl, h9⟩ := h9; have H9 := Lib.hid h9; clear h9))
          go_ret
          rw [HPA.out]
          exact .inl ⟨_, i + n, rfl, by omega, hle, rfl, (Kept.drewN _).trans H9.out.1, H9.out.2⟩
        · have HPA : Hid (param (s.data.toList.drop i) = .bad (s.size - i) 61) := Lib.hid (by rw [HPN.out, if_neg h64])
          have h65 : 64 < n := by omega
          clear h64
          go_enter Try.func82, Try.ntmps82
          go_wp2_with (go_at_call 81; refine (HP.out).mono ?_; rintro e w' ⟨rfl, kp, rfl⟩)
          go_quiet (fail)
          rw [HX.out]
          go_wp2_with (first | (go_at_call 57; refine (HL.out _).mono ?_; rintro e w' ⟨rfl, rfl⟩) | (go_at_call 74; refine (HG.out _).mono ?_; rintro e w' ⟨rfl, rfl⟩) | (go_at_call 58; refine (HD.out _).mono ?_; rintro e w' ⟨rfl, rfl⟩) | (go_at_call 67; refine (HT.out _ (rd_drewN HRD.out _)).mono ?_; rintro e w' h9; obtain ⟨rfl, h9⟩ := h9; have H9 := Lib.hid h9; clear h9))
          refine ⟨rfl, ?_⟩
          rw [HPA.out]
          exact .inr ⟨i, 61, rfl, Nat.le_refl _, hi, rfl, Kept.drewN _⟩
      | false =>
        rw [h2] at hg heq
        rw [if_neg (by decide)] at heq
        subst heq
        have HL := Lib.hid hl
        have HG := Lib.hid hg
        have HPA : Hid (param (s.data.toList.drop i) = .ok ((s.data.toList.drop i).take 1) (s.data.toList.drop (i + 1))) := Lib.hid (by rw [HPN.out, if_pos (by decide), List.drop_drop])
        rw [← hL5] at HL HG
        clear hl hg hn hd h1 h2 hL1 hL2 hL5
        go_enter Try.func82, Try.ntmps82
        go_wp2_with (go_at_call 81; refine (HP.out).mono ?_; rintro e w' ⟨rfl, kp, rfl⟩)
        go_quiet (fail)
        rw [HX.out]
        go_wp2_with (first | (go_at_call 57; refine (HL.out _).mono ?_; rintro e w' ⟨rfl, rfl⟩) | (go_at_call 74; refine (HG.out _).mono ?_; rintro e w' ⟨rfl, rfl⟩) | (go_at_call 67; refine (HT.out _ (rd_drewN HRD.out _)).mono ?_; rintro e w' h9; obtain ⟨rfl, h9⟩ := h9; have H9 := Lib.hid h9; clear h9))
        go_ret
        rw [HPA.out]
        exact .inl ⟨_, i + 1, rfl, by omega, hle, rfl, (Kept.drewN _).trans H9.out.1, H9.out.2⟩

end Go.Proofs.Ytgajbehlggikdaa.Wd
