/- DERIVED. Walks over the document's own answer for layer 3: Join, Abs, Name, between. -/
import Derived.Test.YtfchofdoabhakaaDoorPathRef
namespace Go.Proofs.YtfchofdoabhakaaDoor
open Go.RowKit
open PathM
set_option linter.unusedVariables false

set_option maxHeartbeats 400000 in
theorem rjoin_any (d n : ByteArray) (w : World) (hd : d.size + n.size + 1 ≤ maxLen) :
    Calls Tryd.prog 16 #[.string d, .string n] w fun e w' => e = .returned (.string (nm (joinL d.data.toList n.data.toList))) ∧ w = w' := by
  unfold maxLen at hd
  have hb := fun w => rbare_any d w (by unfold maxLen; omega)
  have hl := bare_len d.data.toList
  have hdl := sizeD d
  have hnl := sizeD n
  have e1 : (nm (bare d.data.toList)).data.toList ++ (⟨#[47]⟩ : ByteArray).data.toList = bare d.data.toList ++ [47] := rfl
  have c1 := cat_nm (nm (bare d.data.toList)) ⟨#[47]⟩ _ e1 (by simp; omega)
  have e2 : (nm (bare d.data.toList ++ [47])).data.toList ++ n.data.toList = joinL d.data.toList n.data.toList := by unfold joinL; rw [nm_data]; simp
  have c2 := cat_nm (nm (bare d.data.toList ++ [47])) n _ e2 (by rw [← e2, nm_data]; simp; omega)
  clear e1 e2
  generalize nm (bare d.data.toList) = B at hb c1
  generalize nm (bare d.data.toList ++ [47]) = B2 at c1 c2
  generalize nm (joinL d.data.toList n.data.toList) = B3 at c2
  have HB := Lib.hid hb; clear hb hdl hnl hl
  go_enter Tryd.func16, Tryd.ntmps16
  go_wp2_with (go_at_call 32; refine (HB.out _).mono ?_; rintro e w' ⟨rfl, rfl⟩)
  go_ret
  exact ⟨rfl, rfl⟩

set_option maxHeartbeats 400000 in
theorem rabs_any (d p : ByteArray) (w : World) (hd : d.size + p.size + 1 ≤ maxLen) :
    Calls Tryd.prog 18 #[.string d, .string p] w fun e w' => e = .returned (.string (nm (absL d.data.toList p.data.toList))) ∧ w = w' := by
  have hj := fun w => rjoin_any d p w hd
  unfold maxLen at hd
  by_cases hz : p.data.toList = []
  · have h1 := emp_yes hz
    have hr : nm (absL d.data.toList p.data.toList) = p := by unfold absL; rw [if_pos (.inl hz)]; rfl
    have HR := Lib.hid hr; clear hr hz hj
    go_enter Tryd.func18, Tryd.ntmps18
    go_wp2
    go_ret
    exact ⟨ret_str HR.out.symm, rfl⟩
  · have h1 := emp_no hz
    have hp : 0 < p.size := by rw [sizeD]; exact List.length_pos_iff.2 hz
    have hh := head_at p hp
    by_cases hc : p[0] = 47
    · have hr : nm (absL d.data.toList p.data.toList) = p := by unfold absL; rw [if_pos (.inr (by rw [hh, hc]))]; rfl
      have HR := Lib.hid hr; clear hr hz hj
      have hc' : ((p[0].toNat : Int) == 47) = true := by rw [hc]; rfl
      have HC := Lib.hid hc; clear hc hh
      go_enter Tryd.func18, Tryd.ntmps18
      go_wp2
      go_ret
      exact ⟨ret_str HR.out.symm, rfl⟩
    · have hr : absL d.data.toList p.data.toList = joinL d.data.toList p.data.toList := by
        unfold absL; rw [if_neg]; rintro (h | h)
        · exact hz h
        · rw [hh] at h; exact hc (by simpa using h)
      have HR := Lib.hid hr; clear hr hz
      have hc' : ((p[0].toNat : Int) == 47) = false := beq_eq_false_iff_ne.2 (fun h => hc (UInt8.toNat_inj.1 (by have : (47 : UInt8).toNat = 47 := rfl; omega)))
      have HC := Lib.hid hc; clear hc hh
      have HJ := Lib.hid hj; clear hj
      go_enter Tryd.func18, Tryd.ntmps18
      go_wp2_with (go_at_call 16; refine (HJ.out _).mono ?_; rintro e w' ⟨rfl, rfl⟩)
      go_ret
      exact ⟨ret_str (by rw [HR.out]), rfl⟩

set_option maxHeartbeats 1000000 in
theorem rname_any (s : ByteArray) (w : World) (hs : s.size ≤ maxLen) :
    Calls Tryd.prog 10 #[.string s] w fun e w' => e = .returned (.bool (nameB s.data.toList)) ∧ w = w' := by
  have hsz := sizeD s
  have hc1 := fun w => rhas_any s 47 47 w rfl hs
  have hc2 := fun w => rhas_any s 0 0 w rfl hs
  have b1 : (s.toList == [46]) = (s.data.toList == [46]) := by rw [listD]
  have b2 : (s.toList == [46, 46]) = (s.data.toList == [46, 46]) := by rw [listD]
  have n1 : (s.toList != [46]) = !(s.data.toList == [46]) := by rw [listD]; rfl
  have n2 : (s.toList != [46, 46]) = !(s.data.toList == [46, 46]) := by rw [listD]; rfl
  unfold maxLen at hs
  have hN : nameB s.data.toList = (decide (1 ≤ s.size) && decide (s.size ≤ 64) && !s.data.toList.contains 47 && !s.data.toList.contains 0 && !(s.data.toList == [46]) && !(s.data.toList == [46, 46])) := by
    unfold nameB
    have : (!s.data.toList.isEmpty) = decide (1 ≤ s.size) := by
      rw [hsz]; cases s.data.toList with
      | nil => rfl
      | cons _ _ => simp
    rw [this, ← hsz]; rfl
  generalize nameB s.data.toList = N at *
  generalize s.data.toList.contains 47 = p1 at *
  generalize s.data.toList.contains 0 = p2 at *
  generalize (s.data.toList == [46]) = p3 at *
  generalize (s.data.toList == [46, 46]) = p4 at *
  have HN := Lib.hid hN; clear hN hsz
  have H1 := Lib.hid hc1; have H2 := Lib.hid hc2; clear hc1 hc2
  by_cases h1 : 1 ≤ s.size
  · by_cases h2 : s.size ≤ 64
    · have d1 : decide (1 ≤ s.size) = true := decide_eq_true h1
      have d2 : decide (s.size ≤ 64) = true := decide_eq_true h2
      rw [d1, d2] at HN
      clear d1 d2
      cases p1 <;> cases p2 <;> cases p3 <;> cases p4
      all_goals
        simp only [Bool.not_false, Bool.not_true] at n1 n2
        go_enter Tryd.func10, Tryd.ntmps10
        go_wp2_with (first
          | (go_at_call 26; with_reducible refine (H1.out _).mono ?_; rintro e w' ⟨rfl, rfl⟩)
          | (go_at_call 26; with_reducible refine (H2.out _).mono ?_; rintro e w' ⟨rfl, rfl⟩))
        go_ret
        exact ⟨ret_bool (by rw [HN.out]; rfl), rfl⟩
    · have d2 : decide (s.size ≤ 64) = false := decide_eq_false h2
      rw [d2, Bool.and_false] at HN
      clear d2
      go_enter Tryd.func10, Tryd.ntmps10
      go_wp2_with (first
        | (go_at_call 26; with_reducible refine (H1.out _).mono ?_; rintro e w' ⟨rfl, rfl⟩)
        | (go_at_call 26; with_reducible refine (H2.out _).mono ?_; rintro e w' ⟨rfl, rfl⟩))
      go_ret
      exact ⟨ret_bool (by rw [HN.out]; rfl), rfl⟩
  · have d1 : decide (1 ≤ s.size) = false := decide_eq_false h1
    rw [d1] at HN
    clear d1
    go_enter Tryd.func10, Tryd.ntmps10
    go_wp2_with (first
      | (go_at_call 26; with_reducible refine (H1.out _).mono ?_; rintro e w' ⟨rfl, rfl⟩)
      | (go_at_call 26; with_reducible refine (H2.out _).mono ?_; rintro e w' ⟨rfl, rfl⟩))
    go_ret
    exact ⟨ret_bool (by rw [HN.out]; rfl), rfl⟩

end Go.Proofs.YtfchofdoabhakaaDoor
