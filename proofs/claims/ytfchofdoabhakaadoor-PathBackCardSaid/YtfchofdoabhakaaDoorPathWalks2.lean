/- DERIVED. Walks over package path of layer 3: Join, Abs, Base, Up, fault. -/
import Derived.Test.YtfchofdoabhakaaDoorPathWalks
namespace Go.Proofs.YtfchofdoabhakaaDoor
open Go.RowKit
open PathM
set_option linter.unusedVariables false

theorem cat_nm (a b : ByteArray) (x : Bs) (h : a.data.toList ++ b.data.toList = x) (hl : x.length ≤ 9223372036854775807) (W : World) :
    (Op.stringOp .add a b).run Tryd.prog W = .ok (.string (nm x)) W := by
  have hsz : a.size + b.size ≤ 9223372036854775807 := by
    rw [sizeD a, sizeD b, ← List.length_append, h]; exact hl
  rw [run_string_add_sum W _ _ (by simpa using hsz)]
  subst h
  congr 2

theorem nm_isEmpty_nil {b : ByteArray} (h : b.data.toList = []) : b.toList = [] := by rw [listD, h]

/-- Both spellings of 'is it empty?'. -/
theorem emp_yes {b : ByteArray} (h : b.data.toList = []) : b.toList.isEmpty = true := by rw [listD, h]; rfl
theorem emp_no {b : ByteArray} (h : b.data.toList ≠ []) : b.toList.isEmpty = false := by
  rw [listD]; cases e : b.data.toList with
  | nil => exact absurd e h
  | cons _ _ => rfl

set_option maxHeartbeats 400000 in
theorem join_any (d n : ByteArray) (w : World) (hd : d.size + n.size + 1 ≤ maxLen) :
    Calls Tryd.prog 15 #[.string d, .string n] w fun e w' => e = .returned (.string (nm (joinL d.data.toList n.data.toList))) ∧ w = w' := by
  unfold maxLen at hd
  have hb := fun w => bare_any d w (by unfold maxLen; omega)
  have hl := bare_len d.data.toList
  have hdl := sizeD d
  have hnl := sizeD n
  have e1 : (nm (bare d.data.toList)).data.toList ++ (⟨#[47]⟩ : ByteArray).data.toList = bare d.data.toList ++ [47] := rfl
  have c1 := cat_nm (nm (bare d.data.toList)) ⟨#[47]⟩ _ e1 (by simp; omega)
  have e2 : (nm (bare d.data.toList ++ [47])).data.toList ++ n.data.toList = joinL d.data.toList n.data.toList := by unfold joinL; rw [nm_data]; simp
  have c2 := cat_nm (nm (bare d.data.toList ++ [47])) n _ e2 (by rw [← e2, nm_data]; simp; omega)
  clear e1 e2
  generalize nm (bare d.data.toList) = B at hb c1
  generalize nm (bare d.data.toList ++ [47]) = B2 at c1 c2
  generalize nm (joinL d.data.toList n.data.toList) = B3 at c2
  have HB := Lib.hid hb; clear hb hdl hnl hl
  go_enter Tryd.func15, Tryd.ntmps15
  go_wp2_with (go_at_call 31; refine (HB.out _).mono ?_; rintro e w' ⟨rfl, rfl⟩)
  go_ret
  exact ⟨rfl, rfl⟩

theorem getD? (p : ByteArray) (i : Nat) (h : i < p.size) : p.data.toList[i]? = some p[i] := by
  have h' : i < p.data.size := h
  simp [ByteArray.getElem_eq_getElem_data]
theorem head_at (p : ByteArray) (h : 0 < p.size) : p.data.toList.head? = some p[0] := by
  exact List.head?_eq_getElem?.trans (getD? p 0 h)

set_option maxHeartbeats 400000 in
theorem abs_any (d p : ByteArray) (w : World) (hd : d.size + p.size + 1 ≤ maxLen) :
    Calls Tryd.prog 17 #[.string d, .string p] w fun e w' => e = .returned (.string (nm (absL d.data.toList p.data.toList))) ∧ w = w' := by
  have hj := fun w => join_any d p w hd
  unfold maxLen at hd
  by_cases hz : p.data.toList = []
  · have h1 := emp_yes hz
    have hr : nm (absL d.data.toList p.data.toList) = p := by unfold absL; rw [if_pos (.inl hz)]; rfl
    have HR := Lib.hid hr; clear hr hz hj
    go_enter Tryd.func17, Tryd.ntmps17
    go_wp2
    go_ret
    exact ⟨ret_str HR.out.symm, rfl⟩
  · have h1 := emp_no hz
    have hp : 0 < p.size := by rw [sizeD]; exact List.length_pos_iff.2 hz
    have hh := head_at p hp
    by_cases hc : p[0] = 47
    · have hr : nm (absL d.data.toList p.data.toList) = p := by unfold absL; rw [if_pos (.inr (by rw [hh, hc]))]; rfl
      have HR := Lib.hid hr; clear hr hz hj
      have hc' : ((p[0].toNat : Int) == 47) = true := by rw [hc]; rfl
      have HC := Lib.hid hc; clear hc hh
      go_enter Tryd.func17, Tryd.ntmps17
      go_wp2
      go_ret
      exact ⟨ret_str HR.out.symm, rfl⟩
    · have hr : absL d.data.toList p.data.toList = joinL d.data.toList p.data.toList := by
        unfold absL; rw [if_neg]; rintro (h | h)
        · exact hz h
        · rw [hh] at h; exact hc (by simpa using h)
      have HR := Lib.hid hr; clear hr hz
      have hc' : ((p[0].toNat : Int) == 47) = false := beq_eq_false_iff_ne.2 (fun h => hc (UInt8.toNat_inj.1 (by have : (47 : UInt8).toNat = 47 := rfl; omega)))
      have HC := Lib.hid hc; clear hc hh
      have HJ := Lib.hid hj; clear hj
      go_enter Tryd.func17, Tryd.ntmps17
      go_wp2_with (go_at_call 15; refine (HJ.out _).mono ?_; rintro e w' ⟨rfl, rfl⟩)
      go_ret
      exact ⟨ret_str (by rw [HR.out]), rfl⟩

set_option maxHeartbeats 400000 in
theorem base_any (s : ByteArray) (w : World) (hs : s.size ≤ 4611686018427387903) :
    Calls Tryd.prog 21 #[.string s] w fun e w' => e = .returned (.string (nm (baseL s.data.toList))) ∧ w = w' := by
  have hb := fun w => bare_any s w (by unfold maxLen; omega)
  have hl := bare_len s.data.toList
  rw [← sizeD s] at hl
  unfold baseL
  obtain ⟨B, hB⟩ : ∃ B, nm (bare s.data.toList) = B := ⟨_, rfl⟩
  have hBd : bare s.data.toList = B.data.toList := by rw [← hB]; rfl
  rw [hBd] at hl ⊢
  rw [hB] at hb
  rw [← sizeD B] at hl
  have hL := fun w => Tryd.strings_LastIndexByte B 47 (by omega) w
  have HB := Lib.hid hb; clear hb hBd hB
  rcases last_cases B with ⟨h1, h2⟩ | ⟨i, h1, h2, h3, h4⟩
  · rw [h1] at hL
    have hr : nm (seg B.data.toList) = B := by rw [seg_none _ h2]; exact nm_of B
    have hx : B.extract 0 B.size = B := by rw [ext_from]; exact nm_of B
    have HL := Lib.hid hL; have HR := Lib.hid hr; have HX := Lib.hid hx; clear hL hr hx h1 h2
    go_enter Tryd.func21, Tryd.ntmps21
    go_wp2_with (first
      | (go_at_call 31; refine (HB.out _).mono ?_; rintro e w' ⟨rfl, rfl⟩)
      | (go_at_call 34; refine (HL.out _).mono ?_; rintro e w' ⟨rfl, rfl⟩))
    go_ret
    exact ⟨ret_str (by rw [HR.out]), rfl⟩
  · rw [h1] at hL
    have hr : nm (seg B.data.toList) = B.extract (i + 1) B.size := by
      rw [ext_from]
      have := seg_slash (B.data.toList.take i) _ h4
      rw [← h3] at this
      rw [this]
    have HL := Lib.hid hL; have HR := Lib.hid hr; clear hL hr h1 h3 h4
    have c1 : (0 : Int) ≤ ↑i + 1 := by omega
    have c2 : (↑i + 1 : Int) ≤ ↑B.size := by omega
    go_enter Tryd.func21, Tryd.ntmps21
    go_wp2_with (first
      | (go_at_call 31; refine (HB.out _).mono ?_; rintro e w' ⟨rfl, rfl⟩)
      | (go_at_call 34; refine (HL.out _).mono ?_; rintro e w' ⟨rfl, rfl⟩))
    go_ret
    exact ⟨ret_str (by rw [HR.out]), rfl⟩

set_option maxHeartbeats 1000000 in
theorem up_any (s : ByteArray) (w : World) (hs : s.size ≤ 4611686018427387903) :
    Calls Tryd.prog 23 #[.string s] w fun e w' => e = .returned (.string (nm (upL s.data.toList))) ∧ w = w' := by
  have hb := fun w => bare_any s w (by unfold maxLen; omega)
  have hl := bare_len s.data.toList
  rw [← sizeD s] at hl
  unfold upL
  obtain ⟨B, hB⟩ : ∃ B, nm (bare s.data.toList) = B := ⟨_, rfl⟩
  have hBd : bare s.data.toList = B.data.toList := by rw [← hB]; rfl
  rw [hBd] at hl ⊢
  rw [hB] at hb
  rw [← sizeD B] at hl
  have hL := fun w => Tryd.strings_LastIndexByte B 47 (by omega) w
  have HB := Lib.hid hb; clear hb hBd hB
  rcases last_cases B with ⟨h1, h2⟩ | ⟨i, h1, h2, h3, h4⟩
  · rw [h1] at hL
    have hr := headL_none _ h2
    rw [if_pos hr]
    have HL := Lib.hid hL; clear hL hr h1 h2
    go_enter Tryd.func23, Tryd.ntmps23
    go_wp2_with (first
      | (go_at_call 31; with_reducible refine (HB.out _).mono ?_; rintro e w' ⟨rfl, rfl⟩)
      | (go_at_call 34; refine (HL.out _).mono ?_; rintro e w' ⟨rfl, rfl⟩))
    go_ret
    exact ⟨rfl, rfl⟩
  · rw [h1] at hL
    have hr : headL B.data.toList = B.data.toList.take i ++ [47] := by
      have := headL_slash (B.data.toList.take i) _ h4
      rw [← h3] at this
      exact this
    rw [hr, if_neg (by simp), bare_snoc_slash]
    have hb2 := fun w => bare_any (B.extract 0 i) w (by rw [ext_to, nm_size]; unfold maxLen; simp; omega)
    rw [show (B.extract 0 i).data.toList = B.data.toList.take i from congrArg (fun x : ByteArray => x.data.toList) (ext_to B i)] at hb2
    have HL := Lib.hid hL; have HB2 := Lib.hid hb2; clear hL hr h1 h3 h4 hb2
    have c1 : (0 : Int) ≤ ↑i := by omega
    have c2 : (↑i : Int) ≤ ↑B.size := by omega
    generalize bare (B.data.toList.take i) = D at HB2
    by_cases hD : D = []
    · have q1 := emp_yes (b := nm D) (by rw [nm_data]; exact hD)
      rw [if_pos hD]
      clear hD
      go_enter Tryd.func23, Tryd.ntmps23
      go_wp2_with fail
      refine (HB.out _).mono ?_
      rintro e w' ⟨rfl, rfl⟩
      go_wp2_with fail
      refine (HL.out _).mono ?_
      rintro e w' ⟨rfl, rfl⟩
      go_wp2_with fail
      refine (HB2.out _).mono ?_
      rintro e w' ⟨rfl, rfl⟩
      go_wp2_with fail
      go_ret
      exact ⟨rfl, rfl⟩
    · have q1 := emp_no (b := nm D) (by rw [nm_data]; exact hD)
      rw [if_neg hD]
      clear hD
      go_enter Tryd.func23, Tryd.ntmps23
      go_wp2_with fail
      refine (HB.out _).mono ?_
      rintro e w' ⟨rfl, rfl⟩
      go_wp2_with fail
      refine (HL.out _).mono ?_
      rintro e w' ⟨rfl, rfl⟩
      go_wp2_with fail
      refine (HB2.out _).mono ?_
      rintro e w' ⟨rfl, rfl⟩
      go_wp2_with fail
      go_ret
      exact ⟨rfl, rfl⟩

theorem index0 (l : Bs) : (0 ≤ Lib.indexByte l 0) ↔ l.contains 0 = true := by
  induction l with
  | nil => simp [Lib.indexByte]
  | cons c l ih =>
    have hge := Lib.indexByte_ge l 0
    unfold Lib.indexByte
    by_cases hc : c = 0
    · simp [hc]
    · have h1 : (c == 0) = false := by simpa using hc
      have h2 : (c :: l).contains 0 = l.contains 0 := by simp; exact fun e => absurd e.symm hc
      rw [h1, h2]
      simp only [Bool.false_eq_true, if_false]
      split
      · rename_i h
        have h' : Lib.indexByte l 0 = -1 := by simpa using h
        rw [h'] at ih
        constructor
        · intro h3; omega
        · intro h3; exact absurd (ih.2 h3) (by omega)
      · rename_i h
        have h' : Lib.indexByte l 0 ≠ -1 := by simpa using h
        constructor
        · intro h3; exact ih.1 (by omega)
        · intro h3; have := ih.2 h3; omega

theorem ret_num {a b : Nat} (h : a = b) : Ending.returned (.int .i64 (a : Int)) = .returned (.int .i64 (b : Int)) := by rw [h]

set_option maxHeartbeats 1000000 in
theorem fault_any (p : ByteArray) (w : World) (hs : p.size ≤ maxLen) :
    Calls Tryd.prog 27 #[.string p] w fun e w' => e = .returned (.int .i64 (faultN p.data.toList : Int)) ∧ w = w' := by
  unfold maxLen at hs
  have hsz := sizeD p
  have hI := fun w => Tryd.strings_IndexByte p 0 w
  rw [show Int.toNat 0 = 0 from rfl, show Nat.toUInt8 0 = 0 from rfl] at hI
  by_cases hz : p.data.toList = []
  · have h1 := emp_yes hz
    have hr : faultN p.data.toList = 20 := by unfold faultN; rw [if_pos hz]
    have HR := Lib.hid hr; clear hr hz hI hsz
    go_enter Tryd.func27, Tryd.ntmps27
    go_wp2
    go_ret
    exact ⟨ret_num HR.out.symm, rfl⟩
  · have h1 := emp_no hz
    have hp : 0 < p.size := by rw [hsz]; exact List.length_pos_iff.2 hz
    by_cases hl : 256 < p.size
    · have hr : faultN p.data.toList = 26 := by unfold faultN; rw [if_neg hz, if_pos (by rw [← hsz]; exact hl)]
      have HR := Lib.hid hr; clear hr hz hI hsz
      go_enter Tryd.func27, Tryd.ntmps27
      go_wp2
      go_ret
      exact ⟨ret_num HR.out.symm, rfl⟩
    · have hl' : p.size ≤ 256 := by omega
      have hh := head_at p hp
      by_cases hc : p[0] = 47
      · have hc' : ((p[0].toNat : Int) == 47) = true := by rw [hc]; rfl
        have hc2 : ((p[0].toNat : Int) != 47) = false := by rw [hc]; rfl
        have h0 := index0 p.data.toList
        by_cases h3 : 0 ≤ Lib.indexByte p.data.toList 0
        · have hr : faultN p.data.toList = 28 := by unfold faultN; rw [if_neg hz, if_neg (by rw [← hsz]; exact hl), if_pos (.inr (h0.1 h3))]
          have HR := Lib.hid hr; have HI := Lib.hid hI; clear hr hz hI hsz hh h0 hc hl
          generalize Lib.indexByte p.data.toList 0 = x at h3 HI
          go_enter Tryd.func27, Tryd.ntmps27
          go_wp2_with (go_at_call 36; refine (HI.out _).mono ?_; rintro e w' ⟨rfl, rfl⟩)
          go_ret
          exact ⟨ret_num HR.out.symm, rfl⟩
        · have hr : faultN p.data.toList = 0 := by
            unfold faultN; rw [if_neg hz, if_neg (by rw [← hsz]; exact hl), if_neg]
            rintro (h | h)
            · rw [hh, hc] at h; exact h rfl
            · exact h3 (h0.2 h)
          have HR := Lib.hid hr; have HI := Lib.hid hI; clear hr hz hI hsz hh h0 hc hl
          generalize Lib.indexByte p.data.toList 0 = x at h3 HI
          go_enter Tryd.func27, Tryd.ntmps27
          go_wp2_with (go_at_call 36; refine (HI.out _).mono ?_; rintro e w' ⟨rfl, rfl⟩)
          go_ret
          exact ⟨ret_num HR.out.symm, rfl⟩
      · have hne : (p[0].toNat : Int) ≠ 47 := fun h => hc (UInt8.toNat_inj.1 (by have : (47 : UInt8).toNat = 47 := rfl; omega))
        have hc' : ((p[0].toNat : Int) == 47) = false := beq_eq_false_iff_ne.2 hne
        have hc2 : ((p[0].toNat : Int) != 47) = true := by rw [bne, hc']; rfl
        have hr : faultN p.data.toList = 28 := by
          unfold faultN; rw [if_neg hz, if_neg (by rw [← hsz]; exact hl), if_pos]
          refine .inl (fun h => hc ?_)
          rw [hh] at h; simpa using h
        have HR := Lib.hid hr; have HI := Lib.hid hI; clear hr hz hI hsz hh hc hl hne
        go_enter Tryd.func27, Tryd.ntmps27
        go_wp2
        go_ret
        exact ⟨ret_num HR.out.symm, rfl⟩

end Go.Proofs.YtfchofdoabhakaaDoor
