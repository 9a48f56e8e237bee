/- DERIVED. Walks over package path and the document's answer for it, as far as layer 4 calls them. -/
import Derived.Test.YtkmnbbocahjmaaaGreatDoorRows
import Derived.Test.YtkmnbbocahjmaaaGreatDoorShelf
import Derived.Test.YtkmnbbocahjmaaaGreatDoorPathMath
import Derived.WalkKit
import Derived.WalkSpells
import Derived.WalkLawsBesides
import Derived.Lib.Hide
import Derived.Lib.Strings
import Derived.BigQuiet
import Derived.Deep.QuietTactic
import Derived.RegionTactic
namespace Go.Proofs.YtkmnbbocahjmaaaGreatDoor
open Go.RowKit
open PathM
set_option linter.unusedVariables false


theorem ret_str {a b : ByteArray} (h : a = b) : Ending.returned (.string a) = .returned (.string b) := by rw [h]

theorem ret_bool {a b : Bool} (h : a = b) : Ending.returned (.bool a) = .returned (.bool b) := by rw [h]

theorem sizeD (s : ByteArray) : s.size = s.data.toList.length := Array.length_toList.symm

theorem listD (s : ByteArray) : s.toList = s.data.toList := Lib.toList_data s

theorem ext_to (s : ByteArray) (i : Nat) : s.extract 0 i = nm (s.data.toList.take i) := Lib.extract_upto s i

theorem ext_from (s : ByteArray) (i : Nat) : s.extract i s.size = nm (s.data.toList.drop i) := Lib.extract_from s i


theorem cat_nm (a b : ByteArray) (x : Bs) (h : a.data.toList ++ b.data.toList = x) (hl : x.length ≤ 9223372036854775807) (W : World) :
    (Op.stringOp .add a b).run Tryz.prog W = .ok (.string (nm x)) W := by
  have hsz : a.size + b.size ≤ 9223372036854775807 := by
    rw [sizeD a, sizeD b, ← List.length_append, h]; exact hl
  rw [run_string_add_sum W _ _ (by simpa using hsz)]
  subst h
  congr 2

theorem nm_isEmpty_nil {b : ByteArray} (h : b.data.toList = []) : b.toList = [] := by rw [listD, h]

/-- Both spellings of 'is it empty?'. -/
theorem emp_yes {b : ByteArray} (h : b.data.toList = []) : b.toList.isEmpty = true := by rw [listD, h]; rfl

theorem emp_no {b : ByteArray} (h : b.data.toList ≠ []) : b.toList.isEmpty = false := by
  rw [listD]; cases e : b.data.toList with
  | nil => exact absurd e h
  | cons _ _ => rfl

theorem getD? (p : ByteArray) (i : Nat) (h : i < p.size) : p.data.toList[i]? = some p[i] := by
  have h' : i < p.data.size := h
  simp [ByteArray.getElem_eq_getElem_data]

theorem head_at (p : ByteArray) (h : 0 < p.size) : p.data.toList.head? = some p[0] := by
  exact List.head?_eq_getElem?.trans (getD? p 0 h)

theorem index0 (l : Bs) : (0 ≤ Lib.indexByte l 0) ↔ l.contains 0 = true := by
  induction l with
  | nil => simp [Lib.indexByte]
  | cons c l ih =>
    have hge := Lib.indexByte_ge l 0
    unfold Lib.indexByte
    by_cases hc : c = 0
    · simp [hc]
    · have h1 : (c == 0) = false := by simpa using hc
      have h2 : (c :: l).contains 0 = l.contains 0 := by simp; exact fun e => absurd e.symm hc
      rw [h1, h2]
      simp only [Bool.false_eq_true, if_false]
      split
      · rename_i h
        have h' : Lib.indexByte l 0 = -1 := by simpa using h
        rw [h'] at ih
        constructor
        · intro h3; omega
        · intro h3; exact absurd (ih.2 h3) (by omega)
      · rename_i h
        have h' : Lib.indexByte l 0 ≠ -1 := by simpa using h
        constructor
        · intro h3; exact ih.1 (by omega)
        · intro h3; have := ih.2 h3; omega

theorem ret_num {a b : Nat} (h : a = b) : Ending.returned (.int .i64 (a : Int)) = .returned (.int .i64 (b : Int)) := by rw [h]


theorem contains_take_snoc (l : Bs) (c : UInt8) (k : Nat) (h : k < l.length) : (l.take (k + 1)).contains c = ((l.take k).contains c || l[k] == c) := by
  rw [List.take_succ_eq_append_getElem h, List.contains_eq_any_beq, List.contains_eq_any_beq, List.any_append]
  simp
  rw [show (c == l[k]) = (l[k] == c) from Bool.eq_iff_iff.2 ⟨fun h => by simpa using (eq_of_beq h).symm, fun h => by simpa using (eq_of_beq h).symm⟩]

set_option maxHeartbeats 400000 in
theorem rhas_any (s : ByteArray) (c : UInt8) (x : Int) (w : World) (hx : x = (c.toNat : Int)) (hs : s.size ≤ maxLen) :
    Calls Tryz.prog 46 #[.string s, .int .u8 x] w fun e w' => e = .returned (.bool (s.data.toList.contains c)) ∧ w = w' := by
  subst hx
  unfold maxLen at hs
  have hL := Lib.hid (sizeD s)
  obtain ⟨b, hb⟩ : ∃ b, s.data.toList.contains c = b := ⟨_, rfl⟩
  rw [hb]
  have HB := Lib.hid hb; clear hb
  go_enter Tryz.func46, Tryz.ntmps46
  go_wp2
  go_loop [5] (fun i => ∃ k : Nat, k ≤ s.size ∧ i = .int .i64 k ∧ (s.data.toList.take k).contains c = false) (fun i => s.size - (intOf i).toNat)
  case atStart => exact ⟨0, by omega, rfl, rfl⟩
  case round =>
    obtain ⟨k, hk, rfl, hno⟩ := hrel
    by_cases hlt : k < s.size
    · have hlen : k < s.data.toList.length := by rw [← hL.out]; exact hlt
      have hbyte : s.data.toList[k] = s[k] := by simp [ByteArray.getElem_eq_getElem_data]
      have hsn := contains_take_snoc s.data.toList c k hlen
      rw [hbyte, hno] at hsn
      by_cases hc : s[k] = c
      · have q1 : ((s[k].toNat : Int) == (c.toNat : Int)) = true := by rw [hc]; simp
        have hyes : s.data.toList.contains c = true := by
          rw [List.contains_iff_mem, ← hc, ← hbyte]; exact List.getElem_mem _
        have HY := Lib.hid hyes; clear hyes hsn hno hbyte hc
        go_wp2
        go_ret
        exact ⟨ret_bool (HY.out.symm.trans HB.out), rfl⟩
      · have q1 : ((s[k].toNat : Int) == (c.toNat : Int)) = false := beq_eq_false_iff_ne.2 (fun h => hc (UInt8.toNat_inj.1 (by omega)))
        have hn2 : (s.data.toList.take (k + 1)).contains c = false := by rw [hsn]; simpa using hc
        have HN := Lib.hid hn2; clear hn2 hsn hno hbyte hc
        go_wp2
        go_round
        case rel => exact ⟨k + 1, by omega, by go_num, HN.out⟩
        case measure => simp [intOf]; omega
    · have hall : s.data.toList.contains c = false := by
        rw [List.take_of_length_le (by rw [← hL.out]; omega)] at hno; exact hno
      have HA := Lib.hid hall; clear hall hno
      go_wp2
      go_ret
      exact ⟨ret_bool (HA.out.symm.trans HB.out), rfl⟩

theorem bare_step (Q : ByteArray) (h : 0 < Q.size) (hc : Q[Q.size - 1] = 47) : bare (Q.extract 0 (Q.size - 1)).data.toList = bare Q.data.toList := by
  have hl := sizeD Q
  have hx : (Q.extract 0 (Q.size - 1)).data.toList = Q.data.toList.take (Q.size - 1) := congrArg (fun x : ByteArray => x.data.toList) (ext_to Q (Q.size - 1))
  rw [hx]
  have hlt : Q.size - 1 < Q.data.toList.length := by omega
  have hb : Q.data.toList[Q.size - 1] = 47 := by rw [← hc]; simp [ByteArray.getElem_eq_getElem_data]
  have e : Q.data.toList = Q.data.toList.take (Q.size - 1) ++ [47] := by
    rw [← hb, ← List.take_succ_eq_append_getElem hlt, List.take_of_length_le (by omega)]
  conv => rhs; rw [e]
  exact (bare_snoc_slash _).symm

theorem bare_stop (Q : ByteArray) (h : Q.size = 0 ∨ ∃ h : Q.size - 1 < Q.size, Q[Q.size - 1] ≠ 47) : nm (bare Q.data.toList) = Q := by
  have hl := sizeD Q
  have : bare Q.data.toList = Q.data.toList := by
    rcases h with h | ⟨h, hc⟩
    · have : Q.data.toList = [] := List.length_eq_zero_iff.1 (by omega)
      rw [this]; rfl
    · have hlt : Q.size - 1 < Q.data.toList.length := by omega
      have hb : Q.data.toList[Q.size - 1] ≠ 47 := by intro e; apply hc; rw [← e]; simp [ByteArray.getElem_eq_getElem_data]
      have e : Q.data.toList = Q.data.toList.take (Q.size - 1) ++ [Q.data.toList[Q.size - 1]] := by
        rw [← List.take_succ_eq_append_getElem hlt, List.take_of_length_le (by omega)]
      have h2 := bare_snoc_other (Q.data.toList.take (Q.size - 1)) _ hb
      rw [← e] at h2
      exact h2
  rw [this]; exact nm_of Q

set_option maxHeartbeats 400000 in
theorem rbare_any (s : ByteArray) (w : World) (hs : s.size ≤ maxLen) :
    Calls Tryz.prog 123 #[.string s] w fun e w' => e = .returned (.string (nm (bare s.data.toList))) ∧ w = w' := by
  unfold maxLen at hs
  obtain ⟨B, hB⟩ : ∃ B, bare s.data.toList = B := ⟨_, rfl⟩
  rw [hB]
  have hst : ∃ Q : ByteArray, (Value.string s) = .string Q ∧ bare Q.data.toList = B ∧ Q.size ≤ s.size := ⟨s, rfl, hB, Nat.le_refl _⟩
  clear hB
  go_enter Tryz.func123, Tryz.ntmps123
  go_wp2
  go_loop [0] (fun p => ∃ Q : ByteArray, p = .string Q ∧ bare Q.data.toList = B ∧ Q.size ≤ s.size) (fun p => Lib.strSize p)
  case atStart => exact hst
  case round =>
    obtain ⟨Q, rfl, hQ, hsz⟩ := hrel
    clear hst
    by_cases hz : Q.size = 0
    · have hr := bare_stop Q (.inl hz)
      rw [hQ] at hr
      have HR := Lib.hid hr; clear hr hQ
      go_wp2
      go_ret
      exact ⟨ret_str HR.out.symm, rfl⟩
    · have hp : 0 < Q.size := by omega
      have hp1 : Q.size - 1 < Q.size := by omega
      by_cases hc : Q[Q.size - 1] = 47
      · have h2 := bare_step Q hp hc
        rw [hQ] at h2
        have q1 : ((Q[Q.size - 1].toNat : Int) == 47) = true := by rw [hc]; rfl
        have hx : (Q.extract 0 (Q.size - 1)).size = Q.size - 1 := by rw [ext_to, nm_size, List.length_take, ← sizeD]; omega
        have H2 := Lib.hid h2; have HX := Lib.hid hx; clear h2 hQ hc hz hx
        go_wp2
        go_round
        case rel => exact ⟨_, rfl, H2.out, by rw [HX.out]; omega⟩
        case measure => rw [Lib.strSize_string, Lib.strSize_string, HX.out]; omega
      · have hr := bare_stop Q (.inr ⟨hp1, hc⟩)
        rw [hQ] at hr
        have q1 : ((Q[Q.size - 1].toNat : Int) == 47) = false := beq_eq_false_iff_ne.2 (fun h => hc (UInt8.toNat_inj.1 (by have : (47 : UInt8).toNat = 47 := rfl; omega)))
        have HR := Lib.hid hr; clear hr hQ hc hz
        go_wp2
        go_ret
        exact ⟨ret_str HR.out.symm, rfl⟩


set_option maxHeartbeats 400000 in
theorem rjoin_any (d n : ByteArray) (w : World) (hd : d.size + n.size + 1 ≤ maxLen) :
    Calls Tryz.prog 92 #[.string d, .string n] w fun e w' => e = .returned (.string (nm (joinL d.data.toList n.data.toList))) ∧ w = w' := by
  unfold maxLen at hd
  have hb := fun w => rbare_any d w (by unfold maxLen; omega)
  have hl := bare_len d.data.toList
  have hdl := sizeD d
  have hnl := sizeD n
  have e1 : (nm (bare d.data.toList)).data.toList ++ (⟨#[47]⟩ : ByteArray).data.toList = bare d.data.toList ++ [47] := rfl
  have c1 := cat_nm (nm (bare d.data.toList)) ⟨#[47]⟩ _ e1 (by simp; omega)
  have e2 : (nm (bare d.data.toList ++ [47])).data.toList ++ n.data.toList = joinL d.data.toList n.data.toList := by unfold joinL; rw [nm_data]; simp
  have c2 := cat_nm (nm (bare d.data.toList ++ [47])) n _ e2 (by rw [← e2, nm_data]; simp; omega)
  clear e1 e2
  generalize nm (bare d.data.toList) = B at hb c1
  generalize nm (bare d.data.toList ++ [47]) = B2 at c1 c2
  generalize nm (joinL d.data.toList n.data.toList) = B3 at c2
  have HB := Lib.hid hb; clear hb hdl hnl hl
  go_enter Tryz.func92, Tryz.ntmps92
  go_wp2_with (go_at_call 123; refine (HB.out _).mono ?_; rintro e w' ⟨rfl, rfl⟩)
  go_ret
  exact ⟨rfl, rfl⟩

set_option maxHeartbeats 1000000 in
theorem rname_any (s : ByteArray) (w : World) (hs : s.size ≤ maxLen) :
    Calls Tryz.prog 16 #[.string s] w fun e w' => e = .returned (.bool (nameB s.data.toList)) ∧ w = w' := by
  have hsz := sizeD s
  have hc1 := fun w => rhas_any s 47 47 w rfl hs
  have hc2 := fun w => rhas_any s 0 0 w rfl hs
  have b1 : (s.toList == [46]) = (s.data.toList == [46]) := by rw [listD]
  have b2 : (s.toList == [46, 46]) = (s.data.toList == [46, 46]) := by rw [listD]
  have n1 : (s.toList != [46]) = !(s.data.toList == [46]) := by rw [listD]; rfl
  have n2 : (s.toList != [46, 46]) = !(s.data.toList == [46, 46]) := by rw [listD]; rfl
  unfold maxLen at hs
  have hN : nameB s.data.toList = (decide (1 ≤ s.size) && decide (s.size ≤ 64) && !s.data.toList.contains 47 && !s.data.toList.contains 0 && !(s.data.toList == [46]) && !(s.data.toList == [46, 46])) := by
    unfold nameB
    have : (!s.data.toList.isEmpty) = decide (1 ≤ s.size) := by
      rw [hsz]; cases s.data.toList with
      | nil => rfl
      | cons _ _ => simp
    rw [this, ← hsz]; rfl
  generalize nameB s.data.toList = N at *
  generalize s.data.toList.contains 47 = p1 at *
  generalize s.data.toList.contains 0 = p2 at *
  generalize (s.data.toList == [46]) = p3 at *
  generalize (s.data.toList == [46, 46]) = p4 at *
  have HN := Lib.hid hN; clear hN hsz
  have H1 := Lib.hid hc1; have H2 := Lib.hid hc2; clear hc1 hc2
  by_cases h1 : 1 ≤ s.size
  · by_cases h2 : s.size ≤ 64
    · have d1 : decide (1 ≤ s.size) = true := decide_eq_true h1
      have d2 : decide (s.size ≤ 64) = true := decide_eq_true h2
      rw [d1, d2] at HN
      clear d1 d2
      cases p1 <;> cases p2 <;> cases p3 <;> cases p4
      all_goals
        simp only [Bool.not_false, Bool.not_true] at n1 n2
        go_enter Tryz.func16, Tryz.ntmps16
        go_wp2_with (first
          | (go_at_call 46; with_reducible refine (H1.out _).mono ?_; rintro e w' ⟨rfl, rfl⟩)
          | (go_at_call 46; with_reducible refine (H2.out _).mono ?_; rintro e w' ⟨rfl, rfl⟩))
        go_ret
        exact ⟨ret_bool (by rw [HN.out]; rfl), rfl⟩
    · have d2 : decide (s.size ≤ 64) = false := decide_eq_false h2
      rw [d2, Bool.and_false] at HN
      clear d2
      go_enter Tryz.func16, Tryz.ntmps16
      go_wp2_with (first
        | (go_at_call 46; with_reducible refine (H1.out _).mono ?_; rintro e w' ⟨rfl, rfl⟩)
        | (go_at_call 46; with_reducible refine (H2.out _).mono ?_; rintro e w' ⟨rfl, rfl⟩))
      go_ret
      exact ⟨ret_bool (by rw [HN.out]; rfl), rfl⟩
  · have d1 : decide (1 ≤ s.size) = false := decide_eq_false h1
    rw [d1] at HN
    clear d1
    go_enter Tryz.func16, Tryz.ntmps16
    go_wp2_with (first
      | (go_at_call 46; with_reducible refine (H1.out _).mono ?_; rintro e w' ⟨rfl, rfl⟩)
      | (go_at_call 46; with_reducible refine (H2.out _).mono ?_; rintro e w' ⟨rfl, rfl⟩))
    go_ret
    exact ⟨ret_bool (by rw [HN.out]; rfl), rfl⟩

theorem below_drewN' {B : Nat} {a w : World} (h : Below B a w) (n : Nat) : Below B a (w.drewN n) := ⟨h.os, h.tape, h.output, h.size, h.block⟩

theorem ownsRow_drewN {W : World} {b : Nat} {e : TypeId} {size : Nat} {v : Value} {n : Nat} {xs : List Value} (h : W.ownsRow b e size v n xs) (k : Nat) : (W.drewN k).ownsRow b e size v n xs := h

theorem ext_mid (s : ByteArray) (a b : Nat) : s.extract a b = nm ((s.data.toList.take b).drop a) := by
  rw [Lib.extract_eq]
  unfold nm
  rw [List.drop_take]

end Go.Proofs.YtkmnbbocahjmaaaGreatDoor
