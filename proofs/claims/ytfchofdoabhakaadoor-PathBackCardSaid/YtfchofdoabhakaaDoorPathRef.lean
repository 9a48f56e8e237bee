/- DERIVED. Walks over the document's own answer for layer 3. -/
import Derived.Test.YtfchofdoabhakaaDoorPathClean
namespace Go.Proofs.YtfchofdoabhakaaDoor
open Go.RowKit
open PathM
set_option linter.unusedVariables false

theorem contains_take_snoc (l : Bs) (c : UInt8) (k : Nat) (h : k < l.length) : (l.take (k + 1)).contains c = ((l.take k).contains c || l[k] == c) := by
  rw [List.take_succ_eq_append_getElem h, List.contains_eq_any_beq, List.contains_eq_any_beq, List.any_append]
  simp
  rw [show (c == l[k]) = (l[k] == c) from Bool.eq_iff_iff.2 ⟨fun h => by simpa using (eq_of_beq h).symm, fun h => by simpa using (eq_of_beq h).symm⟩]

set_option maxHeartbeats 400000 in
theorem rhas_any (s : ByteArray) (c : UInt8) (x : Int) (w : World) (hx : x = (c.toNat : Int)) (hs : s.size ≤ maxLen) :
    Calls Tryd.prog 26 #[.string s, .int .u8 x] w fun e w' => e = .returned (.bool (s.data.toList.contains c)) ∧ w = w' := by
  subst hx
  unfold maxLen at hs
  have hL := Lib.hid (sizeD s)
  obtain ⟨b, hb⟩ : ∃ b, s.data.toList.contains c = b := ⟨_, rfl⟩
  rw [hb]
  have HB := Lib.hid hb; clear hb
  go_enter Tryd.func26, Tryd.ntmps26
  go_wp2
  go_loop [5] (fun i => ∃ k : Nat, k ≤ s.size ∧ i = .int .i64 k ∧ (s.data.toList.take k).contains c = false) (fun i => s.size - (intOf i).toNat)
  case atStart => exact ⟨0, by omega, rfl, rfl⟩
  case round =>
    obtain ⟨k, hk, rfl, hno⟩ := hrel
    by_cases hlt : k < s.size
    · have hlen : k < s.data.toList.length := by rw [← hL.out]; exact hlt
      have hbyte : s.data.toList[k] = s[k] := by simp [ByteArray.getElem_eq_getElem_data]
      have hsn := contains_take_snoc s.data.toList c k hlen
      rw [hbyte, hno] at hsn
      by_cases hc : s[k] = c
      · have q1 : ((s[k].toNat : Int) == (c.toNat : Int)) = true := by rw [hc]; simp
        have hyes : s.data.toList.contains c = true := by
          rw [List.contains_iff_mem, ← hc, ← hbyte]; exact List.getElem_mem _
        have HY := Lib.hid hyes; clear hyes hsn hno hbyte hc
        go_wp2
        go_ret
        exact ⟨ret_bool (HY.out.symm.trans HB.out), rfl⟩
      · have q1 : ((s[k].toNat : Int) == (c.toNat : Int)) = false := beq_eq_false_iff_ne.2 (fun h => hc (UInt8.toNat_inj.1 (by omega)))
        have hn2 : (s.data.toList.take (k + 1)).contains c = false := by rw [hsn]; simpa using hc
        have HN := Lib.hid hn2; clear hn2 hsn hno hbyte hc
        go_wp2
        go_round
        case rel => exact ⟨k + 1, by omega, by go_num, HN.out⟩
        case measure => simp [intOf]; omega
    · have hall : s.data.toList.contains c = false := by
        rw [List.take_of_length_le (by rw [← hL.out]; omega)] at hno; exact hno
      have HA := Lib.hid hall; clear hall hno
      go_wp2
      go_ret
      exact ⟨ret_bool (HA.out.symm.trans HB.out), rfl⟩

theorem bare_step (Q : ByteArray) (h : 0 < Q.size) (hc : Q[Q.size - 1] = 47) : bare (Q.extract 0 (Q.size - 1)).data.toList = bare Q.data.toList := by
  have hl := sizeD Q
  have hx : (Q.extract 0 (Q.size - 1)).data.toList = Q.data.toList.take (Q.size - 1) := congrArg (fun x : ByteArray => x.data.toList) (ext_to Q (Q.size - 1))
  rw [hx]
  have hlt : Q.size - 1 < Q.data.toList.length := by omega
  have hb : Q.data.toList[Q.size - 1] = 47 := by rw [← hc]; simp [ByteArray.getElem_eq_getElem_data]
  have e : Q.data.toList = Q.data.toList.take (Q.size - 1) ++ [47] := by
    rw [← hb, ← List.take_succ_eq_append_getElem hlt, List.take_of_length_le (by omega)]
  conv => rhs; rw [e]
  exact (bare_snoc_slash _).symm
theorem bare_stop (Q : ByteArray) (h : Q.size = 0 ∨ ∃ h : Q.size - 1 < Q.size, Q[Q.size - 1] ≠ 47) : nm (bare Q.data.toList) = Q := by
  have hl := sizeD Q
  have : bare Q.data.toList = Q.data.toList := by
    rcases h with h | ⟨h, hc⟩
    · have : Q.data.toList = [] := List.length_eq_zero_iff.1 (by omega)
      rw [this]; rfl
    · have hlt : Q.size - 1 < Q.data.toList.length := by omega
      have hb : Q.data.toList[Q.size - 1] ≠ 47 := by intro e; apply hc; rw [← e]; simp [ByteArray.getElem_eq_getElem_data]
      have e : Q.data.toList = Q.data.toList.take (Q.size - 1) ++ [Q.data.toList[Q.size - 1]] := by
        rw [← List.take_succ_eq_append_getElem hlt, List.take_of_length_le (by omega)]
      have h2 := bare_snoc_other (Q.data.toList.take (Q.size - 1)) _ hb
      rw [← e] at h2
      exact h2
  rw [this]; exact nm_of Q

set_option maxHeartbeats 400000 in
theorem rbare_any (s : ByteArray) (w : World) (hs : s.size ≤ maxLen) :
    Calls Tryd.prog 32 #[.string s] w fun e w' => e = .returned (.string (nm (bare s.data.toList))) ∧ w = w' := by
  unfold maxLen at hs
  obtain ⟨B, hB⟩ : ∃ B, bare s.data.toList = B := ⟨_, rfl⟩
  rw [hB]
  have hst : ∃ Q : ByteArray, (Value.string s) = .string Q ∧ bare Q.data.toList = B ∧ Q.size ≤ s.size := ⟨s, rfl, hB, Nat.le_refl _⟩
  clear hB
  go_enter Tryd.func32, Tryd.ntmps32
  go_wp2
  go_loop [0] (fun p => ∃ Q : ByteArray, p = .string Q ∧ bare Q.data.toList = B ∧ Q.size ≤ s.size) (fun p => Lib.strSize p)
  case atStart => exact hst
  case round =>
    obtain ⟨Q, rfl, hQ, hsz⟩ := hrel
    clear hst
    by_cases hz : Q.size = 0
    · have hr := bare_stop Q (.inl hz)
      rw [hQ] at hr
      have HR := Lib.hid hr; clear hr hQ
      go_wp2
      go_ret
      exact ⟨ret_str HR.out.symm, rfl⟩
    · have hp : 0 < Q.size := by omega
      have hp1 : Q.size - 1 < Q.size := by omega
      by_cases hc : Q[Q.size - 1] = 47
      · have h2 := bare_step Q hp hc
        rw [hQ] at h2
        have q1 : ((Q[Q.size - 1].toNat : Int) == 47) = true := by rw [hc]; rfl
        have hx : (Q.extract 0 (Q.size - 1)).size = Q.size - 1 := by rw [ext_to, nm_size, List.length_take, ← sizeD]; omega
        have H2 := Lib.hid h2; have HX := Lib.hid hx; clear h2 hQ hc hz hx
        go_wp2
        go_round
        case rel => exact ⟨_, rfl, H2.out, by rw [HX.out]; omega⟩
        case measure => rw [Lib.strSize_string, Lib.strSize_string, HX.out]; omega
      · have hr := bare_stop Q (.inr ⟨hp1, hc⟩)
        rw [hQ] at hr
        have q1 : ((Q[Q.size - 1].toNat : Int) == 47) = false := beq_eq_false_iff_ne.2 (fun h => hc (UInt8.toNat_inj.1 (by have : (47 : UInt8).toNat = 47 := rfl; omega)))
        have HR := Lib.hid hr; clear hr hQ hc hz
        go_wp2
        go_ret
        exact ⟨ret_str HR.out.symm, rfl⟩

end Go.Proofs.YtfchofdoabhakaaDoor
