/- DERIVED. Walks over package num of layer 1: what each call answers. -/
import Derived.Test.YtdegkfnlafgheaaRows
import Derived.Test.YtdegkfnlafgheaaNumMath
import Derived.WalkKit
import Derived.WalkSpells
import Derived.WalkLawsBesides
import Derived.Lib.Hide
import Derived.Lib.Strings
import Derived.Lib.RabinKarpLaws
import Derived.BigQuiet
import Derived.Deep.QuietTactic
import Derived.RegionTactic
namespace Go.Proofs.Ytdegkfnlafgheaa
open Go.RowKit
open NumM
set_option linter.unusedVariables false

theorem ret_int {k : IntKind} {a b : Int} (h : a = b) : Ending.returned (.int k a) = .returned (.int k b) := by rw [h]

set_option maxHeartbeats 400000 in
theorem digit_any (c : UInt8) (w : World) :
    Calls Try.prog 79 #[.int .u8 (c.toNat : Int)] w fun e w' => e = .returned (.int .u64 (digV c : Int)) ∧ w = w' := by
  have hc := c.toNat_lt
  go_enter Try.func79, Try.ntmps79
  go_wp2
  all_goals (go_ret; exact ⟨ret_int (by unfold digV; (repeat' split) <;> omega), rfl⟩)
/-- What a loop of num.read holds: 'over' or not. -/
def ReadRel (b m : Nat) (l : List UInt8) (k : Nat) (n o : Value) : Prop :=
  (o = .bool false ∧ n = .int .u64 (valB b (l.take k) : Int) ∧ valB b (l.take k) ≤ m) ∨ (o = .bool true ∧ m < valB b (l.take k) ∧ ∃ x : Nat, n = .int .u64 (x : Int))

theorem empty_of_size {s : ByteArray} (h : s.size = 0) : s.toList.isEmpty = true := by
  rw [Lib.size_eq] at h; rw [Lib.toList_data, List.isEmpty_iff]; exact List.eq_nil_of_length_eq_zero h
theorem nonempty_of_size {s : ByteArray} (h : s.size ≠ 0) : s.toList.isEmpty = false := by
  rw [Lib.size_eq] at h; rw [Lib.toList_data]; cases e : s.data.toList with
  | nil => rw [e] at h; exact absurd rfl h
  | cons _ _ => rfl
theorem ret_two {k1 k2 : IntKind} {a b c d : Int} (h : a = b) (h2 : c = d) : Ending.returned (.tuple #[.int k1 a, .int k2 c]) = .returned (.tuple #[.int k1 b, .int k2 d]) := by rw [h, h2]

set_option maxHeartbeats 1000000 in
theorem read_nat (s : ByteArray) (b m : Nat) (w : World) (hs : s.size ≤ maxLen) (hb : 2 ≤ b) (hb' : b ≤ 16) (hm : 16 ≤ m) (hm' : (m : Int) ≤ 18446744073709551615) :
    Calls Try.prog 70 #[.string s, .int .u64 (b : Int), .int .u64 (m : Int)] w fun e w' => e = .returned (.tuple #[.int .u64 (readN b m s.data.toList : Int), .int .i64 (readE b m s.data.toList : Int)]) ∧ w = w' := by
  unfold maxLen at hs
  have hL := Lib.hid (Lib.size_eq s)
  by_cases hz : s.size = 0
  · have hne := empty_of_size hz
    have hr : readN b m s.data.toList = 0 ∧ readE b m s.data.toList = 40 := read_bad (by unfold bad; rw [← Lib.toList_data, hne]; rfl)
    have H := Lib.hid hr; clear hr hz
    go_enter Try.func70, Try.ntmps70
    go_wp2
    go_ret2
    exact ⟨ret_two (by rw [H.out.1]; rfl) (by rw [H.out.2]; rfl), rfl⟩
  · have hne := nonempty_of_size hz
    go_enter Try.func70, Try.ntmps70
    go_wp2
    go_loop [8, 9, 16] (fun n o i => ∃ k : Nat, k ≤ s.size ∧ i = .int .i64 k ∧ okTo b s.data.toList k ∧ ReadRel b m s.data.toList k n o) (fun _ _ i => s.size - (intOf i).toNat)
    case atStart => exact ⟨0, by omega, rfl, okTo_zero _ _, .inl ⟨rfl, rfl, by simp [valB_nil]⟩⟩
    case round =>
      obtain ⟨k, hk, rfl, hok, hrel⟩ := hrel
      have HOK := Lib.hid hok; clear hok
      by_cases hlt : k < s.size
      · have hlen : k < s.data.toList.length := by rw [← hL.out]; exact hlt
        have hbyte : s.data.toList[k] = s[k] := by simp [ByteArray.getElem_eq_getElem_data]
        have hsucc := valB_take_succ b hlen
        have hokn : digV s[k] < b → okTo b s.data.toList (k + 1) := fun h => okTo_succ HOK.out hlen (by rw [hbyte]; exact h)
        have hbad : b ≤ digV s[k] → bad b s.data.toList = true := fun h => bad_of b _ k hlen (by rw [hbyte]; exact h)
        rw [hbyte] at hsucc
        have hdig := digit_any s[k]
        have hd16 := digV_le s[k]
        generalize digV s[k] = d at hsucc hokn hbad hdig hd16
        have HD := Lib.hid hdig; clear hdig
        have HO := Lib.hid hokn; clear hokn
        have HS := Lib.hid hsucc; clear hsucc hbyte
        by_cases hdb : b ≤ d
        · have hr := read_bad (m := m) (hbad hdb)
          have HR := Lib.hid hr; clear hr hbad
          clear hrel HO HS HOK
          go_wp2_with (go_at_call 79; refine (HD.out _).mono ?_; rintro e w' ⟨rfl, rfl⟩)
          go_ret2
          exact ⟨ret_two (by rw [HR.out.1]; rfl) (by rw [HR.out.2]; rfl), rfl⟩
        · clear hbad
          have hd2 : d < b := by omega
          rcases hrel with ⟨rfl, rfl, hv⟩ | ⟨rfl, hv, x, rfl⟩
          · generalize valB b (s.data.toList.take k) = v at hv HS
            have hov := over_iff v b m d (by omega) (by omega)
            have hI : ((m : Int) - (d : Int)) / (b : Int) = (((m - d) / b : Nat) : Int) := by
              rw [show ((m : Int) - (d : Int)) = ((m - d : Nat) : Int) by omega]; rfl
            by_cases hc : m < v * b + d
            · have hT : decide (((m : Int) - (d : Int)) / (b : Int) < (v : Int)) = true := by
                rw [hI, decide_eq_true_iff]; exact Int.ofNat_lt.2 (hov.2 hc)
              have HH := Lib.hid hc; clear hc hI hov
              go_wp2_with (go_at_call 79; refine (HD.out _).mono ?_; rintro e w' ⟨rfl, rfl⟩)
              go_round
              case rel => exact ⟨k + 1, by omega, by go_num, HO.out hd2, .inr ⟨rfl, by rw [HS.out]; exact HH.out, _, rfl⟩⟩
              case measure => simp [intOf]; omega
            · have hT : decide (((m : Int) - (d : Int)) / (b : Int) < (v : Int)) = false := by
                rw [hI, decide_eq_false_iff_not]; intro h; exact hc (hov.1 (Int.ofNat_lt.1 h))
              have hbd1 : (v : Int) * (b : Int) + (d : Int) ≤ (m : Int) := by
                have : ((v * b + d : Nat) : Int) ≤ (m : Int) := by omega
                rw [Int.natCast_add, Int.natCast_mul] at this; exact this
              have hbd2 : 0 ≤ (v : Int) * (b : Int) := Int.mul_nonneg (by omega) (by omega)
              have HH := Lib.hid hc; clear hc hI hov
              go_wp2_with (go_at_call 79; refine (HD.out _).mono ?_; rintro e w' ⟨rfl, rfl⟩)
              go_round
              case rel => exact ⟨k + 1, by omega, by go_num, HO.out hd2, .inl ⟨rfl, by rw [HS.out]; rfl, by rw [HS.out]; have := HH.out; omega⟩⟩
              case measure => simp [intOf]; omega
          · have hov := over_more (valB b (s.data.toList.take k)) b m d (by omega) hv
            have HV := Lib.hid hov; clear hov hv
            go_wp2_with (go_at_call 79; refine (HD.out _).mono ?_; rintro e w' ⟨rfl, rfl⟩)
            go_round
            case rel => exact ⟨k + 1, by omega, by go_num, HO.out hd2, .inr ⟨rfl, by rw [HS.out]; exact HV.out, _, rfl⟩⟩
            case measure => simp [intOf]; omega
      · have hkk : k = s.data.toList.length := by rw [← hL.out]; omega
        have hgood : bad b s.data.toList = false := ok_of b _ (by omega) (by have := HOK.out; rw [hkk] at this; exact this)
        have htk : s.data.toList.take k = s.data.toList := by rw [hkk]; exact List.take_length
        unfold ReadRel at hrel
        rw [htk] at hrel
        have HK := Lib.hid hkk; clear hkk htk HOK
        rcases hrel with ⟨rfl, rfl, hv⟩ | ⟨rfl, hv, x, rfl⟩
        · have hr := read_fits hgood hv
          have HR := Lib.hid hr; clear hr hgood hv
          go_wp2
          go_ret2
          exact ⟨ret_two (by rw [HR.out.1]) (by rw [HR.out.2]; rfl), rfl⟩
        · have hr := read_over hgood hv
          have HR := Lib.hid hr; clear hr hgood hv
          go_wp2
          go_ret2
          exact ⟨ret_two (by rw [HR.out.1]; rfl) (by rw [HR.out.2]; rfl), rfl⟩
theorem read_any (s : ByteArray) (b m : Int) (B M : Nat) (w : World) (hB : b = (B : Int)) (hM : m = (M : Int)) (hs : s.size ≤ maxLen) (hb : 2 ≤ B) (hb' : B ≤ 16) (hm : 16 ≤ M) (hm' : m ≤ 18446744073709551615) :
    Calls Try.prog 70 #[.string s, .int .u64 b, .int .u64 m] w fun e w' => e = .returned (.tuple #[.int .u64 (readN B M s.data.toList : Int), .int .i64 (readE B M s.data.toList : Int)]) ∧ w = w' := by
  subst hB; subst hM; exact read_nat s B M w hs hb hb' hm hm'

theorem readN_M63 (b : Nat) (l : List UInt8) : (readN b M63 l : Int) ≤ 9223372036854775807 := by
  have := readN_le b M63 l; unfold M63 at *; omega
theorem readN_P63 (b : Nat) (l : List UInt8) : (readN b P63 l : Int) ≤ 9223372036854775808 := by
  have := readN_le b P63 l; unfold P63 at *; omega

set_option maxHeartbeats 400000 in
theorem natural_any (s : ByteArray) (b : Int) (B : Nat) (w : World) (hB : b = (B : Int)) (hs : s.size ≤ maxLen) (hb : 2 ≤ B) (hb' : B ≤ 16) :
    Calls Try.prog 71 #[.string s, .int .u64 b] w fun e w' => e = .returned (.tuple #[.int .i64 (readN B M63 s.data.toList : Int), .int .i64 (readE B M63 s.data.toList : Int)]) ∧ w = w' := by
  have hc := fun w => read_any s b 9223372036854775807 B M63 w hB rfl hs hb hb' (by unfold M63; omega) (by omega)
  have hle := readN_M63 B s.data.toList
  generalize readN B M63 s.data.toList = x at hc hle
  generalize readE B M63 s.data.toList = y at hc
  have HC := Lib.hid hc; clear hc hB
  go_enter Try.func71, Try.ntmps71
  go_wp2_with (go_at_call 70; refine (HC.out _).mono ?_; rintro e w' ⟨rfl, rfl⟩)
  go_ret2
  exact ⟨rfl, rfl⟩

theorem ret_bool {a b : Bool} (h : a = b) : Ending.returned (.bool a) = .returned (.bool b) := by rw [h]
theorem ret_str {a b : ByteArray} (h : a = b) : Ending.returned (.string a) = .returned (.string b) := by rw [h]

theorem prefix_eq (s p : ByteArray) : p.data.toList.isPrefixOf s.data.toList = ((s.extract 0 p.size).toList == p.toList) := by
  rw [Lib.extract_toList, Lib.toList_data, Bool.eq_iff_iff, List.isPrefixOf_iff_prefix, List.prefix_iff_eq_take, beq_iff_eq, Lib.size_eq]
  simp only [List.drop_zero, Nat.sub_zero]
  exact eq_comm
theorem prefix_no (s p : ByteArray) (h : ¬ p.size ≤ s.size) : p.data.toList.isPrefixOf s.data.toList = false := by
  rw [Bool.eq_false_iff]
  intro hh
  rw [List.isPrefixOf_iff_prefix] at hh
  have := hh.length_le
  rw [← Lib.size_eq, ← Lib.size_eq] at this
  exact h this

set_option maxHeartbeats 400000 in
theorem hasPrefix_any (s p : ByteArray) (w : World) (hs : s.size ≤ maxLen) (hp : p.size ≤ maxLen) :
    Calls Try.prog 83 #[.string s, .string p] w fun e w' => e = .returned (.bool (p.data.toList.isPrefixOf s.data.toList)) ∧ w = w' := by
  unfold maxLen at hs hp
  by_cases h : p.size ≤ s.size
  · have H := Lib.hid (prefix_eq s p)
    go_enter Try.func83, Try.ntmps83
    go_wp2
    go_ret
    exact ⟨ret_bool (by rw [H.out]), rfl⟩
  · have H := Lib.hid (prefix_no s p h)
    have hd : decide ((p.size : Int) ≤ (s.size : Int)) = false := by simp; omega
    go_enter Try.func83, Try.ntmps83
    go_wp2
    go_ret
    exact ⟨ret_bool (by rw [H.out]), rfl⟩

set_option maxHeartbeats 400000 in
theorem cut_yes0 (s p : ByteArray) (w : World) (hs : s.size ≤ maxLen) (h : p.data.toList.isPrefixOf s.data.toList = true) :
    Calls Try.prog 78 #[.string s, .string p] w fun e w' => e = .returned (.tuple #[.string (s.extract p.size s.size), .bool true]) ∧ w = w' := by
  have hps : p.size ≤ s.size := by
    rw [List.isPrefixOf_iff_prefix] at h
    have := h.length_le
    rwa [← Lib.size_eq, ← Lib.size_eq] at this
  have hc := fun w => hasPrefix_any s p w hs (by omega)
  rw [h] at hc
  have HC := Lib.hid hc; clear hc h
  unfold maxLen at hs
  go_enter Try.func78, Try.ntmps78
  go_wp2_with (go_at_call 83; refine (HC.out _).mono ?_; rintro e w' ⟨rfl, rfl⟩)
  go_ret2
  exact ⟨rfl, rfl⟩
set_option maxHeartbeats 400000 in
theorem cut_no0 (s p : ByteArray) (w : World) (hs : s.size ≤ maxLen) (hp : p.size ≤ maxLen) (h : p.data.toList.isPrefixOf s.data.toList = false) :
    Calls Try.prog 78 #[.string s, .string p] w fun e w' => e = .returned (.tuple #[.string s, .bool false]) ∧ w = w' := by
  have hc := fun w => hasPrefix_any s p w hs hp
  rw [h] at hc
  have HC := Lib.hid hc; clear hc h
  unfold maxLen at hs
  go_enter Try.func78, Try.ntmps78
  go_wp2_with (go_at_call 83; refine (HC.out _).mono ?_; rintro e w' ⟨rfl, rfl⟩)
  go_ret2
  exact ⟨rfl, rfl⟩
set_option maxHeartbeats 400000 in
theorem cut_yes (s p : ByteArray) (w : World) (hs : s.size ≤ maxLen) (h : p.data.toList.isPrefixOf s.data.toList = true) :
    Calls Try.prog 69 #[.string s, .string p] w fun e w' => e = .returned (.tuple #[.string (s.extract p.size s.size), .bool true]) ∧ w = w' := by
  have HC := Lib.hid (fun w => cut_yes0 s p w hs h)
  clear h
  go_enter Try.func69, Try.ntmps69
  go_wp2_with (go_at_call 78; refine (HC.out _).mono ?_; rintro e w' ⟨rfl, rfl⟩)
  go_ret2
  exact ⟨rfl, rfl⟩
set_option maxHeartbeats 400000 in
theorem cut_no (s p : ByteArray) (w : World) (hs : s.size ≤ maxLen) (hp : p.size ≤ maxLen) (h : p.data.toList.isPrefixOf s.data.toList = false) :
    Calls Try.prog 69 #[.string s, .string p] w fun e w' => e = .returned (.tuple #[.string s, .bool false]) ∧ w = w' := by
  have HC := Lib.hid (fun w => cut_no0 s p w hs hp h)
  clear h
  go_enter Try.func69, Try.ntmps69
  go_wp2_with (go_at_call 78; refine (HC.out _).mono ?_; rintro e w' ⟨rfl, rfl⟩)
  go_ret2
  exact ⟨rfl, rfl⟩
set_option maxHeartbeats 400000 in
theorem trim_yes0 (s p : ByteArray) (w : World) (hs : s.size ≤ maxLen) (h : p.data.toList.isPrefixOf s.data.toList = true) :
    Calls Try.prog 80 #[.string s, .string p] w fun e w' => e = .returned (.string (s.extract p.size s.size)) ∧ w = w' := by
  have hps : p.size ≤ s.size := by
    rw [List.isPrefixOf_iff_prefix] at h
    have := h.length_le
    rwa [← Lib.size_eq, ← Lib.size_eq] at this
  have hc := fun w => hasPrefix_any s p w hs (by omega)
  rw [h] at hc
  have HC := Lib.hid hc; clear hc h
  unfold maxLen at hs
  go_enter Try.func80, Try.ntmps80
  go_wp2_with (go_at_call 83; refine (HC.out _).mono ?_; rintro e w' ⟨rfl, rfl⟩)
  go_ret
  exact ⟨rfl, rfl⟩
set_option maxHeartbeats 400000 in
theorem trim_no0 (s p : ByteArray) (w : World) (hs : s.size ≤ maxLen) (hp : p.size ≤ maxLen) (h : p.data.toList.isPrefixOf s.data.toList = false) :
    Calls Try.prog 80 #[.string s, .string p] w fun e w' => e = .returned (.string s) ∧ w = w' := by
  have hc := fun w => hasPrefix_any s p w hs hp
  rw [h] at hc
  have HC := Lib.hid hc; clear hc h
  unfold maxLen at hs
  go_enter Try.func80, Try.ntmps80
  go_wp2_with (go_at_call 83; refine (HC.out _).mono ?_; rintro e w' ⟨rfl, rfl⟩)
  go_ret
  exact ⟨rfl, rfl⟩
set_option maxHeartbeats 400000 in
theorem trim_any (s p : ByteArray) (w : World) (hs : s.size ≤ maxLen) (hp : p.size ≤ maxLen) :
    Calls Try.prog 72 #[.string s, .string p] w fun e w' => e = .returned (.string (if p.data.toList.isPrefixOf s.data.toList = true then s.extract p.size s.size else s)) ∧ w = w' := by
  by_cases h : p.data.toList.isPrefixOf s.data.toList = true
  · rw [if_pos h]
    have HC := Lib.hid (fun w => trim_yes0 s p w hs h)
    clear h
    go_enter Try.func72, Try.ntmps72
    go_wp2_with (go_at_call 80; refine (HC.out _).mono ?_; rintro e w' ⟨rfl, rfl⟩)
    go_ret
    exact ⟨rfl, rfl⟩
  · rw [if_neg h]
    have HC := Lib.hid (fun w => trim_no0 s p w hs hp (by simpa using h))
    clear h
    go_enter Try.func72, Try.ntmps72
    go_wp2_with (go_at_call 80; refine (HC.out _).mono ?_; rintro e w' ⟨rfl, rfl⟩)
    go_ret
    exact ⟨rfl, rfl⟩
end Go.Proofs.Ytdegkfnlafgheaa
