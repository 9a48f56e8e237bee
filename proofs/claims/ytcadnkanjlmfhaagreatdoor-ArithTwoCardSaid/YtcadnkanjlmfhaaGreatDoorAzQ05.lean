/- DERIVED. Texts of this claim, joined: ArGives, NumWalks, NumWalks2. -/
import Derived.Test.YtcadnkanjlmfhaaGreatDoorAzQ04
import Derived.Test.YtcadnkanjlmfhaaGreatDoorAzQ03
import Derived.Test.YtcadnkanjlmfhaaGreatDoorRows
import Derived.Test.YtcadnkanjlmfhaaGreatDoorAzQ02
import Derived.WalkKit
import Derived.WalkSpells
import Derived.WalkLawsBesides
import Derived.Lib.Hide
import Derived.Lib.Strings
import Derived.Lib.RabinKarpLaws
import Derived.BigQuiet
import Derived.Deep.QuietTactic
import Derived.RegionTactic
import Derived.Lib.IndexBytes
namespace Go.Proofs.YtcadnkanjlmfhaaGreatDoor.Ar
open Go.RowKit
open PathM WdM ArM
open Go.Proofs.YtcadnkanjlmfhaaGreatDoor.Wd
set_option linter.unusedVariables false

theorem suffix_one (l : Bs) (c : UInt8) : Lib.hasSuffix l [c] = (l.getLast? == some c) := by
  rcases List.eq_nil_or_concat l with rfl | ⟨r, x, rfl⟩
  · rfl
  · simp [Lib.hasSuffix, List.isSuffixOf, List.isPrefixOf]
    exact Bool.eq_iff_iff.2 ⟨fun h => by simpa using (eq_of_beq h).symm, fun h => by simpa using (eq_of_beq h).symm⟩
theorem lite_suffix (l : Bs) (w : World) (hl : l.length ≤ 4611686018427387904) :
    Calls Tryz.prog 71 #[.string (nm l), .string ⟨#[61]⟩] w fun e w' => e = .returned (.tuple #[.string (nm (if l.getLast? = some 61 then l.dropLast else l)), .bool (l.getLast? == some 61)]) ∧ w' = w := by
  have hs : (nm l).size ≤ 9223372036854775807 := by rw [nm_size]; omega
  have h := fun W => Tryz.stringslite_HasSuffix (nm l) ⟨#[61]⟩ W hs
  rw [nm_data, suffix_one] at h
  by_cases hq : l.getLast? = some 61
  · have hb : (l.getLast? == some 61) = true := by rw [hq]; rfl
    rw [hb] at h ⊢
    rw [if_pos hq]
    have hn : 1 ≤ l.length := by
      cases l with
      | nil => cases hq
      | cons a l => simp
    have hx : (nm l).extract 0 (l.length - 1) = nm l.dropLast := by rw [ext_to, nm_data, List.dropLast_eq_take]
    have hz : (nm l).size = l.length := nm_size l
    have HS := Lib.hid h
    have HX := Lib.hid hx
    generalize nm l.dropLast = D at *
    generalize nm l = K at *
    obtain ⟨n, hn1⟩ : ∃ n, l.length = n + 1 := ⟨l.length - 1, by omega⟩
    rw [hn1] at hz HX hl
    have hlm : n + 1 ≤ 4611686018427387904 := hl
    have hw : IntKind.i64.wrap ((K.size : Int) - 1) = (n : Int) := by rw [hz, IntWalk.i64_in _ (by omega)]; omega
    have hx2 : K.extract 0 n = D := HX.out
    have hle : (n : Int) ≤ (K.size : Int) := by omega
    clear h hb hq hn hx hn1 hl hs
    go_enter Tryz.func71, Tryz.ntmps71
    go_wp2_with (go_at_call 80; refine (HS.out _).mono ?_; rintro e W ⟨rfl, rfl⟩)
    go_ret2
    exact ⟨by simp, rfl⟩
  · have hb : (l.getLast? == some 61) = false := by simpa using hq
    rw [hb] at h ⊢
    rw [if_neg hq]
    have HS := Lib.hid h
    generalize nm l = K at *
    clear h hb hq
    go_enter Tryz.func71, Tryz.ntmps71
    go_wp2_with (go_at_call 80; refine (HS.out _).mono ?_; rintro e W ⟨rfl, rfl⟩)
    go_ret2
    exact ⟨rfl, rfl⟩
theorem cut_suffix (l : Bs) (w : World) (hl : l.length ≤ 4611686018427387904) :
    Calls Tryz.prog 60 #[.string (nm l), .string ⟨#[61]⟩] w fun e w' => e = .returned (.tuple #[.string (nm (if l.getLast? = some 61 then l.dropLast else l)), .bool (l.getLast? == some 61)]) ∧ w' = w := by
  have h := Lib.hid (lite_suffix l w hl)
  generalize nm (if l.getLast? = some 61 then l.dropLast else l) = D at *
  generalize nm l = K at *
  generalize (l.getLast? == some 61) = b at *
  go_enter Tryz.func60, Tryz.ntmps60
  go_wp2_with (go_at_call 71; refine h.out.mono ?_; rintro e W ⟨rfl, rfl⟩)
  go_ret2
  exact ⟨rfl, rfl⟩
/-- What gives tells. -/
def givesV (k : Bs) : Value := match givesOf k with
  | some b => .tuple #[.string (nm b), .bool true]
  | none => .tuple #[.string ⟨#[]⟩, .bool false]
set_option maxHeartbeats 1600000 in
theorem gives_any (k : Bs) (w : World) (hl : k.length ≤ 4611686018427387904) :
    Calls Tryz.prog 43 #[.string (nm k)] w fun e w' => e = .returned (givesV k) ∧ w' = w := by
  by_cases h0 : k = [61, 61]
  · have q0 : ((nm k).toList == [61, 61]) = true := by rw [str_is, decide_eq_true h0]
    have hr : givesV k = .tuple #[.string ⟨#[]⟩, .bool false] := by unfold givesV givesOf; rw [if_pos (.inl h0)]
    rw [hr]
    clear hr h0
    generalize nm k = K at *
    go_enter Tryz.func43, Tryz.ntmps43
    go_wp2
    go_ret2
    exact ⟨rfl, rfl⟩
  · have q0 : ((nm k).toList == [61, 61]) = false := by rw [str_is, decide_eq_false h0]
    by_cases h1 : k = [33, 61]
    · have q1 : ((nm k).toList == [33, 61]) = true := by rw [str_is, decide_eq_true h1]
      have hr : givesV k = .tuple #[.string ⟨#[]⟩, .bool false] := by unfold givesV givesOf; rw [if_pos (.inr (.inl h1))]
      rw [hr]
      clear hr h0 h1
      generalize nm k = K at *
      go_enter Tryz.func43, Tryz.ntmps43
      go_wp2
      go_ret2
      exact ⟨rfl, rfl⟩
    · have q1 : ((nm k).toList == [33, 61]) = false := by rw [str_is, decide_eq_false h1]
      by_cases h2 : k = [60, 61]
      · have q2 : ((nm k).toList == [60, 61]) = true := by rw [str_is, decide_eq_true h2]
        have hr : givesV k = .tuple #[.string ⟨#[]⟩, .bool false] := by unfold givesV givesOf; rw [if_pos (.inr (.inr (.inl h2)))]
        rw [hr]
        clear hr h0 h1 h2
        generalize nm k = K at *
        go_enter Tryz.func43, Tryz.ntmps43
        go_wp2
        go_ret2
        exact ⟨rfl, rfl⟩
      · have q2 : ((nm k).toList == [60, 61]) = false := by rw [str_is, decide_eq_false h2]
        by_cases h3 : k = [62, 61]
        · have q3 : ((nm k).toList == [62, 61]) = true := by rw [str_is, decide_eq_true h3]
          have hr : givesV k = .tuple #[.string ⟨#[]⟩, .bool false] := by unfold givesV givesOf; rw [if_pos (.inr (.inr (.inr h3)))]
          rw [hr]
          clear hr h0 h1 h2 h3
          generalize nm k = K at *
          go_enter Tryz.func43, Tryz.ntmps43
          go_wp2
          go_ret2
          exact ⟨rfl, rfl⟩
        · have q3 : ((nm k).toList == [62, 61]) = false := by rw [str_is, decide_eq_false h3]
          have HC := Lib.hid (fun W => cut_suffix k W hl)
          have hr : givesV k = if k.getLast? = some 61 then .tuple #[.string (nm k.dropLast), .bool true] else .tuple #[.string ⟨#[]⟩, .bool false] := by
            unfold givesV givesOf
            rw [if_neg (by rintro (e | e | e | e) <;> contradiction)]
            by_cases h : k.getLast? = some 61
            · rw [if_pos h, if_pos h]
            · rw [if_neg h, if_neg h]
          rw [hr]
          clear hr hl h0 h1 h2 h3
          by_cases h : k.getLast? = some 61
          · rw [if_pos h] at HC ⊢
            rw [h] at HC
            simp only [BEq.rfl] at HC
            clear h
            generalize nm k.dropLast = D at *
            generalize nm k = K at *
            go_enter Tryz.func43, Tryz.ntmps43
            go_wp2_with (go_at_call 60; refine (HC.out _).mono ?_; rintro e W ⟨rfl, rfl⟩)
            go_ret2
            exact ⟨rfl, rfl⟩
          · have hb : (k.getLast? == some 61) = false := by simpa using h
            rw [if_neg h] at HC ⊢
            rw [hb] at HC
            clear h hb
            generalize nm k = K at *
            go_enter Tryz.func43, Tryz.ntmps43
            go_wp2_with (go_at_call 60; refine (HC.out _).mono ?_; rintro e W ⟨rfl, rfl⟩)
            go_ret2
            exact ⟨rfl, rfl⟩

end Go.Proofs.YtcadnkanjlmfhaaGreatDoor.Ar
namespace Go.Proofs.YtcadnkanjlmfhaaGreatDoor
open Go.RowKit
open NumM
set_option linter.unusedVariables false

theorem ret_int {k : IntKind} {a b : Int} (h : a = b) : Ending.returned (.int k a) = .returned (.int k b) := by rw [h]

set_option maxHeartbeats 400000 in
theorem digit_any (c : UInt8) (w : World) :
    Calls Tryz.prog 76 #[.int .u8 (c.toNat : Int)] w fun e w' => e = .returned (.int .u64 (digV c : Int)) ∧ w = w' := by
  have hc := c.toNat_lt
  go_enter Tryz.func76, Tryz.ntmps76
  go_wp2
  all_goals (go_ret; exact ⟨ret_int (by unfold digV; (repeat' split) <;> omega), rfl⟩)
/-- What a loop of num.read holds: 'over' or not. -/
def ReadRel (b m : Nat) (l : List UInt8) (k : Nat) (n o : Value) : Prop :=
  (o = .bool false ∧ n = .int .u64 (valB b (l.take k) : Int) ∧ valB b (l.take k) ≤ m) ∨ (o = .bool true ∧ m < valB b (l.take k) ∧ ∃ x : Nat, n = .int .u64 (x : Int))

theorem empty_of_size {s : ByteArray} (h : s.size = 0) : s.toList.isEmpty = true := by
  rw [Lib.size_eq] at h; rw [Lib.toList_data, List.isEmpty_iff]; exact List.eq_nil_of_length_eq_zero h
theorem nonempty_of_size {s : ByteArray} (h : s.size ≠ 0) : s.toList.isEmpty = false := by
  rw [Lib.size_eq] at h; rw [Lib.toList_data]; cases e : s.data.toList with
  | nil => rw [e] at h; exact absurd rfl h
  | cons _ _ => rfl
theorem ret_two {k1 k2 : IntKind} {a b c d : Int} (h : a = b) (h2 : c = d) : Ending.returned (.tuple #[.int k1 a, .int k2 c]) = .returned (.tuple #[.int k1 b, .int k2 d]) := by rw [h, h2]

set_option maxHeartbeats 1000000 in
theorem read_nat (s : ByteArray) (b m : Nat) (w : World) (hs : s.size ≤ maxLen) (hb : 2 ≤ b) (hb' : b ≤ 16) (hm : 16 ≤ m) (hm' : (m : Int) ≤ 18446744073709551615) :
    Calls Tryz.prog 67 #[.string s, .int .u64 (b : Int), .int .u64 (m : Int)] w fun e w' => e = .returned (.tuple #[.int .u64 (readN b m s.data.toList : Int), .int .i64 (readE b m s.data.toList : Int)]) ∧ w = w' := by
  unfold maxLen at hs
  have hL := Lib.hid (Lib.size_eq s)
  by_cases hz : s.size = 0
  · have hne := empty_of_size hz
    have hr : readN b m s.data.toList = 0 ∧ readE b m s.data.toList = 40 := read_bad (by unfold bad; rw [← Lib.toList_data, hne]; rfl)
    have H := Lib.hid hr; clear hr hz
    go_enter Tryz.func67, Tryz.ntmps67
    go_wp2
    go_ret2
    exact ⟨ret_two (by rw [H.out.1]; rfl) (by rw [H.out.2]; rfl), rfl⟩
  · have hne := nonempty_of_size hz
    go_enter Tryz.func67, Tryz.ntmps67
    go_wp2
    go_loop [8, 9, 16] (fun n o i => ∃ k : Nat, k ≤ s.size ∧ i = .int .i64 k ∧ okTo b s.data.toList k ∧ ReadRel b m s.data.toList k n o) (fun _ _ i => s.size - (intOf i).toNat)
    case atStart => exact ⟨0, by omega, rfl, okTo_zero _ _, .inl ⟨rfl, rfl, by simp [valB_nil]⟩⟩
    case round =>
      obtain ⟨k, hk, rfl, hok, hrel⟩ := hrel
      have HOK := Lib.hid hok; clear hok
      by_cases hlt : k < s.size
      · have hlen : k < s.data.toList.length := by rw [← hL.out]; exact hlt
        have hbyte : s.data.toList[k] = s[k] := by simp [ByteArray.getElem_eq_getElem_data]
        have hsucc := valB_take_succ b hlen
        have hokn : digV s[k] < b → okTo b s.data.toList (k + 1) := fun h => okTo_succ HOK.out hlen (by rw [hbyte]; exact h)
        have hbad : b ≤ digV s[k] → bad b s.data.toList = true := fun h => bad_of b _ k hlen (by rw [hbyte]; exact h)
        rw [hbyte] at hsucc
        have hdig := digit_any s[k]
        have hd16 := digV_le s[k]
        generalize digV s[k] = d at hsucc hokn hbad hdig hd16
        have HD := Lib.hid hdig; clear hdig
        have HO := Lib.hid hokn; clear hokn
        have HS := Lib.hid hsucc; clear hsucc hbyte
        by_cases hdb : b ≤ d
        · have hr := read_bad (m := m) (hbad hdb)
          have HR := Lib.hid hr; clear hr hbad
          clear hrel HO HS HOK
          go_wp2_with (go_at_call 76; refine (HD.out _).mono ?_; rintro e w' ⟨rfl, rfl⟩)
          go_ret2
          exact ⟨ret_two (by rw [HR.out.1]; rfl) (by rw [HR.out.2]; rfl), rfl⟩
        · clear hbad
          have hd2 : d < b := by omega
          rcases hrel with ⟨rfl, rfl, hv⟩ | ⟨rfl, hv, x, rfl⟩
          · generalize valB b (s.data.toList.take k) = v at hv HS
            have hov := over_iff v b m d (by omega) (by omega)
            have hI : ((m : Int) - (d : Int)) / (b : Int) = (((m - d) / b : Nat) : Int) := by
              rw [show ((m : Int) - (d : Int)) = ((m - d : Nat) : Int) by omega]; rfl
            by_cases hc : m < v * b + d
            · have hT : decide (((m : Int) - (d : Int)) / (b : Int) < (v : Int)) = true := by
                rw [hI, decide_eq_true_iff]; exact Int.ofNat_lt.2 (hov.2 hc)
              have HH := Lib.hid hc; clear hc hI hov
              go_wp2_with (go_at_call 76; refine (HD.out _).mono ?_; rintro e w' ⟨rfl, rfl⟩)
              go_round
              case rel => exact ⟨k + 1, by omega, by go_num, HO.out hd2, .inr ⟨rfl, by rw [HS.out]; exact HH.out, _, rfl⟩⟩
              case measure => simp [intOf]; omega
            · have hT : decide (((m : Int) - (d : Int)) / (b : Int) < (v : Int)) = false := by
                rw [hI, decide_eq_false_iff_not]; intro h; exact hc (hov.1 (Int.ofNat_lt.1 h))
              have hbd1 : (v : Int) * (b : Int) + (d : Int) ≤ (m : Int) := by
                have : ((v * b + d : Nat) : Int) ≤ (m : Int) := by omega
                rw [Int.natCast_add, Int.natCast_mul] at this; exact this
              have hbd2 : 0 ≤ (v : Int) * (b : Int) := Int.mul_nonneg (by omega) (by omega)
              have HH := Lib.hid hc; clear hc hI hov
              go_wp2_with (go_at_call 76; refine (HD.out _).mono ?_; rintro e w' ⟨rfl, rfl⟩)
              go_round
              case rel => exact ⟨k + 1, by omega, by go_num, HO.out hd2, .inl ⟨rfl, by rw [HS.out]; rfl, by rw [HS.out]; have := HH.out; omega⟩⟩
              case measure => simp [intOf]; omega
          · have hov := over_more (valB b (s.data.toList.take k)) b m d (by omega) hv
            have HV := Lib.hid hov; clear hov hv
            go_wp2_with (go_at_call 76; refine (HD.out _).mono ?_; rintro e w' ⟨rfl, rfl⟩)
            go_round
            case rel => exact ⟨k + 1, by omega, by go_num, HO.out hd2, .inr ⟨rfl, by rw [HS.out]; exact HV.out, _, rfl⟩⟩
            case measure => simp [intOf]; omega
      · have hkk : k = s.data.toList.length := by rw [← hL.out]; omega
        have hgood : bad b s.data.toList = false := ok_of b _ (by omega) (by have := HOK.out; rw [hkk] at this; exact this)
        have htk : s.data.toList.take k = s.data.toList := by rw [hkk]; exact List.take_length
        unfold ReadRel at hrel
        rw [htk] at hrel
        have HK := Lib.hid hkk; clear hkk htk HOK
        rcases hrel with ⟨rfl, rfl, hv⟩ | ⟨rfl, hv, x, rfl⟩
        · have hr := read_fits hgood hv
          have HR := Lib.hid hr; clear hr hgood hv
          go_wp2
          go_ret2
          exact ⟨ret_two (by rw [HR.out.1]) (by rw [HR.out.2]; rfl), rfl⟩
        · have hr := read_over hgood hv
          have HR := Lib.hid hr; clear hr hgood hv
          go_wp2
          go_ret2
          exact ⟨ret_two (by rw [HR.out.1]; rfl) (by rw [HR.out.2]; rfl), rfl⟩
theorem read_any (s : ByteArray) (b m : Int) (B M : Nat) (w : World) (hB : b = (B : Int)) (hM : m = (M : Int)) (hs : s.size ≤ maxLen) (hb : 2 ≤ B) (hb' : B ≤ 16) (hm : 16 ≤ M) (hm' : m ≤ 18446744073709551615) :
    Calls Tryz.prog 67 #[.string s, .int .u64 b, .int .u64 m] w fun e w' => e = .returned (.tuple #[.int .u64 (readN B M s.data.toList : Int), .int .i64 (readE B M s.data.toList : Int)]) ∧ w = w' := by
  subst hB; subst hM; exact read_nat s B M w hs hb hb' hm hm'

theorem readN_M63 (b : Nat) (l : List UInt8) : (readN b M63 l : Int) ≤ 9223372036854775807 := by
  have := readN_le b M63 l; unfold M63 at *; omega
theorem readN_P63 (b : Nat) (l : List UInt8) : (readN b P63 l : Int) ≤ 9223372036854775808 := by
  have := readN_le b P63 l; unfold P63 at *; omega

set_option maxHeartbeats 400000 in
theorem natural_any (s : ByteArray) (b : Int) (B : Nat) (w : World) (hB : b = (B : Int)) (hs : s.size ≤ maxLen) (hb : 2 ≤ B) (hb' : B ≤ 16) :
    Calls Tryz.prog 55 #[.string s, .int .u64 b] w fun e w' => e = .returned (.tuple #[.int .i64 (readN B M63 s.data.toList : Int), .int .i64 (readE B M63 s.data.toList : Int)]) ∧ w = w' := by
  have hc := fun w => read_any s b 9223372036854775807 B M63 w hB rfl hs hb hb' (by unfold M63; omega) (by omega)
  have hle := readN_M63 B s.data.toList
  generalize readN B M63 s.data.toList = x at hc hle
  generalize readE B M63 s.data.toList = y at hc
  have HC := Lib.hid hc; clear hc hB
  go_enter Tryz.func55, Tryz.ntmps55
  go_wp2_with (go_at_call 67; refine (HC.out _).mono ?_; rintro e w' ⟨rfl, rfl⟩)
  go_ret2
  exact ⟨rfl, rfl⟩

theorem ret_bool {a b : Bool} (h : a = b) : Ending.returned (.bool a) = .returned (.bool b) := by rw [h]
theorem ret_str {a b : ByteArray} (h : a = b) : Ending.returned (.string a) = .returned (.string b) := by rw [h]

theorem prefix_eq (s p : ByteArray) : p.data.toList.isPrefixOf s.data.toList = ((s.extract 0 p.size).toList == p.toList) := by
  rw [Lib.extract_toList, Lib.toList_data, Bool.eq_iff_iff, List.isPrefixOf_iff_prefix, List.prefix_iff_eq_take, beq_iff_eq, Lib.size_eq]
  simp only [List.drop_zero, Nat.sub_zero]
  exact eq_comm
theorem prefix_no (s p : ByteArray) (h : ¬ p.size ≤ s.size) : p.data.toList.isPrefixOf s.data.toList = false := by
  rw [Bool.eq_false_iff]
  intro hh
  rw [List.isPrefixOf_iff_prefix] at hh
  have := hh.length_le
  rw [← Lib.size_eq, ← Lib.size_eq] at this
  exact h this

set_option maxHeartbeats 400000 in
theorem hasPrefix_any (s p : ByteArray) (w : World) (hs : s.size ≤ maxLen) (hp : p.size ≤ maxLen) :
    Calls Tryz.prog 53 #[.string s, .string p] w fun e w' => e = .returned (.bool (p.data.toList.isPrefixOf s.data.toList)) ∧ w = w' := by
  unfold maxLen at hs hp
  by_cases h : p.size ≤ s.size
  · have H := Lib.hid (prefix_eq s p)
    go_enter Tryz.func53, Tryz.ntmps53
    go_wp2
    go_ret
    exact ⟨ret_bool (by rw [H.out]), rfl⟩
  · have H := Lib.hid (prefix_no s p h)
    have hd : decide ((p.size : Int) ≤ (s.size : Int)) = false := by simp; omega
    go_enter Tryz.func53, Tryz.ntmps53
    go_wp2
    go_ret
    exact ⟨ret_bool (by rw [H.out]), rfl⟩

set_option maxHeartbeats 400000 in
theorem cut_yes0 (s p : ByteArray) (w : World) (hs : s.size ≤ maxLen) (h : p.data.toList.isPrefixOf s.data.toList = true) :
    Calls Tryz.prog 66 #[.string s, .string p] w fun e w' => e = .returned (.tuple #[.string (s.extract p.size s.size), .bool true]) ∧ w = w' := by
  have hps : p.size ≤ s.size := by
    rw [List.isPrefixOf_iff_prefix] at h
    have := h.length_le
    rwa [← Lib.size_eq, ← Lib.size_eq] at this
  have hc := fun w => hasPrefix_any s p w hs (by omega)
  rw [h] at hc
  have HC := Lib.hid hc; clear hc h
  unfold maxLen at hs
  go_enter Tryz.func66, Tryz.ntmps66
  go_wp2_with (go_at_call 53; refine (HC.out _).mono ?_; rintro e w' ⟨rfl, rfl⟩)
  go_ret2
  exact ⟨rfl, rfl⟩
set_option maxHeartbeats 400000 in
theorem cut_no0 (s p : ByteArray) (w : World) (hs : s.size ≤ maxLen) (hp : p.size ≤ maxLen) (h : p.data.toList.isPrefixOf s.data.toList = false) :
    Calls Tryz.prog 66 #[.string s, .string p] w fun e w' => e = .returned (.tuple #[.string s, .bool false]) ∧ w = w' := by
  have hc := fun w => hasPrefix_any s p w hs hp
  rw [h] at hc
  have HC := Lib.hid hc; clear hc h
  unfold maxLen at hs
  go_enter Tryz.func66, Tryz.ntmps66
  go_wp2_with (go_at_call 53; refine (HC.out _).mono ?_; rintro e w' ⟨rfl, rfl⟩)
  go_ret2
  exact ⟨rfl, rfl⟩
set_option maxHeartbeats 400000 in
theorem cut_yes (s p : ByteArray) (w : World) (hs : s.size ≤ maxLen) (h : p.data.toList.isPrefixOf s.data.toList = true) :
    Calls Tryz.prog 54 #[.string s, .string p] w fun e w' => e = .returned (.tuple #[.string (s.extract p.size s.size), .bool true]) ∧ w = w' := by
  have HC := Lib.hid (fun w => cut_yes0 s p w hs h)
  clear h
  go_enter Tryz.func54, Tryz.ntmps54
  go_wp2_with (go_at_call 66; refine (HC.out _).mono ?_; rintro e w' ⟨rfl, rfl⟩)
  go_ret2
  exact ⟨rfl, rfl⟩
set_option maxHeartbeats 400000 in
theorem cut_no (s p : ByteArray) (w : World) (hs : s.size ≤ maxLen) (hp : p.size ≤ maxLen) (h : p.data.toList.isPrefixOf s.data.toList = false) :
    Calls Tryz.prog 54 #[.string s, .string p] w fun e w' => e = .returned (.tuple #[.string s, .bool false]) ∧ w = w' := by
  have HC := Lib.hid (fun w => cut_no0 s p w hs hp h)
  clear h
  go_enter Tryz.func54, Tryz.ntmps54
  go_wp2_with (go_at_call 66; refine (HC.out _).mono ?_; rintro e w' ⟨rfl, rfl⟩)
  go_ret2
  exact ⟨rfl, rfl⟩
set_option maxHeartbeats 400000 in
theorem trim_yes0 (s p : ByteArray) (w : World) (hs : s.size ≤ maxLen) (h : p.data.toList.isPrefixOf s.data.toList = true) :
    Calls Tryz.prog 113 #[.string s, .string p] w fun e w' => e = .returned (.string (s.extract p.size s.size)) ∧ w = w' := by
  have hps : p.size ≤ s.size := by
    rw [List.isPrefixOf_iff_prefix] at h
    have := h.length_le
    rwa [← Lib.size_eq, ← Lib.size_eq] at this
  have hc := fun w => hasPrefix_any s p w hs (by omega)
  rw [h] at hc
  have HC := Lib.hid hc; clear hc h
  unfold maxLen at hs
  go_enter Tryz.func113, Tryz.ntmps113
  go_wp2_with (go_at_call 53; refine (HC.out _).mono ?_; rintro e w' ⟨rfl, rfl⟩)
  go_ret
  exact ⟨rfl, rfl⟩
set_option maxHeartbeats 400000 in
theorem trim_no0 (s p : ByteArray) (w : World) (hs : s.size ≤ maxLen) (hp : p.size ≤ maxLen) (h : p.data.toList.isPrefixOf s.data.toList = false) :
    Calls Tryz.prog 113 #[.string s, .string p] w fun e w' => e = .returned (.string s) ∧ w = w' := by
  have hc := fun w => hasPrefix_any s p w hs hp
  rw [h] at hc
  have HC := Lib.hid hc; clear hc h
  unfold maxLen at hs
  go_enter Tryz.func113, Tryz.ntmps113
  go_wp2_with (go_at_call 53; refine (HC.out _).mono ?_; rintro e w' ⟨rfl, rfl⟩)
  go_ret
  exact ⟨rfl, rfl⟩
set_option maxHeartbeats 400000 in
theorem trim_any (s p : ByteArray) (w : World) (hs : s.size ≤ maxLen) (hp : p.size ≤ maxLen) :
    Calls Tryz.prog 111 #[.string s, .string p] w fun e w' => e = .returned (.string (if p.data.toList.isPrefixOf s.data.toList = true then s.extract p.size s.size else s)) ∧ w = w' := by
  by_cases h : p.data.toList.isPrefixOf s.data.toList = true
  · rw [if_pos h]
    have HC := Lib.hid (fun w => trim_yes0 s p w hs h)
    clear h
    go_enter Tryz.func111, Tryz.ntmps111
    go_wp2_with (go_at_call 113; refine (HC.out _).mono ?_; rintro e w' ⟨rfl, rfl⟩)
    go_ret
    exact ⟨rfl, rfl⟩
  · rw [if_neg h]
    have HC := Lib.hid (fun w => trim_no0 s p w hs hp (by simpa using h))
    clear h
    go_enter Tryz.func111, Tryz.ntmps111
    go_wp2_with (go_at_call 113; refine (HC.out _).mono ?_; rintro e w' ⟨rfl, rfl⟩)
    go_ret
    exact ⟨rfl, rfl⟩
end Go.Proofs.YtcadnkanjlmfhaaGreatDoor
namespace Go.Proofs.YtcadnkanjlmfhaaGreatDoor
open Go.RowKit
open NumM
set_option linter.unusedVariables false

theorem pre1 (c : UInt8) (s : ByteArray) : (⟨#[c]⟩ : ByteArray).data.toList.isPrefixOf s.data.toList = hd c s.data.toList := by
  show [c].isPrefixOf s.data.toList = _
  unfold hd
  cases s.data.toList with
  | nil => rfl
  | cons a l => simp only [List.isPrefixOf, List.head?_cons, Bool.and_true]; exact Bool.beq_comm
theorem tail_data (s : ByteArray) : (s.extract 1 s.size).data.toList = s.data.toList.tail := by
  rw [Lib.extract_to_end, List.drop_one]
theorem tail_size (s : ByteArray) : (s.extract 1 s.size).size ≤ s.size := by
  rw [Lib.size_eq, tail_data, Lib.size_eq]; simp
theorem one_size (c : UInt8) : (⟨#[c]⟩ : ByteArray).size = 1 := rfl
theorem one_le (c : UInt8) : (⟨#[c]⟩ : ByteArray).size ≤ maxLen := by rw [one_size]; unfold maxLen; omega

theorem neg_wrap (x : Nat) (h : (x : Int) ≤ 9223372036854775808) : wrap64 (IntKind.u64.wrap (-(x : Int))) = -(x : Int) := by
  unfold wrap64; rw [IntKind.wrap_u64]; omega

set_option maxHeartbeats 400000 in
theorem decimal_any (s : ByteArray) (w : World) (hs : s.size ≤ maxLen) :
    Calls Tryz.prog 103 #[.string s] w fun e w' => e = .returned (.tuple #[.int .i64 (decN s.data.toList), .int .i64 (decE s.data.toList : Int)]) ∧ w = w' := by
  have hts := tail_size s
  by_cases h : hd 45 s.data.toList = true
  · have hc := fun w => cut_yes s ⟨#[45]⟩ w hs (by rw [pre1]; exact h)
    rw [one_size] at hc
    have hr := fun w => read_any (s.extract 1 s.size) 10 9223372036854775808 10 P63 w rfl rfl (by omega) (by omega) (by omega) (by unfold P63; omega) (by omega)
    rw [tail_data] at hr
    have e1 : decN s.data.toList = -(readN 10 P63 s.data.toList.tail : Int) := by unfold decN; rw [if_pos h]
    have e2 : decE s.data.toList = readE 10 P63 s.data.toList.tail := by unfold decE; rw [if_pos h]
    have hle := readN_P63 10 s.data.toList.tail
    generalize readN 10 P63 s.data.toList.tail = x at hr e1 hle
    generalize readE 10 P63 s.data.toList.tail = y at hr e2
    have E1 := Lib.hid e1; have E2 := Lib.hid e2; clear e1 e2
    have HC := Lib.hid hc; have HR := Lib.hid hr; clear hc hr h hts
    go_enter Tryz.func103, Tryz.ntmps103
    go_wp2_with (first | (go_at_call 54; refine (HC.out _).mono ?_; rintro e w' ⟨rfl, rfl⟩) | (go_at_call 67; refine (HR.out _).mono ?_; rintro e w' ⟨rfl, rfl⟩))
    go_ret2
    exact ⟨ret_two (by rw [E1.out]; exact neg_wrap x hle) (by rw [E2.out]), rfl⟩
  · have h' : hd 45 s.data.toList = false := by simpa using h
    have hc := fun w => cut_no s ⟨#[45]⟩ w hs (one_le _) (by rw [pre1]; exact h')
    have ht := fun w => trim_any s ⟨#[43]⟩ w hs (one_le _)
    rw [pre1, one_size] at ht
    by_cases h2 : hd 43 s.data.toList = true
    · rw [if_pos h2] at ht
      have hr := fun w => natural_any (s.extract 1 s.size) 10 10 w rfl (by omega) (by omega) (by omega)
      rw [tail_data] at hr
      have e1 : decN s.data.toList = (readN 10 M63 s.data.toList.tail : Int) := by unfold decN; rw [if_neg h, if_pos h2]
      have e2 : decE s.data.toList = readE 10 M63 s.data.toList.tail := by unfold decE; rw [if_neg h, if_pos h2]
      rw [← e1, ← e2] at hr
      have HC := Lib.hid hc; have HT := Lib.hid ht; have HR := Lib.hid hr; clear hc hr ht e1 e2 h h' h2 hts
      go_enter Tryz.func103, Tryz.ntmps103
      go_wp2_with (first | (go_at_call 54; refine (HC.out _).mono ?_; rintro e w' ⟨rfl, rfl⟩) | (go_at_call 111; refine (HT.out _).mono ?_; rintro e w' ⟨rfl, rfl⟩) | (go_at_call 55; refine (HR.out _).mono ?_; rintro e w' ⟨rfl, rfl⟩))
      go_ret2
      exact ⟨rfl, rfl⟩
    · rw [if_neg h2] at ht
      have hr := fun w => natural_any s 10 10 w rfl (by omega) (by omega) (by omega)
      have e1 : decN s.data.toList = (readN 10 M63 s.data.toList : Int) := by unfold decN; rw [if_neg h, if_neg h2]
      have e2 : decE s.data.toList = readE 10 M63 s.data.toList := by unfold decE; rw [if_neg h, if_neg h2]
      rw [← e1, ← e2] at hr
      have HC := Lib.hid hc; have HT := Lib.hid ht; have HR := Lib.hid hr; clear hc hr ht e1 e2 h h' h2 hts
      go_enter Tryz.func103, Tryz.ntmps103
      go_wp2_with (first | (go_at_call 54; refine (HC.out _).mono ?_; rintro e w' ⟨rfl, rfl⟩) | (go_at_call 111; refine (HT.out _).mono ?_; rintro e w' ⟨rfl, rfl⟩) | (go_at_call 55; refine (HR.out _).mono ?_; rintro e w' ⟨rfl, rfl⟩))
      go_ret2
      exact ⟨rfl, rfl⟩

theorem readN_511 (l : List UInt8) : (readN 8 511 l : Int) ≤ 511 := by
  have := readN_le 8 511 l; omega

theorem hd_at (t : ByteArray) (h : 0 < t.size) (c : UInt8) : hd c t.data.toList = ((t[0].toNat : Int) == (c.toNat : Int)) := by
  have hl : 0 < t.data.toList.length := by rw [← Lib.size_eq]; exact h
  have e : t.data.toList[0] = t[0] := by simp [ByteArray.getElem_eq_getElem_data]
  unfold hd
  rw [List.head?_eq_getElem?, List.getElem?_eq_getElem hl, e, Bool.eq_iff_iff, beq_iff_eq, beq_iff_eq, Option.some_inj]
  constructor
  · intro hh; rw [hh]
  · intro hh; exact UInt8.toNat_inj.1 (by omega)

set_option maxHeartbeats 400000 in
theorem constant_any (s : ByteArray) (w : World) (hs : s.size ≤ maxLen) :
    Calls Tryz.prog 40 #[.string s] w fun e w' => e = .returned (.tuple #[.int .i64 (conN s.data.toList : Int), .int .i64 (conE s.data.toList : Int)]) ∧ w = w' := by
  by_cases h : hd 48 s.data.toList = true
  · have hc := fun w => cut_yes s ⟨#[48]⟩ w hs (by rw [pre1]; exact h)
    rw [one_size] at hc
    have hts := tail_size s
    have htd := tail_data s
    have hr10 := fun w => natural_any s 10 10 w rfl hs (by omega) (by omega)
    generalize s.extract 1 s.size = t at hc hts htd
    have htl : t.size ≤ maxLen := by omega
    have hr8 := fun w => natural_any t 8 8 w rfl htl (by omega) (by omega)
    rw [htd] at hr8
    by_cases h0 : t.size = 0
    · have hem := empty_of_size h0
      have hte : s.data.toList.tail.isEmpty = true := by rw [← htd, ← Lib.toList_data]; exact hem
      have e1 : conN s.data.toList = readN 10 M63 s.data.toList := by unfold conN; rw [hte]; simp
      have e2 : conE s.data.toList = readE 10 M63 s.data.toList := by unfold conE; rw [hte]; simp
      rw [← e1, ← e2] at hr10
      have HC := Lib.hid hc; have HR := Lib.hid hr10; clear hc hr10 hr8 e1 e2 hte htd h h0
      unfold maxLen at hs htl
      go_enter Tryz.func40, Tryz.ntmps40
      go_wp2_with (first | (go_at_call 54; refine (HC.out _).mono ?_; rintro e w' ⟨rfl, rfl⟩) | (go_at_call 55; refine (HR.out _).mono ?_; rintro e w' ⟨rfl, rfl⟩))
      go_ret2
      exact ⟨rfl, rfl⟩
    · have hem := nonempty_of_size h0
      have hpos : 0 < t.size := by omega
      have hte : s.data.toList.tail.isEmpty = false := by rw [← htd, ← Lib.toList_data]; exact hem
      have hx := hd_at t hpos 120
      have hX := hd_at t hpos 88
      rw [htd] at hx hX
      have hts2 := tail_size t
      have htd2 := tail_data t
      rw [htd] at htd2
      have hr16 := fun w => natural_any (t.extract 1 t.size) 16 16 w rfl (by omega) (by omega) (by omega)
      rw [htd2] at hr16
      by_cases hcx : (hd 120 s.data.toList.tail || hd 88 s.data.toList.tail) = true
      · have e1 : conN s.data.toList = readN 16 M63 s.data.toList.tail.tail := by unfold conN; rw [hte, h, hcx]; rfl
        have e2 : conE s.data.toList = readE 16 M63 s.data.toList.tail.tail := by unfold conE; rw [hte, h, hcx]; rfl
        rw [← e1, ← e2] at hr16
        have HC := Lib.hid hc; have HR := Lib.hid hr16; clear hc hr10 hr8 hr16 e1 e2 hte htd htd2 h h0
        by_cases hb : hd 120 s.data.toList.tail = true
        · rw [hx] at hb
          have hb1 : ((t[0].toNat : Int) == 120) = true := hb
          clear hx hX hcx hb
          unfold maxLen at hs htl
          go_enter Tryz.func40, Tryz.ntmps40
          go_wp2_with (first | (go_at_call 54; refine (HC.out _).mono ?_; rintro e w' ⟨rfl, rfl⟩) | (go_at_call 55; refine (HR.out _).mono ?_; rintro e w' ⟨rfl, rfl⟩))
          go_ret2
          exact ⟨rfl, rfl⟩
        · have hb' : hd 120 s.data.toList.tail = false := by simpa using hb
          have hb2 : hd 88 s.data.toList.tail = true := by rw [hb'] at hcx; simpa using hcx
          rw [hx] at hb'
          rw [hX] at hb2
          have hb3 : ((t[0].toNat : Int) == 120) = false := hb'
          have hb4 : ((t[0].toNat : Int) == 88) = true := hb2
          clear hx hX hcx hb hb' hb2
          unfold maxLen at hs htl
          go_enter Tryz.func40, Tryz.ntmps40
          go_wp2_with (first | (go_at_call 54; refine (HC.out _).mono ?_; rintro e w' ⟨rfl, rfl⟩) | (go_at_call 55; refine (HR.out _).mono ?_; rintro e w' ⟨rfl, rfl⟩))
          go_ret2
          exact ⟨rfl, rfl⟩
      · have hcx' : (hd 120 s.data.toList.tail || hd 88 s.data.toList.tail) = false := by simpa using hcx
        have e1 : conN s.data.toList = readN 8 M63 s.data.toList.tail := by unfold conN; rw [hte, h, hcx']; rfl
        have e2 : conE s.data.toList = readE 8 M63 s.data.toList.tail := by unfold conE; rw [hte, h, hcx']; rfl
        rw [← e1, ← e2] at hr8
        rw [Bool.or_eq_false_iff, hx, hX] at hcx'
        obtain ⟨hb1, hb2⟩ := hcx'
        have hb3 : ((t[0].toNat : Int) == 120) = false := hb1
        have hb4 : ((t[0].toNat : Int) == 88) = false := hb2
        have HC := Lib.hid hc; have HR := Lib.hid hr8; clear hc hr10 hr8 hr16 e1 e2 hte htd htd2 h h0 hx hX hcx hb1 hb2
        unfold maxLen at hs htl
        go_enter Tryz.func40, Tryz.ntmps40
        go_wp2_with (first | (go_at_call 54; refine (HC.out _).mono ?_; rintro e w' ⟨rfl, rfl⟩) | (go_at_call 55; refine (HR.out _).mono ?_; rintro e w' ⟨rfl, rfl⟩))
        go_ret2
        exact ⟨rfl, rfl⟩
  · have h' : hd 48 s.data.toList = false := by simpa using h
    have hc := fun w => cut_no s ⟨#[48]⟩ w hs (one_le _) (by rw [pre1]; exact h')
    have hr := fun w => natural_any s 10 10 w rfl hs (by omega) (by omega)
    have e1 : conN s.data.toList = readN 10 M63 s.data.toList := by unfold conN; rw [h']; rfl
    have e2 : conE s.data.toList = readE 10 M63 s.data.toList := by unfold conE; rw [h']; rfl
    rw [← e1, ← e2] at hr
    have HC := Lib.hid hc; have HR := Lib.hid hr; clear hc hr e1 e2 h h'
    unfold maxLen at hs
    go_enter Tryz.func40, Tryz.ntmps40
    go_wp2_with (first | (go_at_call 54; refine (HC.out _).mono ?_; rintro e w' ⟨rfl, rfl⟩) | (go_at_call 55; refine (HR.out _).mono ?_; rintro e w' ⟨rfl, rfl⟩))
    go_ret2
    exact ⟨rfl, rfl⟩
end Go.Proofs.YtcadnkanjlmfhaaGreatDoor
