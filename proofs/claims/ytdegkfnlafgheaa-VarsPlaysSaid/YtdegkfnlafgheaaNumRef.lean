/- DERIVED. Walks over the document's own answers for layer 1 (package rehearsalref01). -/
import Derived.Test.YtdegkfnlafgheaaNumBase
namespace Go.Proofs.Ytdegkfnlafgheaa
open Go.RowKit
open NumM
set_option linter.unusedVariables false

/-- The test of the document's digit at sign k. -/
def hit (c k : Nat) : Bool := decide ((sig k).toNat = c) || (decide (10 ≤ k) && decide ((sig k).toNat = (c + 32) % 256) && decide (c < 97))
theorem hit_yes : ∀ c, c < 256 → ∀ k, k < 16 → hit c k = true → digV (UInt8.ofNat c) = k := by decide +kernel
theorem hit_no : ∀ c, c < 256 → (∀ k, k < 16 → hit c k = false) → digV (UInt8.ofNat c) = 16 := by decide +kernel
theorem hit_at (c : UInt8) (k : Nat) (hk : k < 16) (h : hit c.toNat k = true) : digV c = k := by
  have := hit_yes c.toNat c.toNat_lt k hk h
  rwa [UInt8.ofNat_toNat] at this
theorem hit_none (c : UInt8) (h : ∀ k, k < 16 → hit c.toNat k = false) : digV c = 16 := by
  have := hit_no c.toNat c.toNat_lt h
  rwa [UInt8.ofNat_toNat] at this
theorem idx_sigI (i : Nat) (h : i < 16) (W : World) :
    (Instr.index 9 (.string ⟨#[48, 49, 50, 51, 52, 53, 54, 55, 56, 57, 97, 98, 99, 100, 101, 102]⟩) (.int .i64 (i : Int))).run Try.prog W = .ok (.int .u8 ((sig i).toNat : Int)) W := by
  rw [run_index_string W _ _ _ _ Try.underlying9, dif_pos (show 0 ≤ (i : Int) ∧ (i : Int) < _ from ⟨by omega, by show (i : Int) < ((16 : Nat) : Int); omega⟩)]
  rw [← sig_at i h]; rfl

set_option maxHeartbeats 400000 in
theorem rdigit_any (c : UInt8) (w : World) :
    Calls Try.prog 74 #[.int .u8 (c.toNat : Int)] w fun e w' => e = .returned (.int .i64 (digV c : Int)) ∧ w = w' := by
  have hc := c.toNat_lt
  have HY := Lib.hid (hit_at c)
  have HN := Lib.hid (hit_none c)
  generalize c.toNat = n at HY HN hc
  go_enter Try.func74, Try.ntmps74
  go_wp2
  go_loop [3] (fun i => ∃ k : Nat, k ≤ 16 ∧ i = .int .i64 k ∧ Hid (∀ j, j < k → hit n j = false)) (fun i => 16 - (intOf i).toNat)
  case atStart => exact ⟨0, by omega, rfl, Lib.hid (fun j hj => absurd hj (by omega))⟩
  case round =>
    obtain ⟨k, hk, rfl, HK⟩ := hrel
    by_cases hlt : k < 16
    · have HIX := idx_sigI k hlt
      have h16 : ((k : Int) < 16) := by omega
      have hnext : hit n k = false → Hid (∀ j, j < k + 1 → hit n j = false) := fun h => Lib.hid (fun j hj => by
        by_cases e : j = k
        · subst e; exact h
        · exact HK.out j (by omega))
      have hhit : hit n k = (decide ((sig k).toNat = n) || (decide (10 ≤ k) && decide ((sig k).toNat = (n + 32) % 256) && decide (n < 97))) := rfl
      have hy := HY.out k hlt
      generalize hsig : (sig k).toNat = s at HIX hhit
      clear hsig
      by_cases hA : s = n
      · have hd := hy (by rw [hhit]; simp [hA])
        have HD := Lib.hid hd; clear hd hy hhit hnext
        have hA1 : ((s : Int) == (n : Int)) = true := by rw [beq_iff_eq]; omega
        clear hA
        go_wp2
        go_ret
        exact ⟨ret_int (by rw [HD.out]), rfl⟩
      · have hA1 : ((s : Int) == (n : Int)) = false := by rw [beq_eq_false_iff_ne]; omega
        by_cases hB : 10 ≤ k
        · by_cases hD : n < 97
          · by_cases hC : s = n + 32
            · have hd := hy (by rw [hhit]; simp [hB, hD]; omega)
              have HD := Lib.hid hd; clear hd hy hhit hnext hA
              have hC1 : ((s : Int) == (n : Int) + 32) = true := by rw [beq_iff_eq]; omega
              clear hC
              go_wp2
              go_ret
              exact ⟨ret_int (by rw [HD.out]), rfl⟩
            · have hn := Lib.hid (hnext (by rw [hhit]; simp; omega))
              have hC1 : ((s : Int) == (n : Int) + 32) = false := by rw [beq_eq_false_iff_ne]; omega
              clear hy hhit hnext hA hC
              go_wp2
              go_round
              case rel => exact ⟨k + 1, by omega, by go_num, hn.out⟩
              case measure => simp [intOf]; omega
          · have hn := Lib.hid (hnext (by rw [hhit]; simp; omega))
            clear hy hhit hnext hA
            have hD1 : decide ((n : Int) < 97) = false := by simp; omega
            go_wp2
            all_goals
              go_round
              case rel => exact ⟨k + 1, by omega, by go_num, hn.out⟩
              case measure => simp [intOf]; omega
        · have hn := Lib.hid (hnext (by rw [hhit]; simp; omega))
          clear hy hhit hnext hA
          go_wp2
          go_round
          case rel => exact ⟨k + 1, by omega, by go_num, hn.out⟩
          case measure => simp [intOf]; omega
    · obtain rfl : k = 16 := by omega
      have hd := Lib.hid (HN.out HK.out)
      go_wp2
      go_ret
      exact ⟨ret_int (by rw [hd.out]; rfl), rfl⟩
theorem over_div (v b m : Nat) (hb : 1 ≤ b) : m / b < v ↔ m < v * b := Nat.div_lt_iff_lt_mul (by omega)

set_option maxHeartbeats 1000000 in
theorem rdigits_nat (s : ByteArray) (b m : Nat) (w : World) (hs : s.size ≤ maxLen) (hb : 2 ≤ b) (hb' : b ≤ 16) (hm : 16 ≤ m) (hm' : (m : Int) ≤ 18446744073709551615) :
    Calls Try.prog 59 #[.string s, .int .i64 (b : Int), .int .u64 (m : Int)] w fun e w' => e = .returned (.tuple #[.int .u64 (readN b m s.data.toList : Int), .int .i64 (readE b m s.data.toList : Int)]) ∧ w = w' := by
  unfold maxLen at hs
  have hL := Lib.hid (Lib.size_eq s)
  by_cases hz : s.size = 0
  · have hne := empty_of_size hz
    have hr : readN b m s.data.toList = 0 ∧ readE b m s.data.toList = 40 := read_bad (by unfold bad; rw [← Lib.toList_data, hne]; rfl)
    have H := Lib.hid hr; clear hr hne
    have hz1 : ((s.size : Int) == 0) = true := by rw [beq_iff_eq]; omega
    clear hz
    go_enter Try.func59, Try.ntmps59
    go_wp2
    go_ret2
    exact ⟨ret_two (by rw [H.out.1]; rfl) (by rw [H.out.2]; rfl), rfl⟩
  · have hz1 : ((s.size : Int) == 0) = false := by rw [beq_eq_false_iff_ne]; omega
    have hpos : 0 < s.size := by omega
    clear hz
    go_enter Try.func59, Try.ntmps59
    go_wp2
    go_loop [8] (fun i => ∃ k : Nat, k ≤ s.size ∧ i = .int .i64 k ∧ Hid (okTo b s.data.toList k)) (fun i => s.size - (intOf i).toNat)
    case atStart => exact ⟨0, by omega, rfl, Lib.hid (okTo_zero _ _)⟩
    case round =>
      obtain ⟨k, hk, rfl, HOK⟩ := hrel
      by_cases hlt : k < s.size
      · have hlen : k < s.data.toList.length := by rw [← hL.out]; exact hlt
        have hbyte : s.data.toList[k] = s[k] := by simp [ByteArray.getElem_eq_getElem_data]
        have hokn : digV s[k] < b → okTo b s.data.toList (k + 1) := fun h => okTo_succ HOK.out hlen (by rw [hbyte]; exact h)
        have hbad : b ≤ digV s[k] → bad b s.data.toList = true := fun h => bad_of b _ k hlen (by rw [hbyte]; exact h)
        have hdig := rdigit_any s[k]
        have hd16 := digV_le s[k]
        generalize digV s[k] = d at hokn hbad hdig hd16
        have HD := Lib.hid hdig; clear hdig hbyte
        by_cases hdb : b ≤ d
        · have hr := read_bad (m := m) (hbad hdb)
          have HR := Lib.hid hr; clear hr hbad hokn
          go_wp2_with (go_at_call 74; refine (HD.out _).mono ?_; rintro e w' ⟨rfl, rfl⟩)
          go_ret2
          exact ⟨ret_two (by rw [HR.out.1]; rfl) (by rw [HR.out.2]; rfl), rfl⟩
        · have HO := Lib.hid (hokn (by omega))
          clear hbad hokn
          go_wp2_with (go_at_call 74; refine (HD.out _).mono ?_; rintro e w' ⟨rfl, rfl⟩)
          go_round
          case rel => exact ⟨k + 1, by omega, by go_num, HO⟩
          case measure => simp [intOf]; omega
      · have hkk : k = s.data.toList.length := by rw [← hL.out]; omega
        have hall : okTo b s.data.toList s.data.toList.length := by rw [← hkk]; exact HOK.out
        have HG := Lib.hid (ok_of b _ (by omega) hall)
        have HA := Lib.hid hall
        clear hkk HOK hall
        go_wp2
        go_loop [9, 10] (fun n i => ∃ k : Nat, k ≤ s.size ∧ i = .int .i64 k ∧ n = .int .u64 (valB b (s.data.toList.take k) : Int) ∧ valB b (s.data.toList.take k) ≤ m) (fun _ i => s.size - (intOf i).toNat)
        case atStart => exact ⟨0, by omega, rfl, rfl, by simp [valB_nil]⟩
        case round =>
          obtain ⟨k, hk, rfl, rfl, hv⟩ := hrel
          by_cases hlt : k < s.size
          · have hlen : k < s.data.toList.length := by rw [← hL.out]; exact hlt
            have hbyte : s.data.toList[k] = s[k] := by simp [ByteArray.getElem_eq_getElem_data]
            have hsucc := valB_take_succ b hlen
            have hdb := HA.out k hlen hlen
            have hle := valB_take_le b (by omega) s.data.toList (k + 1)
            rw [hbyte] at hsucc hdb
            have hdig := rdigit_any s[k]
            generalize digV s[k] = d at hsucc hdb hdig
            have HD := Lib.hid hdig; clear hdig
            have HS := Lib.hid hsucc; clear hsucc hbyte
            have HLE := Lib.hid hle; clear hle
            generalize valB b (s.data.toList.take k) = v at hv HS
            have hdm : (d : Int) ≤ (m : Int) := by omega
            have hI : (m : Int) / (b : Int) = ((m / b : Nat) : Int) := rfl
            have hiff := over_div v b m (by omega)
            have hq0 : 0 ≤ (m : Int) / (b : Int) := Int.ediv_nonneg (by omega) (by omega)
            have hq1 : (m : Int) / (b : Int) ≤ 18446744073709551615 := Int.le_trans (Int.ediv_le_self _ (by omega)) hm'
            by_cases hc1 : m < v * b
            · have hT : decide ((m : Int) / (b : Int) < (v : Int)) = true := by
                rw [hI, decide_eq_true_iff]; exact Int.ofNat_lt.2 (hiff.2 hc1)
              have hr := read_over (m := m) HG.out (by have h1 := HS.out; have h2 := HLE.out; omega)
              have HR := Lib.hid hr; clear hr hc1 hI hiff
              go_wp2_with (go_at_call 74; refine (HD.out _).mono ?_; rintro e w' ⟨rfl, rfl⟩)
              go_ret2
              exact ⟨ret_two (by rw [HR.out.1]; rfl) (by rw [HR.out.2]; rfl), rfl⟩
            · have hT : decide ((m : Int) / (b : Int) < (v : Int)) = false := by
                rw [hI, decide_eq_false_iff_not]; intro h; exact hc1 (hiff.1 (Int.ofNat_lt.1 h))
              have hp0 : 0 ≤ (v : Int) * (b : Int) := Int.mul_nonneg (by omega) (by omega)
              have hp1 : (v : Int) * (b : Int) ≤ (m : Int) := by
                have : ((v * b : Nat) : Int) ≤ (m : Int) := by omega
                rw [Int.natCast_mul] at this; exact this
              have hcast : ((v * b : Nat) : Int) = (v : Int) * (b : Int) := Int.natCast_mul _ _
              by_cases hc2 : m - d < v * b
              · have hT2 : (m : Int) - (d : Int) < (v : Int) * (b : Int) := by rw [← hcast]; omega
                have hr := read_over (m := m) HG.out (by have h1 := HS.out; have h2 := HLE.out; omega)
                have HR := Lib.hid hr; clear hr hc1 hc2 hI hiff hcast
                go_wp2_with (go_at_call 74; refine (HD.out _).mono ?_; rintro e w' ⟨rfl, rfl⟩)
                go_ret2
                exact ⟨ret_two (by rw [HR.out.1]; rfl) (by rw [HR.out.2]; rfl), rfl⟩
              · have hT2 : (v : Int) * (b : Int) + (d : Int) ≤ (m : Int) := by rw [← hcast]; omega
                have HH := Lib.hid hT2
                have HN : Hid (v * b + d ≤ m) := Lib.hid (by omega)
                clear hc1 hc2 hI hiff hcast
                go_wp2_with (go_at_call 74; refine (HD.out _).mono ?_; rintro e w' ⟨rfl, rfl⟩)
                go_round
                case rel => exact ⟨k + 1, by omega, by go_num, by rw [HS.out]; rfl, by rw [HS.out]; exact HN.out⟩
                case measure => simp [intOf]; omega
          · have hkk : k = s.data.toList.length := by rw [← hL.out]; omega
            have htk : s.data.toList.take k = s.data.toList := by rw [hkk]; exact List.take_length
            rw [htk] at hv ⊢
            have HR := Lib.hid (read_fits HG.out hv)
            clear hkk htk
            go_wp2
            go_ret2
            exact ⟨ret_two (by rw [HR.out.1]) (by rw [HR.out.2]; rfl), rfl⟩

theorem rdigits_any (s : ByteArray) (b m : Int) (B M : Nat) (w : World) (hB : b = (B : Int)) (hM : m = (M : Int)) (hs : s.size ≤ maxLen) (hb : 2 ≤ B) (hb' : B ≤ 16) (hm : 16 ≤ M) (hm' : m ≤ 18446744073709551615) :
    Calls Try.prog 59 #[.string s, .int .i64 b, .int .u64 m] w fun e w' => e = .returned (.tuple #[.int .u64 (readN B M s.data.toList : Int), .int .i64 (readE B M s.data.toList : Int)]) ∧ w = w' := by
  subst hB; subst hM; exact rdigits_nat s B M w hs hb hb' hm hm'
end Go.Proofs.Ytdegkfnlafgheaa
