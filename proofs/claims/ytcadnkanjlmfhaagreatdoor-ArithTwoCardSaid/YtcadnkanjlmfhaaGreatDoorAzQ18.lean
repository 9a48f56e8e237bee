/- DERIVED. Texts of this claim, joined: NumRef, NumRef2, ArLaw1, ArLaw2. -/
import Derived.Test.YtcadnkanjlmfhaaGreatDoorAzQ14
import Derived.Deep.QuietTactic
import Derived.BigQuiet
import Derived.Test.YtcadnkanjlmfhaaGreatDoorAzQ17
namespace Go.Proofs.YtcadnkanjlmfhaaGreatDoor
open Go.RowKit
open NumM
set_option linter.unusedVariables false

/-- The test of the document's digit at sign k. -/
def hit (c k : Nat) : Bool := decide ((sig k).toNat = c) || (decide (10 ≤ k) && decide ((sig k).toNat = (c + 32) % 256) && decide (c < 97))
theorem hit_yes : ∀ c, c < 256 → ∀ k, k < 16 → hit c k = true → digV (UInt8.ofNat c) = k := by decide +kernel
theorem hit_no : ∀ c, c < 256 → (∀ k, k < 16 → hit c k = false) → digV (UInt8.ofNat c) = 16 := by decide +kernel
theorem hit_at (c : UInt8) (k : Nat) (hk : k < 16) (h : hit c.toNat k = true) : digV c = k := by
  have := hit_yes c.toNat c.toNat_lt k hk h
  rwa [UInt8.ofNat_toNat] at this
theorem hit_none (c : UInt8) (h : ∀ k, k < 16 → hit c.toNat k = false) : digV c = 16 := by
  have := hit_no c.toNat c.toNat_lt h
  rwa [UInt8.ofNat_toNat] at this
theorem idx_sigI (i : Nat) (h : i < 16) (W : World) :
    (Instr.index 9 (.string ⟨#[48, 49, 50, 51, 52, 53, 54, 55, 56, 57, 97, 98, 99, 100, 101, 102]⟩) (.int .i64 (i : Int))).run Tryz.prog W = .ok (.int .u8 ((sig i).toNat : Int)) W := by
  rw [run_index_string W _ _ _ _ Tryz.underlying9, dif_pos (show 0 ≤ (i : Int) ∧ (i : Int) < _ from ⟨by omega, by show (i : Int) < ((16 : Nat) : Int); omega⟩)]
  rw [← sig_at i h]; rfl

set_option maxHeartbeats 400000 in
theorem rdigit_any (c : UInt8) (w : World) :
    Calls Tryz.prog 61 #[.int .u8 (c.toNat : Int)] w fun e w' => e = .returned (.int .i64 (digV c : Int)) ∧ w = w' := by
  have hc := c.toNat_lt
  have HY := Lib.hid (hit_at c)
  have HN := Lib.hid (hit_none c)
  generalize c.toNat = n at HY HN hc
  go_enter Tryz.func61, Tryz.ntmps61
  go_wp2
  go_loop [3] (fun i => ∃ k : Nat, k ≤ 16 ∧ i = .int .i64 k ∧ Hid (∀ j, j < k → hit n j = false)) (fun i => 16 - (intOf i).toNat)
  case atStart => exact ⟨0, by omega, rfl, Lib.hid (fun j hj => absurd hj (by omega))⟩
  case round =>
    obtain ⟨k, hk, rfl, HK⟩ := hrel
    by_cases hlt : k < 16
    · have HIX := idx_sigI k hlt
      have h16 : ((k : Int) < 16) := by omega
      have hnext : hit n k = false → Hid (∀ j, j < k + 1 → hit n j = false) := fun h => Lib.hid (fun j hj => by
        by_cases e : j = k
        · subst e; exact h
        · exact HK.out j (by omega))
      have hhit : hit n k = (decide ((sig k).toNat = n) || (decide (10 ≤ k) && decide ((sig k).toNat = (n + 32) % 256) && decide (n < 97))) := rfl
      have hy := HY.out k hlt
      generalize hsig : (sig k).toNat = s at HIX hhit
      clear hsig
      by_cases hA : s = n
      · have hd := hy (by rw [hhit]; simp [hA])
        have HD := Lib.hid hd; clear hd hy hhit hnext
        have hA1 : ((s : Int) == (n : Int)) = true := by rw [beq_iff_eq]; omega
        clear hA
        go_wp2
        go_ret
        exact ⟨ret_int (by rw [HD.out]), rfl⟩
      · have hA1 : ((s : Int) == (n : Int)) = false := by rw [beq_eq_false_iff_ne]; omega
        by_cases hB : 10 ≤ k
        · by_cases hD : n < 97
          · by_cases hC : s = n + 32
            · have hd := hy (by rw [hhit]; simp [hB, hD]; omega)
              have HD := Lib.hid hd; clear hd hy hhit hnext hA
              have hC1 : ((s : Int) == (n : Int) + 32) = true := by rw [beq_iff_eq]; omega
              clear hC
              go_wp2
              go_ret
              exact ⟨ret_int (by rw [HD.out]), rfl⟩
            · have hn := Lib.hid (hnext (by rw [hhit]; simp; omega))
              have hC1 : ((s : Int) == (n : Int) + 32) = false := by rw [beq_eq_false_iff_ne]; omega
              clear hy hhit hnext hA hC
              go_wp2
              go_round
              case rel => exact ⟨k + 1, by omega, by go_num, hn.out⟩
              case measure => simp [intOf]; omega
          · have hn := Lib.hid (hnext (by rw [hhit]; simp; omega))
            clear hy hhit hnext hA
            have hD1 : decide ((n : Int) < 97) = false := by simp; omega
            go_wp2
            all_goals
              go_round
              case rel => exact ⟨k + 1, by omega, by go_num, hn.out⟩
              case measure => simp [intOf]; omega
        · have hn := Lib.hid (hnext (by rw [hhit]; simp; omega))
          clear hy hhit hnext hA
          go_wp2
          go_round
          case rel => exact ⟨k + 1, by omega, by go_num, hn.out⟩
          case measure => simp [intOf]; omega
    · obtain rfl : k = 16 := by omega
      have hd := Lib.hid (HN.out HK.out)
      go_wp2
      go_ret
      exact ⟨ret_int (by rw [hd.out]; rfl), rfl⟩
theorem over_div (v b m : Nat) (hb : 1 ≤ b) : m / b < v ↔ m < v * b := Nat.div_lt_iff_lt_mul (by omega)

set_option maxHeartbeats 1000000 in
theorem rdigits_nat (s : ByteArray) (b m : Nat) (w : World) (hs : s.size ≤ maxLen) (hb : 2 ≤ b) (hb' : b ≤ 16) (hm : 16 ≤ m) (hm' : (m : Int) ≤ 18446744073709551615) :
    Calls Tryz.prog 44 #[.string s, .int .i64 (b : Int), .int .u64 (m : Int)] w fun e w' => e = .returned (.tuple #[.int .u64 (readN b m s.data.toList : Int), .int .i64 (readE b m s.data.toList : Int)]) ∧ w = w' := by
  unfold maxLen at hs
  have hL := Lib.hid (Lib.size_eq s)
  by_cases hz : s.size = 0
  · have hne := empty_of_size hz
    have hr : readN b m s.data.toList = 0 ∧ readE b m s.data.toList = 40 := read_bad (by unfold bad; rw [← Lib.toList_data, hne]; rfl)
    have H := Lib.hid hr; clear hr hne
    have hz1 : ((s.size : Int) == 0) = true := by rw [beq_iff_eq]; omega
    clear hz
    go_enter Tryz.func44, Tryz.ntmps44
    go_wp2
    go_ret2
    exact ⟨ret_two (by rw [H.out.1]; rfl) (by rw [H.out.2]; rfl), rfl⟩
  · have hz1 : ((s.size : Int) == 0) = false := by rw [beq_eq_false_iff_ne]; omega
    have hpos : 0 < s.size := by omega
    clear hz
    go_enter Tryz.func44, Tryz.ntmps44
    go_wp2
    go_loop [8] (fun i => ∃ k : Nat, k ≤ s.size ∧ i = .int .i64 k ∧ Hid (okTo b s.data.toList k)) (fun i => s.size - (intOf i).toNat)
    case atStart => exact ⟨0, by omega, rfl, Lib.hid (okTo_zero _ _)⟩
    case round =>
      obtain ⟨k, hk, rfl, HOK⟩ := hrel
      by_cases hlt : k < s.size
      · have hlen : k < s.data.toList.length := by rw [← hL.out]; exact hlt
        have hbyte : s.data.toList[k] = s[k] := by simp [ByteArray.getElem_eq_getElem_data]
        have hokn : digV s[k] < b → okTo b s.data.toList (k + 1) := fun h => okTo_succ HOK.out hlen (by rw [hbyte]; exact h)
        have hbad : b ≤ digV s[k] → bad b s.data.toList = true := fun h => bad_of b _ k hlen (by rw [hbyte]; exact h)
        have hdig := rdigit_any s[k]
        have hd16 := digV_le s[k]
        generalize digV s[k] = d at hokn hbad hdig hd16
        have HD := Lib.hid hdig; clear hdig hbyte
        by_cases hdb : b ≤ d
        · have hr := read_bad (m := m) (hbad hdb)
          have HR := Lib.hid hr; clear hr hbad hokn
          go_wp2_with (go_at_call 61; refine (HD.out _).mono ?_; rintro e w' ⟨rfl, rfl⟩)
          go_ret2
          exact ⟨ret_two (by rw [HR.out.1]; rfl) (by rw [HR.out.2]; rfl), rfl⟩
        · have HO := Lib.hid (hokn (by omega))
          clear hbad hokn
          go_wp2_with (go_at_call 61; refine (HD.out _).mono ?_; rintro e w' ⟨rfl, rfl⟩)
          go_round
          case rel => exact ⟨k + 1, by omega, by go_num, HO⟩
          case measure => simp [intOf]; omega
      · have hkk : k = s.data.toList.length := by rw [← hL.out]; omega
        have hall : okTo b s.data.toList s.data.toList.length := by rw [← hkk]; exact HOK.out
        have HG := Lib.hid (ok_of b _ (by omega) hall)
        have HA := Lib.hid hall
        clear hkk HOK hall
        go_wp2
        go_loop [9, 10] (fun n i => ∃ k : Nat, k ≤ s.size ∧ i = .int .i64 k ∧ n = .int .u64 (valB b (s.data.toList.take k) : Int) ∧ valB b (s.data.toList.take k) ≤ m) (fun _ i => s.size - (intOf i).toNat)
        case atStart => exact ⟨0, by omega, rfl, rfl, by simp [valB_nil]⟩
        case round =>
          obtain ⟨k, hk, rfl, rfl, hv⟩ := hrel
          by_cases hlt : k < s.size
          · have hlen : k < s.data.toList.length := by rw [← hL.out]; exact hlt
            have hbyte : s.data.toList[k] = s[k] := by simp [ByteArray.getElem_eq_getElem_data]
            have hsucc := valB_take_succ b hlen
            have hdb := HA.out k hlen hlen
            have hle := valB_take_le b (by omega) s.data.toList (k + 1)
            rw [hbyte] at hsucc hdb
            have hdig := rdigit_any s[k]
            generalize digV s[k] = d at hsucc hdb hdig
            have HD := Lib.hid hdig; clear hdig
            have HS := Lib.hid hsucc; clear hsucc hbyte
            have HLE := Lib.hid hle; clear hle
            generalize valB b (s.data.toList.take k) = v at hv HS
            have hdm : (d : Int) ≤ (m : Int) := by omega
            have hI : (m : Int) / (b : Int) = ((m / b : Nat) : Int) := rfl
            have hiff := over_div v b m (by omega)
            have hq0 : 0 ≤ (m : Int) / (b : Int) := Int.ediv_nonneg (by omega) (by omega)
            have hq1 : (m : Int) / (b : Int) ≤ 18446744073709551615 := Int.le_trans (Int.ediv_le_self _ (by omega)) hm'
            by_cases hc1 : m < v * b
            · have hT : decide ((m : Int) / (b : Int) < (v : Int)) = true := by
                rw [hI, decide_eq_true_iff]; exact Int.ofNat_lt.2 (hiff.2 hc1)
              have hr := read_over (m := m) HG.out (by have h1 := HS.out; have h2 := HLE.out; omega)
              have HR := Lib.hid hr; clear hr hc1 hI hiff
              go_wp2_with (go_at_call 61; refine (HD.out _).mono ?_; rintro e w' ⟨rfl, rfl⟩)
              go_ret2
              exact ⟨ret_two (by rw [HR.out.1]; rfl) (by rw [HR.out.2]; rfl), rfl⟩
            · have hT : decide ((m : Int) / (b : Int) < (v : Int)) = false := by
                rw [hI, decide_eq_false_iff_not]; intro h; exact hc1 (hiff.1 (Int.ofNat_lt.1 h))
              have hp0 : 0 ≤ (v : Int) * (b : Int) := Int.mul_nonneg (by omega) (by omega)
              have hp1 : (v : Int) * (b : Int) ≤ (m : Int) := by
                have : ((v * b : Nat) : Int) ≤ (m : Int) := by omega
                rw [Int.natCast_mul] at this; exact this
              have hcast : ((v * b : Nat) : Int) = (v : Int) * (b : Int) := Int.natCast_mul _ _
              by_cases hc2 : m - d < v * b
              · have hT2 : (m : Int) - (d : Int) < (v : Int) * (b : Int) := by rw [← hcast]; omega
                have hr := read_over (m := m) HG.out (by have h1 := HS.out; have h2 := HLE.out; omega)
                have HR := Lib.hid hr; clear hr hc1 hc2 hI hiff hcast
                go_wp2_with (go_at_call 61; refine (HD.out _).mono ?_; rintro e w' ⟨rfl, rfl⟩)
                go_ret2
                exact ⟨ret_two (by rw [HR.out.1]; rfl) (by rw [HR.out.2]; rfl), rfl⟩
              · have hT2 : (v : Int) * (b : Int) + (d : Int) ≤ (m : Int) := by rw [← hcast]; omega
                have HH := Lib.hid hT2
                have HN : Hid (v * b + d ≤ m) := Lib.hid (by omega)
                clear hc1 hc2 hI hiff hcast
                go_wp2_with (go_at_call 61; refine (HD.out _).mono ?_; rintro e w' ⟨rfl, rfl⟩)
                go_round
                case rel => exact ⟨k + 1, by omega, by go_num, by rw [HS.out]; rfl, by rw [HS.out]; exact HN.out⟩
                case measure => simp [intOf]; omega
          · have hkk : k = s.data.toList.length := by rw [← hL.out]; omega
            have htk : s.data.toList.take k = s.data.toList := by rw [hkk]; exact List.take_length
            rw [htk] at hv ⊢
            have HR := Lib.hid (read_fits HG.out hv)
            clear hkk htk
            go_wp2
            go_ret2
            exact ⟨ret_two (by rw [HR.out.1]) (by rw [HR.out.2]; rfl), rfl⟩

theorem rdigits_any (s : ByteArray) (b m : Int) (B M : Nat) (w : World) (hB : b = (B : Int)) (hM : m = (M : Int)) (hs : s.size ≤ maxLen) (hb : 2 ≤ B) (hb' : B ≤ 16) (hm : 16 ≤ M) (hm' : m ≤ 18446744073709551615) :
    Calls Tryz.prog 44 #[.string s, .int .i64 b, .int .u64 m] w fun e w' => e = .returned (.tuple #[.int .u64 (readN B M s.data.toList : Int), .int .i64 (readE B M s.data.toList : Int)]) ∧ w = w' := by
  subst hB; subst hM; exact rdigits_nat s B M w hs hb hb' hm hm'
end Go.Proofs.YtcadnkanjlmfhaaGreatDoor
namespace Go.Proofs.YtcadnkanjlmfhaaGreatDoor
open Go.RowKit
open NumM
set_option linter.unusedVariables false

set_option maxHeartbeats 400000 in
theorem rbase_none (n b : Int) (w : World) (h : b < 2 ∨ 16 < b) :
    Calls Tryz.prog 18 #[.int .u64 n, .int .i64 b] w fun e w' => e = .returned (.string ⟨#[]⟩) ∧ w = w' := by
  rcases h with h | h
  · go_enter Tryz.func18, Tryz.ntmps18
    go_wp2
    go_ret
    exact ⟨rfl, rfl⟩
  · have h2 : ¬ b < 2 := by omega
    go_enter Tryz.func18, Tryz.ntmps18
    go_wp2
    go_ret
    exact ⟨rfl, rfl⟩

theorem sig_piece : ∀ i, i < 16 → (⟨#[48, 49, 50, 51, 52, 53, 54, 55, 56, 57, 97, 98, 99, 100, 101, 102]⟩ : ByteArray).extract i (i + 1) = ⟨#[sig i]⟩ := by decide +kernel
theorem sig_cut (i : Nat) (h : i < 16) (x y : Int) (hx : x = (i : Int)) (hy : y = (i : Int) + 1) (W : World) :
    (Instr.slice 9 (.string ⟨#[48, 49, 50, 51, 52, 53, 54, 55, 56, 57, 97, 98, 99, 100, 101, 102]⟩) (some (.int .u64 x)) (some (.int .u64 y)) none).run Tryz.prog W = .ok (.string ⟨#[sig i]⟩) W := by
  subst hx; subst hy
  rw [run_slice_string W 9 _ .u64 .u64 _ _ Tryz.underlying9 (by omega) (by omega) (by show (i : Int) + 1 ≤ ((16 : Nat) : Int); omega)]
  rw [show ((i : Int)).toNat = i by omega, show ((i : Int) + 1).toNat = i + 1 by omega]
  rw [sig_piece i h]

theorem cat_run (x y : List UInt8) (h : x.length + y.length ≤ 9223372036854775807) (W : World) :
    (Op.stringOp .add ⟨x.toArray⟩ ⟨y.toArray⟩).run Tryz.prog W = .ok (.string ⟨(x ++ y).toArray⟩) W := by
  rw [run_string_add_sum W _ _ (by simpa [ByteArray.size] using h)]
  congr 2

set_option maxHeartbeats 400000 in
theorem rbase_nat (b : Nat) (hb : 2 ≤ b) (hb' : b ≤ 16) (n : Nat) : ∀ (w : World), n < 2 ^ 64 →
    Calls Tryz.prog 18 #[.int .u64 (n : Int), .int .i64 (b : Int)] w fun e w' => e = .returned (.string ⟨(digs b n).toArray⟩) ∧ ∃ k, w' = w.drewN k := by
  have h1 : ¬ (b : Int) < 2 := by omega
  have h2 : ¬ 16 < (b : Int) := by omega
  induction n using digs_ind b hb with
  | h0 n h =>
    intro w hn
    have hnn : (n : Int) ≤ 18446744073709551615 := by omega
    have hm : (n : Int) % (b : Int) = (n : Int) := Int.emod_eq_of_lt (by omega) (by omega)
    have HSL := sig_cut n (by omega) n (n + 1) rfl rfl
    have HE := Lib.hid (digs_lt b n h)
    go_enter Tryz.func18, Tryz.ntmps18
    go_wp2
    go_quiet (fail)
    go_wp2
    go_ret
    exact ⟨ret_str (by rw [HE.out]), _, rfl⟩
  | h1 n h ih =>
    intro w hn
    have hnn : (n : Int) ≤ 18446744073709551615 := by omega
    have hmlt : n % b < b := Nat.mod_lt n (by omega)
    have HSL := sig_cut (n % b) (by omega) ((n : Int) % (b : Int)) ((n : Int) % (b : Int) + 1) rfl rfl
    have hm0 : 0 ≤ (n : Int) % (b : Int) := Int.emod_nonneg _ (by omega)
    have hm1 : (n : Int) % (b : Int) + 1 ≤ 18446744073709551615 := by
      have : (n : Int) % (b : Int) = ((n % b : Nat) : Int) := rfl
      omega
    have hdl : n / b < 2 ^ 64 := Nat.lt_of_le_of_lt (Nat.div_le_self _ _) hn
    have hq0 : 0 ≤ (n : Int) / (b : Int) := Int.ediv_nonneg (by omega) (by omega)
    have hq1 : (n : Int) / (b : Int) ≤ 18446744073709551615 := Int.le_trans (Int.ediv_le_self _ (by omega)) hnn
    have hcat := cat_run (digs b (n / b)) [sig (n % b)] (by have := digs_length_le b hb (n / b) hdl; simp; omega)
    rw [← digs_ge b n hb hn h] at hcat
    have hih : ∀ w, Calls Tryz.prog 18 #[.int .u64 ((n : Int) / (b : Int)), .int .i64 (b : Int)] w fun e w' => e = .returned (.string ⟨(digs b (n / b)).toArray⟩) ∧ ∃ k, w' = w.drewN k := fun w => ih w hdl
    have HI := Lib.hid hih; clear hih ih hdl
    go_enter Tryz.func18, Tryz.ntmps18
    go_wp2
    go_quiet (fail)
    clear hm0 hm1 hmlt HSL
    go_wp2_with (go_at_call 18; refine (HI.out _).mono ?_; rintro e w' ⟨rfl, k, rfl⟩)
    go_ret
    exact ⟨rfl, _, rfl⟩
theorem rbase_any (x y : Int) (n b : Nat) (w : World) (hx : x = (n : Int)) (hy : y = (b : Int)) (hb : 2 ≤ b) (hb' : b ≤ 16) (hn : x ≤ 18446744073709551615) :
    Calls Tryz.prog 18 #[.int .u64 x, .int .i64 y] w fun e w' => e = .returned (.string ⟨(digs b n).toArray⟩) ∧ ∃ k, w' = w.drewN k := by
  subst hx; subst hy; exact rbase_nat b hb hb' n w (by omega)

set_option maxHeartbeats 400000 in
theorem rtext_any (n : Int) (w : World) (h0 : -9223372036854775808 ≤ n) (h1 : n ≤ 9223372036854775807) :
    Calls Tryz.prog 10 #[.int .i64 n] w fun e w' => e = .returned (.string ⟨(textL n).toArray⟩) ∧ ∃ k, w' = w.drewN k := by
  by_cases h : n < 0
  · have hc := fun w => rbase_any (IntKind.u64.wrap (-IntKind.u64.wrap n)) 10 n.natAbs 10 w (neg_u64 n h0 h) rfl (by omega) (by omega) (by rw [neg_u64 n h0 h]; omega)
    have e : (⟨(textL n).toArray⟩ : ByteArray) = ⟨#[45]⟩ ++ ⟨(digs 10 n.natAbs).toArray⟩ := by unfold textL; rw [if_pos h, dash_append]
    have hcat : ∀ W, (Op.stringOp .add ⟨#[45]⟩ ⟨(digs 10 n.natAbs).toArray⟩).run Tryz.prog W = .ok (.string ⟨(textL n).toArray⟩) W := fun W => by
      rw [run_string_add_sum W _ _ (digs_sum 10 n.natAbs (by omega) (by omega)), e]
    have HC := Lib.hid hc; clear hc e
    go_enter Tryz.func10, Tryz.ntmps10
    go_wp2_with (go_at_call 18; refine (HC.out _).mono ?_; rintro e w' ⟨rfl, hb⟩)
    go_ret
    exact ⟨rfl, hb⟩
  · have hc := fun w => rbase_any n 10 n.natAbs 10 w (by omega) rfl (by omega) (by omega) (by omega)
    have e : (⟨(textL n).toArray⟩ : ByteArray) = ⟨(digs 10 n.natAbs).toArray⟩ := by unfold textL; rw [if_neg h]
    have HC := Lib.hid hc; have HE := Lib.hid e; clear hc e
    have hn0 : 0 ≤ n := by omega
    clear h
    go_enter Tryz.func10, Tryz.ntmps10
    go_wp2_with (go_at_call 18; refine (HC.out _).mono ?_; rintro e w' ⟨rfl, hb⟩)
    go_ret
    exact ⟨ret_str (by rw [HE.out]), hb⟩

theorem hd_nil (c : UInt8) (s : ByteArray) (h : s.size = 0) : hd c s.data.toList = false := by
  rw [Lib.size_eq] at h
  rw [List.eq_nil_of_length_eq_zero h]; rfl

set_option maxHeartbeats 400000 in
theorem rdecimal_any (s : ByteArray) (w : World) (hs : s.size ≤ maxLen) :
    Calls Tryz.prog 49 #[.string s] w fun e w' => e = .returned (.tuple #[.int .i64 (decN s.data.toList), .int .i64 (decE s.data.toList : Int)]) ∧ w = w' := by
  have hts := tail_size s
  have hr0 := fun w => rdigits_any s 10 9223372036854775807 10 M63 w rfl rfl hs (by omega) (by omega) (by unfold M63; omega) (by omega)
  have hle0 := readN_M63 10 s.data.toList
  by_cases hz : s.size = 0
  · have e1 : decN s.data.toList = (readN 10 M63 s.data.toList : Int) := by unfold decN; rw [hd_nil _ s hz, hd_nil _ s hz]; rfl
    have e2 : decE s.data.toList = readE 10 M63 s.data.toList := by unfold decE; rw [hd_nil _ s hz, hd_nil _ s hz]; rfl
    generalize readN 10 M63 s.data.toList = x at hr0 e1 hle0
    generalize readE 10 M63 s.data.toList = y at hr0 e2
    have hz1 : ¬ (0 < s.size) := by omega
    have hd0 : decide (0 < s.size) = false := by simpa using hz1
    have HR := Lib.hid hr0; have E1 := Lib.hid e1; have E2 := Lib.hid e2; clear hr0 e1 e2 hts hz hz1
    unfold maxLen at hs
    go_enter Tryz.func49, Tryz.ntmps49
    go_wp2_with (go_at_call 44; refine (HR.out _).mono ?_; rintro e w' ⟨rfl, rfl⟩)
    go_ret2
    exact ⟨ret_two (by rw [E1.out]) (by rw [E2.out]), rfl⟩
  · have hpos : 0 < s.size := by omega
    have h45 := hd_at s hpos 45
    have h43 := hd_at s hpos 43
    by_cases h : hd 45 s.data.toList = true
    · have hr := fun w => rdigits_any (s.extract 1 s.size) 10 9223372036854775808 10 P63 w rfl rfl (by omega) (by omega) (by omega) (by unfold P63; omega) (by omega)
      rw [tail_data] at hr
      have e1 : decN s.data.toList = -(readN 10 P63 s.data.toList.tail : Int) := by unfold decN; rw [if_pos h]
      have e2 : decE s.data.toList = readE 10 P63 s.data.toList.tail := by unfold decE; rw [if_pos h]
      have hle := readN_P63 10 s.data.toList.tail
      generalize readN 10 P63 s.data.toList.tail = x at hr e1 hle
      generalize readE 10 P63 s.data.toList.tail = y at hr e2
      rw [h45] at h
      have hb : ((s[0].toNat : Int) == 45) = true := h
      have HR := Lib.hid hr; have E1 := Lib.hid e1; have E2 := Lib.hid e2; clear hr hr0 hle0 e1 e2 hts hz h h45 h43
      unfold maxLen at hs
      go_enter Tryz.func49, Tryz.ntmps49
      go_wp2_with (go_at_call 44; refine (HR.out _).mono ?_; rintro e w' ⟨rfl, rfl⟩)
      go_ret2
      exact ⟨ret_two (by rw [E1.out]; exact neg_wrap x hle) (by rw [E2.out]), rfl⟩
    · by_cases h2 : hd 43 s.data.toList = true
      · have hr := fun w => rdigits_any (s.extract 1 s.size) 10 9223372036854775807 10 M63 w rfl rfl (by omega) (by omega) (by omega) (by unfold M63; omega) (by omega)
        rw [tail_data] at hr
        have e1 : decN s.data.toList = (readN 10 M63 s.data.toList.tail : Int) := by unfold decN; rw [if_neg h, if_pos h2]
        have e2 : decE s.data.toList = readE 10 M63 s.data.toList.tail := by unfold decE; rw [if_neg h, if_pos h2]
        have hle := readN_M63 10 s.data.toList.tail
        generalize readN 10 M63 s.data.toList.tail = x at hr e1 hle
        generalize readE 10 M63 s.data.toList.tail = y at hr e2
        have h' : hd 45 s.data.toList = false := by simpa using h
        rw [h45] at h'
        rw [h43] at h2
        have hb : ((s[0].toNat : Int) == 45) = false := h'
        have hb2 : ((s[0].toNat : Int) == 43) = true := h2
        have HR := Lib.hid hr; have E1 := Lib.hid e1; have E2 := Lib.hid e2; clear hr hr0 hle0 e1 e2 hts hz h h2 h' h45 h43
        unfold maxLen at hs
        go_enter Tryz.func49, Tryz.ntmps49
        go_wp2_with (go_at_call 44; refine (HR.out _).mono ?_; rintro e w' ⟨rfl, rfl⟩)
        go_ret2
        exact ⟨ret_two (by rw [E1.out]) (by rw [E2.out]), rfl⟩
      · have e1 : decN s.data.toList = (readN 10 M63 s.data.toList : Int) := by unfold decN; rw [if_neg h, if_neg h2]
        have e2 : decE s.data.toList = readE 10 M63 s.data.toList := by unfold decE; rw [if_neg h, if_neg h2]
        generalize readN 10 M63 s.data.toList = x at hr0 e1 hle0
        generalize readE 10 M63 s.data.toList = y at hr0 e2
        have h' : hd 45 s.data.toList = false := by simpa using h
        have h2' : hd 43 s.data.toList = false := by simpa using h2
        rw [h45] at h'
        rw [h43] at h2'
        have hb : ((s[0].toNat : Int) == 45) = false := h'
        have hb2 : ((s[0].toNat : Int) == 43) = false := h2'
        have HR := Lib.hid hr0; have E1 := Lib.hid e1; have E2 := Lib.hid e2; clear hr0 e1 e2 hts hz h h2 h' h2' h45 h43
        unfold maxLen at hs
        go_enter Tryz.func49, Tryz.ntmps49
        go_wp2_with (go_at_call 44; refine (HR.out _).mono ?_; rintro e w' ⟨rfl, rfl⟩)
        go_ret2
        exact ⟨ret_two (by rw [E1.out]) (by rw [E2.out]), rfl⟩
theorem hd_at1 (t : ByteArray) (h : 1 < t.size) (c : UInt8) : hd c t.data.toList.tail = ((t[1].toNat : Int) == (c.toNat : Int)) := by
  have hl : 1 < t.data.toList.length := by rw [← Lib.size_eq]; exact h
  have e : t.data.toList[1] = t[1] := by simp [ByteArray.getElem_eq_getElem_data]
  unfold hd
  rw [List.head?_eq_getElem?, List.getElem?_tail, List.getElem?_eq_getElem hl, e, Bool.eq_iff_iff, beq_iff_eq, beq_iff_eq, Option.some_inj]
  constructor
  · intro hh; rw [hh]
  · intro hh; exact UInt8.toNat_inj.1 (by omega)
theorem tail2_data (s : ByteArray) : (s.extract 2 s.size).data.toList = s.data.toList.tail.tail := by
  rw [Lib.extract_to_end]
  cases s.data.toList with
  | nil => rfl
  | cons a l => cases l <;> rfl
theorem tail2_size (s : ByteArray) : (s.extract 2 s.size).size ≤ s.size := by
  rw [Lib.size_eq, tail2_data, Lib.size_eq, List.length_tail, List.length_tail]; omega
theorem tail_empty (s : ByteArray) (h : s.size < 2) : s.data.toList.tail.isEmpty = true := by
  rw [Lib.size_eq] at h
  rw [List.isEmpty_iff]
  apply List.eq_nil_of_length_eq_zero
  rw [List.length_tail]; omega
theorem tail_full (s : ByteArray) (h : 2 ≤ s.size) : s.data.toList.tail.isEmpty = false := by
  rw [Lib.size_eq] at h
  cases e : s.data.toList.tail with
  | nil => have := congrArg List.length e; rw [List.length_tail, List.length_nil] at this; omega
  | cons _ _ => rfl

set_option maxHeartbeats 400000 in
theorem rconstant_any (s : ByteArray) (w : World) (hs : s.size ≤ maxLen) :
    Calls Tryz.prog 27 #[.string s] w fun e w' => e = .returned (.tuple #[.int .i64 (conN s.data.toList : Int), .int .i64 (conE s.data.toList : Int)]) ∧ ∃ k, w' = w.drewN k := by
  have hr0 := fun w => rdigits_any s 10 9223372036854775807 10 M63 w rfl rfl hs (by omega) (by omega) (by unfold M63; omega) (by omega)
  have hle0 := readN_M63 10 s.data.toList
  by_cases hz : s.size < 2
  · have e1 : conN s.data.toList = readN 10 M63 s.data.toList := by unfold conN; rw [tail_empty s hz]; simp
    have e2 : conE s.data.toList = readE 10 M63 s.data.toList := by unfold conE; rw [tail_empty s hz]; simp
    rw [← e1, ← e2] at hr0
    rw [← e1] at hle0
    have HR := Lib.hid hr0; clear hr0 e1 e2
    have hd0 : decide (2 ≤ s.size) = false := by simp; omega
    unfold maxLen at hs
    go_enter Tryz.func27, Tryz.ntmps27
    go_wp2_with (go_at_call 44; refine (HR.out _).mono ?_; rintro e w' ⟨rfl, rfl⟩)
    go_ret2
    exact ⟨rfl, 0, by rw [World.drewN_zero]⟩
  · have h0 : 0 < s.size := by omega
    have h1 : 1 < s.size := by omega
    have h48 := hd_at s h0 48
    have h120 := hd_at1 s h1 120
    have h88 := hd_at1 s h1 88
    have hte := tail_full s (by omega)
    have hts := tail_size s
    have hts2 := tail2_size s
    have hge : (2 : Int) ≤ (s.size : Int) := by omega
    by_cases h : hd 48 s.data.toList = true
    · by_cases hx : hd 120 s.data.toList.tail = true
      · have hr := fun w => rdigits_any (s.extract 2 s.size) 16 9223372036854775807 16 M63 w rfl rfl (by omega) (by omega) (by omega) (by unfold M63; omega) (by omega)
        rw [tail2_data] at hr
        have hle := readN_M63 16 s.data.toList.tail.tail
        have e1 : conN s.data.toList = readN 16 M63 s.data.toList.tail.tail := by unfold conN; rw [hte, h, hx]; rfl
        have e2 : conE s.data.toList = readE 16 M63 s.data.toList.tail.tail := by unfold conE; rw [hte, h, hx]; rfl
        rw [← e1, ← e2] at hr
        rw [← e1] at hle
        rw [h48] at h
        rw [h120] at hx
        have hb : ((s[0].toNat : Int) == 48) = true := h
        have hb1 : ((s[1].toNat : Int) == 120) = true := hx
        have HR := Lib.hid hr; clear hr hr0 hle0 e1 e2 hts hts2 hz h hx h48 h120 h88 hte
        unfold maxLen at hs
        go_enter Tryz.func27, Tryz.ntmps27
        go_wp2
        go_quiet (fail)
        go_wp2_with (go_at_call 44; refine (HR.out _).mono ?_; rintro e w' ⟨rfl, rfl⟩)
        go_ret2
        exact ⟨rfl, _, rfl⟩
      · have hx' : hd 120 s.data.toList.tail = false := by simpa using hx
        by_cases hX : hd 88 s.data.toList.tail = true
        · have hr := fun w => rdigits_any (s.extract 2 s.size) 16 9223372036854775807 16 M63 w rfl rfl (by omega) (by omega) (by omega) (by unfold M63; omega) (by omega)
          rw [tail2_data] at hr
          have hle := readN_M63 16 s.data.toList.tail.tail
          have e1 : conN s.data.toList = readN 16 M63 s.data.toList.tail.tail := by unfold conN; rw [hte, h, hX]; simp
          have e2 : conE s.data.toList = readE 16 M63 s.data.toList.tail.tail := by unfold conE; rw [hte, h, hX]; simp
          rw [← e1, ← e2] at hr
          rw [← e1] at hle
          rw [h48] at h
          rw [h120] at hx'
          rw [h88] at hX
          have hb : ((s[0].toNat : Int) == 48) = true := h
          have hb1 : ((s[1].toNat : Int) == 120) = false := hx'
          have hb2 : ((s[1].toNat : Int) == 88) = true := hX
          have HR := Lib.hid hr; clear hr hr0 hle0 e1 e2 hts hts2 hz h hx hx' hX h48 h120 h88 hte
          unfold maxLen at hs
          go_enter Tryz.func27, Tryz.ntmps27
          go_wp2
          go_quiet (fail)
          go_wp2_with (go_at_call 44; refine (HR.out _).mono ?_; rintro e w' ⟨rfl, rfl⟩)
          go_ret2
          exact ⟨rfl, _, rfl⟩
        · have hX' : hd 88 s.data.toList.tail = false := by simpa using hX
          have hr := fun w => rdigits_any (s.extract 1 s.size) 8 9223372036854775807 8 M63 w rfl rfl (by omega) (by omega) (by omega) (by unfold M63; omega) (by omega)
          rw [tail_data] at hr
          have hle := readN_M63 8 s.data.toList.tail
          have e1 : conN s.data.toList = readN 8 M63 s.data.toList.tail := by unfold conN; rw [hte, h, hx', hX']; rfl
          have e2 : conE s.data.toList = readE 8 M63 s.data.toList.tail := by unfold conE; rw [hte, h, hx', hX']; rfl
          rw [← e1, ← e2] at hr
          rw [← e1] at hle
          rw [h48] at h
          rw [h120] at hx'
          rw [h88] at hX'
          have hb : ((s[0].toNat : Int) == 48) = true := h
          have hb1 : ((s[1].toNat : Int) == 120) = false := hx'
          have hb2 : ((s[1].toNat : Int) == 88) = false := hX'
          have HR := Lib.hid hr; clear hr hr0 hle0 e1 e2 hts hts2 hz h hx hx' hX hX' h48 h120 h88 hte
          unfold maxLen at hs
          go_enter Tryz.func27, Tryz.ntmps27
          go_wp2
          go_quiet (fail)
          go_wp2_with (go_at_call 44; refine (HR.out _).mono ?_; rintro e w' ⟨rfl, rfl⟩)
          go_ret2
          exact ⟨rfl, _, rfl⟩
    · have h' : hd 48 s.data.toList = false := by simpa using h
      have e1 : conN s.data.toList = readN 10 M63 s.data.toList := by unfold conN; rw [h']; rfl
      have e2 : conE s.data.toList = readE 10 M63 s.data.toList := by unfold conE; rw [h']; rfl
      rw [← e1, ← e2] at hr0
      rw [← e1] at hle0
      rw [h48] at h'
      have hb : ((s[0].toNat : Int) == 48) = false := h'
      have HR := Lib.hid hr0; clear hr0 e1 e2 hts hts2 hz h h' h48 h120 h88 hte
      unfold maxLen at hs
      go_enter Tryz.func27, Tryz.ntmps27
      go_wp2_with (go_at_call 44; refine (HR.out _).mono ?_; rintro e w' ⟨rfl, rfl⟩)
      go_ret2
      exact ⟨rfl, 0, by rw [World.drewN_zero]⟩
end Go.Proofs.YtcadnkanjlmfhaaGreatDoor
namespace Go.Proofs.YtcadnkanjlmfhaaGreatDoor.Ar
open Go.RowKit
open PathM WdM ArM
open Go.Proofs.YtcadnkanjlmfhaaGreatDoor.Wd
open Go.Proofs.YtcadnkanjlmfhaaGreatDoor.NumM (textL)
set_option linter.unusedVariables false

/-- Eval where the model has no error. -/
theorem eval_ok (s : Bs) (vs vs' : Vs) (v : Value) (n : Int) (w : World) (hg : SigIn w) (hv : VaIn w v vs) (hl : s.length ≤ 8192) (h : evalL s vs = .ok (n, vs')) :
    Calls Tryz.prog 7 #[.string (nm s), v] w fun e w' => Below w.heap.size w w' ∧ ∃ v', e = .returned (.tuple #[.int .i64 n, v', .int .i64 0]) ∧ VaIn w' v' vs' := by
  have := eval_any s vs v w hg hv (by omega)
  rw [h] at this
  refine this.mono ?_
  rintro e w' ⟨hb, _, v', he, hv, _⟩
  exact ⟨hb, v', he, hv⟩
theorem grp_len : ∀ k, k < 10 → (grpS.getD k []).length ≤ 8192 := by decide
def grpC : Array Value := #[.string ⟨#[40, 97, 43, 98, 41, 43, 99]⟩, .string ⟨#[97, 43, 40, 99, 43, 98, 41]⟩, .string ⟨#[97, 42, 98, 42, 99]⟩, .string ⟨#[99, 42, 40, 97, 42, 98, 41]⟩, .string ⟨#[97, 42, 40, 98, 43, 99, 41]⟩, .string ⟨#[97, 42, 98, 43, 97, 42, 99]⟩, .string ⟨#[97, 45, 40, 98, 45, 99, 41]⟩, .string ⟨#[97, 45, 98, 43, 99]⟩, .string ⟨#[45, 97]⟩, .string ⟨#[126, 97, 43, 49]⟩]
theorem grpC_at : ∀ k, k < 10 → grpC[k]? = some (.string (nm (grpS.getD k [])))
  | 0, _ => rfl | 1, _ => rfl | 2, _ => rfl | 3, _ => rfl | 4, _ => rfl | 5, _ => rfl | 6, _ => rfl | 7, _ => rfl | 8, _ => rfl | 9, _ => rfl
  | n + 10, h => absurd h (by omega)
/-- Where the variables and the texts lie. -/
def GrQ (w : World) (V3 : Vs) (W : World) : Prop := VaIn W (.slice (some ⟨w.heap.size, 0, none⟩) 3 3) V3 ∧ Below w.heap.size w W ∧ (∀ k, k < 10 → W.cell? ⟨w.heap.size + 1, k, none⟩ = some (.string (nm (grpS.getD k [])))) ∧ w.heap.size < W.heap.size ∧ w.heap.size + 1 < W.heap.size
theorem va_three (W : World) (b : Nat) (x y z : Bs × Bs) (t : TypeId) (h : W.heap[b]? = some (.cells #[.string (nm x.1), .string (nm x.2), .string (nm y.1), .string (nm y.2), .string (nm z.1), .string (nm z.2)] t (0, 0))) (hs : SizesV [x, y, z]) : VaIn W (.slice (some ⟨b, 0, none⟩) 3 3) [x, y, z] := by
  refine ⟨_, 3, rfl, ⟨by simp, hs⟩, fun _ => ⟨b, 0, rfl, fin_at h, ?_⟩⟩
  intro i hi
  match i, hi with
  | 0, _ => exact ⟨cell_blk h 0, cell_blk h 1⟩
  | 1, _ => exact ⟨cell_blk h 2, cell_blk h 3⟩
  | 2, _ => exact ⟨cell_blk h 4, cell_blk h 5⟩
  | n + 3, h => exact absurd h (by simp)
theorem grq_at (w : World) (n : Nat) (a b c : Bs) (ha : a.length ≤ 4611686018427387904) (hb : b.length ≤ 4611686018427387904) (hc : c.length ≤ 4611686018427387904) : GrQ w [([97], a), ([98], b), ([99], c)] (((w.drewN n).alloc (.cells #[.string ⟨#[97]⟩, .string (nm a), .string ⟨#[98]⟩, .string (nm b), .string ⟨#[99]⟩, .string (nm c)] 35)).alloc (.cells grpC 9)) := by
  have h1 := al (w.drewN n) (.cells #[.string ⟨#[97]⟩, .string (nm a), .string ⟨#[98]⟩, .string (nm b), .string ⟨#[99]⟩, .string (nm c)] 35)
  have n1 := heap_alloc_new (w.drewN n) (.cells #[.string ⟨#[97]⟩, .string (nm a), .string ⟨#[98]⟩, .string (nm b), .string ⟨#[99]⟩, .string (nm c)] 35)
  generalize hW1 : (w.drewN n).alloc (.cells #[.string ⟨#[97]⟩, .string (nm a), .string ⟨#[98]⟩, .string (nm b), .string ⟨#[99]⟩, .string (nm c)] 35) = W1 at *
  have hz : W1.heap.size = w.heap.size + 1 := by rw [← hW1, World.size_alloc]; rfl
  have h2 := al W1 (.cells grpC 9)
  have n2 := heap_alloc_new W1 (.cells grpC 9)
  rw [hz] at n2
  have n1' : (W1.alloc (.cells grpC 9)).heap[w.heap.size]? = _ := (h2.block w.heap.size (by omega)).trans n1
  refine ⟨va_three _ _ _ _ _ _ n1' ?_, ?_, ?_, fin_at n1', fin_at n2⟩
  · intro x hx
    simp at hx
    rcases hx with rfl | rfl | rfl
    · exact ⟨by simp, ha⟩
    · exact ⟨by simp, hb⟩
    · exact ⟨by simp, hc⟩
  · have h0 : Below w.heap.size w (w.drewN n) := ⟨rfl, rfl, rfl, Nat.le_refl _, fun _ _ => rfl⟩
    exact (h0.trans h1).trans (h2.mono (by omega))
  · intro k hk
    exact (cell_blk n2 k).trans (grpC_at k hk)
end Go.Proofs.YtcadnkanjlmfhaaGreatDoor.Ar
namespace Go.Proofs.YtcadnkanjlmfhaaGreatDoor.Ar
open Go.RowKit
open PathM WdM ArM
open Go.Proofs.YtcadnkanjlmfhaaGreatDoor.Wd
open Go.Proofs.YtcadnkanjlmfhaaGreatDoor.NumM (textL)
set_option linter.unusedVariables false

theorem lz_len : ∀ k, k < 3 → (lzS.getD k []).length ≤ 8192 := by decide
/-- Eval where the model has an error. -/
theorem eval_bad (s : Bs) (vs : Vs) (v : Value) (er : Int) (w : World) (hg : SigIn w) (hv : VaIn w v vs) (hl : s.length ≤ 8192) (h : evalL s vs = .error er) :
    Calls Tryz.prog 7 #[.string (nm s), v] w fun e w' => Below w.heap.size w w' ∧ e = .returned (.tuple #[.int .i64 0, .slice none 0 0, .int .i64 er]) := by
  have := eval_any s vs v w hg hv (by omega)
  rw [h] at this
  refine this.mono ?_
  rintro e w' ⟨hb, _, he⟩
  exact ⟨hb, he⟩
theorem va_one (W : World) (b : Nat) (x : Bs × Bs) (t : TypeId) (h : W.heap[b]? = some (.cells #[.string (nm x.1), .string (nm x.2)] t (0, 0))) (hs : SizesV [x]) : VaIn W (.slice (some ⟨b, 0, none⟩) 1 1) [x] := by
  refine ⟨_, 1, rfl, ⟨by simp, hs⟩, fun _ => ⟨b, 0, rfl, fin_at h, ?_⟩⟩
  intro i hi
  obtain rfl : i = 0 := by simpa using hi
  exact ⟨cell_blk h 0, cell_blk h 1⟩
def LzQ (w : World) (V : Vs) (W : World) : Prop := VaIn W (.slice (some ⟨w.heap.size, 0, none⟩) 1 1) V ∧ Below w.heap.size w W
theorem lzq_at (w : World) (n : Nat) (a : Bs) (ha : a.length ≤ 4611686018427387904) : LzQ w [([97], a)] ((w.drewN n).alloc (.cells #[.string ⟨#[97]⟩, .string (nm a)] 35)) := by
  have n1 := heap_alloc_new (w.drewN n) (.cells #[.string ⟨#[97]⟩, .string (nm a)] 35)
  have h1 := al (w.drewN n) (.cells #[.string ⟨#[97]⟩, .string (nm a)] 35)
  refine ⟨va_one _ _ ([97], a) _ n1 ?_, ?_⟩
  · intro x hx
    simp at hx
    rw [hx]
    exact ⟨by simp, ha⟩
  · have h0 : Below w.heap.size w (w.drewN n) := ⟨rfl, rfl, rfl, Nat.le_refl _, fun _ _ => rfl⟩
    exact h0.trans h1
end Go.Proofs.YtcadnkanjlmfhaaGreatDoor.Ar
