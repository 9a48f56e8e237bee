/- DERIVED. Walks over the document's own answers for layer 1: Base, Text, Decimal, Constant, Mode. -/
import Derived.Test.YtdegkfnlafgheaaNumRef
import Derived.Deep.QuietTactic
import Derived.BigQuiet
namespace Go.Proofs.Ytdegkfnlafgheaa
open Go.RowKit
open NumM
set_option linter.unusedVariables false

set_option maxHeartbeats 400000 in
theorem rbase_none (n b : Int) (w : World) (h : b < 2 ∨ 16 < b) :
    Calls Try.prog 58 #[.int .u64 n, .int .i64 b] w fun e w' => e = .returned (.string ⟨#[]⟩) ∧ w = w' := by
  rcases h with h | h
  · go_enter Try.func58, Try.ntmps58
    go_wp2
    go_ret
    exact ⟨rfl, rfl⟩
  · have h2 : ¬ b < 2 := by omega
    go_enter Try.func58, Try.ntmps58
    go_wp2
    go_ret
    exact ⟨rfl, rfl⟩

theorem sig_piece : ∀ i, i < 16 → (⟨#[48, 49, 50, 51, 52, 53, 54, 55, 56, 57, 97, 98, 99, 100, 101, 102]⟩ : ByteArray).extract i (i + 1) = ⟨#[sig i]⟩ := by decide +kernel
theorem sig_cut (i : Nat) (h : i < 16) (x y : Int) (hx : x = (i : Int)) (hy : y = (i : Int) + 1) (W : World) :
    (Instr.slice 9 (.string ⟨#[48, 49, 50, 51, 52, 53, 54, 55, 56, 57, 97, 98, 99, 100, 101, 102]⟩) (some (.int .u64 x)) (some (.int .u64 y)) none).run Try.prog W = .ok (.string ⟨#[sig i]⟩) W := by
  subst hx; subst hy
  rw [run_slice_string W 9 _ .u64 .u64 _ _ Try.underlying9 (by omega) (by omega) (by show (i : Int) + 1 ≤ ((16 : Nat) : Int); omega)]
  rw [show ((i : Int)).toNat = i by omega, show ((i : Int) + 1).toNat = i + 1 by omega]
  rw [sig_piece i h]

theorem cat_run (x y : List UInt8) (h : x.length + y.length ≤ 9223372036854775807) (W : World) :
    (Op.stringOp .add ⟨x.toArray⟩ ⟨y.toArray⟩).run Try.prog W = .ok (.string ⟨(x ++ y).toArray⟩) W := by
  rw [run_string_add_sum W _ _ (by simpa [ByteArray.size] using h)]
  congr 2

set_option maxHeartbeats 400000 in
theorem rbase_nat (b : Nat) (hb : 2 ≤ b) (hb' : b ≤ 16) (n : Nat) : ∀ (w : World), n < 2 ^ 64 →
    Calls Try.prog 58 #[.int .u64 (n : Int), .int .i64 (b : Int)] w fun e w' => e = .returned (.string ⟨(digs b n).toArray⟩) ∧ ∃ k, w' = w.drewN k := by
  have h1 : ¬ (b : Int) < 2 := by omega
  have h2 : ¬ 16 < (b : Int) := by omega
  induction n using digs_ind b hb with
  | h0 n h =>
    intro w hn
    have hnn : (n : Int) ≤ 18446744073709551615 := by omega
    have hm : (n : Int) % (b : Int) = (n : Int) := Int.emod_eq_of_lt (by omega) (by omega)
    have HSL := sig_cut n (by omega) n (n + 1) rfl rfl
    have HE := Lib.hid (digs_lt b n h)
    go_enter Try.func58, Try.ntmps58
    go_wp2
    go_quiet (fail)
    go_wp2
    go_ret
    exact ⟨ret_str (by rw [HE.out]), _, rfl⟩
  | h1 n h ih =>
    intro w hn
    have hnn : (n : Int) ≤ 18446744073709551615 := by omega
    have hmlt : n % b < b := Nat.mod_lt n (by omega)
    have HSL := sig_cut (n % b) (by omega) ((n : Int) % (b : Int)) ((n : Int) % (b : Int) + 1) rfl rfl
    have hm0 : 0 ≤ (n : Int) % (b : Int) := Int.emod_nonneg _ (by omega)
    have hm1 : (n : Int) % (b : Int) + 1 ≤ 18446744073709551615 := by
      have : (n : Int) % (b : Int) = ((n % b : Nat) : Int) := rfl
      omega
    have hdl : n / b < 2 ^ 64 := Nat.lt_of_le_of_lt (Nat.div_le_self _ _) hn
    have hq0 : 0 ≤ (n : Int) / (b : Int) := Int.ediv_nonneg (by omega) (by omega)
    have hq1 : (n : Int) / (b : Int) ≤ 18446744073709551615 := Int.le_trans (Int.ediv_le_self _ (by omega)) hnn
    have hcat := cat_run (digs b (n / b)) [sig (n % b)] (by have := digs_length_le b hb (n / b) hdl; simp; omega)
    rw [← digs_ge b n hb hn h] at hcat
    have hih : ∀ w, Calls Try.prog 58 #[.int .u64 ((n : Int) / (b : Int)), .int .i64 (b : Int)] w fun e w' => e = .returned (.string ⟨(digs b (n / b)).toArray⟩) ∧ ∃ k, w' = w.drewN k := fun w => ih w hdl
    have HI := Lib.hid hih; clear hih ih hdl
    go_enter Try.func58, Try.ntmps58
    go_wp2
    go_quiet (fail)
    clear hm0 hm1 hmlt HSL
    go_wp2_with (go_at_call 58; refine (HI.out _).mono ?_; rintro e w' ⟨rfl, k, rfl⟩)
    go_ret
    exact ⟨rfl, _, rfl⟩
theorem rbase_any (x y : Int) (n b : Nat) (w : World) (hx : x = (n : Int)) (hy : y = (b : Int)) (hb : 2 ≤ b) (hb' : b ≤ 16) (hn : x ≤ 18446744073709551615) :
    Calls Try.prog 58 #[.int .u64 x, .int .i64 y] w fun e w' => e = .returned (.string ⟨(digs b n).toArray⟩) ∧ ∃ k, w' = w.drewN k := by
  subst hx; subst hy; exact rbase_nat b hb hb' n w (by omega)

set_option maxHeartbeats 400000 in
theorem rtext_any (n : Int) (w : World) (h0 : -9223372036854775808 ≤ n) (h1 : n ≤ 9223372036854775807) :
    Calls Try.prog 37 #[.int .i64 n] w fun e w' => e = .returned (.string ⟨(textL n).toArray⟩) ∧ ∃ k, w' = w.drewN k := by
  by_cases h : n < 0
  · have hc := fun w => rbase_any (IntKind.u64.wrap (-IntKind.u64.wrap n)) 10 n.natAbs 10 w (neg_u64 n h0 h) rfl (by omega) (by omega) (by rw [neg_u64 n h0 h]; omega)
    have e : (⟨(textL n).toArray⟩ : ByteArray) = ⟨#[45]⟩ ++ ⟨(digs 10 n.natAbs).toArray⟩ := by unfold textL; rw [if_pos h, dash_append]
    have hcat : ∀ W, (Op.stringOp .add ⟨#[45]⟩ ⟨(digs 10 n.natAbs).toArray⟩).run Try.prog W = .ok (.string ⟨(textL n).toArray⟩) W := fun W => by
      rw [run_string_add_sum W _ _ (digs_sum 10 n.natAbs (by omega) (by omega)), e]
    have HC := Lib.hid hc; clear hc e
    go_enter Try.func37, Try.ntmps37
    go_wp2_with (go_at_call 58; refine (HC.out _).mono ?_; rintro e w' ⟨rfl, hb⟩)
    go_ret
    exact ⟨rfl, hb⟩
  · have hc := fun w => rbase_any n 10 n.natAbs 10 w (by omega) rfl (by omega) (by omega) (by omega)
    have e : (⟨(textL n).toArray⟩ : ByteArray) = ⟨(digs 10 n.natAbs).toArray⟩ := by unfold textL; rw [if_neg h]
    have HC := Lib.hid hc; have HE := Lib.hid e; clear hc e
    have hn0 : 0 ≤ n := by omega
    clear h
    go_enter Try.func37, Try.ntmps37
    go_wp2_with (go_at_call 58; refine (HC.out _).mono ?_; rintro e w' ⟨rfl, hb⟩)
    go_ret
    exact ⟨ret_str (by rw [HE.out]), hb⟩

theorem hd_nil (c : UInt8) (s : ByteArray) (h : s.size = 0) : hd c s.data.toList = false := by
  rw [Lib.size_eq] at h
  rw [List.eq_nil_of_length_eq_zero h]; rfl

set_option maxHeartbeats 400000 in
theorem rdecimal_any (s : ByteArray) (w : World) (hs : s.size ≤ maxLen) :
    Calls Try.prog 40 #[.string s] w fun e w' => e = .returned (.tuple #[.int .i64 (decN s.data.toList), .int .i64 (decE s.data.toList : Int)]) ∧ w = w' := by
  have hts := tail_size s
  have hr0 := fun w => rdigits_any s 10 9223372036854775807 10 M63 w rfl rfl hs (by omega) (by omega) (by unfold M63; omega) (by omega)
  have hle0 := readN_M63 10 s.data.toList
  by_cases hz : s.size = 0
  · have e1 : decN s.data.toList = (readN 10 M63 s.data.toList : Int) := by unfold decN; rw [hd_nil _ s hz, hd_nil _ s hz]; rfl
    have e2 : decE s.data.toList = readE 10 M63 s.data.toList := by unfold decE; rw [hd_nil _ s hz, hd_nil _ s hz]; rfl
    generalize readN 10 M63 s.data.toList = x at hr0 e1 hle0
    generalize readE 10 M63 s.data.toList = y at hr0 e2
    have hz1 : ¬ (0 < s.size) := by omega
    have hd0 : decide (0 < s.size) = false := by simpa using hz1
    have HR := Lib.hid hr0; have E1 := Lib.hid e1; have E2 := Lib.hid e2; clear hr0 e1 e2 hts hz hz1
    unfold maxLen at hs
    go_enter Try.func40, Try.ntmps40
    go_wp2_with (go_at_call 59; refine (HR.out _).mono ?_; rintro e w' ⟨rfl, rfl⟩)
    go_ret2
    exact ⟨ret_two (by rw [E1.out]) (by rw [E2.out]), rfl⟩
  · have hpos : 0 < s.size := by omega
    have h45 := hd_at s hpos 45
    have h43 := hd_at s hpos 43
    by_cases h : hd 45 s.data.toList = true
    · have hr := fun w => rdigits_any (s.extract 1 s.size) 10 9223372036854775808 10 P63 w rfl rfl (by omega) (by omega) (by omega) (by unfold P63; omega) (by omega)
      rw [tail_data] at hr
      have e1 : decN s.data.toList = -(readN 10 P63 s.data.toList.tail : Int) := by unfold decN; rw [if_pos h]
      have e2 : decE s.data.toList = readE 10 P63 s.data.toList.tail := by unfold decE; rw [if_pos h]
      have hle := readN_P63 10 s.data.toList.tail
      generalize readN 10 P63 s.data.toList.tail = x at hr e1 hle
      generalize readE 10 P63 s.data.toList.tail = y at hr e2
      rw [h45] at h
      have hb : ((s[0].toNat : Int) == 45) = true := h
      have HR := Lib.hid hr; have E1 := Lib.hid e1; have E2 := Lib.hid e2; clear hr hr0 hle0 e1 e2 hts hz h h45 h43
      unfold maxLen at hs
      go_enter Try.func40, Try.ntmps40
      go_wp2_with (go_at_call 59; refine (HR.out _).mono ?_; rintro e w' ⟨rfl, rfl⟩)
      go_ret2
      exact ⟨ret_two (by rw [E1.out]; exact neg_wrap x hle) (by rw [E2.out]), rfl⟩
    · by_cases h2 : hd 43 s.data.toList = true
      · have hr := fun w => rdigits_any (s.extract 1 s.size) 10 9223372036854775807 10 M63 w rfl rfl (by omega) (by omega) (by omega) (by unfold M63; omega) (by omega)
        rw [tail_data] at hr
        have e1 : decN s.data.toList = (readN 10 M63 s.data.toList.tail : Int) := by unfold decN; rw [if_neg h, if_pos h2]
        have e2 : decE s.data.toList = readE 10 M63 s.data.toList.tail := by unfold decE; rw [if_neg h, if_pos h2]
        have hle := readN_M63 10 s.data.toList.tail
        generalize readN 10 M63 s.data.toList.tail = x at hr e1 hle
        generalize readE 10 M63 s.data.toList.tail = y at hr e2
        have h' : hd 45 s.data.toList = false := by simpa using h
        rw [h45] at h'
        rw [h43] at h2
        have hb : ((s[0].toNat : Int) == 45) = false := h'
        have hb2 : ((s[0].toNat : Int) == 43) = true := h2
        have HR := Lib.hid hr; have E1 := Lib.hid e1; have E2 := Lib.hid e2; clear hr hr0 hle0 e1 e2 hts hz h h2 h' h45 h43
        unfold maxLen at hs
        go_enter Try.func40, Try.ntmps40
        go_wp2_with (go_at_call 59; refine (HR.out _).mono ?_; rintro e w' ⟨rfl, rfl⟩)
        go_ret2
        exact ⟨ret_two (by rw [E1.out]) (by rw [E2.out]), rfl⟩
      · have e1 : decN s.data.toList = (readN 10 M63 s.data.toList : Int) := by unfold decN; rw [if_neg h, if_neg h2]
        have e2 : decE s.data.toList = readE 10 M63 s.data.toList := by unfold decE; rw [if_neg h, if_neg h2]
        generalize readN 10 M63 s.data.toList = x at hr0 e1 hle0
        generalize readE 10 M63 s.data.toList = y at hr0 e2
        have h' : hd 45 s.data.toList = false := by simpa using h
        have h2' : hd 43 s.data.toList = false := by simpa using h2
        rw [h45] at h'
        rw [h43] at h2'
        have hb : ((s[0].toNat : Int) == 45) = false := h'
        have hb2 : ((s[0].toNat : Int) == 43) = false := h2'
        have HR := Lib.hid hr0; have E1 := Lib.hid e1; have E2 := Lib.hid e2; clear hr0 e1 e2 hts hz h h2 h' h2' h45 h43
        unfold maxLen at hs
        go_enter Try.func40, Try.ntmps40
        go_wp2_with (go_at_call 59; refine (HR.out _).mono ?_; rintro e w' ⟨rfl, rfl⟩)
        go_ret2
        exact ⟨ret_two (by rw [E1.out]) (by rw [E2.out]), rfl⟩
theorem hd_at1 (t : ByteArray) (h : 1 < t.size) (c : UInt8) : hd c t.data.toList.tail = ((t[1].toNat : Int) == (c.toNat : Int)) := by
  have hl : 1 < t.data.toList.length := by rw [← Lib.size_eq]; exact h
  have e : t.data.toList[1] = t[1] := by simp [ByteArray.getElem_eq_getElem_data]
  unfold hd
  rw [List.head?_eq_getElem?, List.getElem?_tail, List.getElem?_eq_getElem hl, e, Bool.eq_iff_iff, beq_iff_eq, beq_iff_eq, Option.some_inj]
  constructor
  · intro hh; rw [hh]
  · intro hh; exact UInt8.toNat_inj.1 (by omega)
theorem tail2_data (s : ByteArray) : (s.extract 2 s.size).data.toList = s.data.toList.tail.tail := by
  rw [Lib.extract_to_end]
  cases s.data.toList with
  | nil => rfl
  | cons a l => cases l <;> rfl
theorem tail2_size (s : ByteArray) : (s.extract 2 s.size).size ≤ s.size := by
  rw [Lib.size_eq, tail2_data, Lib.size_eq, List.length_tail, List.length_tail]; omega
theorem tail_empty (s : ByteArray) (h : s.size < 2) : s.data.toList.tail.isEmpty = true := by
  rw [Lib.size_eq] at h
  rw [List.isEmpty_iff]
  apply List.eq_nil_of_length_eq_zero
  rw [List.length_tail]; omega
theorem tail_full (s : ByteArray) (h : 2 ≤ s.size) : s.data.toList.tail.isEmpty = false := by
  rw [Lib.size_eq] at h
  cases e : s.data.toList.tail with
  | nil => have := congrArg List.length e; rw [List.length_tail, List.length_nil] at this; omega
  | cons _ _ => rfl

end Go.Proofs.Ytdegkfnlafgheaa
