/- DERIVED. Walks over the document's own answers for layer 1: Base, Text, Decimal, Constant, Mode. -/
import Derived.Test.YtkmfgdflgeajpaaNumRef
import Derived.Deep.QuietTactic
import Derived.BigQuiet
namespace Go.Proofs.Ytkmfgdflgeajpaa
open Go.RowKit
open NumM
set_option linter.unusedVariables false

set_option maxHeartbeats 400000 in
theorem rbase_none (n b : Int) (w : World) (h : b < 2 ∨ 16 < b) :
    Calls Try.prog 12 #[.int .u64 n, .int .i64 b] w fun e w' => e = .returned (.string ⟨#[]⟩) ∧ w = w' := by
  rcases h with h | h
  · go_enter Try.func12, Try.ntmps12
    go_wp2
    go_ret
    exact ⟨rfl, rfl⟩
  · have h2 : ¬ b < 2 := by omega
    go_enter Try.func12, Try.ntmps12
    go_wp2
    go_ret
    exact ⟨rfl, rfl⟩

theorem sig_piece : ∀ i, i < 16 → (⟨#[48, 49, 50, 51, 52, 53, 54, 55, 56, 57, 97, 98, 99, 100, 101, 102]⟩ : ByteArray).extract i (i + 1) = ⟨#[sig i]⟩ := by decide +kernel
theorem sig_cut (i : Nat) (h : i < 16) (x y : Int) (hx : x = (i : Int)) (hy : y = (i : Int) + 1) (W : World) :
    (Instr.slice 9 (.string ⟨#[48, 49, 50, 51, 52, 53, 54, 55, 56, 57, 97, 98, 99, 100, 101, 102]⟩) (some (.int .u64 x)) (some (.int .u64 y)) none).run Try.prog W = .ok (.string ⟨#[sig i]⟩) W := by
  subst hx; subst hy
  rw [run_slice_string W 9 _ .u64 .u64 _ _ Try.underlying9 (by omega) (by omega) (by show (i : Int) + 1 ≤ ((16 : Nat) : Int); omega)]
  rw [show ((i : Int)).toNat = i by omega, show ((i : Int) + 1).toNat = i + 1 by omega]
  rw [sig_piece i h]

theorem cat_run (x y : List UInt8) (h : x.length + y.length ≤ 9223372036854775807) (W : World) :
    (Op.stringOp .add ⟨x.toArray⟩ ⟨y.toArray⟩).run Try.prog W = .ok (.string ⟨(x ++ y).toArray⟩) W := by
  rw [run_string_add_sum W _ _ (by simpa [ByteArray.size] using h)]
  congr 2

set_option maxHeartbeats 400000 in
theorem rbase_nat (b : Nat) (hb : 2 ≤ b) (hb' : b ≤ 16) (n : Nat) : ∀ (w : World), n < 2 ^ 64 →
    Calls Try.prog 12 #[.int .u64 (n : Int), .int .i64 (b : Int)] w fun e w' => e = .returned (.string ⟨(digs b n).toArray⟩) ∧ ∃ k, w' = w.drewN k := by
  have h1 : ¬ (b : Int) < 2 := by omega
  have h2 : ¬ 16 < (b : Int) := by omega
  induction n using digs_ind b hb with
  | h0 n h =>
    intro w hn
    have hnn : (n : Int) ≤ 18446744073709551615 := by omega
    have hm : (n : Int) % (b : Int) = (n : Int) := Int.emod_eq_of_lt (by omega) (by omega)
    have HSL := sig_cut n (by omega) n (n + 1) rfl rfl
    have HE := Lib.hid (digs_lt b n h)
    go_enter Try.func12, Try.ntmps12
    go_wp2
    go_quiet (fail)
    go_wp2
    go_ret
    exact ⟨ret_str (by rw [HE.out]), _, rfl⟩
  | h1 n h ih =>
    intro w hn
    have hnn : (n : Int) ≤ 18446744073709551615 := by omega
    have hmlt : n % b < b := Nat.mod_lt n (by omega)
    have HSL := sig_cut (n % b) (by omega) ((n : Int) % (b : Int)) ((n : Int) % (b : Int) + 1) rfl rfl
    have hm0 : 0 ≤ (n : Int) % (b : Int) := Int.emod_nonneg _ (by omega)
    have hm1 : (n : Int) % (b : Int) + 1 ≤ 18446744073709551615 := by
      have : (n : Int) % (b : Int) = ((n % b : Nat) : Int) := rfl
      omega
    have hdl : n / b < 2 ^ 64 := Nat.lt_of_le_of_lt (Nat.div_le_self _ _) hn
    have hq0 : 0 ≤ (n : Int) / (b : Int) := Int.ediv_nonneg (by omega) (by omega)
    have hq1 : (n : Int) / (b : Int) ≤ 18446744073709551615 := Int.le_trans (Int.ediv_le_self _ (by omega)) hnn
    have hcat := cat_run (digs b (n / b)) [sig (n % b)] (by have := digs_length_le b hb (n / b) hdl; simp; omega)
    rw [← digs_ge b n hb hn h] at hcat
    have hih : ∀ w, Calls Try.prog 12 #[.int .u64 ((n : Int) / (b : Int)), .int .i64 (b : Int)] w fun e w' => e = .returned (.string ⟨(digs b (n / b)).toArray⟩) ∧ ∃ k, w' = w.drewN k := fun w => ih w hdl
    have HI := Lib.hid hih; clear hih ih hdl
    go_enter Try.func12, Try.ntmps12
    go_wp2
    go_quiet (fail)
    clear hm0 hm1 hmlt HSL
    go_wp2_with (go_at_call 12; refine (HI.out _).mono ?_; rintro e w' ⟨rfl, k, rfl⟩)
    go_ret
    exact ⟨rfl, _, rfl⟩
theorem rbase_any (x y : Int) (n b : Nat) (w : World) (hx : x = (n : Int)) (hy : y = (b : Int)) (hb : 2 ≤ b) (hb' : b ≤ 16) (hn : x ≤ 18446744073709551615) :
    Calls Try.prog 12 #[.int .u64 x, .int .i64 y] w fun e w' => e = .returned (.string ⟨(digs b n).toArray⟩) ∧ ∃ k, w' = w.drewN k := by
  subst hx; subst hy; exact rbase_nat b hb hb' n w (by omega)

set_option maxHeartbeats 400000 in
theorem rtext_any (n : Int) (w : World) (h0 : -9223372036854775808 ≤ n) (h1 : n ≤ 9223372036854775807) :
    Calls Try.prog 10 #[.int .i64 n] w fun e w' => e = .returned (.string ⟨(textL n).toArray⟩) ∧ ∃ k, w' = w.drewN k := by
  by_cases h : n < 0
  · have hc := fun w => rbase_any (IntKind.u64.wrap (-IntKind.u64.wrap n)) 10 n.natAbs 10 w (neg_u64 n h0 h) rfl (by omega) (by omega) (by rw [neg_u64 n h0 h]; omega)
    have e : (⟨(textL n).toArray⟩ : ByteArray) = ⟨#[45]⟩ ++ ⟨(digs 10 n.natAbs).toArray⟩ := by unfold textL; rw [if_pos h, dash_append]
    have hcat : ∀ W, (Op.stringOp .add ⟨#[45]⟩ ⟨(digs 10 n.natAbs).toArray⟩).run Try.prog W = .ok (.string ⟨(textL n).toArray⟩) W := fun W => by
      rw [run_string_add_sum W _ _ (digs_sum 10 n.natAbs (by omega) (by omega)), e]
    have HC := Lib.hid hc; clear hc e
    go_enter Try.func10, Try.ntmps10
    go_wp2_with (go_at_call 12; refine (HC.out _).mono ?_; rintro e w' ⟨rfl, hb⟩)
    go_ret
    exact ⟨rfl, hb⟩
  · have hc := fun w => rbase_any n 10 n.natAbs 10 w (by omega) rfl (by omega) (by omega) (by omega)
    have e : (⟨(textL n).toArray⟩ : ByteArray) = ⟨(digs 10 n.natAbs).toArray⟩ := by unfold textL; rw [if_neg h]
    have HC := Lib.hid hc; have HE := Lib.hid e; clear hc e
    have hn0 : 0 ≤ n := by omega
    clear h
    go_enter Try.func10, Try.ntmps10
    go_wp2_with (go_at_call 12; refine (HC.out _).mono ?_; rintro e w' ⟨rfl, hb⟩)
    go_ret
    exact ⟨ret_str (by rw [HE.out]), hb⟩

set_option maxHeartbeats 400000 in
theorem rmode_any (s : ByteArray) (w : World) (hs : s.size ≤ maxLen) :
    Calls Try.prog 19 #[.string s] w fun e w' => e = .returned (.tuple #[.int .i64 (modN s.data.toList : Int), .int .i64 (modE s.data.toList : Int)]) ∧ w = w' := by
  have hL := Lib.size_eq s
  by_cases h : 4 < s.size
  · have e1 : modN s.data.toList = 0 := by unfold modN; rw [if_pos (by omega)]
    have e2 : modE s.data.toList = 40 := by unfold modE; rw [if_pos (by omega)]
    have E1 := Lib.hid e1; have E2 := Lib.hid e2; clear e1 e2 hL
    unfold maxLen at hs
    go_enter Try.func19, Try.ntmps19
    go_wp2
    go_ret2
    exact ⟨ret_two (by rw [E1.out]; rfl) (by rw [E2.out]; rfl), rfl⟩
  · have hr := fun w => rdigits_any s 8 511 8 511 w rfl rfl (by omega) (by omega) (by omega) (by omega) (by omega)
    have e1 : modN s.data.toList = readN 8 511 s.data.toList := by unfold modN; rw [if_neg (by omega)]
    have e2 : modE s.data.toList = readE 8 511 s.data.toList := by unfold modE; rw [if_neg (by omega)]
    have hle := readN_511 s.data.toList
    rw [← e1, ← e2] at hr
    rw [← e1] at hle
    have HR := Lib.hid hr; clear hr e1 e2 hL
    unfold maxLen at hs
    go_enter Try.func19, Try.ntmps19
    go_wp2_with (go_at_call 24; refine (HR.out _).mono ?_; rintro e w' ⟨rfl, rfl⟩)
    go_ret2
    exact ⟨rfl, rfl⟩

theorem hd_nil (c : UInt8) (s : ByteArray) (h : s.size = 0) : hd c s.data.toList = false := by
  rw [Lib.size_eq] at h
  rw [List.eq_nil_of_length_eq_zero h]; rfl

set_option maxHeartbeats 400000 in
theorem rdecimal_any (s : ByteArray) (w : World) (hs : s.size ≤ maxLen) :
    Calls Try.prog 15 #[.string s] w fun e w' => e = .returned (.tuple #[.int .i64 (decN s.data.toList), .int .i64 (decE s.data.toList : Int)]) ∧ w = w' := by
  have hts := tail_size s
  have hr0 := fun w => rdigits_any s 10 9223372036854775807 10 M63 w rfl rfl hs (by omega) (by omega) (by unfold M63; omega) (by omega)
  have hle0 := readN_M63 10 s.data.toList
  by_cases hz : s.size = 0
  · have e1 : decN s.data.toList = (readN 10 M63 s.data.toList : Int) := by unfold decN; rw [hd_nil _ s hz, hd_nil _ s hz]; rfl
    have e2 : decE s.data.toList = readE 10 M63 s.data.toList := by unfold decE; rw [hd_nil _ s hz, hd_nil _ s hz]; rfl
    generalize readN 10 M63 s.data.toList = x at hr0 e1 hle0
    generalize readE 10 M63 s.data.toList = y at hr0 e2
    have hz1 : ¬ (0 < s.size) := by omega
    have hd0 : decide (0 < s.size) = false := by simpa using hz1
    have HR := Lib.hid hr0; have E1 := Lib.hid e1; have E2 := Lib.hid e2; clear hr0 e1 e2 hts hz hz1
    unfold maxLen at hs
    go_enter Try.func15, Try.ntmps15
    go_wp2_with (go_at_call 24; refine (HR.out _).mono ?_; rintro e w' ⟨rfl, rfl⟩)
    go_ret2
    exact ⟨ret_two (by rw [E1.out]) (by rw [E2.out]), rfl⟩
  · have hpos : 0 < s.size := by omega
    have h45 := hd_at s hpos 45
    have h43 := hd_at s hpos 43
    by_cases h : hd 45 s.data.toList = true
    · have hr := fun w => rdigits_any (s.extract 1 s.size) 10 9223372036854775808 10 P63 w rfl rfl (by omega) (by omega) (by omega) (by unfold P63; omega) (by omega)
      rw [tail_data] at hr
      have e1 : decN s.data.toList = -(readN 10 P63 s.data.toList.tail : Int) := by unfold decN; rw [if_pos h]
      have e2 : decE s.data.toList = readE 10 P63 s.data.toList.tail := by unfold decE; rw [if_pos h]
      have hle := readN_P63 10 s.data.toList.tail
      generalize readN 10 P63 s.data.toList.tail = x at hr e1 hle
      generalize readE 10 P63 s.data.toList.tail = y at hr e2
      rw [h45] at h
      have hb : ((s[0].toNat : Int) == 45) = true := h
      have HR := Lib.hid hr; have E1 := Lib.hid e1; have E2 := Lib.hid e2; clear hr hr0 hle0 e1 e2 hts hz h h45 h43
      unfold maxLen at hs
      go_enter Try.func15, Try.ntmps15
      go_wp2_with (go_at_call 24; refine (HR.out _).mono ?_; rintro e w' ⟨rfl, rfl⟩)
      go_ret2
      exact ⟨ret_two (by rw [E1.out]; exact neg_wrap x hle) (by rw [E2.out]), rfl⟩
    · by_cases h2 : hd 43 s.data.toList = true
      · have hr := fun w => rdigits_any (s.extract 1 s.size) 10 9223372036854775807 10 M63 w rfl rfl (by omega) (by omega) (by omega) (by unfold M63; omega) (by omega)
        rw [tail_data] at hr
        have e1 : decN s.data.toList = (readN 10 M63 s.data.toList.tail : Int) := by unfold decN; rw [if_neg h, if_pos h2]
        have e2 : decE s.data.toList = readE 10 M63 s.data.toList.tail := by unfold decE; rw [if_neg h, if_pos h2]
        have hle := readN_M63 10 s.data.toList.tail
        generalize readN 10 M63 s.data.toList.tail = x at hr e1 hle
        generalize readE 10 M63 s.data.toList.tail = y at hr e2
        have h' : hd 45 s.data.toList = false := by simpa using h
        rw [h45] at h'
        rw [h43] at h2
        have hb : ((s[0].toNat : Int) == 45) = false := h'
        have hb2 : ((s[0].toNat : Int) == 43) = true := h2
        have HR := Lib.hid hr; have E1 := Lib.hid e1; have E2 := Lib.hid e2; clear hr hr0 hle0 e1 e2 hts hz h h2 h' h45 h43
        unfold maxLen at hs
        go_enter Try.func15, Try.ntmps15
        go_wp2_with (go_at_call 24; refine (HR.out _).mono ?_; rintro e w' ⟨rfl, rfl⟩)
        go_ret2
        exact ⟨ret_two (by rw [E1.out]) (by rw [E2.out]), rfl⟩
      · have e1 : decN s.data.toList = (readN 10 M63 s.data.toList : Int) := by unfold decN; rw [if_neg h, if_neg h2]
        have e2 : decE s.data.toList = readE 10 M63 s.data.toList := by unfold decE; rw [if_neg h, if_neg h2]
        generalize readN 10 M63 s.data.toList = x at hr0 e1 hle0
        generalize readE 10 M63 s.data.toList = y at hr0 e2
        have h' : hd 45 s.data.toList = false := by simpa using h
        have h2' : hd 43 s.data.toList = false := by simpa using h2
        rw [h45] at h'
        rw [h43] at h2'
        have hb : ((s[0].toNat : Int) == 45) = false := h'
        have hb2 : ((s[0].toNat : Int) == 43) = false := h2'
        have HR := Lib.hid hr0; have E1 := Lib.hid e1; have E2 := Lib.hid e2; clear hr0 e1 e2 hts hz h h2 h' h2' h45 h43
        unfold maxLen at hs
        go_enter Try.func15, Try.ntmps15
        go_wp2_with (go_at_call 24; refine (HR.out _).mono ?_; rintro e w' ⟨rfl, rfl⟩)
        go_ret2
        exact ⟨ret_two (by rw [E1.out]) (by rw [E2.out]), rfl⟩
theorem hd_at1 (t : ByteArray) (h : 1 < t.size) (c : UInt8) : hd c t.data.toList.tail = ((t[1].toNat : Int) == (c.toNat : Int)) := by
  have hl : 1 < t.data.toList.length := by rw [← Lib.size_eq]; exact h
  have e : t.data.toList[1] = t[1] := by simp [ByteArray.getElem_eq_getElem_data]
  unfold hd
  rw [List.head?_eq_getElem?, List.getElem?_tail, List.getElem?_eq_getElem hl, e, Bool.eq_iff_iff, beq_iff_eq, beq_iff_eq, Option.some_inj]
  constructor
  · intro hh; rw [hh]
  · intro hh; exact UInt8.toNat_inj.1 (by omega)
theorem tail2_data (s : ByteArray) : (s.extract 2 s.size).data.toList = s.data.toList.tail.tail := by
  rw [Lib.extract_to_end]
  cases s.data.toList with
  | nil => rfl
  | cons a l => cases l <;> rfl
theorem tail2_size (s : ByteArray) : (s.extract 2 s.size).size ≤ s.size := by
  rw [Lib.size_eq, tail2_data, Lib.size_eq, List.length_tail, List.length_tail]; omega
theorem tail_empty (s : ByteArray) (h : s.size < 2) : s.data.toList.tail.isEmpty = true := by
  rw [Lib.size_eq] at h
  rw [List.isEmpty_iff]
  apply List.eq_nil_of_length_eq_zero
  rw [List.length_tail]; omega
theorem tail_full (s : ByteArray) (h : 2 ≤ s.size) : s.data.toList.tail.isEmpty = false := by
  rw [Lib.size_eq] at h
  cases e : s.data.toList.tail with
  | nil => have := congrArg List.length e; rw [List.length_tail, List.length_nil] at this; omega
  | cons _ _ => rfl

set_option maxHeartbeats 400000 in
theorem rconstant_any (s : ByteArray) (w : World) (hs : s.size ≤ maxLen) :
    Calls Try.prog 17 #[.string s] w fun e w' => e = .returned (.tuple #[.int .i64 (conN s.data.toList : Int), .int .i64 (conE s.data.toList : Int)]) ∧ ∃ k, w' = w.drewN k := by
  have hr0 := fun w => rdigits_any s 10 9223372036854775807 10 M63 w rfl rfl hs (by omega) (by omega) (by unfold M63; omega) (by omega)
  have hle0 := readN_M63 10 s.data.toList
  by_cases hz : s.size < 2
  · have e1 : conN s.data.toList = readN 10 M63 s.data.toList := by unfold conN; rw [tail_empty s hz]; simp
    have e2 : conE s.data.toList = readE 10 M63 s.data.toList := by unfold conE; rw [tail_empty s hz]; simp
    rw [← e1, ← e2] at hr0
    rw [← e1] at hle0
    have HR := Lib.hid hr0; clear hr0 e1 e2
    have hd0 : decide (2 ≤ s.size) = false := by simp; omega
    unfold maxLen at hs
    go_enter Try.func17, Try.ntmps17
    go_wp2_with (go_at_call 24; refine (HR.out _).mono ?_; rintro e w' ⟨rfl, rfl⟩)
    go_ret2
    exact ⟨rfl, 0, by rw [World.drewN_zero]⟩
  · have h0 : 0 < s.size := by omega
    have h1 : 1 < s.size := by omega
    have h48 := hd_at s h0 48
    have h120 := hd_at1 s h1 120
    have h88 := hd_at1 s h1 88
    have hte := tail_full s (by omega)
    have hts := tail_size s
    have hts2 := tail2_size s
    have hge : (2 : Int) ≤ (s.size : Int) := by omega
    by_cases h : hd 48 s.data.toList = true
    · by_cases hx : hd 120 s.data.toList.tail = true
      · have hr := fun w => rdigits_any (s.extract 2 s.size) 16 9223372036854775807 16 M63 w rfl rfl (by omega) (by omega) (by omega) (by unfold M63; omega) (by omega)
        rw [tail2_data] at hr
        have hle := readN_M63 16 s.data.toList.tail.tail
        have e1 : conN s.data.toList = readN 16 M63 s.data.toList.tail.tail := by unfold conN; rw [hte, h, hx]; rfl
        have e2 : conE s.data.toList = readE 16 M63 s.data.toList.tail.tail := by unfold conE; rw [hte, h, hx]; rfl
        rw [← e1, ← e2] at hr
        rw [← e1] at hle
        rw [h48] at h
        rw [h120] at hx
        have hb : ((s[0].toNat : Int) == 48) = true := h
        have hb1 : ((s[1].toNat : Int) == 120) = true := hx
        have HR := Lib.hid hr; clear hr hr0 hle0 e1 e2 hts hts2 hz h hx h48 h120 h88 hte
        unfold maxLen at hs
        go_enter Try.func17, Try.ntmps17
        go_wp2
        go_quiet (fail)
        go_wp2_with (go_at_call 24; refine (HR.out _).mono ?_; rintro e w' ⟨rfl, rfl⟩)
        go_ret2
        exact ⟨rfl, _, rfl⟩
      · have hx' : hd 120 s.data.toList.tail = false := by simpa using hx
        by_cases hX : hd 88 s.data.toList.tail = true
        · have hr := fun w => rdigits_any (s.extract 2 s.size) 16 9223372036854775807 16 M63 w rfl rfl (by omega) (by omega) (by omega) (by unfold M63; omega) (by omega)
          rw [tail2_data] at hr
          have hle := readN_M63 16 s.data.toList.tail.tail
          have e1 : conN s.data.toList = readN 16 M63 s.data.toList.tail.tail := by unfold conN; rw [hte, h, hX]; simp
          have e2 : conE s.data.toList = readE 16 M63 s.data.toList.tail.tail := by unfold conE; rw [hte, h, hX]; simp
          rw [← e1, ← e2] at hr
          rw [← e1] at hle
          rw [h48] at h
          rw [h120] at hx'
          rw [h88] at hX
          have hb : ((s[0].toNat : Int) == 48) = true := h
          have hb1 : ((s[1].toNat : Int) == 120) = false := hx'
          have hb2 : ((s[1].toNat : Int) == 88) = true := hX
          have HR := Lib.hid hr; clear hr hr0 hle0 e1 e2 hts hts2 hz h hx hx' hX h48 h120 h88 hte
          unfold maxLen at hs
          go_enter Try.func17, Try.ntmps17
          go_wp2
          go_quiet (fail)
          go_wp2_with (go_at_call 24; refine (HR.out _).mono ?_; rintro e w' ⟨rfl, rfl⟩)
          go_ret2
          exact ⟨rfl, _, rfl⟩
        · have hX' : hd 88 s.data.toList.tail = false := by simpa using hX
          have hr := fun w => rdigits_any (s.extract 1 s.size) 8 9223372036854775807 8 M63 w rfl rfl (by omega) (by omega) (by omega) (by unfold M63; omega) (by omega)
          rw [tail_data] at hr
          have hle := readN_M63 8 s.data.toList.tail
          have e1 : conN s.data.toList = readN 8 M63 s.data.toList.tail := by unfold conN; rw [hte, h, hx', hX']; rfl
          have e2 : conE s.data.toList = readE 8 M63 s.data.toList.tail := by unfold conE; rw [hte, h, hx', hX']; rfl
          rw [← e1, ← e2] at hr
          rw [← e1] at hle
          rw [h48] at h
          rw [h120] at hx'
          rw [h88] at hX'
          have hb : ((s[0].toNat : Int) == 48) = true := h
          have hb1 : ((s[1].toNat : Int) == 120) = false := hx'
          have hb2 : ((s[1].toNat : Int) == 88) = false := hX'
          have HR := Lib.hid hr; clear hr hr0 hle0 e1 e2 hts hts2 hz h hx hx' hX hX' h48 h120 h88 hte
          unfold maxLen at hs
          go_enter Try.func17, Try.ntmps17
          go_wp2
          go_quiet (fail)
          go_wp2_with (go_at_call 24; refine (HR.out _).mono ?_; rintro e w' ⟨rfl, rfl⟩)
          go_ret2
          exact ⟨rfl, _, rfl⟩
    · have h' : hd 48 s.data.toList = false := by simpa using h
      have e1 : conN s.data.toList = readN 10 M63 s.data.toList := by unfold conN; rw [h']; rfl
      have e2 : conE s.data.toList = readE 10 M63 s.data.toList := by unfold conE; rw [h']; rfl
      rw [← e1, ← e2] at hr0
      rw [← e1] at hle0
      rw [h48] at h'
      have hb : ((s[0].toNat : Int) == 48) = false := h'
      have HR := Lib.hid hr0; clear hr0 e1 e2 hts hts2 hz h h' h48 h120 h88 hte
      unfold maxLen at hs
      go_enter Try.func17, Try.ntmps17
      go_wp2_with (go_at_call 24; refine (HR.out _).mono ?_; rintro e w' ⟨rfl, rfl⟩)
      go_ret2
      exact ⟨rfl, 0, by rw [World.drewN_zero]⟩
end Go.Proofs.Ytkmfgdflgeajpaa
