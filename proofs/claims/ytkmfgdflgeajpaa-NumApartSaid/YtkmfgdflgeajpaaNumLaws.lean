/- DERIVED. Walks over the laws of layer 1. -/
import Derived.Test.YtkmfgdflgeajpaaNumRef2
import Derived.Test.YtkmfgdflgeajpaaNumMath2
namespace Go.Proofs.Ytkmfgdflgeajpaa
open Go.RowKit
open NumM
set_option linter.unusedVariables false

theorem below_drewN' {B : Nat} {a w : World} (h : Below B a w) (n : Nat) : Below B a (w.drewN n) := ⟨h.os, h.tape, h.output, h.size, h.block⟩

set_option maxHeartbeats 1000000 in
theorem awake_any (w : World) :
    Calls Try.prog 13 #[] w fun e w' => e = .returned (.bool true) ∧ Below w.heap.size w w' := by
  have a1 := fun w => constant_any ⟨#[48, 49, 48]⟩ w (by show 3 ≤ maxLen; unfold maxLen; omega)
  have a2 := fun w => constant_any ⟨#[48, 120, 49, 70]⟩ w (by show 4 ≤ maxLen; unfold maxLen; omega)
  have a3 := fun w => constant_any ⟨#[48, 56]⟩ w (by show 2 ≤ maxLen; unfold maxLen; omega)
  have a4 := fun w => mode_any ⟨#[48, 54, 52, 52]⟩ w (by show 4 ≤ maxLen; unfold maxLen; omega)
  have a5 := fun w => mode_any ⟨#[49, 48, 48, 48]⟩ w (by show 4 ≤ maxLen; unfold maxLen; omega)
  have a6 := fun w => text_any (-5) w (by omega) (by omega)
  rw [show conN (⟨#[48, 49, 48]⟩ : ByteArray).data.toList = 8 by decide +kernel, show conE (⟨#[48, 49, 48]⟩ : ByteArray).data.toList = 0 by decide +kernel] at a1
  rw [show conN (⟨#[48, 120, 49, 70]⟩ : ByteArray).data.toList = 31 by decide +kernel, show conE (⟨#[48, 120, 49, 70]⟩ : ByteArray).data.toList = 0 by decide +kernel] at a2
  rw [show conE (⟨#[48, 56]⟩ : ByteArray).data.toList = 40 by decide +kernel] at a3
  rw [show modN (⟨#[48, 54, 52, 52]⟩ : ByteArray).data.toList = 420 by decide +kernel, show modE (⟨#[48, 54, 52, 52]⟩ : ByteArray).data.toList = 0 by decide +kernel] at a4
  rw [show modE (⟨#[49, 48, 48, 48]⟩ : ByteArray).data.toList = 41 by decide +kernel] at a5
  rw [show (⟨(textL (-5)).toArray⟩ : ByteArray) = ⟨#[45, 53]⟩ by decide +kernel] at a6
  have A1 := Lib.hid a1; have A2 := Lib.hid a2; have A3 := Lib.hid a3; have A4 := Lib.hid a4; have A5 := Lib.hid a5; have A6 := Lib.hid a6
  clear a1 a2 a3 a4 a5 a6
  go_enter Try.func13, Try.ntmps13
  go_wp2_with fail
  refine (A1.out _).mono ?_
  rintro e w' ⟨rfl, rfl⟩
  go_wp2_with fail
  refine (A2.out _).mono ?_
  rintro e w' ⟨rfl, rfl⟩
  go_wp2_with fail
  refine (A3.out _).mono ?_
  rintro e w' ⟨rfl, rfl⟩
  go_wp2_with fail
  refine (A4.out _).mono ?_
  rintro e w' ⟨rfl, rfl⟩
  go_wp2_with fail
  refine (A5.out _).mono ?_
  rintro e w' ⟨rfl, rfl⟩
  go_wp2_with fail
  refine (A6.out _).mono ?_
  rintro e w' ⟨rfl, hb⟩
  go_wp2_with fail
  go_ret
  exact ⟨rfl, hb⟩

set_option maxHeartbeats 1000000 in
theorem numdecimals_law (s : ByteArray) (w : World) (hs : s.size ≤ maxLen) :
    Calls Try.prog 4 #[.string s] w fun e w' => e = .returned (.bool true) ∧ Below w.heap.size w w' := by
  have a1 := fun w => decimal_any s w hs
  have a2 := fun w => rdecimal_any s w hs
  generalize decN s.data.toList = x at a1 a2
  generalize decE s.data.toList = y at a1 a2
  have A1 := Lib.hid a1; have A2 := Lib.hid a2; clear a1 a2
  go_enter Try.func4, Try.ntmps4
  go_wp2_with fail
  refine (A1.out _).mono ?_
  rintro e w' ⟨rfl, rfl⟩
  go_wp2_with fail
  refine (A2.out _).mono ?_
  rintro e w' ⟨rfl, rfl⟩
  go_wp2_with fail
  refine (awake_any _).mono ?_
  rintro e w' ⟨rfl, hb⟩
  go_wp2_with fail
  go_ret
  exact ⟨rfl, hb⟩

set_option maxHeartbeats 1000000 in
theorem numconstants_law (s : ByteArray) (w : World) (hs : s.size ≤ maxLen) :
    Calls Try.prog 5 #[.string s] w fun e w' => e = .returned (.bool true) ∧ Below w.heap.size w w' := by
  have a1 := fun w => constant_any s w hs
  have a2 := fun w => rconstant_any s w hs
  generalize conN s.data.toList = x at a1 a2
  generalize conE s.data.toList = y at a1 a2
  have A1 := Lib.hid a1; have A2 := Lib.hid a2; clear a1 a2
  go_enter Try.func5, Try.ntmps5
  go_wp2_with fail
  refine (A1.out _).mono ?_
  rintro e w' ⟨rfl, rfl⟩
  go_wp2_with fail
  refine (A2.out _).mono ?_
  rintro e w' ⟨rfl, k, rfl⟩
  go_wp2_with fail
  refine (awake_any _).mono ?_
  rintro e w' ⟨rfl, hb⟩
  go_wp2_with fail
  go_ret
  exact ⟨rfl, (below_drewN' (Below.refl _ _) k).trans hb⟩

set_option maxHeartbeats 1000000 in
theorem nummodes_law (s : ByteArray) (w : World) (hs : s.size ≤ maxLen) :
    Calls Try.prog 6 #[.string s] w fun e w' => e = .returned (.bool true) ∧ Below w.heap.size w w' := by
  have a1 := fun w => mode_any s w hs
  have a2 := fun w => rmode_any s w hs
  have hle : (modN s.data.toList : Int) ≤ 511 := by
    have := readN_le 8 511 s.data.toList
    unfold modN; split <;> omega
  generalize modN s.data.toList = x at a1 a2 hle
  generalize modE s.data.toList = y at a1 a2
  have A1 := Lib.hid a1; have A2 := Lib.hid a2; clear a1 a2
  go_enter Try.func6, Try.ntmps6
  go_wp2_with fail
  refine (A1.out _).mono ?_
  rintro e w' ⟨rfl, rfl⟩
  go_wp2_with fail
  refine (A2.out _).mono ?_
  rintro e w' ⟨rfl, rfl⟩
  go_wp2_with fail
  refine (awake_any _).mono ?_
  rintro e w' ⟨rfl, hb⟩
  go_wp2_with fail
  go_ret
  exact ⟨rfl, hb⟩

theorem base_law_same (a : ByteArray) : (a.toList == a.toList) = true := by simp

set_option maxHeartbeats 1000000 in
theorem numtexts_law (n m b : Int) (w : World) (hn0 : -9223372036854775808 ≤ n) (hn1 : n ≤ 9223372036854775807) (hm0 : 0 ≤ m) (hm1 : m ≤ 18446744073709551615) (hb0 : -9223372036854775808 ≤ b) (hb1 : b ≤ 9223372036854775807) :
    Calls Try.prog 3 #[.int .i64 n, .int .u64 m, .int .i64 b] w fun e w' => e = .returned (.bool true) ∧ Below w.heap.size w w' := by
  have a1 := fun w => text_any n w hn0 hn1
  have a2 := fun w => rtext_any n w hn0 hn1
  generalize (⟨(textL n).toArray⟩ : ByteArray) = T at a1 a2
  have a3 : ∃ S : ByteArray, (∀ w, Calls Try.prog 11 #[.int .u64 m, .int .i64 b] w fun e w' => e = .returned (.string S) ∧ Below w.heap.size w w') ∧ (∀ w, Calls Try.prog 12 #[.int .u64 m, .int .i64 b] w fun e w' => e = .returned (.string S) ∧ ∃ k, w' = w.drewN k) := by
    by_cases h : b < 2 ∨ 16 < b
    · exact ⟨⟨#[]⟩, fun w => (base_none m b w h).mono fun e w' ⟨he, hw⟩ => ⟨he, by subst hw; exact Below.refl _ _⟩, fun w => (rbase_none m b w h).mono fun e w' ⟨he, hw⟩ => ⟨he, 0, by subst hw; rw [World.drewN_zero]⟩⟩
    · exact ⟨_, fun w => base_any m b m.toNat b.toNat w (by omega) (by omega) (by omega) (by omega) hm1, fun w => rbase_any m b m.toNat b.toNat w (by omega) (by omega) (by omega) (by omega) hm1⟩
  obtain ⟨S, a3, a4⟩ := a3
  have A1 := Lib.hid a1; have A2 := Lib.hid a2; have A3 := Lib.hid a3; have A4 := Lib.hid a4; clear a1 a2 a3 a4
  have e1 := base_law_same T
  have e2 := base_law_same S
  go_enter Try.func3, Try.ntmps3
  go_wp2_with fail
  refine (A1.out _).mono ?_
  rintro e w' ⟨rfl, hb1⟩
  go_wp2_with fail
  refine (A2.out _).mono ?_
  rintro e w' ⟨rfl, k, rfl⟩
  go_wp2_with fail
  refine (A3.out _).mono ?_
  rintro e w' ⟨rfl, hb2⟩
  go_wp2_with fail
  refine (A4.out _).mono ?_
  rintro e w' ⟨rfl, k2, rfl⟩
  go_wp2_with fail
  refine (awake_any _).mono ?_
  rintro e w' ⟨rfl, hb3⟩
  go_wp2_with fail
  go_ret
  have c1 := below_drewN' hb1 k
  have c2 := below_drewN' (c1.trans (hb2.mono c1.size)) k2
  exact ⟨rfl, c2.trans (hb3.mono c2.size)⟩

theorem mk_toList (l : List UInt8) : (⟨l.toArray⟩ : ByteArray).toList = l := by rw [Lib.toList_data]
theorem mk_size (l : List UInt8) : (⟨l.toArray⟩ : ByteArray).size = l.length := by simp [ByteArray.size]

set_option maxHeartbeats 1000000 in
theorem numback_law (n : Int) (w : World) (hn0 : -9223372036854775808 ≤ n) (hn1 : n ≤ 9223372036854775807) :
    Calls Try.prog 7 #[.int .i64 n] w fun e w' => e = .returned (.bool true) ∧ Below w.heap.size w w' := by
  have hlen : (textL n).length ≤ 65 := by
    have := digs_length_le 10 (by omega) n.natAbs (by omega)
    unfold textL; split <;> simp <;> omega
  have a1 := fun w => text_any n w hn0 hn1
  have a2 := fun w => decimal_any ⟨(textL n).toArray⟩ w (by rw [mk_size]; unfold maxLen; omega)
  obtain ⟨d1, d2⟩ := dec_text n hn0 hn1
  rw [show (⟨(textL n).toArray⟩ : ByteArray).data.toList = textL n from rfl, d1, d2] at a2
  by_cases h : n < 0
  · generalize (⟨(textL n).toArray⟩ : ByteArray) = T at a1 a2
    have A1 := Lib.hid a1; have A2 := Lib.hid a2; clear a1 a2 d1 d2
    go_enter Try.func7, Try.ntmps7
    go_wp2_with fail
    refine (A1.out _).mono ?_
    rintro e w' ⟨rfl, hb1⟩
    go_wp2_with fail
    refine (A2.out _).mono ?_
    rintro e w' ⟨rfl, rfl⟩
    go_wp2_with fail
    refine (awake_any _).mono ?_
    rintro e w' ⟨rfl, hb3⟩
    go_wp2_with fail
    go_ret
    exact ⟨rfl, hb1.trans (hb3.mono hb1.size)⟩
  · have hn : n.natAbs < 2 ^ 64 := by omega
    have hM : n.natAbs ≤ M63 := by unfold M63; omega
    have hl8 := digs_length_le 8 (by omega) n.natAbs hn
    have hl16 := digs_length_le 16 (by omega) n.natAbs hn
    have a3 := fun w => constant_any ⟨(textL n).toArray⟩ w (by rw [mk_size]; unfold maxLen; omega)
    obtain ⟨k1, k2⟩ := con_text n (by omega) hn1
    rw [show (⟨(textL n).toArray⟩ : ByteArray).data.toList = textL n from rfl, k1, k2] at a3
    have a4 := fun w => base_any n 8 n.natAbs 8 w (by omega) rfl (by omega) (by omega) (by omega)
    have a5 := fun w => constant_any ⟨(48 :: digs 8 n.natAbs).toArray⟩ w (by rw [mk_size, List.length_cons]; unfold maxLen; omega)
    obtain ⟨k3, k4⟩ := con_oct n.natAbs hM
    rw [show (⟨(48 :: digs 8 n.natAbs).toArray⟩ : ByteArray).data.toList = 48 :: digs 8 n.natAbs from rfl, k3, k4, show ((n.natAbs : Nat) : Int) = n by omega] at a5
    have a6 := fun w => base_any n 16 n.natAbs 16 w (by omega) rfl (by omega) (by omega) (by omega)
    have a7 := fun w => constant_any ⟨(48 :: 120 :: digs 16 n.natAbs).toArray⟩ w (by rw [mk_size, List.length_cons, List.length_cons]; unfold maxLen; omega)
    obtain ⟨k5, k6⟩ := con_hex n.natAbs hM
    rw [show (⟨(48 :: 120 :: digs 16 n.natAbs).toArray⟩ : ByteArray).data.toList = 48 :: 120 :: digs 16 n.natAbs from rfl, k5, k6, show ((n.natAbs : Nat) : Int) = n by omega] at a7
    have c8 := cat_run [48] (digs 8 n.natAbs) (by simp; omega)
    have c16 := cat_run [48, 120] (digs 16 n.natAbs) (by simp; omega)
    rw [show [48] ++ digs 8 n.natAbs = 48 :: digs 8 n.natAbs from rfl] at c8
    rw [show [48, 120] ++ digs 16 n.natAbs = 48 :: 120 :: digs 16 n.natAbs from rfl] at c16
    generalize (⟨(textL n).toArray⟩ : ByteArray) = T at a1 a2 a3
    generalize (⟨(48 :: digs 8 n.natAbs).toArray⟩ : ByteArray) = T8 at a5 c8
    generalize (⟨(48 :: 120 :: digs 16 n.natAbs).toArray⟩ : ByteArray) = T16 at a7 c16
    generalize (⟨(digs 8 n.natAbs).toArray⟩ : ByteArray) = D8 at a4 c8
    generalize (⟨(digs 16 n.natAbs).toArray⟩ : ByteArray) = D16 at a6 c16
    have A1 := Lib.hid a1; have A2 := Lib.hid a2; have A3 := Lib.hid a3; have A4 := Lib.hid a4; have A5 := Lib.hid a5; have A6 := Lib.hid a6; have A7 := Lib.hid a7
    have h0 : 0 ≤ n := by omega
    clear a1 a2 a3 a4 a5 a6 a7 d1 d2 k1 k2 k3 k4 k5 k6 hlen hl8 hl16 hn hM h
    go_enter Try.func7, Try.ntmps7
    go_wp2_with fail
    refine (A1.out _).mono ?_
    rintro e w' ⟨rfl, hb1⟩
    go_wp2_with fail
    refine (A2.out _).mono ?_
    rintro e w' ⟨rfl, rfl⟩
    go_wp2_with fail
    refine (A1.out _).mono ?_
    rintro e w' ⟨rfl, hb2⟩
    go_wp2_with fail
    refine (A3.out _).mono ?_
    rintro e w' ⟨rfl, rfl⟩
    go_wp2_with fail
    refine (A4.out _).mono ?_
    rintro e w' ⟨rfl, hb3⟩
    go_wp2_with fail
    refine (A5.out _).mono ?_
    rintro e w' ⟨rfl, rfl⟩
    go_wp2_with fail
    refine (A6.out _).mono ?_
    rintro e w' ⟨rfl, hb4⟩
    go_wp2_with fail
    refine (A7.out _).mono ?_
    rintro e w' ⟨rfl, rfl⟩
    go_wp2_with fail
    refine (awake_any _).mono ?_
    rintro e w' ⟨rfl, hb5⟩
    go_wp2_with fail
    go_ret
    have x2 := hb1.trans (hb2.mono hb1.size)
    have x3 := x2.trans (hb3.mono x2.size)
    have x4 := x3.trans (hb4.mono x3.size)
    exact ⟨rfl, x4.trans (hb5.mono x4.size)⟩

theorem beq_dec (a b : Int) (x y : ByteArray) (h : a = b ↔ x.toList = y.toList) : ((a == b) == (x.toList == y.toList)) = true := by
  rw [beq_iff_eq, Bool.eq_iff_iff, beq_iff_eq, beq_iff_eq]; exact h
theorem lt_dec (p : Prop) [Decidable p] (b : Bool) (h : p ↔ b = true) : (decide p == b) = true := by
  rw [beq_iff_eq, Bool.eq_iff_iff, decide_eq_true_iff]; exact h

set_option maxHeartbeats 1000000 in
theorem numapart_law (x y b : Int) (w : World) (hx0 : 0 ≤ x) (hx1 : x ≤ 18446744073709551615) (hy0 : 0 ≤ y) (hy1 : y ≤ 18446744073709551615) (hb0 : -9223372036854775808 ≤ b) (hb1 : b ≤ 9223372036854775807) :
    Calls Try.prog 8 #[.int .u64 x, .int .u64 y, .int .i64 b] w fun e w' => e = .returned (.bool true) ∧ Below w.heap.size w w' := by
  by_cases h : b < 2 ∨ 16 < b
  · have a1 := fun w => base_none x b w h
    have a2 := fun w => base_none y b w h
    have A1 := Lib.hid a1; have A2 := Lib.hid a2; clear a1 a2
    rcases h with h | h
    · go_enter Try.func8, Try.ntmps8
      go_wp2_with fail
      refine (A1.out _).mono ?_
      rintro e w' ⟨rfl, rfl⟩
      go_wp2_with fail
      refine (A2.out _).mono ?_
      rintro e w' ⟨rfl, rfl⟩
      go_wp2_with fail
      refine (awake_any _).mono ?_
      rintro e w' ⟨rfl, hb3⟩
      go_wp2_with fail
      go_ret
      exact ⟨rfl, hb3⟩
    · have h2 : ¬ b < 2 := by omega
      go_enter Try.func8, Try.ntmps8
      go_wp2_with fail
      refine (A1.out _).mono ?_
      rintro e w' ⟨rfl, rfl⟩
      go_wp2_with fail
      refine (A2.out _).mono ?_
      rintro e w' ⟨rfl, rfl⟩
      go_wp2_with fail
      refine (awake_any _).mono ?_
      rintro e w' ⟨rfl, hb3⟩
      go_wp2_with fail
      go_ret
      exact ⟨rfl, hb3⟩
  · obtain ⟨n, rfl⟩ := Int.eq_ofNat_of_zero_le hx0
    obtain ⟨m, rfl⟩ := Int.eq_ofNat_of_zero_le hy0
    obtain ⟨k, rfl⟩ := Int.eq_ofNat_of_zero_le (show 0 ≤ b by omega)
    have hn : n < 2 ^ 64 := by omega
    have hm : m < 2 ^ 64 := by omega
    have hk : 2 ≤ k := by omega
    have hk' : k ≤ 16 := by omega
    have a1 := fun w => base_any n k n k w rfl rfl hk hk' hx1
    have a2 := fun w => base_any m k m k w rfl rfl hk hk' hy1
    have s1 : (⟨(digs k n).toArray⟩ : ByteArray).size = (digs k n).length := mk_size _
    have s2 : (⟨(digs k m).toArray⟩ : ByteArray).size = (digs k m).length := mk_size _
    have l1 : (⟨(digs k n).toArray⟩ : ByteArray).toList = digs k n := mk_toList _
    have l2 : (⟨(digs k m).toArray⟩ : ByteArray).toList = digs k m := mk_toList _
    have hb1' : ¬ (k : Int) < 2 := by omega
    have hb2' : ¬ 16 < (k : Int) := by omega
    have z1 := digs_length_le k hk n hn
    have z2 := digs_length_le k hk m hm
    generalize (⟨(digs k n).toArray⟩ : ByteArray) = X at a1 s1 l1
    generalize (⟨(digs k m).toArray⟩ : ByteArray) = Y at a2 s2 l2
    have A1 := Lib.hid a1; have A2 := Lib.hid a2; clear a1 a2
    by_cases hl : (digs k n).length = (digs k m).length
    · have e0 : ((X.size : Int) == (Y.size : Int)) = true := by rw [beq_iff_eq]; omega
      have e0' : ((X.size : Int) != (Y.size : Int)) = false := by rw [bne_eq_false_iff_eq]; omega
      have e1 : (((n : Int) == (m : Int)) == (X.toList == Y.toList)) = true := beq_dec _ _ _ _ (by
        rw [l1, l2, Int.natCast_inj]; exact digs_inj k hk hk' n m hn hm)
      have e2 : decide (n < m) = Op.bytesLess X.toList Y.toList := by
        rw [l1, l2, Bool.eq_iff_iff, decide_eq_true_iff]; exact digs_less k hk hk' n m hn hm hl
      have E2 := Lib.hid e2
      have hXs : X.size ≤ 64 := by omega
      have hYs : Y.size ≤ 64 := by omega
      clear e2 s1 s2 l1 l2 z1 z2 hl h hn hm
      go_enter Try.func8, Try.ntmps8
      go_wp2_with fail
      refine (A1.out _).mono ?_
      rintro e w' ⟨rfl, hb1⟩
      go_wp2_with fail
      refine (A2.out _).mono ?_
      rintro e w' ⟨rfl, hb2⟩
      go_wp2_with fail
      refine (awake_any _).mono ?_
      rintro e w' ⟨rfl, hb3⟩
      go_wp2_with fail
      go_ret
      have c2 := hb1.trans (hb2.mono hb1.size)
      exact ⟨rfl, c2.trans (hb3.mono c2.size)⟩
    · have e0 : ((X.size : Int) == (Y.size : Int)) = false := by rw [beq_eq_false_iff_ne]; omega
      have e0' : ((X.size : Int) != (Y.size : Int)) = true := by rw [bne_iff_ne]; omega
      have e2 : n < m ↔ X.size < Y.size := by
        rw [s1, s2]; exact digs_len_lt k hk hk' n m hn hm hl
      have E2 := Lib.hid e2
      have hXs : X.size ≤ 64 := by omega
      have hYs : Y.size ≤ 64 := by omega
      clear e2 s1 s2 l1 l2 z1 z2 hl h hn hm
      go_enter Try.func8, Try.ntmps8
      go_wp2_with fail
      refine (A1.out _).mono ?_
      rintro e w' ⟨rfl, hb1⟩
      go_wp2_with fail
      refine (A2.out _).mono ?_
      rintro e w' ⟨rfl, hb2⟩
      go_wp2_with fail
      refine (awake_any _).mono ?_
      rintro e w' ⟨rfl, hb3⟩
      go_wp2_with fail
      go_ret
      have c2 := hb1.trans (hb2.mono hb1.size)
      exact ⟨rfl, c2.trans (hb3.mono c2.size)⟩
end Go.Proofs.Ytkmfgdflgeajpaa
