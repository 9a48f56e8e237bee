/- DERIVED. Walks over package num of layer 1: Base, Text. -/
import Derived.Test.YtdegkfnlafgheaaNumWalks2
import Derived.Laws.IdiomStrings
import Derived.Lib.SmallJoins
namespace Go.Proofs.Ytdegkfnlafgheaa
open Go.RowKit
open NumM
set_option linter.unusedVariables false

set_option maxHeartbeats 400000 in
theorem base_none (n b : Int) (w : World) (h : b < 2 ∨ 16 < b) :
    Calls Try.prog 50 #[.int .u64 n, .int .i64 b] w fun e w' => e = .returned (.string ⟨#[]⟩) ∧ w = w' := by
  rcases h with h | h
  · go_enter Try.func50, Try.ntmps50
    go_wp2
    go_ret
    exact ⟨rfl, rfl⟩
  · have h2 : ¬ b < 2 := by omega
    go_enter Try.func50, Try.ntmps50
    go_wp2
    go_ret
    exact ⟨rfl, rfl⟩

/-- What the loop of Base holds: q is left, a is the place that is written next, C the array's cells. -/
structure RelB (b n q a : Nat) (C : Array Value) : Prop where
  bounds : a ≤ 63 ∧ q < 2 ^ (a + 1) ∧ C.size = 64
  tail : ∃ T : List UInt8, T.length = 63 - a ∧ digs b n = digs b q ++ T ∧ ∀ i (h : i < T.length), C[a + 1 + i]? = some (.int .u8 (T[i].toNat : Int))
theorem RelB.cell {b n q a : Nat} {C : Array Value} (h : RelB b n q a C) : C[a]? = some (C[a]?.getD undef) := by
  obtain ⟨h1, _, h3⟩ := h.bounds
  rw [Array.getElem?_eq_getElem (by omega)]; rfl
theorem RelB.pos {b n q a : Nat} {C : Array Value} (h : RelB b n q a C) (hb : 2 ≤ b) (hq : b ≤ q) : 1 ≤ a := by
  obtain ⟨_, h2, _⟩ := h.bounds
  rcases Nat.eq_zero_or_pos a with h0 | h0
  · subst h0; simp at h2; omega
  · exact h0

theorem sig_at : ∀ i (h : i < 16), (⟨#[48, 49, 50, 51, 52, 53, 54, 55, 56, 57, 97, 98, 99, 100, 101, 102]⟩ : ByteArray)[i]'h = sig i := by decide
theorem idx_sig (i : Nat) (h : i < 16) (x : Int) (hx : x = (i : Int)) (W : World) :
    (Instr.index 9 (.string ⟨#[48, 49, 50, 51, 52, 53, 54, 55, 56, 57, 97, 98, 99, 100, 101, 102]⟩) (.int .u64 x)).run Try.prog W = .ok (.int .u8 ((sig i).toNat : Int)) W := by
  subst hx
  rw [run_index_string W _ _ _ _ Try.underlying9, dif_pos (show 0 ≤ (i : Int) ∧ (i : Int) < _ from ⟨by omega, by show (i : Int) < ((16 : Nat) : Int); omega⟩)]
  rw [← sig_at i h]; rfl
theorem arr_len : Try.prog.arrayLen 102 = 64 := by simp [Program.arrayLen, Try.underlying102]
theorem slice_arr (N a : Nat) (h : a ≤ 63) (W : World) :
    (Instr.sliceAt 102 (.pointer (some ⟨N, 0, none⟩)) (some (.int .i64 (a : Int))) none none).run Try.prog W = .ok (.slice (some ⟨N, a, none⟩) (64 - a) (64 - a)) W := by
  rw [run_sliceAt_array_l W 102 ⟨N, 0, none⟩ (by simp [Program.arrayLen, Program.elem, Try.underlying102]) .i64 (a : Int) (by omega) (by rw [arr_len]; omega)]
  rw [arr_len]
  have e1 : ((a : Int)).toNat = a := by omega
  have e2 : (if 64 = a then (⟨N, 0, none⟩ : Addr) else Addr.add ⟨N, 0, none⟩ (a * 1)) = ⟨N, a, none⟩ := by
    rw [if_neg (by omega)]
    unfold Addr.add
    split
    · rename_i h0; have : a = 0 := by omega
      subst this; rfl
    · simp
  have hsz : (sizeOf (Try.prog.elem 102)).run Try.prog W = .ok 1 W := by go_simp
  rw [hsz]
  simp only [Result.andThen_ok, slicedAt, e1, e2]

/-- The step of the loop. -/
theorem RelB.step {b n q a : Nat} {C : Array Value} (h : RelB b n q a C) (hb : 2 ≤ b) (hlt : ¬ q < b) :
    RelB b n (q / b) (a - 1) (C.setIfInBounds a (.int .u8 ((sig (q % b)).toNat : Int))) := by
  have ha1 := h.pos hb (by omega)
  obtain ⟨ha, hq, hC⟩ := h.bounds
  obtain ⟨T, hT, hd, hc⟩ := h.tail
  have hq64 : q < 2 ^ 64 := Nat.lt_of_lt_of_le hq (Nat.pow_le_pow_right (by omega) (by omega))
  refine ⟨⟨by omega, ?_, by simp [hC]⟩, sig (q % b) :: T, by simp; omega, ?_, ?_⟩
  · have h2 : q / b ≤ q / 2 := Nat.div_le_div_left hb (by omega)
    rw [Nat.pow_succ] at hq
    rw [show a - 1 + 1 = a by omega]
    omega
  · rw [hd, digs_ge b q hb hq64 (by omega), List.append_assoc]; rfl
  · intro i hi
    cases i with
    | zero =>
      rw [show a - 1 + 1 + 0 = a by omega, Array.getElem?_setIfInBounds_self_of_lt (by omega)]
      rfl
    | succ i =>
      rw [show a - 1 + 1 + (i + 1) = a + 1 + i by omega]
      rw [Array.getElem?_setIfInBounds_ne (by omega)]
      have hi' : i < T.length := by simpa using hi
      simpa using hc i hi'

theorem RelB.start (b n : Nat) (C : Array Value) (hC : C.size = 64) (hn : (n : Int) ≤ 18446744073709551615) : RelB b n n 63 C :=
  ⟨⟨by omega, by omega, hC⟩, [], rfl, by simp, by intro i hi; simp at hi⟩

theorem RelB.last {b n q a : Nat} {C : Array Value} (h : RelB b n q a C) (w : World) (hlt : q < b) (t : TypeId) :
    (convert 82 9 (.slice (some ⟨w.heap.size, a, none⟩) (64 - a) (64 - a))).run Try.prog (w.alloc (.cells (C.setIfInBounds a (.int .u8 ((sig q).toNat : Int))) t)) =
      .ok (.string ⟨(digs b n).toArray⟩) (w.alloc (.cells (C.setIfInBounds a (.int .u8 ((sig q).toNat : Int))) t)) := by
  obtain ⟨ha, hq, hC⟩ := h.bounds
  obtain ⟨T, hT, hd, hc⟩ := h.tail
  have hl : (sig q :: T).length = 64 - a := by simp; omega
  rw [hd, digs_lt b q hlt]
  have hrun := run_convert_bytes_back (P := Try.prog) (w.alloc (.cells (C.setIfInBounds a (.int .u8 ((sig q).toNat : Int))) t)) 82 9 5 ⟨w.heap.size, a, none⟩ (64 - a) (sig q :: T)
    Try.underlying82 Try.underlying5 Try.underlying9 (fun j hj => by
      have hadd : (⟨w.heap.size, a, none⟩ : Addr).add j = ⟨w.heap.size, a + j, none⟩ := by
        unfold Addr.add; split
        · rename_i h0; subst h0; rfl
        · rfl
      rw [hadd, World.cell?_alloc_mark]
      cases j with
      | zero => exact Array.getElem?_setIfInBounds_self_of_lt (by omega)
      | succ i =>
        rw [show a + (i + 1) = a + 1 + i by omega, Array.getElem?_setIfInBounds_ne (by omega)]
        have hi' : i < T.length := by simpa using hj
        simpa using hc i hi')
  rw [hl] at hrun
  exact hrun

set_option maxRecDepth 100000 in
set_option maxHeartbeats 400000 in
theorem base_yes (n b : Nat) (w : World) (hb : 2 ≤ b) (hb' : b ≤ 16) (hn : (n : Int) ≤ 18446744073709551615) :
    Calls Try.prog 50 #[.int .u64 n, .int .i64 b] w fun e w' => e = .returned (.string ⟨(digs b n).toArray⟩) ∧ Below w.heap.size w w' := by
  have h1 : ¬ (b : Int) < 2 := by omega
  have h2 : ¬ 16 < (b : Int) := by omega
  go_enter Try.func50, Try.ntmps50
  go_wp2
  go_loopw [0, 6] (fun x y wr => ∃ (q a : Nat) (C : Array Value), x = .int .u64 q ∧ y = .int .i64 a ∧ wr = w.alloc (.cells C 102) ∧ RelB b n q a C) (fun _ y _ => (intOf y).toNat)
  case atStart => exact ⟨n, 63, _, rfl, rfl, rfl, RelB.start b n _ rfl hn⟩
  case round =>
    obtain ⟨q, a, C, rfl, rfl, rfl, HR⟩ := hrel
    obtain ⟨ha, hq, hC⟩ := HR.bounds
    have hca := HR.cell
    generalize C[a]?.getD undef = va at hca
    have HSL := slice_arr w.heap.size a ha
    have hq64 : (q : Int) ≤ 18446744073709551615 := by
      have := Nat.lt_of_lt_of_le hq (Nat.pow_le_pow_right (show 0 < 2 by omega) (show a + 1 ≤ 64 by omega))
      omega
    by_cases hlt : q < b
    · have HIX := idx_sig q (by omega) q rfl
      have HCV := HR.last w hlt 102
      clear hq
      go_wp2
      go_ret
      exact ⟨rfl, (Below.refl _ _).alloc (Nat.le_refl _) _⟩
    · have ha1 := HR.pos hb (by omega)
      have HS := HR.step hb hlt
      have HIX := idx_sig (q % b) (by have := Nat.mod_lt q (show 0 < b by omega); omega) ((q : Int) % (b : Int)) rfl
      have hq1 : 0 ≤ (q : Int) / (b : Int) := Int.ediv_nonneg (by omega) (by omega)
      have hq2 : (q : Int) / (b : Int) ≤ 18446744073709551615 := Int.le_trans (Int.ediv_le_self _ (by omega)) hq64
      clear hq
      go_wp2
      go_roundw
      case rel => exact ⟨q / b, a - 1, _, rfl, by go_num, rfl, HS⟩
      case measure => simp [intOf]; omega
theorem base_any (x y : Int) (n b : Nat) (w : World) (hx : x = (n : Int)) (hy : y = (b : Int)) (hb : 2 ≤ b) (hb' : b ≤ 16) (hn : x ≤ 18446744073709551615) :
    Calls Try.prog 50 #[.int .u64 x, .int .i64 y] w fun e w' => e = .returned (.string ⟨(digs b n).toArray⟩) ∧ Below w.heap.size w w' := by
  subst hx; subst hy; exact base_yes n b w hb hb' hn

theorem dash_append (l : List UInt8) : (⟨#[45]⟩ : ByteArray) ++ ⟨l.toArray⟩ = ⟨(45 :: l).toArray⟩ := by
  apply ByteArray.ext
  apply Array.toList_inj.1
  rw [Joins.data_append]; rfl

theorem digs_sum (b n : Nat) (hb : 2 ≤ b) (hn : n < 2 ^ 64) : (⟨#[45]⟩ : ByteArray).size + (⟨(digs b n).toArray⟩ : ByteArray).size ≤ 9223372036854775807 := by
  have := digs_length_le b hb n hn
  have e1 : (⟨#[45]⟩ : ByteArray).size = 1 := rfl
  have e2 : (⟨(digs b n).toArray⟩ : ByteArray).size = (digs b n).length := by simp [ByteArray.size]
  omega
theorem neg_u64 (n : Int) (h0 : -9223372036854775808 ≤ n) (h : n < 0) : IntKind.u64.wrap (-IntKind.u64.wrap n) = (n.natAbs : Int) := by
  rw [IntKind.wrap_u64, IntKind.wrap_u64]; omega

set_option maxHeartbeats 400000 in
theorem text_any (n : Int) (w : World) (h0 : -9223372036854775808 ≤ n) (h1 : n ≤ 9223372036854775807) :
    Calls Try.prog 32 #[.int .i64 n] w fun e w' => e = .returned (.string ⟨(textL n).toArray⟩) ∧ Below w.heap.size w w' := by
  by_cases h : n < 0
  · have hc := fun w => base_any (IntKind.u64.wrap (-IntKind.u64.wrap n)) 10 n.natAbs 10 w (neg_u64 n h0 h) rfl (by omega) (by omega) (by rw [neg_u64 n h0 h]; omega)
    have e : (⟨(textL n).toArray⟩ : ByteArray) = ⟨#[45]⟩ ++ ⟨(digs 10 n.natAbs).toArray⟩ := by unfold textL; rw [if_pos h, dash_append]
    have hcat : ∀ W, (Op.stringOp .add ⟨#[45]⟩ ⟨(digs 10 n.natAbs).toArray⟩).run Try.prog W = .ok (.string ⟨(textL n).toArray⟩) W := fun W => by
      rw [run_string_add_sum W _ _ (digs_sum 10 n.natAbs (by omega) (by omega)), e]
    have HC := Lib.hid hc; clear hc e
    go_enter Try.func32, Try.ntmps32
    go_wp2_with (go_at_call 50; refine (HC.out _).mono ?_; rintro e w' ⟨rfl, hb⟩)
    go_ret
    exact ⟨rfl, hb⟩
  · have hc := fun w => base_any n 10 n.natAbs 10 w (by omega) rfl (by omega) (by omega) (by omega)
    have e : (⟨(textL n).toArray⟩ : ByteArray) = ⟨(digs 10 n.natAbs).toArray⟩ := by unfold textL; rw [if_neg h]
    have HC := Lib.hid hc; have HE := Lib.hid e; clear hc e
    have hn0 : 0 ≤ n := by omega
    clear h
    go_enter Try.func32, Try.ntmps32
    go_wp2_with (go_at_call 50; refine (HC.out _).mono ?_; rintro e w' ⟨rfl, hb⟩)
    go_ret
    exact ⟨ret_str (by rw [HE.out]), hb⟩
end Go.Proofs.Ytdegkfnlafgheaa
