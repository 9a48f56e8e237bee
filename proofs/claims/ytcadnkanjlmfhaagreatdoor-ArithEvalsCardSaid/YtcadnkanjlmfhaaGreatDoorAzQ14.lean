/- DERIVED. Texts of this claim, joined: NumBase, ArGive. -/
import Derived.Test.YtcadnkanjlmfhaaGreatDoorAzQ05
import Derived.Laws.IdiomStrings
import Derived.Lib.SmallJoins
import Derived.Test.YtcadnkanjlmfhaaGreatDoorAzQ13
import Derived.Deep.RegionWith
import Derived.Maps.AppendAt
import Derived.OneCell
namespace Go.Proofs.YtcadnkanjlmfhaaGreatDoor
open Go.RowKit
open NumM
set_option linter.unusedVariables false

set_option maxHeartbeats 400000 in
theorem base_none (n b : Int) (w : World) (h : b < 2 ∨ 16 < b) :
    Calls Tryz.prog 112 #[.int .u64 n, .int .i64 b] w fun e w' => e = .returned (.string ⟨#[]⟩) ∧ w = w' := by
  rcases h with h | h
  · go_enter Tryz.func112, Tryz.ntmps112
    go_wp2
    go_ret
    exact ⟨rfl, rfl⟩
  · have h2 : ¬ b < 2 := by omega
    go_enter Tryz.func112, Tryz.ntmps112
    go_wp2
    go_ret
    exact ⟨rfl, rfl⟩

/-- What the loop of Base holds: q is left, a is the place that is written next, C the array's cells. -/
structure RelB (b n q a : Nat) (C : Array Value) : Prop where
  bounds : a ≤ 63 ∧ q < 2 ^ (a + 1) ∧ C.size = 64
  tail : ∃ T : List UInt8, T.length = 63 - a ∧ digs b n = digs b q ++ T ∧ ∀ i (h : i < T.length), C[a + 1 + i]? = some (.int .u8 (T[i].toNat : Int))
theorem RelB.cell {b n q a : Nat} {C : Array Value} (h : RelB b n q a C) : C[a]? = some (C[a]?.getD undef) := by
  obtain ⟨h1, _, h3⟩ := h.bounds
  rw [Array.getElem?_eq_getElem (by omega)]; rfl
theorem RelB.pos {b n q a : Nat} {C : Array Value} (h : RelB b n q a C) (hb : 2 ≤ b) (hq : b ≤ q) : 1 ≤ a := by
  obtain ⟨_, h2, _⟩ := h.bounds
  rcases Nat.eq_zero_or_pos a with h0 | h0
  · subst h0; simp at h2; omega
  · exact h0

theorem sig_at : ∀ i (h : i < 16), (⟨#[48, 49, 50, 51, 52, 53, 54, 55, 56, 57, 97, 98, 99, 100, 101, 102]⟩ : ByteArray)[i]'h = sig i := by decide
theorem idx_sig (i : Nat) (h : i < 16) (x : Int) (hx : x = (i : Int)) (W : World) :
    (Instr.index 9 (.string ⟨#[48, 49, 50, 51, 52, 53, 54, 55, 56, 57, 97, 98, 99, 100, 101, 102]⟩) (.int .u64 x)).run Tryz.prog W = .ok (.int .u8 ((sig i).toNat : Int)) W := by
  subst hx
  rw [run_index_string W _ _ _ _ Tryz.underlying9, dif_pos (show 0 ≤ (i : Int) ∧ (i : Int) < _ from ⟨by omega, by show (i : Int) < ((16 : Nat) : Int); omega⟩)]
  rw [← sig_at i h]; rfl
theorem arr_len : Tryz.prog.arrayLen 163 = 64 := by simp [Program.arrayLen, Tryz.underlying163]
theorem slice_arr (N a : Nat) (h : a ≤ 63) (W : World) :
    (Instr.sliceAt 163 (.pointer (some ⟨N, 0, none⟩)) (some (.int .i64 (a : Int))) none none).run Tryz.prog W = .ok (.slice (some ⟨N, a, none⟩) (64 - a) (64 - a)) W := by
  rw [run_sliceAt_array_l W 163 ⟨N, 0, none⟩ (by simp [Program.arrayLen, Program.elem, Tryz.underlying163]) .i64 (a : Int) (by omega) (by rw [arr_len]; omega)]
  rw [arr_len]
  have e1 : ((a : Int)).toNat = a := by omega
  have e2 : (if 64 = a then (⟨N, 0, none⟩ : Addr) else Addr.add ⟨N, 0, none⟩ (a * 1)) = ⟨N, a, none⟩ := by
    rw [if_neg (by omega)]
    unfold Addr.add
    split
    · rename_i h0; have : a = 0 := by omega
      subst this; rfl
    · simp
  have hsz : (sizeOf (Tryz.prog.elem 163)).run Tryz.prog W = .ok 1 W := by go_simp
  rw [hsz]
  simp only [Result.andThen_ok, slicedAt, e1, e2]

/-- The step of the loop. -/
theorem RelB.step {b n q a : Nat} {C : Array Value} (h : RelB b n q a C) (hb : 2 ≤ b) (hlt : ¬ q < b) :
    RelB b n (q / b) (a - 1) (C.setIfInBounds a (.int .u8 ((sig (q % b)).toNat : Int))) := by
  have ha1 := h.pos hb (by omega)
  obtain ⟨ha, hq, hC⟩ := h.bounds
  obtain ⟨T, hT, hd, hc⟩ := h.tail
  have hq64 : q < 2 ^ 64 := Nat.lt_of_lt_of_le hq (Nat.pow_le_pow_right (by omega) (by omega))
  refine ⟨⟨by omega, ?_, by simp [hC]⟩, sig (q % b) :: T, by simp; omega, ?_, ?_⟩
  · have h2 : q / b ≤ q / 2 := Nat.div_le_div_left hb (by omega)
    rw [Nat.pow_succ] at hq
    rw [show a - 1 + 1 = a by omega]
    omega
  · rw [hd, digs_ge b q hb hq64 (by omega), List.append_assoc]; rfl
  · intro i hi
    cases i with
    | zero =>
      rw [show a - 1 + 1 + 0 = a by omega, Array.getElem?_setIfInBounds_self_of_lt (by omega)]
      rfl
    | succ i =>
      rw [show a - 1 + 1 + (i + 1) = a + 1 + i by omega]
      rw [Array.getElem?_setIfInBounds_ne (by omega)]
      have hi' : i < T.length := by simpa using hi
      simpa using hc i hi'

theorem RelB.start (b n : Nat) (C : Array Value) (hC : C.size = 64) (hn : (n : Int) ≤ 18446744073709551615) : RelB b n n 63 C :=
  ⟨⟨by omega, by omega, hC⟩, [], rfl, by simp, by intro i hi; simp at hi⟩

theorem RelB.last {b n q a : Nat} {C : Array Value} (h : RelB b n q a C) (w : World) (hlt : q < b) (t : TypeId) :
    (convert 164 9 (.slice (some ⟨w.heap.size, a, none⟩) (64 - a) (64 - a))).run Tryz.prog (w.alloc (.cells (C.setIfInBounds a (.int .u8 ((sig q).toNat : Int))) t)) =
      .ok (.string ⟨(digs b n).toArray⟩) (w.alloc (.cells (C.setIfInBounds a (.int .u8 ((sig q).toNat : Int))) t)) := by
  obtain ⟨ha, hq, hC⟩ := h.bounds
  obtain ⟨T, hT, hd, hc⟩ := h.tail
  have hl : (sig q :: T).length = 64 - a := by simp; omega
  rw [hd, digs_lt b q hlt]
  have hrun := run_convert_bytes_back (P := Tryz.prog) (w.alloc (.cells (C.setIfInBounds a (.int .u8 ((sig q).toNat : Int))) t)) 164 9 5 ⟨w.heap.size, a, none⟩ (64 - a) (sig q :: T)
    Tryz.underlying164 Tryz.underlying5 Tryz.underlying9 (fun j hj => by
      have hadd : (⟨w.heap.size, a, none⟩ : Addr).add j = ⟨w.heap.size, a + j, none⟩ := by
        unfold Addr.add; split
        · rename_i h0; subst h0; rfl
        · rfl
      rw [hadd, World.cell?_alloc_mark]
      cases j with
      | zero => exact Array.getElem?_setIfInBounds_self_of_lt (by omega)
      | succ i =>
        rw [show a + (i + 1) = a + 1 + i by omega, Array.getElem?_setIfInBounds_ne (by omega)]
        have hi' : i < T.length := by simpa using hj
        simpa using hc i hi')
  rw [hl] at hrun
  exact hrun

set_option maxRecDepth 100000 in
set_option maxHeartbeats 400000 in
theorem base_yes (n b : Nat) (w : World) (hb : 2 ≤ b) (hb' : b ≤ 16) (hn : (n : Int) ≤ 18446744073709551615) :
    Calls Tryz.prog 112 #[.int .u64 n, .int .i64 b] w fun e w' => e = .returned (.string ⟨(digs b n).toArray⟩) ∧ Below w.heap.size w w' := by
  have h1 : ¬ (b : Int) < 2 := by omega
  have h2 : ¬ 16 < (b : Int) := by omega
  go_enter Tryz.func112, Tryz.ntmps112
  go_wp2
  go_loopw [0, 6] (fun x y wr => ∃ (q a : Nat) (C : Array Value), x = .int .u64 q ∧ y = .int .i64 a ∧ wr = w.alloc (.cells C 163) ∧ RelB b n q a C) (fun _ y _ => (intOf y).toNat)
  case atStart => exact ⟨n, 63, _, rfl, rfl, rfl, RelB.start b n _ rfl hn⟩
  case round =>
    obtain ⟨q, a, C, rfl, rfl, rfl, HR⟩ := hrel
    obtain ⟨ha, hq, hC⟩ := HR.bounds
    have hca := HR.cell
    generalize C[a]?.getD undef = va at hca
    have HSL := slice_arr w.heap.size a ha
    have hq64 : (q : Int) ≤ 18446744073709551615 := by
      have := Nat.lt_of_lt_of_le hq (Nat.pow_le_pow_right (show 0 < 2 by omega) (show a + 1 ≤ 64 by omega))
      omega
    by_cases hlt : q < b
    · have HIX := idx_sig q (by omega) q rfl
      have HCV := HR.last w hlt 163
      clear hq
      go_wp2
      go_ret
      exact ⟨rfl, (Below.refl _ _).alloc (Nat.le_refl _) _⟩
    · have ha1 := HR.pos hb (by omega)
      have HS := HR.step hb hlt
      have HIX := idx_sig (q % b) (by have := Nat.mod_lt q (show 0 < b by omega); omega) ((q : Int) % (b : Int)) rfl
      have hq1 : 0 ≤ (q : Int) / (b : Int) := Int.ediv_nonneg (by omega) (by omega)
      have hq2 : (q : Int) / (b : Int) ≤ 18446744073709551615 := Int.le_trans (Int.ediv_le_self _ (by omega)) hq64
      clear hq
      go_wp2
      go_roundw
      case rel => exact ⟨q / b, a - 1, _, rfl, by go_num, rfl, HS⟩
      case measure => simp [intOf]; omega
theorem base_any (x y : Int) (n b : Nat) (w : World) (hx : x = (n : Int)) (hy : y = (b : Int)) (hb : 2 ≤ b) (hb' : b ≤ 16) (hn : x ≤ 18446744073709551615) :
    Calls Tryz.prog 112 #[.int .u64 x, .int .i64 y] w fun e w' => e = .returned (.string ⟨(digs b n).toArray⟩) ∧ Below w.heap.size w w' := by
  subst hx; subst hy; exact base_yes n b w hb hb' hn

theorem dash_append (l : List UInt8) : (⟨#[45]⟩ : ByteArray) ++ ⟨l.toArray⟩ = ⟨(45 :: l).toArray⟩ := by
  apply ByteArray.ext
  apply Array.toList_inj.1
  rw [Joins.data_append]; rfl

theorem digs_sum (b n : Nat) (hb : 2 ≤ b) (hn : n < 2 ^ 64) : (⟨#[45]⟩ : ByteArray).size + (⟨(digs b n).toArray⟩ : ByteArray).size ≤ 9223372036854775807 := by
  have := digs_length_le b hb n hn
  have e1 : (⟨#[45]⟩ : ByteArray).size = 1 := rfl
  have e2 : (⟨(digs b n).toArray⟩ : ByteArray).size = (digs b n).length := by simp [ByteArray.size]
  omega
theorem neg_u64 (n : Int) (h0 : -9223372036854775808 ≤ n) (h : n < 0) : IntKind.u64.wrap (-IntKind.u64.wrap n) = (n.natAbs : Int) := by
  rw [IntKind.wrap_u64, IntKind.wrap_u64]; omega

set_option maxHeartbeats 400000 in
theorem text_any (n : Int) (w : World) (h0 : -9223372036854775808 ≤ n) (h1 : n ≤ 9223372036854775807) :
    Calls Tryz.prog 110 #[.int .i64 n] w fun e w' => e = .returned (.string ⟨(textL n).toArray⟩) ∧ Below w.heap.size w w' := by
  by_cases h : n < 0
  · have hc := fun w => base_any (IntKind.u64.wrap (-IntKind.u64.wrap n)) 10 n.natAbs 10 w (neg_u64 n h0 h) rfl (by omega) (by omega) (by rw [neg_u64 n h0 h]; omega)
    have e : (⟨(textL n).toArray⟩ : ByteArray) = ⟨#[45]⟩ ++ ⟨(digs 10 n.natAbs).toArray⟩ := by unfold textL; rw [if_pos h, dash_append]
    have hcat : ∀ W, (Op.stringOp .add ⟨#[45]⟩ ⟨(digs 10 n.natAbs).toArray⟩).run Tryz.prog W = .ok (.string ⟨(textL n).toArray⟩) W := fun W => by
      rw [run_string_add_sum W _ _ (digs_sum 10 n.natAbs (by omega) (by omega)), e]
    have HC := Lib.hid hc; clear hc e
    go_enter Tryz.func110, Tryz.ntmps110
    go_wp2_with (go_at_call 112; refine (HC.out _).mono ?_; rintro e w' ⟨rfl, hb⟩)
    go_ret
    exact ⟨rfl, hb⟩
  · have hc := fun w => base_any n 10 n.natAbs 10 w (by omega) rfl (by omega) (by omega) (by omega)
    have e : (⟨(textL n).toArray⟩ : ByteArray) = ⟨(digs 10 n.natAbs).toArray⟩ := by unfold textL; rw [if_neg h]
    have HC := Lib.hid hc; have HE := Lib.hid e; clear hc e
    have hn0 : 0 ≤ n := by omega
    clear h
    go_enter Tryz.func110, Tryz.ntmps110
    go_wp2_with (go_at_call 112; refine (HC.out _).mono ?_; rintro e w' ⟨rfl, hb⟩)
    go_ret
    exact ⟨ret_str (by rw [HE.out]), hb⟩
end Go.Proofs.YtcadnkanjlmfhaaGreatDoor
namespace Go.Proofs.YtcadnkanjlmfhaaGreatDoor.Ar
open Go.RowKit
open PathM WdM ArM
open Go.Proofs.YtcadnkanjlmfhaaGreatDoor.Wd
open Go.Proofs.YtcadnkanjlmfhaaGreatDoor.NumM (textL digs_length_le)
set_option linter.unusedVariables false

def varC (x : Bs × Bs) : List Value := [.string (nm x.1), .string (nm x.2)]
theorem varC_at : ∀ (l : Vs) (i : Nat) (h : i < l.length), (l.flatMap varC)[i * 2]? = some (.string (nm l[i].1)) ∧ (l.flatMap varC)[i * 2 + 1]? = some (.string (nm l[i].2))
  | [], i, h => absurd h (by simp)
  | t :: l, 0, _ => ⟨rfl, rfl⟩
  | t :: l, i + 1, h => by
    have := varC_at l i (by simpa using h)
    rw [show (i + 1) * 2 = i * 2 + 2 by omega]
    simpa [List.flatMap_cons, varC, List.getElem?_append] using this
theorem infoV : (Tryz.prog.info? 35).map (fun i => (i.zero, i.size, i.bytes)) = some (some (.agg #[.string ByteArray.empty, .string ByteArray.empty]), 2, 32) := by kernel_rfl
theorem oneV (a b : ByteArray) : ∀ u ∈ [Value.string a, .string b], u.oneCell' = true := by
  intro u hu
  simp at hu
  rcases hu with rfl | rfl <;> rfl
def SizesV (vs : Vs) : Prop := ∀ x ∈ vs, x.1.length ≤ 4611686018427387904 ∧ x.2.length ≤ 4611686018427387904
/-- Variables of one's own, and their box. -/
structure VS (base vb : Nat) (vs : Vs) (v : Value) (W : World) : Prop where
  box : W.heap[vb]? = some (.cells #[v] 44 (0, 0))
  row : W.ownsRow base 35 2 v vs.length (vs.flatMap varC)
  apart : v.ownBlock ≠ some vb
  len : vs.length ≤ 64
  lens : SizesV vs
/-- What is written while something is reckoned. -/
def OwV (vb : Nat) (v : Value) (k : Nat) : Prop := k = vb ∨ v.ownBlock = some k
section
variable {base vb : Nat} {vs : Vs} {v : Value} {W W' : World}
theorem VS.lt (h : VS base vb vs v W) : vb < W.heap.size := fin_at h.box
theorem VS.keep {S : Nat → Prop} (h : VS base vb vs v W) (hk : Kept S W W') (h1 : ¬ S vb) (h2 : ∀ k, v.ownBlock = some k → ¬ S k) : VS base vb vs v W' := by
  refine ⟨hk.at h.box h1, ?_, h.apart, h.len, h.lens⟩
  obtain ⟨g1, g2⟩ := h.row
  refine ⟨g1, g2.imp id ?_⟩
  rintro ⟨g, cap, cur, hv, hg, hh, hr⟩
  exact ⟨g, cap, cur, hv, hg, hk.at hh (h2 g (by rw [hv]; rfl)), hr⟩
theorem VS.below (h : VS base vb vs v W) (hb : Below W.heap.size W W') : VS base vb vs v W' := h.keep (S := fun _ => False) ⟨hb.os, hb.tape, hb.output, hb.size, fun k hk _ => hb.block k hk⟩ (fun x => x) (fun k hk x => x)
theorem VS.va (h : VS base vb vs v W) : VaIn W v vs := by
  rcases row_two h.row with ⟨rfl, h0⟩ | ⟨g, cap, rfl, h1, h2, _⟩
  · have : vs = [] := List.length_eq_zero_iff.1 h0
    subst this
    exact ⟨none, 0, rfl, ⟨by simp, by simp⟩, fun h => absurd rfl h⟩
  · refine ⟨_, _, rfl, ⟨by have := h.len; omega, h.lens⟩, fun _ => ⟨g, 0, rfl, h2, fun i hi => ?_⟩⟩
    obtain ⟨a, b⟩ := varC_at vs i hi
    rw [Nat.zero_add]
    exact ⟨row_cells h.row _ _ a, row_cells h.row _ _ b⟩
theorem VS.cell (h : VS base vb vs v W) : W.cell? ⟨vb, 0, none⟩ = some v := cell_blk h.box 0
theorem VS.fz (h : VS base vb vs v W) : W.frozen? ⟨vb, 0, none⟩ = false := froz_blk h.box 0
end
/-- A step of the memory: what was written, and where the variables are then. -/
def Stp (vb : Nat) (v v' : Value) (W W' : World) : Prop := Kept (OwV vb v) W W' ∧ (v'.ownBlock = v.ownBlock ∨ ∃ b, v'.ownBlock = some b ∧ W.heap.size ≤ b)
theorem Stp.refl (vb : Nat) (v : Value) (W : World) : Stp vb v v W W := ⟨Kept.refl _ _, .inl rfl⟩
theorem Stp.trans {vb : Nat} {v v' v'' : Value} {W W' W'' : World} (h : Stp vb v v' W W') (k : Stp vb v' v'' W' W'') : Stp vb v v'' W W'' := by
  refine ⟨h.1.then k.1 (fun i hi hs => ?_), ?_⟩
  · rcases hs with rfl | hs
    · exact .inl rfl
    · rcases h.2 with h2 | ⟨b, h2, hb⟩
      · exact .inr (h2 ▸ hs)
      · rw [hs] at h2; cases h2; omega
  · rcases k.2 with k2 | ⟨b, k2, hb⟩
    · rcases h.2 with h2 | ⟨b, h2, hb⟩
      · exact .inl (k2.trans h2)
      · exact .inr ⟨b, k2.trans h2, hb⟩
    · exact .inr ⟨b, k2, Nat.le_trans h.1.size hb⟩
theorem Stp.below {vb : Nat} {v : Value} {W W' : World} (h : Below W.heap.size W W') : Stp vb v v W W' := ⟨kept_of_below h, .inl rfl⟩
/-- One variable has another value. -/
theorem flat_set : ∀ (vs : Vs) (i : Nat) (h : i < vs.length) (t : Bs), (vs.flatMap varC).set (i * 2 + 1) (.string (nm t)) = (vs.set i (vs[i].1, t)).flatMap varC
  | [], i, h, _ => absurd h (by simp)
  | x :: vs, 0, _, t => rfl
  | x :: vs, i + 1, h, t => by
    have h1 : i < vs.length := by simpa using h
    show (varC x ++ vs.flatMap varC).set ((i + 1) * 2 + 1) _ = varC x ++ (vs.set i (vs[i].1, t)).flatMap varC
    rw [← flat_set vs i h1 t, show (i + 1) * 2 + 1 = i * 2 + 1 + 2 by omega]
    rfl
theorem set_found (name : Bs) (t : Bs) : ∀ (vs : Vs) (n i : Nat), idxV name n vs = ((n + i : Nat) : Int) → ∃ (h : i < vs.length), setV vs name t = vs.set i (vs[i].1, t)
  | [], n, i, h => by unfold idxV at h; omega
  | x :: vs, n, i, h => by
    unfold idxV at h
    have e : setV (x :: vs) name t = if x.1 = name then (x.1, t) :: vs else x :: setV vs name t := rfl
    by_cases hx : x.1 = name
    · rw [if_pos hx] at h e
      obtain rfl : i = 0 := by omega
      exact ⟨by simp, by rw [e]; rfl⟩
    · rw [if_neg hx] at h e
      cases i with
      | zero =>
        have : ∀ (vs : Vs) (m : Nat), idxV name m vs = -1 ∨ (m : Int) ≤ idxV name m vs := by
          intro vs
          induction vs with
          | nil => intro m; exact .inl rfl
          | cons y vs ih =>
            intro m
            unfold idxV
            split
            · exact .inr (by omega)
            · rcases ih (m + 1) with h | h
              · exact .inl h
              · exact .inr (by omega)
        rcases this vs (n + 1) with h1 | h1 <;> omega
      | succ i =>
        obtain ⟨hi, hs⟩ := set_found name t vs (n + 1) i (by rw [h]; congr 1; omega)
        exact ⟨by simpa using hi, by rw [e, hs]; rfl⟩
theorem set_new (name : Bs) (t : Bs) : ∀ (vs : Vs) (n : Nat), idxV name n vs = -1 → setV vs name t = vs ++ [(name, t)]
  | [], n, _ => rfl
  | x :: vs, n, h => by
    unfold idxV at h
    have e : setV (x :: vs) name t = if x.1 = name then (x.1, t) :: vs else x :: setV vs name t := rfl
    by_cases hx : x.1 = name
    · rw [if_pos hx] at h; omega
    · rw [if_neg hx] at h e
      rw [e, set_new name t vs (n + 1) h]; rfl
theorem text_len (n : Int) (h0 : -9223372036854775808 ≤ n) (h1 : n ≤ 9223372036854775807) : (textL n).length ≤ 4611686018427387904 := by
  have := digs_length_le 10 (by omega) n.natAbs (by omega)
  unfold textL
  split
  · simp only [List.length_cons]; omega
  · omega
/-- How give ends. -/
def GvPost (base vb : Nat) (v : Value) (m : Except Int Vs) (w : World) (e : Ending) (w' : World) : Prop := match m with
  | .ok vs' => e = .returned (.int .i64 0) ∧ ∃ v', VS base vb vs' v' w' ∧ Stp vb v v' w w'
  | .error er => e = .returned (.int .i64 er) ∧ er ≠ 0 ∧ Below w.heap.size w w'
set_option maxRecDepth 100000 in
set_option maxHeartbeats 1600000 in
theorem give_full (base vb : Nat) (vs : Vs) (v : Value) (name : Bs) (n : Int) (w : World) (h : VS base vb vs v w) (hi : idxV name 0 vs = -1) (hl : vs.length = 64) :
    Calls Tryz.prog 102 #[.pointer (some ⟨vb, 0, none⟩), .string (nm name), .int .i64 n] w fun e w' => e = .returned (.int .i64 2) ∧ Below w.heap.size w w' := by
  have hf := find_any vs name v vb w h.cell h.lt h.va
  rw [hi] at hf
  have hc := h.cell
  have hz := h.lt
  obtain ⟨A, c, rfl⟩ := h.va.form
  rw [hl] at hc
  have HF := Lib.hid hf
  generalize nm name = N at *
  clear hf h hi hl
  go_enter Tryz.func102, Tryz.ntmps102
  go_wp2_with (go_at_call 98; refine HF.out.mono ?_; rintro e W ⟨rfl, hb⟩; have HB := Lib.hid hb; replace hc := (World.cell?_of_block (hb.block vb hz)).trans hc; replace hz := Nat.lt_of_lt_of_le hz hb.size; clear hb)
  go_ret
  exact ⟨rfl, HB.out⟩
theorem wp_gen {P : Program} {c : Code} {Q : Exit → Act → World → Prop} {a : Act} {W : World} (R : World → Prop) (hR : R W) (h : ∀ W', R W' → Code.wp P c Q a W') : Code.wp P c Q a W := h W hR
theorem VS.put {base vb g cap : Nat} {vs : Vs} {v0 : Value} {w0 w W W' : World} {t : Bs} {i : Nat} (h : VS base vb vs (.slice (some ⟨g, 0, none⟩) vs.length cap) w) (hs : Stp vb v0 (.slice (some ⟨g, 0, none⟩) vs.length cap) w0 w) (hil : i < vs.length) (ht : t.length ≤ 4611686018427387904)
    (hb : Below w.heap.size w W) (he : W'.heap = (W.setCell ⟨g, i * 2 + 1, none⟩ (.string (nm t))).heap) (hk : Kept (fun _ => False) (W.setCell ⟨g, i * 2 + 1, none⟩ (.string (nm t))) W') :
    VS base vb (vs.set i (vs[i].1, t)) (.slice (some ⟨g, 0, none⟩) vs.length cap) W' ∧ Stp vb v0 (.slice (some ⟨g, 0, none⟩) vs.length cap) w0 W' := by
  have hW := h.below hb
  have hst := (hW.row.stored (i * 2 + 1) (.string (nm t))).1
  rw [flat_set vs i hil] at hst
  refine ⟨⟨?_, ?_, h.apart, ?_, ?_⟩, hs.trans ⟨((kept_of_below hb).trans (Kept.setCell (S := OwV vb (.slice (some ⟨g, 0, none⟩) vs.length cap)) ⟨g, i * 2 + 1, none⟩ _ (.inr rfl))).trans (hk.mono (fun _ x => x.elim)), .inl rfl⟩⟩
  · rw [he]
    exact (Below.heap_setCell _ _ _ _ (fun e => h.apart (by rw [e]; rfl))).trans hW.box
  · have : (W.setCell ⟨g, i * 2 + 1, none⟩ (.string (nm t))).ownsRow base 35 2 (.slice (some ⟨g, 0, none⟩) vs.length cap) (vs.set i (vs[i].1, t)).length ((vs.set i (vs[i].1, t)).flatMap varC) := by simpa using hst
    obtain ⟨g1, g2⟩ := this
    refine ⟨g1, g2.imp id ?_⟩
    rintro ⟨g, cap, cur, hv, hg, hh, hr⟩
    exact ⟨g, cap, cur, hv, hg, by rw [he]; exact hh, hr⟩
  · rw [List.length_set]; exact h.len
  · intro x hx
    rcases List.mem_or_eq_of_mem_set hx with hx | rfl
    · exact h.lens x hx
    · exact ⟨(h.lens _ (List.getElem_mem hil)).1, ht⟩
theorem VS.at {base vb g cap : Nat} {vs : Vs} {w : World} {i : Nat} (h : VS base vb vs (.slice (some ⟨g, 0, none⟩) vs.length cap) w) (hil : i < vs.length) : ∀ W, Below w.heap.size w W → W.cell? ⟨vb, 0, none⟩ = some (.slice (some ⟨g, 0, none⟩) vs.length cap) ∧ W.frozen? ⟨g, i * 2 + 1, none⟩ = false ∧ vb < W.heap.size ∧ g < W.heap.size ∧ ∃ u, W.cell? ⟨g, i * 2 + 1, none⟩ = some u := by
  intro W hb
  obtain ⟨a0, a1⟩ := varC_at vs i hil
  have hW := h.below hb
  exact ⟨hW.cell, hW.row.frozenAt _, hW.lt, Nat.lt_of_lt_of_le (h.row.lt g rfl).2 hb.size, _, row_cells hW.row _ _ a1⟩
theorem kept_none {w : World} : Kept (fun _ => False) w w := Kept.refl _ _
set_option maxRecDepth 100000 in
set_option maxHeartbeats 1600000 in
theorem give_found (base vb : Nat) (vs : Vs) (v : Value) (name : Bs) (n : Int) (w : World) (i : Nat) (h : VS base vb vs v w) (hi : idxV name 0 vs = (i : Int)) (hn0 : -9223372036854775808 ≤ n) (hn1 : n ≤ 9223372036854775807) :
    Calls Tryz.prog 102 #[.pointer (some ⟨vb, 0, none⟩), .string (nm name), .int .i64 n] w (GvPost base vb v (.ok (setV vs name (textL n))) w) := by
  have hf := find_any vs name v vb w h.cell h.lt h.va
  rw [hi] at hf
  obtain ⟨hil, hset⟩ := set_found name (textL n) vs 0 i (by simpa using hi)
  have HT := Lib.hid (fun W => text_any n W hn0 hn1)
  rcases row_two h.row with ⟨_, h0⟩ | ⟨g, cap, rfl, h1, h2, h3⟩
  · omega
  have HF := Lib.hid hf
  have HFIN : Hid (∀ W W', Below w.heap.size w W → W'.heap = (W.setCell ⟨g, i * 2 + 1, none⟩ (.string (nm (textL n)))).heap → Kept (fun _ => False) (W.setCell ⟨g, i * 2 + 1, none⟩ (.string (nm (textL n)))) W' → GvPost base vb (.slice (some ⟨g, 0, none⟩) vs.length cap) (.ok (setV vs name (textL n))) w (.returned (.int .i64 0)) W') := Lib.hid (fun W W' hb he hk => ⟨rfl, _, by rw [hset]; exact h.put (Stp.refl _ _ _) hil (text_len n hn0 hn1) hb he hk⟩)
  have hHR := Lib.hid (h.at hil)
  have hil2 : (i : Int) < (vs.length : Int) := by omega
  have hT : (⟨(textL n).toArray⟩ : ByteArray) = nm (textL n) := rfl
  rw [hT] at HT
  clear hset h hf hi hn0 hn1 hT hil
  generalize setV vs name (textL n) = vs2 at *
  generalize vs.length = len at *
  generalize nm (textL n) = T at *
  generalize nm name = N at *
  go_enter Tryz.func102, Tryz.ntmps102
  go_wp2_with (go_at_call 98; refine HF.out.mono ?_; rintro e W ⟨rfl, hb⟩; have HB := Lib.hid hb; obtain ⟨k1, k2, k3, k4, u, k5⟩ := hHR.out W hb; clear hb)
  go_region_with (go_at_call 110; refine (HT.out _).mono ?_; rintro e W3 ⟨rfl, hb3⟩; have HB3 := Lib.hid (HB.out.drew.trans (hb3.mono HB.out.size)); obtain ⟨j1, j2, j3, j4, u2, j5⟩ := hHR.out W3 HB3.out; clear hb3)
  all_goals
    clear j1 j2 j3 j4 j5 k1 k2 k3 k4 k5
    go_wp2_with fail
    go_ret
    exact HFIN.out W3 _ HB3.out rfl ⟨rfl, rfl, rfl, Nat.le_refl _, fun _ _ _ => rfl⟩
/-- With one variable more. -/
theorem VS.more {base vb : Nat} {vs : Vs} {v v5 : Value} {name : Bs} {w W w5 : World} (h : VS base vb vs v w) (hW : Below w.heap.size w W) (hl : vs.length < 64) (hn : name.length ≤ 4611686018427387904) (hg : W.grownBy w5 v.ownBlock) (hr : w5.ownsRow base 35 2 v5 (vs.length + 1) (vs.flatMap varC ++ [.string (nm name), .string ⟨#[]⟩]))
    (ho : v5.ownBlock = v.ownBlock ∨ v5.ownBlock = some W.heap.size) (hb : vb < base ∨ base ≤ vb) : VS base vb (vs ++ [(name, [])]) v5 (w5.setCell ⟨vb, 0, none⟩ v5) ∧ Stp vb v v5 w (w5.setCell ⟨vb, 0, none⟩ v5) := by
  have hz := Nat.lt_of_lt_of_le h.lt hW.size
  have hap : v5.ownBlock ≠ some vb := by
    intro e
    rcases ho with ho | ho
    · exact h.apart (ho ▸ e)
    · rw [e] at ho; cases ho; omega
  have hbx : w5.heap[vb]? = some (.cells #[v] 44 (0, 0)) := (hg.block vb hz (fun e => h.apart e.symm)).trans ((h.below hW).box)
  refine ⟨⟨set_blk (j := 0) hbx v5, ?_, hap, by simp; omega, ?_⟩, ?_, ?_⟩
  · have := ownsRow_setCell_other hr (a := ⟨vb, 0, none⟩) hap v5
    rw [List.length_append, List.flatMap_append]
    exact this
  · intro x hx
    rcases List.mem_append.1 hx with h1 | h1
    · exact h.lens x h1
    · simp at h1; rw [h1]; exact ⟨hn, by simp⟩
  · refine (kept_of_below hW).trans ((Kept.grown hg ?_).trans (Kept.setCell ⟨vb, 0, none⟩ _ (.inl rfl)))
    intro k hk
    exact .inr hk
  · rcases ho with ho | ho
    · exact .inl ho
    · exact .inr ⟨_, ho, hW.size⟩
set_option maxRecDepth 100000 in
set_option maxHeartbeats 1600000 in
theorem give_new (base vb : Nat) (vs : Vs) (v : Value) (name : Bs) (n : Int) (w : World) (h : VS base vb vs v w) (hbase : base ≤ w.heap.size) (hi : idxV name 0 vs = -1) (hl : vs.length < 64) (hnl : name.length ≤ 4611686018427387904) (hn0 : -9223372036854775808 ≤ n) (hn1 : n ≤ 9223372036854775807) :
    Calls Tryz.prog 102 #[.pointer (some ⟨vb, 0, none⟩), .string (nm name), .int .i64 n] w (GvPost base vb v (.ok (setV vs name (textL n))) w) := by
  obtain ⟨i0, hi0, hz0, hz1, hz2⟩ := info_parts infoV
  have HI := Lib.hid hi0; have HZ0 := Lib.hid hz0; have HZ1 := Lib.hid hz1; have HZ2 := Lib.hid hz2; clear hi0 hz0 hz1 hz2
  have hf := find_any vs name v vb w h.cell h.lt h.va
  rw [hi] at hf
  have hset := set_new name (textL n) vs 0 hi
  have HT := Lib.hid (fun W => text_any n W hn0 hn1)
  have HF := Lib.hid hf
  have HH := Lib.hid h
  obtain ⟨A, c, hvf⟩ := h.va.form
  have hvb := h.lt
  have HMORE : Hid (∀ W w5 v5, Below w.heap.size w W → W.grownBy w5 v.ownBlock → w5.ownsRow base 35 2 v5 (vs.length + 1) (vs.flatMap varC ++ [.string (nm name), .string ⟨#[]⟩]) → (v5.ownBlock = v.ownBlock ∨ v5.ownBlock = some W.heap.size) → ∃ g5 c5, v5 = .slice (some ⟨g5, 0, none⟩) (vs.length + 1) c5 ∧
      ((∀ W3, Below (w5.setCell ⟨vb, 0, none⟩ v5).heap.size (w5.setCell ⟨vb, 0, none⟩ v5) W3 → W3.cell? ⟨vb, 0, none⟩ = some (.slice (some ⟨g5, 0, none⟩) (vs.length + 1) c5) ∧ W3.frozen? ⟨g5, vs.length * 2 + 1, none⟩ = false ∧ vb < W3.heap.size ∧ g5 < W3.heap.size ∧ ∃ u, W3.cell? ⟨g5, vs.length * 2 + 1, none⟩ = some u) ∧
      ∀ W3 W', Below (w5.setCell ⟨vb, 0, none⟩ v5).heap.size (w5.setCell ⟨vb, 0, none⟩ v5) W3 → W'.heap = (W3.setCell ⟨g5, vs.length * 2 + 1, none⟩ (.string (nm (textL n)))).heap → Kept (fun _ => False) (W3.setCell ⟨g5, vs.length * 2 + 1, none⟩ (.string (nm (textL n)))) W' → GvPost base vb v (.ok (setV vs name (textL n))) w (.returned (.int .i64 0)) W')) := Lib.hid (by
    intro W w5 v5 hW hg hr ho
    obtain ⟨g5, c5, rfl⟩ := ownsRow_succ hr
    obtain ⟨h1, h2⟩ := h.more hW hl hnl hg hr ho (by omega)
    have hlen : (vs ++ [(name, ([] : Bs))]).length = vs.length + 1 := by simp
    have hil : vs.length < (vs ++ [(name, ([] : Bs))]).length := by omega
    rw [← hlen] at h1 h2
    refine ⟨g5, c5, rfl, ?_, ?_⟩
    · have := h1.at hil
      rw [hlen] at this
      exact this
    · intro W3 W' hb he hk
      have := h1.put h2 hil (text_len n hn0 hn1) (t := textL n) (W := W3) (W' := W') (by rw [hlen]; exact hb) he hk
      have e : (vs ++ [(name, ([] : Bs))]).set vs.length ((vs ++ [(name, ([] : Bs))])[vs.length].1, textL n) = setV vs name (textL n) := by
        rw [hset, List.set_append_right _ _ (Nat.le_refl _)]
        simp
      rw [e, hlen] at this
      exact ⟨rfl, _, this⟩)
  have hcell := h.cell
  have HROW : Hid (∀ W, Below w.heap.size w W → W.ownsRow base 35 2 v vs.length (vs.flatMap varC)) := Lib.hid (fun W hb => (HH.out.below hb).row)
  have HBX : Hid (∀ W, Below w.heap.size w W → W.cell? ⟨vb, 0, none⟩ = some v ∧ W.frozen? ⟨vb, 0, none⟩ = false) := Lib.hid (fun W hb => ⟨(HH.out.below hb).cell, (HH.out.below hb).fz⟩)
  have HBY : Hid (∀ W w5, Below w.heap.size w W → W.grownBy w5 v.ownBlock → w5.cell? ⟨vb, 0, none⟩ = some v ∧ w5.frozen? ⟨vb, 0, none⟩ = false ∧ vb < w5.heap.size) := Lib.hid (by
    intro W w5 hb hg
    have hz := Nat.lt_of_lt_of_le HH.out.lt hb.size
    have hbx := (hg.block vb hz (fun e => HH.out.apart e.symm)).trans ((HH.out.below hb).box)
    exact ⟨cell_blk hbx 0, froz_blk hbx 0, fin_at hbx⟩)
  have hT : (⟨(textL n).toArray⟩ : ByteArray) = nm (textL n) := rfl
  rw [hT] at HT
  have hll : (vs.length : Int) < 64 := by omega
  clear hset h hf hi hn0 hn1 hT HH hcell
  generalize setV vs name (textL n) = vs2 at *
  generalize vs.flatMap varC = vc at *
  subst hvf
  generalize vs.length = len at *
  generalize nm (textL n) = T at *
  generalize nm name = N at *
  go_enter Tryz.func102, Tryz.ntmps102
  go_wp2_with (first | (go_at_call 98; refine HF.out.mono ?_; rintro e W ⟨rfl, hb⟩; have HB := Lib.hid hb; obtain ⟨k1, k2⟩ := HBX.out W hb; have hwz := Nat.le_trans hbase hb.size; have k3 := Nat.lt_of_lt_of_le hvb hb.size; clear hb) | (at_builtin; refine wpList_append_own_at _ rfl _ _ 22 rfl base 35 i0 (.agg #[.string ByteArray.empty, .string ByteArray.empty]) 2 32 Tryz.underlying22 HI.out HZ0.out HZ1.out HZ2.out rfl (by decide) _ _ _ rfl ((HROW.out _ HB.out).alloc _) ⟨W.heap.size, 0, none⟩ 1 1 [.string N, .string ⟨#[]⟩] rfl rfl (cellsL _ _ _) (oneV _ _) (maxLen_ok (by omega)) (by omega) (by simp; omega) ?_; intro v5 w5 hown5 hg5 _ ho5; obtain ⟨g5, c5, rfl, hat, hfin⟩ := HMORE.out _ w5 v5 (HB.out.alloc HB.out.size _) hg5 hown5 ho5; obtain ⟨m1, m2, m3⟩ := HBY.out _ w5 (HB.out.alloc HB.out.size _) hg5; have HAT := Lib.hid hat; have HFN := Lib.hid hfin; clear hown5 hg5 ho5 hat hfin k1 k2 k3))
  obtain ⟨k1, k2, k3, k4, u, k5⟩ := HAT.out _ (Below.refl _ _)
  refine wp_gen (fun W => W = w5.setCell ⟨vb, 0, none⟩ (.slice (some ⟨g5, 0, none⟩) (len + 1) c5)) rfl ?_
  intro Wz hWz
  rw [← hWz] at HAT HFN k1 k2 k3 k4 k5
  clear hWz m1 m2 m3 HMORE HBX HBY HROW HB
  have HB := Lib.hid (Below.refl Wz.heap.size Wz)
  have hlx : (len : Int) < ((len + 1 : Nat) : Int) := by omega
  go_region_with (go_at_call 110; refine (HT.out _).mono ?_; rintro e W3 ⟨rfl, hb3⟩; have HB3 := Lib.hid (HB.out.drew.trans (hb3.mono HB.out.size)); obtain ⟨j1, j2, j3, j4, u2, j5⟩ := HAT.out W3 HB3.out; clear hb3)
  all_goals
    clear j1 j2 j3 j4 j5 k1 k2 k3 k4 k5
    go_wp2_with fail
    go_ret
    exact HFN.out W3 _ HB3.out rfl ⟨rfl, rfl, rfl, Nat.le_refl _, fun _ _ _ => rfl⟩
theorem give_any (base vb : Nat) (vs : Vs) (v : Value) (name : Bs) (n : Int) (w : World) (h : VS base vb vs v w) (hbase : base ≤ w.heap.size) (hnl : name.length ≤ 4611686018427387904) (hn0 : -9223372036854775808 ≤ n) (hn1 : n ≤ 9223372036854775807) :
    Calls Tryz.prog 102 #[.pointer (some ⟨vb, 0, none⟩), .string (nm name), .int .i64 n] w (GvPost base vb v (giveL vs name n) w) := by
  rcases idx_find name vs 0 with ⟨h1, h2⟩ | ⟨i, hi, h1, h2, h3⟩
  · unfold giveL
    rw [h2]
    by_cases hl : vs.length = 64
    · rw [if_pos ⟨rfl, by omega⟩]
      refine (give_full base vb vs v name n w h h1 hl).mono ?_
      rintro e w' ⟨he, hb⟩
      exact ⟨he, by decide, hb⟩
    · have := h.len
      rw [if_neg (by rintro ⟨_, h⟩; omega)]
      exact give_new base vb vs v name n w h hbase h1 (by omega) hnl hn0 hn1
  · unfold giveL
    rw [h2, if_neg (by simp)]
    exact give_found base vb vs v name n w i h (by rw [h1]; simp) hn0 hn1
end Go.Proofs.YtcadnkanjlmfhaaGreatDoor.Ar
