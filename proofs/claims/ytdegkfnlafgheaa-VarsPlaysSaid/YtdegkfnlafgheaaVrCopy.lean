/- DERIVED. The walks over copied of variables, Vars, Copy. -/
import Derived.Test.YtdegkfnlafgheaaVrSet2
import Derived.Deep.RegionLaw
import Derived.Deep.RegionHeld3
namespace Go.Proofs.Ytdegkfnlafgheaa.Vr
open Go.RowKit
open PathM WdM VrM
open Go.Proofs.Ytdegkfnlafgheaa.Wd
set_option linter.unusedVariables false
def zerosV (n : Nat) : List Value := (madeCells #[.string ByteArray.empty, .string ByteArray.empty] (n * 2)).toList
theorem zerosV_len (n : Nat) : (zerosV n).length = n * 2 := by unfold zerosV; rw [Array.length_toList, size_madeCells]
theorem make_v (n : Nat) (hn : n ≤ 1000000) : ∀ w, (Instr.makeSlice 22 (.int .i64 (n : Int)) (.int .i64 (n : Int))).run Try.prog w = .ok (.slice (some ⟨w.heap.size, 0, none⟩) n n) (w.alloc (.cells (zerosV n).toArray 26)) := by
  intro w
  obtain ⟨i0, hi, hz0, hz1, hz2⟩ := info_parts infoV
  have h := run_make (P := Try.prog) w 22 26 i0 _ Try.underlying22 hi hz0 .i64 .i64 n n (by omega) (Int.le_refl _) (by rw [hz2]; omega) (by omega)
  rw [h, hz1]
  simp only [Int.toNat_natCast]
  rfl
theorem run_copy_zeroS {P : Program} (w : World) (dT sT ty elem : TypeId) (d a : Option Addr) (dLen dCap sLen sCap size : Nat) (hu : P.underlying dT = some (.slice elem)) (hs : (P.info? elem).map (·.size) = some size) (hn : Nat.min sLen dLen = 0) :
    (Builtin.copy_ #[dT, sT] ty #[.slice d dLen dCap, .slice a sLen sCap]).run P w = .ok (goInt 0) w := by
  cases hq : P.info? elem with
  | none => simp [hq] at hs
  | some i =>
    have hl : ∀ (x : Addr), (loadCells x 0).run P w = .ok #[] w := fun x => by simpa using run_loadCells_list (P := P) w x [] (by simp)
    cases d <;> cases a <;> simp [Builtin.copy_, run_underlying hu, Builtin.lenOf, Builtin.firstCells, sizeOf, typeInfo, hq, hn, storeCells, hl]
set_option maxRecDepth 100000 in
set_option maxHeartbeats 1600000 in
theorem copiedV_any (vs : Vs) (v : Value) (w : World) (h : VsIn w v vs) (hl : vs.length ≤ 1000) :
    Calls Try.prog 47 #[v] w fun e w' => ∃ v', e = .returned v' ∧ w'.ownsRow w.heap.size 26 2 v' vs.length (vs.flatMap varC) ∧ Below w.heap.size w w' := by
  obtain ⟨A, c, rfl, hlc, hc⟩ := h
  have hmk := make_v vs.length (by omega)
  have hfl := flat_len vs
  obtain ⟨W1, hW1⟩ : ∃ W1, W1 = w.alloc (.cells (zerosV vs.length).toArray 26) := ⟨_, rfl⟩
  have hg1 : W1.heap[w.heap.size]? = some (.cells (zerosV vs.length).toArray 26 (0, 0)) := by rw [hW1]; exact heap_alloc_new w _
  have hb1 : Below w.heap.size w W1 := by rw [hW1]; exact (Below.refl _ _).alloc (Nat.le_refl _) _
  have hFIN : ∀ W2 : World, W2.heap[w.heap.size]? = some (.cells (vs.flatMap varC).toArray 26 (0, 0)) → W2.ownsRow w.heap.size 26 2 (.slice (some ⟨w.heap.size, 0, none⟩) vs.length vs.length) vs.length (vs.flatMap varC) := fun W2 hh => by
    refine row_make hh (Nat.le_refl _) (by unfold maxLen; omega) (by rw [List.size_toArray, hfl]) ?_ (Nat.le_refl _) hfl
    show List.take (vs.length * 2) (vs.flatMap varC) = _
    exact List.take_of_length_le (by rw [hfl]; exact Nat.le_refl _)
  have hcpy : ∃ W2, (∀ ty, (Builtin.copy_ #[22, 22] ty #[.slice (some ⟨w.heap.size, 0, none⟩) vs.length vs.length, .slice A vs.length c]).run Try.prog W1 = .ok (goInt (vs.length : Int)) W2) ∧ W2.ownsRow w.heap.size 26 2 (.slice (some ⟨w.heap.size, 0, none⟩) vs.length vs.length) vs.length (vs.flatMap varC) ∧ Below w.heap.size w W2 := by
    by_cases h0 : vs = []
    · subst h0
      have hz : zerosV ([] : Vs).length = [] := List.length_eq_zero_iff.1 (by rw [zerosV_len]; rfl)
      rw [hz] at hg1
      exact ⟨W1, fun ty => run_copy_zeroS _ _ _ _ 26 _ _ _ _ _ _ 2 Try.underlying22 sizeV rfl, hFIN W1 hg1, hb1⟩
    · obtain ⟨b, off, rfl, hlt, hcs⟩ := hc h0
      have hsrc : ∀ j u, (vs.flatMap varC)[j]? = some u → W1.cell? ((⟨b, off, none⟩ : Addr).add j) = some u := by
        intro j u hj
        rw [Addr.add_lit]
        have hb' : W1.heap[b]? = w.heap[b]? := hb1.block b hlt
        rw [World.cell?_of_block hb']
        have hjl : j < vs.length * 2 := by
          have := (List.getElem?_eq_some_iff.1 hj).1
          rwa [hfl] at this
        have hi : j / 2 < vs.length := by omega
        obtain ⟨a1, a2⟩ := varC_at vs (j / 2) hi
        obtain ⟨c1, c2⟩ := hcs (j / 2) hi
        rcases Nat.mod_two_eq_zero_or_one j with hm | hm
        · have e : j / 2 * 2 = j := by omega
          rw [e] at a1 c1
          rw [a1] at hj
          rw [c1]; exact hj
        · have e : j / 2 * 2 + 1 = j := by omega
          have e2 : off + j / 2 * 2 + 1 = off + j := by omega
          rw [e] at a2
          rw [e2] at c2
          rw [a2] at hj
          rw [c2]; exact hj
      have hg2 : (W1.setRow w.heap.size (vs.flatMap varC).toArray).heap[w.heap.size]? = some (.cells (vs.flatMap varC).toArray 26 (0, 0)) := setRow_heap _ w.heap.size _ _ _ (0, 0) hg1
      refine ⟨W1.setRow w.heap.size (vs.flatMap varC).toArray, fun ty => ?_, hFIN _ hg2, ⟨hb1.os, hb1.tape, hb1.output, by have := hb1.size; simpa [World.setRow] using this, fun k hk => (setRow_other _ w.heap.size k _ (by omega)).trans (hb1.block k hk)⟩⟩
      have := run_copy_rowS W1 22 22 ty 26 w.heap.size 0 vs.length vs.length ⟨b, off, none⟩ vs.length c (zerosV vs.length).toArray 26 (vs.flatMap varC) 2 vs.length Try.underlying22 sizeV hg1 (Nat.min_self _) hfl hsrc (by rw [List.size_toArray, zerosV_len, hfl]; omega) (flat_one vs)
      rw [List.take_zero, List.nil_append, Nat.zero_add, List.drop_of_length_le (by simp [zerosV_len, hfl]), List.append_nil] at this
      exact this
  obtain ⟨W2, hcp, hr, hb⟩ := hcpy
  have HF := Lib.hid hr
  have HB := Lib.hid hb
  have HCP := Lib.hid hcp
  have hnc : (vs.length : Int) ≤ (c : Int) := by omega
  have hn1 : (vs.length : Int) ≤ 1000 := by omega
  clear hcp hr hb hg1 hb1 hFIN hc hfl
  generalize vs.flatMap varC = xs at *
  generalize vs.length = n at *
  rw [hW1] at HCP
  clear hW1
  go_enter Try.func47, Try.ntmps47
  go_wp2_with (refine wpList_copy_runI (o := ⟨some 9, _, _, _, _, _⟩) _ rfl (.tmp 7) (.tmp 8) 22 22 rfl _ _ rfl rfl (HCP.out _) ?_)
  go_ret
  exact ⟨_, rfl, HF.out, HB.out⟩
theorem vars_any (base tb : Nat) (st : Int) (vs : Vs) (vv av : Value) (ps : List Bs) (w : World) (h : TbX base w tb st vs vv ps av) :
    Calls Try.prog 22 #[.pointer (some ⟨tb, 0, none⟩)] w fun e w' => ∃ v', e = .returned v' ∧ w'.ownsRow w.heap.size 26 2 v' vs.length (vs.flatMap varC) ∧ Below w.heap.size w w' := by
  have HN := h.nn
  have hz := h.lt
  have c2 := h.c2
  have HCP := Lib.hid (copiedV_any vs vv w h.vs_in (by have := h.len; omega))
  obtain ⟨A, c, rfl, hlc⟩ := row_form h.row
  clear h
  generalize vs.length = m at *
  go_enter Try.func22, Try.ntmps22
  go_wp2_with (first | (go_at_call 31; refine (HN.out _ (Below.refl _ _)).mono ?_; rintro e W ⟨rfl, rfl⟩) | (go_at_call 47; refine HCP.out.mono ?_; rintro e W ⟨v', rfl, hr, hb⟩; have HR := Lib.hid hr; have HB := Lib.hid hb; clear hr hb))
  go_ret
  exact ⟨_, rfl, HR.out, HB.out⟩
end Go.Proofs.Ytdegkfnlafgheaa.Vr
