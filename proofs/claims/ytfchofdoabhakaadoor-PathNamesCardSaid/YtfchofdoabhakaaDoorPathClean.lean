/- DERIVED. The walk of path.Clean: package path of layer 3. -/
import Derived.Test.YtfchofdoabhakaaDoorPathParts
namespace Go.Proofs.YtfchofdoabhakaaDoor
open Go.RowKit Go.Shelf
open PathM
set_option linter.unusedVariables false

/-- A row is owned as far as one likes. -/
theorem ownsRow_cut {W : World} {base : Nat} {e : TypeId} {g n cap m : Nat} {xs : List Value} (h : W.ownsRow base e 1 (.slice (some ⟨g, 0, none⟩) n cap) n xs) (hm : m ≤ n) :
    W.ownsRow base e 1 (.slice (some ⟨g, 0, none⟩) m cap) m (xs.take m) := by
  have hl := h.1
  rcases h.2 with ⟨e1, _⟩ | ⟨g', cap', cur, e1, h1, h2, h3, h4, h5, h6⟩
  · cases e1
  · cases e1
    refine ⟨by simp at hl ⊢; omega, .inr ⟨g, cap, cur, rfl, h1, h2, by omega, h4, h5, ?_⟩⟩
    rw [← h6, List.take_take, Nat.mul_one, Nat.mul_one, Nat.min_eq_left hm]

theorem ownsRow_two {W : World} {base : Nat} {e : TypeId} {v : Value} {k : Nat} {xs : List Value} (h : W.ownsRow base e 1 v k xs) : (v = .slice none 0 0 ∧ k = 0) ∨ ∃ g cap, v = .slice (some ⟨g, 0, none⟩) k cap ∧ k ≤ cap ∧ cap ≤ maxLen ∧ g < W.heap.size ∧ base ≤ g := by
  rcases h.2 with h0 | ⟨g, cap, cur, rfl, h1, h2, h3, h4, h5, h6⟩
  · exact .inl h0
  · exact .inr ⟨g, cap, rfl, h3, h4, (Array.getElem?_eq_some_iff.1 h2).1, h1⟩

theorem ownsRow_cell {W : World} {base : Nat} {e : TypeId} {g n cap : Nat} {xs : List Value} (h : W.ownsRow base e 1 (.slice (some ⟨g, 0, none⟩) n cap) n xs) (j : Nat) (u : Value) (hu : xs[j]? = some u) :
    W.cell? ⟨g, 0 + j, none⟩ = some u := by
  rw [Nat.zero_add]
  rcases h.2 with ⟨e1, _⟩ | ⟨g', cap', cur, e1, h1, h2, h3, h4, h5, h6⟩
  · cases e1
  · cases e1
    rw [cell_of_row W g j cur e (0, 0) h2]
    rw [← h6, List.getElem?_take] at hu
    split at hu
    · simpa using hu
    · cases hu

/-- strings.Join of a row of names. -/
theorem join_row {W : World} {base : Nat} {g cap : Nat} (acc : List Bs) (h : W.ownsRow base 9 1 (.slice (some ⟨g, 0, none⟩) acc.length cap) acc.length (acc.map enc)) (hl : (rootJ acc).length ≤ 140737488355328) :
    Calls Tryd.prog 33 #[.slice (some ⟨g, 0, none⟩) acc.length cap, .string ⟨#[47]⟩] W fun e w' => e = .returned (.string (nm (Lib.join acc [47]))) ∧ Below W.heap.size W w' := by
  have hm : (acc.map nm).map (·.data.toList) = acc := by
    rw [List.map_map]; exact (List.map_congr_left (fun x _ => nm_data x)).trans (List.map_id _)
  have hj : (Lib.join acc [47]).length ≤ 140737488355328 := by
    rw [← rootJ_join] at hl; simp at hl; omega
  have hn : acc.length ≤ (rootJ acc).length := by
    unfold rootJ; split
    · rename_i e; subst e; simp
    · rw [flatS_len]; omega
  rcases ownsRow_two h with ⟨e1, _⟩ | ⟨g', cap', e1, hkc, hcm, hg1, hg2⟩
  · cases e1
  · cases e1
    have hJ := Tryd.strings_Join g 0 cap (acc.map nm) ⟨#[47]⟩ W (fun j x hx => ownsRow_cell h j (.string x) (by
      rw [List.getElem?_map] at hx ⊢
      cases e : acc[j]? with
      | none => rw [e] at hx; cases hx
      | some y => rw [e] at hx; simp at hx; subst hx; rfl)) hg1 (by simp; omega) (by simp; exact hkc) (by rw [hm]; exact hj)
    rw [List.length_map, hm] at hJ
    exact hJ

abbrev fC (pre : List Bs) : List Bs := pre.foldl stepC []
theorem toList_beq (x y : Bs) : ((nm x).toList == y) = (x == y) := by rw [listD]; rfl
theorem dropLast_map (l : List Bs) : (l.map enc).take (l.length - 1) = l.dropLast.map enc := by
  rw [List.dropLast_eq_take, List.map_take]
theorem fC_snoc (pre : List Bs) (x : Bs) : fC (pre ++ [x]) = stepC (fC pre) x := by simp [fC]

/-- Between two rounds: the box of what is left. -/
def PC (w : World) (pre : List Bs) (W : World) : Prop :=
  (∃ v, Boxed W w.heap.size 24 v ∧ W.ownsRow w.heap.size 9 1 v (fC pre).length ((fC pre).map enc) ∧ True) ∧ Below w.heap.size w W
theorem pc_own (w : World) (B : Nat) (h : w.heap.size ≤ B) : OwnFrom B (PC w) :=
  OwnFrom.and (Own.from (holdsRow_own w.heap.size w.heap.size 24 9 1 (fun pre => (fC pre).length) (fun pre => (fC pre).map enc) (fun pre v => True)) _) (ownFrom_below (Nat.le_refl _) h)

attribute [local go_sem] Oper.semAt_some

set_option maxRecDepth 100000 in
set_option maxHeartbeats 2000000 in
theorem clean_any (p : ByteArray) (w : World) (hs : p.size ≤ 100000) :
    Calls Tryd.prog 19 #[.string p] w fun e w' => e = .returned (.string (nm (cleanL p.data.toList))) ∧ Below w.heap.size w w' := by
  have hnl := names_len p.data.toList
  rw [← sizeD] at hnl
  obtain ⟨i0, hi, hz0, hz1, hz2⟩ := info_parts info9
  have HI := Lib.hid hi; have HZ0 := Lib.hid hz0; have HZ1 := Lib.hid hz1; have HZ2 := Lib.hid hz2; clear hi hz0 hz1 hz2
  refine (callsIn_wide (n := 5)).1 ?_
  refine callsIn_of_wp_marks Tryd.func19 rfl trivial ?_ rfl
  simp only [Tryd.ntmps19, List.size_toArray, List.length_cons, List.length_nil, Nat.reduceAdd, Nat.reduceSub, Array.replicate_succ, Array.replicate_zero, List.push_toArray, List.append_toArray, List.nil_append, List.cons_append]
  gi_wp2_with (first
    | (refine ⟨trivial, ?_⟩; gi_at_call 28; refine (names_in _ p _).mono ?_; rintro e w' ⟨rfl, rfl⟩)
    | (gi_at_call 28; refine (names_in _ p _).mono ?_; rintro e w' ⟨rfl, rfl⟩))
  obtain ⟨W0, hW0⟩ : ∃ W0, ((w.alloc (Obj.cells #[Value.slice none 0 0] 24)).alloc (Obj.cells #[Value.string p] 9)) = W0 := ⟨_, rfl⟩
  have hsz : W0.heap.size = w.heap.size + 1 + 1 := by rw [← hW0]; simp
  have hB0 : Below w.heap.size w W0 := by rw [← hW0]; exact ((Below.refl _ w).alloc (Nat.le_refl _) _).alloc (by simp) _
  have hcell : W0.cell? ⟨w.heap.size + 1, 0, none⟩ = some (.string p) := by
    rw [← hW0]
    simp
  have hI0 : PC w [] W0 := by
    refine ⟨⟨_, ?_, World.ownsRow_nil _ _ _ _, trivial⟩, hB0⟩
    rw [← hW0]
    exact (Boxed.new w 24 (.slice none 0 0)).alloc (Obj.cells #[Value.string p] 9)
  rw [hW0]
  have HW := Lib.hid hW0; have HSZ := Lib.hid hsz; clear hW0
  refine wpIn_rangeFunc_ownG rfl (by omega) (gf := 37) (lb := #[.pointer (some ⟨w.heap.size + 1, 0, none⟩)]) rfl trivial (enters_of Tryd.func37 (by kernel_rfl) rfl)
    (names_stops _ (by omega) (w.heap.size + 1) w.heap.size p (by unfold maxLen; omega) W0 (by omega) (by omega) hcell) belowK_t (belowK_b (by omega)) (Below.refl _ _) (fun _ => rfl)
    (PC w) (fun _ _ _ => False) (pc_own w _ (by omega)) (fun _ _ _ _ _ hs _ _ => hs) hI0
    (fun x => { tmps := #[Value.string p, undef, Value.string { data := #[] }, Value.pointer (some { block := w.heap.size, off := 0 }), Value.string (nm x), Value.string p,
          Value.func (Fn.func 37) #[] #[Value.pointer (some { block := w.heap.size + 1, off := 0 })], Value.string (nm x), undef,
          undef, undef, undef, undef, undef, undef, undef, undef, undef, undef, undef, undef, undef, undef, undef, undef, undef], defers := [] }) ?assign ?body ?done ?stop
  case assign =>
    intro l x W K hK
    gi_wp2
    exact hK
  case body =>
    rintro l pre x W ⟨⟨v, hv, hrow, _⟩, hB⟩ hlt
    clear hcell hI0 hB0
    have hle : w.heap.size ≤ W.heap.size := hB.size
    have hfl : (fC pre).length ≤ pre.length := by have := fold_len pre []; simpa using this
    have b1 := toList_beq x [46]
    have b2 := toList_beq x [46, 46]
    by_cases h1 : x = [46]
    · have h2 : x ≠ [46, 46] := by rw [h1]; decide
      have q1 : ((nm x).toList == [46]) = true := by rw [b1, h1]; rfl
      have hst : fC (pre ++ [x]) = fC pre := by rw [fC_snoc]; unfold stepC; rw [if_pos h1]
      have HST := Lib.hid hst; clear hst b1 b2 h1 h2
      gi_wp2
      exact ⟨KeepsFrom.refl _ _, Below.refl _ _, ⟨v, hv, by rw [HST.out]; exact hrow, trivial⟩, hB⟩
    · have q1 : ((nm x).toList == [46]) = false := by rw [b1]; exact beq_eq_false_iff_ne.2 h1
      by_cases h2 : x = [46, 46]
      · have q2 : ((nm x).toList == [46, 46]) = true := by rw [b2, h2]; rfl
        have hst : fC (pre ++ [x]) = (fC pre).dropLast := by rw [fC_snoc]; unfold stepC; rw [if_neg h1, if_pos h2]
        have HST := Lib.hid hst; clear hst b1 b2 h1 h2
        generalize fC pre = acc at *
        obtain ⟨k, hk⟩ : ∃ k, acc.length = k := ⟨_, rfl⟩
        rw [hk] at hrow hfl
        have c1 := hv.cell
        have f1 := hv.frozen
        have hrow' := fun u => hrow.kept (grownBy_setCell' W w.heap.size u) (.inr (hv.not_row (by decide) hrow).symm)
        have hB' := fun u => hB.setCell (p := ⟨w.heap.size, 0, none⟩) (Nat.le_refl _) u
        have hdm := dropLast_map acc
        rw [hk] at hdm
        have hdl : acc.dropLast.length = k - 1 := by rw [List.length_dropLast, hk]
        have HB' := Lib.hid hB'; have HR' := Lib.hid hrow'; have HDM := Lib.hid hdm; have HDL := Lib.hid hdl; have HKK := Lib.hid hk
        clear hB' hrow' hdm hdl hk
        rcases ownsRow_two hrow with ⟨rfl, hk0⟩ | ⟨g, cap, rfl, hkc, hcm, hg1, hg2⟩
        · subst hk0
          gi_wp2
          rw [show (max (0 : Int) 1).toNat - 1 = 0 by omega]
          exact ⟨(KeepsOthers.setCell _ _ _).from _, (Below.refl w.heap.size W).setCell (p := ⟨w.heap.size, 0, none⟩) (Nat.le_refl _) _, ⟨_, hv.set _, by rw [HST.out, HDL.out, ← HDM.out]; exact World.ownsRow_nil _ _ _ _, trivial⟩, HB'.out _⟩
        · by_cases hk0 : k = 0
          · subst hk0
            gi_wp2
            rw [show (max (0 : Int) 1).toNat - 1 = 0 by omega]
            exact ⟨(KeepsOthers.setCell _ _ _).from _, (Below.refl w.heap.size W).setCell (p := ⟨w.heap.size, 0, none⟩) (Nat.le_refl _) _, ⟨_, hv.set _, by rw [HST.out, HDL.out, ← HDM.out]; exact ownsRow_cut (HR'.out _) (by omega), trivial⟩, HB'.out _⟩
          · obtain ⟨j, rfl⟩ : ∃ j, k = j + 1 := ⟨k - 1, by omega⟩
            gi_wp2
            rw [show (max ((j : Int) + 1) 1).toNat - 1 = j by omega]
            exact ⟨(KeepsOthers.setCell _ _ _).from _, (Below.refl w.heap.size W).setCell (p := ⟨w.heap.size, 0, none⟩) (Nat.le_refl _) _, ⟨_, hv.set _, by rw [HST.out, HDL.out, ← HDM.out]; exact ownsRow_cut (HR'.out _) (by omega), trivial⟩, HB'.out _⟩
      · have q2 : ((nm x).toList == [46, 46]) = false := by rw [b2]; exact beq_eq_false_iff_ne.2 h2
        have hst : fC (pre ++ [x]) = fC pre ++ [x] := by rw [fC_snoc]; unfold stepC; rw [if_neg h1, if_neg h2]
        have HST := Lib.hid hst; clear hst b1 b2 h1 h2
        have c1 := hv.cell
        gi_wp2_with (gi_at_builtin; refine wpListIn_append_own _ rfl _ _ 24 rfl w.heap.size 9 i0 (.string ByteArray.empty) 1 16 Tryd.underlying24 HI.out HZ0.out HZ1.out HZ2.out rfl (by decide) _ _ _ rfl (hrow.alloc _) ⟨W.heap.size, 0, none⟩ 1 1 [enc x] rfl rfl (cell_one_new _ _ _) (by simp [enc, Value.oneCell']) (by unfold maxLen; omega) (by omega) (by simp; omega) ?_; intro v' w1 hown' hgrow _; obtain ⟨g', cap', rfl⟩ := ownsRow_succ hown'; obtain ⟨hv1, hv2, hr2, hk2, hb2⟩ := hv.appended (by decide) hrow hB.size (by omega) hown' hgrow; have hc1 := hv1.cell; have hf1 := hv1.frozen)
        exact ⟨hk2.from _, hb2, ⟨_, hv2, by rw [HST.out]; simpa using hr2, trivial⟩, hB.trans hb2⟩
  case done =>
    rintro D ys W hD rfl ⟨⟨v, hv, hrow, _⟩, hB⟩ hK
    clear hcell hI0 hB0
    have hrl := rootJ_len p.data.toList
    rw [← sizeD] at hrl
    have hcl : cleanL p.data.toList = rootJ (fC (names p.data.toList)) := rfl
    rw [hcl] at hrl
    have HCL := Lib.hid hcl; clear hcl
    generalize fC (names p.data.toList) = acc at *
    have c1 := hv.cell
    have e2 : (⟨#[47]⟩ : ByteArray).data.toList ++ (nm (Lib.join acc [47])).data.toList = rootJ acc := rootJ_join acc
    have a2 := cat_nm ⟨#[47]⟩ (nm (Lib.join acc [47])) _ e2 (by omega)
    rcases ownsRow_two hrow with ⟨rfl, hk0⟩ | ⟨g, cap, rfl, hkc, hcm, hg1, hg2⟩
    · have hnil : acc = [] := List.length_eq_zero_iff.1 hk0
      subst hnil
      have hJ := fun W => Tryd.strings_Join_none none 0 ⟨#[47]⟩ W
      have HJ := Lib.hid hJ; clear hJ e2 hrow
      have a3 : ∀ W, (Op.stringOp .add ⟨#[47]⟩ ⟨#[]⟩).run Tryd.prog W = .ok (.string (nm (rootJ []))) W := a2
      clear a2
      gi_wp2_with (refine ⟨trivial, ?_⟩; gi_at_call 33; refine (callsIn_wide.2 (HJ.out _)).mono ?_; rintro e w' ⟨rfl, rfl⟩)
      refine ⟨by simp, .inl ⟨_, _, rfl, run_takeDeferred hK, ?_⟩⟩
      exact ⟨_, results_tmp rfl _ _ _, by rw [HCL.out]; rfl, hB.trans (belowK_b (w := w) (Nat.le_refl _) _ D _ _ (by omega) hK rfl rfl)⟩
    · have hJ := join_row acc hrow (by omega)
      have HJ := Lib.hid hJ; clear hJ e2
      have HK := Lib.hid hK; clear hK
      obtain ⟨RR, hRR⟩ : ∃ R, nm (rootJ acc) = R := ⟨_, rfl⟩
      rw [hRR] at a2
      have HRR := Lib.hid hRR; clear hRR
      generalize nm (Lib.join acc [47]) = JJ at *
      gi_wp2_with (refine ⟨trivial, ?_⟩; gi_at_call 33; refine (callsIn_wide.2 HJ.out).mono ?_; rintro e w1 ⟨rfl, hb1⟩)
      have hKb : w1.heap[D]? = some (.deferred (some [])) := (hb1.block D (Array.getElem?_eq_some_iff.1 HK.out).1).trans HK.out
      refine ⟨by simp, .inl ⟨_, _, rfl, run_takeDeferred hKb, ?_⟩⟩
      exact ⟨_, results_tmp rfl _ _ _, by rw [HCL.out, HRR.out]; rfl, (hB.trans (hb1.mono hB.size)).trans (belowK_b (w := w) (Nat.le_refl _) _ D _ _ (by omega) hKb rfl rfl)⟩
  case stop =>
    rintro D c pre W _ _ h _
    exact h.elim

end Go.Proofs.YtfchofdoabhakaaDoor
