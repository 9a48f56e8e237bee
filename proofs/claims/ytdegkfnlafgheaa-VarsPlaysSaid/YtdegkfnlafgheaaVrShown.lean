/- DERIVED. The law's shown and first. -/
import Derived.Test.YtdegkfnlafgheaaVrSame
import Derived.Test.YtdegkfnlafgheaaVrCopy
import Derived.Test.YtdegkfnlafgheaaVrLaw2
import Derived.Deep.RegionLaw
namespace Go.Proofs.Ytdegkfnlafgheaa.Vr
open Go.RowKit
open PathM WdM VrM
open Go.Proofs.Ytdegkfnlafgheaa.Wd
set_option linter.unusedVariables false
/-- A table shown. -/
def ShownPost (vs : Vs) (ps : List Bs) (st : Int) (w : World) (e : Ending) (w' : World) : Prop := ∃ v1 a1, e = .returned (tblV v1 a1 st) ∧ w'.ownsRow w.heap.size 26 2 v1 vs.length (vs.flatMap varC) ∧ w'.ownsRow w.heap.size 9 1 a1 ps.length (ps.map strC) ∧ Below w.heap.size w w'
theorem shown_fin {vs : Vs} {ps : List Bs} {st : Int} {w W : World} {v1 a1 y0 y1 y2 : Value} (hr : W.ownsRow (w.heap.size + 1) 26 2 v1 vs.length (vs.flatMap varC)) (ha : W.ownsRow (w.heap.size + 1) 9 1 a1 ps.length (ps.map strC)) (hb : Below w.heap.size w W) (x0 x1 x2 : Value) : ShownPost vs ps st w (.returned (tblV v1 a1 st)) (put3 W w.heap.size x0 x1 x2) := by
  have h0 : v1.ownBlock ≠ some w.heap.size := by intro e; have := (row_lt hr e).2; omega
  have h1 : a1.ownBlock ≠ some w.heap.size := by intro e; have := (row_lt ha e).2; omega
  refine ⟨v1, a1, rfl, row_base (base := w.heap.size + 1) ?_ (by omega), row_base (base := w.heap.size + 1) ?_ (by omega), put3_below hb (Nat.le_refl _)⟩
  · exact ownsRow_setCell_other (ownsRow_setCell_other (ownsRow_setCell_other hr (a := ⟨w.heap.size, 0, none⟩) h0 _) (a := ⟨w.heap.size, 1, none⟩) h0 _) (a := ⟨w.heap.size, 2, none⟩) h0 _
  · exact ownsRow_setCell_other (ownsRow_setCell_other (ownsRow_setCell_other ha (a := ⟨w.heap.size, 0, none⟩) h1 _) (a := ⟨w.heap.size, 1, none⟩) h1 _) (a := ⟨w.heap.size, 2, none⟩) h1 _
set_option maxRecDepth 100000 in
set_option maxHeartbeats 3200000 in
theorem shown_any (base tb : Nat) (st : Int) (vs : Vs) (vv av : Value) (ps : List Bs) (w : World) (h : TbX base w tb st vs vv ps av) :
    Calls Try.prog 14 #[.pointer (some ⟨tb, 0, none⟩)] w (ShownPost vs ps st w) := by
  have HT := Lib.hid h
  obtain ⟨W0, hW0⟩ : ∃ W0, W0 = (w.alloc (.cells #[.slice none 0 0, .slice none 0 0, .int .i64 0] 36)) := ⟨_, rfl⟩
  have hb0 : Below w.heap.size w W0 := by rw [hW0]; exact one_below _ _
  have hsz0 : W0.heap.size = w.heap.size + 1 := by rw [hW0]; simp
  have hx0 : W0.heap[w.heap.size]? = some (.cells #[.slice none 0 0, .slice none 0 0, .int .i64 0] 36 (0, 0)) := by rw [hW0]; exact heap_alloc_new w _
  have HV : Hid (∀ W, Below W0.heap.size W0 W → Calls Try.prog 22 #[.pointer (some ⟨tb, 0, none⟩)] W fun e w' => ∃ A c, e = .returned (.slice A vs.length c) ∧ w'.ownsRow (w.heap.size + 1) 26 2 (.slice A vs.length c) vs.length (vs.flatMap varC) ∧ Below W.heap.size W w') := Lib.hid (fun W hb => by
    refine (vars_any base tb st vs vv av ps W ((h.below hb0).below hb)).mono ?_
    rintro e w' ⟨v', rfl, hr, hb2⟩
    obtain ⟨A, c, rfl, _⟩ := row_form hr
    exact ⟨A, c, rfl, row_base hr (by have := hb.size; omega), hb2⟩)
  have HA : Hid (∀ W, Below W0.heap.size W0 W → Calls Try.prog 23 #[.pointer (some ⟨tb, 0, none⟩)] W fun e w' => ∃ A c, e = .returned (.slice A ps.length c) ∧ w'.ownsRow (w.heap.size + 1) 9 1 (.slice A ps.length c) ps.length (ps.map strC) ∧ Below W.heap.size W w') := Lib.hid (fun W hb => by
    refine (args_any tb st vv av ps W ((h.below hb0).below hb).t).mono ?_
    rintro e w' ⟨v', rfl, hr, hb2⟩
    obtain ⟨A, c, rfl, _⟩ := row_form hr
    exact ⟨A, c, rfl, row_base hr (by have := hb.size; omega), hb2⟩)
  have HC : Hid (∀ W, Below W0.heap.size W0 W → W.cell? ⟨tb, 0, none⟩ = some (.int .i64 st) ∧ tb < W.heap.size ∧ (W.cell? ⟨w.heap.size, 0, none⟩ = some (.slice none 0 0) ∧ W.cell? ⟨w.heap.size, 1, none⟩ = some (.slice none 0 0) ∧ W.cell? ⟨w.heap.size, 2, none⟩ = some (.int .i64 0)) ∧ (W.frozen? ⟨w.heap.size, 0, none⟩ = false ∧ W.frozen? ⟨w.heap.size, 1, none⟩ = false ∧ W.frozen? ⟨w.heap.size, 2, none⟩ = false) ∧ w.heap.size < W.heap.size) := Lib.hid (fun W hb => by
    have hT := (h.below hb0).below hb
    have hx := (hb.block w.heap.size (by omega)).trans hx0
    exact ⟨cell_blk hT.box 0, hT.lt, ⟨cell_blk hx 0, cell_blk hx 1, cell_blk hx 2⟩, ⟨froz_blk hx 0, froz_blk hx 1, froz_blk hx 2⟩, fin_at hx⟩)
  have HX : Hid (∀ W, Below W0.heap.size W0 W → Tb3 W w.heap.size none 0 0 none 0 0 0 ∧ Below w.heap.size w W) := Lib.hid (fun W hb => ⟨(hb.block w.heap.size (by omega)).trans hx0, hb0.trans (hb.mono hb0.size)⟩)
  have HF : Hid (∀ W A c A2 c2 x0 x1 x2, W.ownsRow (w.heap.size + 1) 26 2 (.slice A vs.length c) vs.length (vs.flatMap varC) → W.ownsRow (w.heap.size + 1) 9 1 (.slice A2 ps.length c2) ps.length (ps.map strC) → Below w.heap.size w W → ShownPost vs ps st w (.returned (tblV (.slice A vs.length c) (.slice A2 ps.length c2) st)) (put3 W w.heap.size x0 x1 x2)) := Lib.hid (fun W A c A2 c2 x0 x1 x2 hr ha hb => shown_fin (y0 := x0) (y1 := x0) (y2 := x0) hr ha hb x0 x1 x2)
  have HBD : Hid (Below W0.heap.size W0 W0.drew) := Lib.hid (Below.refl _ _).drew
  obtain ⟨k1, k2, ⟨k3, k4, k5⟩, ⟨k6, k7, k8⟩, k9⟩ := HC.out W0 (Below.refl _ _)
  have HW0 := Lib.hid hW0
  clear h hW0 hb0 hx0 hsz0
  generalize ShownPost vs ps st w = Q at *
  go_enter Try.func14, Try.ntmps14
  go_wp2_with fail
  rw [← HW0.out]
  go_region_law (first
    | (go_simp; go_at_call 22; refine (HV.out _ (by first | exact HBA.out | exact HBD.out)).mono ?_; rintro e WV ⟨AV, cV, rfl, hr, hb⟩; have HRV := Lib.hid hr; have HBV : Hid (Below W0.heap.size W0 WV) := Lib.hid (by first | exact HBA.out.trans (hb.mono HBA.out.size) | exact HBD.out.trans hb); have HSV := Lib.hid hb; obtain ⟨v1, v2, ⟨v3, v4, v5⟩, ⟨v6, v7, v8⟩, v9⟩ := HC.out WV HBV.out; clear hr hb)
    | (go_simp; go_at_call 23; refine (HA.out _ (by first | exact HBV.out | exact HBD.out)).mono ?_; rintro e WA ⟨AA, cA, rfl, hr, hb⟩; have HRA := Lib.hid hr; have HBA : Hid (Below W0.heap.size W0 WA) := Lib.hid (by first | exact HBV.out.trans (hb.mono HBV.out.size) | exact HBD.out.trans hb); have HSA := Lib.hid hb; obtain ⟨a1, a2, ⟨a3, a4, a5⟩, ⟨a6, a7, a8⟩, a9⟩ := HC.out WA HBA.out; clear hr hb))
  all_goals go_wp2_with fail
  all_goals first
    | (refine bodyPost_ret (results_cell_row rfl _ _ _ 36 _ (0, 0) _ rfl (put3_blk (HX.out WA HBA.out).1 (.slice AV vs.length cV) (.slice AA ps.length cA) (.int .i64 st)) Try.underlying36 rfl (by kernel_rfl)) rfl ?_
       exact HF.out WA AV cV AA cA _ _ _ (row_below HRV.out HSA.out) HRA.out (HX.out WA HBA.out).2)
    | (refine bodyPost_ret (results_cell_row rfl _ _ _ 36 _ (0, 0) _ rfl (put3_blk (HX.out WV HBV.out).1 (.slice AV vs.length cV) (.slice AA ps.length cA) (.int .i64 st)) Try.underlying36 rfl (by kernel_rfl)) rfl ?_
       exact HF.out WV AV cV AA cA _ _ _ HRV.out (row_below HRA.out HSV.out) (HX.out WV HBV.out).2)
/-- A table of variables alone. -/
def FirstPost (l : Vs) (w : World) (e : Ending) (w' : World) : Prop := Below w.heap.size w w' ∧ match newL l [] with
  | .ok vs => ∃ vv, e = .returned (tblV vv (.slice none 0 0) 0) ∧ VsIn w' vv vs ∧ ∀ k, vv.ownBlock = some k → w.heap.size ≤ k
  | .error _ => e = .returned (tblV (.slice none 0 0) (.slice none 0 0) 0)
set_option maxRecDepth 100000 in
set_option maxHeartbeats 3200000 in
theorem first_any (l : Vs) (v : Value) (w : World) (hv : VsX w v l) (vs : Vs) (hm : newL l [] = .ok vs) :
    Calls Try.prog 18 #[v] w fun e w' => Below w.heap.size w w' ∧ ∃ vv, e = .returned (tblV vv (.slice none 0 0) 0) ∧ VsIn w' vv vs ∧ ∀ k, vv.ownBlock = some k → w.heap.size ≤ k := by
  have ha : ∀ W, ArX W (.slice none 0 0) [] := fun W => ⟨ArIn.nil _ _ _, by simp, by simp⟩
  have HR : Hid (∀ W, Below w.heap.size w W → Calls Try.prog 11 #[v, .slice none 0 0] W fun e w' => Below W.heap.size W w' ∧ ∃ A c, e = .returned (.tuple #[.agg #[.slice A vs.length c, .slice none 0 0, .int .i64 0], .int .i64 0]) ∧ VsIn w' (.slice A vs.length c) vs ∧ ∀ k, (Value.slice A vs.length c).ownBlock = some k → W.heap.size ≤ k) := Lib.hid (fun W hb => by
    have := rnew_any l v [] (.slice none 0 0) W ⟨hv.1.below hb, hv.2⟩ (ha W)
    rw [hm] at this
    refine this.mono ?_
    rintro e w' ⟨hb2, vv, rfl, h3, h4⟩
    obtain ⟨A, c, rfl, _⟩ := h3.form
    exact ⟨hb2, A, c, rfl, h3, h4⟩)
  obtain ⟨W0, hW0⟩ : ∃ W0, W0 = (w.alloc (.cells #[.slice none 0 0, .slice none 0 0, .int .i64 0] 36)) := ⟨_, rfl⟩
  have hb0 : Below w.heap.size w W0 := by rw [hW0]; exact one_below _ _
  have hsz0 : W0.heap.size = w.heap.size + 1 := by rw [hW0]; simp
  have hx0 : W0.heap[w.heap.size]? = some (.cells #[.slice none 0 0, .slice none 0 0, .int .i64 0] 36 (0, 0)) := by rw [hW0]; exact heap_alloc_new w _
  have HW0 := Lib.hid hW0
  have HB0 := Lib.hid hb0
  have HX0 := Lib.hid hx0
  obtain ⟨A, c, rfl, _⟩ := hv.1.form
  clear hW0 hb0 hx0 hv ha hm
  generalize l.length = n at *
  unfold tblV
  go_enter Try.func18, Try.ntmps18
  go_wp2_with fail
  rw [← HW0.out]
  refine (HR.out W0 HB0.out).mono ?_
  rintro e W1 ⟨hb1, A1, c1, rfl, h3, h4⟩
  have hx := (hb1.block w.heap.size (by omega)).trans HX0.out
  have c0 := cell_blk hx 0
  have c1' := cell_blk hx 1
  have c2' := cell_blk hx 2
  simp at c0 c1' c2'
  have f0 := froz_blk hx 0
  have f1 := froz_blk hx 1
  have f2 := froz_blk hx 2
  have hz := fin_at hx
  have HX1 := Lib.hid hx
  have HB1 := below_then HB0 hb1
  have HV1 := Lib.hid h3
  have HF1 := Lib.hid h4
  clear hx hb1 h3 h4
  go_wp2_with fail
  have hT : Tb3 W1 w.heap.size none 0 0 none 0 0 0 := HX1.out
  have hba := one_below (put3 W1 w.heap.size (.slice A1 vs.length c1) (.slice none 0 0) (.int .i64 0)) (.cells #[.slice A1 vs.length c1, .slice none 0 0, .int .i64 0] 36)
  have hpb := put3_blk hT (.slice A1 vs.length c1) (.slice none 0 0) (.int .i64 0)
  refine bodyPost_ret (results_cell_row rfl _ _ _ 36 _ (0, 0) _ rfl ((hba.block _ (fin_at hpb)).trans hpb) Try.underlying36 rfl (by kernel_rfl)) rfl ?_
  have hpbl : Below w.heap.size w (put3 W1 w.heap.size (.slice A1 vs.length c1) (.slice none 0 0) (.int .i64 0)) := put3_below HB1.out (Nat.le_refl _)
  exact ⟨hpbl.trans (hba.mono hpbl.size), _, rfl, (HV1.out.put3 hT _ _ _).below hba, fun k hk => Nat.le_trans HB0.out.size (HF1.out k hk)⟩
end Go.Proofs.Ytdegkfnlafgheaa.Vr
