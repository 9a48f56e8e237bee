/- DERIVED. The walk over Copy. -/
import Derived.Test.YtdegkfnlafgheaaVrDoQ
import Derived.Deep.RegionLaw
namespace Go.Proofs.Ytdegkfnlafgheaa.Vr
open Go.RowKit
open PathM WdM VrM
open Go.Proofs.Ytdegkfnlafgheaa.Wd
set_option linter.unusedVariables false
/-- How Copy ends: another table, all its own. -/
def CpyPost (base : Nat) (st : Int) (vs : Vs) (ps : List Bs) (w : World) (e : Ending) (w' : World) : Prop := ∃ cb vv av, e = .returned (.pointer (some ⟨cb, 0, none⟩)) ∧ TbX w.heap.size w' cb st vs vv ps av ∧ Below w.heap.size w w'
theorem cpy_fin {base tb : Nat} {st : Int} {vs : Vs} {vv av : Value} {ps : List Bs} {w W : World} {v1 a1 : Value} (h : TbX base w tb st vs vv ps av) (hr : W.ownsRow w.heap.size 26 2 v1 vs.length (vs.flatMap varC)) (ha : W.ownsRow w.heap.size 9 1 a1 ps.length (ps.map strC)) (hap : ∀ k, a1.ownBlock = some k → v1.ownBlock ≠ some k) (hb : Below w.heap.size w W) : CpyPost base st vs ps w (.returned (.pointer (some ⟨W.heap.size, 0, none⟩))) (W.alloc (.cells #[.int .i64 st, .bool true, v1, a1] 47)) := by
  have hb2 := one_below W (.cells #[.int .i64 st, .bool true, v1, a1] 47)
  refine ⟨W.heap.size, v1, a1, rfl, ⟨heap_alloc_new W _, row_below hr hb2, row_below ha hb2, fun e => ?_, fun e => ?_, hap, hb.size, h.len, h.srt, h.vlen, h.plen, h.plens⟩, hb.trans (hb2.mono hb.size)⟩
  · have := (row_lt hr e).1; omega
  · have := (row_lt ha e).1; omega
set_option maxRecDepth 100000 in
set_option maxHeartbeats 3200000 in
theorem copy_any (base tb : Nat) (st : Int) (vs : Vs) (vv av : Value) (ps : List Bs) (w : World) (h : TbX base w tb st vs vv ps av) :
    Calls Try.prog 21 #[.pointer (some ⟨tb, 0, none⟩)] w (CpyPost base st vs ps w) := by
  have HN := h.nn
  have HT := Lib.hid h
  obtain ⟨A1, c1, hvf, _⟩ := row_form h.row
  obtain ⟨A2, c2, haf, _⟩ := row_form h.arow
  have HV : Hid (∀ W, Below w.heap.size w W → Calls Try.prog 47 #[vv] W fun e w' => ∃ A c, e = .returned (.slice A vs.length c) ∧ W.heap.size ≤ W.heap.size ∧ w'.ownsRow W.heap.size 26 2 (.slice A vs.length c) vs.length (vs.flatMap varC) ∧ Below W.heap.size W w') := Lib.hid (fun W hb => (copiedV_any vs vv W (h.below hb).vs_in (by have := h.len; omega)).mono (by
    rintro e w' ⟨v', rfl, hr, hb2⟩
    obtain ⟨A, c, rfl, _⟩ := row_form hr
    exact ⟨A, c, rfl, Nat.le_refl _, hr, hb2⟩))
  have HA : Hid (∀ W, Below w.heap.size w W → Calls Try.prog 48 #[av] W fun e w' => ∃ A c, e = .returned (.slice A ps.length c) ∧ w'.ownsRow W.heap.size 9 1 (.slice A ps.length c) ps.length (ps.map strC) ∧ Below W.heap.size W w') := Lib.hid (fun W hb => (copied_any ps av W (h.below hb).t.args h.plen).mono (by
    rintro e w' ⟨v', rfl, hr, hb2⟩
    obtain ⟨A, c, rfl, _⟩ := row_form hr
    exact ⟨A, c, rfl, hr, hb2⟩))
  have HC : Hid (∀ W, Below w.heap.size w W → W.cell? ⟨tb, 0, none⟩ = some (.int .i64 st) ∧ W.cell? ⟨tb, 2, none⟩ = some vv ∧ W.cell? ⟨tb, 3, none⟩ = some av ∧ tb < W.heap.size) := Lib.hid (fun W hb => ⟨cell_blk (h.below hb).box 0, cell_blk (h.below hb).box 2, cell_blk (h.below hb).box 3, (h.below hb).lt⟩)
  have HBD : Hid (Below w.heap.size w w.drew) := Lib.hid (Below.refl _ _).drew
  subst hvf
  subst haf
  obtain ⟨k1, k2, k3, k4⟩ := HC.out w (Below.refl _ _)
  have HF : Hid (∀ W A c A' c', W.ownsRow w.heap.size 26 2 (.slice A vs.length c) vs.length (vs.flatMap varC) → W.ownsRow w.heap.size 9 1 (.slice A' ps.length c') ps.length (ps.map strC) → (∀ k, (Value.slice A' ps.length c').ownBlock = some k → (Value.slice A vs.length c).ownBlock ≠ some k) → Below w.heap.size w W → CpyPost base st vs ps w (.returned (.pointer (some ⟨W.heap.size, 0, none⟩))) (W.alloc (.cells #[.int .i64 st, .bool true, .slice A vs.length c, .slice A' ps.length c'] 47))) := Lib.hid (fun W A c A' c' hr ha hap hb => cpy_fin h hr ha hap hb)
  clear h
  generalize CpyPost base st vs ps w = Q at *
  go_enter Try.func21, Try.ntmps21
  go_wp2_with (first | (go_at_call 31; refine (HN.out _ (Below.refl _ _)).mono ?_; rintro e W ⟨rfl, rfl⟩))
  go_region_law (first
    | (go_simp; go_at_call 47; refine (HV.out _ (by first | exact HBA.out | exact HBD.out)).mono ?_; rintro e WV ⟨AV, cV, rfl, _, hr, hb⟩; have HRV := Lib.hid hr; have HBV : Hid (Below w.heap.size w WV) := Lib.hid (by first | exact HBA.out.trans (hb.mono HBA.out.size) | exact HBD.out.trans hb); have HSV := Lib.hid hb; obtain ⟨v1, v2, v3, v4⟩ := HC.out WV HBV.out; clear hr hb)
    | (go_simp; go_at_call 48; refine (HA.out _ (by first | exact HBV.out | exact HBD.out)).mono ?_; rintro e WA ⟨AA, cA, rfl, hr, hb⟩; have HRA := Lib.hid hr; have HBA : Hid (Below w.heap.size w WA) := Lib.hid (by first | exact HBV.out.trans (hb.mono HBV.out.size) | exact HBD.out.trans hb); have HSA := Lib.hid hb; obtain ⟨a1, a2, a3, a4⟩ := HC.out WA HBA.out; clear hr hb))
  all_goals go_wp2_with fail
  all_goals go_ret
  all_goals first
    | exact HF.out WA AV cV AA cA (row_below (row_base HRV.out (by first | exact HBD.out.size | exact Nat.le_refl _)) HSA.out) (row_base HRA.out HBV.out.size) (fun k hk e => by have := (row_lt HRA.out hk).2; have := (row_lt HRV.out e).1; omega) HBA.out
    | exact HF.out WV AV cV AA cA (row_base HRV.out HBA.out.size) (row_below (row_base HRA.out (by first | exact HBD.out.size | exact Nat.le_refl _)) HSV.out) (fun k hk e => by have := (row_lt HRA.out hk).1; have := (row_lt HRV.out e).2; omega) HBV.out
end Go.Proofs.Ytdegkfnlafgheaa.Vr
