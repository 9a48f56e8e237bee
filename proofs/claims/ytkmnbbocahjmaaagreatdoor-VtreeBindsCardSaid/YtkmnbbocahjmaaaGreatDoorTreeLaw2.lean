/- DERIVED. The walk of the law TreeChecks. -/
import Derived.Test.YtkmnbbocahjmaaaGreatDoorTreeLaw1
import Derived.Test.YtkmnbbocahjmaaaGreatDoorTreeRChk
import Derived.Deep.RegionHeld3
namespace Go.Proofs.YtkmnbbocahjmaaaGreatDoor
open Go.RowKit Go.Sort
open PathM TreeM
set_option linter.unusedVariables false

/-- The boxes of a tree and of a room, as they were laid; what was there before stays. -/
def CS (w : World) (a0 a1 a2 a3 r0 r1 : Value) (W : World) : Prop :=
  W.cell? ⟨w.heap.size, 0, none⟩ = some a0 ∧ W.cell? ⟨w.heap.size, 1, none⟩ = some a1 ∧ W.cell? ⟨w.heap.size, 2, none⟩ = some a2 ∧ W.cell? ⟨w.heap.size, 3, none⟩ = some a3 ∧
    W.cell? ⟨w.heap.size + 1, 0, none⟩ = some r0 ∧ W.cell? ⟨w.heap.size + 1, 1, none⟩ = some r1 ∧ Below w.heap.size w W ∧ w.heap.size + 1 < W.heap.size
theorem CS.next {w W W' : World} {a0 a1 a2 a3 r0 r1 : Value} (h : CS w a0 a1 a2 a3 r0 r1 W) (hb : Below W.heap.size W W') : CS w a0 a1 a2 a3 r0 r1 W' := by
  obtain ⟨h0, h1, h2, h3, h4, h5, h6, h7⟩ := h
  have hs := hb.size
  exact ⟨(hb.cell (p := ⟨w.heap.size, 0, none⟩) (by simp; omega)).trans h0, (hb.cell (p := ⟨w.heap.size, 1, none⟩) (by simp; omega)).trans h1, (hb.cell (p := ⟨w.heap.size, 2, none⟩) (by simp; omega)).trans h2, (hb.cell (p := ⟨w.heap.size, 3, none⟩) (by simp; omega)).trans h3,
    (hb.cell (p := ⟨w.heap.size + 1, 0, none⟩) (by simp; omega)).trans h4, (hb.cell (p := ⟨w.heap.size + 1, 1, none⟩) (by simp; omega)).trans h5, h6.trans (hb.mono (by omega)), by omega⟩
theorem CS.bel {w W : World} {a0 a1 a2 a3 r0 r1 : Value} (h : CS w a0 a1 a2 a3 r0 r1 W) : Below w.heap.size w W := h.2.2.2.2.2.2.1
theorem CS.made (w : World) (a0 a1 a2 a3 r0 r1 : Value) (s t : TypeId) : CS w a0 a1 a2 a3 r0 r1 ((w.alloc (.cells #[a0, a1, a2, a3] s)).alloc (.cells #[r0, r1] t)) := by
  have h1 := heap_alloc2_old w (.cells #[a0, a1, a2, a3] s) (.cells #[r0, r1] t)
  have h2 := heap_alloc2_new w (.cells #[a0, a1, a2, a3] s) (.cells #[r0, r1] t)
  exact ⟨(cell_blk h1 _).trans rfl, (cell_blk h1 _).trans rfl, (cell_blk h1 _).trans rfl, (cell_blk h1 _).trans rfl, (cell_blk h2 _).trans rfl, (cell_blk h2 _).trans rfl, ((Below.refl _ _).alloc (Nat.le_refl _) _).alloc (by simp) _, by simp⟩
theorem exact_new (v u : Value) (rn rb : Int) (w : World) (h : NodesIn w w.heap.size v (newT rn rb).nodes) (h' : NodesIn w w.heap.size u (newT rn rb).nodes) :
    Calls Tryz.prog 25 #[trV v (newT rn rb), trV u (newT rn rb)] w fun e w' => e = .returned (.bool true) ∧ Below w.heap.size w w' := by
  refine (rexact_any v u (newT rn rb) (newT rn rb) _ w h h' (Nat.le_refl _)).mono ?_
  rintro e w' ⟨rfl, hb⟩
  exact ⟨ret_bool (by simp), hb⟩

end Go.Proofs.YtkmnbbocahjmaaaGreatDoor
