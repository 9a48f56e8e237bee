/- DERIVED. The walks of New, two and awake. -/
import Derived.Test.YtkmnbbocahjmaaaGreatDoorTreeCan
namespace Go.Proofs.YtkmnbbocahjmaaaGreatDoor
open Go.RowKit Go.Sort
open PathM TreeM
set_option linter.unusedVariables false

def twoT : Tr := ⟨[⟨1, 1, 0, 0, 0, [], [⟨[97], 5⟩, ⟨[98], 5⟩]⟩, ⟨5, 2, 0, 0, 0, [], []⟩], 9, 0, 0⟩
def newT (rn rb : Int) : Tr := ⟨[⟨1, 1, 493, 0, 0, [], []⟩], 1, rn, rb⟩
def TreePost (t : Tr) (w : World) (e : Ending) (w' : World) : Prop := ∃ nv, e = .returned (trV nv t) ∧ NodesIn w' w'.heap.size nv t.nodes ∧ Below w.heap.size w w'

theorem blk1 (w : World) (A B C : Obj) : (((w.alloc A).alloc B).alloc C).heap[w.heap.size]? = some A := (heap_alloc_old _ _ (by simp; omega)).trans (heap_alloc2_old w A B)
theorem blk2 (w : World) (A B C : Obj) : (((w.alloc A).alloc B).alloc C).heap[w.heap.size + 1]? = some B := (heap_alloc_old _ _ (by simp)).trans (heap_alloc2_new w A B)
theorem blk3 (w : World) (A B C : Obj) : (((w.alloc A).alloc B).alloc C).heap[w.heap.size + 1 + 1]? = some C := by
  have h := heap_alloc_new ((w.alloc A).alloc B) C
  have e : ((w.alloc A).alloc B).heap.size = w.heap.size + 1 + 1 := by simp
  rwa [e] at h
theorem b3 (w : World) (A B C : Obj) : Below w.heap.size w (((w.alloc A).alloc B).alloc C) := (((Below.refl w.heap.size w).alloc (by simp) _).alloc (by simp) _).alloc (by simp; omega) _
theorem ents_nil (w : World) (B : Nat) : EntsIn w B (.slice none 0 0) [] := ⟨none, 0, rfl, by simp, by simp, by simp, fun h => absurd rfl h⟩

theorem two_check : checkB twoT = true := by decide
theorem two_canon : canonT twoT = ⟨[⟨1, 1, 0, 0, 0, [], [⟨[97], 2⟩, ⟨[98], 2⟩]⟩, ⟨2, 2, 0, 0, 0, [], []⟩], 2, 0, 0⟩ := by decide
theorem two_path : pathI twoT 5 = ([47, 97], true) := by decide
end Go.Proofs.YtkmnbbocahjmaaaGreatDoor
