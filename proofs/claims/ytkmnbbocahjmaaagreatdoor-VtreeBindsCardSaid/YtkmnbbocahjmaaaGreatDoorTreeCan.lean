/- DERIVED. The walk of Canon of package tree. -/
import Derived.Test.YtkmnbbocahjmaaaGreatDoorTreeCan1
import Derived.Laws.ResultCell
import Derived.Laws.Rows
namespace Go.Proofs.YtkmnbbocahjmaaaGreatDoor
open Go.RowKit Go.Sort
open PathM TreeM
set_option linter.unusedVariables false

/-- What Canon answers. -/
def canonR (t : Tr) : Tr := if checkB t = true then canonT t else ⟨[], 0, 0, 0⟩
def CanonPost (t : Tr) (w : World) (e : Ending) (w' : World) : Prop :=
  ∃ nv', e = .returned (.tuple #[trV nv' (canonR t), .int .i64 (checkI t)]) ∧ NodesIn w' w'.heap.size nv' (canonR t).nodes ∧ Below w.heap.size w w'
theorem nodes_nil (w : World) (B : Nat) : NodesIn w B (.slice none 0 0) [] := ⟨none, 0, rfl, by simp, by simp, fun h => absurd rfl h⟩
theorem fin_at {n : Nat} {W : World} {o : Obj} (h : W.heap[n]? = some o) : n < W.heap.size := (Array.getElem?_eq_some_iff.1 h).1
theorem cell_blk {W : World} {b : Nat} {cs : Array Value} {t : TypeId} (h : W.heap[b]? = some (.cells cs t (0, 0))) (j : Nat) : W.cell? ⟨b, j, none⟩ = cs[j]? := by simp [World.cell?, h]
theorem froz_blk {W : World} {b : Nat} {cs : Array Value} {t : TypeId} (h : W.heap[b]? = some (.cells cs t (0, 0))) (j : Nat) : W.frozen? ⟨b, j, none⟩ = false := by simp [World.frozen?, h]
theorem set_blk {W : World} {b j : Nat} {cs : Array Value} {t : TypeId} (h : W.heap[b]? = some (.cells cs t (0, 0))) (u : Value) : (W.setCell ⟨b, j, none⟩ u).heap[b]? = some (.cells (cs.setIfInBounds j u) t (0, 0)) := heap_setCell_same W b j cs t u h

theorem results_cell2 {P : Program} {fn : Func} {p u : Tmp} {ty : TypeId} (h : fn.results = #[.cell p ty, .tmp u]) (tmps : Array Value) (w : World) (g : Nat) (t : TypeId) (cs : Array Value) (fr : Nat × Nat) (d : TypeDesc)
    (hp : tmps.getD p undef = .pointer (some ⟨g, 0, none⟩)) (hg : w.heap[g]? = some (.cells cs t fr))
    (hu : P.underlying ty = some d) (hd : (match d with | .struct _ | .array _ _ => true | _ => false) = true) (hi : (P.info? ty).map (·.size) = some cs.size) :
    (results fn tmps).run P w = .ok (.tuple #[.agg cs, tmps.getD u undef]) w := by
  rw [results_cell_tmp h, hp]
  simp [asAddr, Result.andThen, run_loadVar_row w g t ty cs fr d hg hu hd hi]
theorem Rowed.set {w : World} {base : Nat} {nv : Value} {l : List Nd} (h : Rowed w base nv l) {a : Addr} (ha : a.block < base) (u : Value) : Rowed (w.setCell a u) base nv l := by
  obtain ⟨ps, h1, h2, h3⟩ := h
  exact ⟨ps, h1, ownsRow_setCell_below h2 ha u, fun p hp => ownsRow_setCell_below (h3 p hp) ha u⟩
end Go.Proofs.YtkmnbbocahjmaaaGreatDoor
