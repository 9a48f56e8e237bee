/- DERIVED. Walks: SameNode of package tree, and the library's Equal and EqualFunc that it and Same call. -/
import Derived.Test.YtkmnbbocahjmaaaGreatDoorTreeChk2
import Derived.Laws.StructEq
namespace Go.Proofs.YtkmnbbocahjmaaaGreatDoor
open Go.RowKit Go.Sort
open PathM TreeM
set_option linter.unusedVariables false

theorem eq59 (a b : ByteArray) (x y : Int) (w : World) : (Op.equalIn 10000 75 (.agg #[.string a, .int .i64 x]) (.agg #[.string b, .int .i64 y])).run Tryz.prog w = .ok (a.toList == b.toList && x == y) w := by
  have u3 := Tryz.underlying3
  have a3 := Tryz.isAgg3
  have z3 := Tryz.sizeOf3
  have u9 := Tryz.underlying9
  have a9 := Tryz.isAgg9
  have z9 := Tryz.sizeOf9
  have hS : Tryz.prog.underlying 75 = some (.struct (Tryz.prog.fieldsOf 75)) := by kernel_rfl
  have hp : Tryz.prog.stoodInHeld 75 = false := by kernel_rfl
  rw [show (10000 : Nat) = 9999 + 1 from rfl, run_equalIn_agg w 9999 75 _ _ hS hp]
  simp only [Program.fieldsOf, Tryz.underlying75]
  go_simp
  by_cases h1 : a.toList = b.toList <;> by_cases h2 : x = y <;> simp [h1, h2]

theorem ent_neq (a b : Ent) (w : World) : (binOp .neq 75 (.agg #[.string (nm a.key), .int .i64 a.to]) (.agg #[.string (nm b.key), .int .i64 b.to])).run Tryz.prog w = .ok (.bool (!decide (a = b))) w := by
  rw [run_neq_struct, eq59]
  have h : ((nm a.key).toList == (nm b.key).toList && a.to == b.to) = decide (a = b) := by
    rw [listD, listD]
    show (a.key == b.key && a.to == b.to) = _
    obtain ⟨ak, at_⟩ := a
    obtain ⟨bk, bt⟩ := b
    rw [Bool.eq_iff_iff]; simp
  rw [h]; rfl

theorem ents_eq {a b : List Ent} (hl : a.length = b.length) : allTo (fun i => decide (entAt a i = entAt b i)) a.length = decide (a = b) := by
  rw [Bool.eq_iff_iff, allTo_iff]
  constructor
  · intro h
    simp only [decide_eq_true_eq]
    refine List.ext_getElem hl (fun i h1 h2 => ?_)
    have := h i h1
    simpa [entAt, h1, h2] using this
  · intro h i hi
    simp only [decide_eq_true_eq] at h ⊢
    rw [h]
theorem nds_eq {a b : List Nd} (hl : a.length = b.length) : allTo (fun i => decide (ndAt a i = ndAt b i)) a.length = decide (a = b) := by
  rw [Bool.eq_iff_iff, allTo_iff]
  constructor
  · intro h
    simp only [decide_eq_true_eq]
    refine List.ext_getElem hl (fun i h1 h2 => ?_)
    have := h i h1
    simpa [ndAt, h1, h2] using this
  · intro h i hi
    simp only [decide_eq_true_eq] at h ⊢
    rw [h]

/-- It returns a bool; the world has drawn. -/
def QuietB (b : Bool) (w : World) (e : Ending) (w' : World) : Prop := e = .returned (.bool b) ∧ ∃ q, w' = w.drewN q

/-- It returns a bool; what was there before stays. -/
def BelowB (b : Bool) (w : World) (e : Ending) (w' : World) : Prop := e = .returned (.bool b) ∧ Below w.heap.size w w'

end Go.Proofs.YtkmnbbocahjmaaaGreatDoor
