/- DERIVED. Plain mathematics of layer 4: a path is gone name by name. -/
import Derived.Test.YtgcoioejcnileaaDoorTreeMath2
namespace TreeM
open PathM
set_option linter.unusedVariables false

theorem pathOf_cut (done : List Bs) (n : Bs) (rest : List Bs) : pathOf (done ++ n :: rest) = (flatS done ++ [47]) ++ n ++ flatS rest := by
  unfold pathOf
  rw [if_neg (by simp)]
  simp [flatS, List.flatMap_def]
theorem pathOf_len_end {done : List Bs} (h : done ≠ []) : (pathOf done).length < (flatS done).length + 1 := by
  unfold pathOf
  rw [if_neg h]
  simp [flatS, List.flatMap_def]
theorem flatS_head (rest : List Bs) : (rest = [] ∧ flatS rest = []) ∨ ∃ Y, rest ≠ [] ∧ flatS rest = 47 :: Y := by
  cases rest with
  | nil => exact .inl ⟨rfl, rfl⟩
  | cons a l => exact .inr ⟨a ++ flatS l, by simp, by simp [flatS]⟩
theorem flatS_next (done : List Bs) (n : Bs) : (flatS (done ++ [n])).length + 1 = (flatS done).length + 1 + n.length + 1 := by
  rw [flatS_snoc]; simp; omega

theorem cut_in {L X n Y : Bs} (h : L = X ++ n ++ Y) (h47 : 47 ∉ n) {j : Nat} (h1 : X.length ≤ j) (h2 : j < X.length + n.length) (hj : j < L.length) : L[j] ≠ 47 := by
  subst h
  intro e
  have h3 : (X ++ n ++ Y)[j]? = some 47 := by rw [List.getElem?_eq_getElem hj, e]
  rw [List.append_assoc, List.getElem?_append_right h1, List.getElem?_append_left (by omega)] at h3
  exact h47 (List.mem_of_getElem? h3)
theorem cut_at {L X n Y : Bs} (h : L = X ++ n ++ 47 :: Y) (hj : X.length + n.length < L.length) : L[X.length + n.length] = 47 := by
  subst h
  rw [List.getElem_append_right (by simp)]
  simp
theorem cut_text {L X n Y : Bs} (h : L = X ++ n ++ Y) : (L.take (X.length + n.length)).drop X.length = n := by
  subst h
  rw [← List.length_append, List.take_left, List.drop_left]
theorem cut_len {L X n Y : Bs} (h : L = X ++ n ++ Y) : L.length = X.length + n.length + Y.length := by subst h; simp; omega

/-- The way to a node, by its names. -/
theorem goTo_of_check {t : Tr} {k : Nat} (hn : ∀ i, i < t.nodes.length → entsB (ndAt t.nodes i).es = true) (hk : k < (way t.nodes).length) : goTo t.nodes 1 (back (way t.nodes) (way t.nodes).length k).reverse = some (itAt (way t.nodes) k).id :=
  back_goTo (way_wy t.nodes) (way_ln t.nodes) hn (way t.nodes).length k (by omega) hk
theorem goTo_cons {nodes : List Nd} {a id : Int} {n : Bs} {ns : List Bs} (h : goTo nodes a (n :: ns) = some id) :
    ∃ b, place nodes a < nodes.length ∧ childO (ndAt nodes (place nodes a)).es n = some b ∧ goTo nodes b ns = some id := by
  rw [goTo] at h
  cases hs : stepTo nodes a n with
  | none => rw [hs] at h; simp at h
  | some b =>
    rw [hs] at h
    simp only [Option.bind_some] at h
    unfold stepTo at hs
    split at hs
    · exact ⟨b, by assumption, hs, h⟩
    · cases hs

end TreeM
