/- DERIVED. The walk of Path of package tree. -/
import Derived.Test.YtkmnbbocahjmaaaGreatDoorTreeNames
namespace Go.Proofs.YtkmnbbocahjmaaaGreatDoor
open Go.RowKit Go.Sort
open PathM TreeM
set_option linter.unusedVariables false

/-- What a tree that may be has. -/
theorem check_facts {t : Tr} (h : checkB t = true) : Rising t.nodes ∧ t.nodes.length ≤ 512 ∧ 0 < t.nodes.length ∧ place t.nodes 1 < t.nodes.length ∧ (∀ x ∈ flat t.nodes, place t.nodes x.to < t.nodes.length) ∧
    (way t.nodes).length = t.nodes.length ∧ (∀ i, i < t.nodes.length → entsB (ndAt t.nodes i).es = true) := by
  obtain ⟨hh, hn, hp, hl, hr⟩ := check_parts h
  obtain ⟨k1, k2, k3, k4⟩ := head_parts hh
  exact ⟨check_rising h, k2, by omega, place_lt (i := 0) (by omega) k3, fun x hx => (led_mem hl hx).1, by simpa [reachedB] using hr, fun i hi => check_ents h hi⟩
theorem way_fr (nodes : List Nd) : ∀ j, 0 < j → j < (way nodes).length → (itAt (way nodes) j).fr < j := fun j h0 hj => (way_ln nodes).fr h0 hj
theorem flatS_bound : ∀ (ns : List Bs), (∀ n ∈ ns, n.length ≤ 64) → (flatS ns).length ≤ ns.length * 65 := by
  intro ns
  induction ns with
  | nil => intro _; simp [flatS]
  | cons a l ih =>
    intro h
    have := ih (fun n hn => h n (by simp [hn]))
    have ha := h a (by simp)
    simp only [flatS, List.map_cons, List.flatten_cons, List.length_append, List.length_cons] at this ⊢
    omega
theorem names_fit {nodes : List Nd} (hn : ∀ i, i < nodes.length → entsB (ndAt nodes i).es = true) (hl : (way nodes).length ≤ 512) {k : Nat} (hk : k < (way nodes).length) :
    (back (way nodes) (way nodes).length k).reverse.length ≤ 512 ∧ (Lib.join (back (way nodes) (way nodes).length k).reverse [47]).length ≤ 33280 ∧ (itAt (way nodes) k).path = pathOf (back (way nodes) (way nodes).length k).reverse ∧ (itAt (way nodes) k).path.length ≤ 33281 := by
  obtain ⟨h1, h2⟩ := back_names (way_wy nodes) (way_ln nodes) hn (way nodes).length k (by omega) hk
  have h3 := back_len (l := way nodes) (way nodes).length k
  have h4 := flatS_bound (back (way nodes) (way nodes).length k).reverse (fun n hm => (nameB_parts (h1 n (List.mem_reverse.1 hm))).2.2)
  rw [List.length_reverse] at h4
  have h5 := rootJ_join (back (way nodes) (way nodes).length k).reverse
  have h6 : (rootJ (back (way nodes) (way nodes).length k).reverse).length ≤ 33281 := by
    unfold rootJ; split
    · simp
    · omega
  refine ⟨by rw [List.length_reverse]; omega, ?_, h2, ?_⟩
  · have := congrArg List.length h5
    simp only [List.length_cons] at this
    omega
  · rw [h2, pathOf_rootJ]; exact h6

/-- The first path to a node. -/
def pathI (t : Tr) (id : Int) : Bs × Bool :=
  if checkB t = true then (if met (way t.nodes) id = true then ((itAt (way t.nodes) (metAt (way t.nodes) id)).path, true) else ([], false)) else ([], false)
theorem ret_sb {a b : ByteArray} {x y : Bool} (h : a = b) (h2 : x = y) : Ending.returned (.tuple #[.string a, .bool x]) = .returned (.tuple #[.string b, .bool y]) := by rw [h, h2]

end Go.Proofs.YtkmnbbocahjmaaaGreatDoor
