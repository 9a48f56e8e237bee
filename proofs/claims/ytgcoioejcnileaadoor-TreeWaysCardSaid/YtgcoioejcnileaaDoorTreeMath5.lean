/- DERIVED. Plain mathematics of layer 4: a tree numbered anew may be, and is numbered so already. -/
import Derived.Test.YtgcoioejcnileaaDoorTreeMath4
namespace TreeM
open PathM
set_option linter.unusedVariables false

def rhoC (l : List Item) (id : Int) : Int := (metAt l id : Int) + 1
def tauC (nodes : List Nd) (l : List Item) (i : Nat) : Nat := metAt l (ndAt nodes i).id
theorem canon_iso {t : Tr} (h : checkB t = true) : Iso t.nodes (canonN t.nodes (way t.nodes)) (rhoC (way t.nodes)) (tauC t.nodes (way t.nodes)) := by
  obtain ⟨hh, hn, hp, hl, hr⟩ := check_parts h
  have hri := check_rising h
  have hwl : (way t.nodes).length = t.nodes.length := by simpa [reachedB] using hr
  have hmet : ∀ i, i < t.nodes.length → met (way t.nodes) (ndAt t.nodes i).id = true := fun i hi => reached_met hr (place_lt hi rfl)
  have hw := way_wy t.nodes
  refine ⟨?_, ?_, ?_, ?_, ?_, ?_⟩
  · rw [canon_len, hwl]
  · intro i j hij hj
    rw [canon_len] at hj
    rw [canon_at (by omega), canon_at hj]
    show ((i : Int) + 1) < ((j : Int) + 1)
    omega
  · intro i hi
    have := metAt_lt (hmet i hi)
    unfold tauC; omega
  · intro i j hi hj e
    have e1 : metAt (way t.nodes) (ndAt t.nodes i).id = metAt (way t.nodes) (ndAt t.nodes j).id := by
      simp only [rhoC] at e; omega
    rw [← metAt_id (hmet i hi), ← metAt_id (hmet j hj), e1]
  · intro x hx
    exact (led_mem hl hx).1
  · intro i hi
    have hlt := metAt_lt (hmet i hi)
    unfold tauC
    rw [canon_at hlt]
    have hnode : (itAt (way t.nodes) (metAt (way t.nodes) (ndAt t.nodes i).id)).node = i := by
      have h1 := (hw.at_ _ (itAt_mem hlt)).2
      rw [h1, metAt_id (hmet i hi)]
      exact hri.place hi
    unfold canonAt
    rw [hnode]
    rfl
theorem canon_root {t : Tr} (h : checkB t = true) : rhoC (way t.nodes) 1 = 1 ∧ place t.nodes 1 < t.nodes.length := by
  obtain ⟨hh, hn, hp, hl, hr⟩ := check_parts h
  obtain ⟨k1, k2, k3, k4⟩ := head_parts hh
  have hwl : (way t.nodes).length = t.nodes.length := by simpa [reachedB] using hr
  have h0 : 0 < (way t.nodes).length := by omega
  have hid := ((way_ln t.nodes).root h0).2
  have := (way_wy t.nodes).metAt h0
  rw [hid] at this
  exact ⟨by unfold rhoC; rw [this]; rfl, place_lt (i := 0) (by omega) k3⟩
theorem canon_check {t : Tr} (h : checkB t = true) : checkB (canonT t) = true := by
  obtain ⟨hh, hn, hp, hl, hr⟩ := check_parts h
  obtain ⟨k1, k2, k3, k4⟩ := head_parts hh
  have hri := check_rising h
  have hwl : (way t.nodes).length = t.nodes.length := by simpa [reachedB] using hr
  have hI := canon_iso h
  obtain ⟨r1, r2⟩ := canon_root h
  have hlen : (canonN t.nodes (way t.nodes)).length = t.nodes.length := by rw [canon_len, hwl]
  have h0 : 0 < (way t.nodes).length := by omega
  have hid := ((way_ln t.nodes).root h0).2
  have hnode : (itAt (way t.nodes) 0).node = 0 := by
    rw [((way_wy t.nodes).at_ _ (itAt_mem h0)).2, hid]; exact check_place1 h
  refine check_of ?_ ?_ (hI.nodesB hri hp) (hI.ledB hri r1 r2 hl) (hI.reachedB r1 r2 hr)
  · show headB (canonT t) = true
    unfold headB
    simp only [decide_eq_true_eq]
    show 1 ≤ (canonN t.nodes (way t.nodes)).length ∧ (canonN t.nodes (way t.nodes)).length ≤ 512 ∧ (ndAt (canonN t.nodes (way t.nodes)) 0).id = 1 ∧ (ndAt (canonN t.nodes (way t.nodes)) 0).kind = 1
    rw [hlen, canon_at h0]
    refine ⟨k1, k2, rfl, ?_⟩
    show (ndAt t.nodes (itAt (way t.nodes) 0).node).kind = 1
    rw [hnode]; exact k4
  · refine allTo_iff.2 (fun i hi => ?_)
    have hi : i < (way t.nodes).length := by rw [← canon_len t.nodes]; exact hi
    show okNum (canonN t.nodes (way t.nodes)) ((way t.nodes).length : Int) i = true
    unfold okNum
    rw [canon_at hi]
    simp only [Bool.and_eq_true, decide_eq_true_eq, Bool.or_eq_true, beq_iff_eq]
    refine ⟨by show (i : Int) + 1 ≤ _; omega, ?_⟩
    by_cases e : i = 0
    · exact .inl e
    · right
      rw [canon_at (by omega)]
      show (((i - 1 : Nat) : Int) + 1) < (i : Int) + 1
      omega
/-- Numbered anew once more it is as it was. -/
theorem canon_canon {t : Tr} (h : checkB t = true) : canonT (canonT t) = canonT t := by
  have hI := canon_iso h
  obtain ⟨r1, r2⟩ := canon_root h
  have h1 := hI.canon r1 r2
  have h2 := hI.way r1 r2
  show (⟨canonN (canonN t.nodes (way t.nodes)) (way (canonN t.nodes (way t.nodes))), (way (canonN t.nodes (way t.nodes))).length, t.rn, t.rb⟩ : Tr) = ⟨canonN t.nodes (way t.nodes), (way t.nodes).length, t.rn, t.rb⟩
  rw [h1, h2, List.length_map]

end TreeM
