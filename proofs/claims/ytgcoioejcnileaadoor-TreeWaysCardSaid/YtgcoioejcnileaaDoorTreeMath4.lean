/- DERIVED. Plain mathematics of layer 4: a tree with other numbers may be where the first one may; a tree numbered anew is such a one. -/
import Derived.Test.YtgcoioejcnileaaDoorTreeMath3
namespace TreeM
open PathM
set_option linter.unusedVariables false

section
variable {A B : List Nd} {ρ : Int → Int} {τ : Nat → Nat}
theorem Iso.perm (h : Iso A B ρ τ) (hA : Rising A) : ((List.range A.length).map τ).Perm (List.range A.length) := by
  refine range_perm _ _ ?_ ?_ (by simp)
  · rw [List.nodup_iff_pairwise_ne, List.pairwise_map]
    refine List.Pairwise.imp_of_mem ?_ List.nodup_range
    intro i j hi hj hne e
    have hi : i < A.length := by simpa using hi
    have hj : j < A.length := by simpa using hj
    have h1 := h.at_ i hi
    have h2 := h.at_ j hj
    rw [e, h2] at h1
    have h3 : ρ (ndAt A j).id = ρ (ndAt A i).id := congrArg Nd.id h1
    exact hne (hA.inj hi hj (h.inj _ _ hj hi h3).symm)
  · intro x hx
    obtain ⟨i, hi, rfl⟩ := List.mem_map.1 hx
    exact h.lt i (by simpa using hi)
theorem Iso.all (h : Iso A B ρ τ) (hA : Rising A) {p : Nat → Prop} (hp : ∀ i, i < A.length → p (τ i)) : ∀ k, k < B.length → p k := by
  intro k hk
  have hm : k ∈ (List.range A.length).map τ := (h.perm hA).symm.subset (by rw [h.len] at hk; simpa using hk)
  obtain ⟨i, hi, rfl⟩ := List.mem_map.1 hm
  exact hp i (by simpa using hi)
theorem Iso.flat (h : Iso A B ρ τ) (hA : Rising A) : (TreeM.flat B).Perm ((TreeM.flat A).map (reE ρ)) := by
  have e1 : TreeM.flat B = (List.range A.length).flatMap fun i => (ndAt B i).es := by rw [flat_range, h.len]
  have e2 : (TreeM.flat A).map (reE ρ) = ((List.range A.length).map τ).flatMap fun i => (ndAt B i).es := by
    rw [flat_range A, List.map_flatMap, List.flatMap_map]
    rw [List.flatMap_def, List.flatMap_def]
    congr 1
    refine List.map_congr_left (fun i hi => ?_)
    rw [h.at_ i (by simpa using hi)]; rfl
  rw [e1, e2]
  exact ((h.perm hA).symm).flatMap_right _
theorem Iso.links (h : Iso A B ρ τ) (hA : Rising A) {a : Int} (ha : TreeM.place A a < A.length) : TreeM.links B (ρ a) = TreeM.links A a := by
  unfold TreeM.links
  rw [(h.flat hA).countP_eq, List.countP_map]
  refine List.countP_congr (fun x hx => ?_)
  show (ρ x.to == ρ a) = true ↔ (x.to == a) = true
  simp only [beq_iff_eq]
  exact ⟨fun e => h.inj' (h.led x hx) ha e, fun e => by rw [e]⟩
theorem Iso.nodesB (h : Iso A B ρ τ) (hA : Rising A) (hn : TreeM.nodesB A = true) : TreeM.nodesB B = true := by
  unfold TreeM.nodesB at hn ⊢
  refine allTo_iff.2 (h.all hA (fun i hi => ?_))
  rw [h.at_ i hi, plainB_re]
  exact allTo_iff.1 hn i hi
theorem Iso.ledB (h : Iso A B ρ τ) (hA : Rising A) (h1 : ρ 1 = 1) (hp1 : TreeM.place A 1 < A.length) (hn : TreeM.ledB A = true) : TreeM.ledB B = true := by
  unfold TreeM.ledB
  refine List.all_eq_true.2 (fun y hy => ?_)
  obtain ⟨x, hx, rfl⟩ := List.mem_map.1 ((h.flat hA).subset hy)
  have hm := led_mem hn hx
  have hpl := h.place hm.1
  show okLed B ⟨x.key, ρ x.to⟩ = true
  simp only [okLed, Bool.and_eq_true, decide_eq_true_eq, bne_iff_ne, Bool.or_eq_true]
  refine ⟨⟨h.placed hm.1, fun e => hm.2.1 (h.inj' hm.1 hp1 (by rw [e, h1]))⟩, ?_⟩
  rw [hpl, h.at_ _ hm.1, h.links hA hm.1]
  by_cases e : (ndAt A (TreeM.place A x.to)).kind = 1
  · exact .inr (hm.2.2 e)
  · exact .inl e
theorem Iso.reachedB (h : Iso A B ρ τ) (h1 : ρ 1 = 1) (hp1 : TreeM.place A 1 < A.length) (hn : TreeM.reachedB A = true) : TreeM.reachedB B = true := by
  unfold TreeM.reachedB at hn ⊢
  rw [h.way h1 hp1, List.length_map, h.len]
  exact hn
end

end TreeM
