/- DERIVED. How trees lie in memory: entries, nodes, trees; what keeps them. -/
import Derived.Test.YtkmnbbocahjmaaaGreatDoorTPath
import Derived.Test.YtkmnbbocahjmaaaGreatDoorTreeMath2
import Derived.Sort.Walk0
namespace Go.Proofs.YtkmnbbocahjmaaaGreatDoor
open Go.RowKit
open PathM TreeM
set_option linter.unusedVariables false

/-- A slice of entries. -/
def EntsIn (w : World) (B : Nat) (v : Value) (es : List Ent) : Prop :=
  ∃ A c, v = .slice A es.length c ∧ es.length ≤ c ∧ es.length * 24 ≤ 140737488351232 ∧ (∀ x ∈ es, x.key.length ≤ 140737488351232 ∧ -9223372036854775808 ≤ x.to ∧ x.to ≤ 9223372036854775807) ∧
    (es ≠ [] → ∃ b off, A = some ⟨b, off, none⟩ ∧ b < B ∧ ∀ k, k < es.length →
      w.cell? ⟨b, off + k * 2, none⟩ = some (.string (nm (entAt es k).key)) ∧ w.cell? ⟨b, off + k * 2 + 1, none⟩ = some (.int .i64 (entAt es k).to))
/-- A node at a place. -/
def NodeIn (w : World) (B b o : Nat) (n : Nd) : Prop :=
  w.cell? ⟨b, o, none⟩ = some (.int .i64 n.id) ∧ w.cell? ⟨b, o + 1, none⟩ = some (.int .i64 n.kind) ∧ w.cell? ⟨b, o + 2, none⟩ = some (.int .i64 n.mode) ∧
    w.cell? ⟨b, o + 3, none⟩ = some (.int .i64 n.owner) ∧ w.cell? ⟨b, o + 4, none⟩ = some (.int .i64 n.time) ∧ w.cell? ⟨b, o + 5, none⟩ = some (.string (nm n.data)) ∧
    n.data.length ≤ 140737488351232 ∧ ∃ ev, w.cell? ⟨b, o + 6, none⟩ = some ev ∧ EntsIn w B ev n.es
/-- A slice of nodes. -/
def NodesIn (w : World) (B : Nat) (v : Value) (l : List Nd) : Prop :=
  ∃ A c, v = .slice A l.length c ∧ l.length ≤ c ∧ l.length ≤ 140737488351232 ∧
    (l ≠ [] → ∃ b off, A = some ⟨b, off, none⟩ ∧ b < B ∧ ∀ i, i < l.length → NodeIn w B b (off + i * 7) (ndAt l i))

section
variable {w w' : World} {B B' : Nat} {v : Value}
theorem EntsIn.keep {es : List Ent} (h : EntsIn w B v es) (hk : ∀ p : Addr, p.block < B → w'.cell? p = w.cell? p) : EntsIn w' B v es := by
  obtain ⟨A, c, h1, h2, h3, h4, h5⟩ := h
  refine ⟨A, c, h1, h2, h3, h4, fun hne => ?_⟩
  obtain ⟨b, off, h6, h7, h8⟩ := h5 hne
  exact ⟨b, off, h6, h7, fun k hk2 => ⟨(hk _ h7).trans (h8 k hk2).1, (hk _ h7).trans (h8 k hk2).2⟩⟩
theorem EntsIn.more {es : List Ent} (h : EntsIn w B v es) (hB : B ≤ B') : EntsIn w B' v es := by
  obtain ⟨A, c, h1, h2, h3, h4, h5⟩ := h
  refine ⟨A, c, h1, h2, h3, h4, fun hne => ?_⟩
  obtain ⟨b, off, h6, h7, h8⟩ := h5 hne
  exact ⟨b, off, h6, by omega, h8⟩
theorem NodeIn.keep {b o : Nat} {n : Nd} (h : NodeIn w B b o n) (hb : b < B) (hk : ∀ p : Addr, p.block < B → w'.cell? p = w.cell? p) : NodeIn w' B b o n := by
  obtain ⟨h0, h1, h2, h3, h4, h5, h6, ev, h7, h8⟩ := h
  exact ⟨(hk _ hb).trans h0, (hk _ hb).trans h1, (hk _ hb).trans h2, (hk _ hb).trans h3, (hk _ hb).trans h4, (hk _ hb).trans h5, h6, ev, (hk _ hb).trans h7, h8.keep hk⟩
theorem NodeIn.more {b o : Nat} {n : Nd} (h : NodeIn w B b o n) (hB : B ≤ B') : NodeIn w B' b o n := by
  obtain ⟨h0, h1, h2, h3, h4, h5, h6, ev, h7, h8⟩ := h
  exact ⟨h0, h1, h2, h3, h4, h5, h6, ev, h7, h8.more hB⟩
theorem NodesIn.keep {l : List Nd} (h : NodesIn w B v l) (hk : ∀ p : Addr, p.block < B → w'.cell? p = w.cell? p) : NodesIn w' B v l := by
  obtain ⟨A, c, h1, h2, h3, h4⟩ := h
  refine ⟨A, c, h1, h2, h3, fun hne => ?_⟩
  obtain ⟨b, off, h6, h7, h8⟩ := h4 hne
  exact ⟨b, off, h6, h7, fun i hi => (h8 i hi).keep h7 hk⟩
theorem NodesIn.more {l : List Nd} (h : NodesIn w B v l) (hB : B ≤ B') : NodesIn w B' v l := by
  obtain ⟨A, c, h1, h2, h3, h4⟩ := h
  refine ⟨A, c, h1, h2, h3, fun hne => ?_⟩
  obtain ⟨b, off, h6, h7, h8⟩ := h4 hne
  exact ⟨b, off, h6, by omega, fun i hi => (h8 i hi).more hB⟩
theorem NodesIn.below {l : List Nd} (h : NodesIn w B v l) (hb : Below B w w') : NodesIn w' B v l := h.keep fun _ hp => hb.cell hp
theorem EntsIn.below {es : List Ent} (h : EntsIn w B v es) (hb : Below B w w') : EntsIn w' B v es := h.keep fun _ hp => hb.cell hp
theorem NodeIn.below {b o : Nat} {n : Nd} (h : NodeIn w B b o n) (hlt : b < B) (hb : Below B w w') : NodeIn w' B b o n := h.keep hlt fun _ hp => hb.cell hp
theorem EntsIn.cases {es : List Ent} (h : EntsIn w B v es) : es.length * 24 ≤ 140737488351232 ∧ (∀ x ∈ es, x.key.length ≤ 140737488351232 ∧ -9223372036854775808 ≤ x.to ∧ x.to ≤ 9223372036854775807) ∧
    ((∃ A c, v = .slice A 0 c ∧ es = []) ∨ (∃ b off c, v = .slice (some ⟨b, off, none⟩) es.length c ∧ es.length ≤ c ∧ b < B ∧ 0 < es.length ∧ ∀ k, k < es.length →
      w.cell? ⟨b, off + k * 2, none⟩ = some (.string (nm (entAt es k).key)) ∧ w.cell? ⟨b, off + k * 2 + 1, none⟩ = some (.int .i64 (entAt es k).to))) := by
  obtain ⟨A, c, h1, h2, h3, h4, h5⟩ := h
  refine ⟨h3, h4, ?_⟩
  by_cases hne : es = []
  · subst hne; exact .inl ⟨A, c, h1, rfl⟩
  · obtain ⟨b, off, rfl, h7, h8⟩ := h5 hne
    exact .inr ⟨b, off, c, h1, h2, h7, List.length_pos_iff.2 hne, h8⟩
theorem NodesIn.cases {l : List Nd} (h : NodesIn w B v l) : l.length ≤ 140737488351232 ∧
    ((∃ A c, v = .slice A 0 c ∧ l = []) ∨ (∃ b off c, v = .slice (some ⟨b, off, none⟩) l.length c ∧ l.length ≤ c ∧ b < B ∧ 0 < l.length ∧ ∀ i, i < l.length → NodeIn w B b (off + i * 7) (ndAt l i))) := by
  obtain ⟨A, c, h1, h2, h3, h5⟩ := h
  refine ⟨h3, ?_⟩
  by_cases hne : l = []
  · subst hne; exact .inl ⟨A, c, h1, rfl⟩
  · obtain ⟨b, off, rfl, h7, h8⟩ := h5 hne
    exact .inr ⟨b, off, c, h1, h2, h7, List.length_pos_iff.2 hne, h8⟩
end

/-- A tree as a value: its four cells. -/
def trV (nv : Value) (t : Tr) : Value := .agg #[nv, .int .i64 t.last, .int .i64 t.rn, .int .i64 t.rb]

end Go.Proofs.YtkmnbbocahjmaaaGreatDoor
