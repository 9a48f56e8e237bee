/- DERIVED. The walks of Get of package tree and of the document's own. -/
import Derived.Test.YtkmnbbocahjmaaaGreatDoorTreeLaw1
namespace Go.Proofs.YtkmnbbocahjmaaaGreatDoor
open Go.RowKit Go.Sort
open PathM TreeM
set_option linter.unusedVariables false

/-- The node of a number. -/
def getO (l : List Nd) (id : Int) : Option Nd := if place l id < l.length then some (ndAt l (place l id)) else none
def zeroNd : Nd := ⟨0, 0, 0, 0, 0, [], []⟩
def GetPost (o : Option Nd) (w : World) (e : Ending) (w' : World) : Prop :=
  ∃ ev, e = .returned (.tuple #[ndV ev (o.getD zeroNd), .bool o.isSome]) ∧ EntsIn w' w'.heap.size ev (o.getD zeroNd).es ∧ Below w.heap.size w w'
/-- Behind seven stores into a box. -/
theorem seven_set {W : World} {b : Nat} {a0 a1 a2 a3 a4 a5 a6 : Value} {t : TypeId} (h : W.heap[b]? = some (.cells #[a0, a1, a2, a3, a4, a5, a6] t (0, 0))) (v0 v1 v2 v3 v4 v5 v6 : Value) :
    (((((((W.setCell ⟨b, 0, none⟩ v0).setCell ⟨b, 1, none⟩ v1).setCell ⟨b, 2, none⟩ v2).setCell ⟨b, 3, none⟩ v3).setCell ⟨b, 4, none⟩ v4).setCell ⟨b, 5, none⟩ v5).setCell ⟨b, 6, none⟩ v6).heap[b]? = some (.cells #[v0, v1, v2, v3, v4, v5, v6] t (0, 0)) := by
  have h0 := set_blk (j := 0) h v0
  simp only [List.setIfInBounds_toArray, List.set] at h0
  have h1 := set_blk (j := 1) h0 v1
  simp only [List.setIfInBounds_toArray, List.set] at h1
  have h2 := set_blk (j := 2) h1 v2
  simp only [List.setIfInBounds_toArray, List.set] at h2
  have h3 := set_blk (j := 3) h2 v3
  simp only [List.setIfInBounds_toArray, List.set] at h3
  have h4 := set_blk (j := 4) h3 v4
  simp only [List.setIfInBounds_toArray, List.set] at h4
  have h5 := set_blk (j := 5) h4 v5
  simp only [List.setIfInBounds_toArray, List.set] at h5
  have h6 := set_blk (j := 6) h5 v6
  simp only [List.setIfInBounds_toArray, List.set] at h6
  exact h6
set_option maxRecDepth 100000 in
set_option maxHeartbeats 4000000 in
theorem rget_any (nv : Value) (t : Tr) (id : Int) (B : Nat) (w : World) (hN : NodesIn w B nv t.nodes) (hB : B ≤ w.heap.size) :
    Calls Tryz.prog 27 #[trV nv t, .int .i64 id] w (GetPost (getO t.nodes id) w) := by
  have hN0 := hN.more hB
  have hpl := fun W (hW : Below w.heap.size w W) => rplace_any nv t id w.heap.size W (hN0.below hW) hW.size
  unfold GetPost
  by_cases hp : place t.nodes id < t.nodes.length
  · have ho : getO t.nodes id = some (ndAt t.nodes (place t.nodes id)) := by unfold getO; rw [if_pos hp]
    have hpi : placeI t.nodes id = (place t.nodes id : Int) := by unfold placeI; rw [if_pos hp]
    rw [ho, Option.getD_some, Option.isSome_some]
    rw [hpi] at hpl
    obtain ⟨_, ⟨_, _, _, h0⟩ | ⟨b, off, c, rfl, hcap, hb, _, hcells⟩⟩ := hN0.cases
    · rw [h0] at hp; simp at hp
    obtain ⟨x0, x1, x2, x3, x4, x5, hdl, ev, x6, hE⟩ := hcells _ hp
    obtain ⟨Ae, ce, rfl, _⟩ := ents_len hE
    have HPL := Lib.hid hpl; have HE := Lib.hid hE
    clear hpl hcells hN hN0 ho hpi hE
    unfold trV ndV at *
    generalize ndAt t.nodes (place t.nodes id) = nd at *
    generalize place t.nodes id = p at *
    generalize t.nodes.length = n at *
    generalize t.last = la at *
    generalize t.rn = rn at *
    generalize t.rb = rb at *
    have hpp : (p : Int) < (n : Int) := by omega
    go_enter Tryz.func27, Tryz.ntmps27
    go_wp2_with fail
    refine (HPL.out _ (((Below.refl _ _).alloc (by simp) _).alloc (by simp) _)).mono ?_
    rintro e w1 ⟨rfl, hb1⟩
    have RB : w1.heap[w.heap.size + 1]? = some (.cells #[.int .i64 0, .int .i64 0, .int .i64 0, .int .i64 0, .int .i64 0, .string { data := #[] }, .slice none 0 0] 64 (0, 0)) := (hb1.block (w.heap.size + 1) (by simp)).trans (heap_alloc2_new w _ _)
    have TB : w1.heap[w.heap.size]? = some (.cells #[.slice (some ⟨b, off, none⟩) n c, .int .i64 la, .int .i64 rn, .int .i64 rb] 26 (0, 0)) := (hb1.block w.heap.size (by simp; omega)).trans (heap_alloc2_old w _ _)
    have hb2 : Below w.heap.size w w1 := (((Below.refl w.heap.size w).alloc (by simp) _).alloc (by simp) _).trans (hb1.mono (by simp; omega))
    have y0 := (hb2.cell (p := ⟨b, off + p * 7, none⟩) hb).trans x0
    have y1 := (hb2.cell (p := ⟨b, off + p * 7 + 1, none⟩) hb).trans x1
    have y2 := (hb2.cell (p := ⟨b, off + p * 7 + 2, none⟩) hb).trans x2
    have y3 := (hb2.cell (p := ⟨b, off + p * 7 + 3, none⟩) hb).trans x3
    have y4 := (hb2.cell (p := ⟨b, off + p * 7 + 4, none⟩) hb).trans x4
    have y5 := (hb2.cell (p := ⟨b, off + p * 7 + 5, none⟩) hb).trans x5
    have y6 := (hb2.cell (p := ⟨b, off + p * 7 + 6, none⟩) hb).trans x6
    have u0 := cell_blk TB 0
    simp at u0
    have f0 := froz_blk RB 0
    have f1 := froz_blk RB 1
    have f2 := froz_blk RB 2
    have f3 := froz_blk RB 3
    have f4 := froz_blk RB 4
    have f5 := froz_blk RB 5
    have f6 := froz_blk RB 6
    have s0 := cell_blk RB 0
    have s1 := cell_blk RB 1
    have s2 := cell_blk RB 2
    have s3 := cell_blk RB 3
    have s4 := cell_blk RB 4
    have s5 := cell_blk RB 5
    have s6 := cell_blk RB 6
    simp at s0 s1 s2 s3 s4 s5 s6
    have HB := Lib.hid hb2; have HRB := Lib.hid RB
    clear hb1 hb2 RB TB
    go_wp2
    refine bodyPost_ret (results_cell2 rfl _ _ _ 64 _ (0, 0) _ rfl (seven_set HRB.out _ _ _ _ _ _ _) Tryz.underlying64 rfl (by kernel_rfl)) rfl ?_
    have hbf := ((((((HB.out.setCell (p := ⟨w.heap.size + 1, 0, none⟩) (by simp) (.int .i64 nd.id)).setCell (p := ⟨w.heap.size + 1, 1, none⟩) (by simp) (.int .i64 nd.kind)).setCell (p := ⟨w.heap.size + 1, 2, none⟩) (by simp) (.int .i64 nd.mode)).setCell (p := ⟨w.heap.size + 1, 3, none⟩) (by simp) (.int .i64 nd.owner)).setCell (p := ⟨w.heap.size + 1, 4, none⟩) (by simp) (.int .i64 nd.time)).setCell (p := ⟨w.heap.size + 1, 5, none⟩) (by simp) (.string (nm nd.data))).setCell (p := ⟨w.heap.size + 1, 6, none⟩) (by simp) (.slice Ae nd.es.length ce)
    exact ⟨_, rfl, (HE.out.below hbf).more hbf.size, hbf⟩
  · have ho : getO t.nodes id = none := by unfold getO; rw [if_neg hp]
    have hpi : placeI t.nodes id = -1 := by unfold placeI; rw [if_neg hp]
    rw [ho, Option.getD_none, Option.isSome_none]
    rw [hpi] at hpl
    obtain ⟨A, c, rfl⟩ := nodes_len hN
    have HPL := Lib.hid hpl
    clear hpl hN hN0 ho hpi hp
    unfold trV at *
    generalize t.nodes.length = n at *
    generalize t.last = la at *
    generalize t.rn = rn at *
    generalize t.rb = rb at *
    go_enter Tryz.func27, Tryz.ntmps27
    go_wp2_with fail
    refine (HPL.out _ (((Below.refl _ _).alloc (by simp) _).alloc (by simp) _)).mono ?_
    rintro e w1 ⟨rfl, hb1⟩
    have RB : w1.heap[w.heap.size + 1]? = some (.cells #[.int .i64 0, .int .i64 0, .int .i64 0, .int .i64 0, .int .i64 0, .string { data := #[] }, .slice none 0 0] 64 (0, 0)) := (hb1.block (w.heap.size + 1) (by simp)).trans (heap_alloc2_new w _ _)
    have hb2 : Below w.heap.size w w1 := (((Below.refl w.heap.size w).alloc (by simp) _).alloc (by simp) _).trans (hb1.mono (by simp; omega))
    have f0 := froz_blk RB 0
    have f1 := froz_blk RB 1
    have f2 := froz_blk RB 2
    have f3 := froz_blk RB 3
    have f4 := froz_blk RB 4
    have f5 := froz_blk RB 5
    have f6 := froz_blk RB 6
    have s0 := cell_blk RB 0
    have s1 := cell_blk RB 1
    have s2 := cell_blk RB 2
    have s3 := cell_blk RB 3
    have s4 := cell_blk RB 4
    have s5 := cell_blk RB 5
    have s6 := cell_blk RB 6
    simp at s0 s1 s2 s3 s4 s5 s6
    have HB := Lib.hid hb2; have HRB := Lib.hid RB
    clear hb1 hb2 RB
    go_wp2
    refine bodyPost_ret (results_cell2 rfl _ _ _ 64 _ (0, 0) _ rfl (seven_set HRB.out _ _ _ _ _ _ _) Tryz.underlying64 rfl (by kernel_rfl)) rfl ?_
    exact ⟨_, rfl, ents_nil _ _, ((((((HB.out.setCell (by simp) _).setCell (by simp) _).setCell (by simp) _).setCell (by simp) _).setCell (by simp) _).setCell (by simp) _).setCell (by simp) _⟩

theorem ents_of_row {W : World} {base : Nat} {v : Value} {es : List Ent} (h : W.ownsRow base 75 2 v es.length (es.flatMap entC)) (d2 : es.length * 24 ≤ 140737488351232) (d3 : ∀ x ∈ es, x.key.length ≤ 140737488351232 ∧ -9223372036854775808 ≤ x.to ∧ x.to ≤ 9223372036854775807) : EntsIn W W.heap.size v es := by
  rcases h.2 with ⟨e1, e2⟩ | ⟨ge, cape, cur, e1, e2, e3, e4, _⟩
  · exact ⟨none, 0, by rw [e1, e2], by omega, d2, d3, fun hne => absurd (List.length_eq_zero_iff.1 e2) hne⟩
  · refine ⟨_, _, e1, e4, d2, d3, fun _ => ⟨ge, 0, rfl, (Array.getElem?_eq_some_iff.1 e3).1, fun k hk => ?_⟩⟩
    rw [e1] at h
    obtain ⟨c1, c2⟩ := ent_cells es k hk
    rw [Nat.zero_add]
    exact ⟨row_cells h _ _ c1, row_cells h _ _ c2⟩
end Go.Proofs.YtkmnbbocahjmaaaGreatDoor
