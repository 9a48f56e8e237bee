/- DERIVED. The walks of New, two and awake. -/
import Derived.Test.YtgcoioejcnileaaDoorTreeCan
namespace Go.Proofs.YtgcoioejcnileaaDoor
open Go.RowKit Go.Sort
open PathM TreeM
set_option linter.unusedVariables false

def twoT : Tr := ⟨[⟨1, 1, 0, 0, 0, [], [⟨[97], 5⟩, ⟨[98], 5⟩]⟩, ⟨5, 2, 0, 0, 0, [], []⟩], 9, 0, 0⟩
def newT (rn rb : Int) : Tr := ⟨[⟨1, 1, 493, 0, 0, [], []⟩], 1, rn, rb⟩
def TreePost (t : Tr) (w : World) (e : Ending) (w' : World) : Prop := ∃ nv, e = .returned (trV nv t) ∧ NodesIn w' w'.heap.size nv t.nodes ∧ Below w.heap.size w w'

theorem blk1 (w : World) (A B C : Obj) : (((w.alloc A).alloc B).alloc C).heap[w.heap.size]? = some A := (heap_alloc_old _ _ (by simp; omega)).trans (heap_alloc2_old w A B)
theorem blk2 (w : World) (A B C : Obj) : (((w.alloc A).alloc B).alloc C).heap[w.heap.size + 1]? = some B := (heap_alloc_old _ _ (by simp)).trans (heap_alloc2_new w A B)
theorem blk3 (w : World) (A B C : Obj) : (((w.alloc A).alloc B).alloc C).heap[w.heap.size + 1 + 1]? = some C := by
  have h := heap_alloc_new ((w.alloc A).alloc B) C
  have e : ((w.alloc A).alloc B).heap.size = w.heap.size + 1 + 1 := by simp
  rwa [e] at h
theorem b3 (w : World) (A B C : Obj) : Below w.heap.size w (((w.alloc A).alloc B).alloc C) := (((Below.refl w.heap.size w).alloc (by simp) _).alloc (by simp) _).alloc (by simp; omega) _
theorem ents_nil (w : World) (B : Nat) : EntsIn w B (.slice none 0 0) [] := ⟨none, 0, rfl, by simp, by simp, by simp, fun h => absurd rfl h⟩

set_option maxRecDepth 100000 in
theorem new_any (rn rb : Int) (w : World) : Calls Tryd.prog 14 #[.agg #[.int .i64 rn, .int .i64 rb]] w (TreePost (newT rn rb) w) := by
  unfold TreePost
  go_enter Tryd.func14, Tryd.ntmps14
  go_wp2
  generalize hA : (.cells #[.int .i64 rn, .int .i64 rb] 24 : Obj) = A
  generalize hB : (.cells #[.slice (some ⟨w.heap.size + 1 + 1, 0, none⟩) 1 1, .int .i64 1, .int .i64 rn, .int .i64 rb] 26 : Obj) = B
  generalize hC : (.cells #[.int .i64 1, .int .i64 1, .int .i64 493, .int .i64 0, .int .i64 0, .string { data := #[] }, .slice none 0 0] 37 : Obj) = C
  have h2 := blk2 w A B C
  have h3 := blk3 w A B C
  have hb := b3 w A B C
  have hs : w.heap.size + 1 + 1 < (((w.alloc A).alloc B).alloc C).heap.size := by simp
  generalize ((w.alloc A).alloc B).alloc C = W at *
  rw [← hB] at h2
  rw [← hC] at h3
  refine bodyPost_ret (results_cell_row rfl _ _ _ 26 _ (0, 0) _ rfl h2 Tryd.underlying26 rfl (by kernel_rfl)) rfl ?_
  refine ⟨_, rfl, ⟨_, 1, rfl, by simp [newT], by simp [newT], fun _ => ⟨_, 0, rfl, hs, fun i hi => ?_⟩⟩, hb⟩
  obtain rfl : i = 0 := by simp [newT] at hi; omega
  exact ⟨(cell_blk h3 _).trans rfl, (cell_blk h3 _).trans rfl, (cell_blk h3 _).trans rfl, (cell_blk h3 _).trans rfl, (cell_blk h3 _).trans rfl, (cell_blk h3 _).trans rfl, by simp [newT, ndAt], _, (cell_blk h3 _).trans rfl, ents_nil _ _⟩
set_option maxRecDepth 100000 in
theorem two_any (w : World) : Calls Tryd.prog 35 #[] w (TreePost twoT w) := by
  unfold TreePost
  go_enter Tryd.func35, Tryd.ntmps35
  go_wp2
  generalize hA : (.cells #[.slice (some ⟨w.heap.size + 1 + 1, 0, none⟩) 2 2, .int .i64 9, .int .i64 0, .int .i64 0] 26 : Obj) = A
  generalize hB : (.cells #[.string { data := #[97] }, .int .i64 5, .string { data := #[98] }, .int .i64 5] 59 : Obj) = B
  generalize hC : (.cells #[.int .i64 1, .int .i64 1, .int .i64 0, .int .i64 0, .int .i64 0, .string { data := #[] }, .slice (some ⟨w.heap.size + 1, 0, none⟩) 2 2, .int .i64 5, .int .i64 2, .int .i64 0, .int .i64 0, .int .i64 0, .string { data := #[] }, .slice none 0 0] 37 : Obj) = C
  have h1 := blk1 w A B C
  have h2 := blk2 w A B C
  have h3 := blk3 w A B C
  have hb := b3 w A B C
  have hs : w.heap.size + 1 + 1 < (((w.alloc A).alloc B).alloc C).heap.size := by simp
  generalize ((w.alloc A).alloc B).alloc C = W at *
  rw [← hA] at h1
  rw [← hB] at h2
  rw [← hC] at h3
  refine bodyPost_ret (results_cell_row rfl _ _ _ 26 _ (0, 0) _ rfl h1 Tryd.underlying26 rfl (by kernel_rfl)) rfl ?_
  refine ⟨_, rfl, ⟨_, 2, rfl, by simp [twoT], by simp [twoT], fun _ => ⟨_, 0, rfl, hs, fun i hi => ?_⟩⟩, hb⟩
  have hi2 : i = 0 ∨ i = 1 := by simp [twoT] at hi; omega
  rcases hi2 with rfl | rfl
  · refine ⟨(cell_blk h3 _).trans rfl, (cell_blk h3 _).trans rfl, (cell_blk h3 _).trans rfl, (cell_blk h3 _).trans rfl, (cell_blk h3 _).trans rfl, (cell_blk h3 _).trans rfl, by simp [twoT, ndAt], _, (cell_blk h3 _).trans rfl, ⟨_, 2, rfl, by simp [twoT, ndAt], by simp [twoT, ndAt], by simp [twoT, ndAt], fun _ => ⟨_, 0, rfl, by omega, fun k hk => ?_⟩⟩⟩
    have hk2 : k = 0 ∨ k = 1 := by simp [twoT, ndAt] at hk; omega
    rcases hk2 with rfl | rfl
    · exact ⟨(cell_blk h2 _).trans rfl, (cell_blk h2 _).trans rfl⟩
    · exact ⟨(cell_blk h2 _).trans rfl, (cell_blk h2 _).trans rfl⟩
  · exact ⟨(cell_blk h3 _).trans rfl, (cell_blk h3 _).trans rfl, (cell_blk h3 _).trans rfl, (cell_blk h3 _).trans rfl, (cell_blk h3 _).trans rfl, (cell_blk h3 _).trans rfl, by simp [twoT, ndAt], _, (cell_blk h3 _).trans rfl, ents_nil _ _⟩
theorem two_check : checkB twoT = true := by decide
theorem two_canon : canonT twoT = ⟨[⟨1, 1, 0, 0, 0, [], [⟨[97], 2⟩, ⟨[98], 2⟩]⟩, ⟨2, 2, 0, 0, 0, [], []⟩], 2, 0, 0⟩ := by decide
theorem two_path : pathI twoT 5 = ([47, 97], true) := by decide
theorem usage_new (nv : Value) (w : World) (h : NodesIn w w.heap.size nv (newT 0 0).nodes) :
    Calls Tryd.prog 20 #[trV nv (newT 0 0)] w fun e w' => e = .returned (.tuple #[.int .i64 1, .int .i64 0]) ∧ Below w.heap.size w w' :=
  usage_any nv (newT 0 0) _ w h (Nat.le_refl _) (by decide)
theorem path_two (nv : Value) (w : World) (h : NodesIn w w.heap.size nv twoT.nodes) :
    Calls Tryd.prog 25 #[trV nv twoT, .int .i64 5] w fun e w' => e = .returned (.tuple #[.string ⟨#[47, 97]⟩, .bool true]) ∧ Below w.heap.size w w' := by
  refine (path_any nv twoT 5 _ w h (Nat.le_refl _) (by omega)).mono ?_
  rintro e w' ⟨rfl, hb⟩
  rw [two_path]
  exact ⟨rfl, hb⟩
theorem links_two (nv : Value) (w : World) (h : NodesIn w w.heap.size nv twoT.nodes) :
    Calls Tryd.prog 23 #[trV nv twoT, .int .i64 5] w fun e w' => e = .returned (.int .i64 2) ∧ Below w.heap.size w w' := by
  refine (links_any nv twoT 5 _ w h (Nat.le_refl _) (by decide)).mono ?_
  rintro e w' ⟨rfl, hb⟩
  exact ⟨rfl, hb⟩
theorem canon_two (nv : Value) (w : World) (h : NodesIn w w.heap.size nv twoT.nodes) :
    Calls Tryd.prog 27 #[trV nv twoT] w fun e w' => ∃ b off c eb eo ec, e = .returned (.tuple #[.agg #[.slice (some ⟨b, off, none⟩) 2 c, .int .i64 2, .int .i64 0, .int .i64 0], .int .i64 0]) ∧ b < w'.heap.size ∧ eb < w'.heap.size ∧
      w'.cell? ⟨b, off + 7, none⟩ = some (.int .i64 2) ∧ w'.cell? ⟨b, off + 6, none⟩ = some (.slice (some ⟨eb, eo, none⟩) 2 ec) ∧ w'.cell? ⟨eb, eo + 2 + 1, none⟩ = some (.int .i64 2) ∧ Below w.heap.size w w' := by
  refine (canon_any nv twoT _ w h (Nat.le_refl _)).mono ?_
  rintro e w' ⟨nv', rfl, hN, hb⟩
  have hc : canonR twoT = ⟨[⟨1, 1, 0, 0, 0, [], [⟨[97], 2⟩, ⟨[98], 2⟩]⟩, ⟨2, 2, 0, 0, 0, [], []⟩], 2, 0, 0⟩ := by unfold canonR; rw [two_check, if_pos rfl, two_canon]
  rw [hc] at hN ⊢
  obtain ⟨_, ⟨_, _, _, h0⟩ | ⟨b, off, c, rfl, hcap, hlt, _, hcells⟩⟩ := hN.cases
  · cases h0
  obtain ⟨_, _, _, _, _, _, _, ev, h6, hE⟩ := hcells 0 (by simp)
  obtain ⟨h7, _⟩ := hcells 1 (by simp)
  obtain ⟨_, _, ⟨_, _, _, h0⟩ | ⟨eb, eo, ec, rfl, _, helt, _, hec⟩⟩ := hE.cases
  · cases h0
  obtain ⟨_, hk⟩ := hec 1 (by simp [ndAt])
  refine ⟨b, off, c, eb, eo, ec, rfl, hlt, helt, ?_, ?_, ?_, hb⟩
  · simpa [ndAt] using h7
  · simpa [ndAt] using h6
  · simpa [ndAt, entAt] using hk

set_option maxRecDepth 100000 in
set_option maxHeartbeats 4000000 in
theorem awake_any (w : World) : Calls Tryd.prog 10 #[] w fun e w' => e = .returned (.bool true) ∧ Below w.heap.size w w' := by
  go_enter Tryd.func10, Tryd.ntmps10
  go_wp2_with (go_at_call 14; refine (new_any 0 0 _).mono ?_; rintro e w1 ⟨nv1, rfl, hN1, hb1⟩; have HN1 := Lib.hid hN1; have HB1 := Lib.hid hb1; clear hN1 hb1)
  go_wp2_with (go_at_call 20; refine (usage_new nv1 _ HN1.out).mono ?_; rintro e w2 ⟨rfl, hb2⟩; have HB2 := Lib.hid (HB1.out.trans (hb2.mono HB1.out.size)); clear hb2)
  go_wp2_with (go_at_call 35; refine (two_any w2).mono ?_; rintro e w3 ⟨nv3, rfl, hN3, hb3⟩; have HN3 := Lib.hid hN3; have HB3 := Lib.hid (HB2.out.trans (hb3.mono HB2.out.size)); clear hN3 hb3)
  go_wp2_with (go_at_call 25; refine (path_two nv3 _ HN3.out).mono ?_; rintro e w4 ⟨rfl, hb4⟩; have HB4 := Lib.hid (HB3.out.trans (hb4.mono HB3.out.size)); clear hb4)
  go_wp2_with (go_at_call 35; refine (two_any w4).mono ?_; rintro e w5 ⟨nv5, rfl, hN5, hb5⟩; have HN5 := Lib.hid hN5; have HB5 := Lib.hid (HB4.out.trans (hb5.mono HB4.out.size)); clear hN5 hb5)
  go_wp2_with (go_at_call 27; refine (canon_two nv5 _ HN5.out).mono ?_; rintro e w6 ⟨b, off, c, eb, eo, ec, rfl, hbl, hel, c7, c6, c3, hb6⟩; have HB6 := Lib.hid (HB5.out.trans (hb6.mono HB5.out.size)); clear hb6)
  refine (two_any _).mono ?_
  rintro e w7 ⟨nv7, rfl, hN7, hb7⟩
  have z0 : w7.cell? ⟨w6.heap.size, 0, none⟩ = some (.slice (some ⟨b, off, none⟩) 2 c) := (hb7.cell (p := ⟨w6.heap.size, 0, none⟩) (by simp)).trans (by simp)
  have d7 := (hb7.cell (p := ⟨b, off + 7, none⟩) (by simp; omega)).trans ((World.cell?_alloc_lt w6 _ _ hbl).trans c7)
  have d6 := (hb7.cell (p := ⟨b, off + 6, none⟩) (by simp; omega)).trans ((World.cell?_alloc_lt w6 _ _ hbl).trans c6)
  have d3 := (hb7.cell (p := ⟨eb, eo + 2 + 1, none⟩) (by simp; omega)).trans ((World.cell?_alloc_lt w6 _ _ hel).trans c3)
  have hl7 : w6.heap.size < w7.heap.size := by have := hb7.size; simp at this; omega
  have hb7' : b < w7.heap.size := by omega
  have he7' : eb < w7.heap.size := by omega
  have HN7 := Lib.hid hN7; have HB7 := Lib.hid ((HB6.out.alloc HB6.out.size (.cells #[.slice (some ⟨b, off, none⟩) 2 c, .int .i64 2, .int .i64 0, .int .i64 0] 26)).trans (hb7.mono (by have := HB6.out.size; simp; omega)))
  clear hN7 hb7
  go_wp2_with fail
  refine (links_two nv7 _ HN7.out).mono ?_
  rintro e w8 ⟨rfl, hb8⟩
  have y0 := (hb8.cell (p := ⟨w6.heap.size, 0, none⟩) hl7).trans z0
  have y7 := (hb8.cell (p := ⟨b, off + 7, none⟩) hb7').trans d7
  have y6 := (hb8.cell (p := ⟨b, off + 6, none⟩) hb7').trans d6
  have y3 := (hb8.cell (p := ⟨eb, eo + 2 + 1, none⟩) he7').trans d3
  have HB8 := Lib.hid (HB7.out.trans (hb8.mono HB7.out.size))
  clear hb8
  go_wp2
  go_ret
  exact ⟨rfl, HB8.out⟩
end Go.Proofs.YtgcoioejcnileaaDoor
