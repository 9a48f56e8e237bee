/- DERIVED. The walks of a disk's small calls: none, node, Kind, Node, Entry, Entries, Fresh, Room. -/
import Derived.Test.YtkmnbbocahjmaaaGreatDoorVtMem
import Derived.Test.YtkmnbbocahjmaaaGreatDoorTreeGet
import Derived.Test.YtkmnbbocahjmaaaGreatDoorShelf3
namespace Go.Proofs.YtkmnbbocahjmaaaGreatDoor
open Go.RowKit Go.Sort
open PathM TreeM VtM
set_option linter.unusedVariables false

theorem dnone_any (db : Nat) (mb : Nat) (w : World) (c0 : w.cell? ⟨db, 0, none⟩ = some (.map (some mb))) :
    Calls Tryz.prog 56 #[.pointer (some ⟨db, 0, none⟩)] w fun e w' => e = .returned (.bool false) ∧ w = w' := by
  have h1 := fun wx => run_eql_map_nil (P := Tryz.prog) wx 108 3 64 (some mb) Tryz.underlying108
  go_enter Tryz.func56, Tryz.ntmps56
  go_wp2
  go_ret
  exact ⟨rfl, rfl⟩
theorem DiskIn.c0 {w : World} {db mb : Nat} {t : Tr} {ev : Int → Value} (h : DiskIn w db mb t ev) : w.cell? ⟨db, 0, none⟩ = some (.map (some mb)) := (cell_blk h.disk 0).trans rfl
theorem DiskIn.c1 {w : World} {db mb : Nat} {t : Tr} {ev : Int → Value} (h : DiskIn w db mb t ev) : w.cell? ⟨db, 1, none⟩ = some (.int .i64 t.last) := (cell_blk h.disk 1).trans rfl
theorem DiskIn.c2 {w : World} {db mb : Nat} {t : Tr} {ev : Int → Value} (h : DiskIn w db mb t ev) : w.cell? ⟨db, 2, none⟩ = some (.int .i64 t.rn) := (cell_blk h.disk 2).trans rfl
theorem DiskIn.c3 {w : World} {db mb : Nat} {t : Tr} {ev : Int → Value} (h : DiskIn w db mb t ev) : w.cell? ⟨db, 3, none⟩ = some (.int .i64 t.rb) := (cell_blk h.disk 3).trans rfl

theorem fieldN1 (a0 a1 a2 a3 a4 a5 a6 : Value) (W : World) : (Instr.field 64 (.agg #[a0, a1, a2, a3, a4, a5, a6]) 1).run Tryz.prog W = .ok a1 W := by kernel_rfl
theorem fieldN5 (a0 a1 a2 a3 a4 a5 a6 : Value) (W : World) : (Instr.field 64 (.agg #[a0, a1, a2, a3, a4, a5, a6]) 5).run Tryz.prog W = .ok a5 W := by kernel_rfl
theorem fieldN6 (a0 a1 a2 a3 a4 a5 a6 : Value) (W : World) : (Instr.field 64 (.agg #[a0, a1, a2, a3, a4, a5, a6]) 6).run Tryz.prog W = .ok a6 W := by kernel_rfl
def NodePost (nd : Nd) (w : World) (e : Ending) (w' : World) : Prop := ∃ xv, e = .returned (ndV xv nd) ∧ EntsIn w' w'.heap.size xv nd.es ∧ Below w.heap.size w w'
set_option maxRecDepth 100000 in
set_option maxHeartbeats 4000000 in
theorem node_any (db mb : Nat) (t : Tr) (ev : Int → Value) (id : Int) (w : World) (h : DiskIn w db mb t ev) (hid : i64 id) :
    Calls Tryz.prog 206 #[.pointer (some ⟨db, 0, none⟩), .int .i64 id] w (NodePost (nod t.nodes id) w) := by
  unfold NodePost
  have hd0 := h.below ((Below.refl _ _).alloc (Nat.le_refl _) (.cells #[.int .i64 0, .int .i64 0, .int .i64 0, .int .i64 0, .int .i64 0, .string { data := #[] }, .slice none 0 0] 64))
  have hl := hd0.map.seek id hid
  have hE := h.node id
  have c0 := hd0.c0
  generalize (if (VtM.seek t.nodes id).isSome = true then ev id else .slice none 0 0 : Value) = xv at hl hE
  generalize nod t.nodes id = nd at hl hE ⊢
  obtain ⟨Ae, ce, rfl, _⟩ := ents_len hE
  have HE := Lib.hid hE
  clear h hd0 hE
  unfold ndV at hl ⊢
  go_enter Tryz.func206, Tryz.ntmps206
  go_wp2_with (go_at_call 56; refine (dnone_any db mb _ c0).mono ?_; rintro e w' ⟨rfl, rfl⟩)
  have hb := (Below.refl w.heap.size w).alloc (Nat.le_refl _) (.cells #[.int .i64 nd.id, .int .i64 nd.kind, .int .i64 nd.mode, .int .i64 nd.owner, .int .i64 nd.time, .string (nm nd.data), .slice Ae nd.es.length ce] 64)
  refine bodyPost_ret (results_cell_row rfl _ _ _ 64 _ (0, 0) _ rfl (heap_alloc_new w _) Tryz.underlying64 rfl (by kernel_rfl)) rfl ?_
  exact ⟨_, rfl, (HE.out.below hb).more hb.size, hb⟩

/-- Behind seven stores into a box of the call's own. -/
theorem seven_below {B : Nat} {w W : World} {b : Nat} (h : Below B w W) (hb : B ≤ b) (v0 v1 v2 v3 v4 v5 v6 : Value) :
    Below B w (((((((W.setCell ⟨b, 0, none⟩ v0).setCell ⟨b, 1, none⟩ v1).setCell ⟨b, 2, none⟩ v2).setCell ⟨b, 3, none⟩ v3).setCell ⟨b, 4, none⟩ v4).setCell ⟨b, 5, none⟩ v5).setCell ⟨b, 6, none⟩ v6) :=
  ((((((h.setCell (p := ⟨b, 0, none⟩) hb _).setCell (p := ⟨b, 1, none⟩) hb _).setCell (p := ⟨b, 2, none⟩) hb _).setCell (p := ⟨b, 3, none⟩) hb _).setCell (p := ⟨b, 4, none⟩) hb _).setCell (p := ⟨b, 5, none⟩) hb _).setCell (p := ⟨b, 6, none⟩) hb _
/-- What a reader of a number answers. -/
def IntPost (a : Int) (w : World) (e : Ending) (w' : World) : Prop := e = .returned (.int .i64 a) ∧ Below w.heap.size w w'
set_option maxRecDepth 100000 in
set_option maxHeartbeats 1000000 in
theorem kind_any (db mb : Nat) (t : Tr) (ev : Int → Value) (id : Int) (w : World) (h : DiskIn w db mb t ev) (hid : i64 id) :
    Calls Tryz.prog 200 #[.pointer (some ⟨db, 0, none⟩), .int .i64 id] w (IntPost (nod t.nodes id).kind w) := by
  have hn := node_any db mb t ev id w h hid
  unfold NodePost at hn
  unfold IntPost
  generalize nod t.nodes id = nd at hn ⊢
  have HN := Lib.hid hn
  clear hn h
  unfold ndV at HN
  have hf := fieldN1
  go_enter Tryz.func200, Tryz.ntmps200
  go_wp2_with (go_at_call 206; refine HN.out.mono ?_; rintro e w1 ⟨xv, rfl, hE, hb⟩; obtain ⟨Ae, ce, rfl, _⟩ := ents_len hE)
  go_ret
  exact ⟨rfl, hb⟩
set_option maxRecDepth 100000 in
set_option maxHeartbeats 4000000 in
theorem dnode_any (db mb : Nat) (t : Tr) (ev : Int → Value) (id : Int) (w : World) (h : DiskIn w db mb t ev) (hid : i64 id) :
    Calls Tryz.prog 202 #[.pointer (some ⟨db, 0, none⟩), .int .i64 id] w fun e w' => e = .returned (ndV (.slice none 0 0) (nod t.nodes id)) ∧ Below w.heap.size w w' := by
  have hd0 := h.below ((Below.refl _ _).alloc (Nat.le_refl _) (.cells #[.int .i64 0, .int .i64 0, .int .i64 0, .int .i64 0, .int .i64 0, .string { data := #[] }, .slice none 0 0] 64))
  have hn := node_any db mb t ev id _ hd0 hid
  unfold NodePost at hn
  generalize nod t.nodes id = nd at hn ⊢
  have HN := Lib.hid hn
  clear hn h hd0
  unfold ndV at HN ⊢
  go_enter Tryz.func202, Tryz.ntmps202
  go_wp2_with (go_at_call 206; refine HN.out.mono ?_; rintro e w1 ⟨xv, rfl, hE, hb⟩; obtain ⟨Ae, ce, rfl, _⟩ := ents_len hE; have RB := (hb.block w.heap.size (by simp)).trans (heap_alloc_new w _); have hlt := blk_lt RB; have f0 := froz_blk RB 0; have f1 := froz_blk RB 1; have f2 := froz_blk RB 2; have f3 := froz_blk RB 3; have f4 := froz_blk RB 4; have f5 := froz_blk RB 5; have f6 := froz_blk RB 6; have s0 := cell_blk RB 0; have s1 := cell_blk RB 1; have s2 := cell_blk RB 2; have s3 := cell_blk RB 3; have s4 := cell_blk RB 4; have s5 := cell_blk RB 5; have s6 := cell_blk RB 6; simp at s0 s1 s2 s3 s4 s5 s6; have HB := Lib.hid hb; have HRB := Lib.hid RB; clear hE hb RB)
  refine bodyPost_ret (results_cell_row rfl _ _ _ 64 _ (0, 0) _ rfl ((heap_alloc_old _ _ (by simp; exact hlt)).trans (seven_set HRB.out _ _ _ _ _ _ _)) Tryz.underlying64 rfl (by kernel_rfl)) rfl ?_
  exact ⟨rfl, (seven_below (((Below.refl _ _).alloc (Nat.le_refl _) _).trans (HB.out.mono (by simp))) (Nat.le_refl _) _ _ _ _ _ _ _).alloc (by simp; omega) _⟩

set_option maxRecDepth 100000 in
set_option maxHeartbeats 1000000 in
theorem entry_any (db mb : Nat) (t : Tr) (ev : Int → Value) (id : Int) (key : ByteArray) (w : World) (h : DiskIn w db mb t ev) (hid : i64 id) (hs : Sorted (nod t.nodes id).es) :
    Calls Tryz.prog 198 #[.pointer (some ⟨db, 0, none⟩), .int .i64 id, .string key] w (IntPost (entT t id key.data.toList) w) := by
  have hn := node_any db mb t ev id w h hid
  unfold NodePost at hn
  have hch := fun ev W hE => child_any ev (nod t.nodes id) key W.heap.size W hE (Nat.le_refl _) hs
  unfold ChildPost at hch
  unfold IntPost entT
  generalize childO (nod t.nodes id).es key.data.toList = o at hch ⊢
  generalize nod t.nodes id = nd at hn hch ⊢
  have HN := Lib.hid hn; have HC := Lib.hid hch
  clear hn h hch hs
  unfold ndV at HN HC
  go_enter Tryz.func198, Tryz.ntmps198
  go_wp2_with (first | (go_at_call 206; refine HN.out.mono ?_; rintro e w1 ⟨xv, rfl, hE, hb⟩; obtain ⟨Ae, ce, rfl, _⟩ := ents_len hE; have HE := Lib.hid hE; have HB := Lib.hid hb; clear hE hb) | (go_at_call 207; refine (HC.out _ _ HE.out).mono ?_; rintro e w2 ⟨rfl, hb2⟩; have HB2 := Lib.hid (HB.out.trans (hb2.mono HB.out.size)); clear hb2))
  go_ret
  exact ⟨rfl, HB2.out⟩
set_option maxRecDepth 100000 in
theorem fresh_any (db mb : Nat) (t : Tr) (ev : Int → Value) (w : World) (h : DiskIn w db mb t ev) (hl : 0 ≤ t.last ∧ t.last < 9223372036854775807) :
    Calls Tryz.prog 199 #[.pointer (some ⟨db, 0, none⟩)] w (IntPost (t.last + 1) w) := by
  have c0 := h.c0
  have c1 := h.c1
  unfold IntPost
  generalize t.last = la at *
  clear h
  obtain ⟨h1, h2⟩ := hl
  go_enter Tryz.func199, Tryz.ntmps199
  go_wp2_with (go_at_call 56; refine (dnone_any db mb _ c0).mono ?_; rintro e w' ⟨rfl, rfl⟩)
  go_ret
  exact ⟨rfl, Below.refl _ _⟩
set_option maxRecDepth 100000 in
set_option maxHeartbeats 1000000 in
theorem room_any (db mb : Nat) (t : Tr) (ev : Int → Value) (w : World) (h : DiskIn w db mb t ev) :
    Calls Tryz.prog 204 #[.pointer (some ⟨db, 0, none⟩)] w fun e w' => e = .returned (.agg #[.int .i64 t.rn, .int .i64 t.rb]) ∧ Below w.heap.size w w' := by
  have hd0 := h.below ((Below.refl _ _).alloc (Nat.le_refl _) (.cells #[.int .i64 0, .int .i64 0] 24))
  have c0 := hd0.c0
  have c2 := hd0.c2
  have c3 := hd0.c3
  generalize t.rn = rn at *
  generalize t.rb = rb at *
  clear h hd0
  go_enter Tryz.func204, Tryz.ntmps204
  go_wp2_with (go_at_call 56; refine (dnone_any db mb _ c0).mono ?_; rintro e w' ⟨rfl, rfl⟩)
  refine bodyPost_ret (results_cell_row rfl _ _ _ 24 _ (0, 0) _ rfl (heap_alloc_new w _) Tryz.underlying24 rfl (by kernel_rfl)) rfl ?_
  exact ⟨rfl, (Below.refl w.heap.size w).alloc (Nat.le_refl _) _⟩
end Go.Proofs.YtkmnbbocahjmaaaGreatDoor
