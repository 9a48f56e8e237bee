/- DERIVED. The walks of the document's own Node and Dir of layer 5. -/
import Derived.Test.YtpicgkoclbpjpaaGreatDoorVnRTar
import Derived.Test.YtpicgkoclbpjpaaGreatDoorVnRFMath
import Derived.Test.YtpicgkoclbpjpaaGreatDoorVnG5
namespace Go.Proofs.YtpicgkoclbpjpaaGreatDoor
open Go.RowKit Go.Sort Go.Lib Go.Shelf
open PathM TreeM VtM
set_option linter.unusedVariables false
attribute [local go_sem] cell_rg
attribute [local go_sem] cell_off
attribute [local go_sem] cell_far
theorem getO_nod {l : List Nd} (hr : Rise l) (id : Int) : (getO l id).getD zeroNd = nod l id := by
  unfold getO
  by_cases h : place l id < l.length
  · rw [if_pos h, nod_place hr h]; rfl
  · rw [if_neg h]
    unfold nod
    cases e : seek l id with
    | none => rfl
    | some m =>
      obtain ⟨hm, rfl⟩ := look_mem e
      obtain ⟨i, hi, rfl⟩ := nd_of_mem hm
      exact absurd (place_lt hi rfl) h
theorem seven_kept (W : World) (b : Nat) (v0 v1 v2 v3 v4 v5 v6 : Value) : Kept (fun k => k = b) W (((((((W.setCell ⟨b, 0, none⟩ v0).setCell ⟨b, 1, none⟩ v1).setCell ⟨b, 2, none⟩ v2).setCell ⟨b, 3, none⟩ v3).setCell ⟨b, 4, none⟩ v4).setCell ⟨b, 5, none⟩ v5).setCell ⟨b, 6, none⟩ v6) :=
  ((((((own_set _ b 0 v0).trans (own_set _ b 1 v1)).trans (own_set _ b 2 v2)).trans (own_set _ b 3 v3)).trans (own_set _ b 4 v4)).trans (own_set _ b 5 v5)).trans (own_set _ b 6 v6)
/-- A node is answered. -/
def NdPost (nd : Nd) (w : World) (e : Ending) (w' : World) : Prop := ∃ ev, e = .returned (ndV ev nd) ∧ EntsIn w' w'.heap.size ev nd.es ∧ Below w.heap.size w w'
/-- The document's files: a tree, a clock. -/
def fsV (nv : Value) (t : Tr) (ck : Int) : Value := .agg #[nv, .int .i64 t.last, .int .i64 t.rn, .int .i64 t.rb, .int .i64 ck]
set_option maxRecDepth 100000 in
set_option maxHeartbeats 4000000 in
theorem rnode5_any (nv : Value) (t : Tr) (ck id : Int) (w : World) (hN : NodesIn w w.heap.size nv t.nodes) (hr : Rise t.nodes) :
    Calls Tryz.prog 66 #[fsV nv t ck, .int .i64 id] w (NdPost (nod t.nodes id) w) := by
  have hg := fun W (hW : Below w.heap.size w W) => rget_any nv t id w.heap.size W (hN.below hW) hW.size
  unfold GetPost at hg
  have HZ := Lib.hid (getO_nod hr id)
  unfold trV at hg
  unfold fsV
  generalize getO t.nodes id = o at *
  generalize nod t.nodes id = nd at *
  generalize t.last = la at *
  generalize t.rn = rn at *
  generalize t.rb = rb at *
  have HG := Lib.hid hg
  have HB0 : Hid (Below w.heap.size w ((w.alloc (.cells #[nv, .int .i64 la, .int .i64 rn, .int .i64 rb, .int .i64 ck] 60)).alloc (.cells #[.int .i64 0, .int .i64 0, .int .i64 0, .int .i64 0, .int .i64 0, .string { data := #[] }, .slice none 0 0] 64))) := Lib.hid (((Below.refl _ _).alloc (Nat.le_refl _) _).alloc (by simp) _)
  have hr0 := heap_alloc_new (w.alloc (.cells #[nv, .int .i64 la, .int .i64 rn, .int .i64 rb, .int .i64 ck] 60)) (.cells #[.int .i64 0, .int .i64 0, .int .i64 0, .int .i64 0, .int .i64 0, .string { data := #[] }, .slice none 0 0] 64)
  rw [show (w.alloc (.cells #[nv, .int .i64 la, .int .i64 rn, .int .i64 rb, .int .i64 ck] 60)).heap.size = w.heap.size + 1 from by simp] at hr0
  have HR := Lib.hid hr0
  obtain ⟨A, c, rfl⟩ := nodes_len hN
  clear hg hN hr hr0
  go_enter Tryz.func66, Tryz.ntmps66
  go_wp2_with (go_at_call 27; (with_reducible refine (HG.out _ HB0.out).mono ?_); rintro e w1 ⟨ev, rfl, hE, hb1⟩; rw [HZ.out] at hE ⊢; unfold ndV; obtain ⟨Ae, ce, rfl, -⟩ := ents_len hE; have hb2 := hb1.alloc hb1.size (.cells #[.int .i64 nd.id, .int .i64 nd.kind, .int .i64 nd.mode, .int .i64 nd.owner, .int .i64 nd.time, .string (nm nd.data), .slice Ae nd.es.length ce] 64); have HE := Lib.hid ((hE.below ((Below.refl _ _).alloc (Nat.le_refl _) (.cells #[.int .i64 nd.id, .int .i64 nd.kind, .int .i64 nd.mode, .int .i64 nd.owner, .int .i64 nd.time, .string (nm nd.data), .slice Ae nd.es.length ce] 64))).more (show w1.heap.size ≤ (w1.alloc (.cells #[.int .i64 nd.id, .int .i64 nd.kind, .int .i64 nd.mode, .int .i64 nd.owner, .int .i64 nd.time, .string (nm nd.data), .slice Ae nd.es.length ce] 64)).heap.size by simp)); have HB2 := Lib.hid (HB0.out.trans (hb2.mono HB0.out.size)); have hr2 := (hb2.block _ (blk_lt HR.out)).trans HR.out; have HR2 := Lib.hid hr2; have e0 := froz_blk hr2 0; have q0 := cell_blk hr2 0; have e1 := froz_blk hr2 1; have q1 := cell_blk hr2 1; have e2 := froz_blk hr2 2; have q2 := cell_blk hr2 2; have e3 := froz_blk hr2 3; have q3 := cell_blk hr2 3; have e4 := froz_blk hr2 4; have q4 := cell_blk hr2 4; have e5 := froz_blk hr2 5; have q5 := cell_blk hr2 5; have e6 := froz_blk hr2 6; have q6 := cell_blk hr2 6; simp at q0 q1 q2 q3 q4 q5 q6; clear hb1 hb2 hr2 hE)
  refine bodyPost_ret (results_cell_row rfl _ _ _ 64 _ (0, 0) _ rfl (seven_set HR2.out _ _ _ _ _ _ _) Tryz.underlying64 rfl (by kernel_rfl)) rfl ?_
  have hk := seven_kept (w1.alloc (.cells #[.int .i64 nd.id, .int .i64 nd.kind, .int .i64 nd.mode, .int .i64 nd.owner, .int .i64 nd.time, .string (nm nd.data), .slice Ae nd.es.length ce] 64)) (w.heap.size + 1) (.int .i64 nd.id) (.int .i64 nd.kind) (.int .i64 nd.mode) (.int .i64 nd.owner) (.int .i64 nd.time) (.string (nm nd.data)) (.slice Ae nd.es.length ce)
  refine ⟨_, rfl, ?_, HB2.out.trans (hk.below HB2.out.size (fun j hj => by rw [hj]; exact Nat.le_succ _))⟩
  exact (HE.out.keepBut2 (fun b => b = w.heap.size + 1) (fun b e => by rw [e]; exact box_noEnt HR2.out (fun s => by simp) (fun s => by simp) (fun s => by simp) (fun s => by simp) (fun s => by simp)) (fun b hb hs => hk.block b hb hs)).more hk.size
set_option maxRecDepth 100000 in
set_option maxHeartbeats 2000000 in
theorem rdir_any (v : Value) (ds : List Int) (nb : ByteArray) (id : Int) (sl : Bool) (w : World) (hI : IntsIn w w.heap.size v ds) (hne : ds ≠ []) (hlen : ds.length ≤ 50000) :
    Calls Tryz.prog 28 #[.agg #[v, .string nb, .int .i64 id, .bool sl]] w fun e w' => e = .returned (.int .i64 (lastI ds)) ∧ Below w.heap.size w w' := by
  obtain ⟨b, off, c, rfl, hc, hb, -, hcells⟩ := hI.cases hne
  have hpos := List.length_pos_iff.2 hne
  have x0 := hcells (ds.length - 1) (by omega)
  rw [← lastI_getD hne] at x0
  have hb0 := (Below.refl w.heap.size w).alloc (Nat.le_refl _) (.cells #[.slice (some ⟨b, off, none⟩) ds.length c, .string nb, .int .i64 id, .bool sl] 57)
  have y0 := (hb0.cell (p := ⟨b, off + (ds.length - 1), none⟩) hb).trans x0
  have HB0 := Lib.hid hb0
  generalize lastI ds = la at *
  obtain ⟨n, hn⟩ : ∃ n, ds.length = n + 1 := ⟨ds.length - 1, by omega⟩
  rw [hn] at hlen y0 ⊢
  simp only [hn] at HB0
  rw [show n + 1 - 1 = n from rfl] at y0
  clear hcells hI hne hpos x0 hb0 hn
  go_enter Tryz.func28, Tryz.ntmps28
  go_wp2
  go_ret
  exact ⟨rfl, HB0.out⟩
end Go.Proofs.YtpicgkoclbpjpaaGreatDoor
