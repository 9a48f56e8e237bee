/- DERIVED. The law VtreeMoves: what is renamed is found under the new name. Made by program (gen/vlaw6.py). -/
import Derived.Test.YtpicgkoclbpjpaaGreatDoorVnFilled2
import Derived.Test.YtpicgkoclbpjpaaGreatDoorVnG13
import Derived.Test.YtpicgkoclbpjpaaGreatDoorVnG6
import Derived.Test.YtpicgkoclbpjpaaGreatDoorVnRFind
import Derived.Test.YtpicgkoclbpjpaaGreatDoorVnG5
import Derived.Deep.RegionHeld3
import Derived.Deep.CutRange
namespace Go.Proofs.YtpicgkoclbpjpaaGreatDoor
open Go.RowKit Go.Sort Go.Lib Go.Shelf
open PathM TreeM VtM
set_option linter.unusedVariables false
attribute [local go_sem] cell_rg
attribute [local go_sem] cell_off
attribute [local go_sem] cell_far
/-- A tree's box. -/
def TB (ta : Nat) (v : Value) (t : Tr) (W : World) : Prop := W.heap[ta]? = some (.cells #[v, .int .i64 t.last, .int .i64 t.rn, .int .i64 t.rb] 26 (0, 0)) ∧ NodesIn W W.heap.size v t.nodes
theorem TB.next {ta : Nat} {v : Value} {t : Tr} {W W' : World} (h : TB ta v t W) (hb : Below W.heap.size W W') : TB ta v t W' :=
  ⟨(hb.block _ (blk_lt h.1)).trans h.1, (h.2.below hb).more hb.size⟩
theorem TB.wrote {ta : Nat} {v : Value} {t : Tr} {W W' : World} {fb db mb : Nat} {f : Fs} (h : TB ta v t W) (hl : Live W fb db mb f) (hk : Kept (Own3 fb db mb) W W') : TB ta v t W' := by
  refine ⟨hk.at h.1 (hl.not3 (OfType.of h.1) (by decide) (by decide)), ?_⟩
  obtain ⟨ev, hd⟩ := hl.disk
  refine (h.2.keepBut (Own3 fb db mb) ?_ (fun b hb hs => hk.block b hb hs)).more hk.size
  rintro b (e | e | e) i s
  · rw [e]; exact files_noStr hl.files i s
  · rw [e]; exact hd.noStr db (.inl rfl) i s
  · rw [e]; exact hd.noStr mb (.inr rfl) i s
theorem TB.cells {ta : Nat} {v : Value} {t : Tr} {W : World} (h : TB ta v t W) : W.cell? ⟨ta, 0, none⟩ = some v ∧ W.cell? ⟨ta, 1, none⟩ = some (.int .i64 t.last) ∧ W.cell? ⟨ta, 2, none⟩ = some (.int .i64 t.rn) ∧ W.cell? ⟨ta, 3, none⟩ = some (.int .i64 t.rb) := by
  refine ⟨?_, ?_, ?_, ?_⟩ <;> (rw [cell_blk h.1]; rfl)
/-- Behind a renaming that is refused. -/
structure EX (w : World) (ta : Nat) (v : Value) (f : Fs) (fb db mb k : Nat) (W : World) : Prop where
  bel : Below w.heap.size w W
  box : TB ta v f.t W
  sys : Sys W fb db mb k f
theorem EX.next {w W W' : World} {ta : Nat} {v : Value} {f : Fs} {fb db mb k : Nat} (h : EX w ta v f fb db mb k W) (hb : Below W.heap.size W W') : EX w ta v f fb db mb k W' :=
  ⟨h.bel.trans (hb.mono h.bel.size), h.box.next hb, h.sys.below hb⟩
theorem tree6_any {W : World} {fb db mb k : Nat} {f : Fs} (h : Sys W fb db mb k f) (hk : k ≤ 1000000) :
    Calls Tryz.prog 23 #[.pointer (some ⟨db, 0, none⟩)] W (TreePost f.t W) := by
  obtain ⟨ev, hd⟩ := h.live.disk
  refine tree5_any db mb f.t ev W hd h.ok.rise (by have := h.ok.len; omega) ?_ h.ok.data
  have := nod_mem (l := f.t.nodes) (id := 1) (by rw [h.ok.root]; decide)
  exact List.length_pos_iff.2 (fun e => by rw [e] at this; cases this)
theorem exact6 (v u : Value) (t : Tr) (W : World) (h : NodesIn W W.heap.size v t.nodes) (h' : NodesIn W W.heap.size u t.nodes) :
    Calls Tryz.prog 25 #[trV v t, trV u t] W fun e w' => e = .returned (.bool true) ∧ Below W.heap.size W w' := by
  refine (rexact_any v u t t _ W h h' (Nat.le_refl _)).mono ?_
  rintro e w' ⟨rfl, hb⟩
  exact ⟨by simp, hb⟩
theorem moved_ready {k : Nat} {f : Fs} (hf : FsOk k f) (h1 : One f.t) {p q : Bs} (h : (renameF f p q).2 = 0) :
    ∃ a b, findO f.t p false = .ok a ∧ findO f.t q false = .ok b ∧ a.node ≠ 0 ∧ a.name ≠ [] ∧ b.name ≠ [] ∧ (a.dirs ≠ [] ∧ a.dirs.length ≤ 50000) ∧ (b.dirs ≠ [] ∧ b.dirs.length ≤ 50000) ∧ (a.node = b.node → (renameF f p q).1 = f) ∧ (a.node ≠ b.node → Moved f (renameF f p q).1 a b) := by
  obtain ⟨a, b, ha, hb, g1, g2, g3, g4, g5⟩ := rename_moved hf h1 h
  have oa := find_ok hf ha
  have ob := find_ok hf hb
  rcases find_same hf p false with ⟨x, e1, _⟩ | ⟨a0, a1, e1, e2, e3, e4, e5⟩
  · rw [ha] at e1; cases e1
  · rcases find_same hf q false with ⟨x, d1, _⟩ | ⟨b0, b1, d1, d2, d3, d4, d5⟩
    · rw [hb] at d1; cases d1
    · rw [ha] at e1
      rw [hb] at d1
      injection e1 with e1
      injection d1 with d1
      subst e1
      subst d1
      refine ⟨a1, b1, e2, d2, by rw [e5]; exact g1, by rw [e4]; exact g2, by rw [d4]; exact g3, by rw [e3]; exact ⟨oa.ne, oa.len⟩, by rw [d3]; exact ⟨ob.ne, ob.len⟩, fun hh => g4 (by rw [← e5, ← d5]; exact hh), fun hh => ?_⟩
      have m := g5 (fun he => hh (by rw [e5, d5]; exact he))
      exact ⟨by rw [e5]; exact m.node, by rw [e3, e4]; exact m.gone, by rw [d3, d4, e5]; exact m.new, by rw [e5]; exact m.links⟩
/-- Both trees, both places. -/
structure MV (f g : Fs) (w : World) (ta tb pa pb : Nat) (v1 v2 va vb : Value) (a b : At) (W : World) : Prop where
  bel : Below w.heap.size w W
  t1 : TB ta v1 f.t W
  t2 : TB tb v2 g.t W
  ba : W.heap[pa]? = some (.cells #[va, .string (nm a.name), .int .i64 a.node, .bool a.slash] 57 (0, 0))
  ia : IntsIn W W.heap.size va a.dirs
  bb : W.heap[pb]? = some (.cells #[vb, .string (nm b.name), .int .i64 b.node, .bool b.slash] 57 (0, 0))
  ib : IntsIn W W.heap.size vb b.dirs
theorem MV.next {f g : Fs} {w W W' : World} {ta tb pa pb : Nat} {v1 v2 va vb : Value} {a b : At} (h : MV f g w ta tb pa pb v1 v2 va vb a b W) (hb : Below W.heap.size W W') : MV f g w ta tb pa pb v1 v2 va vb a b W' :=
  ⟨h.bel.trans (hb.mono h.bel.size), h.t1.next hb, h.t2.next hb, (hb.block _ (blk_lt h.ba)).trans h.ba, (h.ia.below hb).more hb.size, (hb.block _ (blk_lt h.bb)).trans h.bb, (h.ib.below hb).more hb.size⟩
theorem box4 {W : World} {b : Nat} {v0 v1 v2 v3 : Value} {t : TypeId} (h : W.heap[b]? = some (.cells #[v0, v1, v2, v3] t (0, 0))) : W.cell? ⟨b, 0, none⟩ = some v0 ∧ W.cell? ⟨b, 1, none⟩ = some v1 ∧ W.cell? ⟨b, 2, none⟩ = some v2 ∧ W.cell? ⟨b, 3, none⟩ = some v3 := by
  refine ⟨?_, ?_, ?_, ?_⟩ <;> (rw [cell_blk h]; rfl)
theorem two_ents {W : World} {xb yb : Nat} {a0 a1 a2 a3 a4 b0 b1 b2 b3 b4 : Int} {s5 t5 : ByteArray} {A B : Option Addr} {n c m d : Nat} (hx : W.heap[xb]? = some (.cells #[.int .i64 a0, .int .i64 a1, .int .i64 a2, .int .i64 a3, .int .i64 a4, .string s5, .slice A n c] 64 (0, 0))) (hy : W.heap[yb]? = some (.cells #[.int .i64 b0, .int .i64 b1, .int .i64 b2, .int .i64 b3, .int .i64 b4, .string t5, .slice B m d] 64 (0, 0))) (u u2 : Value) {v : Value} {es : List Ent} (h : EntsIn W W.heap.size v es) :
    EntsIn ((W.setCell ⟨xb, 4, none⟩ u).setCell ⟨yb, 4, none⟩ u2) ((W.setCell ⟨xb, 4, none⟩ u).setCell ⟨yb, 4, none⟩ u2).heap.size v es := by
  refine (h.keepBut2 (fun b => b = xb ∨ b = yb) ?_ ?_).more (Nat.le_trans (own_set W xb 4 u).size (own_set _ yb 4 u2).size)
  · rintro b (e | e)
    · rw [e]; exact box_noEnt hx (fun s => by simp) (fun s => by simp) (fun s => by simp) (fun s => by simp) (fun s => by simp)
    · rw [e]; exact box_noEnt hy (fun s => by simp) (fun s => by simp) (fun s => by simp) (fun s => by simp) (fun s => by simp)
  · intro b _ hs
    have h1 : b ≠ xb := fun e => hs (.inl e)
    have h2 : b ≠ yb := fun e => hs (.inr e)
    rw [Below.heap_setCell _ _ _ _ h2, Below.heap_setCell _ _ _ _ h1]
theorem box7 {W : World} {b : Nat} {v0 v1 v2 v3 v4 v5 v6 : Value} {t : TypeId} (h : W.heap[b]? = some (.cells #[v0, v1, v2, v3, v4, v5, v6] t (0, 0))) : W.cell? ⟨b, 0, none⟩ = some v0 ∧ W.cell? ⟨b, 1, none⟩ = some v1 ∧ W.cell? ⟨b, 2, none⟩ = some v2 ∧ W.cell? ⟨b, 3, none⟩ = some v3 ∧ W.cell? ⟨b, 4, none⟩ = some v4 ∧ W.cell? ⟨b, 5, none⟩ = some v5 ∧ W.cell? ⟨b, 6, none⟩ = some v6 := by
  refine ⟨?_, ?_, ?_, ?_, ?_, ?_, ?_⟩ <;> (rw [cell_blk h]; rfl)
/-- A node's box. -/
def NB6 (b : Nat) (v : Value) (n : Nd) (W : World) : Prop := W.heap[b]? = some (.cells #[.int .i64 n.id, .int .i64 n.kind, .int .i64 n.mode, .int .i64 n.owner, .int .i64 n.time, .string (nm n.data), v] 64 (0, 0)) ∧ EntsIn W W.heap.size v n.es
theorem NB6.next {b : Nat} {v : Value} {n : Nd} {W W' : World} (h : NB6 b v n W) (hb : Below W.heap.size W W') : NB6 b v n W' := ⟨(hb.block _ (blk_lt h.1)).trans h.1, (h.2.below hb).more hb.size⟩
theorem flat6 {f : Fs} (h : FsOk 702 f) : (flat f.t.nodes).length ≤ 4611686018427387904 := by
  have h1 : ∀ (l : List Nd), (∀ nd ∈ l, nd.es.length ≤ 702) → (flat l).length ≤ l.length * 702 := by
    intro l hl
    induction l with
    | nil => simp [flat]
    | cons a l ih =>
      have h2 := ih fun nd hnd => hl nd (by simp [hnd])
      have h3 := hl a (by simp)
      rw [show flat (a :: l) = a.es ++ flat l from rfl, List.length_append, List.length_cons, Nat.succ_mul]; omega
  have h2 := h1 f.t.nodes h.cnt
  have h3 := h.len
  have h4 : f.t.nodes.length * 702 ≤ 702 * 702 := Nat.mul_le_mul_right _ h3
  omega


set_option maxRecDepth 100000 in
set_option maxHeartbeats 8000000 in
theorem moves_law (nv av : Value) (t : Tr) (l : List ActV) (p q : ByteArray) (w : World) (hN : NodesIn w w.heap.size nv t.nodes) (hA : ActsIn w w.heap.size av l) (hrn : i64 t.rn) (hrb : i64 t.rb) (hM : ∃ m, w.cell? ⟨0, 0, none⟩ = some (.int .i64 m)) :
    Calls Tryz.prog 6 #[trV nv t, av, .string p, .string q] w fun e w' => e = .returned (.bool true) ∧ Below w.heap.size w w' := by
  have hN0 := hN
  have HM : Hid (∀ W, Below w.heap.size w W → ∃ m, W.cell? ⟨0, 0, none⟩ = some (.int .i64 m)) := Lib.hid (fun W hW => by
    obtain ⟨m, hm⟩ := hM
    exact ⟨m, (hW.cell (p := ⟨0, 0, none⟩) (cell_lt hm)).trans hm⟩)
  clear hM
  have hsm := fun W (hW : Below w.heap.size w W) => small_any nv t w.heap.size W (hN0.below hW) hW.size
  have hc1 : ∀ tv : Array Value, CB w tv (w.alloc (.cells tv 26)) := fun tv => ⟨heap_alloc_new w _, (Below.refl _ _).alloc (Nat.le_refl _) _⟩
  unfold BelowB at hsm
  obtain ⟨A, c, rfl⟩ := nodes_len hN
  obtain ⟨A2, c2, rfl⟩ := hA.len
  cases hs : smallB t with
  | false =>
    rw [hs] at hsm
    have HSM := Lib.hid hsm
    clear hsm hN hN0 hs hA hrn hrb
    unfold trV at *
    generalize t.nodes.length = n at *
    generalize t.last = la at *
    generalize t.rn = tn at *
    generalize t.rb = tb at *
    have H0 := Lib.hid (hc1 #[.slice A n c, .int .i64 la, .int .i64 tn, .int .i64 tb])
    clear hc1
    go_enter Tryz.func6, Tryz.ntmps6
    go_wp2_with (first | (go_at_call 9; (with_reducible refine (HSM.out _ (bel6 H0.out)).mono ?_); rintro e w1 ⟨rfl, hb1⟩; have H1 := Lib.hid (H0.out.next hb1); have HBB := Lib.hid (bel6 H1.out); obtain ⟨d0, d1, d2, d3⟩ := H1.out.cells; clear hb1) | (go_at_call 10; (with_reducible refine (awake5_any _ (HM.out _ HBB.out)).mono ?_); rintro e w9 ⟨rfl, hb9⟩; have HB9 := Lib.hid (HBB.out.trans (hb9.mono HBB.out.size)); clear hb9))
    go_ret
    exact ⟨rfl, HB9.out⟩
  | true =>
    rw [hs] at hsm
    have HSM := Lib.hid hsm
    by_cases hg0 : p.size ≤ 1000
    · have hi_p : ¬ (1000 : Int) < (p.size : Int) := by omega
      by_cases hg1 : q.size ≤ 1000
      · have hi_q : ¬ (1000 : Int) < (q.size : Int) := by omega
        cases hb : checkB t with
        | false =>
          have HFB := Lib.hid (fun W (hW : Below w.heap.size w W) => filled_bad _ _ t l W ((hN0.below hW).more hW.size) ((hA.below hW).more hW.size) hb)
          clear hsm hN hN0 hs hA hrn hrb hg0 hg1 hb
          unfold trV at *
          generalize t.nodes.length = n at *
          generalize t.last = la at *
          generalize t.rn = tn at *
          generalize t.rb = tb at *
          have H0 := Lib.hid (hc1 #[.slice A n c, .int .i64 la, .int .i64 tn, .int .i64 tb])
          clear hc1
          go_enter Tryz.func6, Tryz.ntmps6
          go_wp2_with (first | (go_at_call 9; (with_reducible refine (HSM.out _ (bel6 H0.out)).mono ?_); rintro e w1 ⟨rfl, hb1⟩; have H1 := Lib.hid (H0.out.next hb1); have HBB := Lib.hid (bel6 H1.out); obtain ⟨d0, d1, d2, d3⟩ := H1.out.cells; clear hb1) | (go_at_call 11; (with_reducible refine (HFB.out _ (bel6 H1.out)).mono ?_); rintro e w2 ⟨rfl, hb2⟩; have HBB := Lib.hid ((bel6 H1.out).trans (hb2.mono (bel6 H1.out).size)); clear hb2) | (go_at_call 10; (with_reducible refine (awake5_any _ (HM.out _ HBB.out)).mono ?_); rintro e w9 ⟨rfl, hb9⟩; have HB9 := Lib.hid (HBB.out.trans (hb9.mono HBB.out.size)); clear hb9))
          go_ret
          exact ⟨rfl, HB9.out⟩
        | true =>
          have HFL := Lib.hid (fun W (hW : Below w.heap.size w W) => filled_small6 _ _ t l W ((hN0.below hW).more hW.size) ((hA.below hW).more hW.size) hs hb hrn hrb (HM.out _ hW))
          have HG0 := Lib.hid hg0
          have HG1 := Lib.hid hg1
          clear hsm hN hN0 hs hA hrn hrb hg0 hg1 hb
          unfold trV at *
          generalize t.nodes.length = n at *
          generalize t.last = la at *
          generalize t.rn = tn at *
          generalize t.rb = tb at *
          have H0 := Lib.hid (hc1 #[.slice A n c, .int .i64 la, .int .i64 tn, .int .i64 tb])
          clear hc1
          unfold FilledLPost at HFL
          go_enter Tryz.func6, Tryz.ntmps6
          go_wp2_with (first | (go_at_call 9; (with_reducible refine (HSM.out _ (bel6 H0.out)).mono ?_); rintro e w1 ⟨rfl, hb1⟩; have H1 := Lib.hid (H0.out.next hb1); have HBB := Lib.hid (bel6 H1.out); obtain ⟨d0, d1, d2, d3⟩ := H1.out.cells; clear hb1))
          refine (HFL.out _ (bel6 H1.out)).mono ?_
          rintro e w2 ⟨fb, db, mb, f, rfl, hS, h1, hlk, hge, hb2⟩
          have HS2 := Lib.hid hS
          have HO2 := Lib.hid h1
          have HB2 := Lib.hid ((bel6 H1.out).trans (hb2.mono (bel6 H1.out).size))
          have HGE := Lib.hid (own_ge5 (B := w.heap.size) ⟨Nat.le_trans (bel6 H1.out).size hge.1, Nat.le_trans (bel6 H1.out).size hge.2.1, Nat.le_trans (bel6 H1.out).size hge.2.2⟩)
          have HLK := Lib.hid hlk
          clear hS h1 hlk hge hb2 d0 d1 d2 d3
          have hpm : p.size ≤ maxLen := by have := HG0.out; unfold maxLen; omega
          have hqm : q.size ≤ maxLen := by have := HG1.out; unfold maxLen; omega
          have HPM := Lib.hid hpm
          have HQM := Lib.hid hqm
          clear hpm hqm
          go_wp2_with fail
          refine (tree6_any HS2.out (by omega)).mono ?_
          rintro e w3 ⟨v1, rfl, hN3, hb3⟩
          obtain ⟨A3, c3, rfl⟩ := nodes_len hN3
          unfold trV
          have hba := hb3.alloc hb3.size (.cells #[.slice A3 f.t.nodes.length c3, .int .i64 f.t.last, .int .i64 f.t.rn, .int .i64 f.t.rb] 26)
          have HSA := Lib.hid (HS2.out.below hba)
          have HBA := Lib.hid (HB2.out.trans (hba.mono HB2.out.size))
          have HTA : Hid (TB w3.heap.size (.slice A3 f.t.nodes.length c3) f.t (w3.alloc (.cells #[.slice A3 f.t.nodes.length c3, .int .i64 f.t.last, .int .i64 f.t.rn, .int .i64 f.t.rb] 26))) := Lib.hid ⟨heap_alloc_new w3 _, (hN3.below ((Below.refl _ _).alloc (Nat.le_refl _) _)).more (by simp)⟩
          clear hb3 hba hN3
          go_wp2_with fail
          refine (rename_any fb db mb p q _ HSA.out HPM.out HQM.out (by omega)).mono ?_
          rintro e w4 ⟨rfl, hl4, hk4⟩
          have HS4 := Lib.hid (HSA.out.wrote hl4 hk4 (keep_rename HSA.out.ok p.data.toList q.data.toList))
          have HB4 := Lib.hid (HBA.out.trans (hk4.below HBA.out.size HGE.out))
          have HT4 := Lib.hid (HTA.out.wrote HSA.out.live hk4)
          clear hl4 hk4
          by_cases hr : (renameF f p.data.toList q.data.toList).2 = 0
          · obtain ⟨a, b, hfa, hfb, g1, g2, g3, g4, g5, g6, g7⟩ := moved_ready HS2.out.ok HO2.out hr
            rw [hr]
            clear hr
            generalize (renameF f p.data.toList q.data.toList).1 = g at *
            have HFA := Lib.hid hfa
            have HFB := Lib.hid hfb
            have G4 := Lib.hid g4
            have G5 := Lib.hid g5
            have G6 := Lib.hid g6
            have G7 := Lib.hid g7
            clear hfa hfb g4 g5 g6 g7
            generalize w3.alloc (.cells #[.slice A3 f.t.nodes.length c3, .int .i64 f.t.last, .int .i64 f.t.rn, .int .i64 f.t.rb] 26) = W3 at *
            generalize w3.heap.size = ta at *
            go_wp2_with fail
            refine (tree6_any HS4.out (by omega)).mono ?_
            rintro e w5 ⟨v2, rfl, hN5, hb5⟩
            obtain ⟨A5, c5, rfl⟩ := nodes_len hN5
            unfold trV
            have hbb := hb5.alloc hb5.size (.cells #[.slice A5 g.t.nodes.length c5, .int .i64 g.t.last, .int .i64 g.t.rn, .int .i64 g.t.rb] 26)
            have HB5 := Lib.hid (HB4.out.trans (hbb.mono HB4.out.size))
            have HT5 := Lib.hid (HT4.out.next hbb)
            have HU5 : Hid (TB w5.heap.size (.slice A5 g.t.nodes.length c5) g.t (w5.alloc (.cells #[.slice A5 g.t.nodes.length c5, .int .i64 g.t.last, .int .i64 g.t.rn, .int .i64 g.t.rb] 26))) := Lib.hid ⟨heap_alloc_new w5 _, (hN5.below ((Below.refl _ _).alloc (Nat.le_refl _) _)).more (by simp)⟩
            clear hb5 hbb hN5
            obtain ⟨t0, t1, t2, t3⟩ := HT5.out.cells
            go_wp2_with fail
            generalize w5.alloc (.cells #[.slice A5 g.t.nodes.length c5, .int .i64 g.t.last, .int .i64 g.t.rn, .int .i64 g.t.rb] 26) = W5 at *
            generalize w5.heap.size = tb at *
            refine (rfind_any HS2.out.ok HLK.out (.slice A3 f.t.nodes.length c3) 0 p false _ HT5.out.2 HPM.out).mono ?_
            rintro e w6 h6
            rw [HFA.out] at h6
            obtain ⟨va, rfl, hI6, hb6⟩ := h6
            obtain ⟨Aa, ca, rfl⟩ := hI6.len
            unfold plV
            have hba := hb6.alloc hb6.size (.cells #[.slice Aa a.dirs.length ca, .string (nm a.name), .int .i64 a.node, .bool a.slash] 57)
            have HB6 := Lib.hid (HB5.out.trans (hba.mono HB5.out.size))
            have HT6 := Lib.hid (HT5.out.next hba)
            have HU6 := Lib.hid (HU5.out.next hba)
            have HI6 := Lib.hid ((hI6.below ((Below.refl _ _).alloc (Nat.le_refl _) (.cells #[.slice Aa a.dirs.length ca, .string (nm a.name), .int .i64 a.node, .bool a.slash] 57))).more (show w6.heap.size ≤ (w6.alloc (.cells #[.slice Aa a.dirs.length ca, .string (nm a.name), .int .i64 a.node, .bool a.slash] 57)).heap.size by simp))
            have HX6 := Lib.hid (heap_alloc_new w6 (.cells #[.slice Aa a.dirs.length ca, .string (nm a.name), .int .i64 a.node, .bool a.slash] 57))
            clear hb6 hba hI6 t0 t1 t2 t3
            obtain ⟨t0, t1, t2, t3⟩ := HT6.out.cells
            go_wp2_with fail
            generalize w6.alloc (.cells #[.slice Aa a.dirs.length ca, .string (nm a.name), .int .i64 a.node, .bool a.slash] 57) = W6 at *
            generalize w6.heap.size = pa at *
            refine (rfind_any HS2.out.ok HLK.out (.slice A3 f.t.nodes.length c3) 0 q false _ HT6.out.2 HQM.out).mono ?_
            rintro e w7 h7
            rw [HFB.out] at h7
            obtain ⟨vb, rfl, hI7, hb7⟩ := h7
            obtain ⟨Ab, cb, rfl⟩ := hI7.len
            unfold plV
            have hba := hb7.alloc hb7.size (.cells #[.slice Ab b.dirs.length cb, .string (nm b.name), .int .i64 b.node, .bool b.slash] 57)
            have HMV : Hid (MV f g w ta tb pa w7.heap.size (.slice A3 f.t.nodes.length c3) (.slice A5 g.t.nodes.length c5) (.slice Aa a.dirs.length ca) (.slice Ab b.dirs.length cb) a b (w7.alloc (.cells #[.slice Ab b.dirs.length cb, .string (nm b.name), .int .i64 b.node, .bool b.slash] 57))) := Lib.hid ⟨HB6.out.trans (hba.mono HB6.out.size), HT6.out.next hba, HU6.out.next hba, (hba.block _ (blk_lt HX6.out)).trans HX6.out, (HI6.out.below hba).more hba.size, heap_alloc_new w7 _, (hI7.below ((Below.refl _ _).alloc (Nat.le_refl _) (.cells #[.slice Ab b.dirs.length cb, .string (nm b.name), .int .i64 b.node, .bool b.slash] 57))).more (show w7.heap.size ≤ (w7.alloc (.cells #[.slice Ab b.dirs.length cb, .string (nm b.name), .int .i64 b.node, .bool b.slash] 57)).heap.size by simp)⟩
            clear hb7 hba hI7 t0 t1 t2 t3 HT4 HT5 HT6 HU5 HU6 HI6 HX6 HB5 HB6 HFA HFB HSA HTA HBA
            obtain ⟨a0, a1, a2, a3⟩ := box4 HMV.out.ba
            obtain ⟨b0, b1, b2, b3⟩ := box4 HMV.out.bb
            obtain ⟨t0, t1, t2, t3⟩ := HMV.out.t1.cells
            obtain ⟨s0, s1, s2, s3⟩ := HMV.out.t2.cells
            have q1 : (a.node == 0) = false := beq_eq_false_iff_ne.2 g1
            have q2 := emp_no (b := nm a.name) g2
            have q3 := emp_no (b := nm b.name) g3
            clear g1 g2 g3
            go_upto_region 12 with fail
            generalize w7.alloc (.cells #[.slice Ab b.dirs.length cb, .string (nm b.name), .int .i64 b.node, .bool b.slash] 57) = W7 at *
            generalize w7.heap.size = pb at *
            generalize hna : nm a.name = na at *
            generalize hnb : nm b.name = nb at *
            obtain ⟨ia, hia⟩ : ∃ ia, a.node = ia := ⟨_, rfl⟩
            obtain ⟨ib, hib⟩ : ∃ ib, b.node = ib := ⟨_, rfl⟩
            rw [hia] at q1 a2 G6 G7
            rw [hib] at b2 G6 G7
            have HIA := Lib.hid hia
            have HIB := Lib.hid hib
            have HNA := Lib.hid hna
            have HNB := Lib.hid hnb
            clear hia hib hna hnb
            by_cases he : ia = ib
            · have q4 : (ia == ib) = true := by simp [he]
              have HEQ := Lib.hid (G6.out he)
              have HX5 : Hid (∀ W, MV f g w ta tb pa pb (.slice A3 f.t.nodes.length c3) (.slice A5 g.t.nodes.length c5) (.slice Aa a.dirs.length ca) (.slice Ab b.dirs.length cb) a b W → Calls Tryz.prog 25 #[trV (.slice A3 f.t.nodes.length c3) f.t, trV (.slice A5 g.t.nodes.length c5) g.t] W fun e w' => e = .returned (.bool true) ∧ Below W.heap.size W w') := Lib.hid (fun W h => by
                have h2 := h.t2.2
                rw [HEQ.out] at h2 ⊢
                exact exact6 _ _ _ _ h.t1.2 h2)
              unfold trV at HX5
              clear he
              go_wp2_with (first | (go_at_call 25; (with_reducible refine (HX5.out _ HMV.out).mono ?_); rintro e w8 ⟨rfl, hb8⟩; have K8 := Lib.hid (HMV.out.next hb8); clear hb8) | (go_at_call 10; (with_reducible refine (awake5_any _ (HM.out _ K8.out.bel)).mono ?_); rintro e w9 ⟨rfl, hb9⟩; have K9 := Lib.hid (K8.out.next hb9); clear hb9))
              go_ret
              exact ⟨rfl, K9.out.bel⟩
            · have q4 : (ia == ib) = false := beq_eq_false_iff_ne.2 he
              have HMO := Lib.hid (G7.out he)
              clear he G6 G7
              go_wp2_with fail
              refine (rget_any _ f.t ia _ _ HMV.out.t1.2 (Nat.le_refl _)).mono ?_
              rintro e w8 ⟨ex, rfl, hE8, hb8⟩
              rw [getO_nod HS2.out.ok.rise] at hE8 ⊢
              generalize (getO f.t.nodes ia).isSome = o1
              obtain ⟨nd, hnd⟩ : ∃ nd, nod f.t.nodes ia = nd := ⟨_, rfl⟩
              rw [hnd] at hE8 ⊢
              obtain ⟨Ax, cx, rfl, -⟩ := ents_len hE8
              unfold ndV
              have hba := hb8.alloc hb8.size (.cells #[.int .i64 nd.id, .int .i64 nd.kind, .int .i64 nd.mode, .int .i64 nd.owner, .int .i64 nd.time, .string (nm nd.data), .slice Ax nd.es.length cx] 64)
              have HM8 := Lib.hid (HMV.out.next hba)
              have HD8 := Lib.hid hba
              have HXG := Lib.hid hb8.size
              have HX8 := Lib.hid (heap_alloc_new w8 (.cells #[.int .i64 nd.id, .int .i64 nd.kind, .int .i64 nd.mode, .int .i64 nd.owner, .int .i64 nd.time, .string (nm nd.data), .slice Ax nd.es.length cx] 64))
              have HE8 := Lib.hid ((hE8.below ((Below.refl _ _).alloc (Nat.le_refl _) (.cells #[.int .i64 nd.id, .int .i64 nd.kind, .int .i64 nd.mode, .int .i64 nd.owner, .int .i64 nd.time, .string (nm nd.data), .slice Ax nd.es.length cx] 64))).more (show w8.heap.size ≤ (w8.alloc (.cells #[.int .i64 nd.id, .int .i64 nd.kind, .int .i64 nd.mode, .int .i64 nd.owner, .int .i64 nd.time, .string (nm nd.data), .slice Ax nd.es.length cx] 64)).heap.size by simp))
              clear hb8 hba hE8 a0 a1 a2 a3 b0 b1 b2 b3 t0 t1 t2 t3 s0 s1 s2 s3
              obtain ⟨a0, a1, a2, a3⟩ := box4 HM8.out.ba
              rw [HIA.out] at a2
              obtain ⟨s0, s1, s2, s3⟩ := HM8.out.t2.cells
              go_wp2_with fail
              generalize w8.alloc (.cells #[.int .i64 nd.id, .int .i64 nd.kind, .int .i64 nd.mode, .int .i64 nd.owner, .int .i64 nd.time, .string (nm nd.data), .slice Ax nd.es.length cx] 64) = W8 at *
              generalize w8.heap.size = xb at *
              refine (rget_any _ g.t ia _ _ HM8.out.t2.2 (Nat.le_refl _)).mono ?_
              rintro e w9 ⟨ey, rfl, hE9, hb9⟩
              have hng : nod g.t.nodes ia = nd := by
                have := HMO.out.node
                rw [HIA.out, hnd] at this
                exact this
              rw [getO_nod HS4.out.ok.rise, hng] at hE9 ⊢
              generalize (getO g.t.nodes ia).isSome = o2
              obtain ⟨Ay, cy, rfl, -⟩ := ents_len hE9
              unfold ndV
              have hba := hb9.alloc hb9.size (.cells #[.int .i64 nd.id, .int .i64 nd.kind, .int .i64 nd.mode, .int .i64 nd.owner, .int .i64 nd.time, .string (nm nd.data), .slice Ay nd.es.length cy] 64)
              have HM9 := Lib.hid (HM8.out.next hba)
              have HD9 := Lib.hid (HD8.out.trans (hba.mono HD8.out.size))
              have HYG := Lib.hid (Nat.le_trans HD8.out.size hb9.size)
              have HX9 := Lib.hid ((hba.block _ (blk_lt HX8.out)).trans HX8.out)
              have HE9 := Lib.hid ((HE8.out.below hba).more hba.size)
              have HY9 := Lib.hid (heap_alloc_new w9 (.cells #[.int .i64 nd.id, .int .i64 nd.kind, .int .i64 nd.mode, .int .i64 nd.owner, .int .i64 nd.time, .string (nm nd.data), .slice Ay nd.es.length cy] 64))
              have HF9 := Lib.hid ((hE9.below ((Below.refl _ _).alloc (Nat.le_refl _) (.cells #[.int .i64 nd.id, .int .i64 nd.kind, .int .i64 nd.mode, .int .i64 nd.owner, .int .i64 nd.time, .string (nm nd.data), .slice Ay nd.es.length cy] 64))).more (show w9.heap.size ≤ (w9.alloc (.cells #[.int .i64 nd.id, .int .i64 nd.kind, .int .i64 nd.mode, .int .i64 nd.owner, .int .i64 nd.time, .string (nm nd.data), .slice Ay nd.es.length cy] 64)).heap.size by simp))
              have HXY : Hid (xb < w9.heap.size) := Lib.hid (Nat.lt_of_lt_of_le (blk_lt HX8.out) hb9.size)
              clear hb9 hba hE9 a0 a1 a2 a3 s0 s1 s2 s3 hnd hng HX8 HE8 HM8
              go_upto_region 18 with fail
              generalize w9.alloc (.cells #[.int .i64 nd.id, .int .i64 nd.kind, .int .i64 nd.mode, .int .i64 nd.owner, .int .i64 nd.time, .string (nm nd.data), .slice Ay nd.es.length cy] 64) = W9 at *
              generalize w9.heap.size = yb at *
              obtain ⟨Q, hQ⟩ : ∃ Q : World → Prop, Q = fun W => MV f g w ta tb pa pb (.slice A3 f.t.nodes.length c3) (.slice A5 g.t.nodes.length c5) (.slice Aa a.dirs.length ca) (.slice Ab b.dirs.length cb) a b W ∧ Below W9.heap.size W9 W := ⟨_, rfl⟩
              have HQN : Hid (∀ W W', Q W → Below W.heap.size W W' → Q W') := Lib.hid (fun W W' h hb => by rw [hQ] at h ⊢; exact ⟨h.1.next hb, h.2.trans (hb.mono h.2.size)⟩)
              have HQB : Hid (∀ W, Q W → Below W9.heap.size W9 W) := Lib.hid (fun W h => by rw [hQ] at h; exact h.2)
              have HQC : Hid (∀ W, Q W → W.cell? ⟨tb, 0, none⟩ = some (.slice A5 g.t.nodes.length c5) ∧ W.cell? ⟨tb, 1, none⟩ = some (.int .i64 g.t.last) ∧ W.cell? ⟨tb, 2, none⟩ = some (.int .i64 g.t.rn) ∧ W.cell? ⟨tb, 3, none⟩ = some (.int .i64 g.t.rb) ∧ W.cell? ⟨pa, 0, none⟩ = some (.slice Aa a.dirs.length ca) ∧ W.cell? ⟨pa, 1, none⟩ = some (.string na) ∧ W.cell? ⟨pa, 2, none⟩ = some (.int .i64 ia) ∧ W.cell? ⟨pa, 3, none⟩ = some (.bool a.slash)) := Lib.hid (fun W h => by
                rw [hQ] at h
                obtain ⟨e0, e1, e2, e3⟩ := h.1.t2.cells
                obtain ⟨d0, d1, d2, d3⟩ := box4 h.1.ba
                rw [HNA.out] at d1
                rw [HIA.out] at d2
                exact ⟨e0, e1, e2, e3, d0, d1, d2, d3⟩)
              obtain ⟨lda, hlda⟩ : ∃ lda, lastI a.dirs = lda := ⟨_, rfl⟩
              obtain ⟨nu, hnu⟩ : ∃ nu, nod g.t.nodes lda = nu := ⟨_, rfl⟩
              have HDR : Hid (∀ W, Q W → Calls Tryz.prog 28 #[.agg #[.slice Aa a.dirs.length ca, .string na, .int .i64 ia, .bool a.slash]] W fun e w' => e = .returned (.int .i64 lda) ∧ Below W.heap.size W w') := Lib.hid (fun W h => by
                rw [hQ] at h
                rw [← hlda]
                exact rdir_any _ a.dirs na ia a.slash W h.1.ia G4.out.1 G4.out.2)
              have HGT : Hid (∀ W, Q W → Calls Tryz.prog 27 #[trV (.slice A5 g.t.nodes.length c5) g.t, .int .i64 lda] W fun e w' => ∃ ev, e = .returned (.tuple #[ndV ev nu, .bool (getO g.t.nodes lda).isSome]) ∧ EntsIn w' w'.heap.size ev nu.es ∧ Below W.heap.size W w') := Lib.hid (fun W h => by
                rw [hQ] at h
                have := rget_any _ g.t lda _ W h.1.t2.2 (Nat.le_refl _)
                unfold GetPost at this
                rw [getO_nod HS4.out.ok.rise, hnu] at this
                exact this)
              have K9 : Hid (Q W9) := Lib.hid (by rw [hQ]; exact ⟨HM9.out, Below.refl _ _⟩)
              have HnuA := Lib.hid hnu
              have HldaX := Lib.hid hlda
              clear hQ hnu hlda
              generalize (getO g.t.nodes lda).isSome = ou at *
              unfold trV at HGT
              skip
              go_cut [22, 23] from 128 to 133 (fun s wa wx => ∃ ub Au cu, s = .pointer (some ⟨ub, 0, none⟩) ∧ Below W9.heap.size W9 wx ∧ W9.heap.size ≤ ub ∧ wx.heap[ub]? = some (.cells #[.int .i64 nu.id, .int .i64 nu.kind, .int .i64 nu.mode, .int .i64 nu.owner, .int .i64 nu.time, .string (nm nu.data), .slice Au nu.es.length cu] 64 (0, 0)) ∧ EntsIn wx wx.heap.size (.slice Au nu.es.length cu) nu.es)
              case first =>
                have K0 := Lib.hid (HQN.out _ _ K9.out (Below.refl W9.heap.size W9).drew)
                have KA := Lib.hid (HQN.out _ _ K9.out ((Below.refl W9.heap.size W9).alloc (Nat.le_refl _) (.cells #[.int .i64 0, .int .i64 0, .int .i64 0, .int .i64 0, .int .i64 0, .string { data := #[] }, .slice none 0 0] 64)).drew)
                go_region_held3 (fun W => W.cell? ⟨tb, 0, none⟩ = some (.slice A5 g.t.nodes.length c5) ∧ W.cell? ⟨tb, 1, none⟩ = some (.int .i64 g.t.last) ∧ W.cell? ⟨tb, 2, none⟩ = some (.int .i64 g.t.rn) ∧ W.cell? ⟨tb, 3, none⟩ = some (.int .i64 g.t.rb) ∧ W.cell? ⟨pa, 0, none⟩ = some (.slice Aa a.dirs.length ca) ∧ W.cell? ⟨pa, 1, none⟩ = some (.string na) ∧ W.cell? ⟨pa, 2, none⟩ = some (.int .i64 ia) ∧ W.cell? ⟨pa, 3, none⟩ = some (.bool a.slash))
                  (first | (with_reducible exact HQC.out _ K0.out) | (with_reducible exact HQC.out _ KA.out) | (with_reducible exact HQC.out _ K10.out) | (with_reducible exact HQC.out _ K10A.out) | (with_reducible exact HQC.out _ L10.out) | (with_reducible exact HQC.out _ K11.out) | (with_reducible exact HQC.out _ K11A.out) | (with_reducible exact HQC.out _ K11B.out) | (with_reducible exact HQC.out _ K11C.out))
                  (first | (go_at_call 28; (with_reducible refine (HDR.out W9.drew K0.out).mono ?_); rintro e w10 ⟨rfl, hb10⟩; have K10 := Lib.hid (HQN.out _ _ K0.out hb10); have K10A := Lib.hid (HQN.out _ _ K10.out ((Below.refl _ _).alloc (Nat.le_refl _) (.cells #[.int .i64 0, .int .i64 0, .int .i64 0, .int .i64 0, .int .i64 0, .string { data := #[] }, .slice none 0 0] 64))); clear hb10) | (go_at_call 28; (with_reducible refine (HDR.out (W9.alloc (.cells #[.int .i64 0, .int .i64 0, .int .i64 0, .int .i64 0, .int .i64 0, .string { data := #[] }, .slice none 0 0] 64)).drew KA.out).mono ?_); rintro e u10 ⟨rfl, hb10⟩; have L10 := Lib.hid (HQN.out _ _ KA.out hb10); have HZ10 := Lib.hid ((hb10.block W9.heap.size (by simp)).trans (show ((W9.alloc (.cells #[.int .i64 0, .int .i64 0, .int .i64 0, .int .i64 0, .int .i64 0, .string { data := #[] }, .slice none 0 0] 64)).drew).heap[W9.heap.size]? = some _ from heap_alloc_new W9 _)); clear hb10) | (go_at_call 27; (with_reducible refine (HGT.out w10 K10.out).mono ?_); rintro e w11 ⟨ev, rfl, hE, hb11⟩; obtain ⟨Au, cu, rfl, -⟩ := ents_len hE; unfold ndV; have HE11 := Lib.hid hE; have K11 := Lib.hid (HQN.out _ _ K10.out hb11); have K11A := Lib.hid (HQN.out _ _ K11.out ((Below.refl _ _).alloc (Nat.le_refl _) (.cells #[.int .i64 0, .int .i64 0, .int .i64 0, .int .i64 0, .int .i64 0, .string { data := #[] }, .slice none 0 0] 64))); have K11B := Lib.hid (HQN.out _ _ K11.out ((Below.refl _ _).alloc (Nat.le_refl _) (.cells #[.int .i64 nu.id, .int .i64 nu.kind, .int .i64 nu.mode, .int .i64 nu.owner, .int .i64 nu.time, .string (nm nu.data), .slice Au nu.es.length cu] 64))); clear hb11 hE) | (go_at_call 27; (with_reducible refine (HGT.out (w10.alloc (.cells #[.int .i64 0, .int .i64 0, .int .i64 0, .int .i64 0, .int .i64 0, .string { data := #[] }, .slice none 0 0] 64)) K10A.out).mono ?_); rintro e w11 ⟨ev, rfl, hE, hb11⟩; obtain ⟨Au, cu, rfl, -⟩ := ents_len hE; unfold ndV; have HE11 := Lib.hid hE; have K11 := Lib.hid (HQN.out _ _ K10A.out hb11); have hz := (hb11.block w10.heap.size (by simp)).trans (heap_alloc_new w10 _); have HZ := Lib.hid hz; have hlz := blk_lt hz; have hle := (HQB.out _ K10.out).size; have z0 := cell_blk hz 0; have z1 := cell_blk hz 1; have z2 := cell_blk hz 2; have z3 := cell_blk hz 3; have z4 := cell_blk hz 4; have z5 := cell_blk hz 5; have z6 := cell_blk hz 6; have f0 := froz_blk hz 0; have f1 := froz_blk hz 1; have f2 := froz_blk hz 2; have f3 := froz_blk hz 3; have f4 := froz_blk hz 4; have f5 := froz_blk hz 5; have f6 := froz_blk hz 6; simp at z0 z1 z2 z3 z4 z5 z6; have HBC : Hid (Below W9.heap.size W9 (((((((w11.setCell ⟨w10.heap.size, 0, none⟩ (.int .i64 nu.id)).setCell ⟨w10.heap.size, 1, none⟩ (.int .i64 nu.kind)).setCell ⟨w10.heap.size, 2, none⟩ (.int .i64 nu.mode)).setCell ⟨w10.heap.size, 3, none⟩ (.int .i64 nu.owner)).setCell ⟨w10.heap.size, 4, none⟩ (.int .i64 nu.time)).setCell ⟨w10.heap.size, 5, none⟩ (.string (nm nu.data))).setCell ⟨w10.heap.size, 6, none⟩ (.slice Au nu.es.length cu))) := Lib.hid ((((((((HQB.out _ K11.out).setCell (p := ⟨w10.heap.size, 0, none⟩) hle _).setCell (p := ⟨w10.heap.size, 1, none⟩) hle _).setCell (p := ⟨w10.heap.size, 2, none⟩) hle _).setCell (p := ⟨w10.heap.size, 3, none⟩) hle _).setCell (p := ⟨w10.heap.size, 4, none⟩) hle _).setCell (p := ⟨w10.heap.size, 5, none⟩) hle _).setCell (p := ⟨w10.heap.size, 6, none⟩) hle _); have K11C := Lib.hid (HQN.out _ _ K9.out HBC.out); clear hz hb11 hE) | (go_at_call 27; (with_reducible refine (HGT.out u10 L10.out).mono ?_); rintro e w11 ⟨ev, rfl, hE, hb11⟩; obtain ⟨Au, cu, rfl, -⟩ := ents_len hE; unfold ndV; have HE11 := Lib.hid hE; have K11 := Lib.hid (HQN.out _ _ L10.out hb11); have hz := (hb11.block W9.heap.size (blk_lt HZ10.out)).trans HZ10.out; have HZ := Lib.hid hz; have hlz := blk_lt hz; have z0 := cell_blk hz 0; have z1 := cell_blk hz 1; have z2 := cell_blk hz 2; have z3 := cell_blk hz 3; have z4 := cell_blk hz 4; have z5 := cell_blk hz 5; have z6 := cell_blk hz 6; have f0 := froz_blk hz 0; have f1 := froz_blk hz 1; have f2 := froz_blk hz 2; have f3 := froz_blk hz 3; have f4 := froz_blk hz 4; have f5 := froz_blk hz 5; have f6 := froz_blk hz 6; simp at z0 z1 z2 z3 z4 z5 z6; have HBC : Hid (Below W9.heap.size W9 (((((((w11.setCell ⟨W9.heap.size, 0, none⟩ (.int .i64 nu.id)).setCell ⟨W9.heap.size, 1, none⟩ (.int .i64 nu.kind)).setCell ⟨W9.heap.size, 2, none⟩ (.int .i64 nu.mode)).setCell ⟨W9.heap.size, 3, none⟩ (.int .i64 nu.owner)).setCell ⟨W9.heap.size, 4, none⟩ (.int .i64 nu.time)).setCell ⟨W9.heap.size, 5, none⟩ (.string (nm nu.data))).setCell ⟨W9.heap.size, 6, none⟩ (.slice Au nu.es.length cu))) := Lib.hid ((((((((HQB.out _ K11.out).setCell (p := ⟨W9.heap.size, 0, none⟩) (Nat.le_refl _) _).setCell (p := ⟨W9.heap.size, 1, none⟩) (Nat.le_refl _) _).setCell (p := ⟨W9.heap.size, 2, none⟩) (Nat.le_refl _) _).setCell (p := ⟨W9.heap.size, 3, none⟩) (Nat.le_refl _) _).setCell (p := ⟨W9.heap.size, 4, none⟩) (Nat.le_refl _) _).setCell (p := ⟨W9.heap.size, 5, none⟩) (Nat.le_refl _) _).setCell (p := ⟨W9.heap.size, 6, none⟩) (Nat.le_refl _) _); have K11C := Lib.hid (HQN.out _ _ K9.out HBC.out); clear hz hb11 hE))
                all_goals go_wp2_with fail
                all_goals go_meet
                · exact ⟨_, _, _, rfl, HQB.out _ K11B.out, (HQB.out _ K11.out).size, heap_alloc_new w11 _, (HE11.out.below ((Below.refl _ _).alloc (Nat.le_refl _) _)).more (by simp)⟩
                · have hk := seven_kept w11 w10.heap.size (.int .i64 nu.id) (.int .i64 nu.kind) (.int .i64 nu.mode) (.int .i64 nu.owner) (.int .i64 nu.time) (.string (nm nu.data)) (.slice Au nu.es.length cu)
                  exact ⟨_, _, _, rfl, HBC.out, (HQB.out _ K10.out).size, seven_set HZ.out _ _ _ _ _ _ _, (HE11.out.keepBut2 (fun b => b = w10.heap.size) (fun b e => by rw [e]; exact box_noEnt HZ.out (fun s => by simp) (fun s => by simp) (fun s => by simp) (fun s => by simp) (fun s => by simp)) (fun b hb hs => hk.block b hb hs)).more hk.size⟩
                · have hk := seven_kept w11 W9.heap.size (.int .i64 nu.id) (.int .i64 nu.kind) (.int .i64 nu.mode) (.int .i64 nu.owner) (.int .i64 nu.time) (.string (nm nu.data)) (.slice Au nu.es.length cu)
                  exact ⟨_, _, _, rfl, HBC.out, Nat.le_refl _, seven_set HZ.out _ _ _ _ _ _ _, (HE11.out.keepBut2 (fun b => b = W9.heap.size) (fun b e => by rw [e]; exact box_noEnt HZ.out (fun s => by simp) (fun s => by simp) (fun s => by simp) (fun s => by simp) (fun s => by simp)) (fun b hb hs => hk.block b hb hs)).more hk.size⟩
              case rest =>
                obtain ⟨ub, Au, cu, rfl, hbu, hgu, hu, hEu⟩ := hcut
                obtain ⟨W10, rfl⟩ : ∃ W10 : World, W10 = wc := ⟨_, rfl⟩
                have HM10 := Lib.hid (HM9.out.next hbu)
                have HD10 := Lib.hid (HD9.out.trans (hbu.mono HD9.out.size))
                have HX10 : Hid (NB6 xb _ nd W10) := Lib.hid (NB6.next ⟨HX9.out, HE9.out⟩ hbu)
                have HY10 : Hid (NB6 yb _ nd W10) := Lib.hid (NB6.next ⟨HY9.out, HF9.out⟩ hbu)
                have HU10 : Hid (NB6 ub _ nu W10) := Lib.hid ⟨hu, hEu⟩
                have HUN : Hid (ub ≠ xb ∧ ub ≠ yb) := Lib.hid ⟨fun e => by have := blk_lt HX9.out; omega, fun e => by have := blk_lt HY9.out; omega⟩
                clear hbu hgu hu hEu HM9 HX9 HY9 HE9 HF9 HQN HQB HQC HDR HGT K9 HD8 HD9
                obtain ⟨Q, hQ⟩ : ∃ Q : World → Prop, Q = fun W => MV f g w ta tb pa pb (.slice A3 f.t.nodes.length c3) (.slice A5 g.t.nodes.length c5) (.slice Aa a.dirs.length ca) (.slice Ab b.dirs.length cb) a b W ∧ Below W10.heap.size W10 W := ⟨_, rfl⟩
                have HQN : Hid (∀ W W', Q W → Below W.heap.size W W' → Q W') := Lib.hid (fun W W' h hb => by rw [hQ] at h ⊢; exact ⟨h.1.next hb, h.2.trans (hb.mono h.2.size)⟩)
                have HQB : Hid (∀ W, Q W → Below W10.heap.size W10 W) := Lib.hid (fun W h => by rw [hQ] at h; exact h.2)
                have HQC : Hid (∀ W, Q W → W.cell? ⟨tb, 0, none⟩ = some (.slice A5 g.t.nodes.length c5) ∧ W.cell? ⟨tb, 1, none⟩ = some (.int .i64 g.t.last) ∧ W.cell? ⟨tb, 2, none⟩ = some (.int .i64 g.t.rn) ∧ W.cell? ⟨tb, 3, none⟩ = some (.int .i64 g.t.rb) ∧ W.cell? ⟨pb, 0, none⟩ = some (.slice Ab b.dirs.length cb) ∧ W.cell? ⟨pb, 1, none⟩ = some (.string nb) ∧ W.cell? ⟨pb, 2, none⟩ = some (.int .i64 ib) ∧ W.cell? ⟨pb, 3, none⟩ = some (.bool b.slash)) := Lib.hid (fun W h => by
                  rw [hQ] at h
                  obtain ⟨e0, e1, e2, e3⟩ := h.1.t2.cells
                  obtain ⟨d0, d1, d2, d3⟩ := box4 h.1.bb
                  rw [HNB.out] at d1
                  rw [HIB.out] at d2
                  exact ⟨e0, e1, e2, e3, d0, d1, d2, d3⟩)
                obtain ⟨ldb, hldb⟩ : ∃ ldb, lastI b.dirs = ldb := ⟨_, rfl⟩
                obtain ⟨nv, hnv⟩ : ∃ nv, nod g.t.nodes ldb = nv := ⟨_, rfl⟩
                have HDR : Hid (∀ W, Q W → Calls Tryz.prog 28 #[.agg #[.slice Ab b.dirs.length cb, .string nb, .int .i64 ib, .bool b.slash]] W fun e w' => e = .returned (.int .i64 ldb) ∧ Below W.heap.size W w') := Lib.hid (fun W h => by
                  rw [hQ] at h
                  rw [← hldb]
                  exact rdir_any _ b.dirs nb ib b.slash W h.1.ib G5.out.1 G5.out.2)
                have HGT : Hid (∀ W, Q W → Calls Tryz.prog 27 #[trV (.slice A5 g.t.nodes.length c5) g.t, .int .i64 ldb] W fun e w' => ∃ ev, e = .returned (.tuple #[ndV ev nv, .bool (getO g.t.nodes ldb).isSome]) ∧ EntsIn w' w'.heap.size ev nv.es ∧ Below W.heap.size W w') := Lib.hid (fun W h => by
                  rw [hQ] at h
                  have := rget_any _ g.t ldb _ W h.1.t2.2 (Nat.le_refl _)
                  unfold GetPost at this
                  rw [getO_nod HS4.out.ok.rise, hnv] at this
                  exact this)
                have K9 : Hid (Q W10) := Lib.hid (by rw [hQ]; exact ⟨HM10.out, Below.refl _ _⟩)
                have HnvB := Lib.hid hnv
                have HldbX := Lib.hid hldb
                clear hQ hnv hldb
                generalize (getO g.t.nodes ldb).isSome = ou at *
                unfold trV at HGT
                go_upto_region 19 with fail
                go_cut [24, 25] from 135 to 140 (fun s wa wx => ∃ ub Au cu, s = .pointer (some ⟨ub, 0, none⟩) ∧ Below W10.heap.size W10 wx ∧ W10.heap.size ≤ ub ∧ wx.heap[ub]? = some (.cells #[.int .i64 nv.id, .int .i64 nv.kind, .int .i64 nv.mode, .int .i64 nv.owner, .int .i64 nv.time, .string (nm nv.data), .slice Au nv.es.length cu] 64 (0, 0)) ∧ EntsIn wx wx.heap.size (.slice Au nv.es.length cu) nv.es)
                case first =>
                  have K0 := Lib.hid (HQN.out _ _ K9.out (Below.refl W10.heap.size W10).drew)
                  have KA := Lib.hid (HQN.out _ _ K9.out ((Below.refl W10.heap.size W10).alloc (Nat.le_refl _) (.cells #[.int .i64 0, .int .i64 0, .int .i64 0, .int .i64 0, .int .i64 0, .string { data := #[] }, .slice none 0 0] 64)).drew)
                  go_region_held3 (fun W => W.cell? ⟨tb, 0, none⟩ = some (.slice A5 g.t.nodes.length c5) ∧ W.cell? ⟨tb, 1, none⟩ = some (.int .i64 g.t.last) ∧ W.cell? ⟨tb, 2, none⟩ = some (.int .i64 g.t.rn) ∧ W.cell? ⟨tb, 3, none⟩ = some (.int .i64 g.t.rb) ∧ W.cell? ⟨pb, 0, none⟩ = some (.slice Ab b.dirs.length cb) ∧ W.cell? ⟨pb, 1, none⟩ = some (.string nb) ∧ W.cell? ⟨pb, 2, none⟩ = some (.int .i64 ib) ∧ W.cell? ⟨pb, 3, none⟩ = some (.bool b.slash))
                    (first | (with_reducible exact HQC.out _ K0.out) | (with_reducible exact HQC.out _ KA.out) | (with_reducible exact HQC.out _ K10.out) | (with_reducible exact HQC.out _ K10A.out) | (with_reducible exact HQC.out _ L10.out) | (with_reducible exact HQC.out _ K11.out) | (with_reducible exact HQC.out _ K11A.out) | (with_reducible exact HQC.out _ K11B.out) | (with_reducible exact HQC.out _ K11C.out))
                    (first | (go_at_call 28; (with_reducible refine (HDR.out W10.drew K0.out).mono ?_); rintro e w10 ⟨rfl, hb10⟩; have K10 := Lib.hid (HQN.out _ _ K0.out hb10); have K10A := Lib.hid (HQN.out _ _ K10.out ((Below.refl _ _).alloc (Nat.le_refl _) (.cells #[.int .i64 0, .int .i64 0, .int .i64 0, .int .i64 0, .int .i64 0, .string { data := #[] }, .slice none 0 0] 64))); clear hb10) | (go_at_call 28; (with_reducible refine (HDR.out (W10.alloc (.cells #[.int .i64 0, .int .i64 0, .int .i64 0, .int .i64 0, .int .i64 0, .string { data := #[] }, .slice none 0 0] 64)).drew KA.out).mono ?_); rintro e u10 ⟨rfl, hb10⟩; have L10 := Lib.hid (HQN.out _ _ KA.out hb10); have HZ10 := Lib.hid ((hb10.block W10.heap.size (by simp)).trans (show ((W10.alloc (.cells #[.int .i64 0, .int .i64 0, .int .i64 0, .int .i64 0, .int .i64 0, .string { data := #[] }, .slice none 0 0] 64)).drew).heap[W10.heap.size]? = some _ from heap_alloc_new W10 _)); clear hb10) | (go_at_call 27; (with_reducible refine (HGT.out w10 K10.out).mono ?_); rintro e w11 ⟨ev, rfl, hE, hb11⟩; obtain ⟨Au, cu, rfl, -⟩ := ents_len hE; unfold ndV; have HE11 := Lib.hid hE; have K11 := Lib.hid (HQN.out _ _ K10.out hb11); have K11A := Lib.hid (HQN.out _ _ K11.out ((Below.refl _ _).alloc (Nat.le_refl _) (.cells #[.int .i64 0, .int .i64 0, .int .i64 0, .int .i64 0, .int .i64 0, .string { data := #[] }, .slice none 0 0] 64))); have K11B := Lib.hid (HQN.out _ _ K11.out ((Below.refl _ _).alloc (Nat.le_refl _) (.cells #[.int .i64 nv.id, .int .i64 nv.kind, .int .i64 nv.mode, .int .i64 nv.owner, .int .i64 nv.time, .string (nm nv.data), .slice Au nv.es.length cu] 64))); clear hb11 hE) | (go_at_call 27; (with_reducible refine (HGT.out (w10.alloc (.cells #[.int .i64 0, .int .i64 0, .int .i64 0, .int .i64 0, .int .i64 0, .string { data := #[] }, .slice none 0 0] 64)) K10A.out).mono ?_); rintro e w11 ⟨ev, rfl, hE, hb11⟩; obtain ⟨Au, cu, rfl, -⟩ := ents_len hE; unfold ndV; have HE11 := Lib.hid hE; have K11 := Lib.hid (HQN.out _ _ K10A.out hb11); have hz := (hb11.block w10.heap.size (by simp)).trans (heap_alloc_new w10 _); have HZ := Lib.hid hz; have hlz := blk_lt hz; have hle := (HQB.out _ K10.out).size; have z0 := cell_blk hz 0; have z1 := cell_blk hz 1; have z2 := cell_blk hz 2; have z3 := cell_blk hz 3; have z4 := cell_blk hz 4; have z5 := cell_blk hz 5; have z6 := cell_blk hz 6; have f0 := froz_blk hz 0; have f1 := froz_blk hz 1; have f2 := froz_blk hz 2; have f3 := froz_blk hz 3; have f4 := froz_blk hz 4; have f5 := froz_blk hz 5; have f6 := froz_blk hz 6; simp at z0 z1 z2 z3 z4 z5 z6; have HBC : Hid (Below W10.heap.size W10 (((((((w11.setCell ⟨w10.heap.size, 0, none⟩ (.int .i64 nv.id)).setCell ⟨w10.heap.size, 1, none⟩ (.int .i64 nv.kind)).setCell ⟨w10.heap.size, 2, none⟩ (.int .i64 nv.mode)).setCell ⟨w10.heap.size, 3, none⟩ (.int .i64 nv.owner)).setCell ⟨w10.heap.size, 4, none⟩ (.int .i64 nv.time)).setCell ⟨w10.heap.size, 5, none⟩ (.string (nm nv.data))).setCell ⟨w10.heap.size, 6, none⟩ (.slice Au nv.es.length cu))) := Lib.hid ((((((((HQB.out _ K11.out).setCell (p := ⟨w10.heap.size, 0, none⟩) hle _).setCell (p := ⟨w10.heap.size, 1, none⟩) hle _).setCell (p := ⟨w10.heap.size, 2, none⟩) hle _).setCell (p := ⟨w10.heap.size, 3, none⟩) hle _).setCell (p := ⟨w10.heap.size, 4, none⟩) hle _).setCell (p := ⟨w10.heap.size, 5, none⟩) hle _).setCell (p := ⟨w10.heap.size, 6, none⟩) hle _); have K11C := Lib.hid (HQN.out _ _ K9.out HBC.out); clear hz hb11 hE) | (go_at_call 27; (with_reducible refine (HGT.out u10 L10.out).mono ?_); rintro e w11 ⟨ev, rfl, hE, hb11⟩; obtain ⟨Au, cu, rfl, -⟩ := ents_len hE; unfold ndV; have HE11 := Lib.hid hE; have K11 := Lib.hid (HQN.out _ _ L10.out hb11); have hz := (hb11.block W10.heap.size (blk_lt HZ10.out)).trans HZ10.out; have HZ := Lib.hid hz; have hlz := blk_lt hz; have z0 := cell_blk hz 0; have z1 := cell_blk hz 1; have z2 := cell_blk hz 2; have z3 := cell_blk hz 3; have z4 := cell_blk hz 4; have z5 := cell_blk hz 5; have z6 := cell_blk hz 6; have f0 := froz_blk hz 0; have f1 := froz_blk hz 1; have f2 := froz_blk hz 2; have f3 := froz_blk hz 3; have f4 := froz_blk hz 4; have f5 := froz_blk hz 5; have f6 := froz_blk hz 6; simp at z0 z1 z2 z3 z4 z5 z6; have HBC : Hid (Below W10.heap.size W10 (((((((w11.setCell ⟨W10.heap.size, 0, none⟩ (.int .i64 nv.id)).setCell ⟨W10.heap.size, 1, none⟩ (.int .i64 nv.kind)).setCell ⟨W10.heap.size, 2, none⟩ (.int .i64 nv.mode)).setCell ⟨W10.heap.size, 3, none⟩ (.int .i64 nv.owner)).setCell ⟨W10.heap.size, 4, none⟩ (.int .i64 nv.time)).setCell ⟨W10.heap.size, 5, none⟩ (.string (nm nv.data))).setCell ⟨W10.heap.size, 6, none⟩ (.slice Au nv.es.length cu))) := Lib.hid ((((((((HQB.out _ K11.out).setCell (p := ⟨W10.heap.size, 0, none⟩) (Nat.le_refl _) _).setCell (p := ⟨W10.heap.size, 1, none⟩) (Nat.le_refl _) _).setCell (p := ⟨W10.heap.size, 2, none⟩) (Nat.le_refl _) _).setCell (p := ⟨W10.heap.size, 3, none⟩) (Nat.le_refl _) _).setCell (p := ⟨W10.heap.size, 4, none⟩) (Nat.le_refl _) _).setCell (p := ⟨W10.heap.size, 5, none⟩) (Nat.le_refl _) _).setCell (p := ⟨W10.heap.size, 6, none⟩) (Nat.le_refl _) _); have K11C := Lib.hid (HQN.out _ _ K9.out HBC.out); clear hz hb11 hE))
                  all_goals go_wp2_with fail
                  all_goals go_meet
                  · exact ⟨_, _, _, rfl, HQB.out _ K11B.out, (HQB.out _ K11.out).size, heap_alloc_new w11 _, (HE11.out.below ((Below.refl _ _).alloc (Nat.le_refl _) _)).more (by simp)⟩
                  · have hk := seven_kept w11 w10.heap.size (.int .i64 nv.id) (.int .i64 nv.kind) (.int .i64 nv.mode) (.int .i64 nv.owner) (.int .i64 nv.time) (.string (nm nv.data)) (.slice Au nv.es.length cu)
                    exact ⟨_, _, _, rfl, HBC.out, (HQB.out _ K10.out).size, seven_set HZ.out _ _ _ _ _ _ _, (HE11.out.keepBut2 (fun b => b = w10.heap.size) (fun b e => by rw [e]; exact box_noEnt HZ.out (fun s => by simp) (fun s => by simp) (fun s => by simp) (fun s => by simp) (fun s => by simp)) (fun b hb hs => hk.block b hb hs)).more hk.size⟩
                  · have hk := seven_kept w11 W10.heap.size (.int .i64 nv.id) (.int .i64 nv.kind) (.int .i64 nv.mode) (.int .i64 nv.owner) (.int .i64 nv.time) (.string (nm nv.data)) (.slice Au nv.es.length cu)
                    exact ⟨_, _, _, rfl, HBC.out, Nat.le_refl _, seven_set HZ.out _ _ _ _ _ _ _, (HE11.out.keepBut2 (fun b => b = W10.heap.size) (fun b e => by rw [e]; exact box_noEnt HZ.out (fun s => by simp) (fun s => by simp) (fun s => by simp) (fun s => by simp) (fun s => by simp)) (fun b hb hs => hk.block b hb hs)).more hk.size⟩
                case rest =>
                  obtain ⟨vb, Av, cv, rfl, hbv, hgv, hv, hEv⟩ := hcut
                  obtain ⟨W11, rfl⟩ : ∃ W11 : World, W11 = wc := ⟨_, rfl⟩
                  have HD11 := Lib.hid (HD10.out.trans (hbv.mono HD10.out.size))
                  have HX11 := Lib.hid (HX10.out.next hbv)
                  have HY11 := Lib.hid (HY10.out.next hbv)
                  have HU11 := Lib.hid (HU10.out.next hbv)
                  have HV11 : Hid (NB6 vb _ nv W11) := Lib.hid ⟨hv, hEv⟩
                  have HVN : Hid (vb ≠ xb ∧ vb ≠ yb) := Lib.hid ⟨fun e => by have := blk_lt HX10.out.1; omega, fun e => by have := blk_lt HY10.out.1; omega⟩
                  clear hbv hgv hv hEv HX10 HY10 HU10 HM10 HQN HQB HQC HDR HGT K9 HD10
                  have x4 := cell_blk HX11.out.1 4
                  have y4 := cell_blk HY11.out.1 4
                  have f4 := froz_blk HX11.out.1 4
                  have e4 := froz_blk HY11.out.1 4
                  simp at x4 y4
                  have hxy : xb ≠ yb := Nat.ne_of_lt HXY.out
                  have hyx : yb ≠ xb := fun e => hxy e.symm
                  have hyb := (Below.heap_setCell W11 ⟨xb, 4, none⟩ (.int .i64 0) yb hyx).trans HY11.out.1
                  have y5 := cell_blk hyb 4
                  have e5 := froz_blk hyb 4
                  simp at y5
                  clear y4 e4 hyb
                  go_upto_region 21 with fail
                  obtain ⟨Q, hQ⟩ : ∃ Q : World → Prop, Q = fun W => MV f g w ta tb pa pb (.slice A3 f.t.nodes.length c3) (.slice A5 g.t.nodes.length c5) (.slice Aa a.dirs.length ca) (.slice Ab b.dirs.length cb) a b W ∧ NB6 xb (.slice Ax nd.es.length cx) { nd with time := 0 } W ∧ NB6 yb (.slice Ay nd.es.length cy) { nd with time := 0 } W ∧ NB6 ub (.slice Au nu.es.length cu) nu W ∧ NB6 vb (.slice Av nv.es.length cv) nv W := ⟨_, rfl⟩
                  have HQN : Hid (∀ W W', Q W → Below W.heap.size W W' → Q W') := Lib.hid (fun W W' h hb => by rw [hQ] at h ⊢; exact ⟨h.1.next hb, h.2.1.next hb, h.2.2.1.next hb, h.2.2.2.1.next hb, h.2.2.2.2.next hb⟩)
                  have HQB : Hid (∀ W, Q W → Below w.heap.size w W) := Lib.hid (fun W h => by rw [hQ] at h; exact h.1.bel)
                  have HQC : Hid (∀ W, Q W → W.cell? ⟨xb, 0, none⟩ = some (.int .i64 nd.id) ∧ W.cell? ⟨xb, 1, none⟩ = some (.int .i64 nd.kind) ∧ W.cell? ⟨xb, 2, none⟩ = some (.int .i64 nd.mode) ∧ W.cell? ⟨xb, 3, none⟩ = some (.int .i64 nd.owner) ∧ W.cell? ⟨xb, 4, none⟩ = some (.int .i64 0) ∧ W.cell? ⟨xb, 5, none⟩ = some (.string (nm nd.data)) ∧ W.cell? ⟨xb, 6, none⟩ = some ((.slice Ax nd.es.length cx)) ∧ W.cell? ⟨yb, 0, none⟩ = some (.int .i64 nd.id) ∧ W.cell? ⟨yb, 1, none⟩ = some (.int .i64 nd.kind) ∧ W.cell? ⟨yb, 2, none⟩ = some (.int .i64 nd.mode) ∧ W.cell? ⟨yb, 3, none⟩ = some (.int .i64 nd.owner) ∧ W.cell? ⟨yb, 4, none⟩ = some (.int .i64 0) ∧ W.cell? ⟨yb, 5, none⟩ = some (.string (nm nd.data)) ∧ W.cell? ⟨yb, 6, none⟩ = some ((.slice Ay nd.es.length cy)) ∧ W.cell? ⟨ub, 0, none⟩ = some (.int .i64 nu.id) ∧ W.cell? ⟨ub, 1, none⟩ = some (.int .i64 nu.kind) ∧ W.cell? ⟨ub, 2, none⟩ = some (.int .i64 nu.mode) ∧ W.cell? ⟨ub, 3, none⟩ = some (.int .i64 nu.owner) ∧ W.cell? ⟨ub, 4, none⟩ = some (.int .i64 nu.time) ∧ W.cell? ⟨ub, 5, none⟩ = some (.string (nm nu.data)) ∧ W.cell? ⟨ub, 6, none⟩ = some ((.slice Au nu.es.length cu)) ∧ W.cell? ⟨vb, 0, none⟩ = some (.int .i64 nv.id) ∧ W.cell? ⟨vb, 1, none⟩ = some (.int .i64 nv.kind) ∧ W.cell? ⟨vb, 2, none⟩ = some (.int .i64 nv.mode) ∧ W.cell? ⟨vb, 3, none⟩ = some (.int .i64 nv.owner) ∧ W.cell? ⟨vb, 4, none⟩ = some (.int .i64 nv.time) ∧ W.cell? ⟨vb, 5, none⟩ = some (.string (nm nv.data)) ∧ W.cell? ⟨vb, 6, none⟩ = some ((.slice Av nv.es.length cv)) ∧ W.cell? ⟨ta, 0, none⟩ = some (.slice A3 f.t.nodes.length c3) ∧ W.cell? ⟨ta, 1, none⟩ = some (.int .i64 f.t.last) ∧ W.cell? ⟨ta, 2, none⟩ = some (.int .i64 f.t.rn) ∧ W.cell? ⟨ta, 3, none⟩ = some (.int .i64 f.t.rb) ∧ W.cell? ⟨tb, 0, none⟩ = some (.slice A5 g.t.nodes.length c5) ∧ W.cell? ⟨tb, 1, none⟩ = some (.int .i64 g.t.last) ∧ W.cell? ⟨tb, 2, none⟩ = some (.int .i64 g.t.rn) ∧ W.cell? ⟨tb, 3, none⟩ = some (.int .i64 g.t.rb) ∧ W.cell? ⟨pa, 1, none⟩ = some (.string na) ∧ W.cell? ⟨pa, 2, none⟩ = some (.int .i64 ia) ∧ W.cell? ⟨pb, 1, none⟩ = some (.string nb)) := Lib.hid (fun W h => by
                    rw [hQ] at h
                    obtain ⟨m, hx, hy, hu, hv⟩ := h
                    obtain ⟨x0, x1, x2, x3, x4, x5, x6⟩ := box7 hx.1
                    obtain ⟨y0, y1, y2, y3, y4, y5, y6⟩ := box7 hy.1
                    obtain ⟨u0, u1, u2, u3, u4, u5, u6⟩ := box7 hu.1
                    obtain ⟨v0, v1, v2, v3, v4, v5, v6⟩ := box7 hv.1
                    obtain ⟨t0, t1, t2, t3⟩ := m.t1.cells
                    obtain ⟨s0, s1, s2, s3⟩ := m.t2.cells
                    obtain ⟨a0, a1, a2, a3⟩ := box4 m.ba
                    obtain ⟨b0, b1, b2, b3⟩ := box4 m.bb
                    rw [HNA.out] at a1
                    rw [HIA.out] at a2
                    rw [HNB.out] at b1
                    exact ⟨x0, x1, x2, x3, x4, x5, x6, y0, y1, y2, y3, y4, y5, y6, u0, u1, u2, u3, u4, u5, u6, v0, v1, v2, v3, v4, v5, v6, t0, t1, t2, t3, s0, s1, s2, s3, a1, a2, b1⟩)
                  have HK : Hid (Q ((W11.setCell ⟨xb, 4, none⟩ (.int .i64 0)).setCell ⟨yb, 4, none⟩ (.int .i64 0))) := Lib.hid (by
                    rw [hQ]
                    have hX := set_blk (j := 4) HX11.out.1 (.int .i64 0)
                    simp at hX
                    have hX2 := (Below.heap_setCell (W11.setCell ⟨xb, 4, none⟩ (.int .i64 0)) ⟨yb, 4, none⟩ (.int .i64 0) xb hxy).trans hX
                    have hY := set_blk (j := 4) ((Below.heap_setCell W11 ⟨xb, 4, none⟩ (.int .i64 0) yb hyx).trans HY11.out.1) (.int .i64 0)
                    simp at hY
                    have hE := fun v es (h : EntsIn W11 W11.heap.size v es) => two_ents HX11.out.1 HY11.out.1 (.int .i64 0) (.int .i64 0) h
                    have hB := (HD11.out.setCell (p := ⟨xb, 4, none⟩) HXG.out (.int .i64 0)).setCell (p := ⟨yb, 4, none⟩) HYG.out (.int .i64 0)
                    have hub : ub ≠ xb ∧ ub ≠ yb := HUN.out
                    have hvb : vb ≠ xb ∧ vb ≠ yb := HVN.out
                    refine ⟨HMV.out.next hB, ⟨hX2, hE _ _ HX11.out.2⟩, ⟨hY, hE _ _ HY11.out.2⟩, ⟨?_, hE _ _ HU11.out.2⟩, ⟨?_, hE _ _ HV11.out.2⟩⟩
                    · rw [Below.heap_setCell _ _ _ _ hub.2, Below.heap_setCell _ _ _ _ hub.1]; exact HU11.out.1
                    · rw [Below.heap_setCell _ _ _ _ hvb.2, Below.heap_setCell _ _ _ _ hvb.1]; exact HV11.out.1)
                  obtain ⟨z0, hz0⟩ : ∃ z0 : Int, 0 = z0 := ⟨_, rfl⟩
                  obtain ⟨iv, hiv⟩ : ∃ iv, ia = iv := ⟨_, rfl⟩
                  obtain ⟨l1, hl1⟩ : ∃ l1, (links g.t.nodes ia : Int) = l1 := ⟨_, rfl⟩
                  obtain ⟨l2, hl2⟩ : ∃ l2, (links f.t.nodes ia : Int) = l2 := ⟨_, rfl⟩
                  have HSN : Hid (∀ W, Q W → Calls Tryz.prog 29 #[.agg #[.int .i64 nd.id, .int .i64 nd.kind, .int .i64 nd.mode, .int .i64 nd.owner, .int .i64 0, .string (nm nd.data), (.slice Ax nd.es.length cx)], .agg #[.int .i64 nd.id, .int .i64 nd.kind, .int .i64 nd.mode, .int .i64 nd.owner, .int .i64 0, .string (nm nd.data), (.slice Ay nd.es.length cy)]] W fun e w' => e = .returned (.bool true) ∧ Below W.heap.size W w') := Lib.hid (fun W h => by
                    rw [hQ] at h
                    refine (rsameNode_any (.slice Ax nd.es.length cx) (.slice Ay nd.es.length cy) { nd with time := 0 } { nd with time := 0 } _ W h.2.1.2 h.2.2.1.2 (Nat.le_refl _)).mono ?_
                    rintro e w' ⟨rfl, hb⟩
                    exact ⟨by simp, hb⟩)
                  have HC1 : Hid (∀ W, Q W → Calls Tryz.prog 30 #[.agg #[.int .i64 nu.id, .int .i64 nu.kind, .int .i64 nu.mode, .int .i64 nu.owner, .int .i64 nu.time, .string (nm nu.data), (.slice Au nu.es.length cu)], .string na] W fun e w' => e = .returned (.int .i64 z0) ∧ Below W.heap.size W w') := Lib.hid (fun W h => by
                    rw [hQ] at h
                    have hg := HMO.out.gone
                    unfold entT at hg
                    rw [HldaX.out, HnuA.out] at hg
                    have := rchild_any (.slice Au nu.es.length cu) nu na _ W h.2.2.2.1.2 (Nat.le_refl _)
                    rw [← HNA.out, show (nm a.name).data.toList = a.name from rfl, hg, hz0, HNA.out] at this
                    exact this)
                  have HC2 : Hid (∀ W, Q W → Calls Tryz.prog 30 #[.agg #[.int .i64 nv.id, .int .i64 nv.kind, .int .i64 nv.mode, .int .i64 nv.owner, .int .i64 nv.time, .string (nm nv.data), (.slice Av nv.es.length cv)], .string nb] W fun e w' => e = .returned (.int .i64 iv) ∧ Below W.heap.size W w') := Lib.hid (fun W h => by
                    rw [hQ] at h
                    have hg := HMO.out.new
                    unfold entT at hg
                    rw [HldbX.out, HnvB.out, HIA.out] at hg
                    have := rchild_any (.slice Av nv.es.length cv) nv nb _ W h.2.2.2.2.2 (Nat.le_refl _)
                    rw [← HNB.out, show (nm b.name).data.toList = b.name from rfl, hg, hiv, HNB.out] at this
                    exact this)
                  have HL1 : Hid (∀ W, Q W → Calls Tryz.prog 31 #[trV (.slice A5 g.t.nodes.length c5) g.t, .int .i64 ia] W fun e w' => e = .returned (.int .i64 l1) ∧ Below W.heap.size W w') := Lib.hid (fun W h => by
                    rw [hQ] at h
                    rw [← hl1]
                    exact rlinks_any _ g.t ia _ W h.1.t2.2 (Nat.le_refl _) (flat6 HS4.out.ok))
                  have HL2 : Hid (∀ W, Q W → Calls Tryz.prog 31 #[trV (.slice A3 f.t.nodes.length c3) f.t, .int .i64 ia] W fun e w' => e = .returned (.int .i64 l2) ∧ Below W.heap.size W w') := Lib.hid (fun W h => by
                    rw [hQ] at h
                    rw [← hl2]
                    exact rlinks_any _ f.t ia _ W h.1.t1.2 (Nat.le_refl _) (flat6 (HS2.out.ok.mono (by omega))))
                  have HAW : Hid (∀ W, Q W → Calls Tryz.prog 10 #[] W fun e w' => e = .returned (.bool true) ∧ Below W.heap.size W w') := Lib.hid (fun W h => awake5_any _ (HM.out _ (HQB.out _ h)))
                  have q5 : (z0 == 0) = true := by rw [← hz0]; rfl
                  have q6 : (iv == ia) = true := by rw [hiv]; simp
                  have q7 : (l1 == l2) = true := by
                    have := HMO.out.links
                    rw [HIA.out] at this
                    rw [← hl1, ← hl2, this]; simp
                  generalize ((W11.setCell ⟨xb, 4, none⟩ (.int .i64 0)).setCell ⟨yb, 4, none⟩ (.int .i64 0)) = W12 at *
                  have K0 := Lib.hid (HQN.out _ _ HK.out (Below.refl _ _).drew)
                  unfold trV at HL1 HL2
                  clear hQ hz0 hiv hl1 hl2 HK HX11 HY11 HU11 HV11 HMO HMV HD11 hxy hyx x4 y5 f4 e5
                  go_region_held3 (fun W => W.cell? ⟨xb, 0, none⟩ = some (.int .i64 nd.id) ∧ W.cell? ⟨xb, 1, none⟩ = some (.int .i64 nd.kind) ∧ W.cell? ⟨xb, 2, none⟩ = some (.int .i64 nd.mode) ∧ W.cell? ⟨xb, 3, none⟩ = some (.int .i64 nd.owner) ∧ W.cell? ⟨xb, 4, none⟩ = some (.int .i64 0) ∧ W.cell? ⟨xb, 5, none⟩ = some (.string (nm nd.data)) ∧ W.cell? ⟨xb, 6, none⟩ = some ((.slice Ax nd.es.length cx)) ∧ W.cell? ⟨yb, 0, none⟩ = some (.int .i64 nd.id) ∧ W.cell? ⟨yb, 1, none⟩ = some (.int .i64 nd.kind) ∧ W.cell? ⟨yb, 2, none⟩ = some (.int .i64 nd.mode) ∧ W.cell? ⟨yb, 3, none⟩ = some (.int .i64 nd.owner) ∧ W.cell? ⟨yb, 4, none⟩ = some (.int .i64 0) ∧ W.cell? ⟨yb, 5, none⟩ = some (.string (nm nd.data)) ∧ W.cell? ⟨yb, 6, none⟩ = some ((.slice Ay nd.es.length cy)) ∧ W.cell? ⟨ub, 0, none⟩ = some (.int .i64 nu.id) ∧ W.cell? ⟨ub, 1, none⟩ = some (.int .i64 nu.kind) ∧ W.cell? ⟨ub, 2, none⟩ = some (.int .i64 nu.mode) ∧ W.cell? ⟨ub, 3, none⟩ = some (.int .i64 nu.owner) ∧ W.cell? ⟨ub, 4, none⟩ = some (.int .i64 nu.time) ∧ W.cell? ⟨ub, 5, none⟩ = some (.string (nm nu.data)) ∧ W.cell? ⟨ub, 6, none⟩ = some ((.slice Au nu.es.length cu)) ∧ W.cell? ⟨vb, 0, none⟩ = some (.int .i64 nv.id) ∧ W.cell? ⟨vb, 1, none⟩ = some (.int .i64 nv.kind) ∧ W.cell? ⟨vb, 2, none⟩ = some (.int .i64 nv.mode) ∧ W.cell? ⟨vb, 3, none⟩ = some (.int .i64 nv.owner) ∧ W.cell? ⟨vb, 4, none⟩ = some (.int .i64 nv.time) ∧ W.cell? ⟨vb, 5, none⟩ = some (.string (nm nv.data)) ∧ W.cell? ⟨vb, 6, none⟩ = some ((.slice Av nv.es.length cv)) ∧ W.cell? ⟨ta, 0, none⟩ = some (.slice A3 f.t.nodes.length c3) ∧ W.cell? ⟨ta, 1, none⟩ = some (.int .i64 f.t.last) ∧ W.cell? ⟨ta, 2, none⟩ = some (.int .i64 f.t.rn) ∧ W.cell? ⟨ta, 3, none⟩ = some (.int .i64 f.t.rb) ∧ W.cell? ⟨tb, 0, none⟩ = some (.slice A5 g.t.nodes.length c5) ∧ W.cell? ⟨tb, 1, none⟩ = some (.int .i64 g.t.last) ∧ W.cell? ⟨tb, 2, none⟩ = some (.int .i64 g.t.rn) ∧ W.cell? ⟨tb, 3, none⟩ = some (.int .i64 g.t.rb) ∧ W.cell? ⟨pa, 1, none⟩ = some (.string na) ∧ W.cell? ⟨pa, 2, none⟩ = some (.int .i64 ia) ∧ W.cell? ⟨pb, 1, none⟩ = some (.string nb))
                    (first | (with_reducible exact HQC.out _ K0.out) | (with_reducible exact HQC.out _ K21.out) | (with_reducible exact HQC.out _ K22.out) | (with_reducible exact HQC.out _ K23.out) | (with_reducible exact HQC.out _ K24.out) | (with_reducible exact HQC.out _ K25.out) | (with_reducible exact HQC.out _ K26.out))
                    (first | (go_at_call 29; (with_reducible refine (HSN.out W12.drew K0.out).mono ?_); rintro e w21 ⟨rfl, hbz⟩; have K21 := Lib.hid (HQN.out _ _ K0.out hbz); clear hbz) | (go_at_call 30; (with_reducible refine (HC1.out w21 K21.out).mono ?_); rintro e w22 ⟨rfl, hbz⟩; have K22 := Lib.hid (HQN.out _ _ K21.out hbz); clear hbz) | (go_at_call 30; (with_reducible refine (HC2.out w22 K22.out).mono ?_); rintro e w23 ⟨rfl, hbz⟩; have K23 := Lib.hid (HQN.out _ _ K22.out hbz); clear hbz) | (go_at_call 31; (with_reducible refine (HL1.out w23 K23.out).mono ?_); rintro e w24 ⟨rfl, hbz⟩; have K24 := Lib.hid (HQN.out _ _ K23.out hbz); clear hbz) | (go_at_call 31; (with_reducible refine (HL2.out w24 K24.out).mono ?_); rintro e w25 ⟨rfl, hbz⟩; have K25 := Lib.hid (HQN.out _ _ K24.out hbz); clear hbz) | (go_at_call 31; (with_reducible refine (HL2.out w23 K23.out).mono ?_); rintro e u24 ⟨rfl, hbz⟩; have K24 := Lib.hid (HQN.out _ _ K23.out hbz); clear hbz) | (go_at_call 31; (with_reducible refine (HL1.out u24 K24.out).mono ?_); rintro e u25 ⟨rfl, hbz⟩; have K25 := Lib.hid (HQN.out _ _ K24.out hbz); clear hbz) | (go_at_call 10; (with_reducible refine (HAW.out w25 K25.out).mono ?_); rintro e w26 ⟨rfl, hbz⟩; have K26 := Lib.hid (HQN.out _ _ K25.out hbz); clear hbz) | (go_at_call 10; (with_reducible refine (HAW.out u25 K25.out).mono ?_); rintro e w26 ⟨rfl, hbz⟩; have K26 := Lib.hid (HQN.out _ _ K25.out hbz); clear hbz))
                  all_goals go_wp2
                  all_goals go_ret
                  all_goals exact ⟨rfl, HQB.out _ K26.out⟩
          · have hf1 := rename_err hr
            have x2 : ((renameF f p.data.toList q.data.toList).2 != 0) = true := bne_iff_ne.2 hr
            rw [hf1] at HS4
            clear hf1
            generalize (renameF f p.data.toList q.data.toList).2 = r at *
            generalize w3.heap.size = ta at *
            have HTR : Hid (∀ W, EX w ta (.slice A3 f.t.nodes.length c3) f fb db mb 702 W → Calls Tryz.prog 23 #[.pointer (some ⟨db, 0, none⟩)] W (TreePost f.t W)) := Lib.hid (fun W h => tree6_any h.sys (by omega))
            have HEX : Hid (∀ v5 W, EX w ta (.slice A3 f.t.nodes.length c3) f fb db mb 702 W → NodesIn W W.heap.size v5 f.t.nodes → Calls Tryz.prog 25 #[trV (.slice A3 f.t.nodes.length c3) f.t, trV v5 f.t] W fun e w' => e = .returned (.bool true) ∧ Below W.heap.size W w') := Lib.hid (fun v5 W h hN => exact6 _ _ _ _ h.box.2 hN)
            have HAW : Hid (∀ W, EX w ta (.slice A3 f.t.nodes.length c3) f fb db mb 702 W → Calls Tryz.prog 10 #[] W fun e w' => e = .returned (.bool true) ∧ Below W.heap.size W w') := Lib.hid (fun W h => awake5_any _ (HM.out _ h.bel))
            have k4 : EX w ta (.slice A3 f.t.nodes.length c3) f fb db mb 702 w4 := ⟨HB4.out, HT4.out, HS4.out⟩
            have K0 := Lib.hid (k4.next ((Below.refl _ _).drew))
            obtain ⟨c0, c1, c2, c3'⟩ := K0.out.box.cells
            unfold TreePost at HTR
            unfold trV at HTR HEX
            clear hr k4
            go_upto_region 8 with fail
            go_region_held3 (fun W => W.cell? ⟨ta, 0, none⟩ = some (.slice A3 f.t.nodes.length c3) ∧ W.cell? ⟨ta, 1, none⟩ = some (.int .i64 f.t.last) ∧ W.cell? ⟨ta, 2, none⟩ = some (.int .i64 f.t.rn) ∧ W.cell? ⟨ta, 3, none⟩ = some (.int .i64 f.t.rb))
              (first | exact K0.out.box.cells | exact K5.out.box.cells | exact K6.out.box.cells | exact K7.out.box.cells)
              (first | (go_at_call 23; (with_reducible refine (HTR.out w4.drew K0.out).mono ?_); rintro e w5 ⟨v5, rfl, hN5, hb5⟩; have K5 := Lib.hid (K0.out.next hb5); have HN5 := Lib.hid hN5; clear hb5 hN5) | (go_at_call 25; (with_reducible refine (HEX.out v5 w5 K5.out HN5.out).mono ?_); rintro e w6 ⟨rfl, hb6⟩; have K6 := Lib.hid (K5.out.next hb6); clear hb6) | (go_at_call 10; (with_reducible refine (HAW.out w6 K6.out).mono ?_); rintro e w7 ⟨rfl, hb7⟩; have K7 := Lib.hid (K6.out.next hb7); clear hb7))
            go_wp2
            go_ret
            exact ⟨rfl, K7.out.bel⟩
      · have hi_q : (1000 : Int) < (q.size : Int) := by omega
        clear hsm hN hN0 hs hA hrn hrb hg0 hg1
        unfold trV at *
        generalize t.nodes.length = n at *
        generalize t.last = la at *
        generalize t.rn = tn at *
        generalize t.rb = tb at *
        have H0 := Lib.hid (hc1 #[.slice A n c, .int .i64 la, .int .i64 tn, .int .i64 tb])
        clear hc1
        go_enter Tryz.func6, Tryz.ntmps6
        go_wp2_with (first | (go_at_call 9; (with_reducible refine (HSM.out _ (bel6 H0.out)).mono ?_); rintro e w1 ⟨rfl, hb1⟩; have H1 := Lib.hid (H0.out.next hb1); have HBB := Lib.hid (bel6 H1.out); obtain ⟨d0, d1, d2, d3⟩ := H1.out.cells; clear hb1) | (go_at_call 10; (with_reducible refine (awake5_any _ (HM.out _ HBB.out)).mono ?_); rintro e w9 ⟨rfl, hb9⟩; have HB9 := Lib.hid (HBB.out.trans (hb9.mono HBB.out.size)); clear hb9))
        go_ret
        exact ⟨rfl, HB9.out⟩
    · have hi_p : (1000 : Int) < (p.size : Int) := by omega
      clear hsm hN hN0 hs hA hrn hrb hg0
      unfold trV at *
      generalize t.nodes.length = n at *
      generalize t.last = la at *
      generalize t.rn = tn at *
      generalize t.rb = tb at *
      have H0 := Lib.hid (hc1 #[.slice A n c, .int .i64 la, .int .i64 tn, .int .i64 tb])
      clear hc1
      go_enter Tryz.func6, Tryz.ntmps6
      go_wp2_with (first | (go_at_call 9; (with_reducible refine (HSM.out _ (bel6 H0.out)).mono ?_); rintro e w1 ⟨rfl, hb1⟩; have H1 := Lib.hid (H0.out.next hb1); have HBB := Lib.hid (bel6 H1.out); obtain ⟨d0, d1, d2, d3⟩ := H1.out.cells; clear hb1) | (go_at_call 10; (with_reducible refine (awake5_any _ (HM.out _ HBB.out)).mono ?_); rintro e w9 ⟨rfl, hb9⟩; have HB9 := Lib.hid (HBB.out.trans (hb9.mono HBB.out.size)); clear hb9))
      go_ret
      exact ⟨rfl, HB9.out⟩
theorem moves_row (nv : Value) (t : Tr) (av : Value) (l : List ActV) (p q : ByteArray) (w : World) (hN : NodesIn w w.heap.size nv t.nodes) (hR : i64 t.rn ∧ i64 t.rb) (hA : ActsIn w w.heap.size av l) (_ : p.size ≤ maxLen) (_ : q.size ≤ maxLen) (hM : ∃ m, w.cell? ⟨0, 0, none⟩ = some (.int .i64 m)) :
    Calls Tryz.prog 6 #[trV nv t, av, .string p, .string q] w fun e w' => e = .returned (.bool true) ∧ Below w.heap.size w w' :=
  moves_law nv av t l p q w hN hA hR.1 hR.2 hM
end Go.Proofs.YtpicgkoclbpjpaaGreatDoor
