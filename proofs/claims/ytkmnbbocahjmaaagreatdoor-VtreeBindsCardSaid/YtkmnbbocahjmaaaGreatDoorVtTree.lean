/- DERIVED. The walk of Tree of a disk. -/
import Derived.Test.YtkmnbbocahjmaaaGreatDoorVtSort
import Derived.BigRegion
namespace Go.Proofs.YtkmnbbocahjmaaaGreatDoor
open Go.RowKit Go.Sort Go.Lib
open PathM TreeM VtM
set_option linter.unusedVariables false

theorem NodesIn.keepBut {w w' : World} {B : Nat} {v : Value} {l : List Nd} (h : NodesIn w B v l) (S : Nat → Prop) (hn : ∀ b, S b → ∀ (i : Nat) (s : ByteArray), w.cell? ⟨b, i, none⟩ ≠ some (Value.string s)) (hk : ∀ b, b < B → ¬ S b → w'.heap[b]? = w.heap[b]?) : NodesIn w' B v l := by
  obtain ⟨A, c, h1, h2, h3, h4⟩ := h
  refine ⟨A, c, h1, h2, h3, fun hne => ?_⟩
  obtain ⟨b, off, h5, h6, h7⟩ := h4 hne
  have hs : ¬ S b := fun hs => hn b hs _ _ (h7 0 (List.length_pos_iff.2 hne)).2.2.2.2.2.1
  have hb := hk b h6 hs
  have hc : ∀ i, w'.cell? ⟨b, i, none⟩ = w.cell? ⟨b, i, none⟩ := fun i => World.cell?_of_block hb
  refine ⟨b, off, h5, h6, fun i hi => ?_⟩
  obtain ⟨g0, g1, g2, g3, g4, g5, g6, ev, g7, g8⟩ := h7 i hi
  exact ⟨(hc _).trans g0, (hc _).trans g1, (hc _).trans g2, (hc _).trans g3, (hc _).trans g4, (hc _).trans g5, g6, ev, (hc _).trans g7, g8.keepBut S hn hk⟩
theorem four_set {W : World} {b : Nat} {a0 a1 a2 a3 : Value} {t : TypeId} (h : W.heap[b]? = some (.cells #[a0, a1, a2, a3] t (0, 0))) (v0 v1 v2 v3 : Value) :
    ((((W.setCell ⟨b, 0, none⟩ v0).setCell ⟨b, 1, none⟩ v1).setCell ⟨b, 2, none⟩ v2).setCell ⟨b, 3, none⟩ v3).heap[b]? = some (.cells #[v0, v1, v2, v3] t (0, 0)) := by
  have h0 := set_blk (j := 0) h v0
  simp only [List.setIfInBounds_toArray, List.set] at h0
  have h1 := set_blk (j := 1) h0 v1
  simp only [List.setIfInBounds_toArray, List.set] at h1
  have h2 := set_blk (j := 2) h1 v2
  simp only [List.setIfInBounds_toArray, List.set] at h2
  have h3 := set_blk (j := 3) h2 v3
  simp only [List.setIfInBounds_toArray, List.set] at h3
  exact h3
theorem four_below {B : Nat} {w W : World} {b : Nat} (h : Below B w W) (hb : B ≤ b) (v0 v1 v2 v3 : Value) :
    Below B w ((((W.setCell ⟨b, 0, none⟩ v0).setCell ⟨b, 1, none⟩ v1).setCell ⟨b, 2, none⟩ v2).setCell ⟨b, 3, none⟩ v3) :=
  (((h.setCell (p := ⟨b, 0, none⟩) hb _).setCell (p := ⟨b, 1, none⟩) hb _).setCell (p := ⟨b, 2, none⟩) hb _).setCell (p := ⟨b, 3, none⟩) hb _
theorem four_other {W : World} {b k : Nat} (h : k ≠ b) (v0 v1 v2 v3 : Value) : ((((W.setCell ⟨b, 0, none⟩ v0).setCell ⟨b, 1, none⟩ v1).setCell ⟨b, 2, none⟩ v2).setCell ⟨b, 3, none⟩ v3).heap[k]? = W.heap[k]? := by
  rw [Below.heap_setCell _ _ _ _ h, Below.heap_setCell _ _ _ _ h, Below.heap_setCell _ _ _ _ h, Below.heap_setCell _ _ _ _ h]
theorem tree_noStr {w : World} {b : Nat} {A : Option Addr} {n c : Nat} {x y z : Int} {t : TypeId} (h : w.heap[b]? = some (.cells #[.slice A n c, .int .i64 x, .int .i64 y, .int .i64 z] t (0, 0))) : ∀ (i : Nat) (s : ByteArray), w.cell? ⟨b, i, none⟩ ≠ some (Value.string s) := by
  refine cells_noStr h fun i s e => ?_
  match i, e with
  | 0, e => simp at e
  | 1, e => simp at e
  | 2, e => simp at e
  | 3, e => simp at e
  | n + 4, e => simp at e

theorem cellsL2 (W : World) (n : Nat) (cs : List Value) (t : TypeId) (hn : n = W.heap.size) : ∀ (j : Nat) (u : Value), cs[j]? = some u → (W.alloc (.cells cs.toArray t)).cell? ((⟨n, 0, none⟩ : Addr).add j) = some u := by subst hn; exact cellsL W cs t
set_option maxRecDepth 100000 in
set_option maxHeartbeats 8000000 in
theorem tree5_any (db mb : Nat) (t : Tr) (ev : Int → Value) (w : World) (h : DiskIn w db mb t ev) (hr : Rise t.nodes) (hlen : t.nodes.length ≤ 1000000) (hpos : 0 < t.nodes.length) (hd : ∀ nd ∈ t.nodes, nd.data.length ≤ 4096) :
    Calls Tryz.prog 23 #[.pointer (some ⟨db, 0, none⟩)] w (TreePost t w) := by
  unfold TreePost
  obtain ⟨i0, hi, hz0, hz1, hz2⟩ := info_parts info37
  have HI := Lib.hid hi; have HZ0 := Lib.hid hz0; have HZ1 := Lib.hid hz1; have HZ2 := Lib.hid hz2
  have hb1 := (Below.refl w.heap.size w).alloc (Nat.le_refl _) (.cells #[.slice none 0 0, .int .i64 0, .int .i64 0, .int .i64 0] 26)
  have c0 := (h.below hb1).c0
  have c1 := (h.below hb1).c1
  have c2 := (h.below hb1).c2
  have c3 := (h.below hb1).c3
  have HD := Lib.hid h; have HR := Lib.hid hr; have HDA := Lib.hid hd; have HB1 := Lib.hid hb1
  have RB := heap_alloc_new w (.cells #[.slice none 0 0, .int .i64 0, .int .i64 0, .int .i64 0] 26)
  have hdl := blk_lt h.disk
  have hdl1 := blk_lt (h.below hb1).disk
  have hml := h.map.lt
  clear h hb1 hi hz0 hz1 hz2
  go_enter Tryz.func23, Tryz.ntmps23
  go_wp2_with (go_at_call 56; refine (dnone_any db mb _ c0).mono ?_; rintro e w' ⟨rfl, rfl⟩)
  generalize w.alloc (.cells #[.slice none 0 0, .int .i64 0, .int .i64 0, .int .i64 0] 26) = W1 at *
  go_region
  have TB : (W1.alloc (.cells #[.slice none 0 0, .int .i64 t.last, .int .i64 t.rn, .int .i64 t.rb] 26)).drew.heap[W1.heap.size]? = _ := heap_alloc_new W1 _
  have RB2 : (W1.alloc (.cells #[.slice none 0 0, .int .i64 t.last, .int .i64 t.rn, .int .i64 t.rb] 26)).drew.heap[w.heap.size]? = _ := (heap_alloc_old W1 _ (blk_lt RB)).trans RB
  have hb2 := (HB1.out.alloc HB1.out.size (.cells #[.slice none 0 0, .int .i64 t.last, .int .i64 t.rn, .int .i64 t.rb] 26)).drew
  have hs2 : (W1.alloc (.cells #[.slice none 0 0, .int .i64 t.last, .int .i64 t.rn, .int .i64 t.rb] 26)).drew.heap.size = W1.heap.size + 1 := by simp
  have htb := blk_lt RB
  generalize (W1.alloc (.cells #[.slice none 0 0, .int .i64 t.last, .int .i64 t.rn, .int .i64 t.rb] 26)).drew = W2 at *
  generalize W1.heap.size = tb at *
  clear RB HB1 c0 c1 c2 c3 hdl1
  have HTB := Lib.hid TB; have HRB := Lib.hid RB2; have HB2 := Lib.hid hb2; have HS2 := Lib.hid hs2
  have c0 := (HD.out.below hb2).c0
  clear TB RB2 hb2 hs2
  go_wp2_with (first | (at_range; refine wpList_range_nodes rfl _ rfl mb t.nodes ev hr rfl (HD.out.below HB2.out).map ?_; intro w0 hrg0 hg0 hs0) | go_in)
  go_frame
  rw [HS2.out] at hrg0 hs0 ⊢
  have HG0 := Lib.hid hg0
  clear hg0
  go_loopw [5] (fun _ wr => ∃ (seen : List Nd) (cnt : Nat) (nv : Value), wr.heap[tb]? = some (.cells #[nv, .int .i64 t.last, .int .i64 t.rn, .int .i64 t.rb] 26 (0, 0)) ∧ wr.heap[w.heap.size]? = some (.cells #[.slice none 0 0, .int .i64 0, .int .i64 0, .int .i64 0] 26 (0, 0)) ∧ Rowed wr (tb + 2) nv seen ∧ RangeN wr mb (tb + 1) t.nodes ev seen cnt ∧ Below w.heap.size w wr ∧ tb + 2 ≤ wr.heap.size) (fun _ wr => wr.rangeLeft mb (tb + 1))
  case atStart =>
    have hbg : Below W2.heap.size W2 w0 := ⟨HG0.out.os, HG0.out.tape, HG0.out.output, HG0.out.size, fun k hk => HG0.out.block k hk (by simp)⟩
    exact ⟨[], _, .slice none 0 0, (hbg.block tb (blk_lt HTB.out)).trans HTB.out, (hbg.block _ (blk_lt HRB.out)).trans HRB.out, Rowed.nil _ _, hrg0, HB2.out.trans (hbg.mono HB2.out.size), by rw [hs0]; exact Nat.le_refl _⟩
  case round =>
    obtain ⟨seen, cnt, nv, htb2, hrb2, hrow, hrg, hb, hsz⟩ := hrel
    have HTB2 := Lib.hid htb2; have HRB2 := Lib.hid hrb2; have HROW := Lib.hid hrow; have HRG := Lib.hid hrg; have HB := Lib.hid hb; have HSZ := Lib.hid hsz
    clear htb2 hrb2 hrow hrg hb hsz
    go_wp2_with (first | (at_next; refine wpList_next_nodes rfl _ rfl mb (tb + 1) t.nodes ev HR.out seen cnt rfl HRG.out ?_ ?_) | go_in)
    · intro hp
      have hsl : 0 < seen.length := by rw [hp.length_eq]; exact hpos
      have hsl2 := hp.length_eq
      obtain ⟨g, cap, hnv, hge⟩ : ∃ g cap, nv = .slice (some ⟨g, 0, none⟩) seen.length cap ∧ tb + 2 ≤ g := by
        obtain ⟨ps, hps, h1, h2⟩ := HROW.out
        rcases h1.2 with ⟨_, h⟩ | ⟨g, cap, cur, hv, hb, _⟩
        · omega
        · exact ⟨g, cap, hv, hb⟩
      subst hnv
      have hbd : ∀ n ∈ t.nodes, n.data.length ≤ 140737488351232 ∧ n.es.length * 24 ≤ 140737488351232 ∧ ∀ x ∈ n.es, x.key.length ≤ 140737488351232 ∧ -9223372036854775808 ≤ x.to ∧ x.to ≤ 9223372036854775807 := fun n hn => ⟨Nat.le_trans (HDA.out n hn) (by omega), (HD.out.ents n hn).bounds.1, (HD.out.ents n hn).bounds.2⟩
      have HSF := Lib.hid (sort_nodes HR.out hp HROW.out hlen hbd)
      have y0 := cell_blk HTB2.out 0
      simp at y0
      clear hp hbd hsl2
      go_wp2_with (go_at_call 58; refine HSF.out.mono ?_; rintro e w3 ⟨rfl, hN3, hg3⟩; have TB3 := (hg3.block tb (blk_lt HTB2.out) (by simp; omega)).trans HTB2.out; have RB3 := (hg3.block w.heap.size (blk_lt HRB2.out) (by simp; omega)).trans HRB2.out; have hb3 : Below w.heap.size w w3 := HB.out.grown hg3 HB.out.size (fun j hj => by cases hj; omega); have a0 := cell_blk TB3 0; have a1 := cell_blk TB3 1; have a2 := cell_blk TB3 2; have a3 := cell_blk TB3 3; simp at a0 a1 a2 a3; have q0 := cell_blk RB3 0; have q1 := cell_blk RB3 1; have q2 := cell_blk RB3 2; have q3 := cell_blk RB3 3; simp at q0 q1 q2 q3; have e0 := froz_blk RB3 0; have e1 := froz_blk RB3 1; have e2 := froz_blk RB3 2; have e3 := froz_blk RB3 3; have HRB3 := Lib.hid RB3; have HN3 := Lib.hid hN3; have HB3 := Lib.hid hb3; clear RB3 TB3 hg3 hN3 hb3)
      refine bodyPost_ret (results_cell_row rfl _ _ _ 26 _ (0, 0) _ rfl (four_set HRB3.out _ _ _ _) Tryz.underlying26 rfl (by kernel_rfl)) rfl ?_
      refine ⟨_, rfl, ?_, four_below HB3.out (Nat.le_refl _) _ _ _ _⟩
      exact (HN3.out.keepBut (fun k => k = w.heap.size) (fun b hb => by rw [hb]; exact tree_noStr HRB3.out) (fun b hb hs => four_other hs _ _ _ _)).more (by simp)
    · intro nd w1 cnt1 hnd hns hrg1 hlt hg1 hs1 hen
      have hE := HD.out.ents nd hnd
      have hm6 := HDA.out nd hnd
      have hseen := HRG.out.len HR.out
      obtain ⟨Ae, ce, hev, _⟩ := ents_len hE
      rw [hev] at hen hE ⊢
      unfold ndV at hen ⊢
      have hb1 : Below w.heap.size w w1 := HB.out.grown hg1 HB.out.size (fun j hj => by cases hj; omega)
      have TB1 := (hg1.block tb (blk_lt HTB2.out) (by simp)).trans HTB2.out
      have RB1 := (hg1.block w.heap.size (blk_lt HRB2.out) (by simp; omega)).trans HRB2.out
      obtain ⟨ps, hps, hr1, hr2⟩ := HROW.out
      have hit : ∀ {e : TypeId} {size k : Nat} {u : Value} {xs : List Value}, wr.ownsRow (tb + 2) e size u k xs → w1.ownsRow (tb + 2) e size u k xs := fun hu => row_grown hu hg1 (fun j hj he => by cases hj; have := (hu.lt _ he).1; omega)
      have HR1 := Lib.hid (hit hr1)
      have HR2 : Hid (∀ p ∈ ps, w1.ownsRow (tb + 2) 75 2 p.2 p.1.es.length (p.1.es.flatMap entC)) := Lib.hid fun p hp => hit (hr2 p hp)
      have HPS := Lib.hid hps
      have HPL : Hid (ps.length = seen.length) := Lib.hid (by rw [← hps]; simp)
      obtain ⟨An, cn, rfl⟩ := ownsRow_len3 hr1
      obtain ⟨i, hi⟩ : ∃ i, seen.length = i := ⟨_, rfl⟩
      rw [hi] at HR1 HPL TB1 hseen
      have hsz1 : tb + 2 ≤ w1.heap.size := by have := HSZ.out; omega
      have hbn := heap_alloc_new w1 (.cells #[.int .i64 nd.id, .int .i64 nd.kind, .int .i64 nd.mode, .int .i64 nd.owner, .int .i64 nd.time, .string (nm nd.data), .slice Ae nd.es.length ce] 64)
      have hbb := (Below.refl w1.heap.size w1).alloc (Nat.le_refl _) (.cells #[.int .i64 nd.id, .int .i64 nd.kind, .int .i64 nd.mode, .int .i64 nd.owner, .int .i64 nd.time, .string (nm nd.data), .slice Ae nd.es.length ce] 64)
      have HEN := Lib.hid ((hE.below (hb1.trans (hbb.mono hb1.size))).more (Nat.le_trans hb1.size hbb.size))
      have HRG1 := Lib.hid hrg1; have HBW := Lib.hid hb1; have HLT := Lib.hid hlt; have HTB1 := Lib.hid TB1; have HRB1 := Lib.hid RB1; have HBN := Lib.hid hbn; have HBB := Lib.hid hbb; have HSI := Lib.hid hi
      have hti := HSZ.out
      clear hrg1 hb1 hlt hg1 hs1 hnd hns hev hE hr1 hr2 hit hps TB1 RB1 hbn hbb hi hm6
      have htn : ¬ tb = w1.heap.size := by omega
      go_wp2_with (first | (go_at_call 57; go_loud (refine (clone_any _ _ _ HEN.out).mono ?_; rintro e w4 ⟨v4, rfl, hown4, hb4⟩; have RB4 := (hb4.block w1.heap.size (by simp)).trans HBN.out; have f6 := froz_blk RB4 6; have x6 := cell_blk RB4 6; simp at x6; have HB4 := Lib.hid (HBB.out.trans (hb4.mono (by simp))); have HO4 := Lib.hid (ownsRow_base (b' := w1.heap.size) hown4 (by simp)); obtain ⟨ve, vce, rfl⟩ := ownsRow_len3 hown4; have HO4n := Lib.hid (ownsRow_base (b' := w1.heap.size + 1) hown4 (by simp)); have HRB4 := Lib.hid RB4; have s0 := cell_blk RB4 0; have s1 := cell_blk RB4 1; have s2 := cell_blk RB4 2; have s3 := cell_blk RB4 3; have s4 := cell_blk RB4 4; have s5 := cell_blk RB4 5; simp at s0 s1 s2 s3 s4 s5; have TB4 := (HB4.out.block tb (by omega)).trans HTB1.out; have y0 := cell_blk TB4 0; have y9 := froz_blk TB4 0; simp at y0; have HTB4 := Lib.hid TB4; have HBM := Lib.hid (HB4.out.setCell (p := ⟨w1.heap.size, 6, none⟩) (Nat.le_refl _) (.slice ve nd.es.length vce)); have HOM := Lib.hid (row_grown HO4n.out (grownBy_set w4 ⟨w1.heap.size, 6, none⟩ (.slice ve nd.es.length vce)) (fun j hj he => by cases hj; exact absurd (HO4n.out.lt _ he).1 (by simp))); have hl4 : w1.heap.size < w4.heap.size := blk_lt RB4; clear RB4 hown4 hb4 TB4)) | (at_builtin; go_loud (refine wpList_append_own _ rfl _ _ 22 rfl (tb + 2) 64 i0 (.agg #[.int .i64 0, .int .i64 0, .int .i64 0, .int .i64 0, .int .i64 0, .string ByteArray.empty, .slice none 0 0]) 7 80 Tryz.underlying22 HI.out HZ0.out HZ1.out HZ2.out rfl (by decide) _ _ _ rfl ((row_below HR1.out HBM.out).alloc _) ⟨w4.heap.size, 0, none⟩ 1 1 [.int .i64 nd.id, .int .i64 nd.kind, .int .i64 nd.mode, .int .i64 nd.owner, .int .i64 nd.time, .string (nm nd.data), .slice ve nd.es.length vce] rfl rfl (cellsL2 _ _ _ _ (by simp)) (one7 _ _ _ _ _ _ _ _ _) (maxLen_ok (by omega)) (by omega) (by simp; omega) ?_; intro v7 w7 hown7 hg7 _; obtain ⟨g7, c7, rfl⟩ := ownsRow_succ hown7; have TB7 := (hg7.block tb (by simp; omega) (fun e => by have := (HR1.out.lt _ e.symm).1; omega)).trans ((heap_alloc_old _ _ (by simp; omega)).trans ((Below.heap_setCell _ _ _ _ (by simp; omega)).trans HTB4.out)); have z0 := cell_blk TB7 0; have z9 := froz_blk TB7 0; simp at z0; have HTB7 := Lib.hid TB7; have HO7 := Lib.hid hown7; have HG7 := Lib.hid hg7; clear hown7 hg7 TB7)))
      have hown : ∀ j, (Value.slice An i cn).ownBlock = some j → tb + 2 ≤ j := own_base HR1.out
      have hmt : mb < tb + 2 := by have := hml; omega
      have HRX : Hid (RangeN (w7.setCell ⟨tb, 0, none⟩ (.slice (some ⟨g7, 0, none⟩) (i + 1) c7)) mb (tb + 1) t.nodes ev (seen ++ [nd]) cnt1) := by
        have r1 := (HRG1.out.below HBM.out).below ((Below.refl _ _).alloc (Nat.le_refl _) (.cells #[.int .i64 nd.id, .int .i64 nd.kind, .int .i64 nd.mode, .int .i64 nd.owner, .int .i64 nd.time, .string (nm nd.data), .slice ve nd.es.length vce] 64))
        have r2 := r1.kept HG7.out (fun e => by have := hown _ e.symm; omega) (fun e => by have := hown _ e.symm; omega)
        exact r2.kept (grownBy_set w7 ⟨tb, 0, none⟩ _) (fun e => by have := Option.some.inj e; simp at this; omega) (fun e => by have := Option.some.inj e; simp at this)
      have HBX : Hid (Below w.heap.size w (w7.setCell ⟨tb, 0, none⟩ (.slice (some ⟨g7, 0, none⟩) (i + 1) c7))) := by
        have b1 := (HBW.out.trans (HBM.out.mono HBW.out.size)).alloc (HBW.out.trans (HBM.out.mono HBW.out.size)).size (.cells #[.int .i64 nd.id, .int .i64 nd.kind, .int .i64 nd.mode, .int .i64 nd.owner, .int .i64 nd.time, .string (nm nd.data), .slice ve nd.es.length vce] 64)
        exact (b1.grown HG7.out b1.size (fun j hj => by have := hown j hj; omega)).setCell (by simp; omega) _
      go_roundw
      case rel =>
        refine ⟨seen ++ [nd], cnt1, _, by simpa using set_blk (j := 0) HTB7.out (.slice (some ⟨g7, 0, none⟩) (i + 1) c7), ?_, ?_, HRX.out, HBX.out, ?_⟩
        · refine (Below.heap_setCell _ _ _ _ (by simp; omega)).trans ((HG7.out.block w.heap.size (by simp; omega) (fun e => by have := hown _ e.symm; omega)).trans ((heap_alloc_old _ _ (by simp; omega)).trans ((Below.heap_setCell _ _ _ _ (by simp; omega)).trans ((HB4.out.block w.heap.size (by omega)).trans HRB1.out))))
        · rw [← HPS.out]
          exact Rowed.next (v := .slice ve nd.es.length vce) HR1.out HR2.out HPL.out (by omega) hsz1 HBM.out (ownsRow_base HOM.out (by omega)) HG7.out HO7.out
        · have := HG7.out.size; simp at this ⊢; omega
      case measure => rw [HRX.out.left, HRG.out.left]; exact HLT.out
end Go.Proofs.YtkmnbbocahjmaaaGreatDoor
