/- DERIVED. The walk of the document's own Canon. -/
import Derived.Test.YtgcoioejcnileaaDoorTreeRPath
import Derived.Deep.RegionHeld3
import Derived.Deep.CutRange
import Derived.Deep.Cut
import Derived.Deep.LoopGhost
import Derived.BigQuiet
import Derived.Outline
namespace Go.Proofs.YtgcoioejcnileaaDoor
open Go.RowKit Go.Sort
open PathM TreeM
set_option linter.unusedVariables false

theorem ents_snoc (es : List Ent) (ρ : Int → Int) (q : Nat) (h : q < es.length) : ((es.take (q + 1)).map (reE ρ)).flatMap entC = ((es.take q).map (reE ρ)).flatMap entC ++ [.string (nm (entAt es q).key), .int .i64 (ρ (entAt es q).to)] := by
  rw [List.take_succ_eq_append_getElem h, List.map_append, List.flatMap_append]
  simp [entC, reE, entAt, h]
theorem one2s (s : ByteArray) (a : Int) : ∀ u ∈ [Value.string s, Value.int .i64 a], u.oneCell' = true := by
  intro u hu
  simp at hu
  rcases hu with rfl | rfl <;> rfl
/-- Where a number is met. -/
theorem met_just {nodes : List Nd} {l : List TreeM.Item} (h : Wy nodes l) {id : Int} (hm : met l id = true) {j : Nat} (hj : j < l.length) : (itAt l j).id = id ↔ j = metAt l id := by
  constructor
  · intro e
    exact h.inj hj (metAt_lt hm) (e.trans (metAt_id hm).symm)
  · rintro rfl; exact metAt_id hm

set_option maxRecDepth 100000 in
set_option maxHeartbeats 8000000 in
theorem rcanon_any (nv : Value) (t : Tr) (B : Nat) (w : World) (hN : NodesIn w B nv t.nodes) (hB : B ≤ w.heap.size) :
    Calls Tryd.prog 28 #[trV nv t] w (CanonPost t w) := by
  have hN0 := hN.more hB
  have hc := fun W (hW : Below w.heap.size w W) => rcheck_any nv t w.heap.size W (hN0.below hW) hW.size
  unfold CanonPost
  obtain ⟨ck, hck⟩ : ∃ ck, checkI t = ck := ⟨_, rfl⟩
  rw [hck] at hc ⊢
  cases hb : checkB t with
  | false =>
    have hp : canonR t = ⟨[], 0, 0, 0⟩ := by unfold canonR; rw [hb]; rfl
    have hck2 : ck = 80 := by rw [← hck]; unfold checkI; rw [hb]; rfl
    subst hck2
    obtain ⟨A, c, rfl⟩ := nodes_len hN
    have HC := Lib.hid hc
    rw [hp]
    clear hc hp hN hN0 hb hck
    unfold trV at *
    generalize t.nodes.length = n at *
    generalize t.last = la at *
    generalize t.rn = rn at *
    generalize t.rb = rb at *
    go_enter Tryd.func28, Tryd.ntmps28
    go_wp2_with fail
    refine (HC.out _ (((Below.refl _ _).alloc (by simp) _).alloc (by simp) _)).mono ?_
    rintro e w1 ⟨rfl, hb1⟩
    have hblk : w1.heap[w.heap.size + 1]? = some (.cells #[.slice none 0 0, .int .i64 0, .int .i64 0, .int .i64 0] 26 (0, 0)) := (hb1.block (w.heap.size + 1) (by simp)).trans (heap_alloc2_new w _ _)
    have tblk : w1.heap[w.heap.size]? = some (.cells #[.slice A n c, .int .i64 la, .int .i64 rn, .int .i64 rb] 26 (0, 0)) := (hb1.block w.heap.size (by simp; omega)).trans (heap_alloc2_old w _ _)
    have hb2 : Below w.heap.size w w1 := (((Below.refl w.heap.size w).alloc (by simp) _).alloc (by simp) _).trans (hb1.mono (by simp; omega))
    have HB := Lib.hid hb2; have HBLK := Lib.hid hblk; have TBLK := Lib.hid tblk
    clear hb1 hb2 hblk tblk
    have r0 := cell_blk HBLK.out 0
    have r1 := cell_blk HBLK.out 1
    have r2 := cell_blk HBLK.out 2
    have r3 := cell_blk HBLK.out 3
    have f0 := froz_blk HBLK.out 0
    have f1 := froz_blk HBLK.out 1
    have f2 := froz_blk HBLK.out 2
    have f3 := froz_blk HBLK.out 3
    simp at r0 r1 r2 r3
    go_wp2
    refine bodyPost_ret (results_cell2 rfl _ _ _ 26 #[.slice none 0 0, .int .i64 0, .int .i64 0, .int .i64 0] (0, 0) _ rfl (by have h := set_blk (j := 3) (set_blk (j := 2) (set_blk (j := 1) (set_blk (j := 0) HBLK.out (.slice none 0 0)) (.int .i64 0)) (.int .i64 0)) (.int .i64 0); exact h) Tryd.underlying26 rfl (by kernel_rfl)) rfl ?_
    exact ⟨_, rfl, nodes_nil _ _, (((HB.out.setCell (by simp) _).setCell (by simp) _).setCell (by simp) _).setCell (by simp) _⟩
  | true =>
    have hck2 : ck = 0 := by rw [← hck]; unfold checkI; rw [hb]; rfl
    subst hck2
    obtain ⟨hri, hn, hpos, hp1, hled, hwl, hents⟩ := check_facts hb
    have hp : canonR t = canonT t := by unfold canonR; rw [hb]; rfl
    rw [hp]
    have hw := way_row nv t w hN0 hb
    have hmet : ∀ i, i < (way t.nodes).length → ∀ x ∈ (ndAt t.nodes (itAt (way t.nodes) i).node).es, metAt (way t.nodes) x.to < (way t.nodes).length ∧ ∀ j, j < (way t.nodes).length → ((itAt (way t.nodes) j).id = x.to ↔ j = metAt (way t.nodes) x.to) := by
      intro i hi x hx
      have hm := reached_met (check_parts hb).2.2.2.2 (hled x (flat_mem.2 ⟨_, ((way_wy t.nodes).node hi).1, hx⟩))
      exact ⟨metAt_lt hm, fun j hj => met_just (way_wy t.nodes) hm hj⟩
    have hnode := fun i (hi : i < (way t.nodes).length) => ((way_wy t.nodes).node hi).1
    have hcells := met_cells (way t.nodes)
    have hpl : ∀ i, i < (way t.nodes).length → ∀ W, Below w.heap.size w W → Calls Tryd.prog 41 #[trV nv t, .int .i64 (itAt (way t.nodes) i).id] W fun e w' => e = .returned (.int .i64 (itAt (way t.nodes) i).node) ∧ Below W.heap.size W w' := by
      intro i hi W hW
      have h1 := (way_wy t.nodes).at_ _ (itAt_mem hi)
      have := rplace_any nv t (itAt (way t.nodes) i).id w.heap.size W (hN0.below hW) hW.size
      rw [placeI_pos h1.1, ← h1.2] at this
      exact this
    rw [hwl] at hmet hnode hcells hpl
    obtain ⟨_, h0 | ⟨b, off, c, rfl, hcap, hbB, _, hnodes⟩⟩ := hN0.cases
    · obtain ⟨_, _, _, h0⟩ := h0; rw [h0] at hpos; exact absurd hpos (by simp)
    have hcT : canonT t = ⟨canonN t.nodes (way t.nodes), (way t.nodes).length, t.rn, t.rb⟩ := rfl
    have hfin : canonN t.nodes (way t.nodes) = (List.range t.nodes.length).map (canonAt t.nodes (way t.nodes)) := by unfold canonN; rw [hwl]
    have hfit : ∀ m ∈ canonN t.nodes (way t.nodes), m.data.length ≤ 140737488351232 ∧ m.es.length * 24 ≤ 140737488351232 ∧ ∀ x ∈ m.es, x.key.length ≤ 140737488351232 ∧ -9223372036854775808 ≤ x.to ∧ x.to ≤ 9223372036854775807 := by
      intro m hm
      rw [hfin] at hm
      obtain ⟨i, hi, rfl⟩ := List.mem_map.1 hm
      have hi : i < t.nodes.length := by simpa using hi
      obtain ⟨_, _, _, _, _, _, g7, ev, _, hE⟩ := hnodes _ (hnode i hi)
      obtain ⟨e1, e2, _⟩ := hE.cases
      refine ⟨g7, by simpa [canonAt] using e1, fun y hy => ?_⟩
      obtain ⟨x, hx, rfl⟩ := List.mem_map.1 hy
      have := (hmet i hi x hx).1
      exact ⟨(e2 x hx).1, by simp [reE]; omega, by simp [reE]; omega⟩
    have hlen : (canonN t.nodes (way t.nodes)).length = t.nodes.length := by rw [hfin]; simp
    rw [hcT, hwl]
    have HC := Lib.hid hc; have HW := Lib.hid hw; have HMET := Lib.hid hmet; have HND := Lib.hid hnode; have HCE := Lib.hid hcells; have HNODES := Lib.hid hnodes; have HFIN := Lib.hid hfin; have HFIT := Lib.hid hfit; have HLEN := Lib.hid hlen; have HPL := Lib.hid hpl
    clear hc hw hmet hnode hcells hnodes hfin hfit hlen hp hcT hN hN0 hck hri hp1 hled hents hpl
    unfold trV at *
    generalize way t.nodes = L at *
    generalize canonN t.nodes L = CN at *
    obtain ⟨nds, hnds⟩ : ∃ nds, t.nodes = nds := ⟨_, rfl⟩
    obtain ⟨n, hnn⟩ : ∃ n, nds.length = n := ⟨_, rfl⟩
    simp only [hnds, hnn] at HC HW HMET HND HCE HNODES HFIN HLEN HPL hn hpos hcap hwl ⊢
    have HWL := Lib.hid hwl
    clear hwl
    generalize t.last = la at *
    generalize t.rn = rn at *
    generalize t.rb = rb at *
    obtain ⟨i0, hi, hz0, hz1, hz2⟩ := info_parts info37
    have HI := Lib.hid hi; have HZ0 := Lib.hid hz0; have HZ1 := Lib.hid hz1; have HZ2 := Lib.hid hz2; clear hi hz0 hz1 hz2
    obtain ⟨j0, hi, hz0, hz1, hz2⟩ := info_parts info59
    have GI := Lib.hid hi; have GZ0 := Lib.hid hz0; have GZ1 := Lib.hid hz1; have GZ2 := Lib.hid hz2; clear hi hz0 hz1 hz2
    obtain ⟨A, hA⟩ : ∃ A : Option Addr, A = some ⟨b, off, none⟩ := ⟨_, rfl⟩
    rw [← hA] at HC HW HPL ⊢
    have HAA := Lib.hid hA
    clear hA
    go_enter Tryd.func28, Tryd.ntmps28
    go_wp2_with fail
    refine (HC.out _ (((Below.refl _ _).alloc (by simp) _).alloc (by simp) _)).mono ?_
    rintro e w1 ⟨rfl, hb1⟩
    have hblk : w1.heap[w.heap.size + 1]? = some (.cells #[.slice none 0 0, .int .i64 0, .int .i64 0, .int .i64 0] 26 (0, 0)) := (hb1.block (w.heap.size + 1) (by simp)).trans (heap_alloc2_new w _ _)
    have tblk : w1.heap[w.heap.size]? = some (.cells #[.slice A n c, .int .i64 la, .int .i64 rn, .int .i64 rb] 26 (0, 0)) := (hb1.block w.heap.size (by simp; omega)).trans (heap_alloc2_old w _ _)
    have hb2 : Below w.heap.size w w1 := (((Below.refl w.heap.size w).alloc (by simp) _).alloc (by simp) _).trans (hb1.mono (by simp; omega))
    have HB := Lib.hid hb2; have HBLK := Lib.hid hblk; have TBLK := Lib.hid tblk
    clear hb1 hb2 hblk tblk
    have t0 := cell_blk TBLK.out 0
    have t1 := cell_blk TBLK.out 1
    have t2 := cell_blk TBLK.out 2
    have t3 := cell_blk TBLK.out 3
    simp at t0 t1 t2 t3
    go_wp2_with fail
    refine (HW.out _ HB.out).mono ?_
    rintro e w2 ⟨gA, cm, rfl, hrow, hb2⟩
    obtain ⟨gm, rfl, hgm⟩ : ∃ gm, gA = some ⟨gm, 0, none⟩ ∧ gm < w2.heap.size := by
      rcases hrow.2 with ⟨_, h⟩ | ⟨g, cap, cur, hv, _, hh, _⟩
      · omega
      · cases hv; exact ⟨g, rfl, (Array.getElem?_eq_some_iff.1 hh).1⟩
    have hlt1 : w.heap.size + 1 < w1.heap.size := fin_at HBLK.out
    have hrb2 := (hb2.block _ hlt1).trans HBLK.out
    have htb2 := (hb2.block w.heap.size (by omega)).trans TBLK.out
    have u0 := cell_blk htb2 0
    have u1 := cell_blk htb2 1
    have u2 := cell_blk htb2 2
    have u3 := cell_blk htb2 3
    simp at u0 u1 u2 u3
    have hlt2 : w.heap.size + 1 < w2.heap.size := by have := hb2.size; omega
    have HMC : Hid (∀ i, i < n → w2.cell? ⟨gm, i * 2, none⟩ = some (.int .i64 (itAt L i).id)) := Lib.hid (fun i hi => row_cells hrow _ _ (HCE.out i hi).1)
    have HB2 := Lib.hid (HB.out.trans (hb2.mono (by omega)))
    have HRB2 := Lib.hid hrb2; have HTB2 := Lib.hid htb2
    clear hrow hb2 hrb2 htb2 t0 t1 t2 t3 hlt1
    go_wp2
    go_loopg [6] n (fun g s6 wr => ∃ (i : Nat) (nv' : Value), g = n - i ∧ s6 = .int .i64 i ∧ i ≤ n ∧ Below w2.heap.size w2 wr ∧ wr.heap[w2.heap.size]? = some (.cells #[nv', .int .i64 n, .int .i64 rn, .int .i64 rb] 26 (0, 0)) ∧ Rowed wr (w2.heap.size + 1) nv' ((List.range i).map (canonAt nds L)))
    case atStart => exact ⟨0, .slice none 0 0, rfl, rfl, by omega, (Below.refl _ _).alloc (Nat.le_refl _) _, heap_alloc_new w2 _, Rowed.nil _ _⟩
    case round =>
      obtain ⟨i, nv', rfl, rfl, hi, hbel, hbc, hrow⟩ := hrel
      have hlt5 := fin_at hbc
      have hvl : ∃ va vc, nv' = .slice va i vc := by
        obtain ⟨ps, hps, hr, _⟩ := hrow
        have := ownsRow_len3 hr
        simpa using this
      obtain ⟨va, vc, rfl⟩ := hvl
      by_cases hin : i < n
      · have hii : (i : Int) < (n : Int) := by omega
        obtain ⟨wO, rfl⟩ : ∃ wO : World, wO = wr := ⟨_, rfl⟩
        have hp := HND.out i hin
        obtain ⟨x0, x1, x2, x3, x4, x5, hdl, ev, x6, hE⟩ := HNODES.out _ hp
        have hmt := HMET.out i hin
        have HCA : Hid (canonAt nds L i = { ndAt nds (itAt L i).node with id := (i : Int) + 1, es := (ndAt nds (itAt L i).node).es.map (reE fun id => (metAt L id : Int) + 1) }) := Lib.hid rfl
        obtain ⟨Ae, ce, rfl, hel⟩ := ents_len hE
        have hwb : Below w.heap.size w wO := HB2.out.trans (hbel.mono (by omega))
        have m0 := (hbel.cell (p := ⟨gm, i * 2, none⟩) hgm).trans (HMC.out i hin)
        have y0 := (hbel.cell (p := ⟨w.heap.size, 0, none⟩) (by simp; omega)).trans u0
        have y1 := (hbel.cell (p := ⟨w.heap.size, 1, none⟩) (by simp; omega)).trans u1
        have y2 := (hbel.cell (p := ⟨w.heap.size, 2, none⟩) (by simp; omega)).trans u2
        have y3 := (hbel.cell (p := ⟨w.heap.size, 3, none⟩) (by simp; omega)).trans u3
        have X0 := (hwb.cell (p := ⟨b, off + (itAt L i).node * 7, none⟩) hbB).trans x0
        have X1 := (hwb.cell (p := ⟨b, off + (itAt L i).node * 7 + 1, none⟩) hbB).trans x1
        have X2 := (hwb.cell (p := ⟨b, off + (itAt L i).node * 7 + 2, none⟩) hbB).trans x2
        have X3 := (hwb.cell (p := ⟨b, off + (itAt L i).node * 7 + 3, none⟩) hbB).trans x3
        have X4 := (hwb.cell (p := ⟨b, off + (itAt L i).node * 7 + 4, none⟩) hbB).trans x4
        have X5 := (hwb.cell (p := ⟨b, off + (itAt L i).node * 7 + 5, none⟩) hbB).trans x5
        have X6 := (hwb.cell (p := ⟨b, off + (itAt L i).node * 7 + 6, none⟩) hbB).trans x6
        have hgw : gm < wO.heap.size := by omega
        have hbw : b < wO.heap.size := by omega
        have hww : w.heap.size < wO.heap.size := by omega
        have hpp : ((itAt L i).node : Int) < (n : Int) := by omega
        have HPLC := Lib.hid (fun W (hW : Below wO.heap.size wO W) => HPL.out i hin W (hwb.trans (hW.mono (by omega))))
        obtain ⟨ps, hps, hr1, hr2⟩ := hrow
        have hplen : ps.length = i := by have := congrArg List.length hps; simpa using this
        rw [List.length_map, List.length_range] at hr1
        have HPS := Lib.hid hps; have HR1 := Lib.hid hr1; have HR2 := Lib.hid hr2; have HPN := Lib.hid hplen
        clear hps hr1 hr2 hplen
        have HBEL := Lib.hid hbel; have HBC := Lib.hid hbc; have HE2 := Lib.hid (hE.below hwb); have HMT := Lib.hid hmt; have HWB := Lib.hid hwb
        clear x0 x1 x2 x3 x4 x5 x6 hwb hE hbel hbc hmt
        generalize hnd : ndAt nds (itAt L i).node = nd at *
        generalize (itAt L i).node = p at *
        generalize (itAt L i).id = pid at *
        have HND2 := Lib.hid hnd
        clear hnd
        obtain rfl := HAA.out
        have SS : Hid (∀ W, Below wO.heap.size wO W → W.cell? ⟨w.heap.size, 0, none⟩ = some (.slice (some ⟨b, off, none⟩) n c) ∧ W.cell? ⟨w.heap.size, 1, none⟩ = some (.int .i64 la) ∧ W.cell? ⟨w.heap.size, 2, none⟩ = some (.int .i64 rn) ∧ W.cell? ⟨w.heap.size, 3, none⟩ = some (.int .i64 rb) ∧ W.cell? ⟨gm, i * 2, none⟩ = some (.int .i64 pid) ∧
            W.cell? ⟨b, off + p * 7, none⟩ = some (.int .i64 nd.id) ∧ W.cell? ⟨b, off + p * 7 + 1, none⟩ = some (.int .i64 nd.kind) ∧ W.cell? ⟨b, off + p * 7 + 2, none⟩ = some (.int .i64 nd.mode) ∧ W.cell? ⟨b, off + p * 7 + 3, none⟩ = some (.int .i64 nd.owner) ∧ W.cell? ⟨b, off + p * 7 + 4, none⟩ = some (.int .i64 nd.time) ∧ W.cell? ⟨b, off + p * 7 + 5, none⟩ = some (.string (nm nd.data)) ∧ W.cell? ⟨b, off + p * 7 + 6, none⟩ = some (.slice Ae nd.es.length ce)) :=
          Lib.hid (fun W hW => ⟨(hW.cell hww).trans y0, (hW.cell hww).trans y1, (hW.cell hww).trans y2, (hW.cell hww).trans y3, (hW.cell hgw).trans m0, (hW.cell hbw).trans X0, (hW.cell hbw).trans X1, (hW.cell hbw).trans X2, (hW.cell hbw).trans X3, (hW.cell hbw).trans X4, (hW.cell hbw).trans X5, (hW.cell hbw).trans X6⟩)
        go_wp2_with fail
        go_cut [7] from 28 to 38 (fun s7 wx => ∃ bx : Nat, s7 = .pointer (some ⟨bx, 0, none⟩) ∧ wO.heap.size ≤ bx ∧ Below wO.heap.size wO wx ∧ wx.heap[bx]? = some (.cells #[.int .i64 nd.id, .int .i64 nd.kind, .int .i64 nd.mode, .int .i64 nd.owner, .int .i64 nd.time, .string (nm nd.data), .slice Ae nd.es.length ce] 37 (0, 0)))
        case first =>
          have HBD : Hid (Below wO.heap.size wO wO.drew) := Lib.hid (Below.refl _ _).drew
          clear y0 y1 y2 y3 m0 X0 X1 X2 X3 X4 X5 X6
          have S0 := Lib.hid (SS.out wO.drew HBD.out)
          have HBA : Hid (Below wO.heap.size wO (wO.alloc (.cells #[.int .i64 0, .int .i64 0, .int .i64 0, .int .i64 0, .int .i64 0, .string { data := #[] }, .slice none 0 0] 37)).drew) := Lib.hid ((Below.refl _ _).alloc (Nat.le_refl _) _).drew
          have SA := Lib.hid (SS.out _ HBA.out)
          have HP1 := Lib.hid (HPLC.out wO.drew HBD.out)
          have HP2 := Lib.hid (HPLC.out (wO.alloc (.cells #[.int .i64 0, .int .i64 0, .int .i64 0, .int .i64 0, .int .i64 0, .string { data := #[] }, .slice none 0 0] 37)).drew HBA.out)
          go_region_held3 (fun W => W.cell? ⟨w.heap.size, 0, none⟩ = some (.slice (some ⟨b, off, none⟩) n c) ∧ W.cell? ⟨w.heap.size, 1, none⟩ = some (.int .i64 la) ∧ W.cell? ⟨w.heap.size, 2, none⟩ = some (.int .i64 rn) ∧ W.cell? ⟨w.heap.size, 3, none⟩ = some (.int .i64 rb) ∧ W.cell? ⟨gm, i * 2, none⟩ = some (.int .i64 pid) ∧
            W.cell? ⟨b, off + p * 7, none⟩ = some (.int .i64 nd.id) ∧ W.cell? ⟨b, off + p * 7 + 1, none⟩ = some (.int .i64 nd.kind) ∧ W.cell? ⟨b, off + p * 7 + 2, none⟩ = some (.int .i64 nd.mode) ∧ W.cell? ⟨b, off + p * 7 + 3, none⟩ = some (.int .i64 nd.owner) ∧ W.cell? ⟨b, off + p * 7 + 4, none⟩ = some (.int .i64 nd.time) ∧ W.cell? ⟨b, off + p * 7 + 5, none⟩ = some (.string (nm nd.data)) ∧ W.cell? ⟨b, off + p * 7 + 6, none⟩ = some (.slice Ae nd.es.length ce))
            (first | (with_reducible exact S0.out) | (with_reducible exact SA.out) | (with_reducible exact S3.out) | (with_reducible exact S3A.out) | (with_reducible exact S3B.out) | (with_reducible exact S3C.out))
            (first
              | (go_at_call 41; (with_reducible refine (HP1.out).mono ?_); rintro e w3 ⟨rfl, hb3⟩; have HB3 := Lib.hid (HBD.out.trans hb3); have S3 := Lib.hid (SS.out w3 HB3.out); have S3A := Lib.hid (SS.out (w3.alloc (.cells #[.int .i64 0, .int .i64 0, .int .i64 0, .int .i64 0, .int .i64 0, .string { data := #[] }, .slice none 0 0] 37)) (HB3.out.alloc HB3.out.size _)); have S3B := Lib.hid (SS.out (w3.alloc (.cells #[.int .i64 nd.id, .int .i64 nd.kind, .int .i64 nd.mode, .int .i64 nd.owner, .int .i64 nd.time, .string (nm nd.data), .slice Ae nd.es.length ce] 37)) (HB3.out.alloc HB3.out.size _)); clear hb3)
              | (go_at_call 41; (with_reducible refine (HP2.out).mono ?_); rintro e w3 ⟨rfl, hb3⟩; have HB3 := Lib.hid (HBA.out.trans (hb3.mono (by simp))); have S3 := Lib.hid (SS.out w3 HB3.out); have HB3C : Hid (Below wO.heap.size wO (((((((w3.setCell ⟨wO.heap.size, 0, none⟩ (.int .i64 nd.id)).setCell ⟨wO.heap.size, 1, none⟩ (.int .i64 nd.kind)).setCell ⟨wO.heap.size, 2, none⟩ (.int .i64 nd.mode)).setCell ⟨wO.heap.size, 3, none⟩ (.int .i64 nd.owner)).setCell ⟨wO.heap.size, 4, none⟩ (.int .i64 nd.time)).setCell ⟨wO.heap.size, 5, none⟩ (.string (nm nd.data))).setCell ⟨wO.heap.size, 6, none⟩ (.slice Ae nd.es.length ce))) := Lib.hid (((((((HB3.out.setCell (Nat.le_refl _) _).setCell (Nat.le_refl _) _).setCell (Nat.le_refl _) _).setCell (Nat.le_refl _) _).setCell (Nat.le_refl _) _).setCell (Nat.le_refl _) _).setCell (Nat.le_refl _) _); have S3C := Lib.hid (SS.out _ HB3C.out); have hz := (hb3.block wO.heap.size (by simp)).trans (show ((wO.alloc (.cells #[.int .i64 0, .int .i64 0, .int .i64 0, .int .i64 0, .int .i64 0, .string { data := #[] }, .slice none 0 0] 37)).drew).heap[wO.heap.size]? = some _ from heap_alloc_new wO _); have HZ := Lib.hid hz; have hlz := fin_at hz; have z0 := cell_blk hz 0; have z1 := cell_blk hz 1; have z2 := cell_blk hz 2; have z3 := cell_blk hz 3; have z4 := cell_blk hz 4; have z5 := cell_blk hz 5; have z6 := cell_blk hz 6; have f0 := froz_blk hz 0; have f1 := froz_blk hz 1; have f2 := froz_blk hz 2; have f3 := froz_blk hz 3; have f4 := froz_blk hz 4; have f5 := froz_blk hz 5; have f6 := froz_blk hz 6; simp at z0 z1 z2 z3 z4 z5 z6; clear hz hb3))
          · go_wp2_with fail
            go_meet
            exact ⟨_, rfl, HB3.out.size, HB3.out.alloc HB3.out.size _, heap_alloc_new w3 _⟩
          · go_wp2_with fail
            go_meet
            exact ⟨_, rfl, Nat.le_refl _, HB3C.out, seven_set HZ.out _ _ _ _ _ _ _⟩
        case rest =>
          obtain ⟨bx, rfl, hbx, hbw, hblk⟩ := hcut
          have z0 := cell_blk hblk 0
          have f0 := froz_blk hblk 0
          simp at z0
          have hlx := fin_at hblk
          have HBS := Lib.hid (set_blk (j := 0) hblk (.int .i64 ((i : Int) + 1)))
          have HBW := Lib.hid hbw
          clear hbw hblk y0 y1 y2 y3 m0 X0 X1 X2 X3 X4 X5 X6
          go_wp2
          generalize hwo : wc.setCell ⟨bx, 0, none⟩ (.int .i64 ((i : Int) + 1)) = wo at *
          have HBO : Hid (Below wO.heap.size wO wo) := Lib.hid (by rw [← hwo]; exact HBW.out.setCell hbx _)
          have hlo : bx < wo.heap.size := fin_at HBS.out
          clear hwo z0 f0
          obtain ⟨m, hm⟩ : ∃ m, nd.es.length = m := ⟨_, rfl⟩
          simp only [hm] at HBS HE2 hel ⊢
          have HM := Lib.hid hm
          clear hm
          go_loopg [8, 9] m (fun g s8 s9 wi => ∃ q : Nat, g = m - q ∧ q ≤ m ∧ s9 = .int .i64 q ∧ Below wo.heap.size wo wi ∧ wi.ownsRow wo.heap.size 59 2 s8 q (((nd.es.take q).map (reE fun id => (metAt L id : Int) + 1)).flatMap entC))
          case atStart => exact ⟨0, by omega, by omega, rfl, Below.refl _ _, World.ownsRow_nil _ _ _ _⟩
          case round =>
            obtain ⟨q, rfl, hq, rfl, hbi, hrow⟩ := hrel
            obtain ⟨wI, rfl⟩ : ∃ wI : World, wI = wr := ⟨_, rfl⟩
            obtain ⟨ve, vce, rfl⟩ := ownsRow_len3 hrow
            have HBI := Lib.hid hbi; have HRI := Lib.hid hrow
            have z6 := (hbi.cell (p := ⟨bx, 6, none⟩) hlo).trans (cell_blk HBS.out 6)
            simp at z6
            clear hbi hrow
            by_cases hqm : q < m
            · obtain ⟨eb, eo, ce', hcx, hebl, hec⟩ : ∃ eb eo ce', Value.slice Ae m ce = .slice (some ⟨eb, eo, none⟩) m ce' ∧ eb < w.heap.size ∧ ∀ k, k < m → wO.cell? ⟨eb, eo + k * 2, none⟩ = some (.string (nm (entAt nd.es k).key)) ∧ wO.cell? ⟨eb, eo + k * 2 + 1, none⟩ = some (.int .i64 (entAt nd.es k).to) := by
                have hcs := HE2.out.cases.2.2
                rw [HM.out] at hcs
                rcases hcs with ⟨_, _, _, h0⟩ | ⟨b', o', c', h1, _, h3, _, h2⟩
                · have := HM.out; rw [h0] at this; simp at this; omega
                · exact ⟨b', o', c', h1, h3, h2⟩
              cases hcx
              obtain ⟨d0, d1⟩ := hec q hqm
              have hxm := HMT.out (entAt nd.es q) (entAt_mem (by rw [HM.out]; exact hqm))
              have hsn := ents_snoc nd.es (fun id => (metAt L id : Int) + 1) q (by rw [HM.out]; exact hqm)
              have HXM := Lib.hid hxm; have HSN := Lib.hid hsn; have hma := hxm.1
              have HD0 := Lib.hid d0; have HD1 := Lib.hid d1
              have hki : (q : Int) < (m : Int) := by omega
              clear hec hxm hsn d0 d1
              generalize entAt nd.es q = x at *
              generalize metAt L x.to = ma at *
              go_wp2
              go_loopg [8, 10] n (fun g s8 s10 wj => ∃ (j cc : Nat), g = n - j ∧ j ≤ n ∧ s10 = .int .i64 j ∧ cc = (if ma < j then 1 else 0) ∧ Below wo.heap.size wo wj ∧ wj.ownsRow wo.heap.size 59 2 s8 (q + cc) (((nd.es.take (q + cc)).map (reE fun id => (metAt L id : Int) + 1)).flatMap entC))
              case atStart => exact ⟨0, 0, by omega, by omega, rfl, by simp, HBI.out, HRI.out⟩
              case round =>
                obtain ⟨j, cc, rfl, hj, rfl, hcc, hbj, hrj⟩ := hrel
                obtain ⟨v8, vc8, rfl⟩ := ownsRow_len3 hrj
                have hsz := HBO.out.size
                have hsj := hbj.size
                have HOJ := Lib.hid (HBO.out.trans (hbj.mono hsz))
                have e6 := (hbj.cell (p := ⟨bx, 6, none⟩) hlo).trans (cell_blk HBS.out 6)
                simp at e6
                have HBJ := Lib.hid hbj; have HRJ := Lib.hid hrj; have HCC := Lib.hid hcc
                clear hbj hrj hcc
                by_cases hjn : j < n
                · have m0 := (HOJ.out.cell (p := ⟨gm, j * 2, none⟩) hgw).trans ((HBEL.out.cell (p := ⟨gm, j * 2, none⟩) hgm).trans (HMC.out j hjn))
                  have d0 := (HOJ.out.cell (p := ⟨eb, eo + q * 2, none⟩) (by simp; omega)).trans HD0.out
                  have d1 := (HOJ.out.cell (p := ⟨eb, eo + q * 2 + 1, none⟩) (by simp; omega)).trans HD1.out
                  have hji : (j : Int) < (n : Int) := by omega
                  have HJU := Lib.hid (HXM.out.2 j hjn)
                  by_cases he : (itAt L j).id = x.to
                  · have hjm : j = ma := HJU.out.1 he
                    have q1 : ((itAt L j).id == x.to) = true := by simpa using he
                    obtain rfl : cc = 0 := by rw [HCC.out, if_neg (by omega)]
                    have HJM := Lib.hid hjm
                    simp only [Nat.add_zero] at HRJ
                    clear he hjm
                    generalize (itAt L j).id = y at *
                    go_wp2_with fail
                    go_quiet (fail)
                    go_wp2_with (at_builtin; refine wpList_append_own _ rfl _ _ 35 rfl wo.heap.size 59 j0 (.agg #[.string ByteArray.empty, .int .i64 0]) 2 24 Tryd.underlying35 GI.out GZ0.out GZ1.out GZ2.out rfl (by decide) _ q _ rfl ((ownsRow_drewN HRJ.out nq).alloc _) ⟨wr.heap.size, 0, none⟩ 1 1 [.string (nm x.key), .int .i64 ((j : Int) + 1)] rfl rfl (cells2 (wr.drewN nq) _ _ _) (one2s _ _) (maxLen_ok (by omega)) (by omega) (by simp; omega) ?_; intro v9 w9 hown9 hg9 _; have HOW9 := Lib.hid hown9; have HG9 := Lib.hid hg9; clear hown9 hg9)
                    go_roundg (n - (j + 1))
                    case measure => omega
                    case rel =>
                      refine ⟨j + 1, 1, rfl, by omega, by go_num, by rw [if_pos (by have := HJM.out; omega)], ((below_drewN' HBJ.out nq).alloc (by simp; omega) _).grown HG9.out (by simp; omega) (fun k hk => (HRJ.out.lt _ hk).1), ?_⟩
                      rw [HSN.out, ← HJM.out]
                      exact HOW9.out
                  · have hjm : ¬ j = ma := fun h => he (HJU.out.2 h)
                    have q1 : ((itAt L j).id == x.to) = false := by simpa using he
                    have hif : cc = (if ma < j + 1 then 1 else 0) := by
                      rw [HCC.out]
                      by_cases h : ma < j
                      · rw [if_pos h, if_pos (by omega)]
                      · rw [if_neg h, if_neg (by omega)]
                    have HIF := Lib.hid hif
                    clear he hif hjm
                    generalize (itAt L j).id = y at *
                    go_wp2_with fail
                    go_quiet (fail)
                    go_wp2
                    go_roundg (n - (j + 1))
                    case measure => omega
                    case rel => exact ⟨j + 1, cc, rfl, by omega, by go_num, HIF.out, below_drewN' HBJ.out _, ownsRow_drewN HRJ.out _⟩
                · obtain rfl : j = n := by omega
                  obtain rfl : cc = 1 := by rw [HCC.out, if_pos hma]
                  go_wp2
                  go_roundg (m - (q + 1))
                  case measure => omega
                  case rel => exact ⟨q + 1, rfl, by omega, by go_num, HBJ.out, HRJ.out⟩
            · obtain rfl : q = m := by omega
              have hsz := HBO.out.size
              have hbi := (HBI.out.block bx hlo).trans HBS.out
              have hb6 := set_blk (j := 6) hbi (.slice ve q vce)
              have f6 := froz_blk hbi 6
              simp at hb6
              have HM5 := Lib.hid (HBO.out.trans (HBI.out.mono hsz))
              have HB6 := Lib.hid hb6
              have HM6a := Lib.hid (HM5.out.setCell (p := ⟨bx, 6, none⟩) hbx (.slice ve q vce))
              have HV6a := Lib.hid (row_grown HRI.out (grownBy_set wI ⟨bx, 6, none⟩ (.slice ve q vce)) (fun j hj he => by have h1 := (HRI.out.lt _ he).1; have h2 : bx = j := (by simpa using hj); omega))
              clear hbi hb6
              go_upto_region 20 with (fail)
              generalize wI.setCell ⟨bx, 6, none⟩ (.slice ve q vce) = W6 at *
              have z0 := cell_blk HB6.out 0
              have z1 := cell_blk HB6.out 1
              have z2 := cell_blk HB6.out 2
              have z3 := cell_blk HB6.out 3
              have z4 := cell_blk HB6.out 4
              have z5 := cell_blk HB6.out 5
              have z6 := cell_blk HB6.out 6
              simp at z0 z1 z2 z3 z4 z5 z6
              have hbc6 := (HM6a.out.block w2.heap.size hlt5).trans HBC.out
              have o0 := cell_blk hbc6 0
              simp at o0
              have HBC6 := Lib.hid hbc6
              have hs6 := HM6a.out.size
              clear hbc6 f6
              go_wp2_with (at_builtin; refine wpList_append_own _ rfl _ _ 22 rfl (w2.heap.size + 1) 37 i0 (.agg #[.int .i64 0, .int .i64 0, .int .i64 0, .int .i64 0, .int .i64 0, .string ByteArray.empty, .slice none 0 0]) 7 80 Tryd.underlying22 HI.out HZ0.out HZ1.out HZ2.out rfl (by decide) _ _ _ rfl ((row_below HR1.out HM6a.out).alloc _) ⟨W6.heap.size, 0, none⟩ 1 1 [.int .i64 ((i : Int) + 1), .int .i64 nd.kind, .int .i64 nd.mode, .int .i64 nd.owner, .int .i64 nd.time, .string (nm nd.data), .slice ve q vce] rfl rfl (cellsL _ _ _) (one7 _ _ _ _ _ _ _ _ _) (maxLen_ok (by omega)) (by omega) (by simp; omega) ?_; intro v7 w7 hown7 hg7 _; obtain ⟨g7, c7, rfl⟩ := ownsRow_succ hown7; have hbc7 := (hg7.block w2.heap.size (by simp; omega) (fun e => by have := (HR1.out.lt _ e.symm).1; omega)).trans ((heap_alloc_old W6 _ (by omega)).trans HBC6.out); have y7 := cell_blk hbc7 0; have f7 := froz_blk hbc7 0; simp at y7; have HOW7 := Lib.hid hown7; have HG7 := Lib.hid hg7; have HBC7 := Lib.hid hbc7; clear hown7 hg7 hbc7)
              go_roundg (n - (i + 1))
              case measure => omega
              case rel =>
                refine ⟨i + 1, _, rfl, by go_num, by omega, ?_, by simpa using set_blk (j := 0) HBC7.out (.slice (some ⟨g7, 0, none⟩) (i + 1) c7), ?_⟩
                · exact (((HBEL.out.trans (HM6a.out.mono (by omega))).alloc (by omega) _).grown HG7.out (by simp; omega) (fun j e => by have := (HR1.out.lt _ e).1; omega)).setCell (Nat.le_refl _) _
                · have hs : (List.range (i + 1)).map (canonAt nds L) = ps.map Prod.fst ++ [canonAt nds L i] := by rw [List.range_succ, List.map_append, HPS.out]; rfl
                  rw [hs]
                  refine Rowed.next (v := .slice ve q vce) HR1.out HR2.out HPN.out (Nat.lt_succ_self _) (by omega) HM6a.out ?_ HG7.out ?_
                  · rw [HCA.out]
                    have := ownsRow_base HV6a.out (b' := wO.heap.size) (by omega)
                    rw [← HM.out, List.take_length] at this
                    simpa [HM.out] using this
                  · rw [HCA.out]
                    exact HOW7.out
      · obtain rfl : i = n := by omega
        have q0 := cell_blk hbc 0
        have q1 := cell_blk hbc 1
        have q2 := cell_blk hbc 2
        have q3 := cell_blk hbc 3
        simp at q0 q1 q2 q3
        have hrb := (hbel.block (w.heap.size + 1) (by omega)).trans HRB2.out
        have s0 := cell_blk hrb 0
        have s1 := cell_blk hrb 1
        have s2 := cell_blk hrb 2
        have s3 := cell_blk hrb 3
        have f0 := froz_blk hrb 0
        have f1 := froz_blk hrb 1
        have f2 := froz_blk hrb 2
        have f3 := froz_blk hrb 3
        simp at s0 s1 s2 s3
        have HROWED := Lib.hid hrow; have HBEL := Lib.hid hbel; have HRB := Lib.hid hrb
        clear hrow hbel hrb hbc
        go_wp2
        refine bodyPost_ret (results_cell2 rfl _ _ _ 26 #[.slice va i vc, .int .i64 i, .int .i64 rn, .int .i64 rb] (0, 0) _ rfl (by have h := set_blk (j := 3) (set_blk (j := 2) (set_blk (j := 1) (set_blk (j := 0) HRB.out (.slice va i vc)) (.int .i64 i)) (.int .i64 rn)) (.int .i64 rb); exact h) Tryd.underlying26 rfl (by kernel_rfl)) rfl ?_
        refine ⟨_, rfl, ?_, (((HB2.out.trans (HBEL.out.mono (by omega))).setCell (by simp) _).setCell (by simp) _).setCell (by simp) _ |>.setCell (by simp) _⟩
        refine Rowed.nodes (base := w2.heap.size + 1) ?_ (by rw [HLEN.out]; omega) HFIT.out
        rw [HFIN.out]
        exact (((HROWED.out.set (by simp; omega) _).set (by simp; omega) _).set (by simp; omega) _).set (by simp; omega) _

end Go.Proofs.YtgcoioejcnileaaDoor
