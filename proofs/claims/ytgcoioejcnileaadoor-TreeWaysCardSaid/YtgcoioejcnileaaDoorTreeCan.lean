/- DERIVED. The walk of Canon of package tree. -/
import Derived.Test.YtgcoioejcnileaaDoorTreeCan1
import Derived.Laws.ResultCell
import Derived.Laws.Rows
namespace Go.Proofs.YtgcoioejcnileaaDoor
open Go.RowKit Go.Sort
open PathM TreeM
set_option linter.unusedVariables false

/-- What Canon answers. -/
def canonR (t : Tr) : Tr := if checkB t = true then canonT t else ⟨[], 0, 0, 0⟩
def CanonPost (t : Tr) (w : World) (e : Ending) (w' : World) : Prop :=
  ∃ nv', e = .returned (.tuple #[trV nv' (canonR t), .int .i64 (checkI t)]) ∧ NodesIn w' w'.heap.size nv' (canonR t).nodes ∧ Below w.heap.size w w'
theorem nodes_nil (w : World) (B : Nat) : NodesIn w B (.slice none 0 0) [] := ⟨none, 0, rfl, by simp, by simp, fun h => absurd rfl h⟩
theorem fin_at {n : Nat} {W : World} {o : Obj} (h : W.heap[n]? = some o) : n < W.heap.size := (Array.getElem?_eq_some_iff.1 h).1
theorem cell_blk {W : World} {b : Nat} {cs : Array Value} {t : TypeId} (h : W.heap[b]? = some (.cells cs t (0, 0))) (j : Nat) : W.cell? ⟨b, j, none⟩ = cs[j]? := by simp [World.cell?, h]
theorem froz_blk {W : World} {b : Nat} {cs : Array Value} {t : TypeId} (h : W.heap[b]? = some (.cells cs t (0, 0))) (j : Nat) : W.frozen? ⟨b, j, none⟩ = false := by simp [World.frozen?, h]
theorem set_blk {W : World} {b j : Nat} {cs : Array Value} {t : TypeId} (h : W.heap[b]? = some (.cells cs t (0, 0))) (u : Value) : (W.setCell ⟨b, j, none⟩ u).heap[b]? = some (.cells (cs.setIfInBounds j u) t (0, 0)) := heap_setCell_same W b j cs t u h

theorem results_cell2 {P : Program} {fn : Func} {p u : Tmp} {ty : TypeId} (h : fn.results = #[.cell p ty, .tmp u]) (tmps : Array Value) (w : World) (g : Nat) (t : TypeId) (cs : Array Value) (fr : Nat × Nat) (d : TypeDesc)
    (hp : tmps.getD p undef = .pointer (some ⟨g, 0, none⟩)) (hg : w.heap[g]? = some (.cells cs t fr))
    (hu : P.underlying ty = some d) (hd : (match d with | .struct _ | .array _ _ => true | _ => false) = true) (hi : (P.info? ty).map (·.size) = some cs.size) :
    (results fn tmps).run P w = .ok (.tuple #[.agg cs, tmps.getD u undef]) w := by
  rw [results_cell_tmp h, hp]
  simp [asAddr, Result.andThen, run_loadVar_row w g t ty cs fr d hg hu hd hi]
theorem Rowed.set {w : World} {base : Nat} {nv : Value} {l : List Nd} (h : Rowed w base nv l) {a : Addr} (ha : a.block < base) (u : Value) : Rowed (w.setCell a u) base nv l := by
  obtain ⟨ps, h1, h2, h3⟩ := h
  exact ⟨ps, h1, ownsRow_setCell_below h2 ha u, fun p hp => ownsRow_setCell_below (h3 p hp) ha u⟩
set_option maxRecDepth 100000 in
set_option maxHeartbeats 8000000 in
theorem canon_any (nv : Value) (t : Tr) (B : Nat) (w : World) (hN : NodesIn w B nv t.nodes) (hB : B ≤ w.heap.size) :
    Calls Tryd.prog 27 #[trV nv t] w (CanonPost t w) := by
  have hN0 := hN.more hB
  have hc := fun W (hW : Below w.heap.size w W) => check_any nv t w.heap.size W (hN0.below hW) hW.size
  unfold CanonPost
  obtain ⟨ck, hck⟩ : ∃ ck, checkI t = ck := ⟨_, rfl⟩
  rw [hck] at hc ⊢
  cases hb : checkB t with
  | false =>
    have hp : canonR t = ⟨[], 0, 0, 0⟩ := by unfold canonR; rw [hb]; rfl
    have hck2 : ck = 80 := by rw [← hck]; unfold checkI; rw [hb]; rfl
    subst hck2
    obtain ⟨A, c, rfl⟩ := nodes_len hN
    have HC := Lib.hid hc
    rw [hp]
    clear hc hp hN hN0 hb hck
    unfold trV at *
    generalize t.nodes.length = n at *
    generalize t.last = la at *
    generalize t.rn = rn at *
    generalize t.rb = rb at *
    go_enter Tryd.func27, Tryd.ntmps27
    go_wp2_with fail
    refine (HC.out _ (((Below.refl _ _).alloc (by simp) _).alloc (by simp) _)).mono ?_
    rintro e w1 ⟨rfl, hb1⟩
    have r0 : w1.cell? ⟨w.heap.size + 1, 0, none⟩ = some (.slice none 0 0) := (hb1.cell (p := ⟨w.heap.size + 1, 0, none⟩) (by simp)).trans (by simp)
    have r1 : w1.cell? ⟨w.heap.size + 1, 1, none⟩ = some (.int .i64 0) := (hb1.cell (p := ⟨w.heap.size + 1, 1, none⟩) (by simp)).trans (by simp)
    have r2 : w1.cell? ⟨w.heap.size + 1, 2, none⟩ = some (.int .i64 0) := (hb1.cell (p := ⟨w.heap.size + 1, 2, none⟩) (by simp)).trans (by simp)
    have r3 : w1.cell? ⟨w.heap.size + 1, 3, none⟩ = some (.int .i64 0) := (hb1.cell (p := ⟨w.heap.size + 1, 3, none⟩) (by simp)).trans (by simp)
    have f0 : w1.frozen? ⟨w.heap.size + 1, 0, none⟩ = false := (hb1.frozen (p := ⟨w.heap.size + 1, 0, none⟩) (by simp)).trans (by simp)
    have f1 : w1.frozen? ⟨w.heap.size + 1, 1, none⟩ = false := (hb1.frozen (p := ⟨w.heap.size + 1, 1, none⟩) (by simp)).trans (by simp)
    have f2 : w1.frozen? ⟨w.heap.size + 1, 2, none⟩ = false := (hb1.frozen (p := ⟨w.heap.size + 1, 2, none⟩) (by simp)).trans (by simp)
    have f3 : w1.frozen? ⟨w.heap.size + 1, 3, none⟩ = false := (hb1.frozen (p := ⟨w.heap.size + 1, 3, none⟩) (by simp)).trans (by simp)
    have hblk : w1.heap[w.heap.size + 1]? = some (.cells #[.slice none 0 0, .int .i64 0, .int .i64 0, .int .i64 0] 26 (0, 0)) := (hb1.block (w.heap.size + 1) (by simp)).trans (by have := World.alloc_heap_new (w.alloc (.cells #[.slice A n c, .int .i64 la, .int .i64 rn, .int .i64 rb] 26)) (.cells #[.slice none 0 0, .int .i64 0, .int .i64 0, .int .i64 0] 26); simpa using this)
    have hb2 : Below w.heap.size w w1 := (((Below.refl w.heap.size w).alloc (by simp) _).alloc (by simp) _).trans (hb1.mono (by simp; omega))
    have HB := Lib.hid hb2; have HBLK := Lib.hid hblk
    clear hb1 hb2 hblk
    go_wp2
    refine bodyPost_ret (results_cell2 rfl _ _ _ 26 #[.slice none 0 0, .int .i64 0, .int .i64 0, .int .i64 0] (0, 0) _ rfl (by have h := set_blk (j := 3) (set_blk (j := 2) (set_blk (j := 1) (set_blk (j := 0) HBLK.out (.slice none 0 0)) (.int .i64 0)) (.int .i64 0)) (.int .i64 0); exact h) Tryd.underlying26 rfl (by kernel_rfl)) rfl ?_
    exact ⟨_, rfl, nodes_nil _ _, (((HB.out.setCell (by simp) _).setCell (by simp) _).setCell (by simp) _).setCell (by simp) _⟩
  | true =>
    have hck2 : ck = 0 := by rw [← hck]; unfold checkI; rw [hb]; rfl
    subst hck2
    obtain ⟨hri, hn, hpos, hp1, hled, hwl, hents⟩ := check_facts hb
    have hp : canonR t = canonT t := by unfold canonR; rw [hb]; rfl
    rw [hp]
    have hw := fun W (hW : Below w.heap.size w W) => way_any nv t w.heap.size W (hN0.below hW) hW.size hri hn hp1 hled
    have hmet : ∀ i, i < (way t.nodes).length → ∀ x ∈ (ndAt t.nodes (itAt (way t.nodes) i).node).es, metF (way t.nodes) x.to = some (metAt (way t.nodes) x.to : Int) ∧ metAt (way t.nodes) x.to < (way t.nodes).length := by
      intro i hi x hx
      have hm := reached_met (check_parts hb).2.2.2.2 (hled x (flat_mem.2 ⟨_, ((way_wy t.nodes).node hi).1, hx⟩))
      exact ⟨by unfold metF; rw [if_pos hm], metAt_lt hm⟩
    have hnode := fun i (hi : i < (way t.nodes).length) => ((way_wy t.nodes).node hi).1
    have hcells := it_cells (way t.nodes)
    rw [hwl] at hmet hnode hcells
    obtain ⟨_, h0 | ⟨b, off, c, rfl, hcap, hbB, _, hnodes⟩⟩ := hN0.cases
    · obtain ⟨_, _, _, h0⟩ := h0; rw [h0] at hpos; exact absurd hpos (by simp)
    have hcT : canonT t = ⟨canonN t.nodes (way t.nodes), (way t.nodes).length, t.rn, t.rb⟩ := rfl
    have hfin : canonN t.nodes (way t.nodes) = (List.range t.nodes.length).map (canonAt t.nodes (way t.nodes)) := by unfold canonN; rw [hwl]
    have hfit : ∀ m ∈ canonN t.nodes (way t.nodes), m.data.length ≤ 140737488351232 ∧ m.es.length * 24 ≤ 140737488351232 ∧ ∀ x ∈ m.es, x.key.length ≤ 140737488351232 ∧ -9223372036854775808 ≤ x.to ∧ x.to ≤ 9223372036854775807 := by
      intro m hm
      rw [hfin] at hm
      obtain ⟨i, hi, rfl⟩ := List.mem_map.1 hm
      have hi : i < t.nodes.length := by simpa using hi
      obtain ⟨_, _, _, _, _, _, g7, ev, _, hE⟩ := hnodes _ (hnode i hi)
      obtain ⟨e1, e2, _⟩ := hE.cases
      refine ⟨g7, by simpa [canonAt] using e1, fun y hy => ?_⟩
      obtain ⟨x, hx, rfl⟩ := List.mem_map.1 hy
      have := (hmet i hi x hx).2
      exact ⟨(e2 x hx).1, by simp [reE]; omega, by simp [reE]; omega⟩
    have hlen : (canonN t.nodes (way t.nodes)).length = t.nodes.length := by rw [hfin]; simp
    rw [hcT, hwl]
    have HC := Lib.hid hc; have HW := Lib.hid hw; have HMET := Lib.hid hmet; have HND := Lib.hid hnode; have HCE := Lib.hid hcells; have HNODES := Lib.hid hnodes; have HFIN := Lib.hid hfin; have HFIT := Lib.hid hfit; have HLEN := Lib.hid hlen
    clear hc hw hmet hnode hcells hnodes hfin hfit hlen hp hcT hN hN0 hck hri hp1 hled hents
    unfold trV at *
    generalize way t.nodes = L at *
    generalize canonN t.nodes L = CN at *
    obtain ⟨nds, hnds⟩ : ∃ nds, t.nodes = nds := ⟨_, rfl⟩
    obtain ⟨n, hnn⟩ : ∃ n, nds.length = n := ⟨_, rfl⟩
    simp only [hnds, hnn] at HC HW HMET HND HCE HNODES HFIN HLEN hn hpos hcap hwl ⊢
    have HWL := Lib.hid hwl
    clear hwl
    generalize t.last = la at *
    generalize t.rn = rn at *
    generalize t.rb = rb at *
    obtain ⟨i0, hi, hz0, hz1, hz2⟩ := info_parts info37
    have HI := Lib.hid hi; have HZ0 := Lib.hid hz0; have HZ1 := Lib.hid hz1; have HZ2 := Lib.hid hz2; clear hi hz0 hz1 hz2
    go_enter Tryd.func27, Tryd.ntmps27
    go_wp2_with fail
    refine (HC.out _ (((Below.refl _ _).alloc (by simp) _).alloc (by simp) _)).mono ?_
    rintro e w1 ⟨rfl, hb1⟩
    have hblk : w1.heap[w.heap.size + 1]? = some (.cells #[.slice none 0 0, .int .i64 0, .int .i64 0, .int .i64 0] 26 (0, 0)) := (hb1.block (w.heap.size + 1) (by simp)).trans (heap_alloc2_new w _ _)
    have tblk : w1.heap[w.heap.size]? = some (.cells #[.slice (some ⟨b, off, none⟩) n c, .int .i64 la, .int .i64 rn, .int .i64 rb] 26 (0, 0)) := (hb1.block w.heap.size (by simp; omega)).trans (heap_alloc2_old w _ _)
    have hb2 : Below w.heap.size w w1 := (((Below.refl w.heap.size w).alloc (by simp) _).alloc (by simp) _).trans (hb1.mono (by simp; omega))
    have HB := Lib.hid hb2; have HBLK := Lib.hid hblk; have TBLK := Lib.hid tblk
    have t0 := cell_blk tblk 0
    have t1 := cell_blk tblk 1
    have t2 := cell_blk tblk 2
    have t3 := cell_blk tblk 3
    simp at t0 t1 t2 t3
    clear hb1 hb2 hblk tblk
    go_wp2_with fail
    refine (HW.out _ HB.out).mono ?_
    rintro e w2 ⟨v, mb, rfl, hrow, hmap, hmb, hb2⟩
    rw [HWL.out] at hrow hmap
    obtain ⟨gm, cm, rfl, hgm⟩ : ∃ gm cm, v = .slice (some ⟨gm, 0, none⟩) n cm ∧ gm < w2.heap.size := by
      rcases hrow.2 with ⟨_, h⟩ | ⟨g, cap, cur, hv, _, hh, _⟩
      · omega
      · exact ⟨g, cap, hv, (Array.getElem?_eq_some_iff.1 hh).1⟩
    have hlt1 : w.heap.size + 1 < w1.heap.size := fin_at HBLK.out
    have hrb2 := (hb2.block _ hlt1).trans HBLK.out
    have htb2 := (hb2.block w.heap.size (by omega)).trans TBLK.out
    have u0 := cell_blk htb2 0
    have u1 := cell_blk htb2 1
    have u2 := cell_blk htb2 2
    have u3 := cell_blk htb2 3
    simp at u0 u1 u2 u3
    have hlt2 : w.heap.size + 1 < w2.heap.size := by have := hb2.size; omega
    have HMC : Hid (∀ i, i < n → w2.cell? ⟨gm, i * 3, none⟩ = some (.int .i64 (itAt L i).node) ∧ w2.cell? ⟨gm, i * 3 + 1, none⟩ = some (.int .i64 (itAt L i).fr) ∧ w2.cell? ⟨gm, i * 3 + 2, none⟩ = some (.string (nm (itAt L i).name))) :=
      Lib.hid (fun i hi => ⟨row_cells hrow _ _ (HCE.out i hi).1, row_cells hrow _ _ (HCE.out i hi).2.1, row_cells hrow _ _ (HCE.out i hi).2.2⟩)
    have HB2 := Lib.hid (HB.out.trans (hb2.mono (by omega)))
    have HRB2 := Lib.hid hrb2; have HTB2 := Lib.hid htb2; have HMAP := Lib.hid hmap
    have hmblt := hmap.lt
    clear hrow hmap hb2 hrb2 htb2 t0 t1 t2 t3 hlt1
    go_wp2
    go_loopw [31] (fun s31 wr => ∃ (i : Nat) (nv' : Value), s31 = .int .i64 i ∧ i ≤ n ∧ Below w2.heap.size w2 wr ∧ wr.heap[w2.heap.size]? = some (.cells #[nv', .int .i64 n, .int .i64 rn, .int .i64 rb] 26 (0, 0)) ∧ Rowed wr (w2.heap.size + 1) nv' ((List.range i).map (canonAt nds L))) (fun s31 _ => n - (intOf s31).toNat)
    case atStart => exact ⟨0, .slice none 0 0, rfl, by omega, (Below.refl _ _).alloc (Nat.le_refl _) _, heap_alloc_new w2 _, Rowed.nil _ _⟩
    case round =>
      obtain ⟨i, nv', rfl, hi, hbel, hbc, hrow⟩ := hrel
      have hlt5 := fin_at hbc
      have hvl : ∃ va vc, nv' = .slice va i vc := by
        obtain ⟨ps, hps, hr, _⟩ := hrow
        have := ownsRow_len3 hr
        simpa using this
      obtain ⟨va, vc, rfl⟩ := hvl
      by_cases hin : i < n
      · have hii : (i : Int) < (n : Int) := by omega
        obtain ⟨m0, m1, m2⟩ := HMC.out i hin
        have hp := HND.out i hin
        obtain ⟨x0, x1, x2, x3, x4, x5, hdl, ev, x6, hE⟩ := HNODES.out _ hp
        have hmt := HMET.out i hin
        have HCA : Hid (canonAt nds L i = { ndAt nds (itAt L i).node with id := (i : Int) + 1, es := (ndAt nds (itAt L i).node).es.map (reE fun id => (metAt L id : Int) + 1) }) := Lib.hid rfl
        obtain ⟨Ae, ce, rfl, hel⟩ := ents_len hE
        have hwb : Below w.heap.size w wr := HB2.out.trans (hbel.mono (by omega))
        have hE2 := hE.below hwb
        have HM0 := (hbel.cell (p := ⟨gm, i * 3, none⟩) hgm).trans m0
        have HM1 := (hbel.cell (p := ⟨gm, i * 3 + 1, none⟩) hgm).trans m1
        have HM2 := (hbel.cell (p := ⟨gm, i * 3 + 2, none⟩) hgm).trans m2
        have y0 := (hbel.cell (p := ⟨w.heap.size, 0, none⟩) (by simp; omega)).trans u0
        have X0 := (hwb.cell (p := ⟨b, off + (itAt L i).node * 7, none⟩) hbB).trans x0
        have X1 := (hwb.cell (p := ⟨b, off + (itAt L i).node * 7 + 1, none⟩) hbB).trans x1
        have X2 := (hwb.cell (p := ⟨b, off + (itAt L i).node * 7 + 2, none⟩) hbB).trans x2
        have X3 := (hwb.cell (p := ⟨b, off + (itAt L i).node * 7 + 3, none⟩) hbB).trans x3
        have X4 := (hwb.cell (p := ⟨b, off + (itAt L i).node * 7 + 4, none⟩) hbB).trans x4
        have X5 := (hwb.cell (p := ⟨b, off + (itAt L i).node * 7 + 5, none⟩) hbB).trans x5
        have X6 := (hwb.cell (p := ⟨b, off + (itAt L i).node * 7 + 6, none⟩) hbB).trans x6
        have hgw : gm < wr.heap.size := by omega
        have hbw : b < wr.heap.size := by omega
        have hww : w.heap.size < wr.heap.size := by omega
        have hpp : ((itAt L i).node : Int) < (n : Int) := by omega
        obtain ⟨ps, hps, hr1, hr2⟩ := hrow
        have hpl : ps.length = i := by have := congrArg List.length hps; simpa using this
        rw [List.length_map, List.length_range] at hr1
        have HPS := Lib.hid hps; have HR1 := Lib.hid hr1; have HR2 := Lib.hid hr2; have HPL := Lib.hid hpl
        clear hps hr1 hr2 hpl
        have HBEL := Lib.hid hbel; have HBC := Lib.hid hbc; have HE2 := Lib.hid hE2; have HMT := Lib.hid hmt
        clear m0 m1 m2 x0 x1 x2 x3 x4 x5 x6 hwb hE hE2 hbel hbc hmt
        generalize hnd : ndAt nds (itAt L i).node = nd at *
        generalize (itAt L i).node = p at *
        generalize (itAt L i).fr = fr at *
        generalize (itAt L i).name = nme at *
        go_wp2_with (at_builtin; refine wpList_copy_ents rfl _ _ rfl rfl (.slice Ae nd.es.length ce) nd.es w.heap.size rfl (HE2.out.below ((((Below.refl wr.heap.size wr).alloc (by simp) _).alloc (by simp) _).mono (by omega))) ?_; intro v4 w4 hown4 hg4; obtain ⟨ve, vce, rfl⟩ := ownsRow_len3 hown4; have hbn4 := (hg4.block (wr.heap.size + 1) (by simp) (by simp)).trans (heap_alloc2_new wr _ _); have f6 := froz_blk hbn4 6; have z6 := cell_blk hbn4 6; simp at z6; have HBN5 := Lib.hid (set_blk (j := 6) hbn4 (.slice ve nd.es.length vce)); have HW4 := Lib.hid hown4; have HG4 := Lib.hid hg4; have hl4 : wr.heap.size + 1 < w4.heap.size := fin_at hbn4; clear hown4 hg4 hbn4)
        generalize hw5 : w4.setCell ⟨wr.heap.size + 1, 6, none⟩ (.slice ve nd.es.length vce) = w5 at *
        have HB5 : Hid (Below wr.heap.size wr w5) := Lib.hid (by rw [← hw5]; exact ((((Below.refl wr.heap.size wr).alloc (by simp) _).alloc (by simp) _).grown HG4.out (by simp; omega) (fun k h => by cases h)).setCell (by simp) _)
        have HR5 : Hid (w5.ownsRow (wr.heap.size + 2) 59 2 (.slice ve nd.es.length vce) nd.es.length (nd.es.flatMap entC)) := Lib.hid (by rw [← hw5]; exact row_grown (ownsRow_base HW4.out (by simp)) (grownBy_set _ _ _) (fun j hj he => by cases hj; have := (HW4.out.lt _ he).1; simp at this; omega))
        have hz5 := HBN5.out
        simp at hz5
        have HZ5 := Lib.hid hz5
        have z66 := cell_blk hz5 6
        simp at z66
        clear hz5 HBN5 HW4 HG4 hl4 f6 z6 hw5
        obtain ⟨m, hm⟩ : ∃ m, nd.es.length = m := ⟨_, rfl⟩
        simp only [hm] at HZ5 HR5 z66 hel ⊢
        obtain ⟨wo, hwo⟩ : ∃ wo, wo = wr := ⟨_, rfl⟩
        go_loopw [52] (fun s52 wi => ∃ k : Nat, s52 = .int .i64 k ∧ k ≤ m ∧ Below wo.heap.size wo wi ∧ wi.heap[wo.heap.size + 1]? = some (.cells #[.int .i64 (1 + (i : Int)), .int .i64 nd.kind, .int .i64 nd.mode, .int .i64 nd.owner, .int .i64 nd.time, .string (nm nd.data), .slice ve m vce] 37 (0, 0)) ∧ wi.ownsRow (wo.heap.size + 2) 59 2 (.slice ve m vce) m (((nd.es.take k).map (reE fun id => (metAt L id : Int) + 1) ++ nd.es.drop k).flatMap entC)) (fun s52 _ => m - (intOf s52).toNat)
        case atStart => subst hwo; exact ⟨0, rfl, by omega, HB5.out, HZ5.out, by simpa using HR5.out⟩
        case round =>
          obtain ⟨k, rfl, hk, hbi, hbni, hri⟩ := hrel
          subst hwo
          have hltn := fin_at hbni
          have HBI := Lib.hid hbi; have HBNI := Lib.hid hbni; have HRI := Lib.hid hri
          clear hbi hbni hri
          by_cases hkm : k < m
          · obtain ⟨g, rfl, hg2, hgl⟩ : ∃ g, ve = some ⟨g, 0, none⟩ ∧ wo.heap.size + 2 ≤ g ∧ g < wr.heap.size := by
              rcases HRI.out.2 with ⟨_, h⟩ | ⟨g, cap, cur, hv, hb, hh, _⟩
              · omega
              · cases hv; exact ⟨g, rfl, hb, (Array.getElem?_eq_some_iff.1 hh).1⟩
            have hkm2 : k < nd.es.length := by omega
            have hki : (k : Int) < (m : Int) := by omega
            obtain ⟨hl, hent⟩ := ent_here nd.es (fun id => (metAt L id : Int) + 1) k hkm2
            obtain ⟨c0, c1⟩ := ent_cells _ k hl
            rw [hent] at c0 c1
            have e0 := row_cells HRI.out _ _ c0
            have e1 := row_cells HRI.out _ _ c1
            have fz : wr.frozen? ⟨g, k * 2 + 1, none⟩ = false := HRI.out.frozenAt _
            have z6i := cell_blk HBNI.out 6
            simp at z6i
            have hx := HMT.out (entAt nd.es k) (entAt_mem hkm2)
            have hxb := (HE2.out.cases.2.1 _ (entAt_mem hkm2)).2
            have hmi := ((HMAP.out.below (HBEL.out.trans (HBI.out.mono (by omega))) hmblt).alloc (.cells #[.string (nm (entAt nd.es k).key), .int .i64 (entAt nd.es k).to] 59)).look (entAt nd.es k).to hxb
            rw [hx.1, Option.getD_some] at hmi
            have hmx := hx.2
            have HSET := Lib.hid (ent_set nd.es (fun id => (metAt L id : Int) + 1) k hkm2)
            clear hl hent c0 c1 hx hxb hkm2
            generalize (entAt nd.es k) = x at *
            generalize metAt L x.to = ma at *
            go_wp2
            go_roundw
            case rel =>
              refine ⟨k + 1, by go_num, by omega, (HBI.out.setCell (by simp; omega) _).alloc (by simp; omega) _, (heap_alloc_old _ _ (by simpa using hltn)).trans (((grownBy_set wr ⟨g, k * 2 + 1, none⟩ _).block _ hltn (by simp; omega)).trans HBNI.out), ?_⟩
              have := (HRI.out.stored (k * 2 + 1) (.int .i64 ((ma : Int) + 1))).1.alloc (.cells #[.string (nm x.key), .int .i64 x.to] 59)
              rw [HSET.out, Int.add_comm] at this
              exact this
            case measure => simp [intOf]; omega
          · obtain rfl : k = m := by omega
            have hrf : wr.ownsRow (wo.heap.size + 2) 59 2 (.slice ve k vce) k ((nd.es.map (reE fun id => (metAt L id : Int) + 1)).flatMap entC) := by
              have := HRI.out
              rwa [← hm, List.take_length, List.drop_length, List.append_nil, hm] at this
            have HRF := Lib.hid hrf
            have hbci := (HBI.out.block w2.heap.size (by omega)).trans HBC.out
            have HBCI := Lib.hid hbci
            have yb := cell_blk hbci 0
            simp at yb
            have zi0 := cell_blk HBNI.out 0
            have zi1 := cell_blk HBNI.out 1
            have zi2 := cell_blk HBNI.out 2
            have zi3 := cell_blk HBNI.out 3
            have zi4 := cell_blk HBNI.out 4
            have zi5 := cell_blk HBNI.out 5
            have zi6 := cell_blk HBNI.out 6
            simp at zi0 zi1 zi2 zi3 zi4 zi5 zi6
            have hlo : wo.heap.size < wr.heap.size := by omega
            clear hrf hbci
            go_wp2_with (at_builtin; refine wpList_append_own _ rfl _ _ 22 rfl (w2.heap.size + 1) 37 i0 (.agg #[.int .i64 0, .int .i64 0, .int .i64 0, .int .i64 0, .int .i64 0, .string ByteArray.empty, .slice none 0 0]) 7 80 Tryd.underlying22 HI.out HZ0.out HZ1.out HZ2.out rfl (by decide) _ _ _ rfl ((row_below HR1.out HBI.out).alloc _) ⟨wr.heap.size, 0, none⟩ 1 1 [.int .i64 (1 + (i : Int)), .int .i64 nd.kind, .int .i64 nd.mode, .int .i64 nd.owner, .int .i64 nd.time, .string (nm nd.data), .slice ve k vce] rfl rfl (cellsL _ _ _) (one7 _ _ _ _ _ _ _ _ _) (maxLen_ok (by omega)) (by omega) (by simp; omega) ?_; intro v7 w7 hown7 hg7 _; obtain ⟨g7, c7, rfl⟩ := ownsRow_succ hown7; have hbc7 := (hg7.block w2.heap.size (by simp; omega) (fun e => by have := (HR1.out.lt _ e.symm).1; omega)).trans ((heap_alloc_old wr _ (by omega)).trans HBCI.out); have y7 := cell_blk hbc7 0; have f7 := froz_blk hbc7 0; simp at y7; rw [Int.add_comm] at hown7; have HOW7 := Lib.hid hown7; have HG7 := Lib.hid hg7; have HBC7 := Lib.hid hbc7; clear hown7 hg7 hbc7)
            go_roundw
            case rel =>
              refine ⟨i + 1, _, by go_num, by omega, ?_, by simpa using set_blk (j := 0) HBC7.out (.slice (some ⟨g7, 0, none⟩) (i + 1) c7), ?_⟩
              · exact (((HBEL.out.trans (HBI.out.mono (by omega))).alloc (by omega) _).grown HG7.out (by simp; omega) (fun j e => by have := (HR1.out.lt _ e).1; omega)).setCell (Nat.le_refl _) _
              · have hs : (List.range (i + 1)).map (canonAt nds L) = ps.map Prod.fst ++ [canonAt nds L i] := by rw [List.range_succ, List.map_append, HPS.out]; rfl
                rw [hs]
                refine Rowed.next (v := .slice ve k vce) HR1.out HR2.out HPL.out (Nat.lt_succ_self _) (by omega) HBI.out ?_ HG7.out ?_
                · rw [HCA.out]
                  have := ownsRow_base HRF.out (b' := wo.heap.size) (by omega)
                  simpa [hm] using this
                · rw [HCA.out]
                  exact HOW7.out
            case measure => simp [intOf]; omega
      · obtain rfl : i = n := by omega
        have q0 := cell_blk hbc 0
        have q1 := cell_blk hbc 1
        have q2 := cell_blk hbc 2
        have q3 := cell_blk hbc 3
        simp at q0 q1 q2 q3
        have hrb := (hbel.block (w.heap.size + 1) (by omega)).trans HRB2.out
        have s0 := cell_blk hrb 0
        have s1 := cell_blk hrb 1
        have s2 := cell_blk hrb 2
        have s3 := cell_blk hrb 3
        have f0 := froz_blk hrb 0
        have f1 := froz_blk hrb 1
        have f2 := froz_blk hrb 2
        have f3 := froz_blk hrb 3
        simp at s0 s1 s2 s3
        have HROWED := Lib.hid hrow; have HBEL := Lib.hid hbel; have HRB := Lib.hid hrb
        clear hrow hbel hrb hbc
        go_wp2
        refine bodyPost_ret (results_cell2 rfl _ _ _ 26 #[.slice va i vc, .int .i64 i, .int .i64 rn, .int .i64 rb] (0, 0) _ rfl (by have h := set_blk (j := 3) (set_blk (j := 2) (set_blk (j := 1) (set_blk (j := 0) HRB.out (.slice va i vc)) (.int .i64 i)) (.int .i64 rn)) (.int .i64 rb); exact h) Tryd.underlying26 rfl (by kernel_rfl)) rfl ?_
        refine ⟨_, rfl, ?_, (((HB2.out.trans (HBEL.out.mono (by omega))).setCell (by simp) _).setCell (by simp) _).setCell (by simp) _ |>.setCell (by simp) _⟩
        refine Rowed.nodes (base := w2.heap.size + 1) ?_ (by rw [HLEN.out]; omega) HFIT.out
        rw [HFIN.out]
        exact (((HROWED.out.set (by simp; omega) _).set (by simp; omega) _).set (by simp; omega) _).set (by simp; omega) _

end Go.Proofs.YtgcoioejcnileaaDoor
