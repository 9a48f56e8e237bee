/- DERIVED. The walk of the law TreeCanon. -/
import Derived.Test.YtgcoioejcnileaaDoorTreeFar
import Derived.StillTailTactics
import Derived.Deep.Cut
namespace Go.Proofs.YtgcoioejcnileaaDoor
open Go.RowKit Go.Sort
open PathM TreeM
set_option linter.unusedVariables false

/-- Two boxes, laid at two times, and what was there before each. -/
def D2 (w w1 : World) (tv cv : Array Value) (W : World) : Prop := W.heap[w.heap.size]? = some (.cells tv 26 (0, 0)) ∧ W.heap[w1.heap.size]? = some (.cells cv 26 (0, 0)) ∧ Below w.heap.size w W ∧ Below w1.heap.size w1 W
theorem D2.next {w w1 W W' : World} {tv cv : Array Value} (h : D2 w w1 tv cv W) (hb : Below W.heap.size W W') : D2 w w1 tv cv W' :=
  ⟨blk_next h.1 hb, blk_next h.2.1 hb, h.2.2.1.trans (hb.mono h.2.2.1.size), h.2.2.2.trans (hb.mono h.2.2.2.size)⟩
theorem D2.made {w w1 : World} {tv : Array Value} (h : C1 w tv w1) (cv : Array Value) : D2 w w1 tv cv (w1.alloc (.cells cv 26)) :=
  ⟨blk_next h.1 (below_alloc _ _), heap_alloc_new w1 _, (h.next (below_alloc _ _)).2, below_alloc _ _⟩

theorem NodesIn.alloc {w : World} {v : Value} {l : List Nd} (h : NodesIn w w.heap.size v l) (o : Obj) : NodesIn (w.alloc o) (w.alloc o).heap.size v l := (h.below (below_alloc w o)).more (Nat.le_of_lt (alloc_lt _ _))

set_option maxRecDepth 100000 in
set_option maxHeartbeats 16000000 in
theorem canon_law (nv : Value) (t : Tr) (by_ : Nat) (B : Nat) (w : World) (hN : NodesIn w B nv t.nodes) (hB : B ≤ w.heap.size) (hby : by_ ≤ 255) :
    Calls Tryd.prog 7 #[trV nv t, .int .u8 (by_ : Int)] w fun e w' => e = .returned (.bool true) ∧ Below w.heap.size w w' := by
  have hN0 := hN.more hB
  have hsm := fun W (hW : Below w.heap.size w W) => small_any nv t w.heap.size W (hN0.below hW) hW.size
  have hca := fun W (hW : Below w.heap.size w W) => (canon_any nv t w.heap.size W (hN0.below hW) hW.size).mono fun _ _ h => h.len
  have hc1 : ∀ tv : Array Value, C1 w tv (w.alloc (.cells tv 26)) := fun tv => ⟨heap_alloc_new w _, below_alloc _ _⟩
  unfold BelowB at hsm
  cases hs : smallB t with
  | false =>
    rw [hs] at hsm
    have HSM := Lib.hid hsm; have HCA := Lib.hid hca
    clear hsm hca hN0 hs
    generalize canonR t = cr at *
    generalize checkI t = ck at *
    obtain ⟨A, c, rfl⟩ := nodes_len hN
    unfold trV at *
    generalize t.nodes.length = n at *
    generalize t.last = la at *
    generalize t.rn = tn at *
    generalize t.rb = tb at *
    have H0 := Lib.hid (hc1 #[.slice A n c, .int .i64 la, .int .i64 tn, .int .i64 tb])
    clear hc1
    go_enter Tryd.func7, Tryd.ntmps7
    go_wp2_with fail
    refine (HCA.out _ H0.out.2).mono ?_
    rintro e w1 ⟨A1, c1, rfl, hN1, hb1⟩
    have H1 := Lib.hid (H0.out.next hb1)
    have HN1 := Lib.hid hN1
    obtain ⟨d0, d1, d2, d3⟩ := four_cells H1.out.1
    have hl1 : w.heap.size < w1.heap.size := fin_at H1.out.1
    clear hb1 hN1
    go_wp2_with fail
    have H2 := Lib.hid (D2.made H1.out #[.slice A1 cr.nodes.length c1, .int .i64 cr.last, .int .i64 cr.rn, .int .i64 cr.rb])
    refine (HSM.out _ H2.out.2.2.1).mono ?_
    rintro e w2 ⟨rfl, hb2⟩
    have H3 := Lib.hid (H2.out.next hb2)
    clear hb2
    go_wp2_with (go_at_call 10; refine (awake_any _).mono ?_; rintro e w3 ⟨rfl, hb3⟩; have H4 := Lib.hid (H3.out.next hb3); clear hb3)
    go_ret
    exact ⟨rfl, H4.out.2.2.1⟩
  | true =>
    rw [hs] at hsm
    cases hb : checkB t with
    | false =>
      have hck : checkI t = 80 := by unfold checkI; rw [hb]; rfl
      rw [hck] at hca
      have HSM := Lib.hid hsm; have HCA := Lib.hid hca
      clear hsm hca hN0 hs hck hb
      generalize canonR t = cr at *
      obtain ⟨A, c, rfl⟩ := nodes_len hN
      unfold trV at *
      generalize t.nodes.length = n at *
      generalize t.last = la at *
      generalize t.rn = tn at *
      generalize t.rb = tb at *
      have H0 := Lib.hid (hc1 #[.slice A n c, .int .i64 la, .int .i64 tn, .int .i64 tb])
      clear hc1
      go_enter Tryd.func7, Tryd.ntmps7
      go_wp2_with fail
      refine (HCA.out _ H0.out.2).mono ?_
      rintro e w1 ⟨A1, c1, rfl, hN1, hb1⟩
      have H1 := Lib.hid (H0.out.next hb1)
      have HN1 := Lib.hid hN1
      obtain ⟨d0, d1, d2, d3⟩ := four_cells H1.out.1
      have hl1 : w.heap.size < w1.heap.size := fin_at H1.out.1
      clear hb1 hN1
      go_wp2_with fail
      have H2 := Lib.hid (D2.made H1.out #[.slice A1 cr.nodes.length c1, .int .i64 cr.last, .int .i64 cr.rn, .int .i64 cr.rb])
      refine (HSM.out _ H2.out.2.2.1).mono ?_
      rintro e w2 ⟨rfl, hb2⟩
      have H3 := Lib.hid (H2.out.next hb2)
      clear hb2
      go_wp2_with (go_at_call 10; refine (awake_any _).mono ?_; rintro e w3 ⟨rfl, hb3⟩; have H4 := Lib.hid (H3.out.next hb3); clear hb3)
      go_ret
      exact ⟨rfl, H4.out.2.2.1⟩
    | true =>
      have hck : checkI t = 0 := by unfold checkI; rw [hb]; rfl
      rw [hck, canonR_of hb] at hca
      have hids := fun i hi => canon_ids hb (i := i) hi
      have hcnt := canon_count hb
      have htos := fun i hi => canon_tos hb (i := i) hi
      have hn512 := (check_facts hb).2.1
      have hpos := (check_facts hb).2.2.1
      have hcc : canonR (canonT t) = canonT t := canonR_canon hb
      have hck2 : checkI (canonT t) = 0 := by unfold checkI; rw [if_pos (canon_check hb)]
      have hsame := sameB_canon hb
      have hfar := fun last hl => far_all hb by_ last hl
      have hfr := farN_range (canonT t).nodes by_
      have hca2 := fun v W (hN : NodesIn W W.heap.size v (canonT t).nodes) => (canon_any v (canonT t) W.heap.size W hN (Nat.le_refl _)).mono fun _ _ h => h.len
      rw [hcc, hck2] at hca2
      have hck3 := fun v W (hN : NodesIn W W.heap.size v (canonT t).nodes) => check_any v (canonT t) W.heap.size W hN (Nat.le_refl _)
      rw [hck2] at hck3
      have hex := fun v u W h1 h2 => rexact_any v u (canonT t) (canonT t) W.heap.size W h1 h2 (Nat.le_refl _)
      have hdd : decide (canonT t = canonT t) = true := by simp
      rw [hdd] at hex
      have hsa := fun v W (hW : Below w.heap.size w W) (h1 : NodesIn W W.heap.size v (canonT t).nodes) => same_any v nv (canonT t) t W.heap.size W h1 ((hN0.below hW).more hW.size) (Nat.le_refl _)
      rw [hsame] at hsa
      have hcf := fun v (f : Tr) W (h1 : NodesIn W W.heap.size v f.nodes) => check_any v f W.heap.size W h1 (Nat.le_refl _)
      have hsf := fun v (f : Tr) W (hW : Below w.heap.size w W) (h1 : NodesIn W W.heap.size v f.nodes) => same_any v nv f t W.heap.size W h1 ((hN0.below hW).more hW.size) (Nat.le_refl _)
      unfold BelowB at hex hsa hsf
      rw [hcnt] at hfr
      have HSM := Lib.hid hsm; have HCA := Lib.hid hca; have HCA2 := Lib.hid hca2; have HCK3 := Lib.hid hck3; have HEX := Lib.hid hex; have HSA := Lib.hid hsa; have HCF := Lib.hid hcf; have HSF := Lib.hid hsf; have HFAR := Lib.hid hfar; have HFR := Lib.hid hfr; have HIDS := Lib.hid hids; have HTOS := Lib.hid htos; have HCNT := Lib.hid hcnt
      clear hsm hca hca2 hck3 hex hsa hcf hsf hfar hfr hids htos hN0 hs hck hb hcc hck2 hsame hdd hcnt
      generalize canonT t = cr at *
      obtain ⟨A, c, rfl⟩ := nodes_len hN
      unfold trV at *
      generalize t.nodes.length = n at *
      generalize t.last = la at *
      generalize t.rn = tn at *
      generalize t.rb = tb at *
      have H0 := Lib.hid (hc1 #[.slice A n c, .int .i64 la, .int .i64 tn, .int .i64 tb])
      clear hc1
      go_enter Tryd.func7, Tryd.ntmps7
      go_wp2_with fail
      refine (HCA.out _ H0.out.2).mono ?_
      rintro e w1 ⟨A1, c1, rfl, hN1, hb1⟩
      have H1 := Lib.hid (H0.out.next hb1)
      have HN1 := Lib.hid hN1
      obtain ⟨d0, d1, d2, d3⟩ := four_cells H1.out.1
      have hl1 : w.heap.size < w1.heap.size := fin_at H1.out.1
      clear hb1 hN1
      go_wp2_with fail
      have H2 := Lib.hid (D2.made H1.out #[.slice A1 cr.nodes.length c1, .int .i64 cr.last, .int .i64 cr.rn, .int .i64 cr.rb])
      refine (HSM.out _ H2.out.2.2.1).mono ?_
      rintro e w2 ⟨rfl, hb2⟩
      have H3 := Lib.hid (H2.out.next hb2)
      clear hb2
      have HCN := Lib.hid HCNT.out
      have H3c := H3.out
      obtain ⟨e0, e1, e2, e3⟩ := four_cells H3.out.1
      obtain ⟨p0, p1, p2, p3⟩ := four_cells H3.out.2.1
      have HN3 := Lib.hid ((HN1.out.below H3.out.2.2.2).more H3.out.2.2.2.size)
      clear H3c
      go_wp2_with fail
      refine (HCA2.out _ _ HN3.out).mono ?_
      rintro e w3 ⟨A3, c3, rfl, hN3, hb3⟩
      have H4 := Lib.hid (H3.out.next hb3)
      obtain ⟨i0, i1, i2, i3⟩ := four_cells H4.out.1
      obtain ⟨q0, q1, q2, q3⟩ := four_cells H4.out.2.1
      have hl3 : w1.heap.size < w3.heap.size := fin_at H4.out.2.1
      have HNE := Lib.hid (((HN1.out.below H4.out.2.2.2).more H4.out.2.2.2.size).alloc (.cells #[.slice A3 cr.nodes.length c3, .int .i64 cr.last, .int .i64 cr.rn, .int .i64 cr.rb] 26))
      have HNF := Lib.hid (hN3.alloc (.cells #[.slice A3 cr.nodes.length c3, .int .i64 cr.last, .int .i64 cr.rn, .int .i64 cr.rb] 26))
      have H5 := Lib.hid (H4.out.next (below_alloc w3 (.cells #[.slice A3 cr.nodes.length c3, .int .i64 cr.last, .int .i64 cr.rn, .int .i64 cr.rb] 26)))
      clear hb3 hN3
      go_wp2_with fail
      refine (HEX.out _ _ _ HNE.out HNF.out).mono ?_
      rintro e w4 ⟨rfl, hb4⟩
      have H6 := Lib.hid (H5.out.next hb4)
      obtain ⟨j0, j1, j2, j3⟩ := four_cells H6.out.2.1
      have HN6 := Lib.hid ((HN1.out.below H6.out.2.2.2).more H6.out.2.2.2.size)
      clear hb4 HNE HNF
      go_wp2_with fail
      refine (HCK3.out _ _ HN6.out).mono ?_
      rintro e w5 ⟨rfl, hb5⟩
      have H7 := Lib.hid (H6.out.next hb5)
      obtain ⟨k0, k1, k2, k3⟩ := four_cells H7.out.2.1
      obtain ⟨l0, l1, l2, l3⟩ := four_cells H7.out.1
      have HN7 := Lib.hid ((HN1.out.below H7.out.2.2.2).more H7.out.2.2.2.size)
      clear hb5
      go_wp2_with fail
      refine (HSA.out _ _ H7.out.2.2.1 HN7.out).mono ?_
      rintro e w6 ⟨rfl, hb6⟩
      have H8 := Lib.hid (H7.out.next hb6)
      obtain ⟨r0, r1, r2, r3⟩ := four_cells H8.out.2.1
      obtain ⟨s0, s1, s2, s3⟩ := four_cells H8.out.1
      have hl6 : w.heap.size < w6.heap.size := fin_at H8.out.1
      have hl61 : w1.heap.size < w6.heap.size := fin_at H8.out.2.1
      have HN8 := Lib.hid ((HN1.out.below H8.out.2.2.2))
      clear hb6 HN6 HN7 HN3 H2 H3 H4 H5 H6 H7 HCA HCA2 HCK3 HEX HSA HSM d0 d1 d2 d3 e0 e1 e2 e3 p0 p1 p2 p3 i0 i1 i2 i3 q0 q1 q2 q3 j0 j1 j2 j3 k0 k1 k2 k3 l0 l1 l2 l3
      go_wp2_with fail
      obtain ⟨_, h0 | ⟨b1, o1, cc1, e1, _, hb1, _, hnodes⟩⟩ := HN1.out.cases
      · obtain ⟨_, _, _, h0⟩ := h0
        have := HCNT.out
        rw [h0] at this
        simp at this
        omega
      cases e1
      have HNODES := Lib.hid hnodes
      clear hnodes
      generalize hcl : cr.nodes.length = cn at *
      have HCL := Lib.hid hcl
      clear hcl
      obtain rfl : n = cn := HCNT.out.symm
      have HFIT : Hid (∀ m ∈ (List.range n).map (fun j => reN (movedI by_) (ndAt cr.nodes j)), m.data.length ≤ 140737488351232 ∧ m.es.length * 24 ≤ 140737488351232 ∧ ∀ x ∈ m.es, x.key.length ≤ 140737488351232 ∧ -9223372036854775808 ≤ x.to ∧ x.to ≤ 9223372036854775807) := Lib.hid (by
        intro m hm
        obtain ⟨i, hi, rfl⟩ := List.mem_map.1 hm
        have hi : i < n := by simpa using hi
        obtain ⟨_, _, _, _, _, _, g7, ev, _, hE⟩ := HNODES.out i hi
        obtain ⟨e1, e2, _⟩ := hE.cases
        refine ⟨g7, by simpa [reN] using e1, fun y hy => ?_⟩
        obtain ⟨x, hx, rfl⟩ := List.mem_map.1 hy
        have := HTOS.out i hi x hx
        refine ⟨(e2 x hx).1, ?_, ?_⟩
        · show -9223372036854775808 ≤ movedI by_ x.to
          unfold movedI; split <;> omega
        · show movedI by_ x.to ≤ 9223372036854775807
          unfold movedI; split <;> omega)
      obtain ⟨i0, hi, hz0, hz1, hz2⟩ := info_parts info37
      have HI := Lib.hid hi; have HZ0 := Lib.hid hz0; have HZ1 := Lib.hid hz1; have HZ2 := Lib.hid hz2; clear hi hz0 hz1 hz2
      go_loopw [10] (fun s10 wr => ∃ (i : Nat) (nv' : Value) (la' : Int), s10 = .int .i64 i ∧ i ≤ n ∧ Below w6.heap.size w6 wr ∧ wr.heap[w6.heap.size]? = some (.cells #[nv', .int .i64 la', .int .i64 tn, .int .i64 tb] 26 (0, 0)) ∧ Rowed wr (w6.heap.size + 1) nv' ((List.range i).map (fun j => reN (movedI by_) (ndAt cr.nodes j))) ∧ ∀ j, j < i → movedI by_ (ndAt cr.nodes j).id ≤ la') (fun s10 _ => n - (intOf s10).toNat)
      case atStart => exact ⟨0, .slice none 0 0, la, rfl, by omega, below_alloc _ _, heap_alloc_new w6 _, Rowed.nil _ _, fun j hj => by omega⟩
      case round =>
        obtain ⟨i, nv', la', rfl, hi, hbel, hbc, hrow, hle⟩ := hrel
        have hlt5 := fin_at hbc
        obtain ⟨va, vc, rfl⟩ : ∃ va vc, nv' = .slice va i vc := by
          obtain ⟨ps, hps, hr, _⟩ := hrow
          have := ownsRow_len3 hr
          simpa using this
        have HLE := Lib.hid hle
        have hcb := (hbel.block w1.heap.size hl61).trans H8.out.2.1
        obtain ⟨y0, -, -, -⟩ := four_cells hcb
        clear hle hcb
        by_cases hin : i < n
        · have hii : (i : Int) < (n : Int) := by omega
          have hw1r : Below w1.heap.size w1 wr := H8.out.2.2.2.trans (hbel.mono (by omega))
          obtain ⟨x0, x1, x2, x3, x4, x5, hdl, ev, x6, hE⟩ := (HNODES.out i hin).below hb1 hw1r
          obtain ⟨Ae, ce, rfl, hel⟩ := ents_len hE
          have hid := HIDS.out i hin
          have hto := HTOS.out i hin
          have HMV := Lib.hid (fun W => moved_any (ndAt cr.nodes i).id by_ W (by omega) (by omega) hby)
          have HMT := Lib.hid (fun (x : Ent) (hx : x ∈ (ndAt cr.nodes i).es) W => moved_any x.to by_ W (hto x hx).1 (by have := (hto x hx).2; omega) hby)
          obtain ⟨ps, hps, hr1, hr2⟩ := hrow
          have hplen : ps.length = i := by have := congrArg List.length hps; simpa using this
          rw [List.length_map, List.length_range] at hr1
          have HPS := Lib.hid hps; have HR1 := Lib.hid hr1; have HR2 := Lib.hid hr2; have HPN := Lib.hid hplen
          have HBEL := Lib.hid hbel; have HBC := Lib.hid hbc; have HE := Lib.hid hE
          have hbw : b1 < wr.heap.size := by omega
          have hwl : w1.heap.size < wr.heap.size := by omega
          clear hps hr1 hr2 hplen hbel hbc hE hid hto hw1r
          have HND : Hid (reN (movedI by_) (ndAt cr.nodes i) = { ndAt cr.nodes i with id := movedI by_ (ndAt cr.nodes i).id, es := (ndAt cr.nodes i).es.map (reE (movedI by_)) }) := Lib.hid rfl
          generalize hndi : ndAt cr.nodes i = nd at *
          have HNDI := Lib.hid hndi
          clear hndi
          obtain ⟨mid, hmid⟩ : ∃ mid, movedI by_ nd.id = mid := ⟨_, rfl⟩
          rw [hmid] at HMV HND
          have HMID := Lib.hid hmid
          clear hmid
          obtain ⟨m, hm⟩ : ∃ m, nd.es.length = m := ⟨_, rfl⟩
          simp only [hm] at HE hel x6 ⊢
          have HM := Lib.hid hm
          clear hm
          go_wp2_with (first | (go_at_call 34; refine (HMV.out _).mono ?_; rintro e wz ⟨rfl, rfl⟩) | (at_builtin; refine wpList_copy_ents2 rfl _ _ rfl (wr.heap.size + 1) (wr.heap.size + 1) rfl (Nat.le_refl _) (by simp) (heap_alloc2_new wr _ _) (.slice Ae m ce) nd.es w1.heap.size rfl (HE.out.below ((((Below.refl wr.heap.size wr).alloc (by simp) _).alloc (by simp) _).mono (by omega))) ?_; intro v4 w4 hown4 hg4; obtain ⟨ve, vce, rfl⟩ := ownsRow_len3 hown4; have hbn4 := (hg4.block wr.heap.size (by simp; omega) (by simp)).trans (heap_alloc2_old wr _ _); have f6 := froz_blk hbn4 6; have z6 := cell_blk hbn4 6; simp at z6; have HBN5 := Lib.hid (set_blk (j := 6) hbn4 (.slice ve nd.es.length vce)); have HW4 := Lib.hid hown4; have HG4 := Lib.hid hg4; have hl4 : wr.heap.size < w4.heap.size := fin_at hbn4; clear hown4 hg4 hbn4))
          generalize hw5 : w4.setCell ⟨wr.heap.size, 6, none⟩ (.slice ve nd.es.length vce) = w5 at *
          have HB5 : Hid (Below wr.heap.size wr w5) := Lib.hid (by rw [← hw5]; exact ((((Below.refl wr.heap.size wr).alloc (by simp) _).alloc (by simp) _).grown HG4.out (by simp; omega) (fun k h => by have : wr.heap.size + 1 = k := (by simpa using h); omega)).setCell (by simp) _)
          have HR5 : Hid (w5.ownsRow (wr.heap.size + 1) 59 2 (.slice ve nd.es.length vce) nd.es.length (nd.es.flatMap entC)) := Lib.hid (by rw [← hw5]; exact row_grown HW4.out (grownBy_set _ _ _) (fun j hj he => by have h1 := (HW4.out.lt _ he).1; have h2 : wr.heap.size = j := (by simpa using hj); omega))
          have hz5 := HBN5.out
          simp at hz5
          rw [HM.out] at hz5 HR5 ⊢
          have HZ5 := Lib.hid hz5
          clear hz5 HBN5 HW4 HG4 hl4 f6 z6 hw5 y0 x0 x1 x2 x3 x4 x5 x6
          obtain ⟨wo, hwo⟩ : ∃ wo, wo = wr := ⟨_, rfl⟩
          go_loopw [12] (fun s12 wi => ∃ k : Nat, s12 = .int .i64 k ∧ k ≤ m ∧ Below wo.heap.size wo wi ∧ wi.heap[wo.heap.size]? = some (.cells #[.int .i64 mid, .int .i64 nd.kind, .int .i64 nd.mode, .int .i64 nd.owner, .int .i64 nd.time, .string (nm nd.data), .slice ve m vce] 37 (0, 0)) ∧ wi.ownsRow (wo.heap.size + 1) 59 2 (.slice ve m vce) m (((nd.es.take k).map (reE (movedI by_)) ++ nd.es.drop k).flatMap entC)) (fun s12 _ => m - (intOf s12).toNat)
          case atStart => subst hwo; exact ⟨0, rfl, by omega, HB5.out, HZ5.out, by simpa using HR5.out⟩
          case round =>
            obtain ⟨k, rfl, hk, hbi, hbni, hri⟩ := hrel
            subst hwo
            have hltn := fin_at hbni
            have z6i := cell_blk hbni 6
            simp at z6i
            have HBI := Lib.hid hbi; have HBNI := Lib.hid hbni; have HRI := Lib.hid hri
            clear hbi hbni hri
            by_cases hkm : k < m
            · obtain ⟨g, rfl, hg2, hgl⟩ : ∃ g, ve = some ⟨g, 0, none⟩ ∧ wo.heap.size + 1 ≤ g ∧ g < wr.heap.size := by
                rcases HRI.out.2 with ⟨_, h⟩ | ⟨g, cap, cur, hv, hb, hh, _⟩
                · omega
                · cases hv; exact ⟨g, rfl, hb, (Array.getElem?_eq_some_iff.1 hh).1⟩
              have hkm2 : k < nd.es.length := by rw [HM.out]; exact hkm
              have hki : (k : Int) < (m : Int) := by omega
              obtain ⟨hl, hent⟩ := ent_here nd.es (movedI by_) k hkm2
              obtain ⟨c0, c1'⟩ := ent_cells _ k hl
              rw [hent] at c0 c1'
              have e1 := row_cells HRI.out _ _ c1'
              have fz : wr.frozen? ⟨g, k * 2 + 1, none⟩ = false := HRI.out.frozenAt _
              have HMX := Lib.hid (HMT.out (entAt nd.es k) (entAt_mem hkm2))
              have HSET := Lib.hid (ent_set nd.es (movedI by_) k hkm2)
              clear hl hent c0 c1' hkm2
              generalize (entAt nd.es k) = x at *
              generalize movedI by_ x.to = mx at *
              go_wp2_with fail
              refine wp_region_still_tail 13 (by kernel_rfl) (by kernel_rfl) ?_
              simp only [List.take_succ_cons, List.take_zero, List.drop_succ_cons, List.drop_zero]
              repeat still_step
              still_call (HMX.out _)
              repeat still_step
              refine wpStill_nil ?_
              change wpList _ _ _ _ _ wr.drew
              go_wp2
              go_roundw
              case rel =>
                refine ⟨k + 1, by go_num, by omega, HBI.out.drew.setCell (by simp; omega) _, ?_, ?_⟩
                · exact ((grownBy_set wr.drew ⟨g, k * 2 + 1, none⟩ _).block _ hltn (by simp; omega)).trans HBNI.out
                · have := (HRI.out.stored (k * 2 + 1) (.int .i64 mx)).1
                  rw [HSET.out] at this
                  exact this
              case measure => simp [intOf]; omega
            · obtain rfl : k = m := by omega
              have hrf : wr.ownsRow (wo.heap.size + 1) 59 2 (.slice ve k vce) k ((nd.es.map (reE (movedI by_))).flatMap entC) := by
                have := HRI.out
                rwa [← HM.out, List.take_length, List.drop_length, List.append_nil, HM.out] at this
              have HRF := Lib.hid hrf
              have hbci := (HBI.out.block w6.heap.size (by omega)).trans HBC.out
              have HBCI := Lib.hid hbci
              obtain ⟨yb, yb1, -, -⟩ := four_cells hbci
              have zi0 := cell_blk HBNI.out 0
              have zi1 := cell_blk HBNI.out 1
              have zi2 := cell_blk HBNI.out 2
              have zi3 := cell_blk HBNI.out 3
              have zi4 := cell_blk HBNI.out 4
              have zi5 := cell_blk HBNI.out 5
              simp at zi0 zi1 zi2 zi3 zi4 zi5
              have hlo : wo.heap.size < wr.heap.size := by omega
              clear hrf hbci
              go_wp2_with (at_builtin; refine wpList_append_own _ rfl _ _ 22 rfl (w6.heap.size + 1) 37 i0 (.agg #[.int .i64 0, .int .i64 0, .int .i64 0, .int .i64 0, .int .i64 0, .string ByteArray.empty, .slice none 0 0]) 7 80 Tryd.underlying22 HI.out HZ0.out HZ1.out HZ2.out rfl (by decide) _ _ _ rfl ((row_below HR1.out HBI.out).alloc _) ⟨wr.heap.size, 0, none⟩ 1 1 [.int .i64 mid, .int .i64 nd.kind, .int .i64 nd.mode, .int .i64 nd.owner, .int .i64 nd.time, .string (nm nd.data), .slice ve k vce] rfl rfl (cellsL _ _ _) (one7 _ _ _ _ _ _ _ _ _) (maxLen_ok (by omega)) (by omega) (by simp; omega) ?_; intro v7 w7 hown7 hg7 _; obtain ⟨g7, c7, rfl⟩ := ownsRow_succ hown7; have hbc7 := (hg7.block w6.heap.size (by simp; omega) (fun e => by have := (HR1.out.lt _ e.symm).1; omega)).trans ((heap_alloc_old wr _ (by omega)).trans HBCI.out); have hbn7 := (hg7.block wo.heap.size (by simp; omega) (fun e => by have := (HR1.out.lt _ e.symm).2; omega)).trans ((heap_alloc_old wr _ (by omega)).trans HBNI.out); obtain ⟨y7, y71, -, -⟩ := four_cells hbc7; have f7 := froz_blk hbc7 0; have f71 := froz_blk hbc7 1; have z7 := cell_blk hbn7 0; simp at z7; have hwo7 : w6.heap.size ≠ wo.heap.size := (by omega); have HOW7 := Lib.hid hown7; have HG7 := Lib.hid hg7; have HBC7 := Lib.hid hbc7; have HBN7 := Lib.hid hbn7; clear hown7 hg7 hbc7 hbn7)
              go_roundw
              case rel =>
                refine ⟨i + 1, _, max la' mid, by go_num, by omega, ?_, by simpa using set_blk (j := 1) (set_blk (j := 0) HBC7.out (.slice (some ⟨g7, 0, none⟩) (i + 1) c7)) (.int .i64 (max la' mid)), ?_, ?_⟩
                · exact ((((HBEL.out.trans (HBI.out.mono (by omega))).alloc (by omega) _).grown HG7.out (by simp; omega) (fun j e => by have := (HR1.out.lt _ e).1; omega)).setCell (Nat.le_refl _) _).setCell (Nat.le_refl _) _
                · have hs : (List.range (i + 1)).map (fun j => reN (movedI by_) (ndAt cr.nodes j)) = ps.map Prod.fst ++ [reN (movedI by_) nd] := by rw [List.range_succ, List.map_append, HPS.out, List.map_singleton, HNDI.out]
                  rw [hs]
                  refine (Rowed.next (v := .slice ve k vce) HR1.out HR2.out HPN.out (Nat.lt_succ_self _) (by omega) HBI.out ?_ HG7.out ?_).set (by simp) _
                  · rw [HND.out]
                    have := ownsRow_base HRF.out (b' := wo.heap.size) (by omega)
                    simpa [HM.out] using this
                  · rw [HND.out]
                    exact HOW7.out
                · intro j hj
                  by_cases e : j = i
                  · rw [e, HNDI.out, HMID.out]; exact Int.le_max_right _ _
                  · exact Int.le_trans (HLE.out j (by omega)) (Int.le_max_left _ _)
              case measure => simp [intOf]; omega
        · obtain rfl : i = n := by omega
          have hNF : NodesIn wr wr.heap.size (.slice va i vc) (farN cr.nodes by_) := by
            rw [HFR.out]
            exact Rowed.nodes hrow (by simp; omega) HFIT.out
          have hfx := HFAR.out la' HLE.out
          have hcf := fun W h1 => HCF.out (.slice va i vc) ⟨farN cr.nodes by_, la', tn, tb⟩ W h1
          have hsf := fun W h1 h2 => HSF.out (.slice va i vc) ⟨farN cr.nodes by_, la', tn, tb⟩ W h1 h2
          rw [hfx.1] at hcf
          rw [hfx.2] at hsf
          have HCF2 := Lib.hid hcf; have HSF2 := Lib.hid hsf; have HNF := Lib.hid hNF
          have HT := Lib.hid ((hbel.block w.heap.size hl6).trans H8.out.1)
          have HBW := Lib.hid (H8.out.2.2.1.trans (hbel.mono (by omega)))
          obtain ⟨q0, q1, q2, q3⟩ := four_cells hbc
          have HBC := Lib.hid hbc
          clear hcf hsf hfx hNF hrow hbel hbc HCF HSF HFAR HFR HFIT
          go_wp2_with fail
          refine (HCF2.out _ HNF.out).mono ?_
          rintro e w9 ⟨rfl, hb9⟩
          obtain ⟨i0', i1', i2', i3'⟩ := four_cells (blk_next HBC.out hb9)
          obtain ⟨j0, j1, j2, j3⟩ := four_cells (blk_next HT.out hb9)
          have HBW9 := Lib.hid (HBW.out.trans (hb9.mono HBW.out.size))
          have HNF9 := Lib.hid ((HNF.out.below hb9).more hb9.size)
          clear hb9
          go_wp2_with fail
          refine (HSF2.out _ HBW9.out HNF9.out).mono ?_
          rintro e w10 ⟨rfl, hb10⟩
          have HBW10 := Lib.hid (HBW9.out.trans (hb10.mono HBW9.out.size))
          clear hb10
          go_wp2_with (go_at_call 10; refine (awake_any _).mono ?_; rintro e w11 ⟨rfl, hb11⟩; have HBW11 := Lib.hid (HBW10.out.trans (hb11.mono HBW10.out.size)); clear hb11)
          go_ret
          exact ⟨rfl, HBW11.out⟩

theorem canon_row (nv : Value) (t : Tr) (b : Int) (w : World) (hN : NodesIn w w.heap.size nv t.nodes) (h0 : 0 ≤ b) (h1 : b ≤ 255) :
    Calls Tryd.prog 7 #[trV nv t, .int .u8 b] w fun e w' => e = .returned (.bool true) ∧ Below w.heap.size w w' := by
  obtain ⟨bn, rfl⟩ : ∃ bn : Nat, b = bn := ⟨b.toNat, by omega⟩
  exact canon_law nv t bn _ w hN (Nat.le_refl _) (by omega)

end Go.Proofs.YtgcoioejcnileaaDoor
