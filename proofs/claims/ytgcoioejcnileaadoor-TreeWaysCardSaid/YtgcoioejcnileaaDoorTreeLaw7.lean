/- DERIVED. The walk of the law TreeWays. -/
import Derived.Test.YtgcoioejcnileaaDoorTreeLaw3
import Derived.Test.YtgcoioejcnileaaDoorTreeMath7
import Derived.Test.YtgcoioejcnileaaDoorTreeMath6
import Derived.Test.YtgcoioejcnileaaDoorTreeSame2
import Derived.Lib.QuietBelow
import Derived.Deep.LoopGhost
namespace Go.Proofs.YtgcoioejcnileaaDoor
open Go.RowKit Go.Sort
open PathM TreeM
set_option linter.unusedVariables false
attribute [local go_sem] cell_rg

theorem links_root {t : Tr} (h : checkB t = true) {i : Nat} (hi : i < t.nodes.length) : (0 < links t.nodes (ndAt t.nodes i).id) ↔ ¬ (ndAt t.nodes i).id = 1 := by
  obtain ⟨hh, hn, hp, hl, hr⟩ := check_parts h
  obtain ⟨k1, k2, k3, k4⟩ := head_parts hh
  have hri := check_rising h
  by_cases e : i = 0
  · subst e
    rw [k3]
    have h0 : links t.nodes 1 = 0 := links_zero (fun x hx => (led_mem hl hx).2.1)
    rw [h0]
    simp
  · have h1 := reached_links hr hri k3 hi (by omega)
    have h2 := hri 0 i (by omega) hi
    constructor
    · intro _ h3; omega
    · intro _; exact h1

set_option maxRecDepth 100000 in
set_option maxHeartbeats 16000000 in
theorem ways_law (nv : Value) (t : Tr) (which : Nat) (B : Nat) (w : World) (hN : NodesIn w B nv t.nodes) (hB : B ≤ w.heap.size) (hwh : which ≤ 18446744073709551615) :
    Calls Tryd.prog 8 #[trV nv t, .int .u64 (which : Int)] w fun e w' => e = .returned (.bool true) ∧ Below w.heap.size w w' := by
  have hN0 := hN.more hB
  have hsm := fun W (hW : Below w.heap.size w W) => small_any nv t w.heap.size W (hN0.below hW) hW.size
  have hrc := fun W (hW : Below w.heap.size w W) => rcheck_any nv t w.heap.size W (hN0.below hW) hW.size
  have hc1 : ∀ tv : Array Value, C1 w tv (w.alloc (.cells tv 26)) := fun tv => ⟨heap_alloc_new w _, (Below.refl _ _).alloc (Nat.le_refl _) _⟩
  unfold BelowB at hsm
  cases hs : smallB t with
  | false =>
    obtain ⟨A, c, rfl⟩ := nodes_len hN
    rw [hs] at hsm
    have HSM := Lib.hid hsm
    clear hsm hrc hN hN0 hs
    unfold trV at *
    generalize hnl : t.nodes.length = n at *
    have HNL := Lib.hid hnl
    clear hnl
    generalize t.last = la at *
    generalize t.rn = tn at *
    generalize t.rb = tb at *
    have H0 := Lib.hid (hc1 #[.slice A n c, .int .i64 la, .int .i64 tn, .int .i64 tb])
    clear hc1
    go_enter Tryd.func8, Tryd.ntmps8
    go_wp2_with (go_at_call 9; refine (HSM.out _ H0.out.2).mono ?_; rintro e w1 ⟨rfl, hb1⟩; have H1 := Lib.hid (H0.out.next hb1); obtain ⟨d0, d1, d2, d3⟩ := H1.out.cells; clear hb1)
    go_wp2_with (go_at_call 10; refine (awake_any _).mono ?_; rintro e w2 ⟨rfl, hb2⟩; have H2 := Lib.hid (H1.out.next hb2); clear hb2)
    go_ret
    exact ⟨rfl, H2.out.2⟩
  | true =>
    rw [hs] at hsm
    cases hb : checkB t with
    | false =>
      have hck : checkI t = 80 := by unfold checkI; rw [hb]; rfl
      rw [hck] at hrc
      obtain ⟨A, c, rfl⟩ := nodes_len hN
      have HSM := Lib.hid hsm; have HRC := Lib.hid hrc
      clear hsm hrc hN hN0 hs hb hck
      unfold trV at *
      generalize hnl : t.nodes.length = n at *
      have HNL := Lib.hid hnl
      clear hnl
      generalize t.last = la at *
      generalize t.rn = tn at *
      generalize t.rb = tb at *
      have H0 := Lib.hid (hc1 #[.slice A n c, .int .i64 la, .int .i64 tn, .int .i64 tb])
      clear hc1
      go_enter Tryd.func8, Tryd.ntmps8
      go_wp2_with (go_at_call 9; refine (HSM.out _ H0.out.2).mono ?_; rintro e w1 ⟨rfl, hb1⟩; have H1 := Lib.hid (H0.out.next hb1); obtain ⟨d0, d1, d2, d3⟩ := H1.out.cells; clear hb1)
      go_wp2_with fail
      refine (HRC.out _ H1.out.2).mono ?_
      rintro e w2 ⟨rfl, hb2⟩
      have H2 := Lib.hid (H1.out.next hb2)
      clear hb2
      go_wp2_with (go_at_call 10; refine (awake_any _).mono ?_; rintro e w3 ⟨rfl, hb3⟩; have H3 := Lib.hid (H2.out.next hb3); clear hb3)
      go_ret
      exact ⟨rfl, H3.out.2⟩
    | true =>
      have hck : checkI t = 0 := by unfold checkI; rw [hb]; rfl
      rw [hck] at hrc
      obtain ⟨hri, hn, hpos, _, _, hwl, hents⟩ := check_facts hb
      obtain ⟨r, hr⟩ : ∃ r, which % t.nodes.length = r := ⟨_, rfl⟩
      have hrl : r < t.nodes.length := by rw [← hr]; exact Nat.mod_lt _ hpos
      have hmet : met (way t.nodes) (ndAt t.nodes r).id = true := reached_met (check_parts hb).2.2.2.2 (place_lt hrl rfl)
      have hat := metAt_lt hmet
      have hid := metAt_id hmet
      have hpi : pathI t (ndAt t.nodes r).id = ((itAt (way t.nodes) (metAt (way t.nodes) (ndAt t.nodes r).id)).path, true) := by unfold pathI; rw [if_pos hb, if_pos hmet]
      obtain ⟨_, _, hpp, hpl⟩ := names_fit hents (by omega) hat
      have hnames := (back_names (way_wy t.nodes) (way_ln t.nodes) hents (way t.nodes).length _ (Nat.le_of_lt hat) hat).1
      have hgo := goTo_of_check (t := t) hents hat
      rw [hid] at hgo
      have hlk := links_root hb hrl
      have hidb := (place_lt (l := t.nodes) hrl rfl)
      generalize hns : (back (way t.nodes) (way t.nodes).length (metAt (way t.nodes) (ndAt t.nodes r).id)).reverse = ns at *
      have hnames2 : ∀ m ∈ ns, m ≠ [] ∧ 47 ∉ m := fun m hm => by
        have := nameB_parts (hnames m (by rw [← hns] at hm; exact List.mem_reverse.1 hm))
        exact ⟨this.1, this.2.1⟩
      rw [hpp] at hpl
      have hpI : pathI t (ndAt t.nodes r).id = (pathOf ns, true) := by rw [hpi, hpp]
      have hbd : -9223372036854775808 ≤ (ndAt t.nodes r).id ∧ (ndAt t.nodes r).id ≤ 9223372036854775807 := by
        have h1 := allTo_iff.1 (check_parts hb).2.1 r hrl
        have h2 : t.last ≤ 1099511627776 := by
          unfold smallB at hs
          simp only [Bool.and_eq_true, decide_eq_true_eq] at hs
          exact hs.1
        have h3 := check_pos hb hrl
        simp [okNum] at h1
        omega
      have hpa := fun W (hW : Below w.heap.size w W) => path_any nv t (ndAt t.nodes r).id w.heap.size W (hN0.below hW) hW.size hbd
      rw [hpI] at hpa
      have hli := fun W (hW : Below w.heap.size w W) => links_any nv t (ndAt t.nodes r).id w.heap.size W (hN0.below hW) hW.size (flat_len hN hn)
      have hget := fun a W (hW : Below w.heap.size w W) => get_any nv t a w.heap.size W (hN0.below hW) hW.size hri hpos
      have hsort := fun a (ha : place t.nodes a < t.nodes.length) => sorted_of_ents (hents _ ha)
      obtain ⟨_, h0 | ⟨b, off, c, rfl, hcap, hbB, _, hnodes⟩⟩ := hN0.cases
      · obtain ⟨_, _, _, h0⟩ := h0; rw [h0] at hpos; exact absurd hpos (by simp)
      have hcell := (hnodes r hrl).1
      obtain ⟨v, hv⟩ : ∃ v : Bool, decide (0 < links t.nodes (ndAt t.nodes r).id) = v := ⟨_, rfl⟩
      have hv2 : ((ndAt t.nodes r).id != 1) = v := by
        rw [← hv]
        by_cases h1 : (ndAt t.nodes r).id = 1
        · have h2 : ¬ 0 < links t.nodes (ndAt t.nodes r).id := fun h => hlk.1 h h1
          simp [h1] at h2 ⊢
          omega
        · have h2 := hlk.2 h1
          simp [h1, h2]
      have hget2 : ∀ a, place t.nodes a < t.nodes.length → ∀ W, Below w.heap.size w W → Calls Tryd.prog 16 #[trV (.slice (some ⟨b, off, none⟩) t.nodes.length c) t, .int .i64 a] W fun e w' => ∃ Ae ce, e = .returned (.tuple #[ndV (.slice Ae (ndAt t.nodes (place t.nodes a)).es.length ce) (ndAt t.nodes (place t.nodes a)), .bool true]) ∧ EntsIn w' w'.heap.size (.slice Ae (ndAt t.nodes (place t.nodes a)).es.length ce) (ndAt t.nodes (place t.nodes a)).es ∧ Below W.heap.size W w' := by
        intro a ha W hW
        have hg : getO t.nodes a = some (ndAt t.nodes (place t.nodes a)) := by unfold getO; rw [if_pos ha]
        have := hget a W hW
        rw [hg] at this
        refine this.mono ?_
        rintro e w' ⟨ev, rfl, hE, hb'⟩
        obtain ⟨Ae, ce, rfl, _⟩ := ents_len hE
        exact ⟨Ae, ce, rfl, hE, hb'⟩
      have hqn : (which : Int) % (t.nodes.length : Int) = (r : Int) := by rw [← hr]; omega
      have hpsz : (nm (pathOf ns)).size = (pathOf ns).length := nm_size _
      have hpz : (pathOf ns).length ≤ 33281 := hpl
      have HSM := Lib.hid hsm; have HRC := Lib.hid hrc; have HPA := Lib.hid hpa; have HLI := Lib.hid hli; have HGET := Lib.hid hget2; have HSORT := Lib.hid hsort; have HNAMES := Lib.hid hnames2; have HGO := Lib.hid hgo; have HQ := Lib.hid hqn; have HPSZ := Lib.hid hpsz; have HV := Lib.hid hv; have HV2 := Lib.hid hv2
      clear hsm hrc hpa hli hget hget2 hsort hnames2 hgo hqn hpsz hv hv2 hN hN0 hs hb hck hri hwl hents hmet hat hid hpi hpp hnames hlk hidb hns hpI hbd hnodes hr
      unfold ndV at HGET
      generalize (ndAt t.nodes r).id = id at *
      generalize links t.nodes id = lk at *
      unfold trV at *
      generalize hnl : t.nodes.length = n at *
      have HNL := Lib.hid hnl
      clear hnl
      generalize t.last = la at *
      generalize t.rn = tn at *
      generalize t.rb = tb at *
      have H0 := Lib.hid (hc1 #[.slice (some ⟨b, off, none⟩) n c, .int .i64 la, .int .i64 tn, .int .i64 tb])
      clear hc1
      go_enter Tryd.func8, Tryd.ntmps8
      go_wp2_with (go_at_call 9; refine (HSM.out _ H0.out.2).mono ?_; rintro e w1 ⟨rfl, hb1⟩; have H1 := Lib.hid (H0.out.next hb1); obtain ⟨d0, d1, d2, d3⟩ := H1.out.cells; clear hb1)
      go_wp2_with fail
      refine (HRC.out _ H1.out.2).mono ?_
      rintro e w2 ⟨rfl, hb2⟩
      have H2 := Lib.hid (H1.out.next hb2)
      obtain ⟨e0, e1, e2, e3⟩ := H2.out.cells
      have hcw := (H2.out.2.cell (p := ⟨b, off + r * 7, none⟩) hbB).trans hcell
      have hrl2 : (r : Int) < (n : Int) := by omega
      have hwi : (0 : Int) ≤ (which : Int) := by omega
      clear hb2
      go_wp2_with fail
      have hq := HQ.out
      go_quiet (fail)
      clear hq
      have H3 := Lib.hid (H2.out.next (below_drewN' (Below.refl _ _) nq))
      generalize w2.drewN nq = w3 at *
      obtain ⟨i0, i1, i2, i3⟩ := H3.out.cells
      clear d0 d1 d2 d3 e0 e1 e2 e3 hcw
      go_wp2_with fail
      refine (HPA.out _ H3.out.2).mono ?_
      rintro e w4 ⟨rfl, hb4⟩
      have H4 := Lib.hid (H3.out.next hb4)
      obtain ⟨j0, j1, j2, j3⟩ := H4.out.cells
      clear hb4
      have hps := HPSZ.out
      generalize hP : nm (pathOf ns) = P at *
      have HP := Lib.hid hP
      clear hP hps
      go_wp2_with fail
      refine (HLI.out _ H4.out.2).mono ?_
      rintro e w5 ⟨rfl, hb5⟩
      have H5 := Lib.hid (H4.out.next hb5)
      clear hb5
      have v1 : decide (0 < lk) = v := HV.out
      have v2 : decide ((0 : Int) < (lk : Int)) = v := by rw [← HV.out]; simp
      have v3 := HV2.out
      go_wp2_with fail
      clear v1 v2 v3 j0 j1 j2 j3 i0 i1 i2 i3
      have HC := Lib.hid H5.out
      clear H0 H1 H2 H3 H4 H5 HPA HLI HRC HSM HV HV2
      go_loopg [8, 9] ns.length (fun g s8 s9 wr => ∃ (done rest : List Bs) (a : Int) (fr : Nat), Hid (ns = done ++ rest ∧ fr = (flatS done).length + 1 ∧ goTo t.nodes a rest = some id) ∧ g = rest.length ∧ s8 = .int .i64 a ∧ s9 = .int .i64 (fr : Int) ∧ C1 w #[.slice (some ⟨b, off, none⟩) n c, .int .i64 la, .int .i64 tn, .int .i64 tb] wr)
      case atStart => exact ⟨[], ns, 1, 1, Lib.hid ⟨rfl, rfl, HGO.out⟩, rfl, rfl, rfl, HC.out⟩
      case round =>
        obtain ⟨done, rest, a, fr, HR, rfl, rfl, rfl, hc⟩ := hrel
        have HCR := Lib.hid hc
        clear hc
        cases rest with
        | nil =>
          have hge : P.size ≤ fr := by
            rw [HPSZ.out, HR.out.2.1, HR.out.1, List.append_nil]
            by_cases hd : done = []
            · subst hd; simp [pathOf, flatS]
            · exact Nat.le_of_lt (pathOf_len_end hd)
          have hai : (a == id) = true := by
            have := HR.out.2.2
            simp [goTo] at this
            simpa using this
          have hgi : ¬ (fr : Int) < (P.size : Int) := by omega
          go_wp2_with (go_at_call 10; refine (awake_any _).mono ?_; rintro e w8 ⟨rfl, hb8⟩; have H8 := Lib.hid (HCR.out.next hb8); clear hb8)
          go_ret
          exact ⟨rfl, H8.out.2⟩
        | cons m rest =>
          obtain ⟨a2, hpa, hch, hgo2⟩ := goTo_cons HR.out.2.2
          rw [HNL.out] at hpa
          have hcut : pathOf ns = (flatS done ++ [47]) ++ m ++ flatS rest := by rw [HR.out.1]; exact pathOf_cut _ _ _
          have hX : (flatS done ++ [47]).length = fr := by rw [HR.out.2.1]; simp
          obtain ⟨hm1, hm2⟩ := HNAMES.out m (by rw [HR.out.1]; simp)
          have hml : 0 < m.length := List.length_pos_iff.2 hm1
          have hlen := cut_len hcut
          rw [hX] at hlen
          have hPL : P.data.toList = pathOf ns := by rw [← HP.out]; exact nm_data _
          have hat : ∀ (k : Nat) (h : k < P.size), P[k] = (pathOf ns)[k]'(by rw [← HPSZ.out]; exact h) := fun k h => by
            have h1 := HP.out
            subst h1
            rfl
          have hin : ∀ (k : Nat) (h : k < P.size), fr ≤ k → k < fr + m.length → P[k] ≠ 47 := fun k h h1 h2 => by
            rw [hat k h]
            exact cut_in hcut hm2 (by rw [hX]; exact h1) (by rw [hX]; exact h2) _
          have hend : fr + m.length = P.size ∨ ∃ h : fr + m.length < P.size, P[fr + m.length] = 47 := by
            rcases flatS_head rest with ⟨_, h2⟩ | ⟨Y, _, h2⟩
            · left; rw [HPSZ.out, hlen, h2]; simp
            · right
              have h3 : fr + m.length < P.size := by rw [HPSZ.out, hlen, h2]; simp
              refine ⟨h3, ?_⟩
              rw [hat _ h3]
              have h4 := cut_at (L := pathOf ns) (X := flatS done ++ [47]) (n := m) (Y := Y) (by rw [hcut, h2]) (by rw [hX, ← HPSZ.out]; exact h3)
              simpa [hX] using h4
          have hext : P.extract fr (fr + m.length) = nm m := by
            rw [ext_mid, hPL]
            have := cut_text hcut
            rw [hX] at this
            rw [this]
          have hfrl : fr + m.length ≤ P.size := by rw [HPSZ.out, hlen]; omega
          have hPb : P.size ≤ 33281 := by rw [HPSZ.out]; exact hpl
          have HIN := Lib.hid hin; have HEND := Lib.hid hend; have HEXT := Lib.hid hext
          have hwg := HGET.out a hpa
          have hsrt := HSORT.out a hpa
          have HGA := Lib.hid hwg; have HSRT := Lib.hid hsrt; have HCH := Lib.hid hch; have HGO2 := Lib.hid hgo2
          clear hin hend hext hat hcut hX hlen hPL hwg hsrt hch hgo2 hm1 hm2 hpa
          generalize ndAt t.nodes (place t.nodes a) = nd at *
          have hfi : (fr : Int) < (P.size : Int) := by omega
          obtain ⟨y0, y1, y2, y3⟩ := HCR.out.cells
          go_wp2_with fail
          go_loop [10] (fun s10 => ∃ k : Nat, s10 = .int .i64 (k : Int) ∧ fr ≤ k ∧ k ≤ fr + m.length) (fun s10 => fr + m.length - (intOf s10).toNat)
          case atStart => exact ⟨fr, rfl, Nat.le_refl _, by omega⟩
          case round =>
            obtain ⟨k, rfl, hk1, hk2⟩ := hrel
            by_cases hkm : k < fr + m.length
            · have hks : k < P.size := by omega
              have hki : (k : Int) < (P.size : Int) := by omega
              have q5 : (((P[k]).toNat : Int) != 47) = true := by
                have h1 := HIN.out k hks hk1 hkm
                rw [bne_iff_ne]
                intro h2
                exact h1 (UInt8.toNat_inj.1 (by simpa using (show (P[k]).toNat = 47 by omega)))
              go_wp2
              go_round
              case rel => exact ⟨k + 1, by go_num, by omega, by omega⟩
              case measure => simp [intOf]; omega
            · have hke : k = fr + m.length := by omega
              have HK := Lib.hid hke
              have hky : P.extract fr k = nm m := by rw [hke]; exact HEXT.out
              have HKY := Lib.hid hky
              have hkp : k ≤ P.size := by omega
              have hkb : (k : Int) ≤ 33281 := by omega
              have hif : (fr : Int) ≤ (k : Int) := by omega
              rcases HEND.out with he | ⟨h3, he⟩
              · have hki : ¬ (k : Int) < (P.size : Int) := by omega
                clear hke hky hkm
                go_wp2_with fail
                refine (HGA.out _ HCR.out.2).mono ?_
                rintro e w8 ⟨Ae, ce, rfl, hE, hb8⟩
                have h8 := (HCR.out.next hb8).next (below_alloc w8 (.cells #[.int .i64 nd.id, .int .i64 nd.kind, .int .i64 nd.mode, .int .i64 nd.owner, .int .i64 nd.time, .string (nm nd.data), .slice Ae nd.es.length ce] 37))
                have hE8 := hE.below (below_alloc w8 (.cells #[.int .i64 nd.id, .int .i64 nd.kind, .int .i64 nd.mode, .int .i64 nd.owner, .int .i64 nd.time, .string (nm nd.data), .slice Ae nd.es.length ce] 37))
                have hbx := heap_alloc_new w8 (.cells #[.int .i64 nd.id, .int .i64 nd.kind, .int .i64 nd.mode, .int .i64 nd.owner, .int .i64 nd.time, .string (nm nd.data), .slice Ae nd.es.length ce] 37)
                have H8 := Lib.hid h8; have HE8 := Lib.hid hE8; have HBX := Lib.hid hbx
                clear h8 hE8 hbx hE hb8 y0 y1 y2 y3
                go_wp2_with fail
                generalize w8.alloc (.cells #[.int .i64 nd.id, .int .i64 nd.kind, .int .i64 nd.mode, .int .i64 nd.owner, .int .i64 nd.time, .string (nm nd.data), .slice Ae nd.es.length ce] 37) = W8 at *
                have hl8 : w8.heap.size < W8.heap.size := fin_at HBX.out
                have HCC : Hid (∀ W, Below W8.heap.size W8 W → Calls Tryd.prog 18 #[ndV (.slice Ae nd.es.length ce) nd, .string (P.extract fr k)] W fun e w' => e = .returned (.tuple #[.int .i64 a2, .bool true]) ∧ Below W.heap.size W w') := Lib.hid (fun W hW => by
                  have h1 := child_any (.slice Ae nd.es.length ce) nd (P.extract fr k) w8.heap.size W (HE8.out.below (hW.mono (Nat.le_of_lt hl8))) (Nat.le_trans (Nat.le_of_lt hl8) hW.size) HSRT.out
                  unfold ChildPost at h1
                  rw [HKY.out, nm_data, HCH.out] at h1
                  rw [HKY.out]
                  exact h1)
                unfold ndV at HCC
                have z0 := cell_blk HBX.out 0
                have z1 := cell_blk HBX.out 1
                have z2 := cell_blk HBX.out 2
                have z3 := cell_blk HBX.out 3
                have z4 := cell_blk HBX.out 4
                have z5 := cell_blk HBX.out 5
                have z6 := cell_blk HBX.out 6
                simp at z0 z1 z2 z3 z4 z5 z6
                refine wp_region_quiet_below (by kernel_rfl) (by kernel_rfl) ?_
                repeat (first | go_big_quiet_step (((go_at_call 18; exact Calls.regrown_of (HCC.out _ (below_regrown _ _ _))))) | quiet_step (((go_at_call 18; exact Calls.regrown_of (HCC.out _ (below_regrown _ _ _))))))
                refine wpQuiet_nil ?_
                intro _ hw'
                obtain ⟨⟨dq8, osq8⟩, hw''⟩ := hw'
                subst hw''
                have H9 := Lib.hid (H8.out.next (below_regrown W8 dq8 osq8))
                generalize grow (redrawn W8 dq8) osq8 = W9 at *
                clear z0 z1 z2 z3 z4 z5 z6
                go_wp2
                go_roundg rest.length
                case measure => simp
                case rel => exact ⟨done ++ [m], rest, a2, k + 1, Lib.hid ⟨by rw [HR.out.1]; simp, by rw [flatS_next, HK.out, HR.out.2.1], HGO2.out⟩, rfl, rfl, by go_num, H9.out⟩
              · have hks : k < P.size := by omega
                have hki : (k : Int) < (P.size : Int) := by omega
                have q5 : (((P[k]).toNat : Int) != 47) = false := by
                  subst hke
                  rw [he]; rfl
                clear hke hky hkm he
                go_wp2_with fail
                refine (HGA.out _ HCR.out.2).mono ?_
                rintro e w8 ⟨Ae, ce, rfl, hE, hb8⟩
                have h8 := (HCR.out.next hb8).next (below_alloc w8 (.cells #[.int .i64 nd.id, .int .i64 nd.kind, .int .i64 nd.mode, .int .i64 nd.owner, .int .i64 nd.time, .string (nm nd.data), .slice Ae nd.es.length ce] 37))
                have hE8 := hE.below (below_alloc w8 (.cells #[.int .i64 nd.id, .int .i64 nd.kind, .int .i64 nd.mode, .int .i64 nd.owner, .int .i64 nd.time, .string (nm nd.data), .slice Ae nd.es.length ce] 37))
                have hbx := heap_alloc_new w8 (.cells #[.int .i64 nd.id, .int .i64 nd.kind, .int .i64 nd.mode, .int .i64 nd.owner, .int .i64 nd.time, .string (nm nd.data), .slice Ae nd.es.length ce] 37)
                have H8 := Lib.hid h8; have HE8 := Lib.hid hE8; have HBX := Lib.hid hbx
                clear h8 hE8 hbx hE hb8 y0 y1 y2 y3
                go_wp2_with fail
                generalize w8.alloc (.cells #[.int .i64 nd.id, .int .i64 nd.kind, .int .i64 nd.mode, .int .i64 nd.owner, .int .i64 nd.time, .string (nm nd.data), .slice Ae nd.es.length ce] 37) = W8 at *
                have hl8 : w8.heap.size < W8.heap.size := fin_at HBX.out
                have HCC : Hid (∀ W, Below W8.heap.size W8 W → Calls Tryd.prog 18 #[ndV (.slice Ae nd.es.length ce) nd, .string (P.extract fr k)] W fun e w' => e = .returned (.tuple #[.int .i64 a2, .bool true]) ∧ Below W.heap.size W w') := Lib.hid (fun W hW => by
                  have h1 := child_any (.slice Ae nd.es.length ce) nd (P.extract fr k) w8.heap.size W (HE8.out.below (hW.mono (Nat.le_of_lt hl8))) (Nat.le_trans (Nat.le_of_lt hl8) hW.size) HSRT.out
                  unfold ChildPost at h1
                  rw [HKY.out, nm_data, HCH.out] at h1
                  rw [HKY.out]
                  exact h1)
                unfold ndV at HCC
                have z0 := cell_blk HBX.out 0
                have z1 := cell_blk HBX.out 1
                have z2 := cell_blk HBX.out 2
                have z3 := cell_blk HBX.out 3
                have z4 := cell_blk HBX.out 4
                have z5 := cell_blk HBX.out 5
                have z6 := cell_blk HBX.out 6
                simp at z0 z1 z2 z3 z4 z5 z6
                refine wp_region_quiet_below (by kernel_rfl) (by kernel_rfl) ?_
                repeat (first | go_big_quiet_step (((go_at_call 18; exact Calls.regrown_of (HCC.out _ (below_regrown _ _ _))))) | quiet_step (((go_at_call 18; exact Calls.regrown_of (HCC.out _ (below_regrown _ _ _))))))
                refine wpQuiet_nil ?_
                intro _ hw'
                obtain ⟨⟨dq8, osq8⟩, hw''⟩ := hw'
                subst hw''
                have H9 := Lib.hid (H8.out.next (below_regrown W8 dq8 osq8))
                generalize grow (redrawn W8 dq8) osq8 = W9 at *
                clear z0 z1 z2 z3 z4 z5 z6
                go_wp2
                go_roundg rest.length
                case measure => simp
                case rel => exact ⟨done ++ [m], rest, a2, k + 1, Lib.hid ⟨by rw [HR.out.1]; simp, by rw [flatS_next, HK.out, HR.out.2.1], HGO2.out⟩, rfl, rfl, by go_num, H9.out⟩

theorem ways_row (nv : Value) (t : Tr) (a : Int) (w : World) (hN : NodesIn w w.heap.size nv t.nodes) (h0 : 0 ≤ a) (h1 : a ≤ 18446744073709551615) :
    Calls Tryd.prog 8 #[trV nv t, .int .u64 a] w fun e w' => e = .returned (.bool true) ∧ Below w.heap.size w w' := by
  obtain ⟨an, rfl⟩ : ∃ an : Nat, a = an := ⟨a.toNat, by omega⟩
  exact ways_law nv t an _ w hN (Nat.le_refl _) (by omega)

end Go.Proofs.YtgcoioejcnileaaDoor
