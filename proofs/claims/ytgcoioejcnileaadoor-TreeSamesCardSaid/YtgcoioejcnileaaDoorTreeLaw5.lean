/- DERIVED. The walk of the law TreeSames. -/
import Derived.Test.YtgcoioejcnileaaDoorTreeSame2
import Derived.Lib.QuietBelow
namespace Go.Proofs.YtgcoioejcnileaaDoor
open Go.RowKit Go.Sort
open PathM TreeM
set_option linter.unusedVariables false
attribute [local go_sem] cell_rg

theorem sameB_self (a : Tr) : sameB a a = checkB a := by unfold sameB; cases checkB a <;> simp
set_option maxRecDepth 100000 in
set_option maxHeartbeats 16000000 in
theorem sames_law (nv mv v : Value) (a b : Tr) (es : List Ent) (B : Nat) (w : World) (hN : NodesIn w B nv a.nodes) (hM : NodesIn w B mv b.nodes) (hE : EntsIn w B v es) (hB : B ≤ w.heap.size) :
    Calls Tryd.prog 6 #[trV nv a, trV mv b, v] w fun e w' => e = .returned (.bool true) ∧ Below w.heap.size w w' := by
  have hN0 := hN.more hB
  have hM0 := hM.more hB
  have hE0 := hE.more hB
  have hsa := fun W (hW : Below w.heap.size w W) => small_any nv a w.heap.size W (hN0.below hW) hW.size
  have hsb := fun W (hW : Below w.heap.size w W) => small_any mv b w.heap.size W (hM0.below hW) hW.size
  obtain ⟨A, c, rfl⟩ := nodes_len hN
  obtain ⟨A', c', rfl⟩ := nodes_len hM
  obtain ⟨Ae, ce, rfl, hel⟩ := ents_len hE
  unfold BelowB at hsa hsb
  cases hs1 : smallB a with
  | false =>
    rw [hs1] at hsa
    have HSA := Lib.hid hsa
    clear hsa hsb hN hM hE hN0 hM0 hE0 hs1
    unfold trV at *
    generalize a.nodes.length = n at *
    generalize a.last = la at *
    generalize a.rn = rn at *
    generalize a.rb = rb at *
    generalize b.nodes.length = n' at *
    generalize b.last = la' at *
    generalize b.rn = rn' at *
    generalize b.rb = rb' at *
    generalize es.length = m at *
    have H0 := Lib.hid (C2.made w #[.slice A n c, .int .i64 la, .int .i64 rn, .int .i64 rb] #[.slice A' n' c', .int .i64 la', .int .i64 rn', .int .i64 rb'])
    go_enter Tryd.func6, Tryd.ntmps6
    go_wp2_with ((go_at_call 9; (with_reducible refine (HSA.out _ H0.out.bel).mono ?_); rintro e w1 ⟨rfl, hb1⟩; have H1 := Lib.hid (H0.out.next hb1); obtain ⟨d0, d1, d2, d3⟩ := four_cells H1.out.2.1; clear hb1))
    go_wp2_with (go_at_call 10; refine (awake_any _).mono ?_; rintro e w2 ⟨rfl, hb2⟩; have H2 := Lib.hid (H1.out.next hb2); clear hb2)
    go_ret
    exact ⟨rfl, H2.out.bel⟩
  | true =>
    cases hs2 : smallB b with
    | false =>
      rw [hs1] at hsa
      rw [hs2] at hsb
      have HSA := Lib.hid hsa; have HSB := Lib.hid hsb
      clear hsa hsb hN hM hE hN0 hM0 hE0 hs1 hs2
      unfold trV at *
      generalize a.nodes.length = n at *
      generalize a.last = la at *
      generalize a.rn = rn at *
      generalize a.rb = rb at *
      generalize b.nodes.length = n' at *
      generalize b.last = la' at *
      generalize b.rn = rn' at *
      generalize b.rb = rb' at *
      generalize es.length = m at *
      have H0 := Lib.hid (C2.made w #[.slice A n c, .int .i64 la, .int .i64 rn, .int .i64 rb] #[.slice A' n' c', .int .i64 la', .int .i64 rn', .int .i64 rb'])
      go_enter Tryd.func6, Tryd.ntmps6
      go_wp2_with (first | (go_at_call 9; (with_reducible refine (HSA.out _ H0.out.bel).mono ?_); rintro e w1 ⟨rfl, hb1⟩; have H1 := Lib.hid (H0.out.next hb1); obtain ⟨d0, d1, d2, d3⟩ := four_cells H1.out.2.1; clear hb1) | (go_at_call 9; (with_reducible refine (HSB.out _ H1.out.bel).mono ?_); rintro e w2 ⟨rfl, hb2⟩; have H2 := Lib.hid (H1.out.next hb2); clear hb2))
      go_wp2_with (go_at_call 10; refine (awake_any _).mono ?_; rintro e w3 ⟨rfl, hb3⟩; have H3 := Lib.hid (H2.out.next hb3); clear hb3)
      go_ret
      exact ⟨rfl, H3.out.bel⟩
    | true =>
      rw [hs1] at hsa
      rw [hs2] at hsb
      by_cases hlen : 200 < es.length
      · have HSA := Lib.hid hsa; have HSB := Lib.hid hsb
        clear hsa hsb hN hM hE hN0 hM0 hE0 hs1 hs2
        unfold trV at *
        have hli : (200 : Int) < (es.length : Int) := by omega
        generalize a.nodes.length = n at *
        generalize a.last = la at *
        generalize a.rn = rn at *
        generalize a.rb = rb at *
        generalize b.nodes.length = n' at *
        generalize b.last = la' at *
        generalize b.rn = rn' at *
        generalize b.rb = rb' at *
        generalize es.length = m at *
        have H0 := Lib.hid (C2.made w #[.slice A n c, .int .i64 la, .int .i64 rn, .int .i64 rb] #[.slice A' n' c', .int .i64 la', .int .i64 rn', .int .i64 rb'])
        go_enter Tryd.func6, Tryd.ntmps6
        go_wp2_with (first | (go_at_call 9; (with_reducible refine (HSA.out _ H0.out.bel).mono ?_); rintro e w1 ⟨rfl, hb1⟩; have H1 := Lib.hid (H0.out.next hb1); obtain ⟨d0, d1, d2, d3⟩ := four_cells H1.out.2.1; clear hb1) | (go_at_call 9; (with_reducible refine (HSB.out _ H1.out.bel).mono ?_); rintro e w2 ⟨rfl, hb2⟩; have H2 := Lib.hid (H1.out.next hb2); clear hb2))
        go_wp2_with (go_at_call 10; refine (awake_any _).mono ?_; rintro e w3 ⟨rfl, hb3⟩; have H3 := Lib.hid (H2.out.next hb3); clear hb3)
        go_ret
        exact ⟨rfl, H3.out.bel⟩
      · have hli : (es.length : Int) ≤ 200 := by omega
        have hab := fun W (hW : Below w.heap.size w W) => same_any _ _ a b w.heap.size W (hN0.below hW) (hM0.below hW) hW.size
        have haa := fun W (hW : Below w.heap.size w W) => same_any _ _ a a w.heap.size W (hN0.below hW) (hN0.below hW) hW.size
        have hrab := fun W (hW : Below w.heap.size w W) => rsame_any _ _ a b w.heap.size W (hN0.below hW) (hM0.below hW) hW.size
        have hrc := fun W (hW : Below w.heap.size w W) => rcheck_any _ a w.heap.size W (hN0.below hW) hW.size
        have hen := fun W (hW : Below w.heap.size w W) => ents_any _ es w.heap.size W (hE0.below hW) hW.size
        have hren := fun W (hW : Below w.heap.size w W) => rents_any _ es w.heap.size W (hE0.below hW) hW.size
        unfold BelowB at hab haa hrab
        rw [sameB_self] at haa
        generalize sameB a b = rab at *
        generalize entsB es = ren at *
        have hck : (checkB a = true ∧ checkI a = 0) ∨ (checkB a = false ∧ checkI a = 80) := by unfold checkI; cases checkB a <;> simp
        have hca := hN0.cases
        have hcb := hM0.cases
        have hsn := fun ev eu W B' h1 h2 h3 => sameNode_any ev eu (ndAt a.nodes 0) (ndAt b.nodes 0) B' W h1 h2 h3
        have hrsn := fun ev eu W B' h1 h2 h3 => rsameNode_any ev eu (ndAt a.nodes 0) (ndAt b.nodes 0) B' W h1 h2 h3
        unfold BelowB at hsn hrsn
        have hz1 : a.nodes = [] → a.nodes.length = 0 := fun h => by rw [h]; rfl
        have hz2 : b.nodes = [] → b.nodes.length = 0 := fun h => by rw [h]; rfl
        have HSA := Lib.hid hsa; have HSB := Lib.hid hsb; have HAB := Lib.hid hab; have HRAB := Lib.hid hrab; have HEN := Lib.hid hen; have HREN := Lib.hid hren; have HCA := Lib.hid hca; have HCB := Lib.hid hcb; have HZ1 := Lib.hid hz1; have HZ2 := Lib.hid hz2
        clear hsa hsb hN hM hE hN0 hM0 hE0 hs1 hs2 hab hrab hen hren hca hcb hlen hel hz1 hz2
        rcases hck with ⟨hk, hi⟩ | ⟨hk, hi⟩
        · rw [hk] at haa
          rw [hi] at hrc
          have HAA := Lib.hid haa; have HRC := Lib.hid hrc
          clear haa hrc hk hi
          unfold trV at *
          generalize a.nodes.length = n at *
          generalize a.last = la at *
          generalize a.rn = rn at *
          generalize a.rb = rb at *
          generalize b.nodes.length = n' at *
          generalize b.last = la' at *
          generalize b.rn = rn' at *
          generalize b.rb = rb' at *
          generalize es.length = m at *
          have H0 := Lib.hid (C2.made w #[.slice A n c, .int .i64 la, .int .i64 rn, .int .i64 rb] #[.slice A' n' c', .int .i64 la', .int .i64 rn', .int .i64 rb'])
          rcases HCA.out.2 with ⟨_, _, _, h0⟩ | ⟨b1, o1, cc1, e1, _, hb1, hpos1, hcells1⟩
          · obtain rfl : n = 0 := HZ1.out h0
            clear h0 HCA HCB HZ1 HZ2 hsn hrsn
            go_enter Tryd.func6, Tryd.ntmps6
            go_wp2_with (first | (go_at_call 9; (with_reducible refine (HSA.out _ H0.out.bel).mono ?_); rintro e w1 ⟨rfl, hb1⟩; have H1 := Lib.hid (H0.out.next hb1); obtain ⟨d0, d1, d2, d3⟩ := four_cells H1.out.2.1; clear hb1) | (go_at_call 9; (with_reducible refine (HSB.out _ H1.out.bel).mono ?_); rintro e w2 ⟨rfl, hb2⟩; have H2 := Lib.hid (H1.out.next hb2); clear hb2))
            obtain ⟨p0, p1, p2, p3⟩ := four_cells H2.out.1
            obtain ⟨y0, y1, y2, y3⟩ := four_cells H2.out.2.1
            go_quiet (fail)
            have HT := Lib.hid (H2.out.next (below_drewN' (Below.refl _ _) nq))
            generalize w2.drewN nq = W0 at *
            clear d0 d1 d2 d3 p0 p1 p2 p3 y0 y1 y2 y3
            go_wp2_with fail
            obtain ⟨s0, s1, s2, s3⟩ := four_cells HT.out.1
            obtain ⟨r0, r1, r2, r3⟩ := four_cells HT.out.2.1
            have hl1 : w.heap.size < W0.heap.size := fin_at HT.out.1
            have hl2 : w.heap.size + 1 < W0.heap.size := fin_at HT.out.2.1
            refine wp_region_quiet_below (by kernel_rfl) (by kernel_rfl) ?_
            repeat (first | go_big_quiet_step ((first | (go_at_call 30; first | (with_reducible exact Calls.regrown_of (HAB.out _ (HT.out.next (below_regrown _ _ _)).bel)) | (with_reducible exact Calls.regrown_of (HAA.out _ (HT.out.next (below_regrown _ _ _)).bel))) | (go_at_call 31; exact Calls.regrown_of (HRAB.out _ (HT.out.next (below_regrown _ _ _)).bel)) | (go_at_call 12; exact Calls.regrown_of (HRC.out _ (HT.out.next (below_regrown _ _ _)).bel)) | (go_at_call 32; exact Calls.regrown_of (HEN.out _ (HT.out.next (below_regrown _ _ _)).bel)) | (go_at_call 33; exact Calls.regrown_of (HREN.out _ (HT.out.next (below_regrown _ _ _)).bel)) | (go_at_call 10; exact Calls.regrown_of (awake_any _)))) | quiet_step ((first | (go_at_call 30; first | (with_reducible exact Calls.regrown_of (HAB.out _ (HT.out.next (below_regrown _ _ _)).bel)) | (with_reducible exact Calls.regrown_of (HAA.out _ (HT.out.next (below_regrown _ _ _)).bel))) | (go_at_call 31; exact Calls.regrown_of (HRAB.out _ (HT.out.next (below_regrown _ _ _)).bel)) | (go_at_call 12; exact Calls.regrown_of (HRC.out _ (HT.out.next (below_regrown _ _ _)).bel)) | (go_at_call 32; exact Calls.regrown_of (HEN.out _ (HT.out.next (below_regrown _ _ _)).bel)) | (go_at_call 33; exact Calls.regrown_of (HREN.out _ (HT.out.next (below_regrown _ _ _)).bel)) | (go_at_call 10; exact Calls.regrown_of (awake_any _)))))
            refine wpQuiet_nil ?_
            intro _ hw'
            obtain ⟨⟨dq5, osq5⟩, hw''⟩ := hw'
            subst hw''
            go_wp2
            go_ret
            exact ⟨rfl, (HT.out.next (below_regrown _ _ _)).bel⟩
          · cases e1
            rcases HCB.out.2 with ⟨_, _, _, h0⟩ | ⟨b2, o2, cc2, e2, _, hb2, hpos2, hcells2⟩
            · obtain rfl : n' = 0 := HZ2.out h0
              clear h0 HCA HCB HZ1 HZ2 hsn hrsn hcells1
              have hpi : (0 : Int) < (n : Int) := by omega
              go_enter Tryd.func6, Tryd.ntmps6
              go_wp2_with (first | (go_at_call 9; (with_reducible refine (HSA.out _ H0.out.bel).mono ?_); rintro e w1 ⟨rfl, hb1⟩; have H1 := Lib.hid (H0.out.next hb1); obtain ⟨d0, d1, d2, d3⟩ := four_cells H1.out.2.1; clear hb1) | (go_at_call 9; (with_reducible refine (HSB.out _ H1.out.bel).mono ?_); rintro e w2 ⟨rfl, hb2⟩; have H2 := Lib.hid (H1.out.next hb2); clear hb2))
              obtain ⟨p0, p1, p2, p3⟩ := four_cells H2.out.1
              obtain ⟨y0, y1, y2, y3⟩ := four_cells H2.out.2.1
              go_quiet (fail)
              have HT := Lib.hid (H2.out.next (below_drewN' (Below.refl _ _) nq))
              generalize w2.drewN nq = W0 at *
              clear d0 d1 d2 d3 p0 p1 p2 p3 y0 y1 y2 y3
              go_wp2_with fail
              obtain ⟨s0, s1, s2, s3⟩ := four_cells HT.out.1
              obtain ⟨r0, r1, r2, r3⟩ := four_cells HT.out.2.1
              have hl1 : w.heap.size < W0.heap.size := fin_at HT.out.1
              have hl2 : w.heap.size + 1 < W0.heap.size := fin_at HT.out.2.1
              refine wp_region_quiet_below (by kernel_rfl) (by kernel_rfl) ?_
              repeat (first | go_big_quiet_step ((first | (go_at_call 30; first | (with_reducible exact Calls.regrown_of (HAB.out _ (HT.out.next (below_regrown _ _ _)).bel)) | (with_reducible exact Calls.regrown_of (HAA.out _ (HT.out.next (below_regrown _ _ _)).bel))) | (go_at_call 31; exact Calls.regrown_of (HRAB.out _ (HT.out.next (below_regrown _ _ _)).bel)) | (go_at_call 12; exact Calls.regrown_of (HRC.out _ (HT.out.next (below_regrown _ _ _)).bel)) | (go_at_call 32; exact Calls.regrown_of (HEN.out _ (HT.out.next (below_regrown _ _ _)).bel)) | (go_at_call 33; exact Calls.regrown_of (HREN.out _ (HT.out.next (below_regrown _ _ _)).bel)) | (go_at_call 10; exact Calls.regrown_of (awake_any _)))) | quiet_step ((first | (go_at_call 30; first | (with_reducible exact Calls.regrown_of (HAB.out _ (HT.out.next (below_regrown _ _ _)).bel)) | (with_reducible exact Calls.regrown_of (HAA.out _ (HT.out.next (below_regrown _ _ _)).bel))) | (go_at_call 31; exact Calls.regrown_of (HRAB.out _ (HT.out.next (below_regrown _ _ _)).bel)) | (go_at_call 12; exact Calls.regrown_of (HRC.out _ (HT.out.next (below_regrown _ _ _)).bel)) | (go_at_call 32; exact Calls.regrown_of (HEN.out _ (HT.out.next (below_regrown _ _ _)).bel)) | (go_at_call 33; exact Calls.regrown_of (HREN.out _ (HT.out.next (below_regrown _ _ _)).bel)) | (go_at_call 10; exact Calls.regrown_of (awake_any _)))))
              refine wpQuiet_nil ?_
              intro _ hw'
              obtain ⟨⟨dq5, osq5⟩, hw''⟩ := hw'
              subst hw''
              go_wp2
              go_ret
              exact ⟨rfl, (HT.out.next (below_regrown _ _ _)).bel⟩
            · cases e2
              have hx := hcells1 0 hpos1
              have hy := hcells2 0 hpos2
              rw [Nat.zero_mul, Nat.add_zero] at hx hy
              have HX := Lib.hid hx; have HY := Lib.hid hy; have HSN0 := Lib.hid hsn; have HRSN0 := Lib.hid hrsn
              clear hx hy hsn hrsn hcells1 hcells2 HCA HCB HZ1 HZ2
              go_enter Tryd.func6, Tryd.ntmps6
              go_wp2_with (first | (go_at_call 9; (with_reducible refine (HSA.out _ H0.out.bel).mono ?_); rintro e w1 ⟨rfl, hb1⟩; have H1 := Lib.hid (H0.out.next hb1); obtain ⟨d0, d1, d2, d3⟩ := four_cells H1.out.2.1; clear hb1) | (go_at_call 9; (with_reducible refine (HSB.out _ H1.out.bel).mono ?_); rintro e w2 ⟨rfl, hb2⟩; have H2 := Lib.hid (H1.out.next hb2); clear hb2))
              obtain ⟨p0, p1, p2, p3⟩ := four_cells H2.out.1
              obtain ⟨y0, y1, y2, y3⟩ := four_cells H2.out.2.1
              obtain ⟨x0, x1, x2, x3, x4, x5, _, ev1, x6, hE1⟩ := HX.out.below hb1 H2.out.bel
              obtain ⟨v0, v1, v2, v3, v4, v5, _, ev2, v6, hE2⟩ := HY.out.below hb2 H2.out.bel
              have hw2 := H2.out.bel.size
              have HS1 := Lib.hid (fun W (hW : Below w2.heap.size w2 W) => HSN0.out ev1 ev2 W w.heap.size (hE1.below (hW.mono hw2)) (hE2.below (hW.mono hw2)) (Nat.le_trans hw2 hW.size))
              have HS2 := Lib.hid (fun W (hW : Below w2.heap.size w2 W) => HRSN0.out ev1 ev2 W w.heap.size (hE1.below (hW.mono hw2)) (hE2.below (hW.mono hw2)) (Nat.le_trans hw2 hW.size))
              obtain ⟨Ae1, ce1, rfl, _⟩ := ents_len hE1
              obtain ⟨Ae2, ce2, rfl, _⟩ := ents_len hE2
              unfold ndV at HS1 HS2
              clear hE1 hE2 HX HY HSN0 HRSN0
              generalize decide (ndAt a.nodes 0 = ndAt b.nodes 0) = r0 at *
              generalize ndAt a.nodes 0 = x at *
              generalize ndAt b.nodes 0 = y at *
              have hb1w : b1 < w2.heap.size := by omega
              have hb2w : b2 < w2.heap.size := by omega
              have hl1 : w.heap.size < w2.heap.size := fin_at H2.out.1
              have hl2 : w.heap.size + 1 < w2.heap.size := fin_at H2.out.2.1
              have hpi1 : (0 : Int) < (n : Int) := by omega
              have hpi2 : (0 : Int) < (n' : Int) := by omega
              refine wp_region_quiet_below (by kernel_rfl) (by kernel_rfl) ?_
              repeat (first | go_big_quiet_step (((first | (go_at_call 29; exact Calls.regrown_of (HS1.out _ (below_regrown _ _ _))) | (go_at_call 22; exact Calls.regrown_of (HS2.out _ (below_regrown _ _ _)))))) | quiet_step (((first | (go_at_call 29; exact Calls.regrown_of (HS1.out _ (below_regrown _ _ _))) | (go_at_call 22; exact Calls.regrown_of (HS2.out _ (below_regrown _ _ _)))))))
              refine wpQuiet_nil ?_
              intro _ hw'
              obtain ⟨⟨dq3, osq3⟩, hw''⟩ := hw'
              subst hw''
              have HT := Lib.hid (H2.out.next (below_regrown w2 dq3 osq3))
              generalize grow (redrawn w2 dq3) osq3 = W0 at *
              clear d0 d1 d2 d3 p0 p1 p2 p3 y0 y1 y2 y3 x0 x1 x2 x3 x4 x5 x6 v0 v1 v2 v3 v4 v5 v6 hl1 hl2
              go_wp2_with fail
              obtain ⟨s0, s1, s2, s3⟩ := four_cells HT.out.1
              obtain ⟨r0, r1, r2, r3⟩ := four_cells HT.out.2.1
              have hl1 : w.heap.size < W0.heap.size := fin_at HT.out.1
              have hl2 : w.heap.size + 1 < W0.heap.size := fin_at HT.out.2.1
              refine wp_region_quiet_below (by kernel_rfl) (by kernel_rfl) ?_
              repeat (first | go_big_quiet_step ((first | (go_at_call 30; first | (with_reducible exact Calls.regrown_of (HAB.out _ (HT.out.next (below_regrown _ _ _)).bel)) | (with_reducible exact Calls.regrown_of (HAA.out _ (HT.out.next (below_regrown _ _ _)).bel))) | (go_at_call 31; exact Calls.regrown_of (HRAB.out _ (HT.out.next (below_regrown _ _ _)).bel)) | (go_at_call 12; exact Calls.regrown_of (HRC.out _ (HT.out.next (below_regrown _ _ _)).bel)) | (go_at_call 32; exact Calls.regrown_of (HEN.out _ (HT.out.next (below_regrown _ _ _)).bel)) | (go_at_call 33; exact Calls.regrown_of (HREN.out _ (HT.out.next (below_regrown _ _ _)).bel)) | (go_at_call 10; exact Calls.regrown_of (awake_any _)))) | quiet_step ((first | (go_at_call 30; first | (with_reducible exact Calls.regrown_of (HAB.out _ (HT.out.next (below_regrown _ _ _)).bel)) | (with_reducible exact Calls.regrown_of (HAA.out _ (HT.out.next (below_regrown _ _ _)).bel))) | (go_at_call 31; exact Calls.regrown_of (HRAB.out _ (HT.out.next (below_regrown _ _ _)).bel)) | (go_at_call 12; exact Calls.regrown_of (HRC.out _ (HT.out.next (below_regrown _ _ _)).bel)) | (go_at_call 32; exact Calls.regrown_of (HEN.out _ (HT.out.next (below_regrown _ _ _)).bel)) | (go_at_call 33; exact Calls.regrown_of (HREN.out _ (HT.out.next (below_regrown _ _ _)).bel)) | (go_at_call 10; exact Calls.regrown_of (awake_any _)))))
              refine wpQuiet_nil ?_
              intro _ hw'
              obtain ⟨⟨dq5, osq5⟩, hw''⟩ := hw'
              subst hw''
              go_wp2
              go_ret
              exact ⟨rfl, (HT.out.next (below_regrown _ _ _)).bel⟩
        · rw [hk] at haa
          rw [hi] at hrc
          have HAA := Lib.hid haa; have HRC := Lib.hid hrc
          clear haa hrc hk hi
          unfold trV at *
          generalize a.nodes.length = n at *
          generalize a.last = la at *
          generalize a.rn = rn at *
          generalize a.rb = rb at *
          generalize b.nodes.length = n' at *
          generalize b.last = la' at *
          generalize b.rn = rn' at *
          generalize b.rb = rb' at *
          generalize es.length = m at *
          have H0 := Lib.hid (C2.made w #[.slice A n c, .int .i64 la, .int .i64 rn, .int .i64 rb] #[.slice A' n' c', .int .i64 la', .int .i64 rn', .int .i64 rb'])
          rcases HCA.out.2 with ⟨_, _, _, h0⟩ | ⟨b1, o1, cc1, e1, _, hb1, hpos1, hcells1⟩
          · obtain rfl : n = 0 := HZ1.out h0
            clear h0 HCA HCB HZ1 HZ2 hsn hrsn
            go_enter Tryd.func6, Tryd.ntmps6
            go_wp2_with (first | (go_at_call 9; (with_reducible refine (HSA.out _ H0.out.bel).mono ?_); rintro e w1 ⟨rfl, hb1⟩; have H1 := Lib.hid (H0.out.next hb1); obtain ⟨d0, d1, d2, d3⟩ := four_cells H1.out.2.1; clear hb1) | (go_at_call 9; (with_reducible refine (HSB.out _ H1.out.bel).mono ?_); rintro e w2 ⟨rfl, hb2⟩; have H2 := Lib.hid (H1.out.next hb2); clear hb2))
            obtain ⟨p0, p1, p2, p3⟩ := four_cells H2.out.1
            obtain ⟨y0, y1, y2, y3⟩ := four_cells H2.out.2.1
            go_quiet (fail)
            have HT := Lib.hid (H2.out.next (below_drewN' (Below.refl _ _) nq))
            generalize w2.drewN nq = W0 at *
            clear d0 d1 d2 d3 p0 p1 p2 p3 y0 y1 y2 y3
            go_wp2_with fail
            obtain ⟨s0, s1, s2, s3⟩ := four_cells HT.out.1
            obtain ⟨r0, r1, r2, r3⟩ := four_cells HT.out.2.1
            have hl1 : w.heap.size < W0.heap.size := fin_at HT.out.1
            have hl2 : w.heap.size + 1 < W0.heap.size := fin_at HT.out.2.1
            refine wp_region_quiet_below (by kernel_rfl) (by kernel_rfl) ?_
            repeat (first | go_big_quiet_step ((first | (go_at_call 30; first | (with_reducible exact Calls.regrown_of (HAB.out _ (HT.out.next (below_regrown _ _ _)).bel)) | (with_reducible exact Calls.regrown_of (HAA.out _ (HT.out.next (below_regrown _ _ _)).bel))) | (go_at_call 31; exact Calls.regrown_of (HRAB.out _ (HT.out.next (below_regrown _ _ _)).bel)) | (go_at_call 12; exact Calls.regrown_of (HRC.out _ (HT.out.next (below_regrown _ _ _)).bel)) | (go_at_call 32; exact Calls.regrown_of (HEN.out _ (HT.out.next (below_regrown _ _ _)).bel)) | (go_at_call 33; exact Calls.regrown_of (HREN.out _ (HT.out.next (below_regrown _ _ _)).bel)) | (go_at_call 10; exact Calls.regrown_of (awake_any _)))) | quiet_step ((first | (go_at_call 30; first | (with_reducible exact Calls.regrown_of (HAB.out _ (HT.out.next (below_regrown _ _ _)).bel)) | (with_reducible exact Calls.regrown_of (HAA.out _ (HT.out.next (below_regrown _ _ _)).bel))) | (go_at_call 31; exact Calls.regrown_of (HRAB.out _ (HT.out.next (below_regrown _ _ _)).bel)) | (go_at_call 12; exact Calls.regrown_of (HRC.out _ (HT.out.next (below_regrown _ _ _)).bel)) | (go_at_call 32; exact Calls.regrown_of (HEN.out _ (HT.out.next (below_regrown _ _ _)).bel)) | (go_at_call 33; exact Calls.regrown_of (HREN.out _ (HT.out.next (below_regrown _ _ _)).bel)) | (go_at_call 10; exact Calls.regrown_of (awake_any _)))))
            refine wpQuiet_nil ?_
            intro _ hw'
            obtain ⟨⟨dq5, osq5⟩, hw''⟩ := hw'
            subst hw''
            go_wp2
            go_ret
            exact ⟨rfl, (HT.out.next (below_regrown _ _ _)).bel⟩
          · cases e1
            rcases HCB.out.2 with ⟨_, _, _, h0⟩ | ⟨b2, o2, cc2, e2, _, hb2, hpos2, hcells2⟩
            · obtain rfl : n' = 0 := HZ2.out h0
              clear h0 HCA HCB HZ1 HZ2 hsn hrsn hcells1
              have hpi : (0 : Int) < (n : Int) := by omega
              go_enter Tryd.func6, Tryd.ntmps6
              go_wp2_with (first | (go_at_call 9; (with_reducible refine (HSA.out _ H0.out.bel).mono ?_); rintro e w1 ⟨rfl, hb1⟩; have H1 := Lib.hid (H0.out.next hb1); obtain ⟨d0, d1, d2, d3⟩ := four_cells H1.out.2.1; clear hb1) | (go_at_call 9; (with_reducible refine (HSB.out _ H1.out.bel).mono ?_); rintro e w2 ⟨rfl, hb2⟩; have H2 := Lib.hid (H1.out.next hb2); clear hb2))
              obtain ⟨p0, p1, p2, p3⟩ := four_cells H2.out.1
              obtain ⟨y0, y1, y2, y3⟩ := four_cells H2.out.2.1
              go_quiet (fail)
              have HT := Lib.hid (H2.out.next (below_drewN' (Below.refl _ _) nq))
              generalize w2.drewN nq = W0 at *
              clear d0 d1 d2 d3 p0 p1 p2 p3 y0 y1 y2 y3
              go_wp2_with fail
              obtain ⟨s0, s1, s2, s3⟩ := four_cells HT.out.1
              obtain ⟨r0, r1, r2, r3⟩ := four_cells HT.out.2.1
              have hl1 : w.heap.size < W0.heap.size := fin_at HT.out.1
              have hl2 : w.heap.size + 1 < W0.heap.size := fin_at HT.out.2.1
              refine wp_region_quiet_below (by kernel_rfl) (by kernel_rfl) ?_
              repeat (first | go_big_quiet_step ((first | (go_at_call 30; first | (with_reducible exact Calls.regrown_of (HAB.out _ (HT.out.next (below_regrown _ _ _)).bel)) | (with_reducible exact Calls.regrown_of (HAA.out _ (HT.out.next (below_regrown _ _ _)).bel))) | (go_at_call 31; exact Calls.regrown_of (HRAB.out _ (HT.out.next (below_regrown _ _ _)).bel)) | (go_at_call 12; exact Calls.regrown_of (HRC.out _ (HT.out.next (below_regrown _ _ _)).bel)) | (go_at_call 32; exact Calls.regrown_of (HEN.out _ (HT.out.next (below_regrown _ _ _)).bel)) | (go_at_call 33; exact Calls.regrown_of (HREN.out _ (HT.out.next (below_regrown _ _ _)).bel)) | (go_at_call 10; exact Calls.regrown_of (awake_any _)))) | quiet_step ((first | (go_at_call 30; first | (with_reducible exact Calls.regrown_of (HAB.out _ (HT.out.next (below_regrown _ _ _)).bel)) | (with_reducible exact Calls.regrown_of (HAA.out _ (HT.out.next (below_regrown _ _ _)).bel))) | (go_at_call 31; exact Calls.regrown_of (HRAB.out _ (HT.out.next (below_regrown _ _ _)).bel)) | (go_at_call 12; exact Calls.regrown_of (HRC.out _ (HT.out.next (below_regrown _ _ _)).bel)) | (go_at_call 32; exact Calls.regrown_of (HEN.out _ (HT.out.next (below_regrown _ _ _)).bel)) | (go_at_call 33; exact Calls.regrown_of (HREN.out _ (HT.out.next (below_regrown _ _ _)).bel)) | (go_at_call 10; exact Calls.regrown_of (awake_any _)))))
              refine wpQuiet_nil ?_
              intro _ hw'
              obtain ⟨⟨dq5, osq5⟩, hw''⟩ := hw'
              subst hw''
              go_wp2
              go_ret
              exact ⟨rfl, (HT.out.next (below_regrown _ _ _)).bel⟩
            · cases e2
              have hx := hcells1 0 hpos1
              have hy := hcells2 0 hpos2
              rw [Nat.zero_mul, Nat.add_zero] at hx hy
              have HX := Lib.hid hx; have HY := Lib.hid hy; have HSN0 := Lib.hid hsn; have HRSN0 := Lib.hid hrsn
              clear hx hy hsn hrsn hcells1 hcells2 HCA HCB HZ1 HZ2
              go_enter Tryd.func6, Tryd.ntmps6
              go_wp2_with (first | (go_at_call 9; (with_reducible refine (HSA.out _ H0.out.bel).mono ?_); rintro e w1 ⟨rfl, hb1⟩; have H1 := Lib.hid (H0.out.next hb1); obtain ⟨d0, d1, d2, d3⟩ := four_cells H1.out.2.1; clear hb1) | (go_at_call 9; (with_reducible refine (HSB.out _ H1.out.bel).mono ?_); rintro e w2 ⟨rfl, hb2⟩; have H2 := Lib.hid (H1.out.next hb2); clear hb2))
              obtain ⟨p0, p1, p2, p3⟩ := four_cells H2.out.1
              obtain ⟨y0, y1, y2, y3⟩ := four_cells H2.out.2.1
              obtain ⟨x0, x1, x2, x3, x4, x5, _, ev1, x6, hE1⟩ := HX.out.below hb1 H2.out.bel
              obtain ⟨v0, v1, v2, v3, v4, v5, _, ev2, v6, hE2⟩ := HY.out.below hb2 H2.out.bel
              have hw2 := H2.out.bel.size
              have HS1 := Lib.hid (fun W (hW : Below w2.heap.size w2 W) => HSN0.out ev1 ev2 W w.heap.size (hE1.below (hW.mono hw2)) (hE2.below (hW.mono hw2)) (Nat.le_trans hw2 hW.size))
              have HS2 := Lib.hid (fun W (hW : Below w2.heap.size w2 W) => HRSN0.out ev1 ev2 W w.heap.size (hE1.below (hW.mono hw2)) (hE2.below (hW.mono hw2)) (Nat.le_trans hw2 hW.size))
              obtain ⟨Ae1, ce1, rfl, _⟩ := ents_len hE1
              obtain ⟨Ae2, ce2, rfl, _⟩ := ents_len hE2
              unfold ndV at HS1 HS2
              clear hE1 hE2 HX HY HSN0 HRSN0
              generalize decide (ndAt a.nodes 0 = ndAt b.nodes 0) = r0 at *
              generalize ndAt a.nodes 0 = x at *
              generalize ndAt b.nodes 0 = y at *
              have hb1w : b1 < w2.heap.size := by omega
              have hb2w : b2 < w2.heap.size := by omega
              have hl1 : w.heap.size < w2.heap.size := fin_at H2.out.1
              have hl2 : w.heap.size + 1 < w2.heap.size := fin_at H2.out.2.1
              have hpi1 : (0 : Int) < (n : Int) := by omega
              have hpi2 : (0 : Int) < (n' : Int) := by omega
              refine wp_region_quiet_below (by kernel_rfl) (by kernel_rfl) ?_
              repeat (first | go_big_quiet_step (((first | (go_at_call 29; exact Calls.regrown_of (HS1.out _ (below_regrown _ _ _))) | (go_at_call 22; exact Calls.regrown_of (HS2.out _ (below_regrown _ _ _)))))) | quiet_step (((first | (go_at_call 29; exact Calls.regrown_of (HS1.out _ (below_regrown _ _ _))) | (go_at_call 22; exact Calls.regrown_of (HS2.out _ (below_regrown _ _ _)))))))
              refine wpQuiet_nil ?_
              intro _ hw'
              obtain ⟨⟨dq3, osq3⟩, hw''⟩ := hw'
              subst hw''
              have HT := Lib.hid (H2.out.next (below_regrown w2 dq3 osq3))
              generalize grow (redrawn w2 dq3) osq3 = W0 at *
              clear d0 d1 d2 d3 p0 p1 p2 p3 y0 y1 y2 y3 x0 x1 x2 x3 x4 x5 x6 v0 v1 v2 v3 v4 v5 v6 hl1 hl2
              go_wp2_with fail
              obtain ⟨s0, s1, s2, s3⟩ := four_cells HT.out.1
              obtain ⟨r0, r1, r2, r3⟩ := four_cells HT.out.2.1
              have hl1 : w.heap.size < W0.heap.size := fin_at HT.out.1
              have hl2 : w.heap.size + 1 < W0.heap.size := fin_at HT.out.2.1
              refine wp_region_quiet_below (by kernel_rfl) (by kernel_rfl) ?_
              repeat (first | go_big_quiet_step ((first | (go_at_call 30; first | (with_reducible exact Calls.regrown_of (HAB.out _ (HT.out.next (below_regrown _ _ _)).bel)) | (with_reducible exact Calls.regrown_of (HAA.out _ (HT.out.next (below_regrown _ _ _)).bel))) | (go_at_call 31; exact Calls.regrown_of (HRAB.out _ (HT.out.next (below_regrown _ _ _)).bel)) | (go_at_call 12; exact Calls.regrown_of (HRC.out _ (HT.out.next (below_regrown _ _ _)).bel)) | (go_at_call 32; exact Calls.regrown_of (HEN.out _ (HT.out.next (below_regrown _ _ _)).bel)) | (go_at_call 33; exact Calls.regrown_of (HREN.out _ (HT.out.next (below_regrown _ _ _)).bel)) | (go_at_call 10; exact Calls.regrown_of (awake_any _)))) | quiet_step ((first | (go_at_call 30; first | (with_reducible exact Calls.regrown_of (HAB.out _ (HT.out.next (below_regrown _ _ _)).bel)) | (with_reducible exact Calls.regrown_of (HAA.out _ (HT.out.next (below_regrown _ _ _)).bel))) | (go_at_call 31; exact Calls.regrown_of (HRAB.out _ (HT.out.next (below_regrown _ _ _)).bel)) | (go_at_call 12; exact Calls.regrown_of (HRC.out _ (HT.out.next (below_regrown _ _ _)).bel)) | (go_at_call 32; exact Calls.regrown_of (HEN.out _ (HT.out.next (below_regrown _ _ _)).bel)) | (go_at_call 33; exact Calls.regrown_of (HREN.out _ (HT.out.next (below_regrown _ _ _)).bel)) | (go_at_call 10; exact Calls.regrown_of (awake_any _)))))
              refine wpQuiet_nil ?_
              intro _ hw'
              obtain ⟨⟨dq5, osq5⟩, hw''⟩ := hw'
              subst hw''
              go_wp2
              go_ret
              exact ⟨rfl, (HT.out.next (below_regrown _ _ _)).bel⟩

theorem sames_row (nv : Value) (a : Tr) (mv : Value) (b : Tr) (v : Value) (es : List Ent) (w : World) (hN : NodesIn w w.heap.size nv a.nodes) (hM : NodesIn w w.heap.size mv b.nodes) (hE : EntsIn w w.heap.size v es) :
    Calls Tryd.prog 6 #[trV nv a, trV mv b, v] w fun e w' => e = .returned (.bool true) ∧ Below w.heap.size w w' :=
  sames_law nv mv v a b es _ w hN hM hE (Nat.le_refl _)

end Go.Proofs.YtgcoioejcnileaaDoor
