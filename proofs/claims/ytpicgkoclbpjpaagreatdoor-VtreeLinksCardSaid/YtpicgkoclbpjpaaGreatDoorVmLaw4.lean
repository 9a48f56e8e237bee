/- DERIVED. The law VtreeLinks: two names of one file are one file. Made by program (gen/vlaw4.py). -/
import Derived.Test.YtpicgkoclbpjpaaGreatDoorVtG13
import Derived.Test.YtpicgkoclbpjpaaGreatDoorVtG12
import Derived.Test.YtpicgkoclbpjpaaGreatDoorVmLaw3
namespace Go.Proofs.YtpicgkoclbpjpaaGreatDoor
open Go.RowKit Go.Sort Go.Lib Go.Shelf
open PathM TreeM VtM
set_option linter.unusedVariables false
attribute [local go_sem] cell_rg
theorem stat_links {k : Nat} {f : Fs} (h : FsOk k f) (p : Bs) (fw : Bool) : 0 ≤ (statF f p fw).1.links ∧ (statF f p fw).1.links ≤ ((k * k : Nat) : Int) := by
  unfold statF
  cases thereF f p fw with
  | error x => exact ⟨Int.le_refl _, Int.natCast_nonneg _⟩
  | ok a =>
    dsimp only
    have h1 := links_le h.cnt a.node
    have h2 : f.t.nodes.length * k ≤ k * k := Nat.mul_le_mul_right k h.len
    omega


set_option maxRecDepth 100000 in
set_option maxHeartbeats 8000000 in
theorem links_law (nv av : Value) (t : Tr) (l : List ActV) (p q data : ByteArray) (w : World) (hN : NodesIn w w.heap.size nv t.nodes) (hA : ActsIn w w.heap.size av l) (hrn : i64 t.rn) (hrb : i64 t.rb) (hM : ∃ m, w.cell? ⟨0, 0, none⟩ = some (.int .i64 m)) :
    Calls Tryz.prog 5 #[trV nv t, av, .string p, .string q, .string data] w fun e w' => e = .returned (.bool true) ∧ Below w.heap.size w w' := by
  have hN0 := hN
  have HM : Hid (∀ W, Below w.heap.size w W → ∃ m, W.cell? ⟨0, 0, none⟩ = some (.int .i64 m)) := Lib.hid (fun W hW => by
    obtain ⟨m, hm⟩ := hM
    exact ⟨m, (hW.cell (p := ⟨0, 0, none⟩) (cell_lt hm)).trans hm⟩)
  clear hM
  have hsm := fun W (hW : Below w.heap.size w W) => small_any nv t w.heap.size W (hN0.below hW) hW.size
  have hc1 : ∀ tv : Array Value, CB w tv (w.alloc (.cells tv 26)) := fun tv => ⟨heap_alloc_new w _, (Below.refl _ _).alloc (Nat.le_refl _) _⟩
  unfold BelowB at hsm
  obtain ⟨A, c, rfl⟩ := nodes_len hN
  obtain ⟨A2, c2, rfl⟩ := hA.len
  cases hs : smallB t with
  | false =>
    rw [hs] at hsm
    have HSM := Lib.hid hsm
    clear hsm hN hN0 hs hA hrn hrb
    unfold trV at *
    generalize t.nodes.length = n at *
    generalize t.last = la at *
    generalize t.rn = tn at *
    generalize t.rb = tb at *
    have H0 := Lib.hid (hc1 #[.slice A n c, .int .i64 la, .int .i64 tn, .int .i64 tb])
    clear hc1
    go_enter Tryz.func5, Tryz.ntmps5
    go_wp2_with (first | (go_at_call 9; (with_reducible refine (HSM.out _ H0.out.bel).mono ?_); rintro e w1 ⟨rfl, hb1⟩; have H1 := Lib.hid (H0.out.next hb1); have HBB := Lib.hid H1.out.bel; obtain ⟨d0, d1, d2, d3⟩ := H1.out.cells; clear hb1) | (go_at_call 10; (with_reducible refine (awake5_any _ (HM.out _ HBB.out)).mono ?_); rintro e w9 ⟨rfl, hb9⟩; have HB9 := Lib.hid (HBB.out.trans (hb9.mono HBB.out.size)); clear hb9))
    go_ret
    exact ⟨rfl, HB9.out⟩
  | true =>
    rw [hs] at hsm
    have HSM := Lib.hid hsm
    by_cases hg0 : p.size ≤ 1000
    · have hi_p : ¬ (1000 : Int) < (p.size : Int) := by omega
      by_cases hg1 : q.size ≤ 1000
      · have hi_q : ¬ (1000 : Int) < (q.size : Int) := by omega
        by_cases hg2 : data.size ≤ 10000
        · have hi_data : ¬ (10000 : Int) < (data.size : Int) := by omega
          cases hb : checkB t with
          | false =>
            have HFB := Lib.hid (fun W (hW : Below w.heap.size w W) => filled_bad _ _ t l W ((hN0.below hW).more hW.size) ((hA.below hW).more hW.size) hb)
            clear hsm hN hN0 hs hA hrn hrb hg0 hg1 hg2 hb
            unfold trV at *
            generalize t.nodes.length = n at *
            generalize t.last = la at *
            generalize t.rn = tn at *
            generalize t.rb = tb at *
            have H0 := Lib.hid (hc1 #[.slice A n c, .int .i64 la, .int .i64 tn, .int .i64 tb])
            clear hc1
            go_enter Tryz.func5, Tryz.ntmps5
            go_wp2_with (first | (go_at_call 9; (with_reducible refine (HSM.out _ H0.out.bel).mono ?_); rintro e w1 ⟨rfl, hb1⟩; have H1 := Lib.hid (H0.out.next hb1); have HBB := Lib.hid H1.out.bel; obtain ⟨d0, d1, d2, d3⟩ := H1.out.cells; clear hb1) | (go_at_call 11; (with_reducible refine (HFB.out _ H1.out.bel).mono ?_); rintro e w2 ⟨rfl, hb2⟩; have HBB := Lib.hid (H1.out.bel.trans (hb2.mono H1.out.bel.size)); clear hb2) | (go_at_call 10; (with_reducible refine (awake5_any _ (HM.out _ HBB.out)).mono ?_); rintro e w9 ⟨rfl, hb9⟩; have HB9 := Lib.hid (HBB.out.trans (hb9.mono HBB.out.size)); clear hb9))
            go_ret
            exact ⟨rfl, HB9.out⟩
          | true =>
            have HFL := Lib.hid (fun W (hW : Below w.heap.size w W) => filled_small _ _ t l W ((hN0.below hW).more hW.size) ((hA.below hW).more hW.size) hs hb hrn hrb (HM.out _ hW))
            have HG0 := Lib.hid hg0
            have HG1 := Lib.hid hg1
            have HG2 := Lib.hid hg2
            clear hsm hN hN0 hs hA hrn hrb hg0 hg1 hg2 hb
            unfold trV at *
            generalize t.nodes.length = n at *
            generalize t.last = la at *
            generalize t.rn = tn at *
            generalize t.rb = tb at *
            have H0 := Lib.hid (hc1 #[.slice A n c, .int .i64 la, .int .i64 tn, .int .i64 tb])
            clear hc1
            unfold FilledPost at HFL
            go_enter Tryz.func5, Tryz.ntmps5
            go_wp2_with (first | (go_at_call 9; (with_reducible refine (HSM.out _ H0.out.bel).mono ?_); rintro e w1 ⟨rfl, hb1⟩; have H1 := Lib.hid (H0.out.next hb1); have HBB := Lib.hid H1.out.bel; obtain ⟨d0, d1, d2, d3⟩ := H1.out.cells; clear hb1))
            refine (HFL.out _ H1.out.bel).mono ?_
            rintro e w2 ⟨fb, db, mb, f, rfl, hS, h1, hge, hb2⟩
            have HS2 := Lib.hid hS
            have HO2 := Lib.hid h1
            have HB2 := Lib.hid (H1.out.bel.trans (hb2.mono H1.out.bel.size))
            have HGE := Lib.hid (own_ge5 (B := w.heap.size) ⟨Nat.le_trans H1.out.bel.size hge.1, Nat.le_trans H1.out.bel.size hge.2.1, Nat.le_trans H1.out.bel.size hge.2.2⟩)
            clear hS h1 hge hb2 d0 d1 d2 d3
            have hpm : p.size ≤ maxLen := by have := HG0.out; unfold maxLen; omega
            have hqm : q.size ≤ maxLen := by have := HG1.out; unfold maxLen; omega
            have HPM := Lib.hid hpm
            have HQM := Lib.hid hqm
            clear hpm hqm
            go_wp2_with fail
            refine (stat_any fb db mb p false _ HS2.out HPM.out (by omega)).mono ?_
            rintro e w3 ⟨rfl, hb3⟩
            unfold infV
            have hlb := stat_links HS2.out.ok p.data.toList false
            cases hst : statF f p.data.toList false with
            | mk inf er =>
            obtain ⟨kd, md, ow, tm, sz, ln⟩ := inf
            dsimp only
            rw [hst] at hlb
            dsimp only at hlb
            obtain ⟨hl1, hl2⟩ := hlb
            have hba := hb3.alloc hb3.size (.cells #[.int .i64 kd, .int .i64 md, .int .i64 ow, .int .i64 tm, .int .i64 sz, .int .i64 ln] 39)
            have HSA := Lib.hid (HS2.out.below hba)
            have HBA := Lib.hid (HB2.out.trans (hba.mono HB2.out.size))
            have HXA := Lib.hid (heap_alloc_new w3 (.cells #[.int .i64 kd, .int .i64 md, .int .i64 ow, .int .i64 tm, .int .i64 sz, .int .i64 ln] 39))
            clear hb3 hba
            by_cases he : er = 0
            · subst he
              by_cases hk : kd = 2
              · subst hk
                go_wp2_with fail
                refine (link_any fb db mb p q _ HSA.out HPM.out HQM.out (by omega)).mono ?_
                rintro e w4 ⟨rfl, hl4, hk4⟩
                have HS4 := Lib.hid (HSA.out.wrote hl4 hk4 (keep_link HSA.out.ok p.data.toList q.data.toList))
                have HB4 := Lib.hid (HBA.out.trans (hk4.below HBA.out.size HGE.out))
                have HX4 := Lib.hid (hk4.at HXA.out (HSA.out.live.not3 (OfType.of HXA.out) (by decide) (by decide)))
                clear hl4 hk4
                by_cases hl : (linkF f p.data.toList q.data.toList).2 = 0
                · have h2 := links_twice HS2.out.ok (by omega) (p := p.data.toList) (q := q.data.toList) (data := data.data.toList) (by rw [hst]) (by rw [hst]) hl
                  rw [hl]
                  rw [hst] at h2
                  dsimp only at h2
                  clear hst hl
                  generalize (linkF f p.data.toList q.data.toList).1 = g at *
                  obtain ⟨g1, g2, g3, g4⟩ := h2
                  have HG4 := Lib.hid g4
                  generalize w3.alloc (.cells #[.int .i64 2, .int .i64 md, .int .i64 ow, .int .i64 tm, .int .i64 sz, .int .i64 ln] 39) = WA at *
                  generalize w3.heap.size = ia at *
                  have c5 := cell_blk HX4.out 5
                  have c4 := cell_blk HX4.out 4
                  simp at c4 c5
                  go_wp2_with fail
                  refine (stat_any fb db mb q false _ HS4.out HQM.out (by omega)).mono ?_
                  rintro e w5 ⟨rfl, hb5⟩
                  unfold infV
                  cases hst2 : statF g q.data.toList false with
                  | mk inf2 er2 =>
                  obtain ⟨kd2, md2, ow2, tm2, sz2, ln2⟩ := inf2
                  dsimp only
                  rw [hst2] at g1 g2 g3
                  dsimp only at g1 g2 g3
                  subst g1 g2 g3
                  clear hst2 g4 c4 c5
                  have hbb := hb5.alloc hb5.size (.cells #[.int .i64 kd2, .int .i64 md2, .int .i64 ow2, .int .i64 tm2, .int .i64 sz2, .int .i64 (ln + 1)] 39)
                  have HS5 := Lib.hid (HS4.out.below hbb)
                  have HB5 := Lib.hid (HB4.out.trans (hbb.mono HB4.out.size))
                  have HX5 := Lib.hid ((hbb.block _ (blk_lt HX4.out)).trans HX4.out)
                  have HY5 := Lib.hid (heap_alloc_new w5 (.cells #[.int .i64 kd2, .int .i64 md2, .int .i64 ow2, .int .i64 tm2, .int .i64 sz2, .int .i64 (ln + 1)] 39))
                  clear hb5 hbb
                  have c5 := cell_blk HX5.out 5
                  have c4 := cell_blk HX5.out 4
                  simp at c4 c5
                  go_wp2_with fail
                  refine (write_any fb db mb q data 1 _ HS5.out HQM.out (by have := HG2.out; omega) (by omega)).mono ?_
                  rintro e w6 ⟨rfl, hl6, hk6⟩
                  have HS6 := Lib.hid (HS5.out.wrote hl6 hk6 (keep_write HS5.out.ok (by omega) q.data.toList data.data.toList 1))
                  have HB6 := Lib.hid (HB5.out.trans (hk6.below HB5.out.size HGE.out))
                  have HX6 := Lib.hid (hk6.at HX5.out (HS5.out.live.not3 (OfType.of HX5.out) (by decide) (by decide)))
                  clear hl6 hk6 c4 c5
                  by_cases hz : (writeF g q.data.toList data.data.toList 1).2 = 0
                  · obtain ⟨r1, r2, r3, r4, r5⟩ := HG4.out hz
                    rw [hz]
                    clear hz HG4
                    generalize (writeF g q.data.toList data.data.toList 1).1 = g2 at *
                    have hrd := fun W (hW : Sys W fb db mb (700 + 2 + 2) g2) => read_any fb db mb p W hW HPM.out
                    rw [r1] at hrd
                    dsimp only at hrd
                    rw [nm_list] at hrd
                    have HRD := Lib.hid hrd
                    clear hrd r1
                    go_wp2_with fail
                    refine (HRD.out _ HS6.out).mono ?_
                    rintro e w7 ⟨rfl, hb7⟩
                    have HS7 := Lib.hid (HS6.out.below hb7)
                    have HB7 := Lib.hid (HB6.out.trans (hb7.mono HB6.out.size))
                    have HX7 := Lib.hid ((hb7.block _ (blk_lt HX6.out)).trans HX6.out)
                    clear hb7
                    go_wp2_with fail
                    refine (unlink_any fb db mb q _ HS7.out HQM.out (by omega)).mono ?_
                    rintro e w8 ⟨rfl, hl8, hk8⟩
                    have HS8 := Lib.hid (HS7.out.wrote hl8 hk8 (keep_unlink HS7.out.ok q.data.toList))
                    have HB8 := Lib.hid (HB7.out.trans (hk8.below HB7.out.size HGE.out))
                    have HX8 := Lib.hid (hk8.at HX7.out (HS7.out.live.not3 (OfType.of HX7.out) (by decide) (by decide)))
                    rw [r2]
                    clear hl8 hk8 r2
                    generalize (unlinkF g2 q.data.toList).1 = g3 at *
                    go_wp2_with fail
                    refine (stat_any fb db mb p false _ HS8.out HPM.out (by omega)).mono ?_
                    rintro e wC ⟨rfl, hbC⟩
                    unfold infV
                    cases hst3 : statF g3 p.data.toList false with
                    | mk inf3 er3 =>
                    obtain ⟨kd3, md3, ow3, tm3, sz3, ln3⟩ := inf3
                    dsimp only
                    rw [hst3] at r3 r4 r5
                    dsimp only at r3 r4 r5
                    subst r3 r4
                    rw [← sizeD] at r5
                    subst r5
                    clear hst3
                    have hbb := hbC.alloc hbC.size (.cells #[.int .i64 kd3, .int .i64 md3, .int .i64 ow3, .int .i64 tm3, .int .i64 (data.size : Int), .int .i64 ln3] 39)
                    have HBB := Lib.hid (HB8.out.trans (hbb.mono HB8.out.size))
                    have HXC := Lib.hid ((hbb.block _ (blk_lt HX8.out)).trans HX8.out)
                    clear hbC hbb
                    have c5 := cell_blk HXC.out 5
                    simp at c5
                    go_wp2_with (go_at_call 10; (with_reducible refine (awake5_any _ (HM.out _ HBB.out)).mono ?_); rintro e w9 ⟨rfl, hb9⟩; have HB9 := Lib.hid (HBB.out.trans (hb9.mono HBB.out.size)); clear hb9)
                    go_ret
                    exact ⟨rfl, HB9.out⟩
                  · have x2 : ((writeF g q.data.toList data.data.toList 1).2 != 0) = true := bne_iff_ne.2 hz
                    have HBB := HB6
                    generalize (writeF g q.data.toList data.data.toList 1).2 = x at *
                    clear hz
                    go_wp2_with (go_at_call 10; (with_reducible refine (awake5_any _ (HM.out _ HBB.out)).mono ?_); rintro e w9 ⟨rfl, hb9⟩; have HB9 := Lib.hid (HBB.out.trans (hb9.mono HBB.out.size)); clear hb9)
                    go_ret
                    exact ⟨rfl, HB9.out⟩
                · have x2 : ((linkF f p.data.toList q.data.toList).2 != 0) = true := bne_iff_ne.2 hl
                  have HBB := HB4
                  generalize (linkF f p.data.toList q.data.toList).2 = x at *
                  clear hl hst
                  go_wp2_with (go_at_call 10; (with_reducible refine (awake5_any _ (HM.out _ HBB.out)).mono ?_); rintro e w9 ⟨rfl, hb9⟩; have HB9 := Lib.hid (HBB.out.trans (hb9.mono HBB.out.size)); clear hb9)
                  go_ret
                  exact ⟨rfl, HB9.out⟩
              · have x2 : (kd != 2) = true := bne_iff_ne.2 hk
                have HBB := HBA
                clear hk hst
                go_wp2_with (go_at_call 10; (with_reducible refine (awake5_any _ (HM.out _ HBB.out)).mono ?_); rintro e w9 ⟨rfl, hb9⟩; have HB9 := Lib.hid (HBB.out.trans (hb9.mono HBB.out.size)); clear hb9)
                go_ret
                exact ⟨rfl, HB9.out⟩
            · have x2 : (er != 0) = true := bne_iff_ne.2 he
              have HBB := HBA
              clear he hst
              go_wp2_with (go_at_call 10; (with_reducible refine (awake5_any _ (HM.out _ HBB.out)).mono ?_); rintro e w9 ⟨rfl, hb9⟩; have HB9 := Lib.hid (HBB.out.trans (hb9.mono HBB.out.size)); clear hb9)
              go_ret
              exact ⟨rfl, HB9.out⟩
        · have hi_data : (10000 : Int) < (data.size : Int) := by omega
          clear hsm hN hN0 hs hA hrn hrb hg0 hg1 hg2
          unfold trV at *
          generalize t.nodes.length = n at *
          generalize t.last = la at *
          generalize t.rn = tn at *
          generalize t.rb = tb at *
          have H0 := Lib.hid (hc1 #[.slice A n c, .int .i64 la, .int .i64 tn, .int .i64 tb])
          clear hc1
          go_enter Tryz.func5, Tryz.ntmps5
          go_wp2_with (first | (go_at_call 9; (with_reducible refine (HSM.out _ H0.out.bel).mono ?_); rintro e w1 ⟨rfl, hb1⟩; have H1 := Lib.hid (H0.out.next hb1); have HBB := Lib.hid H1.out.bel; obtain ⟨d0, d1, d2, d3⟩ := H1.out.cells; clear hb1) | (go_at_call 10; (with_reducible refine (awake5_any _ (HM.out _ HBB.out)).mono ?_); rintro e w9 ⟨rfl, hb9⟩; have HB9 := Lib.hid (HBB.out.trans (hb9.mono HBB.out.size)); clear hb9))
          go_ret
          exact ⟨rfl, HB9.out⟩
      · have hi_q : (1000 : Int) < (q.size : Int) := by omega
        clear hsm hN hN0 hs hA hrn hrb hg0 hg1
        unfold trV at *
        generalize t.nodes.length = n at *
        generalize t.last = la at *
        generalize t.rn = tn at *
        generalize t.rb = tb at *
        have H0 := Lib.hid (hc1 #[.slice A n c, .int .i64 la, .int .i64 tn, .int .i64 tb])
        clear hc1
        go_enter Tryz.func5, Tryz.ntmps5
        go_wp2_with (first | (go_at_call 9; (with_reducible refine (HSM.out _ H0.out.bel).mono ?_); rintro e w1 ⟨rfl, hb1⟩; have H1 := Lib.hid (H0.out.next hb1); have HBB := Lib.hid H1.out.bel; obtain ⟨d0, d1, d2, d3⟩ := H1.out.cells; clear hb1) | (go_at_call 10; (with_reducible refine (awake5_any _ (HM.out _ HBB.out)).mono ?_); rintro e w9 ⟨rfl, hb9⟩; have HB9 := Lib.hid (HBB.out.trans (hb9.mono HBB.out.size)); clear hb9))
        go_ret
        exact ⟨rfl, HB9.out⟩
    · have hi_p : (1000 : Int) < (p.size : Int) := by omega
      clear hsm hN hN0 hs hA hrn hrb hg0
      unfold trV at *
      generalize t.nodes.length = n at *
      generalize t.last = la at *
      generalize t.rn = tn at *
      generalize t.rb = tb at *
      have H0 := Lib.hid (hc1 #[.slice A n c, .int .i64 la, .int .i64 tn, .int .i64 tb])
      clear hc1
      go_enter Tryz.func5, Tryz.ntmps5
      go_wp2_with (first | (go_at_call 9; (with_reducible refine (HSM.out _ H0.out.bel).mono ?_); rintro e w1 ⟨rfl, hb1⟩; have H1 := Lib.hid (H0.out.next hb1); have HBB := Lib.hid H1.out.bel; obtain ⟨d0, d1, d2, d3⟩ := H1.out.cells; clear hb1) | (go_at_call 10; (with_reducible refine (awake5_any _ (HM.out _ HBB.out)).mono ?_); rintro e w9 ⟨rfl, hb9⟩; have HB9 := Lib.hid (HBB.out.trans (hb9.mono HBB.out.size)); clear hb9))
      go_ret
      exact ⟨rfl, HB9.out⟩
theorem links_row (nv : Value) (t : Tr) (av : Value) (l : List ActV) (p q data : ByteArray) (w : World) (hN : NodesIn w w.heap.size nv t.nodes) (hR : i64 t.rn ∧ i64 t.rb) (hA : ActsIn w w.heap.size av l) (_ : p.size ≤ maxLen) (_ : q.size ≤ maxLen) (_ : data.size ≤ maxLen) (hM : ∃ m, w.cell? ⟨0, 0, none⟩ = some (.int .i64 m)) :
    Calls Tryz.prog 5 #[trV nv t, av, .string p, .string q, .string data] w fun e w' => e = .returned (.bool true) ∧ Below w.heap.size w w' :=
  links_law nv av t l p q data w hN hA hR.1 hR.2 hM
end Go.Proofs.YtpicgkoclbpjpaaGreatDoor
