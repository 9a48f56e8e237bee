/- DERIVED. The law VtreeWrites: what is written is read. -/
import Derived.Test.YtpicgkoclbpjpaaGreatDoorVtG13
import Derived.Test.YtpicgkoclbpjpaaGreatDoorVtG12
import Derived.Test.YtpicgkoclbpjpaaGreatDoorVmLaw2
namespace Go.Proofs.YtpicgkoclbpjpaaGreatDoor
open Go.RowKit Go.Sort Go.Lib Go.Shelf
open PathM TreeM VtM
set_option linter.unusedVariables false
attribute [local go_sem] cell_rg
theorem CB.bel {w W : World} {tv : Array Value} (h : CB w tv W) : Below w.heap.size w W := h.2
theorem small_last {t : Tr} (h : smallB t = true) : t.last ≤ 1099511627776 := by
  unfold smallB at h
  simp only [Bool.and_eq_true, decide_eq_true_eq] at h
  exact h.1
/-- What the document's calls say, where the law asks it. -/
theorem filled_small (nv av : Value) (t : Tr) (l : List ActV) (w : World) (hN : NodesIn w w.heap.size nv t.nodes) (hA : ActsIn w w.heap.size av l) (hs : smallB t = true) (hc : checkB t = true) (hrn : i64 t.rn) (hrb : i64 t.rb) (hM : ∃ m, w.cell? ⟨0, 0, none⟩ = some (.int .i64 m)) :
    Calls Tryz.prog 11 #[trV nv t, av] w (FilledPost w) :=
  filled_ok nv av t l w hN hA hc (small_last hs) (fun i hi => small_ents hs (check_facts hc).2.1 hi) hrn hrb hM
theorem read_len {k : Nat} {f : Fs} (h : FsOk k f) (p : Bs) : (readF f p).1.length ≤ 4096 := by
  unfold readF
  cases thereF f p true with
  | error x => simp
  | ok a =>
    dsimp only
    split
    · simp
    · exact h.ndata _
set_option maxRecDepth 100000 in
set_option maxHeartbeats 8000000 in
theorem writes_law (nv av : Value) (t : Tr) (l : List ActV) (p data : ByteArray) (how : Int) (w : World) (hN : NodesIn w w.heap.size nv t.nodes) (hA : ActsIn w w.heap.size av l) (hrn : i64 t.rn) (hrb : i64 t.rb) (hM : ∃ m, w.cell? ⟨0, 0, none⟩ = some (.int .i64 m)) :
    Calls Tryz.prog 3 #[trV nv t, av, .string p, .string data, .int .i64 how] w fun e w' => e = .returned (.bool true) ∧ Below w.heap.size w w' := by
  have hN0 := hN
  have HM : Hid (∀ W, Below w.heap.size w W → ∃ m, W.cell? ⟨0, 0, none⟩ = some (.int .i64 m)) := Lib.hid (fun W hW => by
    obtain ⟨m, hm⟩ := hM
    exact ⟨m, (hW.cell (p := ⟨0, 0, none⟩) (cell_lt hm)).trans hm⟩)
  clear hM
  have hsm := fun W (hW : Below w.heap.size w W) => small_any nv t w.heap.size W (hN0.below hW) hW.size
  have hc1 : ∀ tv : Array Value, CB w tv (w.alloc (.cells tv 26)) := fun tv => ⟨heap_alloc_new w _, (Below.refl _ _).alloc (Nat.le_refl _) _⟩
  unfold BelowB at hsm
  obtain ⟨A, c, rfl⟩ := nodes_len hN
  obtain ⟨A2, c2, rfl⟩ := hA.len
  cases hs : smallB t with
  | false =>
    rw [hs] at hsm
    have HSM := Lib.hid hsm
    clear hsm hN hN0 hs hA hrn hrb
    unfold trV at *
    generalize t.nodes.length = n at *
    generalize t.last = la at *
    generalize t.rn = tn at *
    generalize t.rb = tb at *
    have H0 := Lib.hid (hc1 #[.slice A n c, .int .i64 la, .int .i64 tn, .int .i64 tb])
    clear hc1
    go_enter Tryz.func3, Tryz.ntmps3
    go_wp2_with (first | (go_at_call 9; (with_reducible refine (HSM.out _ H0.out.bel).mono ?_); rintro e w1 ⟨rfl, hb1⟩; have H1 := Lib.hid (H0.out.next hb1); have HBB := Lib.hid H1.out.bel; obtain ⟨d0, d1, d2, d3⟩ := H1.out.cells; clear hb1) | (go_at_call 10; (with_reducible refine (awake5_any _ (HM.out _ HBB.out)).mono ?_); rintro e w9 ⟨rfl, hb9⟩; have HB9 := Lib.hid (HBB.out.trans (hb9.mono HBB.out.size)); clear hb9))
    go_ret
    exact ⟨rfl, HB9.out⟩
  | true =>
    rw [hs] at hsm
    have HSM := Lib.hid hsm
    by_cases hp : p.size ≤ 1000
    · have hp1 : ¬ (1000 : Int) < (p.size : Int) := by omega
      by_cases hd : data.size ≤ 10000
      · have hd1 : ¬ (10000 : Int) < (data.size : Int) := by omega
        cases hb : checkB t with
        | false =>
          have HFB := Lib.hid (fun W (hW : Below w.heap.size w W) => filled_bad _ _ t l W ((hN0.below hW).more hW.size) ((hA.below hW).more hW.size) hb)
          clear hsm hN hN0 hs hA hrn hrb hp hd hb
          unfold trV at *
          generalize t.nodes.length = n at *
          generalize t.last = la at *
          generalize t.rn = tn at *
          generalize t.rb = tb at *
          have H0 := Lib.hid (hc1 #[.slice A n c, .int .i64 la, .int .i64 tn, .int .i64 tb])
          clear hc1
          go_enter Tryz.func3, Tryz.ntmps3
          go_wp2_with (first | (go_at_call 9; (with_reducible refine (HSM.out _ H0.out.bel).mono ?_); rintro e w1 ⟨rfl, hb1⟩; have H1 := Lib.hid (H0.out.next hb1); have HBB := Lib.hid H1.out.bel; obtain ⟨d0, d1, d2, d3⟩ := H1.out.cells; clear hb1) | (go_at_call 11; (with_reducible refine (HFB.out _ H1.out.bel).mono ?_); rintro e w2 ⟨rfl, hb2⟩; have HBB := Lib.hid (H1.out.bel.trans (hb2.mono H1.out.bel.size)); clear hb2) | (go_at_call 10; (with_reducible refine (awake5_any _ (HM.out _ HBB.out)).mono ?_); rintro e w9 ⟨rfl, hb9⟩; have HB9 := Lib.hid (HBB.out.trans (hb9.mono HBB.out.size)); clear hb9))
          go_ret
          exact ⟨rfl, HB9.out⟩
        | true =>
          have HFL := Lib.hid (fun W (hW : Below w.heap.size w W) => filled_small _ _ t l W ((hN0.below hW).more hW.size) ((hA.below hW).more hW.size) hs hb hrn hrb (HM.out _ hW))
          have HD := Lib.hid hd
          have HP := Lib.hid hp
          clear hsm hN hN0 hs hA hrn hrb hp hd hb
          unfold trV at *
          generalize t.nodes.length = n at *
          generalize t.last = la at *
          generalize t.rn = tn at *
          generalize t.rb = tb at *
          have H0 := Lib.hid (hc1 #[.slice A n c, .int .i64 la, .int .i64 tn, .int .i64 tb])
          clear hc1
          unfold FilledPost at HFL
          go_enter Tryz.func3, Tryz.ntmps3
          go_wp2_with (go_at_call 9; (with_reducible refine (HSM.out _ H0.out.bel).mono ?_); rintro e w1 ⟨rfl, hb1⟩; have H1 := Lib.hid (H0.out.next hb1); have HBB := Lib.hid H1.out.bel; obtain ⟨d0, d1, d2, d3⟩ := H1.out.cells; clear hb1)
          refine (HFL.out _ H1.out.bel).mono ?_
          rintro e w2 ⟨fb, db, mb, f, rfl, hS, -, hge, hb2⟩
          have HS2 := Lib.hid hS
          have HB2 := Lib.hid (H1.out.bel.trans (hb2.mono H1.out.bel.size))
          have HGE := Lib.hid (own_ge5 (B := w.heap.size) ⟨Nat.le_trans H1.out.bel.size hge.1, Nat.le_trans H1.out.bel.size hge.2.1, Nat.le_trans H1.out.bel.size hge.2.2⟩)
          have hpm : p.size ≤ maxLen := by have := HP.out; unfold maxLen; omega
          have HPM := Lib.hid hpm
          clear hS hge hb2 hpm d0 d1 d2 d3
          go_wp2_with fail
          refine (read_any fb db mb p _ HS2.out HPM.out).mono ?_
          rintro e w3 ⟨rfl, hb3⟩
          have HS3 := Lib.hid (HS2.out.below hb3)
          have HB3 := Lib.hid (HB2.out.trans (hb3.mono HB2.out.size))
          clear hb3
          go_wp2_with fail
          refine (write_any fb db mb p data how _ HS3.out HPM.out (by have := HD.out; omega) (by omega)).mono ?_
          rintro e w4 ⟨rfl, hl4, hk4⟩
          have HS4 := Lib.hid (HS3.out.wrote hl4 hk4 (keep_write HS3.out.ok (by omega) p.data.toList data.data.toList how))
          have HB4 := Lib.hid (HB3.out.trans (hk4.below HB3.out.size HGE.out))
          clear hl4 hk4
          by_cases hz : (writeF f p.data.toList data.data.toList how).2 = 0
          · have hwr := write_wrote HS3.out.ok (by omega) p.data.toList data.data.toList how hz
            rw [hz]
            obtain ⟨hw1, ⟨hw2, hw3, hw4, hw5⟩, hw6⟩ := hwr
            have hrl := read_len HS3.out.ok p.data.toList
            have hds := HD.out
            rw [sizeD] at hds
            have hrd := fun W (hW : Sys W fb db mb (700 + 2) (writeF f p.data.toList data.data.toList how).1) => read_any fb db mb p W hW HPM.out
            have hst := fun W (hW : Sys W fb db mb (700 + 2) (writeF f p.data.toList data.data.toList how).1) => stat_any fb db mb p true W hW HPM.out (by omega)
            clear hz
            generalize (writeF f p.data.toList data.data.toList how).1 = g at *
            rw [hw1] at hrd
            unfold infV at hst
            generalize statF g p.data.toList true = sr at *
            obtain ⟨⟨k1, md, ow, tm, sz, ln⟩, e1⟩ := sr
            dsimp only at hw2 hw3 hw4 hw5 hst
            subst hw2 hw3 hw5
            by_cases hc : how = 2 ∧ (readF f p.data.toList).2 = 0
            · rw [if_pos hc] at hw4 hrd
              obtain ⟨h2, he⟩ := hc
              subst h2
              rw [he]
              have hcat := cat_nm (nm (readF f p.data.toList).1) data ((readF f p.data.toList).1 ++ data.data.toList) (by rw [nm_data]) (by rw [List.length_append]; omega)
              have hsz : sz = ((nm ((readF f p.data.toList).1 ++ data.data.toList)).size : Int) := by rw [hw4, nm_size]
              subst hsz
              dsimp only at hrd
              generalize nm ((readF f p.data.toList).1 ++ data.data.toList) = dn at *
              generalize nm (readF f p.data.toList).1 = was at *
              have HRD := Lib.hid hrd
              have HST := Lib.hid hst
              clear hrd hst hw1 hw4 hw6 he hrl hds
              go_wp2_with (first | (go_at_call 12; (with_reducible refine (HRD.out _ HS4.out).mono ?_); rintro e w5 ⟨rfl, hb5⟩; have HS5 := Lib.hid (HS4.out.below hb5); have HB5 := Lib.hid (HB4.out.trans (hb5.mono HB4.out.size)); clear hb5) | (go_at_call 14; (with_reducible refine (HST.out _ HS5.out).mono ?_); rintro e w6 ⟨rfl, hb6⟩; have hb7 := hb6.alloc hb6.size (.cells #[.int .i64 2, .int .i64 md, .int .i64 ow, .int .i64 g.ck, .int .i64 (dn.size : Int), .int .i64 ln] 39); have HS6 := Lib.hid (HS5.out.below hb7); have HB6 := Lib.hid (HB5.out.trans (hb7.mono HB5.out.size)); have HX6 := Lib.hid (heap_alloc_new w6 (.cells #[.int .i64 2, .int .i64 md, .int .i64 ow, .int .i64 g.ck, .int .i64 (dn.size : Int), .int .i64 ln] 39)); clear hb6 hb7))
              generalize w6.alloc (.cells #[.int .i64 2, .int .i64 md, .int .i64 ow, .int .i64 g.ck, .int .i64 (dn.size : Int), .int .i64 ln] 39) = W6 at *
              generalize w6.heap.size = ib at *
              have i0 := cell_blk HX6.out 0
              have i3 := cell_blk HX6.out 3
              have i4 := cell_blk HX6.out 4
              simp at i0 i3 i4
              have l0 := blk_lt HX6.out
              have HCK : Hid (∀ W, Below W6.heap.size W6 W → Calls Tryz.prog 15 #[.pointer (some ⟨fb, 0, none⟩)] W fun e w' => e = .returned (.int .i64 g.ck) ∧ Below W.heap.size W w') := Lib.hid (fun W hW => (clock_any fb db mb g W (HS6.out.below hW).live).mono fun e w' h => ⟨h.1, h.2 ▸ Below.refl _ _⟩)
              have HAW : Hid (∀ W, Below W6.heap.size W6 W → Calls Tryz.prog 10 #[] W fun e w' => e = .returned (.bool true) ∧ Below W.heap.size W w') := Lib.hid (fun W hW => awake5_any W (HM.out _ (HB6.out.trans (hW.mono HB6.out.size))))
              refine wp_region_quiet_below (by kernel_rfl) (by kernel_rfl) ?_
              repeat (first | go_big_quiet_step (((first | (go_at_call 15; exact Calls.regrown_of (HCK.out _ (below_regrown _ _ _))) | (go_at_call 10; exact Calls.regrown_of (HAW.out _ (below_regrown _ _ _)))))) | quiet_step (((first | (go_at_call 15; exact Calls.regrown_of (HCK.out _ (below_regrown _ _ _))) | (go_at_call 10; exact Calls.regrown_of (HAW.out _ (below_regrown _ _ _)))))))
              refine wpQuiet_nil ?_
              intro _ hw'
              obtain ⟨⟨dq, osq⟩, hw''⟩ := hw'
              subst hw''
              go_wp2
              go_ret
              exact ⟨rfl, HB6.out.trans ((below_regrown _ _ _).mono HB6.out.size)⟩
            · rw [if_neg hc] at hw4 hrd
              have hsz : sz = (data.size : Int) := by rw [hw4, sizeD]
              subst hsz
              dsimp only at hrd
              rw [nm_list] at hrd
              have HRD := Lib.hid hrd
              have HST := Lib.hid hst
              generalize nm (readF f p.data.toList).1 = was at *
              by_cases h2 : how = 2
              · subst h2
                have hne : ((readF f p.data.toList).2 == 0) = false := beq_eq_false_iff_ne.2 (fun e => hc ⟨rfl, e⟩)
                generalize (readF f p.data.toList).2 = er at *
                clear hrd hst hw1 hw4 hw6 hrl hds hc
                go_wp2_with (first | (go_at_call 12; (with_reducible refine (HRD.out _ HS4.out).mono ?_); rintro e w5 ⟨rfl, hb5⟩; have HS5 := Lib.hid (HS4.out.below hb5); have HB5 := Lib.hid (HB4.out.trans (hb5.mono HB4.out.size)); clear hb5) | (go_at_call 14; (with_reducible refine (HST.out _ HS5.out).mono ?_); rintro e w6 ⟨rfl, hb6⟩; have hb7 := hb6.alloc hb6.size (.cells #[.int .i64 2, .int .i64 md, .int .i64 ow, .int .i64 g.ck, .int .i64 (data.size : Int), .int .i64 ln] 39); have HS6 := Lib.hid (HS5.out.below hb7); have HB6 := Lib.hid (HB5.out.trans (hb7.mono HB5.out.size)); have HX6 := Lib.hid (heap_alloc_new w6 (.cells #[.int .i64 2, .int .i64 md, .int .i64 ow, .int .i64 g.ck, .int .i64 (data.size : Int), .int .i64 ln] 39)); clear hb6 hb7))
                generalize w6.alloc (.cells #[.int .i64 2, .int .i64 md, .int .i64 ow, .int .i64 g.ck, .int .i64 (data.size : Int), .int .i64 ln] 39) = W6 at *
                generalize w6.heap.size = ib at *
                have i0 := cell_blk HX6.out 0
                have i3 := cell_blk HX6.out 3
                have i4 := cell_blk HX6.out 4
                simp at i0 i3 i4
                have l0 := blk_lt HX6.out
                have HCK : Hid (∀ W, Below W6.heap.size W6 W → Calls Tryz.prog 15 #[.pointer (some ⟨fb, 0, none⟩)] W fun e w' => e = .returned (.int .i64 g.ck) ∧ Below W.heap.size W w') := Lib.hid (fun W hW => (clock_any fb db mb g W (HS6.out.below hW).live).mono fun e w' h => ⟨h.1, h.2 ▸ Below.refl _ _⟩)
                have HAW : Hid (∀ W, Below W6.heap.size W6 W → Calls Tryz.prog 10 #[] W fun e w' => e = .returned (.bool true) ∧ Below W.heap.size W w') := Lib.hid (fun W hW => awake5_any W (HM.out _ (HB6.out.trans (hW.mono HB6.out.size))))
                refine wp_region_quiet_below (by kernel_rfl) (by kernel_rfl) ?_
                repeat (first | go_big_quiet_step (((first | (go_at_call 15; exact Calls.regrown_of (HCK.out _ (below_regrown _ _ _))) | (go_at_call 10; exact Calls.regrown_of (HAW.out _ (below_regrown _ _ _)))))) | quiet_step (((first | (go_at_call 15; exact Calls.regrown_of (HCK.out _ (below_regrown _ _ _))) | (go_at_call 10; exact Calls.regrown_of (HAW.out _ (below_regrown _ _ _)))))))
                refine wpQuiet_nil ?_
                intro _ hw'
                obtain ⟨⟨dq, osq⟩, hw''⟩ := hw'
                subst hw''
                go_wp2
                go_ret
                exact ⟨rfl, HB6.out.trans ((below_regrown _ _ _).mono HB6.out.size)⟩
              · by_cases h3 : how = 3
                · rw [hw6 h3]
                  subst h3
                  clear hrd hst hw1 hw4 hw6 hrl hds hc h2
                  go_wp2_with (first | (go_at_call 12; (with_reducible refine (HRD.out _ HS4.out).mono ?_); rintro e w5 ⟨rfl, hb5⟩; have HS5 := Lib.hid (HS4.out.below hb5); have HB5 := Lib.hid (HB4.out.trans (hb5.mono HB4.out.size)); clear hb5) | (go_at_call 14; (with_reducible refine (HST.out _ HS5.out).mono ?_); rintro e w6 ⟨rfl, hb6⟩; have hb7 := hb6.alloc hb6.size (.cells #[.int .i64 2, .int .i64 md, .int .i64 ow, .int .i64 g.ck, .int .i64 (data.size : Int), .int .i64 ln] 39); have HS6 := Lib.hid (HS5.out.below hb7); have HB6 := Lib.hid (HB5.out.trans (hb7.mono HB5.out.size)); have HX6 := Lib.hid (heap_alloc_new w6 (.cells #[.int .i64 2, .int .i64 md, .int .i64 ow, .int .i64 g.ck, .int .i64 (data.size : Int), .int .i64 ln] 39)); clear hb6 hb7))
                  generalize w6.alloc (.cells #[.int .i64 2, .int .i64 md, .int .i64 ow, .int .i64 g.ck, .int .i64 (data.size : Int), .int .i64 ln] 39) = W6 at *
                  generalize w6.heap.size = ib at *
                  have i0 := cell_blk HX6.out 0
                  have i3 := cell_blk HX6.out 3
                  have i4 := cell_blk HX6.out 4
                  simp at i0 i3 i4
                  have l0 := blk_lt HX6.out
                  have HCK : Hid (∀ W, Below W6.heap.size W6 W → Calls Tryz.prog 15 #[.pointer (some ⟨fb, 0, none⟩)] W fun e w' => e = .returned (.int .i64 g.ck) ∧ Below W.heap.size W w') := Lib.hid (fun W hW => (clock_any fb db mb g W (HS6.out.below hW).live).mono fun e w' h => ⟨h.1, h.2 ▸ Below.refl _ _⟩)
                  have HAW : Hid (∀ W, Below W6.heap.size W6 W → Calls Tryz.prog 10 #[] W fun e w' => e = .returned (.bool true) ∧ Below W.heap.size W w') := Lib.hid (fun W hW => awake5_any W (HM.out _ (HB6.out.trans (hW.mono HB6.out.size))))
                  refine wp_region_quiet_below (by kernel_rfl) (by kernel_rfl) ?_
                  repeat (first | go_big_quiet_step (((first | (go_at_call 15; exact Calls.regrown_of (HCK.out _ (below_regrown _ _ _))) | (go_at_call 10; exact Calls.regrown_of (HAW.out _ (below_regrown _ _ _)))))) | quiet_step (((first | (go_at_call 15; exact Calls.regrown_of (HCK.out _ (below_regrown _ _ _))) | (go_at_call 10; exact Calls.regrown_of (HAW.out _ (below_regrown _ _ _)))))))
                  refine wpQuiet_nil ?_
                  intro _ hw'
                  obtain ⟨⟨dq, osq⟩, hw''⟩ := hw'
                  subst hw''
                  go_wp2
                  go_ret
                  exact ⟨rfl, HB6.out.trans ((below_regrown _ _ _).mono HB6.out.size)⟩
                · have hn2 : (how == 2) = false := beq_eq_false_iff_ne.2 h2
                  have hn3 : (how == 3) = false := beq_eq_false_iff_ne.2 h3
                  generalize (readF f p.data.toList).2 = er at *
                  clear hrd hst hw1 hw4 hw6 hrl hds hc h2 h3
                  go_wp2_with (first | (go_at_call 12; (with_reducible refine (HRD.out _ HS4.out).mono ?_); rintro e w5 ⟨rfl, hb5⟩; have HS5 := Lib.hid (HS4.out.below hb5); have HB5 := Lib.hid (HB4.out.trans (hb5.mono HB4.out.size)); clear hb5) | (go_at_call 14; (with_reducible refine (HST.out _ HS5.out).mono ?_); rintro e w6 ⟨rfl, hb6⟩; have hb7 := hb6.alloc hb6.size (.cells #[.int .i64 2, .int .i64 md, .int .i64 ow, .int .i64 g.ck, .int .i64 (data.size : Int), .int .i64 ln] 39); have HS6 := Lib.hid (HS5.out.below hb7); have HB6 := Lib.hid (HB5.out.trans (hb7.mono HB5.out.size)); have HX6 := Lib.hid (heap_alloc_new w6 (.cells #[.int .i64 2, .int .i64 md, .int .i64 ow, .int .i64 g.ck, .int .i64 (data.size : Int), .int .i64 ln] 39)); clear hb6 hb7))
                  generalize w6.alloc (.cells #[.int .i64 2, .int .i64 md, .int .i64 ow, .int .i64 g.ck, .int .i64 (data.size : Int), .int .i64 ln] 39) = W6 at *
                  generalize w6.heap.size = ib at *
                  have i0 := cell_blk HX6.out 0
                  have i3 := cell_blk HX6.out 3
                  have i4 := cell_blk HX6.out 4
                  simp at i0 i3 i4
                  have l0 := blk_lt HX6.out
                  have HCK : Hid (∀ W, Below W6.heap.size W6 W → Calls Tryz.prog 15 #[.pointer (some ⟨fb, 0, none⟩)] W fun e w' => e = .returned (.int .i64 g.ck) ∧ Below W.heap.size W w') := Lib.hid (fun W hW => (clock_any fb db mb g W (HS6.out.below hW).live).mono fun e w' h => ⟨h.1, h.2 ▸ Below.refl _ _⟩)
                  have HAW : Hid (∀ W, Below W6.heap.size W6 W → Calls Tryz.prog 10 #[] W fun e w' => e = .returned (.bool true) ∧ Below W.heap.size W w') := Lib.hid (fun W hW => awake5_any W (HM.out _ (HB6.out.trans (hW.mono HB6.out.size))))
                  refine wp_region_quiet_below (by kernel_rfl) (by kernel_rfl) ?_
                  repeat (first | go_big_quiet_step (((first | (go_at_call 15; exact Calls.regrown_of (HCK.out _ (below_regrown _ _ _))) | (go_at_call 10; exact Calls.regrown_of (HAW.out _ (below_regrown _ _ _)))))) | quiet_step (((first | (go_at_call 15; exact Calls.regrown_of (HCK.out _ (below_regrown _ _ _))) | (go_at_call 10; exact Calls.regrown_of (HAW.out _ (below_regrown _ _ _)))))))
                  refine wpQuiet_nil ?_
                  intro _ hw'
                  obtain ⟨⟨dq, osq⟩, hw''⟩ := hw'
                  subst hw''
                  go_wp2
                  go_ret
                  exact ⟨rfl, HB6.out.trans ((below_regrown _ _ _).mono HB6.out.size)⟩
          · have x2 : ((writeF f p.data.toList data.data.toList how).2 != 0) = true := bne_iff_ne.2 hz
            have HBB := HB4
            generalize (writeF f p.data.toList data.data.toList how).2 = x at *
            clear hz
            go_wp2_with (go_at_call 10; (with_reducible refine (awake5_any _ (HM.out _ HBB.out)).mono ?_); rintro e w9 ⟨rfl, hb9⟩; have HB9 := Lib.hid (HBB.out.trans (hb9.mono HBB.out.size)); clear hb9)
            go_ret
            exact ⟨rfl, HB9.out⟩
      · have hd1 : (10000 : Int) < (data.size : Int) := by omega
        clear hsm hN hN0 hs hA hrn hrb hp hd
        unfold trV at *
        generalize t.nodes.length = n at *
        generalize t.last = la at *
        generalize t.rn = tn at *
        generalize t.rb = tb at *
        have H0 := Lib.hid (hc1 #[.slice A n c, .int .i64 la, .int .i64 tn, .int .i64 tb])
        clear hc1
        go_enter Tryz.func3, Tryz.ntmps3
        go_wp2_with (first | (go_at_call 9; (with_reducible refine (HSM.out _ H0.out.bel).mono ?_); rintro e w1 ⟨rfl, hb1⟩; have H1 := Lib.hid (H0.out.next hb1); have HBB := Lib.hid H1.out.bel; obtain ⟨d0, d1, d2, d3⟩ := H1.out.cells; clear hb1) | (go_at_call 10; (with_reducible refine (awake5_any _ (HM.out _ HBB.out)).mono ?_); rintro e w9 ⟨rfl, hb9⟩; have HB9 := Lib.hid (HBB.out.trans (hb9.mono HBB.out.size)); clear hb9))
        go_ret
        exact ⟨rfl, HB9.out⟩
    · have hp1 : (1000 : Int) < (p.size : Int) := by omega
      clear hsm hN hN0 hs hA hrn hrb hp
      unfold trV at *
      generalize t.nodes.length = n at *
      generalize t.last = la at *
      generalize t.rn = tn at *
      generalize t.rb = tb at *
      have H0 := Lib.hid (hc1 #[.slice A n c, .int .i64 la, .int .i64 tn, .int .i64 tb])
      clear hc1
      go_enter Tryz.func3, Tryz.ntmps3
      go_wp2_with (first | (go_at_call 9; (with_reducible refine (HSM.out _ H0.out.bel).mono ?_); rintro e w1 ⟨rfl, hb1⟩; have H1 := Lib.hid (H0.out.next hb1); have HBB := Lib.hid H1.out.bel; obtain ⟨d0, d1, d2, d3⟩ := H1.out.cells; clear hb1) | (go_at_call 10; (with_reducible refine (awake5_any _ (HM.out _ HBB.out)).mono ?_); rintro e w9 ⟨rfl, hb9⟩; have HB9 := Lib.hid (HBB.out.trans (hb9.mono HBB.out.size)); clear hb9))
      go_ret
      exact ⟨rfl, HB9.out⟩
theorem writes_row (nv : Value) (t : Tr) (av : Value) (l : List ActV) (p data : ByteArray) (how : Int) (w : World) (hN : NodesIn w w.heap.size nv t.nodes) (hR : i64 t.rn ∧ i64 t.rb) (hA : ActsIn w w.heap.size av l) (_ : p.size ≤ maxLen) (_ : data.size ≤ maxLen) (_ : -9223372036854775808 ≤ how) (_ : how ≤ 9223372036854775807) (hM : ∃ m, w.cell? ⟨0, 0, none⟩ = some (.int .i64 m)) :
    Calls Tryz.prog 3 #[trV nv t, av, .string p, .string data, .int .i64 how] w fun e w' => e = .returned (.bool true) ∧ Below w.heap.size w w' :=
  writes_law nv av t l p data how w hN hA hR.1 hR.2 hM
end Go.Proofs.YtpicgkoclbpjpaaGreatDoor
