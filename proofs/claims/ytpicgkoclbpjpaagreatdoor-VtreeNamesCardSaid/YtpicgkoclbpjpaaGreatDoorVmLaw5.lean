/- DERIVED. The law VtreeNames: a directory, or a link, that is made is there, and is listed, and is there no more when it is taken away. Made by program (gen/vlaw5.py). -/
import Derived.Test.YtpicgkoclbpjpaaGreatDoorVtG13
import Derived.Test.YtpicgkoclbpjpaaGreatDoorVtG12
import Derived.Test.YtpicgkoclbpjpaaGreatDoorVmLaw3
import Derived.Test.YtpicgkoclbpjpaaGreatDoorVmList
namespace Go.Proofs.YtpicgkoclbpjpaaGreatDoor
open Go.RowKit Go.Sort Go.Lib Go.Shelf
open PathM TreeM VtM
set_option linter.unusedVariables false
attribute [local go_sem] cell_rg
theorem list_len {k : Nat} {f : Fs} (h : FsOk k f) (p : Bs) : (listF f p).1.length ≤ k := by
  unfold listF
  cases thereF f p true with
  | error x => simp
  | ok a =>
    dsimp only
    split
    · rw [List.length_map]; exact h.ncnt _
    · simp
theorem name_len {l : Bs} (h : nameB l = true) : l.length ≤ 64 := by
  unfold nameB at h
  simp only [Bool.and_eq_true, decide_eq_true_eq] at h
  omega


set_option maxRecDepth 100000 in
set_option maxHeartbeats 8000000 in
theorem names_law (nv av : Value) (t : Tr) (l : List ActV) (name : ByteArray) (dir : Bool) (hnm : name.size ≤ maxLen) (w : World) (hN : NodesIn w w.heap.size nv t.nodes) (hA : ActsIn w w.heap.size av l) (hrn : i64 t.rn) (hrb : i64 t.rb) (hM : ∃ m, w.cell? ⟨0, 0, none⟩ = some (.int .i64 m)) :
    Calls Tryz.prog 4 #[trV nv t, av, .string name, .bool dir] w fun e w' => e = .returned (.bool true) ∧ Below w.heap.size w w' := by
  have hN0 := hN
  have HM : Hid (∀ W, Below w.heap.size w W → ∃ m, W.cell? ⟨0, 0, none⟩ = some (.int .i64 m)) := Lib.hid (fun W hW => by
    obtain ⟨m, hm⟩ := hM
    exact ⟨m, (hW.cell (p := ⟨0, 0, none⟩) (cell_lt hm)).trans hm⟩)
  clear hM
  have hsm := fun W (hW : Below w.heap.size w W) => small_any nv t w.heap.size W (hN0.below hW) hW.size
  have hc1 : ∀ tv : Array Value, CB w tv (w.alloc (.cells tv 26)) := fun tv => ⟨heap_alloc_new w _, (Below.refl _ _).alloc (Nat.le_refl _) _⟩
  unfold BelowB at hsm
  obtain ⟨A, c, rfl⟩ := nodes_len hN
  obtain ⟨A2, c2, rfl⟩ := hA.len
  cases hs : smallB t with
  | false =>
    rw [hs] at hsm
    have HSM := Lib.hid hsm
    clear hsm hN hN0 hs hA hrn hrb
    unfold trV at *
    generalize t.nodes.length = n at *
    generalize t.last = la at *
    generalize t.rn = tn at *
    generalize t.rb = tb at *
    have H0 := Lib.hid (hc1 #[.slice A n c, .int .i64 la, .int .i64 tn, .int .i64 tb])
    clear hc1
    go_enter Tryz.func4, Tryz.ntmps4
    go_wp2_with (first | (go_at_call 9; (with_reducible refine (HSM.out _ H0.out.bel).mono ?_); rintro e w1 ⟨rfl, hb1⟩; have H1 := Lib.hid (H0.out.next hb1); have HBB := Lib.hid H1.out.bel; obtain ⟨d0, d1, d2, d3⟩ := H1.out.cells; clear hb1) | (go_at_call 16; (with_reducible refine (HNM.out _).mono ?_); rintro e w' ⟨rfl, rfl⟩) | (go_at_call 10; (with_reducible refine (awake5_any _ (HM.out _ HBB.out)).mono ?_); rintro e w9 ⟨rfl, hb9⟩; have HB9 := Lib.hid (HBB.out.trans (hb9.mono HBB.out.size)); clear hb9))
    go_ret
    exact ⟨rfl, HB9.out⟩
  | true =>
    rw [hs] at hsm
    have HSM := Lib.hid hsm
    by_cases hg0 : nameB name.data.toList = true
    · have HNM := Lib.hid (fun W => rname_any name W hnm)
      rw [hg0] at HNM
      cases hb : checkB t with
      | false =>
        have HFB := Lib.hid (fun W (hW : Below w.heap.size w W) => filled_bad _ _ t l W ((hN0.below hW).more hW.size) ((hA.below hW).more hW.size) hb)
        clear hsm hN hN0 hs hA hrn hrb hg0 hb
        unfold trV at *
        generalize t.nodes.length = n at *
        generalize t.last = la at *
        generalize t.rn = tn at *
        generalize t.rb = tb at *
        have H0 := Lib.hid (hc1 #[.slice A n c, .int .i64 la, .int .i64 tn, .int .i64 tb])
        clear hc1
        go_enter Tryz.func4, Tryz.ntmps4
        go_wp2_with (first | (go_at_call 9; (with_reducible refine (HSM.out _ H0.out.bel).mono ?_); rintro e w1 ⟨rfl, hb1⟩; have H1 := Lib.hid (H0.out.next hb1); have HBB := Lib.hid H1.out.bel; obtain ⟨d0, d1, d2, d3⟩ := H1.out.cells; clear hb1) | (go_at_call 16; (with_reducible refine (HNM.out _).mono ?_); rintro e w' ⟨rfl, rfl⟩) | (go_at_call 11; (with_reducible refine (HFB.out _ H1.out.bel).mono ?_); rintro e w2 ⟨rfl, hb2⟩; have HBB := Lib.hid (H1.out.bel.trans (hb2.mono H1.out.bel.size)); clear hb2) | (go_at_call 10; (with_reducible refine (awake5_any _ (HM.out _ HBB.out)).mono ?_); rintro e w9 ⟨rfl, hb9⟩; have HB9 := Lib.hid (HBB.out.trans (hb9.mono HBB.out.size)); clear hb9))
        go_ret
        exact ⟨rfl, HB9.out⟩
      | true =>
        have HFL := Lib.hid (fun W (hW : Below w.heap.size w W) => filled_small _ _ t l W ((hN0.below hW).more hW.size) ((hA.below hW).more hW.size) hs hb hrn hrb (HM.out _ hW))
        have HG0 := Lib.hid hg0
        clear hsm hN hN0 hs hA hrn hrb hg0 hb
        unfold trV at *
        generalize t.nodes.length = n at *
        generalize t.last = la at *
        generalize t.rn = tn at *
        generalize t.rb = tb at *
        have H0 := Lib.hid (hc1 #[.slice A n c, .int .i64 la, .int .i64 tn, .int .i64 tb])
        clear hc1
        unfold FilledPost at HFL
        go_enter Tryz.func4, Tryz.ntmps4
        go_wp2_with (first | (go_at_call 9; (with_reducible refine (HSM.out _ H0.out.bel).mono ?_); rintro e w1 ⟨rfl, hb1⟩; have H1 := Lib.hid (H0.out.next hb1); have HBB := Lib.hid H1.out.bel; obtain ⟨d0, d1, d2, d3⟩ := H1.out.cells; clear hb1) | (go_at_call 16; (with_reducible refine (HNM.out _).mono ?_); rintro e w' ⟨rfl, rfl⟩))
        refine (HFL.out _ H1.out.bel).mono ?_
        rintro e w2 ⟨fb, db, mb, f, rfl, hS, h1, hge, hb2⟩
        have HS2 := Lib.hid hS
        have HO2 := Lib.hid h1
        have HB2 := Lib.hid (H1.out.bel.trans (hb2.mono H1.out.bel.size))
        have HGE := Lib.hid (own_ge5 (B := w.heap.size) ⟨Nat.le_trans H1.out.bel.size hge.1, Nat.le_trans H1.out.bel.size hge.2.1, Nat.le_trans H1.out.bel.size hge.2.2⟩)
        clear hS h1 hge hb2 d0 d1 d2 d3
        have hnl : name.data.toList.length ≤ 64 := name_len HG0.out
        have hnz := sizeD name
        have hcat := cat_nm ⟨#[47]⟩ name (47 :: name.data.toList) rfl (by rw [List.length_cons]; omega)
        obtain ⟨pb, hpb, hpd⟩ : ∃ pb, nm (47 :: name.data.toList) = pb ∧ pb.data.toList = 47 :: name.data.toList := ⟨_, rfl, rfl⟩
        rw [hpb] at hcat
        have hpm : pb.size ≤ maxLen := by rw [sizeD, hpd, List.length_cons]; unfold maxLen; omega
        have HPM := Lib.hid hpm
        have HPD := Lib.hid hpd
        clear hpm hpd hpb hnl hnz
        go_wp2_with fail
        refine (symlink_any fb db mb ⟨#[120]⟩ pb _ HS2.out HPM.out (by omega)).mono ?_
        rintro e w4 ⟨rfl, hl4, hk4⟩
        rw [HPD.out, show (⟨#[120]⟩ : ByteArray).data.toList = [120] from rfl] at hl4
        rw [HPD.out, show (⟨#[120]⟩ : ByteArray).data.toList = [120] from rfl]
        have HS4 := Lib.hid (HS2.out.wrote hl4 hk4 (keep_symlink HS2.out.ok (by omega) [120] (47 :: name.data.toList)))
        have HB4 := Lib.hid (HB2.out.trans (hk4.below HB2.out.size HGE.out))
        clear hl4 hk4
        cases dir with
        | false =>
          by_cases hz : (symlinkF f [120] (47 :: name.data.toList)).2 = 0
          · obtain ⟨N, hsh, hck, hcl, hst2⟩ := names_link HS2.out.ok (by omega) HG0.out hz
            rw [hz]
            clear hz
            have HSg := HS4
            have HBg := HB4
            generalize (symlinkF f [120] (47 :: name.data.toList)).1 = g at *
            obtain ⟨hfi, ⟨md, ow, tm, sz, hst⟩, hls, hcn⟩ := hsh
            have HCK := Lib.hid hck
            have HCL := Lib.hid hcl
            have HS2F := Lib.hid hst2
            clear hfi hck hcl hst2
            go_wp2_with fail
            refine (stat_any fb db mb pb false _ HSg.out HPM.out (by omega)).mono ?_
            rintro e w5 ⟨rfl, hb5⟩
            rw [HPD.out, hst]
            unfold infV
            dsimp only
            have hba := hb5.alloc hb5.size (.cells #[.int .i64 3, .int .i64 md, .int .i64 ow, .int .i64 tm, .int .i64 sz, .int .i64 1] 39)
            have HS5 := Lib.hid (HSg.out.below hba)
            have HB5 := Lib.hid (HBg.out.trans (hba.mono HBg.out.size))
            have HX5 := Lib.hid (heap_alloc_new w5 (.cells #[.int .i64 3, .int .i64 md, .int .i64 ow, .int .i64 tm, .int .i64 sz, .int .i64 1] 39))
            clear hb5 hba hst
            go_wp2_with fail
            generalize w5.alloc (.cells #[.int .i64 3, .int .i64 md, .int .i64 ow, .int .i64 tm, .int .i64 sz, .int .i64 1] 39) = W5 at *
            generalize w5.heap.size = ia at *
            refine (list_any fb db mb ⟨#[47]⟩ _ HS5.out (by decide) (by omega)).mono ?_
            rintro e w6 ⟨v, rfl, hL, hb6⟩
            rw [show (⟨#[47]⟩ : ByteArray).data.toList = [47] from rfl] at hL ⊢
            rw [hls]
            have hLl := list_len HSg.out.ok [47]
            generalize (listF g [47]).1 = L at *
            obtain ⟨Al, cl, rfl⟩ := hL.len
            have HL := Lib.hid hL
            have HS6 := Lib.hid (HS5.out.below hb6)
            have HB6 := Lib.hid (HB5.out.trans (hb6.mono HB5.out.size))
            have HX6 := Lib.hid ((hb6.block _ (blk_lt HX5.out)).trans HX5.out)
            have HCN := Lib.hid hcn
            clear hL hb6 hcn hls
            have i0 := cell_blk HX6.out 0
            have i5 := cell_blk HX6.out 5
            simp at i0 i5
            go_wp2_with fail
            go_loop [18, 19] (fun s18 s19 => ∃ q : Nat, s19 = .int .i64 (q : Int) ∧ q ≤ L.length ∧ s18 = .int .i64 (((L.take q).count name.data.toList : Nat) : Int)) (fun s18 s19 => L.length - (intOf s19).toNat)
            case atStart => exact ⟨0, rfl, by omega, by simp⟩
            case round =>
              obtain ⟨q, rfl, hq, rfl⟩ := hrel
              by_cases hlt : q < L.length
              · have hli : (q : Int) < (L.length : Int) := by omega
                have hne : L ≠ [] := fun e => by rw [e] at hlt; cases hlt
                obtain ⟨b, off, c', hv, hcap, hbb, -, hcells⟩ := HL.out.cases hne
                injection hv with hv1 hv2 hv3
                subst hv1
                have x0 := hcells q hlt
                have hgx : L.getD q [] = L[q] := by rw [List.getD_eq_getElem?_getD, List.getElem?_eq_getElem hlt]; rfl
                have htk : L.take (q + 1) = L.take q ++ [L[q]] := List.take_succ_eq_append_getElem hlt
                have hcb : (L.take q).count name.data.toList ≤ L.length := Nat.le_trans List.count_le_length (by rw [List.length_take]; omega)
                have hll : L.length ≤ 9223372036854775807 := by omega
                rw [hgx] at x0
                by_cases he : L[q] = name.data.toList
                · have q3 : ((nm L[q]).toList == name.toList) = true := by rw [listD, listD]; show (L[q] == name.data.toList) = true; simp [he]
                  have HTK : Hid (((L.take (q + 1)).count name.data.toList : Nat) = (L.take q).count name.data.toList + 1) := Lib.hid (by rw [htk, List.count_append, he]; simp)
                  clear htk hgx hcells he hne hv2 hv3
                  generalize (L.take q).count name.data.toList = cn at *
                  generalize L[q] = y at *
                  go_wp2
                  go_round
                  case rel => exact ⟨q + 1, by go_num, by omega, by rw [HTK.out]; go_num⟩
                  case measure => simp [intOf]; omega
                · have q3 : ((nm L[q]).toList == name.toList) = false := by rw [listD, listD]; rw [beq_eq_false_iff_ne]; exact he
                  have HTK : Hid (((L.take (q + 1)).count name.data.toList : Nat) = (L.take q).count name.data.toList) := Lib.hid (by
                    rw [htk, List.count_append, List.count_singleton, if_neg (by simpa using he)]; simp)
                  clear htk hgx hcells he hne hv2 hv3
                  generalize (L.take q).count name.data.toList = cn at *
                  generalize L[q] = y at *
                  go_wp2
                  go_round
                  case rel => exact ⟨q + 1, by go_num, by omega, by rw [HTK.out]⟩
                  case measure => simp [intOf]; omega
              · have hli : ¬ (q : Int) < (L.length : Int) := by omega
                rw [List.take_of_length_le (by omega), HCN.out]
                clear hlt
                go_wp2_with fail
                refine (rmdir_any fb db mb pb _ HS6.out HPM.out (by omega)).mono ?_
                rintro e w7 ⟨rfl, hl7, hk7⟩
                rw [HPD.out, HCK.out] at hl7
                rw [HPD.out, HCK.out]
                have HS7 := Lib.hid (HS6.out.wrote hl7 hk7 HS6.out.ok)
                have HB7 := Lib.hid (HB6.out.trans (hk7.below HB6.out.size HGE.out))
                clear hl7 hk7 i0 i5
                go_wp2_with fail
                refine (unlink_any fb db mb pb _ HS7.out HPM.out (by omega)).mono ?_
                rintro e w8 ⟨rfl, hl8, hk8⟩
                rw [HPD.out] at hl8
                rw [HPD.out]
                have HS8 := Lib.hid (HS7.out.wrote hl8 hk8 (keep_unlink HS7.out.ok (47 :: name.data.toList)))
                have HB8 := Lib.hid (HB7.out.trans (hk8.below HB7.out.size HGE.out))
                rw [HCL.out]
                clear hl8 hk8
                have hs2 := HS2F.out
                generalize (unlinkF g (47 :: name.data.toList)).1 = g2 at *
                go_wp2_with fail
                refine (stat_any fb db mb pb false _ HS8.out HPM.out (by omega)).mono ?_
                rintro e wC ⟨rfl, hbC⟩
                rw [HPD.out, hs2]
                unfold infV
                have HBB := Lib.hid (HB8.out.trans (hbC.mono HB8.out.size))
                clear hbC hs2
                go_wp2_with (go_at_call 10; (with_reducible refine (awake5_any _ (HM.out _ HBB.out)).mono ?_); rintro e w9 ⟨rfl, hb9⟩; have HB9 := Lib.hid (HBB.out.trans (hb9.mono HBB.out.size)); clear hb9)
                go_ret
                exact ⟨rfl, HB9.out⟩
          · have x2 : ((symlinkF f [120] (47 :: name.data.toList)).2 != 0) = true := bne_iff_ne.2 hz
            have HBB := HB4
            generalize (symlinkF f [120] (47 :: name.data.toList)).2 = x at *
            clear hz
            go_wp2_with (go_at_call 10; (with_reducible refine (awake5_any _ (HM.out _ HBB.out)).mono ?_); rintro e w9 ⟨rfl, hb9⟩; have HB9 := Lib.hid (HBB.out.trans (hb9.mono HBB.out.size)); clear hb9)
            go_ret
            exact ⟨rfl, HB9.out⟩
        | true =>
          generalize (symlinkF f [120] (47 :: name.data.toList)).1 = f1 at *
          generalize (symlinkF f [120] (47 :: name.data.toList)).2 = e1 at *
          go_wp2_with fail
          refine (unlink_any fb db mb pb _ HS4.out HPM.out (by omega)).mono ?_
          rintro e wD ⟨rfl, hlD, hkD⟩
          have HSD := Lib.hid (HS4.out.wrote hlD hkD (keep_unlink HS4.out.ok pb.data.toList))
          have HBD := Lib.hid (HB4.out.trans (hkD.below HB4.out.size HGE.out))
          clear hlD hkD
          generalize (unlinkF f1 pb.data.toList).1 = f2 at *
          generalize (unlinkF f1 pb.data.toList).2 = e2 at *
          go_wp2_with fail
          refine (mkdir_any fb db mb pb 448 _ HSD.out HPM.out (by omega)).mono ?_
          rintro e wE ⟨rfl, hlE, hkE⟩
          rw [HPD.out] at hlE
          rw [HPD.out]
          have HSg := Lib.hid (HSD.out.wrote hlE hkE (keep_mkdir HSD.out.ok (by omega) (47 :: name.data.toList) 448))
          have HBg := Lib.hid (HBD.out.trans (hkE.below HBD.out.size HGE.out))
          clear hlE hkE
          by_cases hz : (mkdirF f2 (47 :: name.data.toList) 448).2 = 0
          · obtain ⟨N, hsh, hck, hcl, hst2⟩ := names_dir HSD.out.ok (by omega) HG0.out hz
            rw [hz]
            clear hz
            generalize (mkdirF f2 (47 :: name.data.toList) 448).1 = g at *
            obtain ⟨hfi, ⟨md, ow, tm, sz, hst⟩, hls, hcn⟩ := hsh
            have HCK := Lib.hid hck
            have HCL := Lib.hid hcl
            have HS2F := Lib.hid hst2
            clear hfi hck hcl hst2
            go_wp2_with fail
            refine (stat_any fb db mb pb false _ HSg.out HPM.out (by omega)).mono ?_
            rintro e w5 ⟨rfl, hb5⟩
            rw [HPD.out, hst]
            unfold infV
            dsimp only
            have hba := hb5.alloc hb5.size (.cells #[.int .i64 1, .int .i64 md, .int .i64 ow, .int .i64 tm, .int .i64 sz, .int .i64 1] 39)
            have HS5 := Lib.hid (HSg.out.below hba)
            have HB5 := Lib.hid (HBg.out.trans (hba.mono HBg.out.size))
            have HX5 := Lib.hid (heap_alloc_new w5 (.cells #[.int .i64 1, .int .i64 md, .int .i64 ow, .int .i64 tm, .int .i64 sz, .int .i64 1] 39))
            clear hb5 hba hst
            go_wp2_with fail
            generalize w5.alloc (.cells #[.int .i64 1, .int .i64 md, .int .i64 ow, .int .i64 tm, .int .i64 sz, .int .i64 1] 39) = W5 at *
            generalize w5.heap.size = ia at *
            refine (list_any fb db mb ⟨#[47]⟩ _ HS5.out (by decide) (by omega)).mono ?_
            rintro e w6 ⟨v, rfl, hL, hb6⟩
            rw [show (⟨#[47]⟩ : ByteArray).data.toList = [47] from rfl] at hL ⊢
            rw [hls]
            have hLl := list_len HSg.out.ok [47]
            generalize (listF g [47]).1 = L at *
            obtain ⟨Al, cl, rfl⟩ := hL.len
            have HL := Lib.hid hL
            have HS6 := Lib.hid (HS5.out.below hb6)
            have HB6 := Lib.hid (HB5.out.trans (hb6.mono HB5.out.size))
            have HX6 := Lib.hid ((hb6.block _ (blk_lt HX5.out)).trans HX5.out)
            have HCN := Lib.hid hcn
            clear hL hb6 hcn hls
            have i0 := cell_blk HX6.out 0
            have i5 := cell_blk HX6.out 5
            simp at i0 i5
            go_wp2_with fail
            go_loop [18, 19] (fun s18 s19 => ∃ q : Nat, s19 = .int .i64 (q : Int) ∧ q ≤ L.length ∧ s18 = .int .i64 (((L.take q).count name.data.toList : Nat) : Int)) (fun s18 s19 => L.length - (intOf s19).toNat)
            case atStart => exact ⟨0, rfl, by omega, by simp⟩
            case round =>
              obtain ⟨q, rfl, hq, rfl⟩ := hrel
              by_cases hlt : q < L.length
              · have hli : (q : Int) < (L.length : Int) := by omega
                have hne : L ≠ [] := fun e => by rw [e] at hlt; cases hlt
                obtain ⟨b, off, c', hv, hcap, hbb, -, hcells⟩ := HL.out.cases hne
                injection hv with hv1 hv2 hv3
                subst hv1
                have x0 := hcells q hlt
                have hgx : L.getD q [] = L[q] := by rw [List.getD_eq_getElem?_getD, List.getElem?_eq_getElem hlt]; rfl
                have htk : L.take (q + 1) = L.take q ++ [L[q]] := List.take_succ_eq_append_getElem hlt
                have hcb : (L.take q).count name.data.toList ≤ L.length := Nat.le_trans List.count_le_length (by rw [List.length_take]; omega)
                have hll : L.length ≤ 9223372036854775807 := by omega
                rw [hgx] at x0
                by_cases he : L[q] = name.data.toList
                · have q3 : ((nm L[q]).toList == name.toList) = true := by rw [listD, listD]; show (L[q] == name.data.toList) = true; simp [he]
                  have HTK : Hid (((L.take (q + 1)).count name.data.toList : Nat) = (L.take q).count name.data.toList + 1) := Lib.hid (by rw [htk, List.count_append, he]; simp)
                  clear htk hgx hcells he hne hv2 hv3
                  generalize (L.take q).count name.data.toList = cn at *
                  generalize L[q] = y at *
                  go_wp2
                  go_round
                  case rel => exact ⟨q + 1, by go_num, by omega, by rw [HTK.out]; go_num⟩
                  case measure => simp [intOf]; omega
                · have q3 : ((nm L[q]).toList == name.toList) = false := by rw [listD, listD]; rw [beq_eq_false_iff_ne]; exact he
                  have HTK : Hid (((L.take (q + 1)).count name.data.toList : Nat) = (L.take q).count name.data.toList) := Lib.hid (by
                    rw [htk, List.count_append, List.count_singleton, if_neg (by simpa using he)]; simp)
                  clear htk hgx hcells he hne hv2 hv3
                  generalize (L.take q).count name.data.toList = cn at *
                  generalize L[q] = y at *
                  go_wp2
                  go_round
                  case rel => exact ⟨q + 1, by go_num, by omega, by rw [HTK.out]⟩
                  case measure => simp [intOf]; omega
              · have hli : ¬ (q : Int) < (L.length : Int) := by omega
                rw [List.take_of_length_le (by omega), HCN.out]
                clear hlt
                go_wp2_with fail
                refine (unlink_any fb db mb pb _ HS6.out HPM.out (by omega)).mono ?_
                rintro e w7 ⟨rfl, hl7, hk7⟩
                rw [HPD.out, HCK.out] at hl7
                rw [HPD.out, HCK.out]
                have HS7 := Lib.hid (HS6.out.wrote hl7 hk7 HS6.out.ok)
                have HB7 := Lib.hid (HB6.out.trans (hk7.below HB6.out.size HGE.out))
                clear hl7 hk7 i0 i5
                go_wp2_with fail
                refine (rmdir_any fb db mb pb _ HS7.out HPM.out (by omega)).mono ?_
                rintro e w8 ⟨rfl, hl8, hk8⟩
                rw [HPD.out] at hl8
                rw [HPD.out]
                have HS8 := Lib.hid (HS7.out.wrote hl8 hk8 (keep_rmdir HS7.out.ok (47 :: name.data.toList)))
                have HB8 := Lib.hid (HB7.out.trans (hk8.below HB7.out.size HGE.out))
                rw [HCL.out]
                clear hl8 hk8
                have hs2 := HS2F.out
                generalize (rmdirF g (47 :: name.data.toList)).1 = g2 at *
                go_wp2_with fail
                refine (stat_any fb db mb pb false _ HS8.out HPM.out (by omega)).mono ?_
                rintro e wC ⟨rfl, hbC⟩
                rw [HPD.out, hs2]
                unfold infV
                have HBB := Lib.hid (HB8.out.trans (hbC.mono HB8.out.size))
                clear hbC hs2
                go_wp2_with (go_at_call 10; (with_reducible refine (awake5_any _ (HM.out _ HBB.out)).mono ?_); rintro e w9 ⟨rfl, hb9⟩; have HB9 := Lib.hid (HBB.out.trans (hb9.mono HBB.out.size)); clear hb9)
                go_ret
                exact ⟨rfl, HB9.out⟩
          · have x2 : ((mkdirF f2 (47 :: name.data.toList) 448).2 != 0) = true := bne_iff_ne.2 hz
            have HBB := HBg
            generalize (mkdirF f2 (47 :: name.data.toList) 448).2 = x at *
            clear hz
            go_wp2_with (go_at_call 10; (with_reducible refine (awake5_any _ (HM.out _ HBB.out)).mono ?_); rintro e w9 ⟨rfl, hb9⟩; have HB9 := Lib.hid (HBB.out.trans (hb9.mono HBB.out.size)); clear hb9)
            go_ret
            exact ⟨rfl, HB9.out⟩
    · have HNM := Lib.hid (fun W => rname_any name W hnm)
      rw [show nameB name.data.toList = false from by simpa using hg0] at HNM
      clear hsm hN hN0 hs hA hrn hrb hg0
      unfold trV at *
      generalize t.nodes.length = n at *
      generalize t.last = la at *
      generalize t.rn = tn at *
      generalize t.rb = tb at *
      have H0 := Lib.hid (hc1 #[.slice A n c, .int .i64 la, .int .i64 tn, .int .i64 tb])
      clear hc1
      go_enter Tryz.func4, Tryz.ntmps4
      go_wp2_with (first | (go_at_call 9; (with_reducible refine (HSM.out _ H0.out.bel).mono ?_); rintro e w1 ⟨rfl, hb1⟩; have H1 := Lib.hid (H0.out.next hb1); have HBB := Lib.hid H1.out.bel; obtain ⟨d0, d1, d2, d3⟩ := H1.out.cells; clear hb1) | (go_at_call 16; (with_reducible refine (HNM.out _).mono ?_); rintro e w' ⟨rfl, rfl⟩) | (go_at_call 10; (with_reducible refine (awake5_any _ (HM.out _ HBB.out)).mono ?_); rintro e w9 ⟨rfl, hb9⟩; have HB9 := Lib.hid (HBB.out.trans (hb9.mono HBB.out.size)); clear hb9))
      go_ret
      exact ⟨rfl, HB9.out⟩
theorem names_row (nv : Value) (t : Tr) (av : Value) (l : List ActV) (name : ByteArray) (dir : Bool) (w : World) (hN : NodesIn w w.heap.size nv t.nodes) (hR : i64 t.rn ∧ i64 t.rb) (hA : ActsIn w w.heap.size av l) (hn : name.size ≤ maxLen) (hM : ∃ m, w.cell? ⟨0, 0, none⟩ = some (.int .i64 m)) :
    Calls Tryz.prog 4 #[trV nv t, av, .string name, .bool dir] w fun e w' => e = .returned (.bool true) ∧ Below w.heap.size w w' :=
  names_law nv av t l name dir hn w hN hA hR.1 hR.2 hM
end Go.Proofs.YtpicgkoclbpjpaaGreatDoor
