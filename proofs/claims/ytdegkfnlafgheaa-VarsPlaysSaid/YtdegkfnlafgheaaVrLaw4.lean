/- DERIVED. The walk over the law VarsPlays. -/
import Derived.Test.YtdegkfnlafgheaaVrDoQ
import Derived.Deep.CutRange
import Derived.Deep.Cut
import Derived.Deep.RegionLaw
namespace Go.Proofs.Ytdegkfnlafgheaa.Vr
open Go.RowKit
open PathM WdM VrM
open Go.Proofs.Ytdegkfnlafgheaa.Wd
set_option linter.unusedVariables false
set_option maxRecDepth 100000 in
set_option maxHeartbeats 12800000 in
theorem plays_nm (l : Vs) (v : Value) (qs : List Bs) (a : Value) (L : List (ActB × Value)) (va : Value) (name : Bs) (w : World) (hv : VsX w v l) (ha : ArX w a qs) (hL : ActsX w va L) (hn : name.length ≤ 140737488351232) :
    Calls Try.prog 3 #[v, a, va, .string (nm name)] w fun e w' => e = .returned (.bool true) ∧ Below w.heap.size w w' := by
  have HSH : Hid (Calls Try.prog 9 #[.agg #[.int .i64 0, .string ⟨#[]⟩, .string ⟨#[]⟩, a, .int .i64 0]] w (ShortPost w)) := Lib.hid (short_any ⟨0, [], [], qs, 0⟩ a w ⟨ha, by simp, by simp, by simp, by simp⟩)
  have HNEW : Hid (∀ W, Below w.heap.size w W → Calls Try.prog 10 #[v, a] W (NewPost qs (newL l qs) W)) := Lib.hid (fun W hb => new_any l v qs a W (hv.below hb) (ha.below hb))
  have HRNEW : Hid (∀ W, Below w.heap.size w W → Calls Try.prog 11 #[v, a] W (RNewPost a (newL l qs) W)) := Lib.hid (fun W hb => rnew_any l v qs a W (hv.below hb) (ha.below hb))
  have HAW := Lib.hid (fun W => awake_any W)
  have HOKS := Lib.hid (fun vs (h : newL l qs = .ok vs) => newL_ok h)
  have HAIN := Lib.hid ha
  obtain ⟨A, c, hvf, hlc, hcell⟩ := hv.1
  obtain ⟨A2, c2, haf, hlc2⟩ := ha.1.form
  obtain ⟨A3, c3, hLf, hlc3, hL1, hLc⟩ := hL
  have hl1 : (l.length : Int) ≤ 140737488351232 := by have := hv.2.1; omega
  have HCE : Hid (∀ i (h : i < l.length), ∃ b off, A = some ⟨b, off, none⟩ ∧ b < w.heap.size ∧ ∃ X : ByteArray, w.cell? ⟨b, off + i * 2, none⟩ = some (.string X) ∧ (X.size : Int) ≤ 140737488351232) := Lib.hid (fun i h => by
    obtain ⟨b, off, h1, h2, h3⟩ := hcell (fun e => by rw [e] at h; simp at h)
    exact ⟨b, off, h1, h2, _, (h3 i h).1, by rw [nm_size]; have := (hv.2.2 _ (List.getElem_mem h)).1; omega⟩)
  have HACT : Hid (∀ i (h : i < L.length), ∃ b off, A3 = some ⟨b, off, none⟩ ∧ (∀ W, Below w.heap.size w W → ActAt W b (off + i * 5) L[i] ∧ b < W.heap.size) ∧ ActOk w L[i].1 L[i].2) := Lib.hid (fun i h => by
    obtain ⟨b, off, h1, h2, h3⟩ := hLc (fun e => by rw [e] at h; simp at h)
    exact ⟨b, off, h1, fun W hb => ⟨(h3 i h).1.below h2 hb, Nat.lt_of_lt_of_le h2 hb.size⟩, (h3 i h).2⟩)
  obtain ⟨n, hnn⟩ : ∃ n, l.length = n := ⟨_, rfl⟩
  obtain ⟨m, hmm⟩ : ∃ m, L.length = m := ⟨_, rfl⟩
  have HLN := Lib.hid hnn
  have HLM := Lib.hid hmm
  rw [hnn] at hl1 hlc hvf
  rw [hmm] at hlc3 hL1 hLf
  have hnc : (n : Int) ≤ (c : Int) := by omega
  have hmc : (m : Int) ≤ (c3 : Int) := by omega
  have hm1 : (m : Int) ≤ 140737488351232 := by omega
  subst hvf
  subst haf
  subst hLf
  clear hv ha hcell hLc hnn hmm
  go_enter Try.func3, Try.ntmps3
  go_wp2_with fail
  go_loopg [9] n (fun g x wr => ∃ i : Nat, x = .int .i64 i ∧ i ≤ n ∧ g = n - i ∧ wr = w)
  case atStart => exact ⟨0, rfl, Nat.zero_le _, rfl, rfl⟩
  case round =>
    obtain ⟨i, rfl, hi, rfl, hwr⟩ := hrel
    obtain rfl : w = wr := hwr.symm
    have hcase : ((i : Int) < (n : Int) ∧ (i : Int) ≤ 70) ∨ ((i : Int) < (n : Int) ∧ ¬ (i : Int) ≤ 70) ∨ ¬ (i : Int) < (n : Int) := by omega
    rcases hcase with ⟨hin, h70⟩ | ⟨hin, h70⟩ | hin
    · obtain ⟨b, off, rfl, hb, X, a0, hx⟩ := HCE.out i (by have := HLN.out; omega)
      clear HCE
      by_cases h2000 : (2000 : Int) < (X.size : Int)
      · go_wp2_with (go_at_call 8; refine (HAW.out _).mono ?_; rintro e W ⟨rfl, hb⟩; have HB2 := Lib.hid hb; clear hb)
        go_ret
        exact ⟨rfl, HB2.out⟩
      · go_wp2_with fail
        go_roundg (n - (i + 1))
        case measure => omega
        case rel => exact ⟨i + 1, rfl, by omega, rfl, rfl⟩
    all_goals
      clear HCE
      go_wp2_with fail
      refine (HSH.out).mono ?_
      rintro e W1 ⟨b, rfl, hb⟩
      have HB1 := Lib.hid hb
      clear hb
      cases b with
      | false =>
        go_wp2_with (go_at_call 8; refine (HAW.out _).mono ?_; rintro e W ⟨rfl, hb⟩; have HB2 := below_then HB1 hb; clear hb)
        go_ret
        exact ⟨rfl, HB2.out⟩
      | true =>
        by_cases h200 : (200 : Int) < (n : Int)
        · go_wp2_with (go_at_call 8; refine (HAW.out _).mono ?_; rintro e W ⟨rfl, hb⟩; have HB2 := below_then HB1 hb; clear hb)
          go_ret
          exact ⟨rfl, HB2.out⟩
        · cases hm : newL l qs with
          | error er =>
            rw [hm] at HNEW HRNEW
            clear hm HOKS HAIN HACT HSH
            go_wp2_with fail
            refine (HNEW.out _ HB1.out).mono ?_
            rintro e W2 ⟨hb2, rfl, h0⟩
            have HB2 := below_then HB1 hb2
            clear hb2
            go_wp2_with fail
            refine (HRNEW.out _ HB2.out).mono ?_
            rintro e W3 ⟨hb3, he, _⟩
            unfold tblV at he
            subst he
            have HB3 := below_then (below_then HB2 hb3) (one_below W3 (.cells #[.slice none 0 0, .slice none 0 0, .int .i64 0] 36))
            have hq : (er != er) = false := by simp
            have hq2 : (er == 0) = false := by simpa using h0
            clear hb3 h0 HNEW HRNEW
            go_wp2_with fail
            go_loopg [14] 0 (fun g x wr => x = .int .i64 0 ∧ Hid (Below w.heap.size w wr))
            case atStart => exact ⟨rfl, HB3⟩
            case round =>
              obtain ⟨rfl, HB4⟩ := hrel
              have hc2 : (0 : Int) < (m : Int) ∨ ¬ (0 : Int) < (m : Int) := by omega
              rcases hc2 with hc2 | hc2
              all_goals
                go_wp2_with (go_at_call 8; refine (HAW.out _).mono ?_; rintro e W ⟨rfl, hb⟩; have HB5 := below_then HB4 hb; clear hb)
                go_ret
                exact ⟨rfl, HB5.out⟩
          | ok vs =>
            have hoks := HOKS.out vs hm
            have HOK := Lib.hid hoks.1
            have HAO := Lib.hid hoks.2.1
            rw [hm] at HNEW HRNEW
            clear hm HOKS hoks
            go_wp2_with fail
            refine (HNEW.out _ HB1.out).mono ?_
            rintro e W2 ⟨hb2, tb, vv, av, rfl, ht⟩
            have HB2 := below_then HB1 hb2
            have HB12 := Lib.hid hb2
            have HT := Lib.hid ht
            clear hb2 ht
            go_wp2_with fail
            refine (HRNEW.out _ HB2.out).mono ?_
            rintro e W3 ⟨hb3, vv2, he, hv2, hf2⟩
            unfold tblV at he
            subst he
            obtain ⟨A6, c6, rfl, _⟩ := hv2.form
            have HP := Lib.hid (show Pl W1 tb W3.heap.size ⟨vs, qs, 0⟩ vv av (.slice A6 vs.length c6) (.slice A2 qs.length c2) (W3.alloc (.cells #[.slice A6 vs.length c6, .slice A2 qs.length c2, .int .i64 0] 36)) from ⟨Two.start HT.out HB12.out hb3 hv2 hf2 (HAIN.out.1.below HB1.out) HOK.out HAO.out, by simp, (HB12.out.trans (hb3.mono HB12.out.size)).trans ((one_below W3 _).mono (HB12.out.trans (hb3.mono HB12.out.size)).size)⟩)
            have hz2 := HT.out.lt
            clear hb3 hv2 hf2 HNEW HRNEW HAIN HSH HOK HAO
            obtain ⟨rb, hrb⟩ : ∃ rb, W3.heap.size = rb := ⟨_, rfl⟩
            rw [hrb] at HP
            go_wp2_with fail
            clear hrb
            go_loopg [14] m (fun g x wr => ∃ (i : Nat) (s : StD) (vv av : Value) (A6 : Option Addr) (n6 c6 : Nat) (A7 : Option Addr) (n7 c7 : Nat), x = .int .i64 i ∧ i ≤ m ∧ g = m - i ∧ Hid (Pl W1 tb rb s vv av (.slice A6 n6 c6) (.slice A7 n7 c7) wr))
            case atStart => exact ⟨0, ⟨vs, qs, 0⟩, vv, av, A6, _, c6, A2, _, c2, rfl, Nat.zero_le _, rfl, HP⟩
            case round =>
              clear HP HT HB12 HB2
              obtain ⟨i, s, vv, av, A6, n6, c6, A7, n7, c7, rfl, hi, rfl, HP⟩ := hrel
              have HBR := below_then HB1 HP.out.2.2
              have hcase : ((i : Int) < (m : Int) ∧ (i : Int) < 40) ∨ ((i : Int) < (m : Int) ∧ ¬ (i : Int) < 40) ∨ ¬ (i : Int) < (m : Int) := by omega
              rcases hcase with ⟨him, h40⟩ | ⟨him, h40⟩ | him
              · have him2 : i < L.length := by have := HLM.out; omega
                obtain ⟨b, off, rfl, hat, hok⟩ := HACT.out i him2
                clear HACT
                generalize L[i] = x at *
                obtain ⟨⟨kind, nam, val, args, nn⟩, aa⟩ := x
                dsimp only at hat hok
                have HAT := Lib.hid hat
                have HOK := Lib.hid hok
                have HNAM := Lib.hid hok.2.1
                obtain ⟨A5, c5, haa, _⟩ := hok.1.1.form
                subst haa
                obtain ⟨⟨k0, k1, k2, k3, k4⟩, hbw⟩ := hat _ HBR.out
                have HSHT := Lib.hid (short_any ⟨kind, nam, val, args, nn⟩ (.slice A5 args.length c5) _ (hok.below HBR.out))
                obtain ⟨s2, hs2⟩ : ∃ s2, (stD s ⟨kind, nam, val, args, nn⟩).1 = s2 := ⟨_, rfl⟩
                have HDOES : Hid (∀ W, Pl W1 tb rb s vv av (.slice A6 n6 c6) (.slice A7 n7 c7) W → Calls Try.prog 12 #[.pointer (some ⟨tb, 0, none⟩), .pointer (some ⟨rb, 0, none⟩), .agg #[.int .i64 kind, .string (nm nam), .string (nm val), .slice A5 args.length c5, .int .i64 nn]] W fun e w' => e = .returned (.bool true) ∧ ∃ vv' av' A1 n1 c1 A2 n2 c2, Pl W1 tb rb s2 vv' av' (.slice A1 n1 c1) (.slice A2 n2 c2) w') := Lib.hid (fun W hp => by
                  have := hp.does ⟨kind, nam, val, args, nn⟩ (.slice A5 args.length c5) (hok.below HB1.out)
                  rw [hs2] at this
                  exact this)
                clear hat hok hs2
                generalize args.length = n5 at *
                go_wp2_with fail
                refine (HSHT.out).mono ?_
                rintro e W5 ⟨b', rfl, hb5⟩
                have HP5 := Lib.hid (HP.out.below hb5)
                have HBR5 := below_then HBR hb5
                clear hb5 HSHT k0 k1 k2 k3 k4 hbw
                cases b' with
                | false =>
                  clear HDOES HAT
                  go_wp2_with fail
                  go_roundg (m - (i + 1))
                  case measure => omega
                  case rel => exact ⟨i + 1, s, vv, av, A6, n6, c6, A7, n7, c7, rfl, by omega, rfl, HP5⟩
                | true =>
                  obtain ⟨⟨k0, k1, k2, k3, k4⟩, hbw⟩ := HAT.out _ HBR5.out
                  dsimp only at k0 k1 k2 k3 k4
                  have HP5D := Lib.hid (HP5.out.below (Below.refl _ _).drew)
                  go_wp2_with fail
                  go_cut [106] from 93 to 106 (fun x106 wx => x106 = .bool false ∧ ∃ vv2 av2 A8 n8 c8 A9 n9 c9, Hid (Pl W1 tb rb s2 vv2 av2 (.slice A8 n8 c8) (.slice A9 n9 c9) wx))
                  case first =>
                    clear HAW HLN HLM HB1 HAT HBR HBR5 HOK HNAM HP5 HP
                    go_region_law (first
                      | (go_simp; go_at_call 12; refine (HDOES.out _ HP5D.out).mono ?_; rintro e w3 ⟨rfl, vv2, av2, A8, n8, c8, A9, n9, c9, hp3⟩; have HP3 := Lib.hid hp3; obtain ⟨⟨e1, e2, e3⟩, e4⟩ := HP3.out.cells; clear hp3)
                      | (go_simp; go_at_call 14; refine (HP3.out.shown).mono ?_; rintro e w4 ⟨A10, n10, c10, A11, n11, c11, rfl, hsv, hp4⟩; have HP4 := Lib.hid hp4; have HSV := Lib.hid hsv; obtain ⟨⟨f1, f2, f3⟩, f4⟩ := HP4.out.cells; clear hp4 hsv)
                      | (go_simp; go_at_call 13; refine (HP4.out.same _ _ HSV.out).mono ?_; rintro e w5 ⟨rfl, hp5⟩; have HP6 := Lib.hid hp5; clear hp5))
                    all_goals
                      go_wp2_with fail
                      go_meet
                      exact ⟨rfl, _, _, _, _, _, _, _, _, HP6⟩
                  case rest =>
                    clear k0 k1 k2 k3 k4 hbw HP5 HP5D HBR5 HBR HP HDOES
                    obtain ⟨rfl, vv2, av2, A8, n8, c8, A9, n9, c9, HP6⟩ := hcut
                    go_wp2_with fail
                    refine (HP6.out.get name hn).mono ?_
                    rintro e W9 ⟨rfl, hp9⟩
                    have HP9 := Lib.hid hp9
                    obtain ⟨⟨g1, g2, g3⟩, g4⟩ := HP9.out.cells
                    clear hp9
                    go_wp2_with fail
                    refine (HP9.out.rget name hn).mono ?_
                    rintro e W10 ⟨rfl, hp10⟩
                    have HP10 := Lib.hid hp10
                    clear hp10 g1 g2 g3 g4
                    obtain ⟨⟨k0, k1, k2, k3, k4⟩, hbw⟩ := HAT.out _ (below_then HB1 HP10.out.2.2).out
                    dsimp only at k0 k1 k2 k3 k4
                    go_wp2_with fail
                    refine (HP10.out.get nam HNAM.out).mono ?_
                    rintro e W11 ⟨rfl, hp11⟩
                    have HP11 := Lib.hid hp11
                    clear hp11 k0 k1 k2 k3 k4 hbw
                    obtain ⟨⟨k0, k1, k2, k3, k4⟩, hbw⟩ := HAT.out _ (below_then HB1 HP11.out.2.2).out
                    dsimp only at k0 k1 k2 k3 k4
                    obtain ⟨⟨g1, g2, g3⟩, g4⟩ := HP11.out.cells
                    have HP11D := Lib.hid (HP11.out.below (Below.refl _ _).drew)
                    go_wp2_with fail
                    go_cut [21, 22] from 129 to 138 (fun x21 x22 wx => x21 = .string (nm ((getL s2.ps s2.st s2.vs nam).getD [])) ∧ x22 = .bool (getL s2.ps s2.st s2.vs nam).isSome ∧ Hid (Pl W1 tb rb s2 vv2 av2 (.slice A8 n8 c8) (.slice A9 n9 c9) wx))
                    case first =>
                      go_region_law (first | (go_simp; go_at_call 16; refine (HP11D.out.rget nam HNAM.out).mono ?_; rintro e w12 ⟨rfl, hp12⟩; have HP12 := Lib.hid hp12; clear hp12))
                      all_goals
                        go_wp2_with fail
                        go_meet
                        exact ⟨rfl, rfl, HP12⟩
                    case rest =>
                      clear k0 k1 k2 k3 k4 hbw g1 g2 g3 g4
                      obtain ⟨rfl, rfl, HP12⟩ := hcut
                      go_wp2_with fail
                      go_roundg (m - (i + 1))
                      case measure => omega
                      case rel => exact ⟨i + 1, s2, vv2, av2, A8, n8, c8, A9, n9, c9, rfl, by omega, rfl, HP12⟩
              all_goals
                clear HACT
                go_wp2_with (go_at_call 8; refine (HAW.out _).mono ?_; rintro e W ⟨rfl, hb⟩; have HB5 := below_then HBR hb; clear hb)
                go_ret
                exact ⟨rfl, HB5.out⟩
theorem plays_any (l : Vs) (v : Value) (qs : List Bs) (a : Value) (L : List (ActB × Value)) (va : Value) (N : ByteArray) (w : World) (hv : VsX w v l) (ha : ArX w a qs) (hL : ActsX w va L) (z : N.size ≤ maxLen) (y : N.data.toList.length ≤ 140737488351232) :
    Calls Try.prog 3 #[v, a, va, .string N] w fun e w' => e = .returned (.bool true) ∧ Below w.heap.size w w' := by
  have := plays_nm l v qs a L va N.data.toList w hv ha hL y
  rw [nm_of] at this
  exact this
end Go.Proofs.Ytdegkfnlafgheaa.Vr
