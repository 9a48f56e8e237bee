/- DERIVED. Texts of this claim, joined: ArRGift, ArRRk3. -/
import Derived.Test.YtcadnkanjlmfhaaGreatDoorAzQ23
import Derived.Deep.Cut
import Derived.Deep.CutRange
import Derived.Test.YtcadnkanjlmfhaaGreatDoorAzQ16
import Derived.BigQuiet
import Derived.Deep.RegionWith
namespace Go.Proofs.YtcadnkanjlmfhaaGreatDoor.Ar
open Go.RowKit
open PathM WdM ArM
open Go.Proofs.YtcadnkanjlmfhaaGreatDoor.Wd
open Go.Proofs.YtcadnkanjlmfhaaGreatDoor.NumM (textL)
set_option linter.unusedVariables false

theorem gv_facts : ∀ s ∈ gvS, s ≠ [] ∧ s.dropLast ++ [61] = s ∧ (s.dropLast = [] ∨ s.dropLast ∈ twS) ∧ (decide (s = [61]) = decide (s.dropLast = [])) ∧ 1 ≤ s.length ∧ s.length ≤ 3 := by decide

theorem gift_put {y n : Bs} {t : Tm} {vs vs2 : Vs} {k m : Int} (h : reckonL t vs = .ok (k, vs2)) (hm : gvN y n k vs2 = .ok m) : reckonL (.gift y n t) vs = putM vs2 n m := by
  unfold putM
  cases hg : giveL vs2 n m with
  | error e => exact rk_gift_g h hm hg
  | ok vs3 => exact rk_gift_ok h hm hg
/-- Behind the part that is given: the boxes, and the variables. -/
structure GfSt (w W1 W : World) (S N : ByteArray) (k : Int) (K : Value) (ab : Nat) (n9 : Int) (A9 : Option Addr) (m9 c9 : Nat) (vs' : Vs) : Prop where
  bx : RkB w W S N k K
  a : W.heap[ab]? = some (.cells #[.int .i64 n9, .slice A9 m9 c9, .int .i64 0] tG (0, 0))
  v : VaIn W (.slice A9 m9 c9) vs'
  b1 : Below W1.heap.size W1 W
theorem GfSt.next {w W1 W W' : World} {S N : ByteArray} {k : Int} {K : Value} {ab : Nat} {n9 : Int} {A9 : Option Addr} {m9 c9 : Nat} {vs' : Vs} (h : GfSt w W1 W S N k K ab n9 A9 m9 c9 vs') (hb : Below W.heap.size W W') : GfSt w W1 W' S N k K ab n9 A9 m9 c9 vs' :=
  ⟨h.bx.next hb, (hb.block ab (fin_at h.a)).trans h.a, h.v.below hb, h.b1.trans (hb.mono h.b1.size)⟩
theorem cut_last (S' y : Bs) (h : S' = y ++ [61]) (W : World) (hl : S'.length ≤ 3) : (nm S').extract 0 (S'.length - 1) = nm y := by
  subst h
  apply ByteArray.ext
  rw [ByteArray.data_extract]
  simp [nm]
set_option maxRecDepth 100000 in
set_option maxHeartbeats 12800000 in
theorem rk_gift (y n : Bs) (t : Tm) (ht : TmOk t) (ih : RkR t) : RkR (.gift y n t) := by
  rintro D S' N k K vs v w ⟨hSy, ⟨hgv, hnl⟩, b, rfl, ⟨-, hb⟩, hk0, hk1⟩ hv hl
  obtain ⟨f1, f2, f3, f4, f5, f6⟩ := gv_facts S' hgv
  have hdl : S'.dropLast = y := by rw [hSy]; simp
  rw [hdl] at f3 f4
  obtain ⟨SZ, NZ, kz, KZ, -, hname, -, -, hNZ, -⟩ := hk0
  subst hNZ
  obtain ⟨S1, N1, k1, A1, m1, c1, hcell1, hcall1⟩ := kid_call hk1 hb ih
  have HNAME : Hid (∀ W, Below w.heap.size w W → W.cell? ⟨b, 1, none⟩ = some (.string (nm NZ))) := Lib.hid (fun W hW => (World.cell?_of_block (hW.block b hb)).trans hname)
  have HCELL1 := Lib.hid hcell1
  have HG : Hid (∀ W, Calls Tryz.prog 28 #[.string (nm S')] W fun e w' => e = .returned (.bool true) ∧ Below W.heap.size W w') := Lib.hid (fun W => by
    have := rgives_any S' W
    rw [decide_eq_true hgv] at this
    exact this)
  obtain ⟨e1, e2⟩ := emp_no (b := nm S') (by rw [nm_data]; exact f1)
  have q61 : ((nm S').toList != [61]) = !decide (y = []) := by rw [str_neq, f4]
  have Q61 : Hid (((nm S').toList == [61]) = decide (y = [])) := Lib.hid (by rw [str_is, f4])
  have hssz : (nm S').size = S'.length := nm_size _
  have hsl := f5
  have hsl2 := f6
  have HCUT := Lib.hid (cut_last S' y hSy w f6)
  have HCALL : Hid (∀ W, Below w.heap.size w W → Calls Tryz.prog 17 #[.agg #[.string S1, .string N1, .int .i64 k1, .slice A1 m1 c1], v] W (GoP v vs (reckonL t vs) W)) := Lib.hid (fun W hW => hcall1 W v vs hW (hv.below hW) hl)
  have HIN := Lib.hid (fun n vs' => reckon_in t vs n vs' ht)
  obtain ⟨M, hM⟩ : ∃ M, reckonL t vs = M := ⟨_, rfl⟩
  obtain ⟨R, hR⟩ : ∃ R, reckonL (.gift y NZ t) vs = R := ⟨_, rfl⟩
  have HE : Hid (∀ e, M = .error e → R = .error e) := Lib.hid (fun e h => by rw [← hR]; exact rk_gift_e (hM.trans h))
  have HNE : Hid (∀ k vs' e, M = .ok (k, vs') → gvN y NZ k vs' = .error e → R = .error e) := Lib.hid (fun k vs' e h h2 => by rw [← hR]; exact rk_gift_n (hM.trans h) h2)
  have HPUT : Hid (∀ k vs' m, M = .ok (k, vs') → gvN y NZ k vs' = .ok m → R = putM vs' NZ m) := Lib.hid (fun k vs' m h h2 => by rw [← hR]; exact gift_put (hM.trans h) h2)
  have HIN2 : Hid (∀ k vs', M = .ok (k, vs') → In64 k) := Lib.hid (fun k vs' h => HIN.out k vs' (hM.trans h))
  rw [hM] at HCALL
  rw [hR]
  have HB0 := Lib.hid (RkB.begin w (nm S') (nm N) k (.slice (some ⟨b, 0, none⟩) 2 2))
  have HVI := Lib.hid hv
  clear hcell1 hcall1 hk1 hv hR hM HIN hname f1 f2 f4 f5 f6 hdl hgv
  have HPT0 : Hid (∀ vs' v9 m W, In64 m → VaIn W v9 vs' → vs'.length ≤ 64 → Calls Tryz.prog 32 #[v9, .string (nm NZ), .int .i64 m] W (GoP v9 vs' (putM vs' NZ m) W)) := Lib.hid (fun vs' v9 m W hm hv hl9 => rput_any vs' NZ m _ W hv hl9 (by omega) hm.1 hm.2)
  have HVL0 : Hid (∀ vs' v9 W, VaIn W v9 vs' → Calls Tryz.prog 30 #[v9, .string (nm NZ)] W fun e w' => e = .returned (pairE (numberL vs' NZ)) ∧ ∃ k, w' = W.drewN k) := Lib.hid (fun vs' v9 W hv => rvalue_any vs' NZ _ W hv)
  generalize nm N = NB at *
  generalize nm S' = SB at *
  generalize nm NZ = NN at *
  go_enter Tryz.func17, Tryz.ntmps17
  go_wp2_with (go_at_call 28; refine (HG.out _).mono ?_; rintro e W1 ⟨rfl, hb1⟩; have HB1 := Lib.hid (HB0.out.next hb1); obtain ⟨x0, x1, x2, x3, hx⟩ := box4 HB1.out.x; obtain ⟨y0, y1, y2, y3⟩ := HCELL1.out W1 HB1.out.bel; have hbW := Nat.lt_of_lt_of_le hb HB1.out.bel.size; clear hb1)
  refine (HCALL.out _ HB1.out.bel).mono ?_
  intro e W4 hq
  obtain ⟨n9, A9, m9, c9, x9, rfl⟩ := hq.form
  have HQ := Lib.hid hq
  have HB4 := Lib.hid (HB1.out.next hq.1)
  clear hq x0 x1 x2 x3 y0 y1 y2 y3 hx hbW
  have HX4 := Lib.hid HB4.out.r
  by_cases hx9 : x9 = 0
  · subst hx9
    obtain ⟨vs', hM9, hv9, hl9, hs9⟩ := HQ.out.got
    have HM9 := Lib.hid hM9
    have HSR := Lib.hid hs9
    have hi9 := HIN2.out _ _ hM9
    have HST0 := Lib.hid (fun o (ho : o = Obj.cells #[.int .i64 n9, .slice A9 m9 c9, .int .i64 0] tG) => (⟨HB4.out.next (al W4 o), by subst ho; exact heap_alloc_new W4 _, hv9.below (al W4 o), HQ.out.1.alloc HQ.out.1.size o⟩ : GfSt w W1 (W4.alloc o) SB NB k (.slice (some ⟨b, 0, none⟩) 2 2) W4.heap.size n9 A9 m9 c9 vs'))
    have HPT := Lib.hid (fun m W (hm : In64 m) (hv : VaIn W (.slice A9 m9 c9) vs') => HPT0.out vs' _ m W hm hv hl9)
    have HVL := Lib.hid (fun W (hv : VaIn W (.slice A9 m9 c9) vs') => HVL0.out vs' _ W hv)
    have hwx : w.heap.size + 1 < W4.heap.size := fin_at HX4.out
    clear hM9 hv9 hs9
    by_cases hy : y = []
    · have q61b : (SB.toList == [61]) = true := by rw [Q61.out]; rw [decide_eq_true hy]
      have q61c : SB.toList = [61] := by simpa using q61b
      rw [decide_eq_true hy, Bool.not_true] at q61
      have hgn : gvN y NZ n9 vs' = .ok n9 := by unfold gvN; rw [if_pos hy]
      have HRP := Lib.hid (HPUT.out _ _ _ HM9.out hgn)
      clear hgn
      obtain ⟨x0, x1, x2, x3, hx⟩ := box4 HB4.out.x
      obtain ⟨d0, d1, d2, p0, p1, p2, hz⟩ := box3 HB4.out.r
      go_upto_region 19 with (fail)
      refine wp_gen (fun W => GfSt w W1 W SB NB k (.slice (some ⟨b, 0, none⟩) 2 2) W4.heap.size n9 A9 m9 c9 vs') (HST0.out _ rfl) ?_
      rintro W5 hst
      have HS5 := Lib.hid hst
      clear hst x0 x1 x2 x3 hx d0 d1 d2 p0 p1 p2 hz
      obtain ⟨x0, x1, x2, x3, hx⟩ := box4 HS5.out.bx.x
      obtain ⟨a0, a1, a2, -, -, -, ha⟩ := box3 HS5.out.a
      have y1 := HNAME.out W5 HS5.out.bx.bel
      have hbW := Nat.lt_of_lt_of_le hb HS5.out.bx.bel.size
      generalize W4.heap.size = ab at *
      refine wp_region_still_tail 9 (by kernel_rfl) (by kernel_rfl) ?_
      simp only [List.take_succ_cons, List.take_zero, List.drop_succ_cons, List.drop_zero]
      repeat still_step
      refine wpStill_nil ?_
      change wpList _ _ _ _ _ W5.drew
      have HS6 := Lib.hid (HS5.out.next ((Below.refl W5.heap.size W5).drew))
      generalize W5.drew = W6 at *
      go_wp2_with fail
      refine (HPT.out _ _ hi9 HS6.out.v).mono ?_
      intro e W7 hq
      obtain ⟨n8, A8, m8, c8, x8, rfl⟩ := hq.form
      have hT := GoP.thru (b := w.heap.size + 1) HVI.out ⟨Nat.le_succ _, fin_at HB1.out.r⟩ HB1.out.bel HSR.out HS6.out.b1 hq HS6.out.v
      rw [← HRP.out] at hT
      have HT := Lib.hid hT
      have HX7 := Lib.hid ((HS6.out.bx.next hq.1).r)
      obtain ⟨d0, d1, d2, p0, p1, p2, hz⟩ := box3 HX7.out
      clear hq hT
      go_wp2_with fail
      refine bodyPost_ret (results_cell_row rfl _ _ _ tG _ (0, 0) _ rfl (three_set HX7.out _ _ _).1 Tryz.underlying64 rfl (by kernel_rfl)) rfl ?_
      exact HT.out _ (three_set HX7.out _ _ _).2
    · have hy2 : y ∈ twS := f3.resolve_left hy
      have q61b : (SB.toList == [61]) = false := by rw [Q61.out]; rw [decide_eq_false hy]
      have q61c : ¬ SB.toList = [61] := by simpa using q61b
      rw [decide_eq_false hy, Bool.not_false] at q61
      have HTW := Lib.hid (fun a b W => rtwo_any y hy2 a b W)
      unfold TwoP at HTW
      rw [← HCUT.out, ← hssz] at HTW
      obtain ⟨x0, x1, x2, x3, hx⟩ := box4 HB4.out.x
      obtain ⟨d0, d1, d2, p0, p1, p2, hz⟩ := box3 HB4.out.r
      go_upto_region 13 with (fail)
      refine wp_gen (fun W => GfSt w W1 W SB NB k (.slice (some ⟨b, 0, none⟩) 2 2) W4.heap.size n9 A9 m9 c9 vs') (HST0.out _ rfl) ?_
      rintro W5 hst
      have HS5 := Lib.hid hst
      clear hst x0 x1 x2 x3 hx d0 d1 d2 p0 p1 p2 hz
      obtain ⟨x0, x1, x2, x3, hx⟩ := box4 HS5.out.bx.x
      obtain ⟨a0, a1, a2, -, -, -, ha⟩ := box3 HS5.out.a
      have y1 := HNAME.out W5 HS5.out.bx.bel
      have hbW := Nat.lt_of_lt_of_le hb HS5.out.bx.bel.size
      generalize W4.heap.size = ab at *
      cases hnum : numberL vs' NZ with
      | error er =>
        have hgn : gvN y NZ n9 vs' = .error er := by unfold gvN; rw [if_neg hy, hnum]
        have hRE := HNE.out _ _ _ HM9.out hgn
        have hern := number_ne hnum
        rw [hnum] at HVL
        unfold pairE at HVL
        have HF : Hid (∀ W6 W', Below W5.heap.size W5 W6 → Kept (· = w.heap.size + 1) W6 W' → GoP v vs R w (.returned (.agg #[.int .i64 0, .slice none 0 0, .int .i64 er])) W') := Lib.hid (fun W6 W' h6 hk => GoP.no hRE hern (kept_box (HS5.out.bx.next h6).bel (Nat.le_succ _) hk))
        have herb : (er != 0) = true := by simpa using hern
        clear hRE hgn hnum
        go_quiet (first | (go_at_call 30; exact Calls.quiet_of (HVL.out _ (HS5.out.v.drewN _))))
        have HBD := Lib.hid (bel_drewN (Below.refl W5.heap.size W5) nq)
        have HX6 := Lib.hid ((HS5.out.bx.next HBD.out).r)
        generalize W5.drewN nq = W6 at *
        obtain ⟨d0, d1, d2, p0, p1, p2, hz⟩ := box3 HX6.out
        go_wp2_with fail
        refine bodyPost_ret (results_cell_row rfl _ _ _ tG _ (0, 0) _ rfl (three_set HX6.out _ _ _).1 Tryz.underlying64 rfl (by kernel_rfl)) rfl ?_
        exact HF.out _ _ HBD.out (three_set HX6.out _ _ _).2
      | ok old =>
        rw [hnum] at HVL
        unfold pairE at HVL
        have hio := number_in hnum
        have HGN : Hid (gvN y NZ n9 vs' = betweenL y old n9) := Lib.hid (by unfold gvN; rw [if_neg hy, hnum])
        clear hnum
        go_quiet (first | (go_at_call 30; exact Calls.quiet_of (HVL.out _ (HS5.out.v.drewN _))))
        have HBD := Lib.hid (bel_drewN (Below.refl W5.heap.size W5) nq)
        have HS6 := Lib.hid (HS5.out.next HBD.out)
        generalize W5.drewN nq = W6 at *
        obtain ⟨x0, x1, x2, x3, hx⟩ := box4 HS6.out.bx.x
        obtain ⟨a0, a1, a2, -, -, -, ha⟩ := box3 HS6.out.a
        go_upto_region 16 with (fail)
        obtain ⟨rn, rx, hpe⟩ := pair_form (betweenL y old n9)
        have HT2 := Lib.hid (fun W => HTW.out old n9 W)
        rw [hpe] at HT2
        have g0 : 1 ≤ SB.size ∧ SB.size ≤ 3 := by omega
        clear hssz
        have g1 : (0 : Int) ≤ (SB.size : Int) - 1 := by omega
        have g2 : ((SB.size : Int) - 1).toNat = SB.size - 1 := by omega
        have g3 : (SB.size : Int) - 1 ≤ (SB.size : Int) := by omega
        have g4 : IntKind.i64.wrap ((SB.size : Int) - 1) = (SB.size : Int) - 1 := IntWalk.i64_in _ (by omega)
        have hcr : ∀ W, (Instr.slice 9 (.string SB) none (some (.int .i64 ((SB.size : Int) - 1))) none).run Tryz.prog W = .ok (.string (SB.extract 0 (SB.size - 1))) W := fun W => by
          rw [run_slice_string_to_if W _ _ _ _ Tryz.underlying9, if_pos (by omega), g2]
        go_quiet (first | (go_at_call 31; exact Calls.quiet_of_same (HT2.out _)))
        have HBD2 := Lib.hid (bel_drewN (Below.refl W6.heap.size W6) nq)
        have HS7 := Lib.hid (HS6.out.next HBD2.out)
        generalize W6.drewN nq = W7 at *
        obtain ⟨x0, x1, x2, x3, hx⟩ := box4 HS7.out.bx.x
        obtain ⟨a0, a1, a2, -, -, -, ha⟩ := box3 HS7.out.a
        cases hbt : betweenL y old n9 with
        | error e =>
          rw [hbt] at hpe
          unfold pairE at hpe
          simp only [Value.tuple.injEq, Array.mk.injEq, List.cons.injEq, Value.int.injEq, and_true, true_and] at hpe
          obtain ⟨rfl, rfl⟩ := hpe
          have hRE := HNE.out _ _ _ HM9.out (HGN.out.trans hbt)
          have hern := between_ne hbt
          have HF : Hid (∀ W', Kept (· = w.heap.size + 1) W7 W' → GoP v vs R w (.returned (.agg #[.int .i64 0, .slice none 0 0, .int .i64 e])) W') := Lib.hid (fun W' hk => GoP.no hRE hern (kept_box HS7.out.bx.bel (Nat.le_succ _) hk))
          have herb : (e != 0) = true := by simpa using hern
          have HX7 := Lib.hid HS7.out.bx.r
          obtain ⟨d0, d1, d2, p0, p1, p2, hz⟩ := box3 HX7.out
          clear hRE hbt
          go_wp2_with fail
          refine bodyPost_ret (results_cell_row rfl _ _ _ tG _ (0, 0) _ rfl (three_set HX7.out _ _ _).1 Tryz.underlying64 rfl (by kernel_rfl)) rfl ?_
          exact HF.out _ (three_set HX7.out _ _ _).2
        | ok m =>
          rw [hbt] at hpe
          unfold pairE at hpe
          simp only [Value.tuple.injEq, Array.mk.injEq, List.cons.injEq, Value.int.injEq, and_true, true_and] at hpe
          obtain ⟨rfl, rfl⟩ := hpe
          have HRP := Lib.hid (HPUT.out _ _ _ HM9.out (HGN.out.trans hbt))
          have him := between_in hio hi9 hbt
          have y1 := HNAME.out W7 HS7.out.bx.bel
          have hbW := Nat.lt_of_lt_of_le hb HS7.out.bx.bel.size
          clear hbt
          go_upto_region 19 with (fail)
          refine wp_region_still_tail 9 (by kernel_rfl) (by kernel_rfl) ?_
          simp only [List.take_succ_cons, List.take_zero, List.drop_succ_cons, List.drop_zero]
          repeat still_step
          refine wpStill_nil ?_
          change wpList _ _ _ _ _ W7.drew
          have HS8 := Lib.hid (HS7.out.next ((Below.refl W7.heap.size W7).drew))
          generalize W7.drew = W8 at *
          go_wp2_with fail
          refine (HPT.out _ _ him HS8.out.v).mono ?_
          intro e W9 hq
          obtain ⟨n8, A8, m8, c8, x8, rfl⟩ := hq.form
          have hT := GoP.thru (b := w.heap.size + 1) HVI.out ⟨Nat.le_succ _, fin_at HB1.out.r⟩ HB1.out.bel HSR.out HS8.out.b1 hq HS8.out.v
          rw [← HRP.out] at hT
          have HT := Lib.hid hT
          have HX7 := Lib.hid ((HS8.out.bx.next hq.1).r)
          obtain ⟨d0, d1, d2, p0, p1, p2, hz⟩ := box3 HX7.out
          clear hq hT
          go_wp2_with fail
          refine bodyPost_ret (results_cell_row rfl _ _ _ tG _ (0, 0) _ rfl (three_set HX7.out _ _ _).1 Tryz.underlying64 rfl (by kernel_rfl)) rfl ?_
          exact HT.out _ (three_set HX7.out _ _ _).2
  · have HF : Hid (∀ W', Kept (· = w.heap.size + 1) W4 W' → GoP v vs R w (.returned (.agg #[.int .i64 n9, .slice A9 m9 c9, .int .i64 x9])) W') := Lib.hid (fun W' hk => GoP.no (HE.out _ (HQ.out.fell hx9)) hx9 (kept_box HB4.out.bel (Nat.le_succ _) hk))
    obtain ⟨x0, x1, x2, x3, hx⟩ := box4 HB4.out.x
    obtain ⟨d0, d1, d2, p0, p1, p2, hz⟩ := box3 HB4.out.r
    go_wp2_with fail
    refine bodyPost_ret (results_cell_row rfl _ _ _ tG _ (0, 0) _ rfl (three_then HX4.out _ _ _ _).1 Tryz.underlying64 rfl (by kernel_rfl)) rfl ?_
    exact HF.out _ (three_then HX4.out _ _ _ _).2

end Go.Proofs.YtcadnkanjlmfhaaGreatDoor.Ar
namespace Go.Proofs.YtcadnkanjlmfhaaGreatDoor.Ar
open Go.RowKit
open PathM WdM ArM
open Go.Proofs.YtcadnkanjlmfhaaGreatDoor.Wd
open Go.Proofs.YtcadnkanjlmfhaaGreatDoor.NumM (textL)
set_option linter.unusedVariables false

theorem tight_all {s : Bs} (h : 1 ≤ tightOf s) : s = [38, 38] ∨ s = [124, 124] ∨ s ∈ twS := by
  have h0 : tightOf s = 0 ∨ s ∈ [[124, 124], [38, 38], [124], [94], [38], [61, 61], [33, 61], [60], [60, 61], [62], [62, 61], [60, 60], [62, 62], [43], [45], [42], [47], [37]] := by
    unfold tightOf
    repeat' split
    all_goals first | exact .inl rfl | (right; rename_i h; first | (subst h; decide) | (rcases h with rfl | rfl | rfl | rfl <;> decide) | (rcases h with rfl | rfl | rfl <;> decide) | (rcases h with rfl | rfl <;> decide))
  rcases h0 with h0 | h0
  · omega
  · have h2 : ∀ s ∈ [[124, 124], [38, 38], [124], [94], [38], [61, 61], [33, 61], [60], [60, 61], [62], [62, 61], [60, 60], [62, 62], [43], [45], [42], [47], [37]], (s : Bs) = [38, 38] ∨ s = [124, 124] ∨ s ∈ twS := by decide
    exact h2 s h0
theorem tw_facts : ∀ s ∈ twS, s ∉ gvS ∧ s ≠ [] ∧ decide (s = [63]) = false ∧ decide (s = [38, 38]) = false ∧ decide (s = [124, 124]) = false := by decide
theorem tw_set {s : Bs} (h : s ∈ twS) (a : Int) : settledL s a = false := by
  have h2 : ∀ s ∈ twS, (s == [38, 38]) = false ∧ (s == [124, 124]) = false := by decide
  obtain ⟨h3, h4⟩ := h2 s h
  unfold settledL
  rw [h3, h4]
  rfl
theorem and_two {a b : Int} (h : a ≠ 0) : betweenL [38, 38] a b = .ok (truthL (b != 0)) := by
  show Except.ok (truthL (a != 0 && b != 0)) = _
  rw [show (a != 0) = true by simpa using h]; rfl
theorem or_two {a b : Int} (h : a = 0) : betweenL [124, 124] a b = .ok (truthL (b != 0)) := by
  subst h
  show Except.ok (truthL ((0 : Int) != 0 || b != 0)) = _
  rfl
/-- Behind both parts. -/
structure PairSt (v : Value) (vs : Vs) (R2 : Except Int (Int × Vs)) (w W : World) (S N : ByteArray) (k : Int) (K : Value) (ab : Nat) (n9 : Int) (A9 : Option Addr) (m9 c9 : Nat) (bb : Nat) (n8 : Int) (A8 : Option Addr) (m8 c8 : Nat) (x8 : Int) : Prop where
  bx : RkB w W S N k K
  a : W.heap[ab]? = some (.cells #[.int .i64 n9, .slice A9 m9 c9, .int .i64 0] tG (0, 0))
  b : W.heap[bb]? = some (.cells #[.int .i64 n8, .slice A8 m8 c8, .int .i64 x8] tG (0, 0))
  bad : x8 ≠ 0 → R2 = .error x8
  good : x8 = 0 → ∃ vs8, R2 = .ok (n8, vs8) ∧ vs8.length ≤ 64 ∧ ∀ W', Below w.heap.size w W' → Kept (· = w.heap.size + 1) W W' → VaIn W' (.slice A8 m8 c8) vs8 ∧ Src v vs w A8 m8 c8 vs8
theorem pst {v : Value} {vs vs' : Vs} {R2 : Except Int (Int × Vs)} {w W1 W5 W' W7 wx : World} {S N : ByteArray} {k : Int} {K : Value} {ab bb : Nat} {n9 n8 x8 : Int} {A9 A8 : Option Addr} {m9 c9 m8 c8 : Nat}
    (hv : VaIn w v vs) (h1 : RkB w W1 S N k K) (hB5 : RkB w W5 S N k K) (hab : ab < W5.heap.size) (ha5 : W5.heap[ab]? = some (.cells #[.int .i64 n9, .slice A9 m9 c9, .int .i64 0] tG (0, 0))) (h15 : Below W1.heap.size W1 W5) (hs9 : Src v vs W1 A9 m9 c9 vs') (hV5 : VaIn W5 (.slice A9 m9 c9) vs')
    (h5 : Below W5.heap.size W5 W') (hP : GoP (.slice A9 m9 c9) vs' R2 W' (.returned (.agg #[.int .i64 n8, .slice A8 m8 c8, .int .i64 x8])) W7) (hk : Kept (· = bb) W7 wx) (hbb : W5.heap.size ≤ bb) (hbb2 : W7.heap.size ≤ bb ∨ bb < W'.heap.size) (hbox : wx.heap[bb]? = some (.cells #[.int .i64 n8, .slice A8 m8 c8, .int .i64 x8] tG (0, 0))) :
    PairSt v vs R2 w wx S N k K ab n9 A9 m9 c9 bb n8 A8 m8 c8 x8 := by
  have h57 : Below W5.heap.size W5 W7 := h5.trans (hP.1.mono h5.size)
  have hs7 := h57.size
  have h5x : Below W5.heap.size W5 wx := h57.trans (hk.below h57.size (fun k e => by omega))
  refine ⟨hB5.next h5x, (h5x.block ab hab).trans ha5, hbox, fun hx => hP.fell hx, fun hx => ?_⟩
  subst hx
  obtain ⟨vs8, hm, hv8, hl8, hs8⟩ := hP.got
  refine ⟨vs8, hm, hl8, fun W2 hB2 hk2 => ?_⟩
  have h1s := fin_at h1.r
  have h15s := h15.size
  rcases hs8 with hs8 | ⟨hs8, rfl⟩
  · -- new variables
    have hvx : VaIn wx (.slice A8 m8 c8) vs8 := by
      obtain ⟨A', c', e, hl, hc⟩ := hv8
      refine ⟨A', c', e, hl, fun hne => ?_⟩
      obtain ⟨g, off, rfl, hg, hcs⟩ := hc hne
      simp only [Value.slice.injEq] at e
      have hge : W'.heap.size ≤ g := hs8 _ e.1
      have e2 := hk.block g hg (by intro e3; omega)
      exact ⟨g, off, rfl, Nat.lt_of_lt_of_le hg hk.size, fun i hi => ⟨(World.cell?_of_block e2).trans (hcs i hi).1, (World.cell?_of_block e2).trans (hcs i hi).2⟩⟩
    exact va_on (W1 := W1) (b := w.heap.size + 1) hv h1.bel.size ⟨Nat.le_succ _, h1s⟩ hvx (.inl (fun a ha => Nat.le_trans h15s (Nat.le_trans h5.size (hs8 a ha)))) hB2 hk2
  · simp only [Value.slice.injEq] at hs8
    obtain ⟨rfl, rfl, rfl⟩ := hs8
    exact va_on (W1 := W1) (b := w.heap.size + 1) hv h1.bel.size ⟨Nat.le_succ _, h1s⟩ (hV5.below h5x) hs9 hB2 hk2
set_option maxRecDepth 100000 in
set_option maxHeartbeats 12800000 in
theorem rk_pair (S : Bs) (x y : Tm) (ix : RkR x) (iy : RkR y) : RkR (.pair S x y) := by
  rintro D S' N k K vs v w ⟨rfl, htight, b, rfl, ⟨-, hb⟩, hkx, hky⟩ hv hl
  have hS := tight_all htight
  obtain ⟨S0, N0, k0, A0, m0, c0, hcell0, hcall0⟩ := kid_call hkx hb ix
  obtain ⟨S1, N1, k1, A1, m1, c1, hcell1, hcall1⟩ := kid_call hky hb iy
  have HCELL0 := Lib.hid hcell0
  have HCELL1 := Lib.hid hcell1
  have HC1 := Lib.hid hcall1
  have hfact : S' ∉ gvS ∧ S' ≠ [] ∧ decide (S' = [63]) = false := by
    rcases hS with rfl | rfl | h
    · decide
    · decide
    · obtain ⟨f1, f2, f3, _⟩ := tw_facts _ h; exact ⟨f1, f2, f3⟩
  obtain ⟨f1, f2, f3⟩ := hfact
  have HG := Lib.hid (gives_no f1)
  obtain ⟨e1, e2⟩ := emp_no (b := nm S') (by rw [nm_data]; exact f2)
  have q63 : ((nm S').toList == [63]) = false := by rw [str_is, f3]
  have hkind : (S' = [38, 38] ∧ ((nm S').toList == [38, 38]) = true ∧ ((nm S').toList == [124, 124]) = false) ∨ (S' = [124, 124] ∧ ((nm S').toList == [38, 38]) = false ∧ ((nm S').toList == [124, 124]) = true) ∨ (S' ∈ twS ∧ ((nm S').toList == [38, 38]) = false ∧ ((nm S').toList == [124, 124]) = false) := by
    rcases hS with rfl | rfl | h
    · exact .inl ⟨rfl, by rw [str_is]; rfl, by rw [str_is]; rfl⟩
    · exact .inr (.inl ⟨rfl, by rw [str_is]; rfl, by rw [str_is]; rfl⟩)
    · obtain ⟨_, _, _, f4, f5⟩ := tw_facts _ h
      exact .inr (.inr ⟨h, by rw [str_is, f4], by rw [str_is, f5]⟩)
  have HKD := Lib.hid hkind
  have HTW : Hid (S' ∈ twS → ∀ a b W, Calls Tryz.prog 31 #[.string (nm S'), .int .i64 a, .int .i64 b] W fun e w' => e = .returned (pairE (betweenL S' a b)) ∧ w' = W) := Lib.hid (fun h a b W => rtwo_any S' h a b W)
  have HCALL : Hid (∀ W, Below w.heap.size w W → Calls Tryz.prog 17 #[.agg #[.string S0, .string N0, .int .i64 k0, .slice A0 m0 c0], v] W (GoP v vs (reckonL x vs) W)) := Lib.hid (fun W hW => hcall0 W v vs hW (hv.below hW) hl)
  obtain ⟨M, hM⟩ : ∃ M, reckonL x vs = M := ⟨_, rfl⟩
  obtain ⟨R, hR⟩ : ∃ R, reckonL (.pair S' x y) vs = R := ⟨_, rfl⟩
  have HE : Hid (∀ e, M = .error e → R = .error e) := Lib.hid (fun e h => by rw [← hR]; exact rk_pair_e (hM.trans h))
  have HST : Hid (∀ n vs', M = .ok (n, vs') → settledL S' n = true → R = .ok (truthL (n != 0), vs')) := Lib.hid (fun n vs' h hn => by rw [← hR]; exact rk_pair_s (hM.trans h) hn)
  have HRE : Hid (∀ n vs' e, M = .ok (n, vs') → settledL S' n = false → reckonL y vs' = .error e → R = .error e) := Lib.hid (fun n vs' e h h2 h3 => by rw [← hR]; exact rk_pair_re (hM.trans h) h2 h3)
  have HOK : Hid (∀ n vs' n2 vs'' r, M = .ok (n, vs') → settledL S' n = false → reckonL y vs' = .ok (n2, vs'') → betweenL S' n n2 = .ok r → R = .ok (r, vs'')) := Lib.hid (fun n vs' n2 vs'' r h h2 h3 h4 => by rw [← hR]; exact rk_pair_ok (hM.trans h) h2 h3 h4)
  have HBE : Hid (∀ n vs' n2 vs'' e, M = .ok (n, vs') → settledL S' n = false → reckonL y vs' = .ok (n2, vs'') → betweenL S' n n2 = .error e → R = .error e) := Lib.hid (fun n vs' n2 vs'' r h h2 h3 h4 => by rw [← hR]; exact rk_pair_be (hM.trans h) h2 h3 h4)
  rw [hM] at HCALL
  rw [hR]
  have HB0 := Lib.hid (RkB.begin w (nm S') (nm N) k (.slice (some ⟨b, 0, none⟩) 2 2))
  have HVI := Lib.hid hv
  clear hcell0 hcall0 hcell1 hcall1 hkx hky hv hR hM hkind hS htight f1 f2 f3
  generalize nm N = NB at *
  generalize nm S' = SB at *
  go_enter Tryz.func17, Tryz.ntmps17
  go_wp2_with (go_at_call 28; refine (HG.out _).mono ?_; rintro e W1 ⟨rfl, hb1⟩; have HB1 := Lib.hid (HB0.out.next hb1); obtain ⟨x0, x1, x2, x3, hx⟩ := box4 HB1.out.x; obtain ⟨y0, y1, y2, y3⟩ := HCELL0.out W1 HB1.out.bel; have hbW := Nat.lt_of_lt_of_le hb HB1.out.bel.size; clear hb1)
  refine (HCALL.out _ HB1.out.bel).mono ?_
  intro e W4 hq
  obtain ⟨n9, A9, m9, c9, x9, rfl⟩ := hq.form
  have HQ := Lib.hid hq
  have HB4 := Lib.hid (HB1.out.next hq.1)
  clear hq x0 x1 x2 x3 y0 y1 y2 y3 hx hbW
  have HX4 := Lib.hid HB4.out.r
  obtain ⟨x0, x1, x2, x3, hx⟩ := box4 HB4.out.x
  obtain ⟨d0, d1, d2, p0, p1, p2, hz⟩ := box3 HB4.out.r
  by_cases hx9 : x9 = 0
  · subst hx9
    obtain ⟨vs', hM9, hv9, hl9, hs9⟩ := HQ.out.got
    have HM9 := Lib.hid hM9
    have HSR := Lib.hid hs9
    have HB5 := Lib.hid (fun o => HB4.out.next (al W4 o))
    have hn5 := fun o => heap_alloc_new W4 o
    have HV5 := Lib.hid (fun o => hv9.below (al W4 o))
    have HB15 := Lib.hid (fun o => HQ.out.1.alloc HQ.out.1.size o)
    clear hM9 hs9 hv9
    go_upto_region 35 with (fail)
    go_cut [176] from 161 to 176 (fun x176 wx => x176 = .bool (settledL S' n9) ∧ RkB w wx SB NB k (.slice (some ⟨b, 0, none⟩) 2 2) ∧ wx.heap[W4.heap.size]? = some (.cells #[.int .i64 n9, .slice A9 m9 c9, .int .i64 0] tG (0, 0)) ∧ VaIn wx (.slice A9 m9 c9) vs' ∧ Below W1.heap.size W1 wx ∧ W4.heap.size < wx.heap.size)
    case first =>
      rcases HKD.out with ⟨rfl, qa, qo⟩ | ⟨rfl, qa, qo⟩ | ⟨htw, qa, qo⟩
      · by_cases hn9 : n9 = 0
        · subst hn9
          go_wp2_with fail
          go_meet
          exact ⟨rfl, HB5.out _, hn5 _, HV5.out _, HB15.out _, by simp⟩
        · have hnb : (n9 == 0) = false := by simpa using hn9
          go_wp2_with fail
          go_meet
          exact ⟨by show _ = Value.bool (true && n9 == 0 || false && n9 != 0); simp [hn9], HB5.out _, hn5 _, HV5.out _, HB15.out _, by simp⟩
      · by_cases hn9 : n9 = 0
        · subst hn9
          go_wp2_with fail
          go_meet
          exact ⟨rfl, HB5.out _, hn5 _, HV5.out _, HB15.out _, by simp⟩
        · have hnb : (n9 != 0) = true := by simpa using hn9
          go_wp2_with fail
          go_meet
          exact ⟨by show _ = Value.bool (false && n9 == 0 || true && n9 != 0); simp [hn9], HB5.out _, hn5 _, HV5.out _, HB15.out _, by simp⟩
      · go_wp2_with fail
        go_meet
        exact ⟨by rw [tw_set htw], HB5.out _, hn5 _, HV5.out _, HB15.out _, by simp⟩
    case rest =>
      rename World => W5
      obtain ⟨rfl, hb5, hn5', hv5, hb15, hz5⟩ := hcut
      have HB55 := Lib.hid hb5
      have HA55 := Lib.hid hn5'
      have HV55 := Lib.hid hv5
      have HB155 := Lib.hid hb15
      obtain ⟨x0, x1, x2, x3, hx⟩ := box4 hb5.x
      obtain ⟨a0, a1, a2, -, -, -, ha⟩ := box3 hn5'
      have hnew : w.heap.size + 1 < W4.heap.size := fin_at HX4.out
      generalize W4.heap.size = ab at *
      clear hb5 hn5' hv5 hb15 d0 d1 d2 p0 p1 p2 hz hn5 HB5 HV5 HB15
      cases hset : settledL S' n9 with
      | true =>
        have hR9 := HST.out _ _ HM9.out hset
        have HF : Hid (∀ W6 W', Below W5.heap.size W5 W6 → Kept (· = w.heap.size + 1) W6 W' → GoP v vs R w (.returned (.agg #[.int .i64 (truthL (n9 != 0)), .slice A9 m9 c9, .int .i64 0])) W') := Lib.hid (fun W6 W' h56 hk => by
          have hbb := kept_box (HB55.out.next h56).bel (Nat.le_succ _) hk
          obtain ⟨g1, g2⟩ := va_on HVI.out HB1.out.bel.size ⟨Nat.le_succ _, fin_at HB1.out.r⟩ (HV55.out.below h56) HSR.out hbb hk
          exact GoP.yes hR9 hbb g1 hl9 g2)
        clear hR9
        have HD6 := Lib.hid ((Below.refl W5.heap.size W5).drew)
        have HX6 := Lib.hid ((HB55.out.next HD6.out).r)
        rcases HKD.out with ⟨rfl, qa, qo⟩ | ⟨rfl, qa, qo⟩ | ⟨htw, qa, qo⟩
        · have hn0 : n9 = 0 := by
            have h2 : (true && n9 == 0 || false && n9 != 0) = true := hset
            simpa using h2
          have htr : truthL (n9 != 0) = truthL false := by rw [hn0]; rfl
          rw [htr] at HF
          clear hset htr
          go_wp2_with fail
          refine wp_region_still_tail 6 (by kernel_rfl) (by kernel_rfl) ?_
          simp only [List.take_succ_cons, List.take_zero, List.drop_succ_cons, List.drop_zero]
          repeat still_step
          still_call (rtruth_any _ _)
          repeat still_step
          refine wpStill_nil ?_
          change wpList _ _ _ _ _ W5.drew
          generalize W5.drew = W6 at *
          obtain ⟨d0, d1, d2, p0, p1, p2, hz⟩ := box3 HX6.out
          go_wp2_with fail
          refine bodyPost_ret (results_cell_row rfl _ _ _ tG _ (0, 0) _ rfl (three_set HX6.out _ _ _).1 Tryz.underlying64 rfl (by kernel_rfl)) rfl ?_
          exact HF.out _ _ HD6.out (three_set HX6.out _ _ _).2
        · have hn0 : n9 ≠ 0 := by
            have h2 : (false && n9 == 0 || true && n9 != 0) = true := hset
            simpa using h2
          have htr : truthL (n9 != 0) = truthL true := by rw [show (n9 != 0) = true by simpa using hn0]
          rw [htr] at HF
          clear hset htr
          go_wp2_with fail
          refine wp_region_still_tail 6 (by kernel_rfl) (by kernel_rfl) ?_
          simp only [List.take_succ_cons, List.take_zero, List.drop_succ_cons, List.drop_zero]
          repeat still_step
          still_call (rtruth_any _ _)
          repeat still_step
          refine wpStill_nil ?_
          change wpList _ _ _ _ _ W5.drew
          generalize W5.drew = W6 at *
          obtain ⟨d0, d1, d2, p0, p1, p2, hz⟩ := box3 HX6.out
          go_wp2_with fail
          refine bodyPost_ret (results_cell_row rfl _ _ _ tG _ (0, 0) _ rfl (three_set HX6.out _ _ _).1 Tryz.underlying64 rfl (by kernel_rfl)) rfl ?_
          exact HF.out _ _ HD6.out (three_set HX6.out _ _ _).2
        · rw [tw_set htw] at hset
          cases hset
      | false =>
        obtain ⟨y0, y1, y2, y3⟩ := HCELL1.out W5 HB55.out.bel
        have hbW5 : b < W5.heap.size := Nat.lt_of_lt_of_le hb HB55.out.bel.size
        have HSF := Lib.hid hset
        clear hset
        go_upto_region 37 with (fail)
        go_cut [13] from 183 to 189 (fun x13 wx => ∃ bb n8 A8 m8 c8 x8, x13 = .pointer (some ⟨bb, 0, none⟩) ∧ PairSt v vs (reckonL y vs') w wx SB NB k (.slice (some ⟨b, 0, none⟩) 2 2) ab n9 A9 m9 c9 bb n8 A8 m8 c8 x8)
        case first =>
          have HC5 : Hid (∀ W, Below W5.heap.size W5 W → Calls Tryz.prog 17 #[.agg #[.string S1, .string N1, .int .i64 k1, .slice A1 m1 c1], .slice A9 m9 c9] W (GoP (.slice A9 m9 c9) vs' (reckonL y vs') W)) := Lib.hid (fun W h => HC1.out W _ _ (HB55.out.next h).bel (HV55.out.below h) hl9)
          have HA0 := Lib.hid ((Below.refl W5.heap.size W5).drew)
          have HA1 := Lib.hid (fun o => ((Below.refl W5.heap.size W5).alloc (Nat.le_refl _) o).drew)
          have HA2 := Lib.hid (fun o => ((Below.refl W5.heap.size W5).drew).alloc (Nat.le_refl _) o)
          have HN1 := Lib.hid (fun o => heap_alloc_new W5 o)
          have HPST := Lib.hid (fun (W' W7 wx : World) (bb : Nat) (n8 x8 : Int) (A8 : Option Addr) (m8 c8 : Nat) => pst (R2 := reckonL y vs') (W' := W') (W7 := W7) (wx := wx) (bb := bb) (n8 := n8) (x8 := x8) (A8 := A8) (m8 := m8) (c8 := c8) HVI.out HB1.out HB55.out hz5 HA55.out HB155.out HSR.out HV55.out)
          clear HCELL0 HCELL1 HC1 HCALL HE HST HRE HOK HBE HVI HKD HTW HG HB0 HB4 HX4 HM9 HSF HQ HB1 HSR
          go_region_with (go_at_call 17; first | (refine (HC5.out _ HA0.out).mono ?_; intro e W7 hq; obtain ⟨n8, A8, m8, c8, x8, rfl⟩ := hq.form; have HQ8 := Lib.hid hq; have HPW := Lib.hid HA0.out; clear hq) | (refine (HC5.out _ (HA1.out _)).mono ?_; intro e W7 hq; obtain ⟨n8, A8, m8, c8, x8, rfl⟩ := hq.form; have HQ8 := Lib.hid hq; have HBX7 := Lib.hid ((hq.1.block W5.heap.size (by simp [World.drew])).trans (HN1.out _)); have HPW := Lib.hid (HA1.out (.cells z3 tG)); obtain ⟨b0, b1, b2, r0, r1, r2, hbz⟩ := box3 HBX7.out; clear hq) | (refine (HC5.out _ (HA2.out _)).mono ?_; intro e W7 hq; obtain ⟨n8, A8, m8, c8, x8, rfl⟩ := hq.form; have HQ8 := Lib.hid hq; have HBX7 := Lib.hid ((hq.1.block W5.heap.size (by simp [World.drew])).trans (HN1.out _)); have HPW := Lib.hid (HA2.out (.cells z3 tG)); obtain ⟨b0, b1, b2, r0, r1, r2, hbz⟩ := box3 HBX7.out; clear hq))
          all_goals
            go_wp2_with fail
            go_meet
            first
              | exact ⟨_, _, _, _, _, _, rfl, HPST.out _ _ _ _ _ _ _ _ _ HPW.out HQ8.out (three_set HBX7.out _ _ _).2 (Nat.le_refl _) (.inr (by simp [World.drew])) (three_set HBX7.out _ _ _).1⟩
              | exact ⟨_, _, _, _, _, _, rfl, HPST.out _ _ _ _ _ _ _ _ _ HPW.out HQ8.out (kept_of_below (al _ _)) (Nat.le_trans HPW.out.size HQ8.out.1.size) (.inl (Nat.le_refl _)) (heap_alloc_new _ _)⟩
        case rest =>
          clear HCELL0 HCELL1 HC1 HCALL HE HST HB0 HB4 HX4 HQ x0 x1 x2 x3 a0 a1 a2 y0 y1 y2 y3 HV55 HA55 HB155
          rename World => wx
          obtain ⟨bb, n8, A8, m8, c8, x8, rfl, hps⟩ := hcut
          have HPS := Lib.hid hps
          obtain ⟨x0, x1, x2, x3, hx⟩ := box4 hps.bx.x
          obtain ⟨a0, a1, a2, -, -, -, ha⟩ := box3 hps.a
          obtain ⟨b0, b1, b2, -, -, -, hbz⟩ := box3 hps.b
          obtain ⟨d0, d1, d2, p0, p1, p2, hz⟩ := box3 hps.bx.r
          have HXR := Lib.hid hps.bx.r
          clear hps
          by_cases hx8 : x8 = 0
          · subst hx8
            obtain ⟨vs8, hm8, hl8, hva⟩ := HPS.out.good rfl
            have HM8 := Lib.hid hm8
            have HVA := Lib.hid hva
            have HF : Hid (∀ W6 W' r, Below wx.heap.size wx W6 → Kept (· = w.heap.size + 1) W6 W' → R = .ok (r, vs8) → GoP v vs R w (.returned (.agg #[.int .i64 r, .slice A8 m8 c8, .int .i64 0])) W') := Lib.hid (fun W6 W' r h6 hk hr => by
              have hbb := kept_box (HPS.out.bx.next h6).bel (Nat.le_succ _) hk
              obtain ⟨g1, g2⟩ := HVA.out W' hbb ((kept_of_below h6).trans hk)
              exact GoP.yes hr hbb g1 hl8 g2)
            have HF2 : Hid (∀ W' r e, e ≠ 0 → Kept (· = w.heap.size + 1) wx W' → R = .error e → GoP v vs R w (.returned (.agg #[.int .i64 r, .slice A8 m8 c8, .int .i64 e])) W') := Lib.hid (fun W' r e he hk hr => GoP.no hr he (kept_box HPS.out.bx.bel (Nat.le_succ _) hk))
            have HD6 := Lib.hid ((Below.refl wx.heap.size wx).drew)
            have HX6 := Lib.hid ((HPS.out.bx.next HD6.out).r)
            clear hm8 hva
            rcases HKD.out with ⟨rfl, qa, qo⟩ | ⟨rfl, qa, qo⟩ | ⟨htw, qa, qo⟩
            · have hn0 : n9 ≠ 0 := by
                have h2 : (true && n9 == 0 || false && n9 != 0) = false := HSF.out
                simpa using h2
              have HRR := Lib.hid (HOK.out _ _ _ _ _ HM9.out HSF.out HM8.out (and_two (b := n8) hn0))
              clear hn0
              go_wp2_with fail
              refine wp_region_still_tail 7 (by kernel_rfl) (by kernel_rfl) ?_
              simp only [List.take_succ_cons, List.take_zero, List.drop_succ_cons, List.drop_zero]
              repeat still_step
              still_call (rtruth_any _ _)
              repeat still_step
              refine wpStill_nil ?_
              change wpList _ _ _ _ _ wx.drew
              generalize wx.drew = W6 at *
              obtain ⟨d0, d1, d2, p0, p1, p2, hz⟩ := box3 HX6.out
              go_wp2_with fail
              refine bodyPost_ret (results_cell_row rfl _ _ _ tG _ (0, 0) _ rfl (three_set HX6.out _ _ _).1 Tryz.underlying64 rfl (by kernel_rfl)) rfl ?_
              exact HF.out _ _ _ HD6.out (three_set HX6.out _ _ _).2 HRR.out
            · have hn0 : n9 = 0 := by
                have h2 : (false && n9 == 0 || true && n9 != 0) = false := HSF.out
                simpa using h2
              have HRR := Lib.hid (HOK.out _ _ _ _ _ HM9.out HSF.out HM8.out (or_two (b := n8) hn0))
              clear hn0
              go_wp2_with fail
              refine wp_region_still_tail 7 (by kernel_rfl) (by kernel_rfl) ?_
              simp only [List.take_succ_cons, List.take_zero, List.drop_succ_cons, List.drop_zero]
              repeat still_step
              still_call (rtruth_any _ _)
              repeat still_step
              refine wpStill_nil ?_
              change wpList _ _ _ _ _ wx.drew
              generalize wx.drew = W6 at *
              obtain ⟨d0, d1, d2, p0, p1, p2, hz⟩ := box3 HX6.out
              go_wp2_with fail
              refine bodyPost_ret (results_cell_row rfl _ _ _ tG _ (0, 0) _ rfl (three_set HX6.out _ _ _).1 Tryz.underlying64 rfl (by kernel_rfl)) rfl ?_
              exact HF.out _ _ _ HD6.out (three_set HX6.out _ _ _).2 HRR.out
            · obtain ⟨rn, rx, hpe⟩ := pair_form (betweenL S' n9 n8)
              have HT2 := Lib.hid (fun W => HTW.out htw n9 n8 W)
              rw [hpe] at HT2
              have HRR : Hid (∀ W', Kept (· = w.heap.size + 1) wx W' → GoP v vs R w (.returned (.agg #[.int .i64 rn, .slice A8 m8 c8, .int .i64 rx])) W') := Lib.hid (fun W' hk => by
                cases hbt : betweenL S' n9 n8 with
                | ok r =>
                  rw [hbt] at hpe
                  unfold pairE at hpe
                  simp only [Value.tuple.injEq, Array.mk.injEq, List.cons.injEq, Value.int.injEq, and_true, true_and] at hpe
                  obtain ⟨rfl, rfl⟩ := hpe
                  exact HF.out _ _ _ (Below.refl _ _) hk (HOK.out _ _ _ _ _ HM9.out HSF.out HM8.out hbt)
                | error e =>
                  rw [hbt] at hpe
                  unfold pairE at hpe
                  simp only [Value.tuple.injEq, Array.mk.injEq, List.cons.injEq, Value.int.injEq, and_true, true_and] at hpe
                  obtain ⟨rfl, rfl⟩ := hpe
                  exact HF2.out _ _ _ (between_ne hbt) hk (HBE.out _ _ _ _ _ HM9.out HSF.out HM8.out hbt))
              clear hpe HTW
              go_wp2_with (go_at_call 31; refine (HT2.out _).mono ?_; rintro e W8 ⟨rfl, rfl⟩)
              refine bodyPost_ret (results_cell_row rfl _ _ _ tG _ (0, 0) _ rfl (three_set HXR.out _ _ _).1 Tryz.underlying64 rfl (by kernel_rfl)) rfl ?_
              exact HRR.out _ (three_set HXR.out _ _ _).2
          · have HF : Hid (∀ W', Kept (· = w.heap.size + 1) wx W' → GoP v vs R w (.returned (.agg #[.int .i64 n8, .slice A8 m8 c8, .int .i64 x8])) W') := Lib.hid (fun W' hk => GoP.no (HRE.out _ _ _ HM9.out HSF.out (HPS.out.bad hx8)) hx8 (kept_box HPS.out.bx.bel (Nat.le_succ _) hk))
            go_wp2_with fail
            refine bodyPost_ret (results_cell_row rfl _ _ _ tG _ (0, 0) _ rfl (three_set HXR.out _ _ _).1 Tryz.underlying64 rfl (by kernel_rfl)) rfl ?_
            exact HF.out _ (three_set HXR.out _ _ _).2
  · have HF : Hid (∀ W', Kept (· = w.heap.size + 1) W4 W' → GoP v vs R w (.returned (.agg #[.int .i64 n9, .slice A9 m9 c9, .int .i64 x9])) W') := Lib.hid (fun W' hk => GoP.no (HE.out _ (HQ.out.fell hx9)) hx9 (kept_box HB4.out.bel (Nat.le_succ _) hk))
    go_wp2_with fail
    refine bodyPost_ret (results_cell_row rfl _ _ _ tG _ (0, 0) _ rfl (three_then HX4.out _ _ _ _).1 Tryz.underlying64 rfl (by kernel_rfl)) rfl ?_
    exact HF.out _ (three_then HX4.out _ _ _ _).2

end Go.Proofs.YtcadnkanjlmfhaaGreatDoor.Ar
