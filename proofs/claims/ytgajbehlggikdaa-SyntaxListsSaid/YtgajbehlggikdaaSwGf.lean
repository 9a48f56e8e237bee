/- DERIVED. The walk over choice. -/
import Derived.Test.YtgajbehlggikdaaSwGe
namespace Go.Proofs.Ytgajbehlggikdaa.Sw
open Go.RowKit
open PathM WdM SyM
open Go.Proofs.Ytgajbehlggikdaa.Wd
set_option linter.unusedVariables false

set_option maxRecDepth 100000 in
set_option maxHeartbeats 6400000 in
theorem choice_any {lists : Bs → Rs (List LiT)} {elif : Bs → Rs CmdT} {d wi : Nat} (hL : LsOk lists (d + 1) wi) (hE : (wi ≤ 16 ∧ ChOk elif d (wi + 1)) ∨ (16 < wi ∧ elif = tooDeep)) : ChOk (choiceL lists elif) (d + 1) wi := by
  intro rb s l w h hs
  have HT := Lib.hid (fun W (hW : RdS W rb s l wi) => listsTo_any hL rb s l thenK W hW hs)
  have HST := Lib.hid (CSt.start h (.int .i64 4) (.string ⟨#[]⟩))
  cases hm : listsTo lists thenK l with
  | bad a er =>
    rw [ch1 hm]
    rw [hm] at HT
    clear h hm hL hE
    go_enter Try.func51, Try.ntmps51
    go_wp2_with fail
    refine calls_gen _ HST.out ?_
    intro W hS
    refine (HT.out W hS.rd).mono ?_
    rintro e W1 ⟨hk, rfl⟩
    simp only [sflt]
    go_wp2_with fail
    exact ⟨rfl, hS.kept.trans hk, rfl⟩
  | ok c r =>
    rw [hm] at HT
    have HL := Lib.hid (fun W (hW : RdS W rb s r wi) => hL rb s r W hW hs)
    cases hm2 : lists r with
    | bad a er =>
      rw [ch2 hm hm2]
      rw [hm2] at HL
      clear h hm hm2 hL hE
      go_enter Try.func51, Try.ntmps51
      go_wp2_with fail
      refine calls_gen _ HST.out ?_
      intro W hS
      refine (HT.out W hS.rd).mono ?_
      rintro e W1 ⟨hk, v, rfl, hr, hv⟩
      obtain ⟨A1, n1, c1, rfl⟩ := LsIn.form hv
      have HS := Lib.hid (hS.step hk hr)
      have HV := Lib.hid (nw_le (LsIn.good (d + 1)) hS.size hv)
      obtain ⟨⟨b0, b1, b2, b3, b4, b5, b6, b7, b8⟩, bf⟩ := BoxC.nine HS.out.box
      have f4 := bf 4
      clear hS hk hr hv b0 b1 b2 b3 b5 b6 b7 b8 bf
      go_wp2_with fail
      refine (HL.out _ (HS.out.set 4 _).rd).mono ?_
      rintro e W2 ⟨hk, rfl⟩
      simp only [sflt]
      go_wp2_with fail
      exact ⟨rfl, (HS.out.set 4 _).kept.trans hk, rfl⟩
    | ok b r2 =>
      rw [hm2] at HL
      have HP1 := Lib.hid (fun W (hW : RdS W rb s r2 wi) => pass_any rb s r2 wi elseK W hW hs)
      cases hp : passL elseK r2 with
      | some r3 =>
        rw [hp] at HP1
        have HT2 := Lib.hid (fun W (hW : RdS W rb s r3 wi) => listsTo_any hL rb s r3 fiK W hW hs)
        cases hm3 : listsTo lists fiK r3 with
        | bad a er =>
          rw [ch3 hm hm2 hp hm3]
          rw [hm3] at HT2
          clear h hm hm2 hL hE hp hm3
          go_enter Try.func51, Try.ntmps51
          go_wp2_with fail
          refine calls_gen _ HST.out ?_
          intro W hS
          refine (HT.out W hS.rd).mono ?_
          rintro e W1 ⟨hk, v, rfl, hr, hv⟩
          obtain ⟨A1, n1, c1, rfl⟩ := LsIn.form hv
          have HS := Lib.hid (hS.step hk hr)
          have HV := Lib.hid (nw_le (LsIn.good (d + 1)) hS.size hv)
          obtain ⟨⟨b0, b1, b2, b3, b4, b5, b6, b7, b8⟩, bf⟩ := BoxC.nine HS.out.box
          have f4 := bf 4
          clear hS hk hr hv b0 b1 b2 b3 b5 b6 b7 b8 bf
          go_wp2_with fail
          refine calls_gen (fun W => CSt rb s wi w r [.int .i64 4, .string ⟨#[]⟩, .slice none 0 0, .slice none 0 0, .slice A1 n1 c1, .slice none 0 0, .slice none 0 0, .slice none 0 0, .slice none 0 0] W ∧ LsIn (d + 1) W (Nw (w.heap.size + 2) W) (.slice A1 n1 c1) c) ⟨HS.out.set 4 _, HS.out.setK 4 _ (LsIn.good (d + 1)) HV.out⟩ ?_
          rintro W2 ⟨hS, hv⟩
          refine (HL.out W2 hS.rd).mono ?_
          rintro e W3 ⟨hk, v2, rfl, hr, hv2⟩
          obtain ⟨A2, n2, c2, rfl⟩ := LsIn.form hv2
          have HS3 := Lib.hid (hS.step hk hr)
          have HV1 := Lib.hid (hS.stepK hk (LsIn.good (d + 1)) hv)
          have HV2 := Lib.hid (nw_le (LsIn.good (d + 1)) hS.size hv2)
          obtain ⟨⟨d0, d1, d2, d3, d4, d5, d6, d7, d8⟩, df⟩ := BoxC.nine HS3.out.box
          have f5 := df 5
          clear hS hk hr hv hv2 HS HV b4 f4 d0 d1 d2 d3 d4 d6 d7 d8 df
          go_wp2_with fail
          refine (HP1.out _ (HS3.out.set 5 _).rd).mono ?_
          rintro e W4 ⟨rfl, hk4, hr4⟩
          go_wp2_with fail
          refine (HT2.out _ hr4).mono ?_
          rintro e W5 ⟨hk, rfl⟩
          simp only [sflt]
          go_wp2_with fail
          exact ⟨rfl, ((HS3.out.set 5 _).kept.trans hk4).trans hk, rfl⟩
        | ok o r4 =>
          rw [ch4 hm hm2 hp hm3]
          rw [hm3] at HT2
          clear h hm hm2 hL hE hp hm3
          go_enter Try.func51, Try.ntmps51
          go_wp2_with fail
          refine calls_gen _ HST.out ?_
          intro W hS
          refine (HT.out W hS.rd).mono ?_
          rintro e W1 ⟨hk, v, rfl, hr, hv⟩
          obtain ⟨A1, n1, c1, rfl⟩ := LsIn.form hv
          have HS := Lib.hid (hS.step hk hr)
          have HV := Lib.hid (nw_le (LsIn.good (d + 1)) hS.size hv)
          obtain ⟨⟨b0, b1, b2, b3, b4, b5, b6, b7, b8⟩, bf⟩ := BoxC.nine HS.out.box
          have f4 := bf 4
          clear hS hk hr hv b0 b1 b2 b3 b5 b6 b7 b8 bf
          go_wp2_with fail
          refine calls_gen (fun W => CSt rb s wi w r [.int .i64 4, .string ⟨#[]⟩, .slice none 0 0, .slice none 0 0, .slice A1 n1 c1, .slice none 0 0, .slice none 0 0, .slice none 0 0, .slice none 0 0] W ∧ LsIn (d + 1) W (Nw (w.heap.size + 2) W) (.slice A1 n1 c1) c) ⟨HS.out.set 4 _, HS.out.setK 4 _ (LsIn.good (d + 1)) HV.out⟩ ?_
          rintro W2 ⟨hS, hv⟩
          refine (HL.out W2 hS.rd).mono ?_
          rintro e W3 ⟨hk, v2, rfl, hr, hv2⟩
          obtain ⟨A2, n2, c2, rfl⟩ := LsIn.form hv2
          have HS3 := Lib.hid (hS.step hk hr)
          have HV1 := Lib.hid (hS.stepK hk (LsIn.good (d + 1)) hv)
          have HV2 := Lib.hid (nw_le (LsIn.good (d + 1)) hS.size hv2)
          obtain ⟨⟨d0, d1, d2, d3, d4, d5, d6, d7, d8⟩, df⟩ := BoxC.nine HS3.out.box
          have f5 := df 5
          clear hS hk hr hv hv2 HS HV b4 f4 d0 d1 d2 d3 d4 d6 d7 d8 df
          go_wp2_with fail
          refine calls_gen (fun W => CSt rb s wi w r2 [.int .i64 4, .string ⟨#[]⟩, .slice none 0 0, .slice none 0 0, .slice A1 n1 c1, .slice A2 n2 c2, .slice none 0 0, .slice none 0 0, .slice none 0 0] W ∧ LsIn (d + 1) W (Nw (w.heap.size + 2) W) (.slice A1 n1 c1) c ∧ LsIn (d + 1) W (Nw (w.heap.size + 2) W) (.slice A2 n2 c2) b) ⟨HS3.out.set 5 _, HS3.out.setK 5 _ (LsIn.good (d + 1)) HV1.out, HS3.out.setK 5 _ (LsIn.good (d + 1)) HV2.out⟩ ?_
          clear HS3 HV1 HV2 d5 f5
          rintro W3 ⟨hS3, hv1, hv2⟩
          refine (HP1.out W3 hS3.rd).mono ?_
          rintro e W4 ⟨rfl, hk4, hr4⟩
          have hS4 := hS3.step hk4 hr4
          have hV1 := hS3.stepK hk4 (LsIn.good (d + 1)) hv1
          have hV2 := hS3.stepK hk4 (LsIn.good (d + 1)) hv2
          clear hS3 hv1 hv2 hk4 hr4
          go_wp2_with fail
          refine (HT2.out _ hS4.rd).mono ?_
          rintro e W5 ⟨hk5, v5, rfl, hr5, hv5⟩
          obtain ⟨A3, n3, c3, rfl⟩ := LsIn.form hv5
          have HS5 := Lib.hid (hS4.step hk5 hr5)
          have HV1 := Lib.hid (hS4.stepK hk5 (LsIn.good (d + 1)) hV1)
          have HV2 := Lib.hid (hS4.stepK hk5 (LsIn.good (d + 1)) hV2)
          have HV3 := Lib.hid (nw_le (LsIn.good (d + 1)) hS4.size hv5)
          clear hS4 hV1 hV2 hk5 hr5 hv5
          have HS6 := Lib.hid (HS5.out.set 6 (.slice A3 n3 c3))
          obtain ⟨⟨q0, q1, q2, q3, q4, q5, q6, q7, q8⟩, qf⟩ := BoxC.nine HS5.out.box
          have f6 := qf 6
          have hres := HS6.out.res
          obtain ⟨⟨e0, e1, e2, e3, e4, e5, e6, e7, e8⟩, ef⟩ := BoxC.nine HS6.out.box
          obtain ⟨⟨g0, g1, g2, g3, g4, g5, g6, g7, g8⟩, gf⟩ := BoxC.nine hres
          go_wp2_with fail
          refine bodyPost_ret (results_cell_row rfl _ _ _ 42 _ (0, 0) _ rfl (nine_set hres _ _ _ _ _ _ _ _ _) Try.underlying42 rfl (by kernel_rfl)) rfl ?_
          exact HS6.out.done (LsIn.good (d + 1)) ⟨_, _, _, _, _, _, _, rfl, Sl.nil _ _ _ _ _ _, Sl.nil _ _ _ _ _ _, HS5.out.setK 6 _ (LsIn.good (d + 1)) HV1.out, HS5.out.setK 6 _ (LsIn.good (d + 1)) HV2.out, HS5.out.setK 6 _ (LsIn.good (d + 1)) HV3.out, Sl.nil _ _ _ _ _ _, Sl.nil _ _ _ _ _ _, fun _ => rfl⟩
      | none =>
        rw [hp] at HP1
        have HP2 := Lib.hid (fun W (hW : RdS W rb s r2 wi) => pass_any rb s r2 wi elifK W hW hs)
        cases hp2 : passL elifK r2 with
        | some r3 =>
          rw [hp2] at HP2
          rcases hE with ⟨hwi, hE⟩ | ⟨hwi, rfl⟩
          · have HEN := Lib.hid (fun n W (hW : RdS W rb s r3 wi) => enter_any rb s r3 wi n W hW hwi)
            have HE2 := Lib.hid (fun W (hW : RdS W rb s r3 (wi + 1)) => hE rb s r3 W hW hs)
            cases hm3 : elif r3 with
            | bad a er =>
              rw [ch5 hm hm2 hp hp2 hm3]
              rw [hm3] at HE2
              clear h hm hm2 hL hE hp hp2 hm3
              go_enter Try.func51, Try.ntmps51
              go_wp2_with fail
              refine calls_gen _ HST.out ?_
              intro W hS
              refine (HT.out W hS.rd).mono ?_
              rintro e W1 ⟨hk, v, rfl, hr, hv⟩
              obtain ⟨A1, n1, c1, rfl⟩ := LsIn.form hv
              have HS := Lib.hid (hS.step hk hr)
              have HV := Lib.hid (nw_le (LsIn.good (d + 1)) hS.size hv)
              obtain ⟨⟨b0, b1, b2, b3, b4, b5, b6, b7, b8⟩, bf⟩ := BoxC.nine HS.out.box
              have f4 := bf 4
              clear hS hk hr hv b0 b1 b2 b3 b5 b6 b7 b8 bf
              go_wp2_with fail
              refine calls_gen (fun W => CSt rb s wi w r [.int .i64 4, .string ⟨#[]⟩, .slice none 0 0, .slice none 0 0, .slice A1 n1 c1, .slice none 0 0, .slice none 0 0, .slice none 0 0, .slice none 0 0] W ∧ LsIn (d + 1) W (Nw (w.heap.size + 2) W) (.slice A1 n1 c1) c) ⟨HS.out.set 4 _, HS.out.setK 4 _ (LsIn.good (d + 1)) HV.out⟩ ?_
              rintro W2 ⟨hS, hv⟩
              refine (HL.out W2 hS.rd).mono ?_
              rintro e W3 ⟨hk, v2, rfl, hr, hv2⟩
              obtain ⟨A2, n2, c2, rfl⟩ := LsIn.form hv2
              have HS3 := Lib.hid (hS.step hk hr)
              have HV1 := Lib.hid (hS.stepK hk (LsIn.good (d + 1)) hv)
              have HV2 := Lib.hid (nw_le (LsIn.good (d + 1)) hS.size hv2)
              obtain ⟨⟨d0, d1, d2, d3, d4, d5, d6, d7, d8⟩, df⟩ := BoxC.nine HS3.out.box
              have f5 := df 5
              clear hS hk hr hv hv2 HS HV b4 f4 d0 d1 d2 d3 d4 d6 d7 d8 df
              go_wp2_with fail
              refine calls_gen (fun W => CSt rb s wi w r2 [.int .i64 4, .string ⟨#[]⟩, .slice none 0 0, .slice none 0 0, .slice A1 n1 c1, .slice A2 n2 c2, .slice none 0 0, .slice none 0 0, .slice none 0 0] W ∧ LsIn (d + 1) W (Nw (w.heap.size + 2) W) (.slice A1 n1 c1) c ∧ LsIn (d + 1) W (Nw (w.heap.size + 2) W) (.slice A2 n2 c2) b) ⟨HS3.out.set 5 _, HS3.out.setK 5 _ (LsIn.good (d + 1)) HV1.out, HS3.out.setK 5 _ (LsIn.good (d + 1)) HV2.out⟩ ?_
              clear HS3 HV1 HV2 d5 f5
              rintro W3 ⟨hS3, hv1, hv2⟩
              refine (HP1.out W3 hS3.rd).mono ?_
              rintro e W4 ⟨rfl, hk4, hr4⟩
              have hS4 := hS3.step hk4 hr4
              have hU1 := hS3.stepK hk4 (LsIn.good (d + 1)) hv1
              have hU2 := hS3.stepK hk4 (LsIn.good (d + 1)) hv2
              clear hS3 hv1 hv2 hk4 hr4
              go_wp2_with fail
              refine (HP2.out W4 hS4.rd).mono ?_
              rintro e W5 ⟨rfl, hk5, hr5⟩
              have hS5 := hS4.step hk5 hr5
              have hV1 := hS4.stepK hk5 (LsIn.good (d + 1)) hU1
              have hV2 := hS4.stepK hk5 (LsIn.good (d + 1)) hU2
              clear hS4 hU1 hU2 hk5 hr5
              have r1 := hS5.rd.c1
              have hz5 := hS5.rd.lt
              go_wp2_with fail
              refine (HEN.out _ _ hS5.rd).mono ?_
              rintro e W6 ⟨rfl, hk6, hr6⟩
              go_wp2_with fail
              refine (HE2.out _ hr6).mono ?_
              rintro e W7 ⟨hk, rfl⟩
              simp only [sflt]
              go_wp2_with fail
              exact ⟨rfl, (hS5.kept.trans hk6).trans hk, rfl⟩
            | ok o r4 =>
              rw [ch6 hm hm2 hp hp2 hm3]
              rw [hm3] at HE2
              have HLV := Lib.hid (fun W (hW : RdS W rb s r4 (wi + 1)) => leave_any rb s r4 wi W hW (by omega))
              clear h hm hm2 hL hE hp hp2 hm3
              go_enter Try.func51, Try.ntmps51
              go_wp2_with fail
              refine calls_gen _ HST.out ?_
              intro W hS
              refine (HT.out W hS.rd).mono ?_
              rintro e W1 ⟨hk, v, rfl, hr, hv⟩
              obtain ⟨A1, n1, c1, rfl⟩ := LsIn.form hv
              have HS := Lib.hid (hS.step hk hr)
              have HV := Lib.hid (nw_le (LsIn.good (d + 1)) hS.size hv)
              obtain ⟨⟨b0, b1, b2, b3, b4, b5, b6, b7, b8⟩, bf⟩ := BoxC.nine HS.out.box
              have f4 := bf 4
              clear hS hk hr hv b0 b1 b2 b3 b5 b6 b7 b8 bf
              go_wp2_with fail
              refine calls_gen (fun W => CSt rb s wi w r [.int .i64 4, .string ⟨#[]⟩, .slice none 0 0, .slice none 0 0, .slice A1 n1 c1, .slice none 0 0, .slice none 0 0, .slice none 0 0, .slice none 0 0] W ∧ LsIn (d + 1) W (Nw (w.heap.size + 2) W) (.slice A1 n1 c1) c) ⟨HS.out.set 4 _, HS.out.setK 4 _ (LsIn.good (d + 1)) HV.out⟩ ?_
              rintro W2 ⟨hS, hv⟩
              refine (HL.out W2 hS.rd).mono ?_
              rintro e W3 ⟨hk, v2, rfl, hr, hv2⟩
              obtain ⟨A2, n2, c2, rfl⟩ := LsIn.form hv2
              have HS3 := Lib.hid (hS.step hk hr)
              have HV1 := Lib.hid (hS.stepK hk (LsIn.good (d + 1)) hv)
              have HV2 := Lib.hid (nw_le (LsIn.good (d + 1)) hS.size hv2)
              obtain ⟨⟨d0, d1, d2, d3, d4, d5, d6, d7, d8⟩, df⟩ := BoxC.nine HS3.out.box
              have f5 := df 5
              clear hS hk hr hv hv2 HS HV b4 f4 d0 d1 d2 d3 d4 d6 d7 d8 df
              go_wp2_with fail
              refine calls_gen (fun W => CSt rb s wi w r2 [.int .i64 4, .string ⟨#[]⟩, .slice none 0 0, .slice none 0 0, .slice A1 n1 c1, .slice A2 n2 c2, .slice none 0 0, .slice none 0 0, .slice none 0 0] W ∧ LsIn (d + 1) W (Nw (w.heap.size + 2) W) (.slice A1 n1 c1) c ∧ LsIn (d + 1) W (Nw (w.heap.size + 2) W) (.slice A2 n2 c2) b) ⟨HS3.out.set 5 _, HS3.out.setK 5 _ (LsIn.good (d + 1)) HV1.out, HS3.out.setK 5 _ (LsIn.good (d + 1)) HV2.out⟩ ?_
              clear HS3 HV1 HV2 d5 f5
              rintro W3 ⟨hS3, hv1, hv2⟩
              refine (HP1.out W3 hS3.rd).mono ?_
              rintro e W4 ⟨rfl, hk4, hr4⟩
              have hS4 := hS3.step hk4 hr4
              have hU1 := hS3.stepK hk4 (LsIn.good (d + 1)) hv1
              have hU2 := hS3.stepK hk4 (LsIn.good (d + 1)) hv2
              clear hS3 hv1 hv2 hk4 hr4
              go_wp2_with fail
              refine (HP2.out W4 hS4.rd).mono ?_
              rintro e W5 ⟨rfl, hk5, hr5⟩
              have hS5 := hS4.step hk5 hr5
              have hV1 := hS4.stepK hk5 (LsIn.good (d + 1)) hU1
              have hV2 := hS4.stepK hk5 (LsIn.good (d + 1)) hU2
              clear hS4 hU1 hU2 hk5 hr5
              have r1 := hS5.rd.c1
              have hz5 := hS5.rd.lt
              go_wp2_with fail
              refine (HEN.out _ _ hS5.rd).mono ?_
              rintro e W6 ⟨rfl, hk6, hr6⟩
              have hS6 := hS5.step hk6 hr6
              have hX1 := hS5.stepK hk6 (LsIn.good (d + 1)) hV1
              have hX2 := hS5.stepK hk6 (LsIn.good (d + 1)) hV2
              clear hS5 hV1 hV2 hk6 hr6 r1 hz5
              go_wp2_with fail
              refine (HE2.out _ hS6.rd).mono ?_
              rintro e W7 ⟨hk7, v7, rfl, hr7, hv7⟩
              have hS7 := hS6.step hk7 hr7
              have hY1 := hS6.stepK hk7 (LsIn.good (d + 1)) hX1
              have hY2 := hS6.stepK hk7 (LsIn.good (d + 1)) hX2
              have hv8 := nw_le (vagg_good (RCmd.good (LsIn.good d))) hS6.size hv7
              have HAL := Lib.hid (alone_any d (w.heap.size + 2) v7 o W7 hv8 hS7.size)
              clear hS6 hX1 hX2 hk7 hr7 hv7 hv8
              go_wp2_with fail
              refine HAL.out.mono ?_
              rintro e W8 ⟨hb8, u8, rfl, hv8⟩
              obtain ⟨A3, n3, c3, rfl⟩ := LsIn.form hv8
              have HS8 := Lib.hid (hS7.step (kept_told hb8) (hS7.rd.told hb8))
              have HV1 := Lib.hid (hS7.stepK (kept_told hb8) (LsIn.good (d + 1)) hY1)
              have HV2 := Lib.hid (hS7.stepK (kept_told hb8) (LsIn.good (d + 1)) hY2)
              have HV3 := Lib.hid hv8
              clear hS7 hY1 hY2 hb8 hv8
              obtain ⟨⟨q0, q1, q2, q3, q4, q5, q6, q7, q8⟩, qf⟩ := BoxC.nine HS8.out.box
              have f6 := qf 6
              clear q0 q1 q2 q3 q4 q5 q7 q8 qf
              go_wp2_with fail
              refine calls_gen (fun W => CSt rb s (wi + 1) w r4 [.int .i64 4, .string ⟨#[]⟩, .slice none 0 0, .slice none 0 0, .slice A1 n1 c1, .slice A2 n2 c2, .slice A3 n3 c3, .slice none 0 0, .slice none 0 0] W ∧ LsIn (d + 1) W (Nw (w.heap.size + 2) W) (.slice A1 n1 c1) c ∧ LsIn (d + 1) W (Nw (w.heap.size + 2) W) (.slice A2 n2 c2) b ∧ LsIn (d + 1) W (Nw (w.heap.size + 2) W) (.slice A3 n3 c3) (alone o)) ⟨HS8.out.set 6 _, HS8.out.setK 6 _ (LsIn.good (d + 1)) HV1.out, HS8.out.setK 6 _ (LsIn.good (d + 1)) HV2.out, HS8.out.setK 6 _ (LsIn.good (d + 1)) HV3.out⟩ ?_
              rintro W9 ⟨hS9, hz1, hz2, hz3⟩
              refine (HLV.out W9 hS9.rd).mono ?_
              rintro e W10 ⟨rfl, hk10, hr10⟩
              have HS6 := Lib.hid (hS9.step hk10 hr10)
              have HZ1 := Lib.hid (hS9.stepK hk10 (LsIn.good (d + 1)) hz1)
              have HZ2 := Lib.hid (hS9.stepK hk10 (LsIn.good (d + 1)) hz2)
              have HZ3 := Lib.hid (hS9.stepK hk10 (LsIn.good (d + 1)) hz3)
              clear hS9 hz1 hz2 hz3 hk10 hr10 f6 q6
              have hres := HS6.out.res
              obtain ⟨⟨e0, e1, e2, e3, e4, e5, e6, e7, e8⟩, ef⟩ := BoxC.nine HS6.out.box
              obtain ⟨⟨g0, g1, g2, g3, g4, g5, g6, g7, g8⟩, gf⟩ := BoxC.nine hres
              go_wp2_with fail
              refine bodyPost_ret (results_cell_row rfl _ _ _ 42 _ (0, 0) _ rfl (nine_set hres _ _ _ _ _ _ _ _ _) Try.underlying42 rfl (by kernel_rfl)) rfl ?_
              exact HS6.out.done (LsIn.good (d + 1)) ⟨_, _, _, _, _, _, _, rfl, Sl.nil _ _ _ _ _ _, Sl.nil _ _ _ _ _ _, HZ1.out, HZ2.out, HZ3.out, Sl.nil _ _ _ _ _ _, Sl.nil _ _ _ _ _ _, fun _ => rfl⟩
          · rw [ch5 hm hm2 hp hp2 (show tooDeep r3 = .bad r3.length 63 from rfl)]
            have HEN := Lib.hid (fun W (hW : RdS W rb s r3 wi) => enter_deep rb s r3 wi (pl s r3) W hW hwi)
            clear h hm hm2 hL hp hp2
            go_enter Try.func51, Try.ntmps51
            go_wp2_with fail
            refine calls_gen _ HST.out ?_
            intro W hS
            refine (HT.out W hS.rd).mono ?_
            rintro e W1 ⟨hk, v, rfl, hr, hv⟩
            obtain ⟨A1, n1, c1, rfl⟩ := LsIn.form hv
            have HS := Lib.hid (hS.step hk hr)
            have HV := Lib.hid (nw_le (LsIn.good (d + 1)) hS.size hv)
            obtain ⟨⟨b0, b1, b2, b3, b4, b5, b6, b7, b8⟩, bf⟩ := BoxC.nine HS.out.box
            have f4 := bf 4
            clear hS hk hr hv b0 b1 b2 b3 b5 b6 b7 b8 bf
            go_wp2_with fail
            refine calls_gen (fun W => CSt rb s wi w r [.int .i64 4, .string ⟨#[]⟩, .slice none 0 0, .slice none 0 0, .slice A1 n1 c1, .slice none 0 0, .slice none 0 0, .slice none 0 0, .slice none 0 0] W ∧ LsIn (d + 1) W (Nw (w.heap.size + 2) W) (.slice A1 n1 c1) c) ⟨HS.out.set 4 _, HS.out.setK 4 _ (LsIn.good (d + 1)) HV.out⟩ ?_
            rintro W2 ⟨hS, hv⟩
            refine (HL.out W2 hS.rd).mono ?_
            rintro e W3 ⟨hk, v2, rfl, hr, hv2⟩
            obtain ⟨A2, n2, c2, rfl⟩ := LsIn.form hv2
            have HS3 := Lib.hid (hS.step hk hr)
            have HV1 := Lib.hid (hS.stepK hk (LsIn.good (d + 1)) hv)
            have HV2 := Lib.hid (nw_le (LsIn.good (d + 1)) hS.size hv2)
            obtain ⟨⟨d0, d1, d2, d3, d4, d5, d6, d7, d8⟩, df⟩ := BoxC.nine HS3.out.box
            have f5 := df 5
            clear hS hk hr hv hv2 HS HV b4 f4 d0 d1 d2 d3 d4 d6 d7 d8 df
            go_wp2_with fail
            refine calls_gen (fun W => CSt rb s wi w r2 [.int .i64 4, .string ⟨#[]⟩, .slice none 0 0, .slice none 0 0, .slice A1 n1 c1, .slice A2 n2 c2, .slice none 0 0, .slice none 0 0, .slice none 0 0] W ∧ LsIn (d + 1) W (Nw (w.heap.size + 2) W) (.slice A1 n1 c1) c ∧ LsIn (d + 1) W (Nw (w.heap.size + 2) W) (.slice A2 n2 c2) b) ⟨HS3.out.set 5 _, HS3.out.setK 5 _ (LsIn.good (d + 1)) HV1.out, HS3.out.setK 5 _ (LsIn.good (d + 1)) HV2.out⟩ ?_
            clear HS3 HV1 HV2 d5 f5
            rintro W3 ⟨hS3, hv1, hv2⟩
            refine (HP1.out W3 hS3.rd).mono ?_
            rintro e W4 ⟨rfl, hk4, hr4⟩
            have hS4 := hS3.step hk4 hr4
            have hU1 := hS3.stepK hk4 (LsIn.good (d + 1)) hv1
            have hU2 := hS3.stepK hk4 (LsIn.good (d + 1)) hv2
            clear hS3 hv1 hv2 hk4 hr4
            go_wp2_with fail
            refine (HP2.out W4 hS4.rd).mono ?_
            rintro e W5 ⟨rfl, hk5, hr5⟩
            have hS5 := hS4.step hk5 hr5
            have hV1 := hS4.stepK hk5 (LsIn.good (d + 1)) hU1
            have hV2 := hS4.stepK hk5 (LsIn.good (d + 1)) hU2
            clear hS4 hU1 hU2 hk5 hr5
            have r1 := hS5.rd.c1
            have hz5 := hS5.rd.lt
            go_wp2_with fail
            refine (HEN.out _ hS5.rd).mono ?_
            rintro e W6 ⟨rfl, rfl⟩
            simp only [sflt]
            go_wp2_with fail
            exact ⟨rfl, hS5.kept, rfl⟩
        | none =>
          rw [hp2] at HP2
          have HN := Lib.hid (fun W (hW : RdS W rb s r2 wi) => need_any rb s r2 wi fiK W hW hs)
          cases hm3 : needL fiK r2 with
          | bad a er =>
            rw [ch7 hm hm2 hp hp2 hm3]
            rw [hm3] at HN
            clear h hm hm2 hL hE hp hp2 hm3
            go_enter Try.func51, Try.ntmps51
            go_wp2_with fail
            refine calls_gen _ HST.out ?_
            intro W hS
            refine (HT.out W hS.rd).mono ?_
            rintro e W1 ⟨hk, v, rfl, hr, hv⟩
            obtain ⟨A1, n1, c1, rfl⟩ := LsIn.form hv
            have HS := Lib.hid (hS.step hk hr)
            have HV := Lib.hid (nw_le (LsIn.good (d + 1)) hS.size hv)
            obtain ⟨⟨b0, b1, b2, b3, b4, b5, b6, b7, b8⟩, bf⟩ := BoxC.nine HS.out.box
            have f4 := bf 4
            clear hS hk hr hv b0 b1 b2 b3 b5 b6 b7 b8 bf
            go_wp2_with fail
            refine calls_gen (fun W => CSt rb s wi w r [.int .i64 4, .string ⟨#[]⟩, .slice none 0 0, .slice none 0 0, .slice A1 n1 c1, .slice none 0 0, .slice none 0 0, .slice none 0 0, .slice none 0 0] W ∧ LsIn (d + 1) W (Nw (w.heap.size + 2) W) (.slice A1 n1 c1) c) ⟨HS.out.set 4 _, HS.out.setK 4 _ (LsIn.good (d + 1)) HV.out⟩ ?_
            rintro W2 ⟨hS, hv⟩
            refine (HL.out W2 hS.rd).mono ?_
            rintro e W3 ⟨hk, v2, rfl, hr, hv2⟩
            obtain ⟨A2, n2, c2, rfl⟩ := LsIn.form hv2
            have HS3 := Lib.hid (hS.step hk hr)
            have HV1 := Lib.hid (hS.stepK hk (LsIn.good (d + 1)) hv)
            have HV2 := Lib.hid (nw_le (LsIn.good (d + 1)) hS.size hv2)
            obtain ⟨⟨d0, d1, d2, d3, d4, d5, d6, d7, d8⟩, df⟩ := BoxC.nine HS3.out.box
            have f5 := df 5
            clear hS hk hr hv hv2 HS HV b4 f4 d0 d1 d2 d3 d4 d6 d7 d8 df
            go_wp2_with fail
            refine calls_gen (fun W => CSt rb s wi w r2 [.int .i64 4, .string ⟨#[]⟩, .slice none 0 0, .slice none 0 0, .slice A1 n1 c1, .slice A2 n2 c2, .slice none 0 0, .slice none 0 0, .slice none 0 0] W ∧ LsIn (d + 1) W (Nw (w.heap.size + 2) W) (.slice A1 n1 c1) c ∧ LsIn (d + 1) W (Nw (w.heap.size + 2) W) (.slice A2 n2 c2) b) ⟨HS3.out.set 5 _, HS3.out.setK 5 _ (LsIn.good (d + 1)) HV1.out, HS3.out.setK 5 _ (LsIn.good (d + 1)) HV2.out⟩ ?_
            clear HS3 HV1 HV2 d5 f5
            rintro W3 ⟨hS3, hv1, hv2⟩
            refine (HP1.out W3 hS3.rd).mono ?_
            rintro e W4 ⟨rfl, hk4, hr4⟩
            have hS4 := hS3.step hk4 hr4
            have hU1 := hS3.stepK hk4 (LsIn.good (d + 1)) hv1
            have hU2 := hS3.stepK hk4 (LsIn.good (d + 1)) hv2
            clear hS3 hv1 hv2 hk4 hr4
            go_wp2_with fail
            refine (HP2.out W4 hS4.rd).mono ?_
            rintro e W5 ⟨rfl, hk5, hr5⟩
            have hS5 := hS4.step hk5 hr5
            have hV1 := hS4.stepK hk5 (LsIn.good (d + 1)) hU1
            have hV2 := hS4.stepK hk5 (LsIn.good (d + 1)) hU2
            clear hS4 hU1 hU2 hk5 hr5
            go_wp2_with fail
            refine (HN.out _ hS5.rd).mono ?_
            rintro e W6 ⟨hk, rfl⟩
            simp only [sflt]
            go_wp2_with fail
            exact ⟨rfl, hS5.kept.trans hk, rfl⟩
          | ok u r4 =>
            rw [ch8 hm hm2 hp hp2 hm3]
            rw [hm3] at HN
            clear h hm hm2 hL hE hp hp2 hm3
            go_enter Try.func51, Try.ntmps51
            go_wp2_with fail
            refine calls_gen _ HST.out ?_
            intro W hS
            refine (HT.out W hS.rd).mono ?_
            rintro e W1 ⟨hk, v, rfl, hr, hv⟩
            obtain ⟨A1, n1, c1, rfl⟩ := LsIn.form hv
            have HS := Lib.hid (hS.step hk hr)
            have HV := Lib.hid (nw_le (LsIn.good (d + 1)) hS.size hv)
            obtain ⟨⟨b0, b1, b2, b3, b4, b5, b6, b7, b8⟩, bf⟩ := BoxC.nine HS.out.box
            have f4 := bf 4
            clear hS hk hr hv b0 b1 b2 b3 b5 b6 b7 b8 bf
            go_wp2_with fail
            refine calls_gen (fun W => CSt rb s wi w r [.int .i64 4, .string ⟨#[]⟩, .slice none 0 0, .slice none 0 0, .slice A1 n1 c1, .slice none 0 0, .slice none 0 0, .slice none 0 0, .slice none 0 0] W ∧ LsIn (d + 1) W (Nw (w.heap.size + 2) W) (.slice A1 n1 c1) c) ⟨HS.out.set 4 _, HS.out.setK 4 _ (LsIn.good (d + 1)) HV.out⟩ ?_
            rintro W2 ⟨hS, hv⟩
            refine (HL.out W2 hS.rd).mono ?_
            rintro e W3 ⟨hk, v2, rfl, hr, hv2⟩
            obtain ⟨A2, n2, c2, rfl⟩ := LsIn.form hv2
            have HS3 := Lib.hid (hS.step hk hr)
            have HV1 := Lib.hid (hS.stepK hk (LsIn.good (d + 1)) hv)
            have HV2 := Lib.hid (nw_le (LsIn.good (d + 1)) hS.size hv2)
            obtain ⟨⟨d0, d1, d2, d3, d4, d5, d6, d7, d8⟩, df⟩ := BoxC.nine HS3.out.box
            have f5 := df 5
            clear hS hk hr hv hv2 HS HV b4 f4 d0 d1 d2 d3 d4 d6 d7 d8 df
            go_wp2_with fail
            refine calls_gen (fun W => CSt rb s wi w r2 [.int .i64 4, .string ⟨#[]⟩, .slice none 0 0, .slice none 0 0, .slice A1 n1 c1, .slice A2 n2 c2, .slice none 0 0, .slice none 0 0, .slice none 0 0] W ∧ LsIn (d + 1) W (Nw (w.heap.size + 2) W) (.slice A1 n1 c1) c ∧ LsIn (d + 1) W (Nw (w.heap.size + 2) W) (.slice A2 n2 c2) b) ⟨HS3.out.set 5 _, HS3.out.setK 5 _ (LsIn.good (d + 1)) HV1.out, HS3.out.setK 5 _ (LsIn.good (d + 1)) HV2.out⟩ ?_
            clear HS3 HV1 HV2 d5 f5
            rintro W3 ⟨hS3, hv1, hv2⟩
            refine (HP1.out W3 hS3.rd).mono ?_
            rintro e W4 ⟨rfl, hk4, hr4⟩
            have hS4 := hS3.step hk4 hr4
            have hU1 := hS3.stepK hk4 (LsIn.good (d + 1)) hv1
            have hU2 := hS3.stepK hk4 (LsIn.good (d + 1)) hv2
            clear hS3 hv1 hv2 hk4 hr4
            go_wp2_with fail
            refine (HP2.out W4 hS4.rd).mono ?_
            rintro e W5 ⟨rfl, hk5, hr5⟩
            have hS5 := hS4.step hk5 hr5
            have hV1 := hS4.stepK hk5 (LsIn.good (d + 1)) hU1
            have hV2 := hS4.stepK hk5 (LsIn.good (d + 1)) hU2
            clear hS4 hU1 hU2 hk5 hr5
            go_wp2_with fail
            refine (HN.out _ hS5.rd).mono ?_
            rintro e W6 ⟨hk6, u6, rfl, hr6, rfl⟩
            have HS6 := Lib.hid (hS5.step hk6 hr6)
            have HZ1 := Lib.hid (hS5.stepK hk6 (LsIn.good (d + 1)) hV1)
            have HZ2 := Lib.hid (hS5.stepK hk6 (LsIn.good (d + 1)) hV2)
            clear hS5 hV1 hV2 hk6 hr6
            have hres := HS6.out.res
            obtain ⟨⟨e0, e1, e2, e3, e4, e5, e6, e7, e8⟩, ef⟩ := BoxC.nine HS6.out.box
            obtain ⟨⟨g0, g1, g2, g3, g4, g5, g6, g7, g8⟩, gf⟩ := BoxC.nine hres
            go_wp2_with fail
            refine bodyPost_ret (results_cell_row rfl _ _ _ 42 _ (0, 0) _ rfl (nine_set hres _ _ _ _ _ _ _ _ _) Try.underlying42 rfl (by kernel_rfl)) rfl ?_
            exact HS6.out.done (LsIn.good (d + 1)) ⟨_, _, _, _, _, _, _, rfl, Sl.nil _ _ _ _ _ _, Sl.nil _ _ _ _ _ _, HZ1.out, HZ2.out, LsIn.nil _ _ _ _ _, Sl.nil _ _ _ _ _ _, Sl.nil _ _ _ _ _ _, fun _ => rfl⟩

end Go.Proofs.Ytgajbehlggikdaa.Sw

/- DERIVED. The walk over function. -/
namespace Go.Proofs.Ytgajbehlggikdaa.Sw
open Go.RowKit
open PathM WdM SyM
open Go.Proofs.Ytgajbehlggikdaa.Wd
set_option linter.unusedVariables false

theorem alone_nx (d z cb : Nat) (v : Value) (c : CmdT) (w : World) (h : VAgg (RCmd (LsIn d)) w (Nx z cb w) v c) (hz : z ≤ w.heap.size) (hc : cb < w.heap.size) :
    Calls Try.prog 62 #[v] w fun e w' => Below w.heap.size w w' ∧ ∃ u, e = .returned u ∧ LsIn (d + 1) w' (Nx z cb w') u (alone c) := by
  obtain ⟨k, n, A1, A2, A3, A4, A5, A6, A7, n1, n2, n3, n4, n5, n6, n7, c1, c2, c3, c4, c5, c6, c7, rfl, hrep⟩ := cmd_open h
  obtain ⟨vs, hvs⟩ : ∃ vs : List Value, [Value.int .i64 k, .string n, .slice A1 n1 c1, .slice A2 n2 c2, .slice A3 n3 c3, .slice A4 n4 c4, .slice A5 n5 c5, .slice A6 n6 c6, .slice A7 n7 c7] = vs := ⟨_, rfl⟩
  have hfin : ∀ W0 : World, Below w.heap.size w W0 → ∀ (b1 b2 b3 : Nat), W0.heap[b1]? = some (.cells vs.toArray 42 (0, 0)) → W0.heap[b2]? = some (.cells #[.bool false, .slice (some ⟨b1, 0, none⟩) 1 1] 36 (0, 0)) → W0.heap[b3]? = some (.cells #[.slice (some ⟨b2, 0, none⟩) 1 1, .slice none 0 0] 33 (0, 0)) →
      w.heap.size ≤ b1 → w.heap.size ≤ b2 → w.heap.size ≤ b3 → LsIn (d + 1) W0 (Nx z cb W0) (.slice (some ⟨b3, 0, none⟩) 1 1) (alone c) := by
    intro W0 hb b1 b2 b3 h1 h2 h3 g1 g2 g3
    have hr : RCmd (LsIn d) W0 (Nx z cb W0) vs c := RCmd.good (LsIn.good d) _ _ _ _ _ _ (fun k hk hS => ⟨⟨hS.1, Nat.lt_of_lt_of_le hS.2.1 hb.size, hS.2.2⟩, hb.block k hk⟩) (hvs ▸ hrep)
    refine sl_one (vs := [.slice (some ⟨b2, 0, none⟩) 1 1, .slice none 0 0]) h3 ⟨by omega, fin_at h3, by omega⟩ rfl ⟨_, _, rfl, ?_, Sl.nil _ _ _ _ _ _⟩
    refine sl_one (vs := [.bool false, .slice (some ⟨b1, 0, none⟩) 1 1]) h2 ⟨by omega, fin_at h2, by omega⟩ rfl ⟨_, rfl, ?_⟩
    exact sl_one h1 ⟨by omega, fin_at h1, by omega⟩ (by rw [← hvs]; rfl) hr
  have HF := Lib.hid hfin
  have hva : vs.toArray = #[Value.int .i64 k, .string n, .slice A1 n1 c1, .slice A2 n2 c2, .slice A3 n3 c3, .slice A4 n4 c4, .slice A5 n5 c5, .slice A6 n6 c6, .slice A7 n7 c7] := by rw [← hvs]
  rw [hva] at HF
  clear hfin hva hvs hrep h
  go_enter Try.func62, Try.ntmps62
  go_wp2_with fail
  go_ret
  obtain ⟨h1, h2, h3, hb⟩ := al4 w (.cells #[.int .i64 k, .string n, .slice A1 n1 c1, .slice A2 n2 c2, .slice A3 n3 c3, .slice A4 n4 c4, .slice A5 n5 c5, .slice A6 n6 c6, .slice A7 n7 c7] 42) (.cells #[.int .i64 k, .string n, .slice A1 n1 c1, .slice A2 n2 c2, .slice A3 n3 c3, .slice A4 n4 c4, .slice A5 n5 c5, .slice A6 n6 c6, .slice A7 n7 c7] 42) (.cells #[.bool false, .slice (some ⟨w.heap.size + 1, 0, none⟩) 1 1] 36) (.cells #[.slice (some ⟨w.heap.size + 1 + 1, 0, none⟩) 1 1, .slice none 0 0] 33)
  exact ⟨hb, _, rfl, HF.out _ hb _ _ _ h1 h2 h3 (by omega) (by omega) (by omega)⟩
set_option maxRecDepth 100000 in
set_option maxHeartbeats 6400000 in
theorem function_any {body : Bs → Rs (Option CmdT)} {D wi : Nat} (hwi : wi ≤ 100) (hB : (∃ d, D = d + 1 ∧ wi ≤ 16 ∧ CpOk body d (wi + 1)) ∨ (16 < wi ∧ body = fun l => .bad (aheadL l).length 63)) (rb : Nat) (s : ByteArray) (l : Bs) (w : World) (h : RdS w rb s l wi) (hs : s.size ≤ 8192) :
    Calls Try.prog 42 #[.pointer (some ⟨rb, 0, none⟩)] w (Reads rb s wi (functionL body l) (VAgg (RCmd (LsIn D))) w) := by
  have HW := Lib.hid h
  have hb0 : Below w.heap.size w (w.alloc (.cells #[.int .i64 0, .string ⟨#[]⟩, .slice none 0 0, .slice none 0 0, .slice none 0 0, .slice none 0 0, .slice none 0 0, .slice none 0 0, .slice none 0 0] 42)) := (Below.refl _ _).alloc (Nat.le_refl _) _
  have HB0 := Lib.hid hb0
  have HNA := Lib.hid (nameL_any rb s l wi _ (h.told hb0) hs)
  clear hb0
  cases hm : nameL l with
  | bad a er =>
    rw [fn1 hm]
    rw [hm] at HNA
    clear h hm hB
    go_enter Try.func42, Try.ntmps42
    go_wp2_with (go_at_call 60; refine HNA.out.mono ?_; rintro e W ⟨hk, rfl⟩; simp only [sflt])
    exact ⟨rfl, (kept_told HB0.out).trans hk, rfl⟩
  | ok nmx r =>
    rw [hm] at HNA
    have HN1 := Lib.hid (fun W (hW : RdS W rb s r wi) => need_any rb s r wi [40] W hW hs)
    cases hm1 : needL [40] r with
    | bad a er =>
      rw [fn2 hm hm1]
      rw [hm1] at HN1
      clear h hm hm1 hB
      go_enter Try.func42, Try.ntmps42
      go_wp2_with fail
      refine HNA.out.mono ?_
      rintro e W1 ⟨hk, v1, rfl, hr, rfl⟩
      have hst := CSg.start (hk.at (heap_alloc_new w _) (by have := HW.out.lt; omega)) hr ((kept_told (S := (· = rb)) HB0.out).trans hk) HW.out.lt [.int .i64 9, .string (nm nmx), .slice none 0 0, .slice none 0 0, .slice none 0 0, .slice none 0 0, .slice none 0 0, .slice none 0 0, .slice none 0 0]
      clear hk hr
      go_wp2_with fail
      refine calls_gen _ hst ?_
      clear hst
      generalize W1.heap.size = cb at *
      intro W2 hS
      refine (HN1.out W2 hS.rd).mono ?_
      rintro e W3 ⟨hk, rfl⟩
      simp only [sflt]
      go_wp2_with fail
      exact ⟨rfl, hS.kept.trans hk, rfl⟩
    | ok u1 r2 =>
      rw [hm1] at HN1
      have HN2 := Lib.hid (fun W (hW : RdS W rb s r2 wi) => need_any rb s r2 wi [41] W hW hs)
      cases hm2 : needL [41] r2 with
      | bad a er =>
        rw [fn3 hm hm1 hm2]
        rw [hm2] at HN2
        clear h hm hm1 hm2 hB
        go_enter Try.func42, Try.ntmps42
        go_wp2_with fail
        refine HNA.out.mono ?_
        rintro e W1 ⟨hk, v1, rfl, hr, rfl⟩
        have hst := CSg.start (hk.at (heap_alloc_new w _) (by have := HW.out.lt; omega)) hr ((kept_told (S := (· = rb)) HB0.out).trans hk) HW.out.lt [.int .i64 9, .string (nm nmx), .slice none 0 0, .slice none 0 0, .slice none 0 0, .slice none 0 0, .slice none 0 0, .slice none 0 0, .slice none 0 0]
        clear hk hr
        go_wp2_with fail
        refine calls_gen _ hst ?_
        clear hst
        generalize W1.heap.size = cb at *
        intro W2 hS
        refine (HN1.out W2 hS.rd).mono ?_
        rintro e W3 ⟨hk, u, rfl, hr, rfl⟩
        have hS3 := hS.step hk hr
        clear hS hk hr
        go_wp2_with fail
        refine (HN2.out W3 hS3.rd).mono ?_
        rintro e W4 ⟨hk, rfl⟩
        simp only [sflt]
        go_wp2_with fail
        exact ⟨rfl, hS3.kept.trans hk, rfl⟩
      | ok u2 r3 =>
        rw [hm2] at HN2
        obtain ⟨r4, hr4⟩ : ∃ x, newlinesL r3 = x := ⟨_, rfl⟩
        have HNL := Lib.hid (fun W (hW : RdS W rb s r3 wi) => newlines_any rb s r3 wi W hW hs)
        rw [hr4] at HNL
        have HAH := Lib.hid (fun W (hW : RdS W rb s r4 wi) => ahead_any rb s r4 wi W hW hs)
        rcases hB with ⟨d, rfl, hwi2, hC⟩ | ⟨hwi2, rfl⟩
        · have HEN := Lib.hid (fun n W (hW : RdS W rb s r4 wi) => enter_any rb s r4 wi n W hW hwi2)
          have HCP := Lib.hid (fun W (hW : RdS W rb s r4 (wi + 1)) => hC rb s r4 W hW hs)
          cases hm3 : body r4 with
          | bad a er =>
            rw [fn4 hm hm1 hm2 (by rw [hr4]; exact hm3)]
            rw [hm3] at HCP
            clear h hm hm1 hm2 hm3 hr4 hC
            go_enter Try.func42, Try.ntmps42
            go_wp2_with fail
            refine HNA.out.mono ?_
            rintro e W1 ⟨hk, v1, rfl, hr, rfl⟩
            have hst := CSg.start (hk.at (heap_alloc_new w _) (by have := HW.out.lt; omega)) hr ((kept_told (S := (· = rb)) HB0.out).trans hk) HW.out.lt [.int .i64 9, .string (nm nmx), .slice none 0 0, .slice none 0 0, .slice none 0 0, .slice none 0 0, .slice none 0 0, .slice none 0 0, .slice none 0 0]
            clear hk hr
            go_wp2_with fail
            refine calls_gen _ hst ?_
            clear hst
            generalize W1.heap.size = cb at *
            intro W2 hS
            refine (HN1.out W2 hS.rd).mono ?_
            rintro e W3 ⟨hk, u, rfl, hr, rfl⟩
            have hS3 := hS.step hk hr
            clear hS hk hr
            go_wp2_with fail
            refine (HN2.out W3 hS3.rd).mono ?_
            rintro e W4 ⟨hk, u, rfl, hr, rfl⟩
            have hS4 := hS3.step hk hr
            clear hS3 hk hr
            go_wp2_with fail
            refine (HNL.out W4 hS4.rd).mono ?_
            rintro e W5 ⟨rfl, hk, hr⟩
            have hS5 := hS4.step hk hr
            clear hS4 hk hr
            go_wp2_with fail
            refine (HAH.out W5 hS5.rd).mono ?_
            rintro e W6 ⟨rfl, rfl⟩
            go_wp2_with fail
            refine (HEN.out _ _ hS5.rd).mono ?_
            rintro e W7 ⟨rfl, hk, hr⟩
            have hS7 := hS5.step hk hr
            clear hS5 hk hr
            go_wp2_with fail
            refine (HCP.out W7 hS7.rd).mono ?_
            rintro e W8 ⟨hk, rfl⟩
            simp only [sflt]
            go_wp2_with fail
            exact ⟨rfl, hS7.kept.trans hk, rfl⟩
          | ok oc r5 =>
            rw [hm3] at HCP
            cases oc with
            | none =>
              rw [fn5 hm hm1 hm2 (by rw [hr4]; exact hm3)]
              obtain ⟨rn, re, hRF, hr⟩ := refuse_ex rb s r5 (wi + 1) hs
              obtain ⟨ra, hra, hrn⟩ := refused_bad (α := CmdT) hRF
              rw [hra]
              have HRN := Lib.hid hrn
              have HRC := Lib.hid hr
              clear h hm hm1 hm2 hm3 hr4 hC hRF hra hrn hr
              go_enter Try.func42, Try.ntmps42
              go_wp2_with fail
              refine HNA.out.mono ?_
              rintro e W1 ⟨hk, v1, rfl, hr, rfl⟩
              have hst := CSg.start (hk.at (heap_alloc_new w _) (by have := HW.out.lt; omega)) hr ((kept_told (S := (· = rb)) HB0.out).trans hk) HW.out.lt [.int .i64 9, .string (nm nmx), .slice none 0 0, .slice none 0 0, .slice none 0 0, .slice none 0 0, .slice none 0 0, .slice none 0 0, .slice none 0 0]
              clear hk hr
              go_wp2_with fail
              refine calls_gen _ hst ?_
              clear hst
              generalize W1.heap.size = cb at *
              intro W2 hS
              refine (HN1.out W2 hS.rd).mono ?_
              rintro e W3 ⟨hk, u, rfl, hr, rfl⟩
              have hS3 := hS.step hk hr
              clear hS hk hr
              go_wp2_with fail
              refine (HN2.out W3 hS3.rd).mono ?_
              rintro e W4 ⟨hk, u, rfl, hr, rfl⟩
              have hS4 := hS3.step hk hr
              clear hS3 hk hr
              go_wp2_with fail
              refine (HNL.out W4 hS4.rd).mono ?_
              rintro e W5 ⟨rfl, hk, hr⟩
              have hS5 := hS4.step hk hr
              clear hS4 hk hr
              go_wp2_with fail
              refine (HAH.out W5 hS5.rd).mono ?_
              rintro e W6 ⟨rfl, rfl⟩
              go_wp2_with fail
              refine (HEN.out _ _ hS5.rd).mono ?_
              rintro e W7 ⟨rfl, hk, hr⟩
              have hS7 := hS5.step hk hr
              clear hS5 hk hr
              go_wp2_with fail
              refine (HCP.out W7 hS7.rd).mono ?_
              rintro e W8 ⟨hk, v8, rfl, hr8, rfl⟩
              have hS8 := hS7.step hk hr8
              go_wp2_with fail
              refine (HRC.out _ (hS8.rd.told ((Below.refl _ _).alloc (Nat.le_refl _) _))).mono ?_
              rintro e W9 ⟨rfl, rfl⟩
              go_wp2_with fail
              exact ⟨rfl, hS8.kept.trans (kept_alloc _ _), sflt_at HRN.out.symm⟩
            | some c =>
              rw [fn6 hm hm1 hm2 (by rw [hr4]; exact hm3)]
              have HLV := Lib.hid (fun W (hW : RdS W rb s r5 (wi + 1)) => leave_any rb s r5 wi W hW (by omega))
              clear h hm hm1 hm2 hm3 hr4 hC
              go_enter Try.func42, Try.ntmps42
              go_wp2_with fail
              refine HNA.out.mono ?_
              rintro e W1 ⟨hk, v1, rfl, hr, rfl⟩
              have hst := CSg.start (hk.at (heap_alloc_new w _) (by have := HW.out.lt; omega)) hr ((kept_told (S := (· = rb)) HB0.out).trans hk) HW.out.lt [.int .i64 9, .string (nm nmx), .slice none 0 0, .slice none 0 0, .slice none 0 0, .slice none 0 0, .slice none 0 0, .slice none 0 0, .slice none 0 0]
              clear hk hr
              go_wp2_with fail
              refine calls_gen _ hst ?_
              clear hst
              generalize W1.heap.size = cb at *
              intro W2 hS
              refine (HN1.out W2 hS.rd).mono ?_
              rintro e W3 ⟨hk, u, rfl, hr, rfl⟩
              have hS3 := hS.step hk hr
              clear hS hk hr
              go_wp2_with fail
              refine (HN2.out W3 hS3.rd).mono ?_
              rintro e W4 ⟨hk, u, rfl, hr, rfl⟩
              have hS4 := hS3.step hk hr
              clear hS3 hk hr
              go_wp2_with fail
              refine (HNL.out W4 hS4.rd).mono ?_
              rintro e W5 ⟨rfl, hk, hr⟩
              have hS5 := hS4.step hk hr
              clear hS4 hk hr
              go_wp2_with fail
              refine (HAH.out W5 hS5.rd).mono ?_
              rintro e W6 ⟨rfl, rfl⟩
              go_wp2_with fail
              refine (HEN.out _ _ hS5.rd).mono ?_
              rintro e W7 ⟨rfl, hk, hr⟩
              have hS7 := hS5.step hk hr
              clear hS5 hk hr
              go_wp2_with fail
              refine (HCP.out W7 hS7.rd).mono ?_
              rintro e W8 ⟨hk, v8, rfl, hr8, u8, rfl, hv8⟩
              have hS8 := hS7.step hk hr8
              have hv9 := hS7.new (vagg_good (RCmd.good (LsIn.good d))) hv8
              obtain ⟨kk, nn, A1, A2, A3, A4, A5, A6, A7, n1, n2, n3, n4, n5, n6, n7, c1, c2, c3, c4, c5, c6, c7, rfl, hrep⟩ := cmd_open hv9
              clear hS7 hk hr8 hv8 hv9
              go_wp2_with fail
              have ha : Below W8.heap.size W8 (W8.alloc (.cells #[.int .i64 kk, .string nn, .slice A1 n1 c1, .slice A2 n2 c2, .slice A3 n3 c3, .slice A4 n4 c4, .slice A5 n5 c5, .slice A6 n6 c6, .slice A7 n7 c7] 42)) := (Below.refl _ _).alloc (Nat.le_refl _) _
              refine calls_gen (fun W => CSg rb s (wi + 1) w cb r5 [.int .i64 9, .string (nm nmx), .slice none 0 0, .slice none 0 0, .slice none 0 0, .slice none 0 0, .slice none 0 0, .slice none 0 0, .slice none 0 0] W ∧ RCmd (LsIn d) W (Nx (w.heap.size + 1) cb W) [.int .i64 kk, .string nn, .slice A1 n1 c1, .slice A2 n2 c2, .slice A3 n3 c3, .slice A4 n4 c4, .slice A5 n5 c5, .slice A6 n6 c6, .slice A7 n7 c7] c ∧ BoxC W8.heap.size [.int .i64 kk, .string nn, .slice A1 n1 c1, .slice A2 n2 c2, .slice A3 n3 c3, .slice A4 n4 c4, .slice A5 n5 c5, .slice A6 n6 c6, .slice A7 n7 c7] W) ⟨hS8.step (kept_told ha) (hS8.rd.told ha), RCmd.good (LsIn.good d) _ _ _ _ _ _ (fun k hk hS => ⟨⟨hS.1, Nat.lt_of_lt_of_le hS.2.1 ha.size, hS.2.2⟩, ha.block k hk⟩) hrep, heap_alloc_new W8 _⟩ ?_
              have hcb8 := hS8.box.lt
              have hrb8 := hS8.rd.lt
              clear ha hS8 hrep
              generalize W8.heap.size = bb at *
              rintro W9 ⟨hS9, hrep, hbb⟩
              refine (HLV.out W9 hS9.rd).mono ?_
              rintro e W10 ⟨rfl, hk10, hr10⟩
              have hS10 := hS9.step hk10 hr10
              have hb10 := hbb.kept hk10 (by omega)
              have hrep10 : RCmd (LsIn d) W10 (Nx (w.heap.size + 1) cb W10) _ c := RCmd.good (LsIn.good d) _ _ _ _ _ _ (fun k hk hS => ⟨⟨hS.1, Nat.lt_of_lt_of_le hS.2.1 hk10.size, hS.2.2⟩, hk10.block k hk (fun e => by have := hS.1; have := hS9.lt; omega)⟩) hrep
              obtain ⟨⟨x0, x1, x2, x3, x4, x5, x6, x7, x8⟩, xf⟩ := BoxC.nine hb10
              have HAL := Lib.hid (alone_nx d (w.heap.size + 1) cb (.agg #[.int .i64 kk, .string nn, .slice A1 n1 c1, .slice A2 n2 c2, .slice A3 n3 c3, .slice A4 n4 c4, .slice A5 n5 c5, .slice A6 n6 c6, .slice A7 n7 c7]) c W10 ⟨_, rfl, hrep10⟩ (by have := hS10.box.lt; have := hS10.clt; omega) hS10.box.lt)
              have hzb := hb10.lt
              have HS10 := Lib.hid hS10
              clear hS9 hrep hbb hk10 hr10 hb10 hrep10 hS10
              go_wp2_with fail
              refine HAL.out.mono ?_
              rintro e W11 ⟨hb11, u11, rfl, hv11⟩
              obtain ⟨B3, m3, d3, rfl⟩ := LsIn.form hv11
              have HS11 := Lib.hid (HS10.out.step (kept_told hb11) (HS10.out.rd.told hb11))
              have HV3 := Lib.hid hv11
              clear hb11 hv11 HS10 x0 x1 x2 x3 x4 x5 x6 x7 x8 xf
              have HS6 := Lib.hid (HS11.out.set 5 (.slice B3 m3 d3))
              obtain ⟨⟨q0, q1, q2, q3, q4, q5, q6, q7, q8⟩, qf⟩ := BoxC.nine HS11.out.box
              have f5 := qf 5
              have hres := HS6.out.res
              obtain ⟨⟨e0, e1, e2, e3, e4, e5, e6, e7, e8⟩, ef⟩ := BoxC.nine HS6.out.box
              obtain ⟨⟨g0, g1, g2, g3, g4, g5, g6, g7, g8⟩, gf⟩ := BoxC.nine hres
              have hne1 := HS11.out.clt
              have hne2 : ¬ cb = w.heap.size := by omega
              have hne3 : ¬ w.heap.size = cb := by omega
              go_wp2_with fail
              refine bodyPost_ret (results_cell_row rfl _ _ _ 42 _ (0, 0) _ rfl (nine_set hres _ _ _ _ _ _ _ _ _) Try.underlying42 rfl (by kernel_rfl)) rfl ?_
              exact HS6.out.done (LsIn.good (d + 1)) ⟨_, _, _, _, _, _, _, rfl, Sl.nil _ _ _ _ _ _, Sl.nil _ _ _ _ _ _, LsIn.nil _ _ _ _ _, HS11.out.setK 5 _ (LsIn.good (d + 1)) HV3.out, LsIn.nil _ _ _ _ _, Sl.nil _ _ _ _ _ _, Sl.nil _ _ _ _ _ _, fun _ => rfl⟩
        · rw [fn4 hm hm1 hm2 (by rw [hr4])]
          have HEN := Lib.hid (fun W (hW : RdS W rb s r4 wi) => enter_deep rb s r4 wi (pl s (aheadL r4)) W hW hwi2)
          clear h hm hm1 hm2 hr4
          go_enter Try.func42, Try.ntmps42
          go_wp2_with fail
          refine HNA.out.mono ?_
          rintro e W1 ⟨hk, v1, rfl, hr, rfl⟩
          have hst := CSg.start (hk.at (heap_alloc_new w _) (by have := HW.out.lt; omega)) hr ((kept_told (S := (· = rb)) HB0.out).trans hk) HW.out.lt [.int .i64 9, .string (nm nmx), .slice none 0 0, .slice none 0 0, .slice none 0 0, .slice none 0 0, .slice none 0 0, .slice none 0 0, .slice none 0 0]
          clear hk hr
          go_wp2_with fail
          refine calls_gen _ hst ?_
          clear hst
          generalize W1.heap.size = cb at *
          intro W2 hS
          refine (HN1.out W2 hS.rd).mono ?_
          rintro e W3 ⟨hk, u, rfl, hr, rfl⟩
          have hS3 := hS.step hk hr
          clear hS hk hr
          go_wp2_with fail
          refine (HN2.out W3 hS3.rd).mono ?_
          rintro e W4 ⟨hk, u, rfl, hr, rfl⟩
          have hS4 := hS3.step hk hr
          clear hS3 hk hr
          go_wp2_with fail
          refine (HNL.out W4 hS4.rd).mono ?_
          rintro e W5 ⟨rfl, hk, hr⟩
          have hS5 := hS4.step hk hr
          clear hS4 hk hr
          go_wp2_with fail
          refine (HAH.out W5 hS5.rd).mono ?_
          rintro e W6 ⟨rfl, rfl⟩
          go_wp2_with fail
          refine (HEN.out _ hS5.rd).mono ?_
          rintro e W7 ⟨rfl, rfl⟩
          simp only [sflt]
          go_wp2_with fail
          exact ⟨rfl, hS5.kept, rfl⟩

end Go.Proofs.Ytgajbehlggikdaa.Sw

/- DERIVED. The walk over command. -/
namespace Go.Proofs.Ytgajbehlggikdaa.Sw
open Go.RowKit
open PathM WdM SyM
open Go.Proofs.Ytgajbehlggikdaa.Wd
set_option linter.unusedVariables false

theorem res_done {rb : Nat} {s : ByteArray} {wi : Nat} {w : World} {r : Bs} {y0 y1 y2 y3 y4 y5 y6 y7 y8 : Value} {W : World} {L : RepV (List LiT)} {c : CmdT} (hlt : rb < w.heap.size) (hk0 : Kept (· = rb) w W) (hr : RdS W rb s r wi) (hL : GoodV L) (hc : RCmd L W (Nw (w.heap.size + 1) W) [y0, y1, y2, y3, y4, y5, y6, y7, y8] c) :
    Reads rb s wi (.ok c r) (VAgg (RCmd L)) w (.returned (.agg #[y0, y1, y2, y3, y4, y5, y6, y7, y8])) (((((((((W.setCell ⟨w.heap.size, 0, none⟩ y0).setCell ⟨w.heap.size, 1, none⟩ y1).setCell ⟨w.heap.size, 2, none⟩ y2).setCell ⟨w.heap.size, 3, none⟩ y3).setCell ⟨w.heap.size, 4, none⟩ y4).setCell ⟨w.heap.size, 5, none⟩ y5).setCell ⟨w.heap.size, 6, none⟩ y6).setCell ⟨w.heap.size, 7, none⟩ y7).setCell ⟨w.heap.size, 8, none⟩ y8) := by
  have hk := nine_kept (S := (· = w.heap.size)) W rfl y0 y1 y2 y3 y4 y5 y6 y7 y8
  refine ⟨hk0.then hk (fun k h1 h2 => by omega), _, rfl, hr.kept hk (by omega), [y0, y1, y2, y3, y4, y5, y6, y7, y8], rfl, ?_⟩
  refine RCmd.good hL _ _ _ _ _ _ (fun k h1 h2 => ⟨⟨by have := h2.1; omega, Nat.lt_of_lt_of_le h2.2 hk.size⟩, hk.block k h1 (fun e => by have := h2.1; omega)⟩) hc
/-- A command of words, a function, are read as the model says. -/
def SmOk (simple : Bs → Rs CmdT) (d wi : Nat) : Prop := ∀ (rb : Nat) (s : ByteArray) (l : Bs) (w : World), RdS w rb s l wi → s.size ≤ 8192 →
  Calls Try.prog 43 #[.pointer (some ⟨rb, 0, none⟩)] w (Reads rb s wi (simple l) (VAgg (RCmd (LsIn d))) w)
def FnOk (fn : Bs → Rs CmdT) (d wi : Nat) : Prop := ∀ (rb : Nat) (s : ByteArray) (l : Bs) (w : World), RdS w rb s l wi → s.size ≤ 8192 →
  Calls Try.prog 42 #[.pointer (some ⟨rb, 0, none⟩)] w (Reads rb s wi (fn l) (VAgg (RCmd (LsIn d))) w)
theorem reads_told {α : Type} {V : World → (Nat → Prop) → Value → α → Prop} (hV : GoodV V) {rb : Nat} {s : ByteArray} {wi : Nat} {m : Rs α} {w W W' : World} {e : Ending} (h : Reads rb s wi m V w e W) (hb : Below W.heap.size W W') : Reads rb s wi m V w e W' := by
  refine ⟨h.1.trans (kept_told hb), ?_⟩
  have h2 := h.2
  cases m with
  | bad a er => exact h2
  | ok x r =>
    obtain ⟨v, he, hr, hv⟩ := h2
    exact ⟨v, he, hr.told hb, nw_kept hV (Q := fun _ => False) (kept_told hb) (fun _ e => e.elim) hv⟩
theorem cm1 {v : Lv} {l : Bs} {a : Nat} {e : Int} (h : v.compound l = .bad a e) : commandL v l = .bad a e := by unfold commandL; rw [h]
theorem cm2 {v : Lv} {l r : Bs} {c : CmdT} (h : v.compound l = .ok (some c) r) : commandL v l = .ok c r := by unfold commandL; rw [h]
theorem cm3 {v : Lv} {l r : Bs} (h : v.compound l = .ok none r) (h2 : isName (nextL l).1 = true ∧ stands [40] (nextL l).2 = true) : commandL v l = functionL v.body l := by unfold commandL; rw [h]; simp only; rw [if_pos h2]
theorem cm4 {v : Lv} {l r : Bs} (h : v.compound l = .ok none r) (h2 : ¬ (isName (nextL l).1 = true ∧ stands [40] (nextL l).2 = true)) : commandL v l = simpleL v.sc l := by unfold commandL; rw [h]; simp only; rw [if_neg h2]
set_option maxRecDepth 100000 in
set_option maxHeartbeats 6400000 in
theorem command_any {v : Lv} {d wi : Nat} (hwi : wi ≤ 100) (hC : CpOk v.compound d wi) (hnone : ∀ l r, v.compound l = .ok none r → r = l) (hF : FnOk (functionL v.body) d wi) (hS : SmOk (simpleL v.sc) d wi) : CdOk (commandL v) d wi := by
  intro rb s l w h hs
  have HW := Lib.hid h
  have hb0 : Below w.heap.size w (w.alloc (.cells #[.int .i64 0, .string ⟨#[]⟩, .slice none 0 0, .slice none 0 0, .slice none 0 0, .slice none 0 0, .slice none 0 0, .slice none 0 0, .slice none 0 0] 42)) := (Below.refl _ _).alloc (Nat.le_refl _) _
  have HB0 := Lib.hid hb0
  have HCP := Lib.hid (hC rb s l _ (h.told hb0) hs)
  have hz := h.lt
  clear hb0
  cases hm : v.compound l with
  | bad a er =>
    rw [cm1 hm]
    rw [hm] at HCP
    clear h hm hC hF hS
    go_enter Try.func35, Try.ntmps35
    go_wp2_with (go_at_call 40; refine HCP.out.mono ?_; rintro e W ⟨hk, rfl⟩; simp only [sflt])
    exact ⟨rfl, (kept_told HB0.out).trans hk, rfl⟩
  | ok oc r =>
    rw [hm] at HCP
    cases oc with
    | some c =>
      rw [cm2 hm]
      clear h hm hC hF hS
      go_enter Try.func35, Try.ntmps35
      go_wp2_with fail
      refine HCP.out.mono ?_
      rintro e W ⟨hk, v1, rfl, hr, u, rfl, hv⟩
      obtain ⟨kk, nn, A1, A2, A3, A4, A5, A6, A7, n1, n2, n3, n4, n5, n6, n7, c1, c2, c3, c4, c5, c6, c7, rfl, hrep⟩ := cmd_open hv
      have hres := hk.at (heap_alloc_new w _) (by omega)
      have hresB : BoxC w.heap.size (cmd0 (.int .i64 0) (.string ⟨#[]⟩)) W := hres
      have hzr := fin_at hres
      have HRES := Lib.hid hresB
      have HRD := Lib.hid hr
      have HK := Lib.hid ((kept_told (S := (· = rb)) HB0.out).trans hk)
      have HREP : Hid (RCmd (LsIn d) W (Nw (w.heap.size + 1) W) _ c) := Lib.hid (RCmd.good (LsIn.good d) _ _ _ _ _ _ (fun k h1 h2 => ⟨⟨by have := h2.1; simp at this; omega, h2.2⟩, rfl⟩) hrep)
      obtain ⟨⟨g0, g1, g2, g3, g4, g5, g6, g7, g8⟩, gf⟩ := BoxC.nine hresB
      clear hk hr hv hrep hres hresB
      go_wp2_with fail
      refine bodyPost_ret (results_cell_row rfl _ _ _ 42 _ (0, 0) _ rfl ((Below.heap_alloc _ _ _ (by simp; exact hzr)).trans (nine_set HRES.out _ _ _ _ _ _ _ _ _)) Try.underlying42 rfl (by kernel_rfl)) rfl ?_
      exact reads_told (vagg_good (RCmd.good (LsIn.good d))) (res_done hz HK.out HRD.out (LsIn.good d) HREP.out) ((Below.refl _ _).alloc (Nat.le_refl _) _)
    | none =>
      have hrl := hnone _ _ hm
      subst hrl
      have hnx := fun W (hW : RdS W rb s r wi) => next_any rb s r wi W hW hs
      unfold NextPost at hnx
      obtain ⟨key, hkey⟩ : ∃ x, (nextL r).1 = x := ⟨_, rfl⟩
      obtain ⟨r1, hr1⟩ : ∃ x, (nextL r).2 = x := ⟨_, rfl⟩
      rw [hkey, hr1] at hnx
      have hnm : key.length ≤ 281474976710656 → ∀ W, Calls Try.prog 41 #[.string (nm key)] W fun e w' => e = .returned (.bool (isName key)) ∧ W = w' := fun hle W => name_any (nm key) W (by rw [nm_size]; omega)
      have hps := pl_le s r1
      have HNX := Lib.hid hnx
      cases hnk : isName key with
      | true =>
        rw [hnk] at hnm
        have HNM := Lib.hid hnm
        cases hst : stands [40] r1 with
        | true =>
          rw [cm3 hm (by rw [hkey, hr1]; exact ⟨hnk, hst⟩)]
          have HPX : Hid (∀ (hsf : r1 <:+ s.data.toList), ∀ W, Calls Try.prog 27 #[.string (s.extract (pl s r1) s.size), .string ⟨#[40]⟩] W fun e w' => e = .returned (.bool true) ∧ W = w') := Lib.hid (fun hsf W => pre_any (s.extract (pl s r1) s.size) r1 (ext_pl hsf) ⟨#[40]⟩ true hst W)
          clear hnx hkey hr1 hnm hst hnk hnone
          generalize pl s r1 = p at *
          have HFN := Lib.hid (fun W (hW : RdS W rb s r wi) => hF rb s r W hW hs)
          cases hM : functionL v.body r with
          | bad a er =>
            rw [hM] at HFN
            clear h hm hC hF hS hM
            go_enter Try.func35, Try.ntmps35
            go_wp2_with fail
            refine HCP.out.mono ?_
            rintro e W ⟨hk, v1, rfl, hr, rfl⟩
            have ha : Below W.heap.size W (W.alloc (.cells #[.int .i64 0, .string ⟨#[]⟩, .slice none 0 0, .slice none 0 0, .slice none 0 0, .slice none 0 0, .slice none 0 0, .slice none 0 0, .slice none 0 0] 42)) := (Below.refl _ _).alloc (Nat.le_refl _) _
            have hres := hk.at (heap_alloc_new w _) (by omega)
            have hzr := fin_at hres
            have HRES : Hid (BoxC w.heap.size (cmd0 (.int .i64 0) (.string ⟨#[]⟩)) (W.alloc (.cells #[.int .i64 0, .string ⟨#[]⟩, .slice none 0 0, .slice none 0 0, .slice none 0 0, .slice none 0 0, .slice none 0 0, .slice none 0 0, .slice none 0 0] 42))) := Lib.hid ((ha.block _ hzr).trans hres)
            have HRD := Lib.hid (hr.told ha)
            have HK := Lib.hid (((kept_told (S := (· = rb)) HB0.out).trans hk).trans (kept_told ha))
            clear hk hr ha hres hzr
            go_wp2_with fail
            refine (HNX.out _ HRD.out).mono ?_
            rintro e W2 ⟨rfl, hb, hr1, hle⟩
            have HRD2 := Lib.hid (HRD.out.told hb)
            have r0 := HRD2.out.c0
            have rz := HRD2.out.lt
            have HK2 := Lib.hid (HK.out.trans (kept_told hb))
            have HRES2 := Lib.hid (HRES.out.kept (kept_told (S := (· = rb)) hb) (by omega))
            have HLE := Lib.hid hle
            have HSF := Lib.hid hr1
            clear hb hr1 hle HRD HK HRES
            go_wp2_with (first | (go_at_call 41; refine (HNM.out HLE.out _).mono ?_; rintro e W3 ⟨rfl, rfl⟩) | (go_at_call 27; refine (HPX.out HSF.out _).mono ?_; rintro e W4 ⟨rfl, rfl⟩))
            refine (HFN.out _ HRD2.out).mono ?_
            rintro e W5 ⟨hk, rfl⟩
            simp only [sflt]
            go_wp2_with fail
            exact ⟨rfl, HK2.out.trans hk, rfl⟩
          | ok cz r5 =>
            rw [hM] at HFN
            clear h hm hC hF hS hM
            go_enter Try.func35, Try.ntmps35
            go_wp2_with fail
            refine HCP.out.mono ?_
            rintro e W ⟨hk, v1, rfl, hr, rfl⟩
            have ha : Below W.heap.size W (W.alloc (.cells #[.int .i64 0, .string ⟨#[]⟩, .slice none 0 0, .slice none 0 0, .slice none 0 0, .slice none 0 0, .slice none 0 0, .slice none 0 0, .slice none 0 0] 42)) := (Below.refl _ _).alloc (Nat.le_refl _) _
            have hres := hk.at (heap_alloc_new w _) (by omega)
            have hzr := fin_at hres
            have HRES : Hid (BoxC w.heap.size (cmd0 (.int .i64 0) (.string ⟨#[]⟩)) (W.alloc (.cells #[.int .i64 0, .string ⟨#[]⟩, .slice none 0 0, .slice none 0 0, .slice none 0 0, .slice none 0 0, .slice none 0 0, .slice none 0 0, .slice none 0 0] 42))) := Lib.hid ((ha.block _ hzr).trans hres)
            have HRD := Lib.hid (hr.told ha)
            have HK := Lib.hid (((kept_told (S := (· = rb)) HB0.out).trans hk).trans (kept_told ha))
            clear hk hr ha hres hzr
            go_wp2_with fail
            refine (HNX.out _ HRD.out).mono ?_
            rintro e W2 ⟨rfl, hb, hr1, hle⟩
            have HRD2 := Lib.hid (HRD.out.told hb)
            have r0 := HRD2.out.c0
            have rz := HRD2.out.lt
            have HK2 := Lib.hid (HK.out.trans (kept_told hb))
            have HRES2 := Lib.hid (HRES.out.kept (kept_told (S := (· = rb)) hb) (by omega))
            have HLE := Lib.hid hle
            have HSF := Lib.hid hr1
            clear hb hr1 hle HRD HK HRES
            go_wp2_with (first | (go_at_call 41; refine (HNM.out HLE.out _).mono ?_; rintro e W3 ⟨rfl, rfl⟩) | (go_at_call 27; refine (HPX.out HSF.out _).mono ?_; rintro e W4 ⟨rfl, rfl⟩))
            refine (HFN.out _ HRD2.out).mono ?_
            rintro e W5 ⟨hk, v5, rfl, hr5, hv5⟩
            obtain ⟨kk, nn, A1, A2, A3, A4, A5, A6, A7, n1, n2, n3, n4, n5, n6, n7, c1, c2, c3, c4, c5, c6, c7, rfl, hrep⟩ := cmd_open hv5
            have hresB : BoxC w.heap.size (cmd0 (.int .i64 0) (.string ⟨#[]⟩)) W5 := HRES2.out.kept hk (by omega)
            have hzr := hresB.lt
            have HR5 := Lib.hid hresB
            have HRD5 := Lib.hid hr5
            have HK5 := Lib.hid (HK2.out.trans hk)
            have HREP : Hid (RCmd (LsIn d) W5 (Nw (w.heap.size + 1) W5) _ cz) := Lib.hid (RCmd.good (LsIn.good d) _ _ _ _ _ _ (fun k h1 h2 => ⟨⟨by have := h2.1; have := HRES2.out.lt; omega, h2.2⟩, rfl⟩) hrep)
            obtain ⟨⟨g0, g1, g2, g3, g4, g5, g6, g7, g8⟩, gf⟩ := BoxC.nine hresB
            clear hk hr5 hv5 hrep hresB HRD2 HRES2 HK2
            go_wp2_with fail
            refine bodyPost_ret (results_cell_row rfl _ _ _ 42 _ (0, 0) _ rfl (nine_set HR5.out _ _ _ _ _ _ _ _ _) Try.underlying42 rfl (by kernel_rfl)) rfl ?_
            exact res_done hz HK5.out HRD5.out (LsIn.good d) HREP.out
        | false =>
          rw [cm4 hm (by rw [hkey, hr1, hst]; exact fun e => by cases e.2)]
          have HPX : Hid (∀ (hsf : r1 <:+ s.data.toList), ∀ W, Calls Try.prog 27 #[.string (s.extract (pl s r1) s.size), .string ⟨#[40]⟩] W fun e w' => e = .returned (.bool false) ∧ W = w') := Lib.hid (fun hsf W => pre_any (s.extract (pl s r1) s.size) r1 (ext_pl hsf) ⟨#[40]⟩ false hst W)
          clear hnx hkey hr1 hnm hst hnk hnone
          generalize pl s r1 = p at *
          have HFN := Lib.hid (fun W (hW : RdS W rb s r wi) => hS rb s r W hW hs)
          cases hM : simpleL v.sc r with
          | bad a er =>
            rw [hM] at HFN
            clear h hm hC hF hS hM
            go_enter Try.func35, Try.ntmps35
            go_wp2_with fail
            refine HCP.out.mono ?_
            rintro e W ⟨hk, v1, rfl, hr, rfl⟩
            have ha : Below W.heap.size W (W.alloc (.cells #[.int .i64 0, .string ⟨#[]⟩, .slice none 0 0, .slice none 0 0, .slice none 0 0, .slice none 0 0, .slice none 0 0, .slice none 0 0, .slice none 0 0] 42)) := (Below.refl _ _).alloc (Nat.le_refl _) _
            have hres := hk.at (heap_alloc_new w _) (by omega)
            have hzr := fin_at hres
            have HRES : Hid (BoxC w.heap.size (cmd0 (.int .i64 0) (.string ⟨#[]⟩)) (W.alloc (.cells #[.int .i64 0, .string ⟨#[]⟩, .slice none 0 0, .slice none 0 0, .slice none 0 0, .slice none 0 0, .slice none 0 0, .slice none 0 0, .slice none 0 0] 42))) := Lib.hid ((ha.block _ hzr).trans hres)
            have HRD := Lib.hid (hr.told ha)
            have HK := Lib.hid (((kept_told (S := (· = rb)) HB0.out).trans hk).trans (kept_told ha))
            clear hk hr ha hres hzr
            go_wp2_with fail
            refine (HNX.out _ HRD.out).mono ?_
            rintro e W2 ⟨rfl, hb, hr1, hle⟩
            have HRD2 := Lib.hid (HRD.out.told hb)
            have r0 := HRD2.out.c0
            have rz := HRD2.out.lt
            have HK2 := Lib.hid (HK.out.trans (kept_told hb))
            have HRES2 := Lib.hid (HRES.out.kept (kept_told (S := (· = rb)) hb) (by omega))
            have HLE := Lib.hid hle
            have HSF := Lib.hid hr1
            clear hb hr1 hle HRD HK HRES
            go_wp2_with (first | (go_at_call 41; refine (HNM.out HLE.out _).mono ?_; rintro e W3 ⟨rfl, rfl⟩) | (go_at_call 27; refine (HPX.out HSF.out _).mono ?_; rintro e W4 ⟨rfl, rfl⟩))
            refine (HFN.out _ HRD2.out).mono ?_
            rintro e W5 ⟨hk, rfl⟩
            simp only [sflt]
            go_wp2_with fail
            exact ⟨rfl, HK2.out.trans hk, rfl⟩
          | ok cz r5 =>
            rw [hM] at HFN
            clear h hm hC hF hS hM
            go_enter Try.func35, Try.ntmps35
            go_wp2_with fail
            refine HCP.out.mono ?_
            rintro e W ⟨hk, v1, rfl, hr, rfl⟩
            have ha : Below W.heap.size W (W.alloc (.cells #[.int .i64 0, .string ⟨#[]⟩, .slice none 0 0, .slice none 0 0, .slice none 0 0, .slice none 0 0, .slice none 0 0, .slice none 0 0, .slice none 0 0] 42)) := (Below.refl _ _).alloc (Nat.le_refl _) _
            have hres := hk.at (heap_alloc_new w _) (by omega)
            have hzr := fin_at hres
            have HRES : Hid (BoxC w.heap.size (cmd0 (.int .i64 0) (.string ⟨#[]⟩)) (W.alloc (.cells #[.int .i64 0, .string ⟨#[]⟩, .slice none 0 0, .slice none 0 0, .slice none 0 0, .slice none 0 0, .slice none 0 0, .slice none 0 0, .slice none 0 0] 42))) := Lib.hid ((ha.block _ hzr).trans hres)
            have HRD := Lib.hid (hr.told ha)
            have HK := Lib.hid (((kept_told (S := (· = rb)) HB0.out).trans hk).trans (kept_told ha))
            clear hk hr ha hres hzr
            go_wp2_with fail
            refine (HNX.out _ HRD.out).mono ?_
            rintro e W2 ⟨rfl, hb, hr1, hle⟩
            have HRD2 := Lib.hid (HRD.out.told hb)
            have r0 := HRD2.out.c0
            have rz := HRD2.out.lt
            have HK2 := Lib.hid (HK.out.trans (kept_told hb))
            have HRES2 := Lib.hid (HRES.out.kept (kept_told (S := (· = rb)) hb) (by omega))
            have HLE := Lib.hid hle
            have HSF := Lib.hid hr1
            clear hb hr1 hle HRD HK HRES
            go_wp2_with (first | (go_at_call 41; refine (HNM.out HLE.out _).mono ?_; rintro e W3 ⟨rfl, rfl⟩) | (go_at_call 27; refine (HPX.out HSF.out _).mono ?_; rintro e W4 ⟨rfl, rfl⟩))
            refine (HFN.out _ HRD2.out).mono ?_
            rintro e W5 ⟨hk, v5, rfl, hr5, hv5⟩
            obtain ⟨kk, nn, A1, A2, A3, A4, A5, A6, A7, n1, n2, n3, n4, n5, n6, n7, c1, c2, c3, c4, c5, c6, c7, rfl, hrep⟩ := cmd_open hv5
            have hresB : BoxC w.heap.size (cmd0 (.int .i64 0) (.string ⟨#[]⟩)) W5 := HRES2.out.kept hk (by omega)
            have hzr := hresB.lt
            have HR5 := Lib.hid hresB
            have HRD5 := Lib.hid hr5
            have HK5 := Lib.hid (HK2.out.trans hk)
            have HREP : Hid (RCmd (LsIn d) W5 (Nw (w.heap.size + 1) W5) _ cz) := Lib.hid (RCmd.good (LsIn.good d) _ _ _ _ _ _ (fun k h1 h2 => ⟨⟨by have := h2.1; have := HRES2.out.lt; omega, h2.2⟩, rfl⟩) hrep)
            obtain ⟨⟨g0, g1, g2, g3, g4, g5, g6, g7, g8⟩, gf⟩ := BoxC.nine hresB
            clear hk hr5 hv5 hrep hresB HRD2 HRES2 HK2
            go_wp2_with fail
            refine bodyPost_ret (results_cell_row rfl _ _ _ 42 _ (0, 0) _ rfl (nine_set HR5.out _ _ _ _ _ _ _ _ _) Try.underlying42 rfl (by kernel_rfl)) rfl ?_
            exact res_done hz HK5.out HRD5.out (LsIn.good d) HREP.out
      | false =>
        rw [hnk] at hnm
        have HNM := Lib.hid hnm
        rw [cm4 hm (by rw [hkey, hnk]; exact fun e => by cases e.1)]
        clear hnx hkey hr1 hnm hnk hnone
        generalize pl s r1 = p at *
        have HFN := Lib.hid (fun W (hW : RdS W rb s r wi) => hS rb s r W hW hs)
        cases hM : simpleL v.sc r with
        | bad a er =>
          rw [hM] at HFN
          clear h hm hC hF hS hM
          go_enter Try.func35, Try.ntmps35
          go_wp2_with fail
          refine HCP.out.mono ?_
          rintro e W ⟨hk, v1, rfl, hr, rfl⟩
          have ha : Below W.heap.size W (W.alloc (.cells #[.int .i64 0, .string ⟨#[]⟩, .slice none 0 0, .slice none 0 0, .slice none 0 0, .slice none 0 0, .slice none 0 0, .slice none 0 0, .slice none 0 0] 42)) := (Below.refl _ _).alloc (Nat.le_refl _) _
          have hres := hk.at (heap_alloc_new w _) (by omega)
          have hzr := fin_at hres
          have HRES : Hid (BoxC w.heap.size (cmd0 (.int .i64 0) (.string ⟨#[]⟩)) (W.alloc (.cells #[.int .i64 0, .string ⟨#[]⟩, .slice none 0 0, .slice none 0 0, .slice none 0 0, .slice none 0 0, .slice none 0 0, .slice none 0 0, .slice none 0 0] 42))) := Lib.hid ((ha.block _ hzr).trans hres)
          have HRD := Lib.hid (hr.told ha)
          have HK := Lib.hid (((kept_told (S := (· = rb)) HB0.out).trans hk).trans (kept_told ha))
          clear hk hr ha hres hzr
          go_wp2_with fail
          refine (HNX.out _ HRD.out).mono ?_
          rintro e W2 ⟨rfl, hb, hr1, hle⟩
          have HRD2 := Lib.hid (HRD.out.told hb)
          have r0 := HRD2.out.c0
          have rz := HRD2.out.lt
          have HK2 := Lib.hid (HK.out.trans (kept_told hb))
          have HRES2 := Lib.hid (HRES.out.kept (kept_told (S := (· = rb)) hb) (by omega))
          have HLE := Lib.hid hle
          have HSF := Lib.hid hr1
          clear hb hr1 hle HRD HK HRES
          go_wp2_with (first | (go_at_call 41; refine (HNM.out HLE.out _).mono ?_; rintro e W3 ⟨rfl, rfl⟩))
          refine (HFN.out _ HRD2.out).mono ?_
          rintro e W5 ⟨hk, rfl⟩
          simp only [sflt]
          go_wp2_with fail
          exact ⟨rfl, HK2.out.trans hk, rfl⟩
        | ok cz r5 =>
          rw [hM] at HFN
          clear h hm hC hF hS hM
          go_enter Try.func35, Try.ntmps35
          go_wp2_with fail
          refine HCP.out.mono ?_
          rintro e W ⟨hk, v1, rfl, hr, rfl⟩
          have ha : Below W.heap.size W (W.alloc (.cells #[.int .i64 0, .string ⟨#[]⟩, .slice none 0 0, .slice none 0 0, .slice none 0 0, .slice none 0 0, .slice none 0 0, .slice none 0 0, .slice none 0 0] 42)) := (Below.refl _ _).alloc (Nat.le_refl _) _
          have hres := hk.at (heap_alloc_new w _) (by omega)
          have hzr := fin_at hres
          have HRES : Hid (BoxC w.heap.size (cmd0 (.int .i64 0) (.string ⟨#[]⟩)) (W.alloc (.cells #[.int .i64 0, .string ⟨#[]⟩, .slice none 0 0, .slice none 0 0, .slice none 0 0, .slice none 0 0, .slice none 0 0, .slice none 0 0, .slice none 0 0] 42))) := Lib.hid ((ha.block _ hzr).trans hres)
          have HRD := Lib.hid (hr.told ha)
          have HK := Lib.hid (((kept_told (S := (· = rb)) HB0.out).trans hk).trans (kept_told ha))
          clear hk hr ha hres hzr
          go_wp2_with fail
          refine (HNX.out _ HRD.out).mono ?_
          rintro e W2 ⟨rfl, hb, hr1, hle⟩
          have HRD2 := Lib.hid (HRD.out.told hb)
          have r0 := HRD2.out.c0
          have rz := HRD2.out.lt
          have HK2 := Lib.hid (HK.out.trans (kept_told hb))
          have HRES2 := Lib.hid (HRES.out.kept (kept_told (S := (· = rb)) hb) (by omega))
          have HLE := Lib.hid hle
          have HSF := Lib.hid hr1
          clear hb hr1 hle HRD HK HRES
          go_wp2_with (first | (go_at_call 41; refine (HNM.out HLE.out _).mono ?_; rintro e W3 ⟨rfl, rfl⟩))
          refine (HFN.out _ HRD2.out).mono ?_
          rintro e W5 ⟨hk, v5, rfl, hr5, hv5⟩
          obtain ⟨kk, nn, A1, A2, A3, A4, A5, A6, A7, n1, n2, n3, n4, n5, n6, n7, c1, c2, c3, c4, c5, c6, c7, rfl, hrep⟩ := cmd_open hv5
          have hresB : BoxC w.heap.size (cmd0 (.int .i64 0) (.string ⟨#[]⟩)) W5 := HRES2.out.kept hk (by omega)
          have hzr := hresB.lt
          have HR5 := Lib.hid hresB
          have HRD5 := Lib.hid hr5
          have HK5 := Lib.hid (HK2.out.trans hk)
          have HREP : Hid (RCmd (LsIn d) W5 (Nw (w.heap.size + 1) W5) _ cz) := Lib.hid (RCmd.good (LsIn.good d) _ _ _ _ _ _ (fun k h1 h2 => ⟨⟨by have := h2.1; have := HRES2.out.lt; omega, h2.2⟩, rfl⟩) hrep)
          obtain ⟨⟨g0, g1, g2, g3, g4, g5, g6, g7, g8⟩, gf⟩ := BoxC.nine hresB
          clear hk hr5 hv5 hrep hresB HRD2 HRES2 HK2
          go_wp2_with fail
          refine bodyPost_ret (results_cell_row rfl _ _ _ 42 _ (0, 0) _ rfl (nine_set HR5.out _ _ _ _ _ _ _ _ _) Try.underlying42 rfl (by kernel_rfl)) rfl ?_
          exact res_done hz HK5.out HRD5.out (LsIn.good d) HREP.out

end Go.Proofs.Ytgajbehlggikdaa.Sw
