/- DERIVED. The walk over the law VarsCopies. -/
import Derived.Test.YtdegkfnlafgheaaVrCpy
import Derived.Deep.CutRange
import Derived.Deep.Cut
import Derived.Deep.RegionLaw
namespace Go.Proofs.Ytdegkfnlafgheaa.Vr
open Go.RowKit
open PathM WdM VrM
open Go.Proofs.Ytdegkfnlafgheaa.Wd
set_option linter.unusedVariables false
theorem newL_nil {l : Vs} {qs : List Bs} {vs : Vs} (h : newL l qs = .ok vs) : newL l [] = .ok vs := by
  obtain ⟨_, _, h2⟩ := newL_ok h
  unfold newL finL
  rw [h2]; rfl
theorem fieldT0 (a0 a1 a2 : Value) (W : World) : (Instr.field 36 (.agg #[a0, a1, a2]) 0).run Try.prog W = .ok a0 W := by kernel_rfl
set_option maxRecDepth 100000 in
set_option maxHeartbeats 1600000 in
theorem lcopied_any (l : Vs) (v : Value) (w : World) (hv : VsX w v l) (vs : Vs) (hm : newL l [] = .ok vs) :
    Calls Try.prog 24 #[v] w fun e w' => ∃ A n c, e = .returned (.slice A n c) ∧ VsIn w' (.slice A n c) vs ∧ Below w.heap.size w w' := by
  have HF := Lib.hid ((first_any l v w hv vs hm).mono (R' := fun e w' => ∃ A n c, e = .returned (.agg #[.slice A n c, .slice none 0 0, .int .i64 0]) ∧ VsIn w' (.slice A n c) vs ∧ Below w.heap.size w w') (by
    rintro e w' ⟨hb, vv, rfl, h1, _⟩
    obtain ⟨A, c, rfl, _⟩ := h1.form
    exact ⟨A, _, c, rfl, h1, hb⟩))
  obtain ⟨A, c, rfl, _⟩ := hv.1.form
  have ft0 := fieldT0
  clear hv hm
  go_enter Try.func24, Try.ntmps24
  go_wp2_with fail
  refine (HF.out).mono ?_
  rintro e W ⟨A1, n1, c1, rfl, h1, hb⟩
  have H1 := Lib.hid h1
  have HB := Lib.hid hb
  clear h1 hb
  go_wp2_with fail
  go_ret
  exact ⟨_, _, _, rfl, H1.out, HB.out⟩
/-- An empty table of the document's, new. -/
theorem Two.empty {base : Nat} {W : World} {cb : Nat} {st : Int} {vs : Vs} {vv av : Value} {ps : List Bs} (h : TbX base W cb st vs vv ps av) (hb : base ≤ W.heap.size) : Two base (W.alloc (.cells #[.slice none 0 0, .slice none 0 0, .int .i64 0] 36)) cb st vs vv ps av W.heap.size 0 [] (.slice none 0 0) [] (.slice none 0 0) := by
  have hl := h.lt
  refine ⟨h.below (one_below _ _), ⟨heap_alloc_new W _, VsIn.nil _ _ _, ArIn.nil _ _ _, List.Pairwise.nil, by simp, (by intro x hx; cases hx), by simp, by simp⟩, hb, by omega, fun e => ?_, fun e => ?_, fun hne => absurd rfl hne, fun hne => absurd rfl hne, fun hne => absurd rfl hne, fun hne => absurd rfl hne, fun hne => absurd rfl hne⟩
  · have := (row_lt h.row e).1; omega
  · have := (row_lt h.arow e).1; omega
set_option maxRecDepth 100000 in
set_option maxHeartbeats 12800000 in
theorem copies_any (l : Vs) (v : Value) (qs : List Bs) (a : Value) (L : List (ActB × Value)) (va : Value) (w : World) (hv : VsX w v l) (ha : ArX w a qs) (hL : ActsX w va L) :
    Calls Try.prog 6 #[v, a, va] w fun e w' => e = .returned (.bool true) ∧ Below w.heap.size w w' := by
  have HNEW := Lib.hid (new_any l v qs a w hv ha)
  have HAW := Lib.hid (fun W => awake_any W)
  have HCOP : Hid (∀ vs, newL l qs = .ok vs → ∀ W, Below w.heap.size w W → Calls Try.prog 24 #[v] W fun e w' => ∃ A n c, e = .returned (.slice A n c) ∧ VsIn w' (.slice A n c) vs ∧ Below W.heap.size W w') := Lib.hid (fun vs hm W hb => lcopied_any l v W (hv.below hb) vs (newL_nil hm))
  have HOKS := Lib.hid (fun vs (h : newL l qs = .ok vs) => newL_ok h)
  obtain ⟨A, c, hvf, _⟩ := hv.1.form
  obtain ⟨A2, c2, haf, _⟩ := ha.1.form
  obtain ⟨A3, c3, hLf, hlc3, hL1, hLc⟩ := hL
  have HACT : Hid (∀ i (h : i < L.length), ∃ b off, A3 = some ⟨b, off, none⟩ ∧ (∀ W, Below w.heap.size w W → ActAt W b (off + i * 5) L[i] ∧ b < W.heap.size) ∧ ActOk w L[i].1 L[i].2) := Lib.hid (fun i h => by
    obtain ⟨b, off, h1, h2, h3⟩ := hLc (fun e => by rw [e] at h; simp at h)
    exact ⟨b, off, h1, fun W hb => ⟨(h3 i h).1.below h2 hb, Nat.lt_of_lt_of_le h2 hb.size⟩, (h3 i h).2⟩)
  obtain ⟨m, hmm⟩ : ∃ m, L.length = m := ⟨_, rfl⟩
  have HLM := Lib.hid hmm
  rw [hmm] at hlc3 hL1 hLf
  have hmc : (m : Int) ≤ (c3 : Int) := by omega
  have hm1 : (m : Int) ≤ 140737488351232 := by omega
  subst hvf
  subst haf
  subst hLf
  clear hv ha hLc hmm
  generalize l.length = n at *
  go_enter Try.func6, Try.ntmps6
  go_wp2_with fail
  cases hm : newL l qs with
  | error er =>
    rw [hm] at HNEW
    clear hm HOKS HCOP HACT
    refine (HNEW.out).mono ?_
    rintro e W2 ⟨hb2, rfl, h0⟩
    have HB2 := Lib.hid hb2
    have hq : (er != 0) = true := by simpa using h0
    clear hb2 h0
    go_wp2_with (go_at_call 8; refine (HAW.out _).mono ?_; rintro e W ⟨rfl, hb⟩; have HB3 := below_then HB2 hb; clear hb)
    go_ret
    exact ⟨rfl, HB3.out⟩
  | ok vs =>
    have HC1 := Lib.hid (HCOP.out vs hm)
    rw [hm] at HNEW
    clear hm HOKS HCOP
    refine (HNEW.out).mono ?_
    rintro e W1 ⟨hb1, tb, vv, av, rfl, ht⟩
    have HB1 := Lib.hid hb1
    have HT1 := Lib.hid ht
    clear hb1 ht
    go_wp2_with fail
    refine (shown_any w.heap.size tb 0 vs vv av qs W1 HT1.out).mono ?_
    rintro e W2 ⟨v1, a1, he, hr1, ha1, hb2⟩
    unfold tblV at he
    subst he
    obtain ⟨A8, c8, rfl, _⟩ := row_form hr1
    obtain ⟨A9, c9, rfl, _⟩ := row_form ha1
    have HB2 := below_then (below_then HB1 hb2) (one_below W2 (.cells #[.slice A8 vs.length c8, .slice A9 qs.length c9, .int .i64 0] 36))
    have HT2 := Lib.hid ((HT1.out.below hb2).below (one_below W2 (.cells #[.slice A8 vs.length c8, .slice A9 qs.length c9, .int .i64 0] 36)))
    have HA9 := Lib.hid ((ar_row ha1).below (one_below W2 (.cells #[.slice A8 vs.length c8, .slice A9 qs.length c9, .int .i64 0] 36)))
    have HX9 := Lib.hid (heap_alloc_new W2 (.cells #[.slice A8 vs.length c8, .slice A9 qs.length c9, .int .i64 0] 36))
    obtain ⟨W3, hW3⟩ : ∃ W3, W3 = W2.alloc (.cells #[.slice A8 vs.length c8, .slice A9 qs.length c9, .int .i64 0] 36) := ⟨_, rfl⟩
    have HW3 := Lib.hid hW3
    rw [← hW3] at HB2 HT2 HA9 HX9
    obtain ⟨b9, hb9⟩ : ∃ b9, W2.heap.size = b9 := ⟨_, rfl⟩
    clear hr1 ha1 hb2 hW3 HT1 HB1
    go_wp2_with fail
    rw [← HW3.out]
    rw [hb9] at HX9
    clear HW3 hb9
    refine (copy_any w.heap.size tb 0 vs vv av qs W3 HT2.out).mono ?_
    rintro e W4 ⟨cb, vvc, avc, rfl, hc, hb4⟩
    have HC4 := Lib.hid hc
    have HB4 := Lib.hid hb4
    clear hc hb4
    go_wp2_with fail
    go_loopg [11] m (fun g x wr => ∃ (i : Nat) (st' : Int) (vs' : Vs) (vvc avc : Value) (ps' : List Bs), x = .int .i64 i ∧ i ≤ m ∧ g = m - i ∧ Hid (TbX W3.heap.size wr cb st' vs' vvc ps' avc) ∧ Hid (Below W3.heap.size W3 wr))
    case atStart => exact ⟨0, _, _, _, _, _, rfl, Nat.zero_le _, rfl, HC4, HB4⟩
    case round =>
      clear HC4 HB4
      obtain ⟨i, st', vs', vvc, avc, ps', rfl, hi, rfl, HC4, HB4⟩ := hrel
      have HBR := Lib.hid (HB2.out.trans (HB4.out.mono HB2.out.size))
      have hcase : ((i : Int) < (m : Int) ∧ (i : Int) < 40) ∨ ((i : Int) < (m : Int) ∧ ¬ (i : Int) < 40) ∨ ¬ (i : Int) < (m : Int) := by omega
      rcases hcase with ⟨him, h40⟩ | ⟨him, h40⟩ | him
      · have him2 : i < L.length := by have := HLM.out; omega
        obtain ⟨b, off, rfl, hat, hok⟩ := HACT.out i him2
        clear HACT
        generalize L[i] = x at *
        obtain ⟨⟨kind, nam, val, args, nn⟩, aa⟩ := x
        dsimp only at hat hok
        have HAT := Lib.hid hat
        have HOK := Lib.hid hok
        obtain ⟨A5, c5, haa, _⟩ := hok.1.1.form
        subst haa
        have HTW := Lib.hid (Two.empty HC4.out HB4.out.size)
        have hba := one_below wr (.cells #[.slice none 0 0, .slice none 0 0, .int .i64 0] 36)
        have HBA := below_then HBR hba
        have HB4A := Lib.hid (HB4.out.trans (hba.mono HB4.out.size))
        obtain ⟨⟨k0, k1, k2, k3, k4⟩, hbw⟩ := hat _ HBR.out
        dsimp only at k0 k1 k2 k3 k4
        obtain ⟨W6, hW6⟩ : ∃ W6, W6 = wr.alloc (.cells #[.slice none 0 0, .slice none 0 0, .int .i64 0] 36) := ⟨_, rfl⟩
        have HW6 := Lib.hid hW6
        have HSHT := Lib.hid (short_any ⟨kind, nam, val, args, nn⟩ (.slice A5 args.length c5) _ (hok.below HBA.out))
        have HDOES : Hid (∀ W, Below W6.heap.size W6 W → Calls Try.prog 12 #[.pointer (some ⟨cb, 0, none⟩), .pointer (some ⟨wr.heap.size, 0, none⟩), .agg #[.int .i64 kind, .string (nm nam), .string (nm val), .slice A5 args.length c5, .int .i64 nn]] W fun e w' => (∃ b, e = .returned (.bool b)) ∧ ∃ st2 vs2 vv2 av2 ps2, TbX W3.heap.size w' cb st2 vs2 vv2 ps2 av2 ∧ Below W3.heap.size W3 w') := Lib.hid (fun W hbW => by
          rw [hW6] at hbW
          have htw := HTW.out.below hbW
          have hbl : Below W3.heap.size W3 W := HB4A.out.trans (hbW.mono HB4A.out.size)
          have hbl2 : Below w.heap.size w W := HB2.out.trans (hbl.mono HB2.out.size)
          refine (does_any W3.heap.size cb wr.heap.size st' vs' vvc avc ps' 0 [] _ [] _ ⟨kind, nam, val, args, nn⟩ (.slice A5 args.length c5) W htw (hok.below hbl2) (fun hne k hk => by have := hok.1.1.own hne hk; have := HB2.out.size; omega) hbl.size).mono ?_
          rintro e w' ⟨rfl, vv2, av2, v1', a1', h2, hk, _, _⟩
          exact ⟨⟨_, rfl⟩, _, _, vv2, av2, _, h2.t, hbl.trans (htw.low hbl.size hk)⟩)
        rw [← hW6] at HSHT HBA HB4A
        clear hat hok hba hW6 HTW
        generalize args.length = n5 at *
        go_wp2_with fail
        rw [← HW6.out]
        refine (HSHT.out).mono ?_
        rintro e W7 ⟨b', rfl, hb7⟩
        have HB7 := Lib.hid (HB4A.out.trans (hb7.mono HB4A.out.size))
        have HB67 := Lib.hid hb7
        clear hb7 k0 k1 k2 k3 k4 hbw HSHT HBR
        cases b' with
        | false =>
          have HC7 : Hid (TbX W3.heap.size W7 cb st' vs' vvc ps' avc) := Lib.hid ((HC4.out.below (HW6.out ▸ one_below wr _)).below HB67.out)
          clear HDOES HAT
          go_wp2_with fail
          go_roundg (m - (i + 1))
          case measure => omega
          case rel => exact ⟨i + 1, _, _, _, _, _, rfl, by omega, rfl, HC7, HB7⟩
        | true =>
          obtain ⟨⟨k0, k1, k2, k3, k4⟩, hbw⟩ := HAT.out W7 (HB2.out.trans (HB7.out.mono HB2.out.size))
          dsimp only at k0 k1 k2 k3 k4
          go_wp2_with fail
          refine (HDOES.out W7 HB67.out).mono ?_
          rintro e W8 ⟨⟨bb, rfl⟩, st2, vs2, vv2, av2, ps2, h8, hb8⟩
          have HC8 := Lib.hid h8
          have HB8 := Lib.hid hb8
          clear h8 hb8 k0 k1 k2 k3 k4 hbw
          go_wp2_with fail
          go_roundg (m - (i + 1))
          case measure => omega
          case rel => exact ⟨i + 1, _, _, _, _, _, rfl, by omega, rfl, HC8, HB8⟩
      all_goals
        clear HACT HLM
        have HT3 := Lib.hid (HT2.out.below HB4.out)
        have HA3 := Lib.hid (HA9.out.below HB4.out)
        have HX3 := Lib.hid ((HB4.out.block _ (fin_at HX9.out)).trans HX9.out)
        clear HT2 HA9 HX9 HC4 HB4 HB2
        generalize wr = WR at *
        go_wp2_with fail
        refine (vars_any w.heap.size tb 0 vs vv av qs WR HT3.out).mono ?_
        rintro e W5 ⟨v5, rfl, hr5, hb5⟩
        obtain ⟨AV, cV, rfl, hcV⟩ := row_form hr5
        have HR5 := Lib.hid hr5
        have HB5 := Lib.hid hb5
        clear hr5 hb5
        go_wp2_with fail
        refine (args_any tb 0 vv av qs W5 (HT3.out.below HB5.out).t).mono ?_
        rintro e W6 ⟨v6, rfl, hr6, hb6⟩
        obtain ⟨AA, cA, rfl, hcA⟩ := row_form hr6
        have HR6 := Lib.hid hr6
        have HV6 := Lib.hid (row_below HR5.out hb6)
        have HB6 := Lib.hid (HB5.out.trans (hb6.mono HB5.out.size))
        have HNE : Hid (∀ k, (Value.slice AA qs.length cA).ownBlock = some k → (Value.slice AV vs.length cV).ownBlock ≠ some k) := Lib.hid (fun k hk e => by have := (row_lt HR6.out hk).2; have := (row_lt HR5.out e).1; omega)
        have HB65 := Lib.hid HB5.out.size
        clear hr6 hb6 HR5 HB5
        have hq1 : (qs.length : Int) ≤ 256 := by have := HT3.out.plen; omega
        have hv1 : (vs.length : Int) ≤ 64 := by have := HT3.out.len; omega
        have hcV2 : (vs.length : Int) ≤ (cV : Int) := by omega
        have hcA2 : (qs.length : Int) ≤ (cA : Int) := by omega
        obtain ⟨nv, hnv⟩ : ∃ nv, vs.length = nv := ⟨_, rfl⟩
        obtain ⟨na, hna⟩ : ∃ na, qs.length = na := ⟨_, rfl⟩
        have HNV := Lib.hid hnv
        have HNA := Lib.hid hna
        rw [hnv] at hv1 hcV2 HNE HV6
        rw [hna] at hq1 hcA2 HNE HR6
        rw [hnv, hna]
        clear hcV hcA hnv hna
        go_wp2_with fail
        go_loopg [15] nv (fun g x wx => ∃ (i : Nat) (xs ys : List Value), x = .int .i64 i ∧ i ≤ nv ∧ g = nv - i ∧ Hid (wx.ownsRow WR.heap.size 26 2 (.slice AV nv cV) nv xs) ∧ Hid (wx.ownsRow W5.heap.size 9 1 (.slice AA na cA) na ys) ∧ Hid (Below WR.heap.size WR wx))
        case atStart => exact ⟨0, _, _, rfl, Nat.zero_le _, rfl, HV6, HR6, HB6⟩
        case round =>
          clear HV6 HR6 HB6
          obtain ⟨i, xs, ys, rfl, hi, rfl, HRV, HRA, HBX⟩ := hrel
          have hc2 : (i : Int) < (nv : Int) ∨ ¬ (i : Int) < (nv : Int) := by omega
          rcases hc2 with hc2 | hc2
          · rcases row_two HRV.out with ⟨_, h0⟩ | ⟨g, cap, he, _, hg1, hg2⟩
            · omega
            obtain ⟨rfl, rfl⟩ : AV = some ⟨g, 0, none⟩ ∧ cV = cap := by simp only [Value.slice.injEq] at he; exact ⟨he.1, he.2.2⟩
            clear he
            have hxl : xs.length = nv * 2 := HRV.out.1
            obtain ⟨u, hx⟩ : ∃ u, xs[i * 2 + 1]? = some u := ⟨_, List.getElem?_eq_getElem (by omega)⟩
            have a0 := row_cells HRV.out _ _ hx
            have f0 : wr.frozen? ⟨g, i * 2 + 1, none⟩ = false := HRV.out.frozenAt _
            have hst := (HRV.out.stored (i * 2 + 1) (.string ⟨#[99, 104, 97, 110, 103, 101, 100]⟩)).1
            have hot := ownsRow_setCell_other HRA.out (a := ⟨g, i * 2 + 1, none⟩) (fun e => HNE.out g e rfl) (.string ⟨#[99, 104, 97, 110, 103, 101, 100]⟩)
            have HS1 := Lib.hid hst
            have HS2 := Lib.hid hot
            have HS3 := Lib.hid (set1_below (j := i * 2 + 1) (x := .string ⟨#[99, 104, 97, 110, 103, 101, 100]⟩) HBX.out hg2)
            clear hst hot hx hxl
            go_wp2_with fail
            go_roundg (nv - (i + 1))
            case measure => omega
            case rel => exact ⟨i + 1, _, _, rfl, by omega, rfl, by simpa using HS1, HS2, HS3⟩
          · clear HRV
            go_wp2_with fail
            go_loopg [16] na (fun g x wx => ∃ (i : Nat) (ys : List Value), x = .int .i64 i ∧ i ≤ na ∧ g = na - i ∧ Hid (wx.ownsRow W5.heap.size 9 1 (.slice AA na cA) na ys) ∧ Hid (Below WR.heap.size WR wx))
            case atStart => exact ⟨0, _, rfl, Nat.zero_le _, rfl, HRA, HBX⟩
            case round =>
              clear HRA HBX
              obtain ⟨i, ys, rfl, hi, rfl, HRA, HBX⟩ := hrel
              have hc3 : (i : Int) < (na : Int) ∨ ¬ (i : Int) < (na : Int) := by omega
              rcases hc3 with hc3 | hc3
              · rcases row_two HRA.out with ⟨_, h0⟩ | ⟨g, cap, he, _, hg1, hg2⟩
                · omega
                obtain ⟨rfl, rfl⟩ : AA = some ⟨g, 0, none⟩ ∧ cA = cap := by simp only [Value.slice.injEq] at he; exact ⟨he.1, he.2.2⟩
                clear he
                have hxl : ys.length = na * 1 := HRA.out.1
                obtain ⟨u, hx⟩ : ∃ u, ys[i]? = some u := ⟨_, List.getElem?_eq_getElem (by omega)⟩
                have a0 := row_cells HRA.out _ _ hx
                have f0 : wr.frozen? ⟨g, i, none⟩ = false := HRA.out.frozenAt _
                have hst := (HRA.out.stored i (.string ⟨#[99, 104, 97, 110, 103, 101, 100]⟩)).1
                have HS1 := Lib.hid hst
                have HS3 := Lib.hid (set1_below (b := g) (j := i) (x := .string ⟨#[99, 104, 97, 110, 103, 101, 100]⟩) HBX.out (by have := HB65.out; omega))
                clear hst hx hxl
                go_wp2_with fail
                go_roundg (na - (i + 1))
                case measure => omega
                case rel => exact ⟨i + 1, _, rfl, by omega, rfl, by simpa using HS1, HS3⟩
              · have HTX := Lib.hid (HT3.out.below HBX.out)
                have HAX := Lib.hid (HA3.out.below HBX.out)
                have HXX := Lib.hid ((HBX.out.block _ (fin_at HX3.out)).trans HX3.out)
                have HBW := below_then HBR HBX.out
                have HBD : Hid (Below wr.heap.size wr wr.drew) := Lib.hid (Below.refl _ _).drew
                have HSHW : Hid (∀ W, Below wr.heap.size wr W → Calls Try.prog 14 #[.pointer (some ⟨tb, 0, none⟩)] W fun e w' => ∃ A1 n1 c1 A2 n2 c2, e = .returned (.agg #[.slice A1 n1 c1, .slice A2 n2 c2, .int .i64 0]) ∧ (VsIn w' (.slice A1 n1 c1) vs ∧ ArIn w' (.slice A2 n2 c2) qs) ∧ Below W.heap.size W w') := Lib.hid (fun W hb => (shown_any w.heap.size tb 0 vs vv av qs W (HTX.out.below hb)).mono (by
                  rintro e w' ⟨v', a', rfl, hr, hra, hb2⟩
                  obtain ⟨A1, c1, rfl, _⟩ := row_form hr
                  obtain ⟨A2, c2, rfl, _⟩ := row_form hra
                  exact ⟨A1, _, c1, A2, _, c2, rfl, ⟨vs_row hr, ar_row hra⟩, hb2⟩))
                have HCPW : Hid (∀ W, Below wr.heap.size wr W → Calls Try.prog 24 #[.slice A n c] W fun e w' => ∃ A1 n1 c1, e = .returned (.slice A1 n1 c1) ∧ VsIn w' (.slice A1 n1 c1) vs ∧ Below W.heap.size W w') := Lib.hid (fun W hb => HC1.out W (HBW.out.trans (hb.mono HBW.out.size)))
                have HSMW : Hid (∀ W A1 n1 c1 A2 n2 c2 A4 n4 c4, Below wr.heap.size wr W → VsIn W (.slice A1 n1 c1) vs ∧ ArIn W (.slice A2 n2 c2) qs → VsIn W (.slice A4 n4 c4) vs → Calls Try.prog 13 #[.agg #[.slice A1 n1 c1, .slice A2 n2 c2, .int .i64 0], .agg #[.slice A4 n4 c4, .slice A9 na c9, .int .i64 0]] W fun e w' => e = .returned (.bool true) ∧ Below W.heap.size W w') := Lib.hid (fun W A1 n1 c1 A2 n2 c2 A4 n4 c4 hb h1 h2 => by
                  have h9 := HAX.out.below hb
                  rw [HNA.out] at h9
                  exact rsame_any vs qs _ _ _ _ 0 W h1.1 h1.2 h2 h9 (by have := HTX.out.len; omega) (by have := HTX.out.plen; omega))
                have HCL : Hid (∀ W, Below wr.heap.size wr W → W.cell? ⟨b9, 1, none⟩ = some (.slice A9 na c9) ∧ b9 < W.heap.size) := Lib.hid (fun W hb => by
                  have hx := (hb.block _ (fin_at HXX.out)).trans HXX.out
                  rw [HNA.out] at hx
                  exact ⟨cell_blk hx 1, fin_at hx⟩)
                obtain ⟨m0, m1⟩ := HCL.out wr (Below.refl _ _)
                clear HRA HNE HT3 HA3 HX3 HBX HTX HAX HXX HC1 HNV HNA HB65 HBR
                go_wp2_with fail
                go_region_law (first
                  | (go_simp; go_at_call 14; refine (HSHW.out _ (by first | exact HBC.out | exact HBD.out)).mono ?_; rintro e WS ⟨S1, s1, s2, S2, s3, s4, rfl, hsv, hb⟩; have HSV := Lib.hid hsv; have HBS : Hid (Below wr.heap.size wr WS) := Lib.hid (by first | exact HBC.out.trans (hb.mono HBC.out.size) | exact HBD.out.trans hb); have HSS := Lib.hid hb; obtain ⟨t0, t1⟩ := HCL.out WS HBS.out; clear hsv hb)
                  | (go_simp; go_at_call 24; refine (HCPW.out _ (by first | exact HBS.out | exact HBD.out)).mono ?_; rintro e WC ⟨C1, c5, c6, rfl, hcv, hb⟩; have HCV := Lib.hid hcv; have HBC : Hid (Below wr.heap.size wr WC) := Lib.hid (by first | exact HBS.out.trans (hb.mono HBS.out.size) | exact HBD.out.trans hb); have HSC := Lib.hid hb; obtain ⟨u0, u1⟩ := HCL.out WC HBC.out; clear hcv hb)
                  | (go_simp; go_at_call 13; refine (HSMW.out WC _ _ _ _ _ _ _ _ _ HBC.out ⟨HSV.out.1.below HSC.out, HSV.out.2.below HSC.out⟩ HCV.out).mono ?_; rintro e WM ⟨rfl, hb⟩; have HBM := Lib.hid (HBC.out.trans (hb.mono HBC.out.size)); clear hb)
                  | (go_simp; go_at_call 13; refine (HSMW.out WS _ _ _ _ _ _ _ _ _ HBS.out HSV.out (HCV.out.below HSS.out)).mono ?_; rintro e WM ⟨rfl, hb⟩; have HBM := Lib.hid (HBS.out.trans (hb.mono HBS.out.size)); clear hb)
                  | (go_simp; go_at_call 8; refine (HAW.out _).mono ?_; rintro e WZ ⟨rfl, hb⟩; have HBZ := below_then HBW (HBM.out.trans (hb.mono HBM.out.size)); clear hb))
                all_goals
                  go_wp2_with fail
                  go_ret
                  exact ⟨rfl, HBZ.out⟩
end Go.Proofs.Ytdegkfnlafgheaa.Vr
