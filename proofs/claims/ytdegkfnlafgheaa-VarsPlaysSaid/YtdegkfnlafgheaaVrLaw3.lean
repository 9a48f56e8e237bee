/- DERIVED. The walk over the law VarsSets. -/
import Derived.Test.YtdegkfnlafgheaaVrShown
import Derived.Test.YtdegkfnlafgheaaVrUns
import Derived.Test.YtdegkfnlafgheaaVrLawM
namespace Go.Proofs.Ytdegkfnlafgheaa.Vr
open Go.RowKit
open PathM WdM VrM
open Go.Proofs.Ytdegkfnlafgheaa.Wd
open Go.Proofs.Ytdegkfnlafgheaa.NumM (textL decN decE)
set_option linter.unusedVariables false
/-- The code, and the variables, behind Set. -/
def codeS (m : Except Int Vs) : Int := match m with | .ok _ => 0 | .error e => e
def leftS (vs : Vs) (m : Except Int Vs) : Vs := match m with | .ok v => v | .error _ => vs
theorem set_both (base tb : Nat) (st : Int) (vs : Vs) (vv av : Value) (ps : List Bs) (name t : Bs) (w : World) (h : TbX base w tb st vs vv ps av) (hbase : base ≤ w.heap.size) (hn : name.length ≤ 4611686018427387904) (ht : t.length ≤ 4611686018427387904) :
    Calls Try.prog 17 #[.pointer (some ⟨tb, 0, none⟩), .string (nm name), .string (nm t)] w fun e w' => e = .returned (.int .i64 (codeS (setL vs name t))) ∧ ∃ vv', TbX base w' tb st (leftS vs (setL vs name t)) vv' ps av ∧ Stp tb vv vv' w w' := by
  refine (set_any base tb st vs vv av ps name t w h hbase hn ht).mono ?_
  intro e w' hp
  unfold SetPost at hp
  cases hm : setL vs name t with
  | ok v =>
    rw [hm] at hp
    obtain ⟨he, vv', h1, h2⟩ := hp
    exact ⟨he, vv', h1, h2⟩
  | error er =>
    rw [hm] at hp
    obtain ⟨he, h0, hb⟩ := hp
    exact ⟨he, vv, h.below hb, Stp.below hb⟩
/-- What the law asks, in plain words. -/
theorem sets_facts {vs : Vs} {name t other : Bs} (hs : Srt vs) :
    (codeS (setL vs name t) = 0 → getL [] 0 (leftS vs (setL vs name t)) name = some t) ∧
    (name ≠ other → getL [] 0 (leftS vs (setL vs name t)) other = getL [] 0 vs other) ∧
    (isName name = true → getL [] 0 (delV (leftS vs (setL vs name t)) name) name = none) ∧
    (name ≠ other → getL [] 0 (delV (leftS vs (setL vs name t)) name) other = getL [] 0 vs other) ∧
    (codeS (setL vs name t) ≠ 0 → leftS vs (setL vs name t) = vs) := by
  have key : (codeS (setL vs name t) = 0 ∧ isName name = true ∧ leftS vs (setL vs name t) = putV vs name t) ∨ (codeS (setL vs name t) ≠ 0 ∧ leftS vs (setL vs name t) = vs) := by
    unfold setL
    by_cases h1 : isName name = false
    · rw [if_pos h1]; exact .inr ⟨by decide, rfl⟩
    · rw [if_neg h1]
      by_cases h2 : 4096 < t.length ∨ (hasV vs name = false ∧ 64 ≤ vs.length)
      · rw [if_pos h2]; exact .inr ⟨by decide, rfl⟩
      · rw [if_neg h2]; exact .inl ⟨rfl, by simpa using h1, rfl⟩
  rcases key with ⟨h0, h1, h2⟩ | ⟨h0, h2⟩
  · rw [h2]
    exact ⟨fun _ => get_put_same hs h1, fun hne => get_put_other hs hne, fun _ => get_del_same h1, fun hne => (get_del_other hne).trans (get_put_other hs hne), fun h => absurd h0 h⟩
  · rw [h2]
    exact ⟨fun h => absurd h h0, fun _ => rfl, fun h1 => get_del_same h1, fun hne => get_del_other hne, fun _ => rfl⟩
set_option maxRecDepth 100000 in
set_option maxHeartbeats 6400000 in
theorem sets_nm (l : Vs) (v : Value) (name t other : Bs) (w : World) (hv : VsX w v l) (hn : name.length ≤ 140737488351232) (ht : t.length ≤ 140737488351232) (ho : other.length ≤ 140737488351232) :
    Calls Try.prog 5 #[v, .string (nm name), .string (nm t), .string (nm other)] w fun e w' => e = .returned (.bool true) ∧ Below w.heap.size w w' := by
  have hax : ∀ W, ArX W (.slice none 0 0) [] := fun W => ⟨ArIn.nil _ _ _, by simp, by simp⟩
  have HNEW := Lib.hid (new_any l v [] (.slice none 0 0) w hv (hax w))
  have HAW := Lib.hid (fun W => awake_any W)
  have HVX := Lib.hid hv
  obtain ⟨A, c, hvf, _⟩ := hv.1.form
  have HFIRST : Hid (∀ vs, newL l [] = .ok vs → ∀ W, Below w.heap.size w W → Calls Try.prog 18 #[v] W fun e w' => Below W.heap.size W w' ∧ ∃ vv, e = .returned (tblV vv (.slice none 0 0) 0) ∧ VsIn w' vv vs ∧ ∀ k, vv.ownBlock = some k → W.heap.size ≤ k) := Lib.hid (fun vs hm W hb => first_any l v W (hv.below hb) vs hm)
  have HOKS := Lib.hid (fun vs (h : newL l [] = .ok vs) => newL_ok h)
  subst hvf
  clear hv
  generalize l.length = n at *
  cases hm : newL l [] with
  | error er =>
    rw [hm] at HNEW
    clear hm HFIRST HOKS
    generalize nm name = N at *
    generalize nm t = T at *
    generalize nm other = O at *
    go_enter Try.func5, Try.ntmps5
    go_wp2_with fail
    refine (HNEW.out).mono ?_
    rintro e W2 ⟨hb2, rfl, h0⟩
    have HB2 := Lib.hid hb2
    have hq : (er != 0) = true := by simpa using h0
    clear hb2 h0
    go_wp2_with (go_at_call 8; refine (HAW.out _).mono ?_; rintro e W ⟨rfl, hb⟩; have HB3 := below_then HB2 hb; clear hb)
    go_ret
    exact ⟨rfl, HB3.out⟩
  | ok vs =>
    have hsrt := (HOKS.out vs hm).1.1
    have HLEN := Lib.hid (HOKS.out vs hm).1.2.1
    have HF1 := Lib.hid (HFIRST.out vs hm)
    rw [hm] at HNEW
    obtain ⟨fc1, fc2, fc3, fc4, fc5⟩ := sets_facts (name := name) (t := t) (other := other) hsrt
    have HGET : Hid (∀ x, x.length ≤ 140737488351232 → ∀ tb vs vv av W, TbX w.heap.size W tb 0 vs vv [] av → Calls Try.prog 15 #[.pointer (some ⟨tb, 0, none⟩), .string (nm x)] W fun e w' => e = .returned (.tuple #[.string (nm ((getL [] 0 vs x).getD [])), .bool (getL [] 0 vs x).isSome]) ∧ Below W.heap.size W w') := Lib.hid (fun x hx tb vs vv av W h => get_any w.heap.size tb 0 vs vv av [] x W h (by omega) (by omega) hx)
    have HSET : Hid (∀ tb vv av W, TbX w.heap.size W tb 0 vs vv [] av → Below w.heap.size w W → Calls Try.prog 17 #[.pointer (some ⟨tb, 0, none⟩), .string (nm name), .string (nm t)] W fun e w' => e = .returned (.int .i64 (codeS (setL vs name t))) ∧ ∃ vv', TbX w.heap.size w' tb 0 (leftS vs (setL vs name t)) vv' [] av ∧ Below w.heap.size w w') := Lib.hid (fun tb vv av W h hb => (set_both w.heap.size tb 0 vs vv av [] name t W h hb.size (by omega) (by omega)).mono (by
      rintro e w' ⟨rfl, vv', h1, h2⟩
      exact ⟨rfl, vv', h1, hb.trans (h2.base hb.size h.hb (fun k hk => (row_lt h.row hk).2))⟩))
    have HUNS : Hid (∀ tb vs2 vv av W, TbX w.heap.size W tb 0 vs2 vv [] av → Below w.heap.size w W → Calls Try.prog 19 #[.pointer (some ⟨tb, 0, none⟩), .string (nm name)] W fun e w' => e = .returned (.tuple #[]) ∧ ∃ vv', TbX w.heap.size w' tb 0 (delV vs2 name) vv' [] av ∧ Below w.heap.size w w') := Lib.hid (fun tb vs2 vv av W h hb => (unset_any w.heap.size tb 0 vs2 vv av [] name W h).mono (by
      rintro e w' ⟨rfl, vv', h1, h2⟩
      exact ⟨rfl, vv', h1, hb.trans (h2.base hb.size h.hb (fun k hk => (row_lt h.row hk).2))⟩))
    have HNM := Lib.hid (fun W => Wd.rname_any (nm name) W (by rw [nm_size]; omega))
    rw [nm_data] at HNM
    have hNO : ((nm name).toList == (nm other).toList) = decide (name = other) := eq_str _ _
    have HGN := Lib.hid (HGET.out name hn)
    have HGO := Lib.hid (HGET.out other ho)
    clear hm HOKS HGET hsrt HFIRST
    obtain ⟨er, her⟩ : ∃ er, codeS (setL vs name t) = er := ⟨_, rfl⟩
    obtain ⟨vs2, hvs2⟩ : ∃ vs2, leftS vs (setL vs name t) = vs2 := ⟨_, rfl⟩
    rw [her] at HSET fc1 fc5
    rw [hvs2] at HSET fc1 fc2 fc3 fc4 fc5
    clear her hvs2
    obtain ⟨isn, hisn⟩ : ∃ b, isName name = b := ⟨_, rfl⟩
    rw [hisn] at HNM fc3
    clear hisn
    have HSH : Hid (∀ tb vs2 vv av W, TbX w.heap.size W tb 0 vs2 vv [] av → Calls Try.prog 14 #[.pointer (some ⟨tb, 0, none⟩)] W fun e w' => ∃ A1 n1 c1 A2 c2, e = .returned (.agg #[.slice A1 n1 c1, .slice A2 0 c2, .int .i64 0]) ∧ VsIn w' (.slice A1 n1 c1) vs2 ∧ ArIn w' (.slice A2 0 c2) [] ∧ Below W.heap.size W w') := Lib.hid (fun tb vs2 vv av W h => (shown_any w.heap.size tb 0 vs2 vv av [] W h).mono (by
      rintro e w' ⟨v1, a1, rfl, h1, h2, hb⟩
      obtain ⟨A1, c1, rfl, _⟩ := row_form h1
      obtain ⟨A2, c2, rfl, _⟩ := row_form h2
      exact ⟨A1, _, c1, A2, c2, rfl, vs_row h1, ArIn.nil _ _ _, hb⟩))
    have HFI : Hid (∀ W, Below w.heap.size w W → Calls Try.prog 18 #[.slice A n c] W fun e w' => ∃ A1 n1 c1, e = .returned (.agg #[.slice A1 n1 c1, .slice none 0 0, .int .i64 0]) ∧ VsIn w' (.slice A1 n1 c1) vs ∧ Below W.heap.size W w') := Lib.hid (fun W hb => (HF1.out W hb).mono (by
      rintro e w' ⟨hb2, vv, rfl, h1, _⟩
      obtain ⟨A1, c1, rfl, _⟩ := h1.form
      exact ⟨A1, _, c1, rfl, h1, hb2⟩))
    have HSM : Hid (∀ A1 n1 c1 A2 c2 A3 n3 c3 W, VsIn W (.slice A1 n1 c1) vs → VsIn W (.slice A3 n3 c3) vs → Calls Try.prog 13 #[.agg #[.slice A1 n1 c1, .slice A2 0 c2, .int .i64 0], .agg #[.slice A3 n3 c3, .slice none 0 0, .int .i64 0]] W fun e w' => e = .returned (.bool true) ∧ Below W.heap.size W w') := Lib.hid (fun A1 n1 c1 A2 c2 A3 n3 c3 W h1 h3 => rsame_any vs [] _ _ _ _ 0 W h1 (ArIn.nil _ _ _) h3 (ArIn.nil _ _ _) (by have := HLEN.out; omega) (by simp))
    obtain ⟨G1, hG1⟩ : ∃ G, getL [] 0 vs other = G := ⟨_, rfl⟩
    obtain ⟨G2, hG2⟩ : ∃ G, getL [] 0 vs2 name = G := ⟨_, rfl⟩
    obtain ⟨G3, hG3⟩ : ∃ G, getL [] 0 vs2 other = G := ⟨_, rfl⟩
    obtain ⟨G4, hG4⟩ : ∃ G, getL [] 0 (delV vs2 name) name = G := ⟨_, rfl⟩
    obtain ⟨G5, hG5⟩ : ∃ G, getL [] 0 (delV vs2 name) other = G := ⟨_, rfl⟩
    have HG1 := Lib.hid (HGO.out); have g1 := fun tb vv av W h => HG1.out tb vs vv av W h
    have g2 := fun tb vv av W h => HGN.out tb vs2 vv av W h
    have g3 := fun tb vv av W h => HGO.out tb vs2 vv av W h
    have g4 := fun tb vv av W h => HGN.out tb (delV vs2 name) vv av W h
    have g5 := fun tb vv av W h => HGO.out tb (delV vs2 name) vv av W h
    simp only [hG1] at g1 fc2 fc4
    simp only [hG2] at g2 fc1
    simp only [hG3] at g3 fc2
    simp only [hG4] at g4 fc3
    simp only [hG5] at g5 fc4
    have K1 := Lib.hid g1
    have K2 := Lib.hid g2
    have K3 := Lib.hid g3
    have K4 := Lib.hid g4
    have K5 := Lib.hid g5
    have HVS : Hid (er ≠ 0 → vs2 = vs) := Lib.hid fc5
    clear g1 g2 g3 g4 g5 hG1 hG2 hG3 hG4 hG5 HG1 HGN HGO HF1 fc5
    have HUN2 := Lib.hid (fun tb vv av W h hb => HUNS.out tb vs2 vv av W h hb)
    clear HUNS
    generalize delV vs2 name = vs3 at *
    by_cases hno : name = other
    · by_cases h0 : er = 0
      · cases isn with
        | true =>
          rw [decide_eq_true hno] at hNO
          subst h0
          have e2 := fc1 rfl
          subst e2
          simp only [Option.getD_some, Option.isSome_some] at K2
          have e4 := fc3 rfl
          subst e4
          simp only [Option.getD_none, Option.isSome_none] at K4
          clear fc1 fc2 fc3 fc4 HVS hno
          clear hn ht ho
          generalize nm name = N at *
          generalize nm t = T at *
          generalize nm other = O at *
          generalize nm [] = E at *
          generalize nm (G1.getD []) = P1 at *; generalize G1.isSome = B1 at *
          generalize nm (G3.getD []) = P3 at *; generalize G3.isSome = B3 at *
          generalize nm (G5.getD []) = P5 at *; generalize G5.isSome = B5 at *
          go_enter Try.func5, Try.ntmps5
          go_wp2_with fail
          refine (HNEW.out).mono ?_
          rintro e W1 ⟨hb1, tb, vv, av, rfl, ht⟩
          have HB1 := Lib.hid hb1; have HT1 := Lib.hid ht; clear hb1 ht
          go_wp2_with fail
          refine (K1.out _ _ _ _ HT1.out).mono ?_
          rintro e W2 ⟨rfl, hb⟩
          have HB2 := below_then HB1 hb; have HT2 := Lib.hid (HT1.out.below hb); clear hb
          go_wp2_with fail
          refine (HSET.out _ _ _ _ HT2.out HB2.out).mono ?_
          rintro e W3 ⟨rfl, vv3, h3, hb⟩
          have HB3 := Lib.hid hb; have HT3 := Lib.hid h3; clear hb h3
          go_wp2_with fail
          refine (K2.out _ _ _ _ HT3.out).mono ?_
          rintro e W4 ⟨rfl, hb⟩
          have HB4 := below_then HB3 hb; have HT4 := Lib.hid (HT3.out.below hb); clear hb
          go_wp2_with fail
          refine (K3.out _ _ _ _ HT4.out).mono ?_
          rintro e W5 ⟨rfl, hb⟩
          have HB5 := below_then HB4 hb; have HT5 := Lib.hid (HT4.out.below hb); clear hb
          go_wp2_with fail
          refine (HUN2.out _ _ _ _ HT5.out HB5.out).mono ?_
          rintro e W9 ⟨rfl, vv9, h9, hb⟩
          have HB9 := Lib.hid hb; have HT9 := Lib.hid h9; clear hb h9
          go_wp2_with fail
          refine (K4.out _ _ _ _ HT9.out).mono ?_
          rintro e W10 ⟨rfl, hb⟩
          have HB10 := below_then HB9 hb; have HT10 := Lib.hid (HT9.out.below hb); clear hb
          go_wp2_with fail
          refine (K5.out _ _ _ _ HT10.out).mono ?_
          rintro e W11 ⟨rfl, hb⟩
          have HB11 := below_then HB10 hb; have HT11 := Lib.hid (HT10.out.below hb); clear hb
          go_wp2_with (first | (go_at_call 20; refine (HNM.out _).mono ?_; rintro e W ⟨rfl, rfl⟩) | (go_at_call 8; refine (HAW.out _).mono ?_; rintro e W ⟨rfl, hb⟩; have HBZ := below_then HB11 hb; clear hb))
          go_ret
          exact ⟨rfl, HBZ.out⟩
        | false =>
          rw [decide_eq_true hno] at hNO
          subst h0
          have e2 := fc1 rfl
          subst e2
          simp only [Option.getD_some, Option.isSome_some] at K2
          clear fc1 fc2 fc3 fc4 HVS hno
          clear hn ht ho
          generalize nm name = N at *
          generalize nm t = T at *
          generalize nm other = O at *
          generalize nm (G1.getD []) = P1 at *; generalize G1.isSome = B1 at *
          generalize nm (G3.getD []) = P3 at *; generalize G3.isSome = B3 at *
          generalize nm (G5.getD []) = P5 at *; generalize G5.isSome = B5 at *
          generalize nm (G4.getD []) = P4 at *
          generalize G4.isSome = B4 at *
          cases B4
          all_goals
            go_enter Try.func5, Try.ntmps5
            go_wp2_with fail
            refine (HNEW.out).mono ?_
            rintro e W1 ⟨hb1, tb, vv, av, rfl, ht⟩
            have HB1 := Lib.hid hb1; have HT1 := Lib.hid ht; clear hb1 ht
            go_wp2_with fail
            refine (K1.out _ _ _ _ HT1.out).mono ?_
            rintro e W2 ⟨rfl, hb⟩
            have HB2 := below_then HB1 hb; have HT2 := Lib.hid (HT1.out.below hb); clear hb
            go_wp2_with fail
            refine (HSET.out _ _ _ _ HT2.out HB2.out).mono ?_
            rintro e W3 ⟨rfl, vv3, h3, hb⟩
            have HB3 := Lib.hid hb; have HT3 := Lib.hid h3; clear hb h3
            go_wp2_with fail
            refine (K2.out _ _ _ _ HT3.out).mono ?_
            rintro e W4 ⟨rfl, hb⟩
            have HB4 := below_then HB3 hb; have HT4 := Lib.hid (HT3.out.below hb); clear hb
            go_wp2_with fail
            refine (K3.out _ _ _ _ HT4.out).mono ?_
            rintro e W5 ⟨rfl, hb⟩
            have HB5 := below_then HB4 hb; have HT5 := Lib.hid (HT4.out.below hb); clear hb
            go_wp2_with fail
            refine (HUN2.out _ _ _ _ HT5.out HB5.out).mono ?_
            rintro e W9 ⟨rfl, vv9, h9, hb⟩
            have HB9 := Lib.hid hb; have HT9 := Lib.hid h9; clear hb h9
            go_wp2_with fail
            refine (K4.out _ _ _ _ HT9.out).mono ?_
            rintro e W10 ⟨rfl, hb⟩
            have HB10 := below_then HB9 hb; have HT10 := Lib.hid (HT9.out.below hb); clear hb
            go_wp2_with fail
            refine (K5.out _ _ _ _ HT10.out).mono ?_
            rintro e W11 ⟨rfl, hb⟩
            have HB11 := below_then HB10 hb; have HT11 := Lib.hid (HT10.out.below hb); clear hb
            go_wp2_with (first | (go_at_call 20; refine (HNM.out _).mono ?_; rintro e W ⟨rfl, rfl⟩) | (go_at_call 8; refine (HAW.out _).mono ?_; rintro e W ⟨rfl, hb⟩; have HBZ := below_then HB11 hb; clear hb))
            go_ret
            exact ⟨rfl, HBZ.out⟩
      · cases isn with
        | true =>
          rw [decide_eq_true hno] at hNO
          have hv2 := HVS.out h0
          subst hv2
          have hq : (er == 0) = false := by simpa using h0
          have hq2 : (er != 0) = true := by simpa using h0
          have e4 := fc3 rfl
          subst e4
          simp only [Option.getD_none, Option.isSome_none] at K4
          clear fc1 fc2 fc3 fc4 HVS hno h0
          clear hn ht ho
          generalize nm name = N at *
          generalize nm t = T at *
          generalize nm other = O at *
          generalize nm [] = E at *
          generalize nm (G1.getD []) = P1 at *; generalize G1.isSome = B1 at *
          generalize nm (G3.getD []) = P3 at *; generalize G3.isSome = B3 at *
          generalize nm (G5.getD []) = P5 at *; generalize G5.isSome = B5 at *
          generalize nm (G2.getD []) = P2 at *; generalize G2.isSome = B2 at *
          go_enter Try.func5, Try.ntmps5
          go_wp2_with fail
          refine (HNEW.out).mono ?_
          rintro e W1 ⟨hb1, tb, vv, av, rfl, ht⟩
          have HB1 := Lib.hid hb1; have HT1 := Lib.hid ht; clear hb1 ht
          go_wp2_with fail
          refine (K1.out _ _ _ _ HT1.out).mono ?_
          rintro e W2 ⟨rfl, hb⟩
          have HB2 := below_then HB1 hb; have HT2 := Lib.hid (HT1.out.below hb); clear hb
          go_wp2_with fail
          refine (HSET.out _ _ _ _ HT2.out HB2.out).mono ?_
          rintro e W3 ⟨rfl, vv3, h3, hb⟩
          have HB3 := Lib.hid hb; have HT3 := Lib.hid h3; clear hb h3
          go_wp2_with fail
          refine (K2.out _ _ _ _ HT3.out).mono ?_
          rintro e W4 ⟨rfl, hb⟩
          have HB4 := below_then HB3 hb; have HT4 := Lib.hid (HT3.out.below hb); clear hb
          go_wp2_with fail
          refine (K3.out _ _ _ _ HT4.out).mono ?_
          rintro e W5 ⟨rfl, hb⟩
          have HB5 := below_then HB4 hb; have HT5 := Lib.hid (HT4.out.below hb); clear hb
          go_wp2_with fail
          refine (HSH.out _ _ _ _ _ HT5.out).mono ?_
          rintro e W6 ⟨A1, n1, c1, A2, c2, rfl, h1, _, hb⟩
          have HB6 := below_then HB5 hb; have HT6 := Lib.hid (HT5.out.below hb); have HV6 := Lib.hid h1; clear hb h1
          go_wp2_with fail
          refine (HFI.out _ HB6.out).mono ?_
          rintro e W7 ⟨A3, n3, c3, rfl, h3, hb⟩
          have HB7 := below_then HB6 hb; have HT7 := Lib.hid (HT6.out.below hb); have HV7 := Lib.hid (HV6.out.below hb); have HW7 := Lib.hid h3; clear hb h3
          go_wp2_with fail
          refine (HSM.out _ _ _ _ _ _ _ _ _ HV7.out HW7.out).mono ?_
          rintro e W8 ⟨rfl, hb⟩
          have HB8 := below_then HB7 hb; have HT8 := Lib.hid (HT7.out.below hb); clear hb
          go_wp2_with fail
          refine (HUN2.out _ _ _ _ HT8.out HB8.out).mono ?_
          rintro e W9 ⟨rfl, vv9, h9, hb⟩
          have HB9 := Lib.hid hb; have HT9 := Lib.hid h9; clear hb h9
          go_wp2_with fail
          refine (K4.out _ _ _ _ HT9.out).mono ?_
          rintro e W10 ⟨rfl, hb⟩
          have HB10 := below_then HB9 hb; have HT10 := Lib.hid (HT9.out.below hb); clear hb
          go_wp2_with fail
          refine (K5.out _ _ _ _ HT10.out).mono ?_
          rintro e W11 ⟨rfl, hb⟩
          have HB11 := below_then HB10 hb; have HT11 := Lib.hid (HT10.out.below hb); clear hb
          go_wp2_with (first | (go_at_call 20; refine (HNM.out _).mono ?_; rintro e W ⟨rfl, rfl⟩) | (go_at_call 8; refine (HAW.out _).mono ?_; rintro e W ⟨rfl, hb⟩; have HBZ := below_then HB11 hb; clear hb))
          go_ret
          exact ⟨rfl, HBZ.out⟩
        | false =>
          rw [decide_eq_true hno] at hNO
          have hv2 := HVS.out h0
          subst hv2
          have hq : (er == 0) = false := by simpa using h0
          have hq2 : (er != 0) = true := by simpa using h0
          clear fc1 fc2 fc3 fc4 HVS hno h0
          clear hn ht ho
          generalize nm name = N at *
          generalize nm t = T at *
          generalize nm other = O at *
          generalize nm (G1.getD []) = P1 at *; generalize G1.isSome = B1 at *
          generalize nm (G3.getD []) = P3 at *; generalize G3.isSome = B3 at *
          generalize nm (G5.getD []) = P5 at *; generalize G5.isSome = B5 at *
          generalize nm (G2.getD []) = P2 at *; generalize G2.isSome = B2 at *
          generalize nm (G4.getD []) = P4 at *
          generalize G4.isSome = B4 at *
          cases B4
          all_goals
            go_enter Try.func5, Try.ntmps5
            go_wp2_with fail
            refine (HNEW.out).mono ?_
            rintro e W1 ⟨hb1, tb, vv, av, rfl, ht⟩
            have HB1 := Lib.hid hb1; have HT1 := Lib.hid ht; clear hb1 ht
            go_wp2_with fail
            refine (K1.out _ _ _ _ HT1.out).mono ?_
            rintro e W2 ⟨rfl, hb⟩
            have HB2 := below_then HB1 hb; have HT2 := Lib.hid (HT1.out.below hb); clear hb
            go_wp2_with fail
            refine (HSET.out _ _ _ _ HT2.out HB2.out).mono ?_
            rintro e W3 ⟨rfl, vv3, h3, hb⟩
            have HB3 := Lib.hid hb; have HT3 := Lib.hid h3; clear hb h3
            go_wp2_with fail
            refine (K2.out _ _ _ _ HT3.out).mono ?_
            rintro e W4 ⟨rfl, hb⟩
            have HB4 := below_then HB3 hb; have HT4 := Lib.hid (HT3.out.below hb); clear hb
            go_wp2_with fail
            refine (K3.out _ _ _ _ HT4.out).mono ?_
            rintro e W5 ⟨rfl, hb⟩
            have HB5 := below_then HB4 hb; have HT5 := Lib.hid (HT4.out.below hb); clear hb
            go_wp2_with fail
            refine (HSH.out _ _ _ _ _ HT5.out).mono ?_
            rintro e W6 ⟨A1, n1, c1, A2, c2, rfl, h1, _, hb⟩
            have HB6 := below_then HB5 hb; have HT6 := Lib.hid (HT5.out.below hb); have HV6 := Lib.hid h1; clear hb h1
            go_wp2_with fail
            refine (HFI.out _ HB6.out).mono ?_
            rintro e W7 ⟨A3, n3, c3, rfl, h3, hb⟩
            have HB7 := below_then HB6 hb; have HT7 := Lib.hid (HT6.out.below hb); have HV7 := Lib.hid (HV6.out.below hb); have HW7 := Lib.hid h3; clear hb h3
            go_wp2_with fail
            refine (HSM.out _ _ _ _ _ _ _ _ _ HV7.out HW7.out).mono ?_
            rintro e W8 ⟨rfl, hb⟩
            have HB8 := below_then HB7 hb; have HT8 := Lib.hid (HT7.out.below hb); clear hb
            go_wp2_with fail
            refine (HUN2.out _ _ _ _ HT8.out HB8.out).mono ?_
            rintro e W9 ⟨rfl, vv9, h9, hb⟩
            have HB9 := Lib.hid hb; have HT9 := Lib.hid h9; clear hb h9
            go_wp2_with fail
            refine (K4.out _ _ _ _ HT9.out).mono ?_
            rintro e W10 ⟨rfl, hb⟩
            have HB10 := below_then HB9 hb; have HT10 := Lib.hid (HT9.out.below hb); clear hb
            go_wp2_with fail
            refine (K5.out _ _ _ _ HT10.out).mono ?_
            rintro e W11 ⟨rfl, hb⟩
            have HB11 := below_then HB10 hb; have HT11 := Lib.hid (HT10.out.below hb); clear hb
            go_wp2_with (first | (go_at_call 20; refine (HNM.out _).mono ?_; rintro e W ⟨rfl, rfl⟩) | (go_at_call 8; refine (HAW.out _).mono ?_; rintro e W ⟨rfl, hb⟩; have HBZ := below_then HB11 hb; clear hb))
            go_ret
            exact ⟨rfl, HBZ.out⟩
    · by_cases h0 : er = 0
      · cases isn with
        | true =>
          rw [decide_eq_false hno] at hNO
          have e3 := fc2 hno
          subst e3
          have e5 := fc4 hno
          subst e5
          subst h0
          have e2 := fc1 rfl
          subst e2
          simp only [Option.getD_some, Option.isSome_some] at K2
          have e4 := fc3 rfl
          subst e4
          simp only [Option.getD_none, Option.isSome_none] at K4
          clear fc1 fc2 fc3 fc4 HVS hno
          clear hn ht ho
          generalize nm name = N at *
          generalize nm t = T at *
          generalize nm other = O at *
          generalize nm [] = E at *
          all_goals (first | (generalize nm (G1.getD []) = P1 at *; generalize G1.isSome = B1 at *) | skip)
          all_goals (first | (generalize nm (G3.getD []) = P3 at *; generalize G3.isSome = B3 at *) | skip)
          all_goals (first | (generalize nm (G5.getD []) = P5 at *; generalize G5.isSome = B5 at *) | skip)
          go_enter Try.func5, Try.ntmps5
          go_wp2_with fail
          refine (HNEW.out).mono ?_
          rintro e W1 ⟨hb1, tb, vv, av, rfl, ht⟩
          have HB1 := Lib.hid hb1; have HT1 := Lib.hid ht; clear hb1 ht
          go_wp2_with fail
          refine (K1.out _ _ _ _ HT1.out).mono ?_
          rintro e W2 ⟨rfl, hb⟩
          have HB2 := below_then HB1 hb; have HT2 := Lib.hid (HT1.out.below hb); clear hb
          go_wp2_with fail
          refine (HSET.out _ _ _ _ HT2.out HB2.out).mono ?_
          rintro e W3 ⟨rfl, vv3, h3, hb⟩
          have HB3 := Lib.hid hb; have HT3 := Lib.hid h3; clear hb h3
          go_wp2_with fail
          refine (K2.out _ _ _ _ HT3.out).mono ?_
          rintro e W4 ⟨rfl, hb⟩
          have HB4 := below_then HB3 hb; have HT4 := Lib.hid (HT3.out.below hb); clear hb
          go_wp2_with fail
          refine (K3.out _ _ _ _ HT4.out).mono ?_
          rintro e W5 ⟨rfl, hb⟩
          have HB5 := below_then HB4 hb; have HT5 := Lib.hid (HT4.out.below hb); clear hb
          go_wp2_with fail
          refine (HUN2.out _ _ _ _ HT5.out HB5.out).mono ?_
          rintro e W9 ⟨rfl, vv9, h9, hb⟩
          have HB9 := Lib.hid hb; have HT9 := Lib.hid h9; clear hb h9
          go_wp2_with fail
          refine (K4.out _ _ _ _ HT9.out).mono ?_
          rintro e W10 ⟨rfl, hb⟩
          have HB10 := below_then HB9 hb; have HT10 := Lib.hid (HT9.out.below hb); clear hb
          go_wp2_with fail
          refine (K5.out _ _ _ _ HT10.out).mono ?_
          rintro e W11 ⟨rfl, hb⟩
          have HB11 := below_then HB10 hb; have HT11 := Lib.hid (HT10.out.below hb); clear hb
          go_wp2_with (first | (go_at_call 20; refine (HNM.out _).mono ?_; rintro e W ⟨rfl, rfl⟩) | (go_at_call 8; refine (HAW.out _).mono ?_; rintro e W ⟨rfl, hb⟩; have HBZ := below_then HB11 hb; clear hb))
          go_ret
          exact ⟨rfl, HBZ.out⟩
        | false =>
          rw [decide_eq_false hno] at hNO
          have e3 := fc2 hno
          subst e3
          have e5 := fc4 hno
          subst e5
          subst h0
          have e2 := fc1 rfl
          subst e2
          simp only [Option.getD_some, Option.isSome_some] at K2
          clear fc1 fc2 fc3 fc4 HVS hno
          clear hn ht ho
          generalize nm name = N at *
          generalize nm t = T at *
          generalize nm other = O at *
          all_goals (first | (generalize nm (G1.getD []) = P1 at *; generalize G1.isSome = B1 at *) | skip)
          all_goals (first | (generalize nm (G3.getD []) = P3 at *; generalize G3.isSome = B3 at *) | skip)
          all_goals (first | (generalize nm (G5.getD []) = P5 at *; generalize G5.isSome = B5 at *) | skip)
          generalize nm (G4.getD []) = P4 at *
          generalize G4.isSome = B4 at *
          cases B4
          all_goals
            go_enter Try.func5, Try.ntmps5
            go_wp2_with fail
            refine (HNEW.out).mono ?_
            rintro e W1 ⟨hb1, tb, vv, av, rfl, ht⟩
            have HB1 := Lib.hid hb1; have HT1 := Lib.hid ht; clear hb1 ht
            go_wp2_with fail
            refine (K1.out _ _ _ _ HT1.out).mono ?_
            rintro e W2 ⟨rfl, hb⟩
            have HB2 := below_then HB1 hb; have HT2 := Lib.hid (HT1.out.below hb); clear hb
            go_wp2_with fail
            refine (HSET.out _ _ _ _ HT2.out HB2.out).mono ?_
            rintro e W3 ⟨rfl, vv3, h3, hb⟩
            have HB3 := Lib.hid hb; have HT3 := Lib.hid h3; clear hb h3
            go_wp2_with fail
            refine (K2.out _ _ _ _ HT3.out).mono ?_
            rintro e W4 ⟨rfl, hb⟩
            have HB4 := below_then HB3 hb; have HT4 := Lib.hid (HT3.out.below hb); clear hb
            go_wp2_with fail
            refine (K3.out _ _ _ _ HT4.out).mono ?_
            rintro e W5 ⟨rfl, hb⟩
            have HB5 := below_then HB4 hb; have HT5 := Lib.hid (HT4.out.below hb); clear hb
            go_wp2_with fail
            refine (HUN2.out _ _ _ _ HT5.out HB5.out).mono ?_
            rintro e W9 ⟨rfl, vv9, h9, hb⟩
            have HB9 := Lib.hid hb; have HT9 := Lib.hid h9; clear hb h9
            go_wp2_with fail
            refine (K4.out _ _ _ _ HT9.out).mono ?_
            rintro e W10 ⟨rfl, hb⟩
            have HB10 := below_then HB9 hb; have HT10 := Lib.hid (HT9.out.below hb); clear hb
            go_wp2_with fail
            refine (K5.out _ _ _ _ HT10.out).mono ?_
            rintro e W11 ⟨rfl, hb⟩
            have HB11 := below_then HB10 hb; have HT11 := Lib.hid (HT10.out.below hb); clear hb
            go_wp2_with (first | (go_at_call 20; refine (HNM.out _).mono ?_; rintro e W ⟨rfl, rfl⟩) | (go_at_call 8; refine (HAW.out _).mono ?_; rintro e W ⟨rfl, hb⟩; have HBZ := below_then HB11 hb; clear hb))
            go_ret
            exact ⟨rfl, HBZ.out⟩
      · cases isn with
        | true =>
          rw [decide_eq_false hno] at hNO
          have e3 := fc2 hno
          subst e3
          have e5 := fc4 hno
          subst e5
          have hv2 := HVS.out h0
          subst hv2
          have hq : (er == 0) = false := by simpa using h0
          have hq2 : (er != 0) = true := by simpa using h0
          have e4 := fc3 rfl
          subst e4
          simp only [Option.getD_none, Option.isSome_none] at K4
          clear fc1 fc2 fc3 fc4 HVS hno h0
          clear hn ht ho
          generalize nm name = N at *
          generalize nm t = T at *
          generalize nm other = O at *
          generalize nm [] = E at *
          all_goals (first | (generalize nm (G1.getD []) = P1 at *; generalize G1.isSome = B1 at *) | skip)
          all_goals (first | (generalize nm (G3.getD []) = P3 at *; generalize G3.isSome = B3 at *) | skip)
          all_goals (first | (generalize nm (G5.getD []) = P5 at *; generalize G5.isSome = B5 at *) | skip)
          generalize nm (G2.getD []) = P2 at *; generalize G2.isSome = B2 at *
          go_enter Try.func5, Try.ntmps5
          go_wp2_with fail
          refine (HNEW.out).mono ?_
          rintro e W1 ⟨hb1, tb, vv, av, rfl, ht⟩
          have HB1 := Lib.hid hb1; have HT1 := Lib.hid ht; clear hb1 ht
          go_wp2_with fail
          refine (K1.out _ _ _ _ HT1.out).mono ?_
          rintro e W2 ⟨rfl, hb⟩
          have HB2 := below_then HB1 hb; have HT2 := Lib.hid (HT1.out.below hb); clear hb
          go_wp2_with fail
          refine (HSET.out _ _ _ _ HT2.out HB2.out).mono ?_
          rintro e W3 ⟨rfl, vv3, h3, hb⟩
          have HB3 := Lib.hid hb; have HT3 := Lib.hid h3; clear hb h3
          go_wp2_with fail
          refine (K2.out _ _ _ _ HT3.out).mono ?_
          rintro e W4 ⟨rfl, hb⟩
          have HB4 := below_then HB3 hb; have HT4 := Lib.hid (HT3.out.below hb); clear hb
          go_wp2_with fail
          refine (K3.out _ _ _ _ HT4.out).mono ?_
          rintro e W5 ⟨rfl, hb⟩
          have HB5 := below_then HB4 hb; have HT5 := Lib.hid (HT4.out.below hb); clear hb
          go_wp2_with fail
          refine (HSH.out _ _ _ _ _ HT5.out).mono ?_
          rintro e W6 ⟨A1, n1, c1, A2, c2, rfl, h1, _, hb⟩
          have HB6 := below_then HB5 hb; have HT6 := Lib.hid (HT5.out.below hb); have HV6 := Lib.hid h1; clear hb h1
          go_wp2_with fail
          refine (HFI.out _ HB6.out).mono ?_
          rintro e W7 ⟨A3, n3, c3, rfl, h3, hb⟩
          have HB7 := below_then HB6 hb; have HT7 := Lib.hid (HT6.out.below hb); have HV7 := Lib.hid (HV6.out.below hb); have HW7 := Lib.hid h3; clear hb h3
          go_wp2_with fail
          refine (HSM.out _ _ _ _ _ _ _ _ _ HV7.out HW7.out).mono ?_
          rintro e W8 ⟨rfl, hb⟩
          have HB8 := below_then HB7 hb; have HT8 := Lib.hid (HT7.out.below hb); clear hb
          go_wp2_with fail
          refine (HUN2.out _ _ _ _ HT8.out HB8.out).mono ?_
          rintro e W9 ⟨rfl, vv9, h9, hb⟩
          have HB9 := Lib.hid hb; have HT9 := Lib.hid h9; clear hb h9
          go_wp2_with fail
          refine (K4.out _ _ _ _ HT9.out).mono ?_
          rintro e W10 ⟨rfl, hb⟩
          have HB10 := below_then HB9 hb; have HT10 := Lib.hid (HT9.out.below hb); clear hb
          go_wp2_with fail
          refine (K5.out _ _ _ _ HT10.out).mono ?_
          rintro e W11 ⟨rfl, hb⟩
          have HB11 := below_then HB10 hb; have HT11 := Lib.hid (HT10.out.below hb); clear hb
          go_wp2_with (first | (go_at_call 20; refine (HNM.out _).mono ?_; rintro e W ⟨rfl, rfl⟩) | (go_at_call 8; refine (HAW.out _).mono ?_; rintro e W ⟨rfl, hb⟩; have HBZ := below_then HB11 hb; clear hb))
          go_ret
          exact ⟨rfl, HBZ.out⟩
        | false =>
          rw [decide_eq_false hno] at hNO
          have e3 := fc2 hno
          subst e3
          have e5 := fc4 hno
          subst e5
          have hv2 := HVS.out h0
          subst hv2
          have hq : (er == 0) = false := by simpa using h0
          have hq2 : (er != 0) = true := by simpa using h0
          clear fc1 fc2 fc3 fc4 HVS hno h0
          clear hn ht ho
          generalize nm name = N at *
          generalize nm t = T at *
          generalize nm other = O at *
          all_goals (first | (generalize nm (G1.getD []) = P1 at *; generalize G1.isSome = B1 at *) | skip)
          all_goals (first | (generalize nm (G3.getD []) = P3 at *; generalize G3.isSome = B3 at *) | skip)
          all_goals (first | (generalize nm (G5.getD []) = P5 at *; generalize G5.isSome = B5 at *) | skip)
          generalize nm (G2.getD []) = P2 at *; generalize G2.isSome = B2 at *
          generalize nm (G4.getD []) = P4 at *
          generalize G4.isSome = B4 at *
          cases B4
          all_goals
            go_enter Try.func5, Try.ntmps5
            go_wp2_with fail
            refine (HNEW.out).mono ?_
            rintro e W1 ⟨hb1, tb, vv, av, rfl, ht⟩
            have HB1 := Lib.hid hb1; have HT1 := Lib.hid ht; clear hb1 ht
            go_wp2_with fail
            refine (K1.out _ _ _ _ HT1.out).mono ?_
            rintro e W2 ⟨rfl, hb⟩
            have HB2 := below_then HB1 hb; have HT2 := Lib.hid (HT1.out.below hb); clear hb
            go_wp2_with fail
            refine (HSET.out _ _ _ _ HT2.out HB2.out).mono ?_
            rintro e W3 ⟨rfl, vv3, h3, hb⟩
            have HB3 := Lib.hid hb; have HT3 := Lib.hid h3; clear hb h3
            go_wp2_with fail
            refine (K2.out _ _ _ _ HT3.out).mono ?_
            rintro e W4 ⟨rfl, hb⟩
            have HB4 := below_then HB3 hb; have HT4 := Lib.hid (HT3.out.below hb); clear hb
            go_wp2_with fail
            refine (K3.out _ _ _ _ HT4.out).mono ?_
            rintro e W5 ⟨rfl, hb⟩
            have HB5 := below_then HB4 hb; have HT5 := Lib.hid (HT4.out.below hb); clear hb
            go_wp2_with fail
            refine (HSH.out _ _ _ _ _ HT5.out).mono ?_
            rintro e W6 ⟨A1, n1, c1, A2, c2, rfl, h1, _, hb⟩
            have HB6 := below_then HB5 hb; have HT6 := Lib.hid (HT5.out.below hb); have HV6 := Lib.hid h1; clear hb h1
            go_wp2_with fail
            refine (HFI.out _ HB6.out).mono ?_
            rintro e W7 ⟨A3, n3, c3, rfl, h3, hb⟩
            have HB7 := below_then HB6 hb; have HT7 := Lib.hid (HT6.out.below hb); have HV7 := Lib.hid (HV6.out.below hb); have HW7 := Lib.hid h3; clear hb h3
            go_wp2_with fail
            refine (HSM.out _ _ _ _ _ _ _ _ _ HV7.out HW7.out).mono ?_
            rintro e W8 ⟨rfl, hb⟩
            have HB8 := below_then HB7 hb; have HT8 := Lib.hid (HT7.out.below hb); clear hb
            go_wp2_with fail
            refine (HUN2.out _ _ _ _ HT8.out HB8.out).mono ?_
            rintro e W9 ⟨rfl, vv9, h9, hb⟩
            have HB9 := Lib.hid hb; have HT9 := Lib.hid h9; clear hb h9
            go_wp2_with fail
            refine (K4.out _ _ _ _ HT9.out).mono ?_
            rintro e W10 ⟨rfl, hb⟩
            have HB10 := below_then HB9 hb; have HT10 := Lib.hid (HT9.out.below hb); clear hb
            go_wp2_with fail
            refine (K5.out _ _ _ _ HT10.out).mono ?_
            rintro e W11 ⟨rfl, hb⟩
            have HB11 := below_then HB10 hb; have HT11 := Lib.hid (HT10.out.below hb); clear hb
            go_wp2_with (first | (go_at_call 20; refine (HNM.out _).mono ?_; rintro e W ⟨rfl, rfl⟩) | (go_at_call 8; refine (HAW.out _).mono ?_; rintro e W ⟨rfl, hb⟩; have HBZ := below_then HB11 hb; clear hb))
            go_ret
            exact ⟨rfl, HBZ.out⟩
theorem sets_any (l : Vs) (v : Value) (N T O : ByteArray) (w : World) (hv : VsX w v l) (z1 : N.size ≤ maxLen) (y1 : N.data.toList.length ≤ 140737488351232) (z2 : T.size ≤ maxLen) (y2 : T.data.toList.length ≤ 140737488351232) (z3 : O.size ≤ maxLen) (y3 : O.data.toList.length ≤ 140737488351232) :
    Calls Try.prog 5 #[v, .string N, .string T, .string O] w fun e w' => e = .returned (.bool true) ∧ Below w.heap.size w w' := by
  have := sets_nm l v N.data.toList T.data.toList O.data.toList w hv y1 y2 y3
  rw [nm_of, nm_of, nm_of] at this
  exact this
end Go.Proofs.Ytdegkfnlafgheaa.Vr
