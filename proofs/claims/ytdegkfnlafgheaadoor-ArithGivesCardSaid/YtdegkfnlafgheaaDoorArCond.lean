/- DERIVED. The walk over a condition. -/
import Derived.Test.YtdegkfnlafgheaaDoorArPairs
namespace Go.Proofs.YtdegkfnlafgheaaDoor.Ar
open Go.RowKit
open PathM WdM ArM
open Go.Proofs.YtdegkfnlafgheaaDoor.Wd
set_option linter.unusedVariables false

theorem RdPost.then {rb dp : Nat} {m m' : Rr} {w w1 w2 : World} {e : Ending} (hk : Kept (· = rb) w w1) (h : RdPost rb dp m w1 e w2) (hm : m = m') : RdPost rb dp m' w e w2 := by
  subst hm
  exact ⟨hk.trans h.1, h.2⟩
theorem RdPost.ok {rb dp : Nat} {t : Tm} {r : List Tok} {w w2 : World} {e : Ending} (h : RdPost rb dp (.ok (t, r)) w e w2) : e = .returned (.tuple #[tmV t, .int .i64 0]) ∧ Kept (· = rb) w w2 ∧ RdA w2 rb r dp := ⟨h.2.1, h.1, h.2.2⟩
theorem RdPost.er {rb dp : Nat} {x : Int} {w w2 : World} {e : Ending} (h : RdPost rb dp (.error x) w e w2) : ∃ v r, e = .returned (.tuple #[v, .int .i64 x]) ∧ Kept (· = rb) w w2 ∧ RdA w2 rb r dp ∧ x ≠ 0 ∧ IfV v := by
  obtain ⟨v, r, h1, h2, h3, h4⟩ := h.2
  exact ⟨v, r, h1, h.1, h2, h3, h4⟩
/-- Taking a sign, as the model reads. -/
theorem take_sg (s : Bs) (hs : s ≠ [110, 117, 109, 98, 101, 114] ∧ s ≠ [110, 97, 109, 101]) (l : List Tok) : takeL s l = match l with
    | .sg s2 :: r => if s2 = s then some r else none
    | _ => none := by
  unfold takeL
  cases l with
  | nil => rfl
  | cons t r => cases t with
    | sg s2 => rfl
    | num x n => exact if_neg (fun e => hs.1 e.symm)
    | nam x => exact if_neg (fun e => hs.2 e.symm)
theorem take_yes {s : Bs} {l r : List Tok} {rb dp : Nat} {w : World} (h : RdA w rb l dp) (ht : takeL s l = some r) :
    Calls Tryd.prog 43 #[.pointer (some ⟨rb, 0, none⟩), .string (nm s)] w fun e w' => e = .returned (.int .i64 0) ∧ Kept (· = rb) w w' ∧ RdA w' rb r dp := by
  refine (take_any s l rb dp w h).mono ?_
  rintro e w' ⟨hk, hm⟩
  rw [ht] at hm
  exact ⟨hm.1, hk, hm.2⟩
theorem take_no {s : Bs} {l : List Tok} {rb dp : Nat} {w : World} (h : RdA w rb l dp) (ht : takeL s l = none) :
    Calls Tryd.prog 43 #[.pointer (some ⟨rb, 0, none⟩), .string (nm s)] w fun e w' => e = .returned (.int .i64 61) ∧ w' = w := by
  refine (take_any s l rb dp w h).mono ?_
  rintro e w' ⟨hk, hm⟩
  rw [ht] at hm
  exact hm
theorem take_len {s : Bs} {l r : List Tok} (h : takeL s l = some r) : r.length + 1 = l.length := by
  cases l with
  | nil => cases h
  | cons t l =>
    unfold takeL at h
    simp only at h
    split at h
    · simp only [Option.some.injEq] at h; rw [← h]; rfl
    · cases h
theorem tmV_iface (t : Tm) : ∃ T x, tmV t = .iface T x := by cases t <;> exact ⟨_, _, rfl⟩
theorem condF_eq (d : Rd) (dp : Nat) (l : List Tok) : condF d dp l = match pairsK (leadF d dp) 10 l with
  | .error e => .error e
  | .ok (t, r) => match takeL [63] r with
    | none => .ok (t, r)
    | some r2 => match d.all dp r2 with
      | .error e => .error e
      | .ok (y, r3) => match takeL [58] r3 with
        | none => .error 61
        | some r4 => match d.cond dp r4 with
          | .error e => .error e
          | .ok (z, r5) => .ok (.choice t y z, r5) := by
  unfold condF
  cases pairsK (leadF d dp) 10 l with
  | error e => rfl
  | ok p =>
    obtain ⟨t, r⟩ := p
    simp only
    rw [take_sg [63] (by decide)]
    cases r with
    | nil => rfl
    | cons u r => cases u with
      | num x n => rfl
      | nam x => rfl
      | sg s =>
        simp only
        by_cases hs : s = [63]
        · rw [if_pos hs, if_pos hs]
          simp only
          cases d.all dp r with
          | error e => rfl
          | ok p =>
            obtain ⟨y, r3⟩ := p
            simp only
            rw [take_sg [58] (by decide)]
            cases r3 with
            | nil => rfl
            | cons u r => cases u with
              | num x n => rfl
              | nam x => rfl
              | sg s =>
                simp only
                by_cases hs : s = [58]
                · rw [if_pos hs, if_pos hs]; rfl
                · rw [if_neg hs, if_neg hs]
        · rw [if_neg hs, if_neg hs]
set_option maxRecDepth 100000 in
set_option maxHeartbeats 3200000 in
theorem cond_any (d : Rd) (rb dp m : Nat) (hP : Ok1 42 rb dp (m + 1) #[.int .i64 ((1 : Nat) : Int)] (pairsK (leadF d dp) 10)) (hA : Ok1 21 rb dp m #[] (d.all dp)) (hC : Ok1 32 rb dp m #[] (d.cond dp)) (hlp : Lss (pairsK (leadF d dp) 10)) (hla : Lss (d.all dp)) :
    Ok1 32 rb dp (m + 1) #[] (condF d dp) := by
  intro l w hl h
  rw [condF_eq]
  have hp : Calls Tryd.prog 42 #[.pointer (some ⟨rb, 0, none⟩), .int .i64 1] w _ := hP l w hl h
  show Calls _ _ #[.pointer (some ⟨rb, 0, none⟩)] _ _
  cases hM : pairsK (leadF d dp) 10 l with
  | error x =>
    rw [hM] at hp
    simp only
    have HP := Lib.hid hp
    clear hP hA hC hlp hla h hp hM
    go_enter Tryd.func32, Tryd.ntmps32
    go_wp2_with (go_at_call 42; refine HP.out.mono ?_; rintro e w1 hq; obtain ⟨v, r, rfl, _, _, hx, _⟩ := hq.er; have HQ := Lib.hid hq; clear hq)
    go_ret2
    exact HQ.out
  | ok p =>
    obtain ⟨t, r⟩ := p
    rw [hM] at hp
    have hl1 := hlp _ _ _ hM
    simp only
    have HP := Lib.hid hp
    cases hT : takeL [63] r with
    | none =>
      simp only
      have HT := Lib.hid hT
      clear hP hA hC hlp hla h hp hM hT
      generalize htv : tmV t = tv at *
      have HF : Hid (∀ W, Kept (· = rb) w W → RdA W rb r dp → RdPost rb dp (.ok (t, r)) w (.returned (.tuple #[tv, .int .i64 0])) W) := Lib.hid (fun W h1 h2 => RdPost.yes rfl htv.symm h1 h2)
      have HTV := Lib.hid htv
      clear htv
      go_enter Tryd.func32, Tryd.ntmps32
      go_wp2_with (first | (go_at_call 42; refine HP.out.mono ?_; rintro e w1 hq; obtain ⟨rfl, hk1, hr1⟩ := hq.ok; rw [HTV.out]; have HK := Lib.hid hk1; have HR := Lib.hid hr1; clear hq hk1 hr1) | (go_at_call 43; refine (take_no HR.out HT.out).mono ?_; rintro e w2 ⟨rfl, rfl⟩))
      go_ret2
      exact HF.out _ HK.out HR.out
    | some r2 =>
      simp only
      have hl2 := take_len hT
      have HT := Lib.hid hT
      have HA : Hid (∀ W, RdA W rb r2 dp → Calls Tryd.prog 21 #[.pointer (some ⟨rb, 0, none⟩)] W (RdPost rb dp (d.all dp r2) W)) := Lib.hid (fun W hW => hA r2 W (by omega) hW)
      obtain ⟨T1, z1, htv⟩ := tmV_iface t
      have HTV := Lib.hid htv
      clear hP hA h hp hM hT hlp
      cases hM2 : d.all dp r2 with
      | error x =>
        rw [hM2] at HA
        simp only
        clear hC hla hM2 hl1 hl2 hl
        have HF : Hid (∀ W r', x ≠ 0 → Kept (· = rb) w W → RdA W rb r' dp → RdPost rb dp (.error x) w (.returned (.tuple #[.nilIface, .int .i64 x])) W) := Lib.hid (fun W r' hx h1 h2 => RdPost.no rfl hx (.inl rfl) h1 h2)
        clear htv
        go_enter Tryd.func32, Tryd.ntmps32
        go_wp2_with (first | (go_at_call 42; refine HP.out.mono ?_; rintro e w1 hq; obtain ⟨rfl, hk1, hr1⟩ := hq.ok; rw [HTV.out]; have HK := Lib.hid hk1; have HR := Lib.hid hr1; clear hq hk1 hr1) | (go_at_call 43; refine (take_yes HR.out HT.out).mono ?_; rintro e w2 ⟨rfl, hk1, hr1⟩; replace HK := Lib.hid (HK.out.trans hk1); replace HR := Lib.hid hr1; clear hk1 hr1) | (go_at_call 21; refine (HA.out _ HR.out).mono ?_; rintro e w3 hq; obtain ⟨v, r', rfl, hk1, hr1, hx, _⟩ := hq.er; replace HK := Lib.hid (HK.out.trans hk1); replace HR := Lib.hid hr1; have HX := Lib.hid hx; clear hq hk1 hr1))
        all_goals go_ret2
        exact HF.out _ _ HX.out HK.out HR.out
      | ok p =>
        obtain ⟨y, r3⟩ := p
        rw [hM2] at HA
        have hl3 := hla _ _ _ hM2
        simp only
        obtain ⟨T2, z2, hyv⟩ := tmV_iface y
        have HYV := Lib.hid hyv
        cases hT2 : takeL [58] r3 with
        | none =>
          simp only
          have HT2 := Lib.hid hT2
          have HF : Hid (∀ W r', Kept (· = rb) w W → RdA W rb r' dp → RdPost rb dp (.error 61) w (.returned (.tuple #[.nilIface, .int .i64 61])) W) := Lib.hid (fun W r' h1 h2 => RdPost.no rfl (by decide) (.inl rfl) h1 h2)
          clear hC hla hM2 hl1 hl2 hl hl3 htv hyv hT2
          go_enter Tryd.func32, Tryd.ntmps32
          go_wp2_with (first | (go_at_call 42; refine HP.out.mono ?_; rintro e w1 hq; obtain ⟨rfl, hk1, hr1⟩ := hq.ok; rw [HTV.out]; have HK := Lib.hid hk1; have HR := Lib.hid hr1; clear hq hk1 hr1) | (go_at_call 43; refine (take_yes HR.out HT.out).mono ?_; rintro e w2 ⟨rfl, hk1, hr1⟩; replace HK := Lib.hid (HK.out.trans hk1); replace HR := Lib.hid hr1; clear hk1 hr1) | (go_at_call 21; refine (HA.out _ HR.out).mono ?_; rintro e w3 hq; obtain ⟨rfl, hk1, hr1⟩ := hq.ok; rw [HYV.out]; replace HK := Lib.hid (HK.out.trans hk1); replace HR := Lib.hid hr1; clear hq hk1 hr1) | (go_at_call 43; refine (take_no HR.out HT2.out).mono ?_; rintro e w4 ⟨rfl, rfl⟩))
          all_goals go_ret2
          exact HF.out _ _ HK.out HR.out
        | some r4 =>
          simp only
          have hl4 := take_len hT2
          have HT2 := Lib.hid hT2
          have HC : Hid (∀ W, RdA W rb r4 dp → Calls Tryd.prog 32 #[.pointer (some ⟨rb, 0, none⟩)] W (RdPost rb dp (d.cond dp r4) W)) := Lib.hid (fun W hW => hC r4 W (by omega) hW)
          cases hM3 : d.cond dp r4 with
          | error x =>
            rw [hM3] at HC
            simp only
            have HF : Hid (∀ W r' T v, x ≠ 0 → Kept (· = rb) w W → RdA W rb r' dp → RdPost rb dp (.error x) w (.returned (.tuple #[.iface T v, .int .i64 x])) W) := Lib.hid (fun W r' T v hx h1 h2 => RdPost.no rfl hx (.inr ⟨_, _, rfl⟩) h1 h2)
            clear hC hla hM2 hM3 hl1 hl2 hl hl3 hl4 htv hyv hT2
            go_enter Tryd.func32, Tryd.ntmps32
            go_wp2_with (first | (go_at_call 42; refine HP.out.mono ?_; rintro e w1 hq; obtain ⟨rfl, hk1, hr1⟩ := hq.ok; rw [HTV.out]; have HK := Lib.hid hk1; have HR := Lib.hid hr1; clear hq hk1 hr1) | (go_at_call 43; refine (take_yes HR.out HT.out).mono ?_; rintro e w2 ⟨rfl, hk1, hr1⟩; replace HK := Lib.hid (HK.out.trans hk1); replace HR := Lib.hid hr1; clear hk1 hr1) | (go_at_call 21; refine (HA.out _ HR.out).mono ?_; rintro e w3 hq; obtain ⟨rfl, hk1, hr1⟩ := hq.ok; rw [HYV.out]; replace HK := Lib.hid (HK.out.trans hk1); replace HR := Lib.hid hr1; clear hq hk1 hr1) | (go_at_call 43; refine (take_yes HR.out HT2.out).mono ?_; rintro e w4 ⟨rfl, hk1, hr1⟩; replace HK := Lib.hid (HK.out.trans hk1); replace HR := Lib.hid hr1; clear hk1 hr1) | (go_at_call 32; refine (HC.out _ HR.out).mono ?_; rintro e w5 hq; obtain ⟨v, r', rfl, hk1, hr1, hx, hi⟩ := hq.er; replace HK := Lib.hid (HK.out.trans hk1); replace HR := Lib.hid hr1; have HX := Lib.hid hx; clear hq hk1 hr1; rcases hi with rfl | ⟨T3, z3, rfl⟩))
            all_goals go_ret2
            all_goals exact HF.out _ _ _ _ HX.out HK.out HR.out
          | ok p =>
            obtain ⟨z, r5⟩ := p
            rw [hM3] at HC
            simp only
            obtain ⟨T3, z3, hzv⟩ := tmV_iface z
            have HZV := Lib.hid hzv
            have HF : Hid (∀ W, Kept (· = rb) w W → RdA W rb r5 dp → RdPost rb dp (.ok (.choice t y z, r5)) w (.returned (.tuple #[.iface 90 (.agg #[.iface T1 z1, .iface T2 z2, .iface T3 z3]), .int .i64 0])) W) := Lib.hid (fun W h1 h2 => RdPost.yes rfl (by rw [tmV, htv, hyv, hzv]) h1 h2)
            clear hC hla hM2 hM3 hl1 hl2 hl hl3 hl4 htv hyv hzv hT2
            go_enter Tryd.func32, Tryd.ntmps32
            go_wp2_with (first | (go_at_call 42; refine HP.out.mono ?_; rintro e w1 hq; obtain ⟨rfl, hk1, hr1⟩ := hq.ok; rw [HTV.out]; have HK := Lib.hid hk1; have HR := Lib.hid hr1; clear hq hk1 hr1) | (go_at_call 43; refine (take_yes HR.out HT.out).mono ?_; rintro e w2 ⟨rfl, hk1, hr1⟩; replace HK := Lib.hid (HK.out.trans hk1); replace HR := Lib.hid hr1; clear hk1 hr1) | (go_at_call 21; refine (HA.out _ HR.out).mono ?_; rintro e w3 hq; obtain ⟨rfl, hk1, hr1⟩ := hq.ok; rw [HYV.out]; replace HK := Lib.hid (HK.out.trans hk1); replace HR := Lib.hid hr1; clear hq hk1 hr1) | (go_at_call 43; refine (take_yes HR.out HT2.out).mono ?_; rintro e w4 ⟨rfl, hk1, hr1⟩; replace HK := Lib.hid (HK.out.trans hk1); replace HR := Lib.hid hr1; clear hk1 hr1) | (go_at_call 32; refine (HC.out _ HR.out).mono ?_; rintro e w5 hq; obtain ⟨rfl, hk1, hr1⟩ := hq.ok; rw [HZV.out]; replace HK := Lib.hid (HK.out.trans hk1); replace HR := Lib.hid hr1; clear hq hk1 hr1))
            all_goals go_ret2
            exact HF.out _ HK.out HR.out

end Go.Proofs.YtdegkfnlafgheaaDoor.Ar
