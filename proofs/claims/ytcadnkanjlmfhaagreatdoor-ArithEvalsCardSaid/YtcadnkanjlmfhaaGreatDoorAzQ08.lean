/- DERIVED. Texts of this claim, joined: ArCond, ArAll, ArLead. -/
import Derived.Test.YtcadnkanjlmfhaaGreatDoorAzQ07
import Derived.Defers
import Derived.Recover
namespace Go.Proofs.YtcadnkanjlmfhaaGreatDoor.Ar
open Go.RowKit
open PathM WdM ArM
open Go.Proofs.YtcadnkanjlmfhaaGreatDoor.Wd
set_option linter.unusedVariables false

theorem RdPost.then {rb dp : Nat} {m m' : Rr} {w w1 w2 : World} {e : Ending} (hk : Kept (· = rb) w w1) (h : RdPost rb dp m w1 e w2) (hm : m = m') : RdPost rb dp m' w e w2 := by
  subst hm
  exact ⟨hk.trans h.1, h.2⟩
theorem RdPost.ok {rb dp : Nat} {t : Tm} {r : List Tok} {w w2 : World} {e : Ending} (h : RdPost rb dp (.ok (t, r)) w e w2) : e = .returned (.tuple #[tmV t, .int .i64 0]) ∧ Kept (· = rb) w w2 ∧ RdA w2 rb r dp := ⟨h.2.1, h.1, h.2.2⟩
theorem RdPost.er {rb dp : Nat} {x : Int} {w w2 : World} {e : Ending} (h : RdPost rb dp (.error x) w e w2) : ∃ v r, e = .returned (.tuple #[v, .int .i64 x]) ∧ Kept (· = rb) w w2 ∧ RdA w2 rb r dp ∧ x ≠ 0 ∧ IfV v := by
  obtain ⟨v, r, h1, h2, h3, h4⟩ := h.2
  exact ⟨v, r, h1, h.1, h2, h3, h4⟩
/-- Taking a sign, as the model reads. -/
theorem take_sg (s : Bs) (hs : s ≠ [110, 117, 109, 98, 101, 114] ∧ s ≠ [110, 97, 109, 101]) (l : List Tok) : takeL s l = match l with
    | .sg s2 :: r => if s2 = s then some r else none
    | _ => none := by
  unfold takeL
  cases l with
  | nil => rfl
  | cons t r => cases t with
    | sg s2 => rfl
    | num x n => exact if_neg (fun e => hs.1 e.symm)
    | nam x => exact if_neg (fun e => hs.2 e.symm)
theorem take_yes {s : Bs} {l r : List Tok} {rb dp : Nat} {w : World} (h : RdA w rb l dp) (ht : takeL s l = some r) :
    Calls Tryz.prog 59 #[.pointer (some ⟨rb, 0, none⟩), .string (nm s)] w fun e w' => e = .returned (.int .i64 0) ∧ Kept (· = rb) w w' ∧ RdA w' rb r dp := by
  refine (take_any s l rb dp w h).mono ?_
  rintro e w' ⟨hk, hm⟩
  rw [ht] at hm
  exact ⟨hm.1, hk, hm.2⟩
theorem take_no {s : Bs} {l : List Tok} {rb dp : Nat} {w : World} (h : RdA w rb l dp) (ht : takeL s l = none) :
    Calls Tryz.prog 59 #[.pointer (some ⟨rb, 0, none⟩), .string (nm s)] w fun e w' => e = .returned (.int .i64 61) ∧ w' = w := by
  refine (take_any s l rb dp w h).mono ?_
  rintro e w' ⟨hk, hm⟩
  rw [ht] at hm
  exact hm
theorem take_len {s : Bs} {l r : List Tok} (h : takeL s l = some r) : r.length + 1 = l.length := by
  cases l with
  | nil => cases h
  | cons t l =>
    unfold takeL at h
    simp only at h
    split at h
    · simp only [Option.some.injEq] at h; rw [← h]; rfl
    · cases h
theorem tmV_iface (t : Tm) : ∃ T x, tmV t = .iface T x := by cases t <;> exact ⟨_, _, rfl⟩
theorem condF_eq (d : Rd) (dp : Nat) (l : List Tok) : condF d dp l = match pairsK (leadF d dp) 10 l with
  | .error e => .error e
  | .ok (t, r) => match takeL [63] r with
    | none => .ok (t, r)
    | some r2 => match d.all dp r2 with
      | .error e => .error e
      | .ok (y, r3) => match takeL [58] r3 with
        | none => .error 61
        | some r4 => match d.cond dp r4 with
          | .error e => .error e
          | .ok (z, r5) => .ok (.choice t y z, r5) := by
  unfold condF
  cases pairsK (leadF d dp) 10 l with
  | error e => rfl
  | ok p =>
    obtain ⟨t, r⟩ := p
    simp only
    rw [take_sg [63] (by decide)]
    cases r with
    | nil => rfl
    | cons u r => cases u with
      | num x n => rfl
      | nam x => rfl
      | sg s =>
        simp only
        by_cases hs : s = [63]
        · rw [if_pos hs, if_pos hs]
          simp only
          cases d.all dp r with
          | error e => rfl
          | ok p =>
            obtain ⟨y, r3⟩ := p
            simp only
            rw [take_sg [58] (by decide)]
            cases r3 with
            | nil => rfl
            | cons u r => cases u with
              | num x n => rfl
              | nam x => rfl
              | sg s =>
                simp only
                by_cases hs : s = [58]
                · rw [if_pos hs, if_pos hs]; rfl
                · rw [if_neg hs, if_neg hs]
        · rw [if_neg hs, if_neg hs]
set_option maxRecDepth 100000 in
set_option maxHeartbeats 3200000 in
theorem cond_any (d : Rd) (rb dp m : Nat) (hP : Ok1 58 rb dp (m + 1) #[.int .i64 ((1 : Nat) : Int)] (pairsK (leadF d dp) 10)) (hA : Ok1 22 rb dp m #[] (d.all dp)) (hC : Ok1 42 rb dp m #[] (d.cond dp)) (hlp : Lss (pairsK (leadF d dp) 10)) (hla : Lss (d.all dp)) :
    Ok1 42 rb dp (m + 1) #[] (condF d dp) := by
  intro l w hl h
  rw [condF_eq]
  have hp : Calls Tryz.prog 58 #[.pointer (some ⟨rb, 0, none⟩), .int .i64 1] w _ := hP l w hl h
  show Calls _ _ #[.pointer (some ⟨rb, 0, none⟩)] _ _
  cases hM : pairsK (leadF d dp) 10 l with
  | error x =>
    rw [hM] at hp
    simp only
    have HP := Lib.hid hp
    clear hP hA hC hlp hla h hp hM
    go_enter Tryz.func42, Tryz.ntmps42
    go_wp2_with (go_at_call 58; refine HP.out.mono ?_; rintro e w1 hq; obtain ⟨v, r, rfl, _, _, hx, _⟩ := hq.er; have HQ := Lib.hid hq; clear hq)
    go_ret2
    exact HQ.out
  | ok p =>
    obtain ⟨t, r⟩ := p
    rw [hM] at hp
    have hl1 := hlp _ _ _ hM
    simp only
    have HP := Lib.hid hp
    cases hT : takeL [63] r with
    | none =>
      simp only
      have HT := Lib.hid hT
      clear hP hA hC hlp hla h hp hM hT
      generalize htv : tmV t = tv at *
      have HF : Hid (∀ W, Kept (· = rb) w W → RdA W rb r dp → RdPost rb dp (.ok (t, r)) w (.returned (.tuple #[tv, .int .i64 0])) W) := Lib.hid (fun W h1 h2 => RdPost.yes rfl htv.symm h1 h2)
      have HTV := Lib.hid htv
      clear htv
      go_enter Tryz.func42, Tryz.ntmps42
      go_wp2_with (first | (go_at_call 58; refine HP.out.mono ?_; rintro e w1 hq; obtain ⟨rfl, hk1, hr1⟩ := hq.ok; rw [HTV.out]; have HK := Lib.hid hk1; have HR := Lib.hid hr1; clear hq hk1 hr1) | (go_at_call 59; refine (take_no HR.out HT.out).mono ?_; rintro e w2 ⟨rfl, rfl⟩))
      go_ret2
      exact HF.out _ HK.out HR.out
    | some r2 =>
      simp only
      have hl2 := take_len hT
      have HT := Lib.hid hT
      have HA : Hid (∀ W, RdA W rb r2 dp → Calls Tryz.prog 22 #[.pointer (some ⟨rb, 0, none⟩)] W (RdPost rb dp (d.all dp r2) W)) := Lib.hid (fun W hW => hA r2 W (by omega) hW)
      obtain ⟨T1, z1, htv⟩ := tmV_iface t
      have HTV := Lib.hid htv
      clear hP hA h hp hM hT hlp
      cases hM2 : d.all dp r2 with
      | error x =>
        rw [hM2] at HA
        simp only
        clear hC hla hM2 hl1 hl2 hl
        have HF : Hid (∀ W r', x ≠ 0 → Kept (· = rb) w W → RdA W rb r' dp → RdPost rb dp (.error x) w (.returned (.tuple #[.nilIface, .int .i64 x])) W) := Lib.hid (fun W r' hx h1 h2 => RdPost.no rfl hx (.inl rfl) h1 h2)
        clear htv
        go_enter Tryz.func42, Tryz.ntmps42
        go_wp2_with (first | (go_at_call 58; refine HP.out.mono ?_; rintro e w1 hq; obtain ⟨rfl, hk1, hr1⟩ := hq.ok; rw [HTV.out]; have HK := Lib.hid hk1; have HR := Lib.hid hr1; clear hq hk1 hr1) | (go_at_call 59; refine (take_yes HR.out HT.out).mono ?_; rintro e w2 ⟨rfl, hk1, hr1⟩; replace HK := Lib.hid (HK.out.trans hk1); replace HR := Lib.hid hr1; clear hk1 hr1) | (go_at_call 22; refine (HA.out _ HR.out).mono ?_; rintro e w3 hq; obtain ⟨v, r', rfl, hk1, hr1, hx, _⟩ := hq.er; replace HK := Lib.hid (HK.out.trans hk1); replace HR := Lib.hid hr1; have HX := Lib.hid hx; clear hq hk1 hr1))
        all_goals go_ret2
        exact HF.out _ _ HX.out HK.out HR.out
      | ok p =>
        obtain ⟨y, r3⟩ := p
        rw [hM2] at HA
        have hl3 := hla _ _ _ hM2
        simp only
        obtain ⟨T2, z2, hyv⟩ := tmV_iface y
        have HYV := Lib.hid hyv
        cases hT2 : takeL [58] r3 with
        | none =>
          simp only
          have HT2 := Lib.hid hT2
          have HF : Hid (∀ W r', Kept (· = rb) w W → RdA W rb r' dp → RdPost rb dp (.error 61) w (.returned (.tuple #[.nilIface, .int .i64 61])) W) := Lib.hid (fun W r' h1 h2 => RdPost.no rfl (by decide) (.inl rfl) h1 h2)
          clear hC hla hM2 hl1 hl2 hl hl3 htv hyv hT2
          go_enter Tryz.func42, Tryz.ntmps42
          go_wp2_with (first | (go_at_call 58; refine HP.out.mono ?_; rintro e w1 hq; obtain ⟨rfl, hk1, hr1⟩ := hq.ok; rw [HTV.out]; have HK := Lib.hid hk1; have HR := Lib.hid hr1; clear hq hk1 hr1) | (go_at_call 59; refine (take_yes HR.out HT.out).mono ?_; rintro e w2 ⟨rfl, hk1, hr1⟩; replace HK := Lib.hid (HK.out.trans hk1); replace HR := Lib.hid hr1; clear hk1 hr1) | (go_at_call 22; refine (HA.out _ HR.out).mono ?_; rintro e w3 hq; obtain ⟨rfl, hk1, hr1⟩ := hq.ok; rw [HYV.out]; replace HK := Lib.hid (HK.out.trans hk1); replace HR := Lib.hid hr1; clear hq hk1 hr1) | (go_at_call 59; refine (take_no HR.out HT2.out).mono ?_; rintro e w4 ⟨rfl, rfl⟩))
          all_goals go_ret2
          exact HF.out _ _ HK.out HR.out
        | some r4 =>
          simp only
          have hl4 := take_len hT2
          have HT2 := Lib.hid hT2
          have HC : Hid (∀ W, RdA W rb r4 dp → Calls Tryz.prog 42 #[.pointer (some ⟨rb, 0, none⟩)] W (RdPost rb dp (d.cond dp r4) W)) := Lib.hid (fun W hW => hC r4 W (by omega) hW)
          cases hM3 : d.cond dp r4 with
          | error x =>
            rw [hM3] at HC
            simp only
            have HF : Hid (∀ W r' T v, x ≠ 0 → Kept (· = rb) w W → RdA W rb r' dp → RdPost rb dp (.error x) w (.returned (.tuple #[.iface T v, .int .i64 x])) W) := Lib.hid (fun W r' T v hx h1 h2 => RdPost.no rfl hx (.inr ⟨_, _, rfl⟩) h1 h2)
            clear hC hla hM2 hM3 hl1 hl2 hl hl3 hl4 htv hyv hT2
            go_enter Tryz.func42, Tryz.ntmps42
            go_wp2_with (first | (go_at_call 58; refine HP.out.mono ?_; rintro e w1 hq; obtain ⟨rfl, hk1, hr1⟩ := hq.ok; rw [HTV.out]; have HK := Lib.hid hk1; have HR := Lib.hid hr1; clear hq hk1 hr1) | (go_at_call 59; refine (take_yes HR.out HT.out).mono ?_; rintro e w2 ⟨rfl, hk1, hr1⟩; replace HK := Lib.hid (HK.out.trans hk1); replace HR := Lib.hid hr1; clear hk1 hr1) | (go_at_call 22; refine (HA.out _ HR.out).mono ?_; rintro e w3 hq; obtain ⟨rfl, hk1, hr1⟩ := hq.ok; rw [HYV.out]; replace HK := Lib.hid (HK.out.trans hk1); replace HR := Lib.hid hr1; clear hq hk1 hr1) | (go_at_call 59; refine (take_yes HR.out HT2.out).mono ?_; rintro e w4 ⟨rfl, hk1, hr1⟩; replace HK := Lib.hid (HK.out.trans hk1); replace HR := Lib.hid hr1; clear hk1 hr1) | (go_at_call 42; refine (HC.out _ HR.out).mono ?_; rintro e w5 hq; obtain ⟨v, r', rfl, hk1, hr1, hx, hi⟩ := hq.er; replace HK := Lib.hid (HK.out.trans hk1); replace HR := Lib.hid hr1; have HX := Lib.hid hx; clear hq hk1 hr1; rcases hi with rfl | ⟨T3, z3, rfl⟩))
            all_goals go_ret2
            all_goals exact HF.out _ _ _ _ HX.out HK.out HR.out
          | ok p =>
            obtain ⟨z, r5⟩ := p
            rw [hM3] at HC
            simp only
            obtain ⟨T3, z3, hzv⟩ := tmV_iface z
            have HZV := Lib.hid hzv
            have HF : Hid (∀ W, Kept (· = rb) w W → RdA W rb r5 dp → RdPost rb dp (.ok (.choice t y z, r5)) w (.returned (.tuple #[.iface 118 (.agg #[.iface T1 z1, .iface T2 z2, .iface T3 z3]), .int .i64 0])) W) := Lib.hid (fun W h1 h2 => RdPost.yes rfl (by rw [tmV, htv, hyv, hzv]) h1 h2)
            clear hC hla hM2 hM3 hl1 hl2 hl hl3 hl4 htv hyv hzv hT2
            go_enter Tryz.func42, Tryz.ntmps42
            go_wp2_with (first | (go_at_call 58; refine HP.out.mono ?_; rintro e w1 hq; obtain ⟨rfl, hk1, hr1⟩ := hq.ok; rw [HTV.out]; have HK := Lib.hid hk1; have HR := Lib.hid hr1; clear hq hk1 hr1) | (go_at_call 59; refine (take_yes HR.out HT.out).mono ?_; rintro e w2 ⟨rfl, hk1, hr1⟩; replace HK := Lib.hid (HK.out.trans hk1); replace HR := Lib.hid hr1; clear hk1 hr1) | (go_at_call 22; refine (HA.out _ HR.out).mono ?_; rintro e w3 hq; obtain ⟨rfl, hk1, hr1⟩ := hq.ok; rw [HYV.out]; replace HK := Lib.hid (HK.out.trans hk1); replace HR := Lib.hid hr1; clear hq hk1 hr1) | (go_at_call 59; refine (take_yes HR.out HT2.out).mono ?_; rintro e w4 ⟨rfl, hk1, hr1⟩; replace HK := Lib.hid (HK.out.trans hk1); replace HR := Lib.hid hr1; clear hk1 hr1) | (go_at_call 42; refine (HC.out _ HR.out).mono ?_; rintro e w5 hq; obtain ⟨rfl, hk1, hr1⟩ := hq.ok; rw [HZV.out]; replace HK := Lib.hid (HK.out.trans hk1); replace HR := Lib.hid hr1; clear hq hk1 hr1))
            all_goals go_ret2
            exact HF.out _ HK.out HR.out

end Go.Proofs.YtcadnkanjlmfhaaGreatDoor.Ar
namespace Go.Proofs.YtcadnkanjlmfhaaGreatDoor.Ar
open Go.RowKit
open PathM WdM ArM
open Go.Proofs.YtcadnkanjlmfhaaGreatDoor.Wd
set_option linter.unusedVariables false

/-- A name and the sign behind it that gives it something. -/
def givenL : List Tok → Option (Bs × Bs × List Tok)
  | .nam t :: u :: r => (givesOf (sgOf u)).map fun b => (b, t, r)
  | _ => none
theorem gives_num : givesOf [110, 117, 109, 98, 101, 114] = none := by decide
theorem gives_nam : givesOf [110, 97, 109, 101] = none := by decide
theorem allF_eq (d : Rd) (dp : Nat) (l : List Tok) : allF d dp l = match givenL l with
  | none => condF d dp l
  | some (b, t, r) => match d.all dp r with
    | .error e => .error e
    | .ok (x, r2) => .ok (.gift b t x, r2) := by
  cases l with
  | nil => rfl
  | cons a l => cases a with
    | sg s => rfl
    | num x n => rfl
    | nam t => cases l with
      | nil => rfl
      | cons u r => cases u with
        | num x n => unfold allF givenL; simp only [sgOf]; rw [gives_num]; rfl
        | nam x => unfold allF givenL; simp only [sgOf]; rw [gives_nam]; rfl
        | sg s =>
          unfold allF givenL
          simp only [sgOf]
          cases givesOf s <;> rfl
theorem RdB.head {w : World} {rb dp : Nat} {v : Value} {t : Tok} {l : List Tok} (h : RdB w rb v (t :: l) dp) : ∃ b off c, v = .slice (some ⟨b, off, none⟩) (l.length + 1) c ∧ b < rb ∧ l.length + 1 ≤ c ∧ l.length + 1 ≤ 1000000 ∧ TkOk t ∧
    w.cell? ⟨b, off, none⟩ = some (.string (nm (sgOf t))) ∧ w.cell? ⟨b, off + 1, none⟩ = some (.string (nm t.text)) ∧ w.cell? ⟨b, off + 2, none⟩ = some (.int .i64 (nOf t)) := h.2.1.head
theorem tks_second {B : Nat} {w : World} {b off n c : Nat} {t u : Tok} {l : List Tok} (h : TksIn B w (.slice (some ⟨b, off, none⟩) n c) (t :: u :: l)) : w.cell? ⟨b, off + 3, none⟩ = some (.string (nm (sgOf u))) ∧ TkOk u := by
  obtain ⟨b', off', c', e, _, _, _, hk, h1, _⟩ := h.tail.head
  simp only [Value.slice.injEq, Option.some.injEq, Addr.mk.injEq] at e
  obtain ⟨⟨rfl, rfl, _⟩, _⟩ := e
  exact ⟨h1, hk⟩
/-- Two tokens less. -/
theorem RdB.less2 {w : World} {rb dp b off n c m c2 : Nat} {t u : Tok} {l : List Tok} (h : RdB w rb (.slice (some ⟨b, off, none⟩) n c) (t :: u :: l) dp) (hm : m = l.length) (hc2 : c2 = c - 2) : RdA (w.setCell ⟨rb, 0, none⟩ (.slice (some ⟨b, off + 6, none⟩) m c2)) rb l dp := by
  subst hm
  subst hc2
  obtain ⟨hb, h, hd⟩ := h
  have h2 := h.tail.tail
  have e : c - 1 - 1 = c - 2 := by omega
  rw [e] at h2
  refine ⟨_, by simpa using set_blk (j := 0) hb (.slice (some ⟨b, off + 6, none⟩) l.length (c - 2)), h2.keep (fun k hk => Below.heap_setCell _ _ _ _ (fun e => ?_)), hd⟩
  have : k = rb := e
  omega
theorem RdB.last2 {w : World} {rb dp m : Nat} {v : Value} {A2 : Option Addr} {l0 l : List Tok} (h : RdB w rb v l0 dp) (hm : m = l.length) (h0 : m = 0) : RdA (w.setCell ⟨rb, 0, none⟩ (.slice A2 m 0)) rb l dp := by
  subst hm
  have e : l = [] := List.length_eq_zero_iff.1 h0
  subst e
  obtain ⟨hb, h, hd⟩ := h
  exact ⟨_, by simpa using set_blk (j := 0) hb (.slice A2 0 0), ⟨A2, 0, rfl, ⟨by simp, by simp, by simp⟩, fun h => absurd rfl h⟩, hd⟩
theorem given_not {t u : Tok} {r : List Tok} (h : sgOf t ≠ [110, 97, 109, 101]) : givenL (t :: u :: r) = none := by
  cases t with
  | nam x => exact absurd rfl h
  | _ => rfl
theorem tk_len {u : Tok} (h : TkOk u) : (sgOf u).length ≤ 4611686018427387904 := by
  cases u with
  | sg s => have := h.1; show s.length ≤ _; omega
  | num x n => show 6 ≤ _; omega
  | nam x => show 4 ≤ _; omega
set_option maxRecDepth 100000 in
set_option maxHeartbeats 3200000 in
theorem all_cond (rb dp : Nat) (l : List Tok) (w : World) (m : Rr) (h : RdA w rb l dp) (hg : givenL l = none) (hC : Calls Tryz.prog 42 #[.pointer (some ⟨rb, 0, none⟩)] w (RdPost rb dp m w)) :
    Calls Tryz.prog 22 #[.pointer (some ⟨rb, 0, none⟩)] w (RdPost rb dp m w) := by
  have HC := Lib.hid hC
  have hrb := h.lt
  obtain ⟨v, h⟩ := h
  replace h : RdB w rb v l dp := h
  clear hC
  cases l with
  | nil =>
    obtain ⟨A, c, rfl⟩ := h.2.1.none
    have c0 := h.c0
    clear h hg
    go_enter Tryz.func22, Tryz.ntmps22
    go_wp2_with (go_at_call 42; refine HC.out.mono ?_; rintro e w1 hq; obtain ⟨v, x, rfl, _⟩ := hq.form; have HQ := Lib.hid hq; clear hq)
    go_ret2
    exact HQ.out
  | cons t l =>
    obtain ⟨b, off, c, rfl, hlt, hl, hlm, hk, a0, a1, a2⟩ := h.head
    have c0 := h.c0
    have hbz : b < w.heap.size := by omega
    cases l with
    | nil =>
      clear h hg
      go_enter Tryz.func22, Tryz.ntmps22
      go_wp2_with (go_at_call 42; refine HC.out.mono ?_; rintro e w1 hq; obtain ⟨v, x, rfl, _⟩ := hq.form; have HQ := Lib.hid hq; clear hq)
      go_ret2
      exact HQ.out
    | cons u r =>
      obtain ⟨b0, hk2⟩ := tks_second h.2.1
      simp only [List.length_cons] at hl hlm c0
      have q := str_is (sgOf t) [110, 97, 109, 101]
      by_cases hn : sgOf t = [110, 97, 109, 101]
      · rw [decide_eq_true hn] at q
        have hgv : givesOf (sgOf u) = none := by
          cases t with
          | nam x =>
            cases hx : givesOf (sgOf u) with
            | none => rfl
            | some b =>
              have hg2 : (givesOf (sgOf u)).map (fun b => (b, x, r)) = none := hg
              rw [hx] at hg2; cases hg2
          | sg s => have h1 := hk.1; have h2 : s = _ := hn; rw [h2] at h1; simp at h1
          | num x n => simp [sgOf] at hn
        have hG := fun W => gives_any (sgOf u) W (tk_len hk2)
        have e : givesV (sgOf u) = .tuple #[.string ⟨#[]⟩, .bool false] := by unfold givesV; rw [hgv]
        rw [e] at hG
        have HG := Lib.hid hG
        generalize nm (sgOf t) = S at *
        generalize nm (sgOf u) = U at *
        generalize r.length = n at *
        clear h hg hG hn e hgv
        go_enter Tryz.func22, Tryz.ntmps22
        go_wp2_with (first | (go_at_call 42; refine HC.out.mono ?_; rintro e w1 hq; obtain ⟨v, x, rfl, _⟩ := hq.form; have HQ := Lib.hid hq; clear hq) | (go_at_call 43; refine (HG.out _).mono ?_; rintro e w2 ⟨rfl, rfl⟩))
        go_ret2
        exact HQ.out
      · rw [decide_eq_false hn] at q
        generalize nm (sgOf t) = S at *
        generalize r.length = n at *
        clear h hg hn
        go_enter Tryz.func22, Tryz.ntmps22
        go_wp2_with (go_at_call 42; refine HC.out.mono ?_; rintro e w1 hq; obtain ⟨v, x, rfl, _⟩ := hq.form; have HQ := Lib.hid hq; clear hq)
        go_ret2
        exact HQ.out
/-- A gift, as the model reads. -/
def giftR (b t : Bs) (m : Rr) : Rr := match m with
  | .error e => .error e
  | .ok (x, r) => .ok (.gift b t x, r)
theorem RdPost.gift {rb dp : Nat} {m : Rr} {w w1 w2 : World} {v : Value} {x : Int} {b t : Bs} (hk : Kept (· = rb) w w1) (h : RdPost rb dp m w1 (.returned (.tuple #[v, .int .i64 x])) w2) :
    RdPost rb dp (giftR b t m) w (.returned (.tuple #[.iface 101 (.agg #[.string (nm b), .string (nm t), v]), .int .i64 x])) w2 := by
  obtain ⟨hk2, h⟩ := h
  cases m with
  | ok p =>
    obtain ⟨y, r⟩ := p
    obtain ⟨he, hr⟩ := h
    simp only [Ending.returned.injEq, Value.tuple.injEq, Array.mk.injEq, List.cons.injEq, Value.int.injEq, and_true, true_and] at he
    obtain ⟨rfl, rfl⟩ := he
    exact RdPost.yes rfl rfl (hk.trans hk2) hr
  | error er =>
    obtain ⟨v', r, he, hr, hne, _⟩ := h
    simp only [Ending.returned.injEq, Value.tuple.injEq, Array.mk.injEq, List.cons.injEq, Value.int.injEq, and_true, true_and] at he
    obtain ⟨rfl, rfl⟩ := he
    exact RdPost.no rfl hne (.inr ⟨_, _, rfl⟩) (hk.trans hk2) hr
set_option maxRecDepth 100000 in
set_option maxHeartbeats 3200000 in
theorem all_give (rb dp : Nat) (x bs : Bs) (u : Tok) (r : List Tok) (w : World) (m : Rr) (h : RdA w rb (.nam x :: u :: r) dp) (hg : givesOf (sgOf u) = some bs) (hA : ∀ W, RdA W rb r dp → Calls Tryz.prog 22 #[.pointer (some ⟨rb, 0, none⟩)] W (RdPost rb dp m W)) :
    Calls Tryz.prog 22 #[.pointer (some ⟨rb, 0, none⟩)] w (RdPost rb dp (giftR bs x m) w) := by
  have hrb := h.lt
  obtain ⟨v, h⟩ := h
  replace h : RdB w rb v (.nam x :: u :: r) dp := h
  obtain ⟨b, off, c, rfl, hlt, hl, hlm, hk, a0, a1, a2⟩ := h.head
  have c0 := h.c0
  have f0 := h.fz 0
  have hbz : b < w.heap.size := by omega
  obtain ⟨b0, hk2⟩ := tks_second h.2.1
  simp only [List.length_cons] at hl hlm c0
  have hr0 : RdB w rb (.slice (some ⟨b, off, none⟩) (r.length + 1 + 1) c) (.nam x :: u :: r) dp := h
  have HA1 : Hid (∀ mm c2, mm = r.length → c2 = c - 2 → Calls Tryz.prog 22 #[.pointer (some ⟨rb, 0, none⟩)] (w.setCell ⟨rb, 0, none⟩ (.slice (some ⟨b, off + 6, none⟩) mm c2)) (RdPost rb dp m (w.setCell ⟨rb, 0, none⟩ (.slice (some ⟨b, off + 6, none⟩) mm c2)))) := Lib.hid (fun mm c2 h1 h2 => hA _ (hr0.less2 h1 h2))
  have HA2 : Hid (∀ A2 mm, mm = r.length → mm = 0 → Calls Tryz.prog 22 #[.pointer (some ⟨rb, 0, none⟩)] (w.setCell ⟨rb, 0, none⟩ (.slice A2 mm 0)) (RdPost rb dp m (w.setCell ⟨rb, 0, none⟩ (.slice A2 mm 0)))) := Lib.hid (fun A2 mm h1 h2 => hA _ (hr0.last2 h1 h2))
  have HF : Hid (∀ W2 u v x2, RdPost rb dp m (w.setCell ⟨rb, 0, none⟩ u) (.returned (.tuple #[v, .int .i64 x2])) W2 → RdPost rb dp (giftR bs x m) w (.returned (.tuple #[.iface 101 (.agg #[.string (nm bs), .string (nm x), v]), .int .i64 x2])) W2) := Lib.hid (fun W2 u v x2 hq => RdPost.gift (Kept.setCell (S := (· = rb)) ⟨rb, 0, none⟩ u rfl) hq)
  have hG := fun W => gives_any (sgOf u) W (tk_len hk2)
  have e : givesV (sgOf u) = .tuple #[.string (nm bs), .bool true] := by unfold givesV; rw [hg]
  rw [e] at hG
  have HG := Lib.hid hG
  have q := str_is (sgOf (.nam x)) [110, 97, 109, 101]
  rw [decide_eq_true (show sgOf (.nam x) = [110, 97, 109, 101] from rfl)] at q
  have ht : (Tok.nam x).text = x := rfl
  rw [ht] at a1
  generalize nm (sgOf (.nam x)) = S at *
  generalize nm (sgOf u) = U at *
  generalize nm x = X at *
  generalize nm bs = B at *
  generalize r.length = n at *
  clear h hr0 hA hG e ht hg hk hk2
  go_enter Tryz.func22, Tryz.ntmps22
  go_wp2_with (go_at_call 43; refine (HG.out _).mono ?_; rintro e w2 ⟨rfl, rfl⟩)
  all_goals first | refine (HA1.out _ _ rfl rfl).mono ?_ | refine (HA2.out _ _ rfl (by omega)).mono ?_
  all_goals
    intro e W2 hq
    obtain ⟨v, x2, rfl, hi⟩ := hq.form
    have HQ := Lib.hid (HF.out _ _ _ _ hq)
    clear hq HA1 HA2 HG HF
    rcases hi with rfl | ⟨T2, z2, rfl⟩ <;> (go_wp2_with fail; go_ret2; exact HQ.out)
theorem all_any (d : Rd) (rb dp m : Nat) (hA : Ok1 22 rb dp m #[] (d.all dp)) (hC : Ok1 42 rb dp (m + 1) #[] (condF d dp)) : Ok1 22 rb dp (m + 1) #[] (allF d dp) := by
  intro l w hl h
  rw [allF_eq]
  cases hg : givenL l with
  | none => exact all_cond rb dp l w _ h hg (hC l w hl h)
  | some p =>
    obtain ⟨b, t, r⟩ := p
    cases l with
    | nil => cases hg
    | cons a l => cases a with
      | sg s => cases hg
      | num x n => cases hg
      | nam x => cases l with
        | nil => cases hg
        | cons u l =>
          have hg2 : (givesOf (sgOf u)).map (fun b => (b, x, l)) = some (b, t, r) := hg
          cases hx : givesOf (sgOf u) with
          | none => rw [hx] at hg2; cases hg2
          | some b' =>
            rw [hx] at hg2
            simp only [Option.map_some, Option.some.injEq, Prod.mk.injEq] at hg2
            obtain ⟨rfl, rfl, rfl⟩ := hg2
            simp only [List.length_cons] at hl
            have := all_give rb dp x b' u l w (d.all dp l) h hx (fun W hW => hA l W (by omega) hW)
            refine this.mono ?_
            intro e w' hq
            exact hq

end Go.Proofs.YtcadnkanjlmfhaaGreatDoor.Ar
namespace Go.Proofs.YtcadnkanjlmfhaaGreatDoor.Ar
open Go.RowKit
open PathM WdM ArM
open Go.Proofs.YtcadnkanjlmfhaaGreatDoor.Wd
set_option linter.unusedVariables false

set_option maxHeartbeats 1600000 in
theorem lead1_deferred (rb cb dp : Nat) (u : FrameMode) (w : World) (hc : w.cell? ⟨cb, 0, none⟩ = some (.pointer (some ⟨rb, 0, none⟩))) (hr : w.cell? ⟨rb, 1, none⟩ = some (.int .i64 ((dp : Nat) + 1 : Int))) (hf : w.frozen? ⟨rb, 1, none⟩ = false) (hlc : cb < w.heap.size) (hlr : rb < w.heap.size) (hd : dp ≤ 64) :
    CallsD Tryz.prog 79 #[.pointer (some ⟨cb, 0, none⟩)] u w fun e u' w' => u' = u ∧ (e = .returned (.tuple #[]) ∧ w' = w.setCell ⟨rb, 1, none⟩ (.int .i64 dp)) := by
  go_enter_d Tryz.func79, Tryz.ntmps79
  go_wp2
  go_end0
  exact ⟨rfl, rfl⟩

set_option maxRecDepth 100000 in
set_option maxHeartbeats 3200000 in
theorem lead_plain (rb dp : Nat) (t : Tok) (l : List Tok) (w : World) (h : RdA w rb (t :: l) dp) (hl : leadsOf (sgOf t) = false) (hp : sgOf t ≠ [40]) :
    Calls Tryz.prog 68 #[.pointer (some ⟨rb, 0, none⟩)] w (RdPost rb dp (plainL (t :: l)) w) := by
  have hrb := h.lt
  have ha : Below w.heap.size w (w.alloc (.cells #[.pointer (some ⟨rb, 0, none⟩)] 97)) := (Below.refl _ _).alloc (Nat.le_refl _) _
  have h1 := h.told ha
  have HN := Lib.hid (next_some t l rb dp _ h1)
  unfold tokV at HN
  have HP : Hid (∀ W, Below (w.alloc (.cells #[.pointer (some ⟨rb, 0, none⟩)] 97)).heap.size (w.alloc (.cells #[.pointer (some ⟨rb, 0, none⟩)] 97)) W → ∀ u, Calls Tryz.prog 78 #[.pointer (some ⟨rb, 0, none⟩)] (W.alloc u) fun e w' => RdPost rb dp (plainL (t :: l)) w e w') := Lib.hid (fun W hW u => (plain_any _ rb dp (W.alloc u) (h1.told (hW.alloc hW.size _))).mono (fun e w' hq => hq.then ((kept_of_below ha).trans (kept_of_below (hW.alloc hW.size _))) rfl))
  have n0 := heap_alloc_new w (.cells #[.pointer (some ⟨rb, 0, none⟩)] 97)
  have N0 := Lib.hid n0
  clear n0
  have HL := Lib.hid (leads_any (sgOf t))
  rw [hl] at HL
  have q := str_is (sgOf t) [40]
  rw [decide_eq_false hp] at q
  generalize nm (sgOf t) = S at *
  generalize nm t.text = T at *
  generalize nOf t = k at *
  clear h h1 ha hl hp
  have fk0 := fieldK0
  have hmf : ∀ (fn : Fn) (first cap : Array Value) (w : World), (Instr.makeFunc fn first cap).run Tryz.prog w = .ok (.func fn first cap) w := fun _ _ _ _ => rfl
  go_enter_defers Tryz.func68, Tryz.ntmps68
  go_wp2_with (first | (go_at_call 69; refine HN.out.mono ?_; rintro e W1 ⟨rfl, hb⟩; have HB := Lib.hid hb; have hz := hb.size; rw [World.size_alloc] at hz; have cz := cell_blk ((hb.block w.heap.size (by rw [World.size_alloc]; omega)).trans N0.out) 0; replace cz := cz.trans (show _ = some (.pointer (some ⟨rb, 0, none⟩)) from rfl); replace hz := Nat.lt_of_lt_of_le (Nat.lt_succ_self _) hz; clear hb) | (go_at_call 77; refine (HL.out _).mono ?_; rintro e W2 ⟨rfl, rfl⟩) | (go_at_call 78; refine (HP.out _ HB.out _).mono ?_; rintro e W3 hq; obtain ⟨v, x, rfl, _⟩ := hq.form; have HQ := Lib.hid hq; clear hq))
  refine ⟨_, results_tmp2 rfl _ _ _, ?_⟩
  exact HQ.out
set_option maxRecDepth 100000 in
set_option maxHeartbeats 3200000 in
theorem lead_deep (rb : Nat) (t : Tok) (l : List Tok) (w : World) (h : RdA w rb (t :: l) 64) (b1 b2 : Bool) (hl : leadsOf (sgOf t) = b1) (hp : decide (sgOf t = [40]) = b2) (hbb : b1 = true ∨ b2 = true) :
    Calls Tryz.prog 68 #[.pointer (some ⟨rb, 0, none⟩)] w (RdPost rb 64 (.error 63) w) := by
  have hrb := h.lt
  have ha : Below w.heap.size w (w.alloc (.cells #[.pointer (some ⟨rb, 0, none⟩)] 97)) := (Below.refl _ _).alloc (Nat.le_refl _) _
  have h1 := h.told ha
  have HN := Lib.hid (next_some t l rb 64 _ h1)
  unfold tokV at HN
  have HF : Hid (∀ W u, Below (w.alloc (.cells #[.pointer (some ⟨rb, 0, none⟩)] 97)).heap.size (w.alloc (.cells #[.pointer (some ⟨rb, 0, none⟩)] 97)) W → RdPost rb 64 (.error 63) w (.returned (.tuple #[.nilIface, .int .i64 63])) (W.alloc u)) := Lib.hid (fun W u hW => RdPost.no rfl (by decide) (.inl rfl) ((kept_of_below ha).trans (kept_of_below (hW.alloc hW.size _))) (h1.told (hW.alloc hW.size _)))
  obtain ⟨v0, hb0⟩ := h1
  have B0 := Lib.hid hb0.1
  clear hb0
  have n0 := heap_alloc_new w (.cells #[.pointer (some ⟨rb, 0, none⟩)] 97)
  have N0 := Lib.hid n0
  clear n0
  have HL := Lib.hid (leads_any (sgOf t))
  rw [hl] at HL
  have q := str_is (sgOf t) [40]
  rw [hp] at q
  generalize nm (sgOf t) = S at *
  generalize nm t.text = T at *
  generalize nOf t = k at *
  clear h ha hl hp
  have fk0 := fieldK0
  have hmf : ∀ (fn : Fn) (first cap : Array Value) (w : World), (Instr.makeFunc fn first cap).run Tryz.prog w = .ok (.func fn first cap) w := fun _ _ _ _ => rfl
  rcases hbb with rfl | rfl
  all_goals try cases b1
  all_goals try cases b2
  all_goals go_enter_defers Tryz.func68, Tryz.ntmps68
  all_goals go_wp2_with (first | (go_at_call 69; refine HN.out.mono ?_; rintro e W1 ⟨rfl, hb⟩; have HB := Lib.hid hb; have d1 := cell_blk ((hb.block rb (by rw [World.size_alloc]; omega)).trans B0.out) 1; replace d1 := d1.trans (show _ = some (.int .i64 ((64 : Nat) : Int)) from rfl); have hz := hb.size; rw [World.size_alloc] at hz; have cz := cell_blk ((hb.block w.heap.size (by rw [World.size_alloc]; omega)).trans N0.out) 0; replace cz := cz.trans (show _ = some (.pointer (some ⟨rb, 0, none⟩)) from rfl); replace hz := Nat.lt_of_lt_of_le (Nat.lt_succ_self _) hz; have hz2 := Nat.lt_trans hrb hz; clear hb) | (go_at_call 77; refine (HL.out _).mono ?_; rintro e W2 ⟨rfl, rfl⟩))
  all_goals refine ⟨_, results_tmp2 rfl _ _ _, ?_⟩
  all_goals exact HF.out _ _ HB.out
set_option maxRecDepth 100000 in
set_option maxHeartbeats 3200000 in
theorem lead_none (rb dp : Nat) (w : World) (h : RdA w rb [] dp) :
    Calls Tryz.prog 68 #[.pointer (some ⟨rb, 0, none⟩)] w (RdPost rb dp (plainL []) w) := by
  have hrb := h.lt
  have ha : Below w.heap.size w (w.alloc (.cells #[.pointer (some ⟨rb, 0, none⟩)] 97)) := (Below.refl _ _).alloc (Nat.le_refl _) _
  have h1 := h.told ha
  have HN := Lib.hid (next_none rb dp _ h1)
  unfold noTok at HN
  have HP : Hid (∀ W, Below (w.alloc (.cells #[.pointer (some ⟨rb, 0, none⟩)] 97)).heap.size (w.alloc (.cells #[.pointer (some ⟨rb, 0, none⟩)] 97)) W → ∀ u, Calls Tryz.prog 78 #[.pointer (some ⟨rb, 0, none⟩)] (W.alloc u) fun e w' => RdPost rb dp (plainL []) w e w') := Lib.hid (fun W hW u => (plain_any _ rb dp (W.alloc u) (h1.told (hW.alloc hW.size _))).mono (fun e w' hq => hq.then ((kept_of_below ha).trans (kept_of_below (hW.alloc hW.size _))) rfl))
  have n0 := heap_alloc_new w (.cells #[.pointer (some ⟨rb, 0, none⟩)] 97)
  have N0 := Lib.hid n0
  clear n0
  have HL := Lib.hid (leads_any [])
  rw [show leadsOf [] = false from rfl] at HL
  have q := str_is [] [40]
  rw [decide_eq_false (by decide)] at q
  generalize nm [] = S at *
  clear h h1 ha
  have fk0 := fieldK0
  have hmf : ∀ (fn : Fn) (first cap : Array Value) (w : World), (Instr.makeFunc fn first cap).run Tryz.prog w = .ok (.func fn first cap) w := fun _ _ _ _ => rfl
  go_enter_defers Tryz.func68, Tryz.ntmps68
  go_wp2_with (first | (go_at_call 69; refine HN.out.mono ?_; rintro e W1 ⟨rfl, hb⟩; have HB := Lib.hid hb; have hz := hb.size; rw [World.size_alloc] at hz; have cz := cell_blk ((hb.block w.heap.size (by rw [World.size_alloc]; omega)).trans N0.out) 0; replace cz := cz.trans (show _ = some (.pointer (some ⟨rb, 0, none⟩)) from rfl); replace hz := Nat.lt_of_lt_of_le (Nat.lt_succ_self _) hz; clear hb) | (go_at_call 77; refine (HL.out _).mono ?_; rintro e W2 ⟨rfl, rfl⟩) | (go_at_call 78; refine (HP.out _ HB.out _).mono ?_; rintro e W3 hq; obtain ⟨v, x, rfl, _⟩ := hq.form; have HQ := Lib.hid hq; clear hq))
  refine ⟨_, results_tmp2 rfl _ _ _, ?_⟩
  exact HQ.out

end Go.Proofs.YtcadnkanjlmfhaaGreatDoor.Ar
