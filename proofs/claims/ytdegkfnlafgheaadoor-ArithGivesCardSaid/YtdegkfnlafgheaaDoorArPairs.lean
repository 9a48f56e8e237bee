/- DERIVED. The walk over what binds as tight, from the left. -/
import Derived.Test.YtdegkfnlafgheaaDoorArRead
import Derived.Test.YtdegkfnlafgheaaDoorArLess
namespace Go.Proofs.YtdegkfnlafgheaaDoor.Ar
open Go.RowKit
open PathM WdM ArM
open Go.Proofs.YtdegkfnlafgheaaDoor.Wd
set_option linter.unusedVariables false

/-- A call of the reader that reads as a function says, from few tokens. -/
def Ok1 (n : Nat) (rb dp m : Nat) (args : Array Value) (f : List Tok → Rr) : Prop := ∀ l w, l.length < m → RdA w rb l dp → Calls Tryd.prog n (#[.pointer (some ⟨rb, 0, none⟩)] ++ args) w (RdPost rb dp (f l) w)
theorem RdPost.form {rb dp : Nat} {m : Rr} {w w' : World} {e : Ending} (h : RdPost rb dp m w e w') : ∃ v x, e = .returned (.tuple #[v, .int .i64 x]) ∧ IfV v := by
  obtain ⟨_, h⟩ := h
  split at h
  · exact ⟨_, _, h.1, tmV_if _⟩
  · obtain ⟨v, r, h, _, _, hi⟩ := h; exact ⟨_, _, h, hi⟩
set_option maxHeartbeats 1600000 in
theorem pairs_zero (rb dp m : Nat) (lead : List Tok → Rr) (hL : Ok1 49 rb dp m #[] lead) : Ok1 42 rb dp m #[.int .i64 11] (pairsK lead 0) := by
  intro l w hl h
  have HL := Lib.hid (hL l w hl h)
  rw [pairsK]
  clear hL h
  generalize lead l = M at *
  show Calls _ _ #[.pointer (some ⟨rb, 0, none⟩), .int .i64 11] _ _
  go_enter Tryd.func42, Tryd.ntmps42
  go_wp2_with (go_at_call 49; refine HL.out.mono ?_; rintro e W hP; obtain ⟨v, x, rfl, _⟩ := hP.form; have HP := Lib.hid hP; clear hP)
  go_ret2
  exact HP.out
theorem fieldK0 (a0 a1 a2 : Value) (W : World) : (Instr.field 59 (.agg #[a0, a1, a2]) 0).run Tryd.prog W = .ok a0 W := by kernel_rfl
theorem IfV.cells {v : Value} (h : IfV v) : v.cells = #[v] := by
  rcases h with rfl | ⟨_, _, rfl⟩ <;> rfl
/-- A reader, with the slice that it holds. -/
def RdB (w : World) (rb : Nat) (v : Value) (l : List Tok) (dp : Nat) : Prop := w.heap[rb]? = some (.cells #[v, .int .i64 dp] 63 (0, 0)) ∧ TksIn rb w v l ∧ dp ≤ 64
theorem RdB.a {w : World} {rb dp : Nat} {v : Value} {l : List Tok} (h : RdB w rb v l dp) : RdA w rb l dp := ⟨v, h⟩
theorem RdB.lt {w : World} {rb dp : Nat} {v : Value} {l : List Tok} (h : RdB w rb v l dp) : rb < w.heap.size := fin_at h.1
theorem RdB.c0 {w : World} {rb dp : Nat} {v : Value} {l : List Tok} (h : RdB w rb v l dp) : w.cell? ⟨rb, 0, none⟩ = some v := cell_blk h.1 0
theorem RdB.c1 {w : World} {rb dp : Nat} {v : Value} {l : List Tok} (h : RdB w rb v l dp) : w.cell? ⟨rb, 1, none⟩ = some (.int .i64 dp) := cell_blk h.1 1
theorem RdB.fz {w : World} {rb dp : Nat} {v : Value} {l : List Tok} (h : RdB w rb v l dp) (j : Nat) : w.frozen? ⟨rb, j, none⟩ = false := froz_blk h.1 j
theorem RdB.told {w w' : World} {rb dp : Nat} {v : Value} {l : List Tok} (h : RdB w rb v l dp) (hb : Below w.heap.size w w') : RdB w' rb v l dp :=
  ⟨(hb.block rb h.lt).trans h.1, h.2.1.keep (fun b hb2 => hb.block b (by have := h.lt; omega)), h.2.2⟩
theorem RdB.less {w : World} {rb dp b off n c m c2 : Nat} {t : Tok} {l : List Tok} (h : RdB w rb (.slice (some ⟨b, off, none⟩) n c) (t :: l) dp) (hm : m = l.length) (hc2 : c2 = c - 1) : RdA (w.setCell ⟨rb, 0, none⟩ (.slice (some ⟨b, off + 3, none⟩) m c2)) rb l dp := RdA.less h.1 h.2.1 h.2.2 hm hc2
theorem RdB.last {w : World} {rb dp m : Nat} {v : Value} {A2 : Option Addr} {t : Tok} {l : List Tok} (h : RdB w rb v (t :: l) dp) (hm : m = l.length) (h0 : m = 0) : RdA (w.setCell ⟨rb, 0, none⟩ (.slice A2 m 0)) rb l dp := by
  obtain ⟨hb, h, hd⟩ := h
  obtain ⟨b, off, c, rfl, _⟩ := h.head
  exact RdA.last (t := t) hb hd hm h0
/-- Where the loop stands: what was read, or what it was given up with. -/
def PrSt (rb dp tight : Nat) (sub : List Tok → Rr) (res : Rr) (w : World) (L g : Nat) (tv : Value) (ev : Int) (W : World) : Prop :=
  Kept (· = rb) w W ∧ ((ev = 0 ∧ ∃ t l n, tv = tmV t ∧ RdA W rb l dp ∧ l.length < n ∧ l.length ≤ L ∧ g = l.length + 1 ∧ pairLoop sub tight n t l = res) ∨ (ev ≠ 0 ∧ g = 0 ∧ RdPost rb dp res w (.returned (.tuple #[tv, .int .i64 ev])) W))
set_option maxRecDepth 100000 in
set_option maxHeartbeats 3200000 in
theorem pairs_some (rb dp m k tight : Nat) (hk : tight + k = 10) (hk2 : 1 ≤ tight) (lead : List Tok → Rr) (hL : Ok1 42 rb dp m #[.int .i64 ((tight : Int) + 1)] (pairsK lead k)) (hs : Lss (pairsK lead k)) : Ok1 42 rb dp m #[.int .i64 (tight : Int)] (pairsK lead (k + 1)) := by
  intro l w hl h
  have hL1 : Calls Tryd.prog 42 #[.pointer (some ⟨rb, 0, none⟩), .int .i64 ((tight : Int) + 1)] w _ := hL l w hl h
  have e10 : 10 - k = tight := by omega
  obtain ⟨res, hres⟩ : ∃ res : Rr, pairsK lead (k + 1) l = res := ⟨_, rfl⟩
  rw [hres]
  rw [pairsK, e10] at hres
  have ht : tight ≤ 10 := by omega
  have HP1 := Lib.hid hL1
  have HLL := Lib.hid hL
  have hrb := h.lt
  clear hL1 hL h
  show Calls _ _ #[.pointer (some ⟨rb, 0, none⟩), .int .i64 (tight : Int)] _ _
  have HSS := Lib.hid hs
  obtain ⟨sub, hsub⟩ : ∃ sub, pairsK lead k = sub := ⟨_, rfl⟩
  rw [hsub] at HP1 HLL HSS hres
  clear hs hsub e10 hk k
  have HST : Hid (∀ v x W, RdPost rb dp (sub l) w (.returned (.tuple #[v, .int .i64 x])) W → ∃ g, PrSt rb dp tight sub res w m g v x W) := Lib.hid (by
    intro v x W hP
    obtain ⟨hk, hP⟩ := hP
    cases hM : sub l with
    | ok p =>
      obtain ⟨t, r⟩ := p
      rw [hM] at hP hres
      obtain ⟨he, hr⟩ := hP
      simp only [Ending.returned.injEq, Value.tuple.injEq, Array.mk.injEq, List.cons.injEq, Value.int.injEq, and_true, true_and] at he
      obtain ⟨rfl, rfl⟩ := he
      have := HSS.out _ _ _ hM
      exact ⟨_, hk, .inl ⟨rfl, t, r, r.length + 1, rfl, hr, by omega, by omega, rfl, hres⟩⟩
    | error er =>
      rw [hM] at hP hres
      obtain ⟨v', r, he, hr, hne, hi⟩ := hP
      simp only [Ending.returned.injEq, Value.tuple.injEq, Array.mk.injEq, List.cons.injEq, Value.int.injEq, and_true, true_and] at he
      obtain ⟨rfl, rfl⟩ := he
      exact ⟨0, hk, .inr ⟨hne, rfl, by rw [← hres]; exact ⟨hk, _, r, rfl, hr, hne, hi⟩⟩⟩)
  clear hres
  go_enter Tryd.func42, Tryd.ntmps42
  go_wp2_with fail
  refine HP1.out.mono ?_
  intro e W hP
  obtain ⟨v, x, rfl, _⟩ := hP.form
  obtain ⟨g, hg⟩ := HST.out _ _ _ hP
  have HG := Lib.hid hg
  clear hP hg
  go_wp2_with fail
  go_loopg [6, 7] g (fun gk y6 y7 wr => ∃ ev : Int, y7 = .int .i64 ev ∧ PrSt rb dp tight sub res w m gk y6 ev wr)
  case atStart => exact ⟨x, rfl, HG.out⟩
  case round =>
    clear HG HST HP1
    have fk0 := fieldK0
    obtain ⟨ev, rfl, hk, hrel⟩ := hrel
    rcases hrel with ⟨rfl, t, r, n, rfl, hr, hn, hrl, hgk, hp⟩ | ⟨hne, hg0, hP⟩
    · have HK := Lib.hid hk
      have HP := Lib.hid hp
      have HGK := Lib.hid hgk
      obtain ⟨v0, hr⟩ := hr
      replace hr : RdB wr rb v0 r dp := hr
      generalize htv : tmV t = tv at *
      have HTV := Lib.hid htv
      clear hk hp hgk htv
      cases r with
      | nil =>
        have hres : res = .ok (t, []) := by
          rw [← HP.out]
          obtain ⟨n, rfl⟩ : ∃ n', n = n' + 1 := ⟨n - 1, by omega⟩
          rfl
        have HN := Lib.hid (next_none rb dp wr hr.a)
        have HT := Lib.hid (tight_any [])
        rw [show tightOf [] = 0 from rfl] at HT
        unfold noTok at HN
        have HE : Hid (∀ W, Below wr.heap.size wr W → RdPost rb dp res w (.returned (.tuple #[tv, .int .i64 0])) W) := Lib.hid (fun W hb => RdPost.yes hres HTV.out.symm (HK.out.trans (kept_of_below hb)) (hr.told hb).a)
        generalize nm [] = S at *
        clear hr hres
        go_wp2_with (first | (go_at_call 50; refine HN.out.mono ?_; rintro e W1 ⟨rfl, hb⟩; have HB1 := Lib.hid hb; clear hb) | (go_at_call 51; refine (HT.out _).mono ?_; rintro e W2 ⟨rfl, rfl⟩))
        go_ret2
        exact HE.out _ HB1.out
      | cons u r =>
        have HN : Hid (∀ W, Below wr.heap.size wr W → Calls Tryd.prog 50 #[.pointer (some ⟨rb, 0, none⟩)] W fun e w' => e = .returned (tokV u) ∧ Below W.heap.size W w') := Lib.hid (fun W hb => next_some u r rb dp W (hr.told hb).a)
        have HT := Lib.hid (tight_any (sgOf u))
        unfold tokV at HN
        have HB0 := Lib.hid (Below.refl wr.heap.size wr)
        by_cases hu : tightOf (sgOf u) = tight
        · obtain ⟨sg, rfl⟩ : ∃ sg, u = .sg sg := by
            cases u with
            | sg s => exact ⟨s, rfl⟩
            | num x k => exact absurd hu (by show ¬ 0 = tight; omega)
            | nam x => exact absurd hu (by show ¬ 0 = tight; omega)
          obtain ⟨n, rfl⟩ : ∃ n', n = n' + 1 := ⟨n - 1, by omega⟩
          have hHU : tightOf sg = tight := hu
          have HNX : Hid (∀ W3 v x W4, Kept (· = rb) wr W3 → RdPost rb dp (sub r) W3 (.returned (.tuple #[v, .int .i64 x])) W4 → ∃ g', g' < gk ∧ PrSt rb dp tight sub res w m g' (.iface 97 (.agg #[.string (nm sg), tv, v])) x W4) := Lib.hid (by
            intro W3 v x W4 hk3 hP4
            have hp := HP.out
            unfold pairLoop at hp
            simp only at hp
            rw [if_pos hHU] at hp
            obtain ⟨hk4, hP4⟩ := hP4
            have hkk := HK.out.trans (hk3.trans hk4)
            cases hM : sub r with
            | ok p =>
              obtain ⟨t2, r2⟩ := p
              rw [hM] at hP4 hp
              obtain ⟨he, hr4⟩ := hP4
              simp only [Ending.returned.injEq, Value.tuple.injEq, Array.mk.injEq, List.cons.injEq, Value.int.injEq, and_true, true_and] at he
              obtain ⟨rfl, rfl⟩ := he
              have hl2 := HSS.out _ _ _ hM
              have hgk := HGK.out
              simp only [List.length_cons] at hn hrl hgk
              refine ⟨r2.length + 1, by omega, hkk, .inl ⟨rfl, .pair sg t t2, r2, n, ?_, hr4, by omega, by omega, rfl, hp⟩⟩
              rw [← HTV.out]; rfl
            | error er =>
              rw [hM] at hP4 hp
              obtain ⟨v', r4, he, hr4, hne, _⟩ := hP4
              simp only [Ending.returned.injEq, Value.tuple.injEq, Array.mk.injEq, List.cons.injEq, Value.int.injEq, and_true, true_and] at he
              obtain ⟨rfl, rfl⟩ := he
              have hgk := HGK.out
              exact ⟨0, by omega, hkk, .inr ⟨hne, rfl, RdPost.no hp.symm hne (.inr ⟨_, _, rfl⟩) hkk hr4⟩⟩)
          obtain ⟨b, off, c, rfl, hlt, hlc, hlm, _, _⟩ := hr.2.1.head
          have HC : Hid (∀ W mm c2, Below wr.heap.size wr W → mm = r.length → c2 = c - 1 → Calls Tryd.prog 42 #[.pointer (some ⟨rb, 0, none⟩), .int .i64 ((tight : Int) + 1)] (W.setCell ⟨rb, 0, none⟩ (.slice (some ⟨b, off + 3, none⟩) mm c2)) (RdPost rb dp (sub r) (W.setCell ⟨rb, 0, none⟩ (.slice (some ⟨b, off + 3, none⟩) mm c2)))) :=
            Lib.hid (fun W mm c2 hW hm h2 => HLL.out r _ (by simp only [List.length_cons] at hrl; omega) ((hr.told hW).less hm h2))
          have HC2 : Hid (∀ W A2 mm, Below wr.heap.size wr W → mm = r.length → mm = 0 → Calls Tryd.prog 42 #[.pointer (some ⟨rb, 0, none⟩), .int .i64 ((tight : Int) + 1)] (W.setCell ⟨rb, 0, none⟩ (.slice A2 mm 0)) (RdPost rb dp (sub r) (W.setCell ⟨rb, 0, none⟩ (.slice A2 mm 0)))) :=
            Lib.hid (fun W A2 mm hW hm h2 => HLL.out r _ (by simp only [List.length_cons] at hrl; omega) ((hr.told hW).last hm h2))
          have HKK : Hid (∀ W v, Below wr.heap.size wr W → Kept (· = rb) wr (W.setCell ⟨rb, 0, none⟩ v)) := Lib.hid (fun W v hW => (kept_of_below hW).trans (Kept.setCell (S := (· = rb)) ⟨rb, 0, none⟩ v rfl))
          have HR := Lib.hid hr
          have hS : sgOf (.sg sg) = sg := rfl
          rw [hS] at HN HT
          have hu2 : ((tightOf sg : Nat) : Int) = (tight : Int) := by omega
          generalize tightOf sg = tu at *
          generalize nm sg = S at *
          generalize nm (Tok.sg sg).text = T at *
          generalize nOf (.sg sg) = kk at *
          generalize hN : r.length = mm at *
          clear hr hu hHU hN hrl hn hlm hS
          go_wp2_with (first | (go_at_call 50; refine (HN.out _ HB0.out).mono ?_; rintro e W1 ⟨rfl, hb⟩; replace HB0 := Lib.hid (HB0.out.trans (hb.mono HB0.out.size)); have c0 := (HR.out.told HB0.out).c0; have f0 := (HR.out.told HB0.out).fz 0; have hrw := (HR.out.told HB0.out).lt; clear hb) | (go_at_call 51; refine (HT.out _).mono ?_; rintro e W2 ⟨rfl, rfl⟩))
          all_goals first | refine (HC.out _ _ _ HB0.out rfl rfl).mono ?_ | refine (HC2.out _ _ _ HB0.out rfl (by omega)).mono ?_
          all_goals
            intro e W4 hP4
            obtain ⟨v2, x2, rfl, hi2⟩ := hP4.form
            have hi1 : IfV tv := by have := tmV_if t; rwa [HTV.out] at this
            obtain ⟨g', hg', hst⟩ := HNX.out _ _ _ _ (HKK.out _ _ HB0.out) hP4
            have HST := Lib.hid hst
            have HGG := Lib.hid hg'
            clear hst hP4 HN HT HC HC2 HNX HKK HTV HR hg'
            rcases hi1 with rfl | ⟨T1, z1, rfl⟩ <;> rcases hi2 with rfl | ⟨T2, z2, rfl⟩ <;> (go_wp2_with fail; go_roundg g'; (case measure => exact HGG.out); (case rel => exact ⟨x2, rfl, HST.out⟩))
        · have hres : res = .ok (t, u :: r) := by
            rw [← HP.out]
            obtain ⟨n, rfl⟩ : ∃ n', n = n' + 1 := ⟨n - 1, by omega⟩
            unfold pairLoop
            cases u with
            | sg s => exact if_neg hu
            | num x k => rfl
            | nam x => rfl
          have HE : Hid (∀ W, Below wr.heap.size wr W → RdPost rb dp res w (.returned (.tuple #[tv, .int .i64 0])) W) := Lib.hid (fun W hb => RdPost.yes hres HTV.out.symm (HK.out.trans (kept_of_below hb)) (hr.told hb).a)
          have hu2 : ¬ ((tightOf (sgOf u) : Nat) : Int) = (tight : Int) := by omega
          generalize tightOf (sgOf u) = tu at *
          generalize nm (sgOf u) = S at *
          generalize nm u.text = T at *
          generalize nOf u = k at *
          clear hr hres hu
          go_wp2_with (first | (go_at_call 50; refine (HN.out _ HB0.out).mono ?_; rintro e W1 ⟨rfl, hb⟩; have HB1 := Lib.hid hb; clear hb) | (go_at_call 51; refine (HT.out _).mono ?_; rintro e W2 ⟨rfl, rfl⟩))
          go_ret2
          exact HE.out _ HB1.out
    · have HPP := Lib.hid hP
      have q := hne
      clear hk hP hg0
      go_wp2_with fail
      go_ret2
      exact HPP.out
theorem pairs_all (rb dp m : Nat) (lead : List Tok → Rr) (hL : Ok1 49 rb dp m #[] lead) (hs : Lss lead) : ∀ (k tight : Nat), tight + k = 11 → k ≤ 10 → Ok1 42 rb dp m #[.int .i64 (tight : Int)] (pairsK lead k)
  | 0, tight, h, _ => by
    have e : tight = 11 := by omega
    subst e
    exact pairs_zero rb dp m lead hL
  | k + 1, tight, h, hk => by
    refine pairs_some rb dp m k tight (by omega) (by omega) lead ?_ (pairsK_less hs k)
    have := pairs_all rb dp m lead hL hs k (tight + 1) (by omega) (by omega)
    exact this

end Go.Proofs.YtdegkfnlafgheaaDoor.Ar
