/- DERIVED. Texts of this claim, joined: ArRRk, ArRRk2. -/
import Derived.Test.YtcadnkanjlmfhaaGreatDoorAzQ21
import Derived.Test.YtcadnkanjlmfhaaGreatDoorAzQ22
import Derived.Test.YtcadnkanjlmfhaaGreatDoorAzQ20
import Derived.Test.YtcadnkanjlmfhaaGreatDoorAzQ15
import Derived.Test.YtcadnkanjlmfhaaGreatDoorAzQ10
import Derived.StillTailTactics
namespace Go.Proofs.YtcadnkanjlmfhaaGreatDoor.Ar
open Go.RowKit
open PathM WdM ArM
open Go.Proofs.YtcadnkanjlmfhaaGreatDoor.Wd
open Go.Proofs.YtcadnkanjlmfhaaGreatDoor.NumM (textL)
set_option linter.unusedVariables false

abbrev tN : TypeId := 59
/-- What Reckon comes to, of a term's nodes. -/
def RkR (t : Tm) : Prop := ∀ (D : Nat → Prop) (S N : Bs) (k : Int) (K : Value) (vs : Vs) (v : Value) (w : World), NdR D w t S N k K → VaIn w v vs → vs.length ≤ 64 → Calls Tryz.prog 17 #[.agg #[.string (nm S), .string (nm N), .int .i64 k, K], v] w (GoP v vs (reckonL t vs) w)
theorem GoP.form {v : Value} {vs0 : Vs} {m : Except Int (Int × Vs)} {w w' : World} {e : Ending} (h : GoP v vs0 m w e w') : ∃ n A k c x, e = .returned (.agg #[.int .i64 n, .slice A k c, .int .i64 x]) := by
  obtain ⟨_, h⟩ := h
  split at h
  · obtain ⟨A, k, c, rfl, _⟩ := h; exact ⟨_, _, _, _, _, rfl⟩
  · obtain ⟨n, A, k, c, rfl, _⟩ := h; exact ⟨_, _, _, _, _, rfl⟩
theorem GoP.fell {v : Value} {vs0 : Vs} {m : Except Int (Int × Vs)} {w w' : World} {n : Int} {A : Option Addr} {k c : Nat} {x : Int} (h : GoP v vs0 m w (.returned (.agg #[.int .i64 n, .slice A k c, .int .i64 x])) w') (hx : x ≠ 0) : m = .error x := by
  obtain ⟨_, h⟩ := h
  cases m with
  | error er =>
    obtain ⟨_, _, _, _, he, hne⟩ := h
    simp only [Ending.returned.injEq, Value.agg.injEq, Array.mk.injEq, List.cons.injEq, Value.int.injEq, and_true, true_and] at he
    rw [he.2.2]
  | ok p =>
    obtain ⟨_, _, _, he, _⟩ := h
    simp only [Ending.returned.injEq, Value.agg.injEq, Array.mk.injEq, List.cons.injEq, Value.int.injEq, and_true, true_and] at he
    exact absurd he.2.2 hx
theorem GoP.got {v : Value} {vs0 : Vs} {m : Except Int (Int × Vs)} {w w' : World} {n : Int} {A : Option Addr} {k c : Nat} (h : GoP v vs0 m w (.returned (.agg #[.int .i64 n, .slice A k c, .int .i64 0])) w') : ∃ vs, m = .ok (n, vs) ∧ VaIn w' (.slice A k c) vs ∧ vs.length ≤ 64 ∧ Src v vs0 w A k c vs := by
  obtain ⟨_, h⟩ := h
  cases m with
  | error er =>
    obtain ⟨_, _, _, _, he, hne⟩ := h
    simp only [Ending.returned.injEq, Value.agg.injEq, Array.mk.injEq, List.cons.injEq, Value.int.injEq, and_true, true_and] at he
    exact absurd he.2.2.symm hne
  | ok p =>
    obtain ⟨n', vs⟩ := p
    obtain ⟨A', k', c', he, hv, hl, hsrc⟩ := h
    simp only [Ending.returned.injEq, Value.agg.injEq, Array.mk.injEq, List.cons.injEq, Value.int.injEq, and_true, true_and] at he
    obtain ⟨rfl, he2⟩ := he
    rw [← he2] at hv
    simp only [Value.slice.injEq] at he2
    obtain ⟨rfl, rfl, rfl⟩ := he2
    exact ⟨vs, rfl, hv, hl, hsrc⟩
set_option maxRecDepth 100000 in
set_option maxHeartbeats 1600000 in
theorem rk_const (n : Int) : RkR (.const n) := by
  rintro D S N k K vs v w ⟨rfl, rfl, rfl, hk, A, m, c, rfl⟩ hv hl
  have HF : Hid (∀ A k' c', v = .slice A k' c' → ∀ o o2, GoP v vs (reckonL (.const k) vs) w (.returned (.agg #[.int .i64 k, .slice A k' c', .int .i64 0])) ((w.alloc o).alloc o2)) := Lib.hid (fun A k' c' e o o2 => by subst e; exact GoP.yes rfl (two_below w o o2) (hv.below (two_below w o o2)) hl (.inr ⟨rfl, rfl⟩))
  obtain ⟨Av, cv, rfl⟩ := hv.form
  have e1 := emp_yes (b := nm []) (by rw [nm_data])
  generalize GoP _ vs (reckonL (.const k) vs) w = Q at *
  generalize vs.length = len at *
  generalize nm [] = E at *
  clear hv
  go_enter Tryz.func17, Tryz.ntmps17
  go_wp2_with fail
  refine bodyPost_ret (results_cell_row rfl _ _ _ tG _ (0, 0) _ rfl (two_new _ _ _) Tryz.underlying64 rfl (by kernel_rfl)) rfl ?_
  exact HF.out _ _ _ rfl _ _
set_option maxRecDepth 100000 in
set_option maxHeartbeats 1600000 in
theorem rk_named (t : Bs) : RkR (.named t) := by
  rintro D S N k K vs v w ⟨rfl, rfl, ⟨ht, htl⟩, A, m, c, rfl⟩ hv hl
  have HVL : Hid (∀ W, Below w.heap.size w W → Calls Tryz.prog 30 #[v, .string (nm N)] W fun e w' => e = .returned (pairE (numberL vs N)) ∧ Below W.heap.size W w') := Lib.hid (fun W hW => (rvalue_any vs N v W (hv.below hW)).mono (by
    rintro e w' ⟨rfl, k, rfl⟩
    exact ⟨rfl, bel_drewN (Below.refl _ _) k⟩))
  have HB2 := Lib.hid (fun o o2 => two_below w o o2)
  obtain ⟨e1, e2⟩ := emp_no (b := nm N) (by rw [nm_data]; exact ht)
  have e3 := emp_yes (b := nm []) (by rw [nm_data])
  have HF : Hid (∀ W', Below w.heap.size w W' → ∃ n x, pairE (numberL vs N) = .tuple #[.int .i64 n, .int .i64 x] ∧ ∀ A k' c', v = .slice A k' c' → GoP v vs (reckonL (.named N) vs) w (.returned (.agg #[.int .i64 n, .slice A k' c', .int .i64 x])) W') := Lib.hid (fun W' hb => by
    cases hn : numberL vs N with
    | ok n => exact ⟨n, 0, rfl, fun A k' c' e => by subst e; exact GoP.yes (by rw [reckonL, hn]) hb (hv.below hb) hl (.inr ⟨rfl, rfl⟩)⟩
    | error er => exact ⟨0, er, rfl, fun A k' c' e => GoP.no (by rw [reckonL, hn]) (number_ne hn) hb⟩)
  obtain ⟨Av, cv, rfl⟩ := hv.form
  obtain ⟨nn, xx, hpe, _⟩ := HF.out w (Below.refl _ _)
  rw [hpe] at HVL HF
  have HFF : Hid (∀ W', Below w.heap.size w W' → GoP (.slice Av vs.length cv) vs (reckonL (.named N) vs) w (.returned (.agg #[.int .i64 nn, .slice Av vs.length cv, .int .i64 xx])) W') := Lib.hid (fun W' hb => by
    obtain ⟨n2, x2, he, hf⟩ := HF.out W' hb
    simp only [Value.tuple.injEq, Array.mk.injEq, List.cons.injEq, Value.int.injEq, and_true, true_and] at he
    obtain ⟨rfl, rfl⟩ := he
    exact hf _ _ _ rfl)
  clear HF hpe hv ht htl
  generalize GoP _ vs (reckonL (.named N) vs) w = Q at *
  generalize vs.length = len at *
  generalize nm N = NB at *
  generalize nm [] = E at *
  go_enter Tryz.func17, Tryz.ntmps17
  have HX0 := Lib.hid (fun o => two_new w o (.cells z3 tG))
  go_wp2_with (go_at_call 30; refine (HVL.out _ (HB2.out _ _)).mono ?_; rintro e W2 ⟨rfl, hb2⟩; have HX2 := Lib.hid ((hb2.block (w.heap.size + 1) (by simp)).trans (HX0.out _)); have HW2 := Lib.hid ((HB2.out _ _).trans (hb2.mono (HB2.out _ _).size)); obtain ⟨d0, d1, d2, p0, p1, p2, hz⟩ := box3 HX2.out; clear hb2)
  refine bodyPost_ret (results_cell_row rfl _ _ _ tG _ (0, 0) _ rfl (three_set HX2.out _ _ _).1 Tryz.underlying64 rfl (by kernel_rfl)) rfl ?_
  exact HFF.out _ (kept_box HW2.out (Nat.le_succ _) (three_set HX2.out _ _ _).2)
/-- A part of a node, as it is handed on. -/
theorem kid_call {t : Tm} {D : Nat → Prop} {w : World} {b off : Nat} (hk : KidAt w b off (NdR D w t)) (hb : b < w.heap.size) (ih : RkR t) : ∃ S N k A m c, (∀ W, Below w.heap.size w W → W.cell? ⟨b, off, none⟩ = some (.string S) ∧ W.cell? ⟨b, off + 1, none⟩ = some (.string N) ∧ W.cell? ⟨b, off + 2, none⟩ = some (.int .i64 k) ∧ W.cell? ⟨b, off + 3, none⟩ = some (.slice A m c)) ∧
    ∀ W v vs, Below w.heap.size w W → VaIn W v vs → vs.length ≤ 64 → Calls Tryz.prog 17 #[.agg #[.string S, .string N, .int .i64 k, .slice A m c], v] W (GoP v vs (reckonL t vs) W) := by
  obtain ⟨S, N, k, K, h0, h1, h2, h3, hn⟩ := hk
  obtain ⟨A, m, c, rfl⟩ := hn.form
  refine ⟨nm S, nm N, k, A, m, c, fun W hW => ?_, fun W v vs hW hv hl => ih D S N k _ vs v W (NdR.keep (fun b h1 h2 => ⟨h1, Nat.lt_of_lt_of_le h2 hW.size, hW.block b h2⟩) _ _ _ _ _ hn) hv hl⟩
  have e := hW.block b hb
  exact ⟨(World.cell?_of_block e).trans h0, (World.cell?_of_block e).trans h1, (World.cell?_of_block e).trans h2, (World.cell?_of_block e).trans h3⟩
/-- Variables that came of a call, in a later world. -/
theorem va_on {v : Value} {vs vs' : Vs} {w W1 W4 W' : World} {A : Option Addr} {k c b : Nat} (hv : VaIn w v vs) (h1 : w.heap.size ≤ W1.heap.size) (hb1 : w.heap.size ≤ b ∧ b < W1.heap.size) (h9 : VaIn W4 (.slice A k c) vs') (hs : Src v vs W1 A k c vs') (hB : Below w.heap.size w W') (hk : Kept (· = b) W4 W') : VaIn W' (.slice A k c) vs' ∧ Src v vs w A k c vs' := by
  rcases hs with hs | ⟨hs, rfl⟩
  · refine ⟨?_, .inl (fun a ha => Nat.le_trans h1 (hs a ha))⟩
    obtain ⟨A', c', hv9, hl9, hc9⟩ := h9
    refine ⟨A', c', hv9, hl9, fun hne => ?_⟩
    obtain ⟨g, off, rfl, hg, hcs⟩ := hc9 hne
    simp only [Value.slice.injEq] at hv9
    have hge := hs _ hv9.1
    replace hge : W1.heap.size ≤ g := hge
    have e := hk.block g hg (by intro e; omega)
    exact ⟨g, off, rfl, Nat.lt_of_lt_of_le hg hk.size, fun i hi => ⟨(World.cell?_of_block e).trans (hcs i hi).1, (World.cell?_of_block e).trans (hcs i hi).2⟩⟩
  · exact ⟨by rw [hs]; exact hv.below hB, .inr ⟨hs, rfl⟩⟩
theorem gives_no {S : Bs} (h : S ∉ gvS) (W : World) : Calls Tryz.prog 28 #[.string (nm S)] W fun e w' => e = .returned (.bool false) ∧ Below W.heap.size W w' := by
  have := rgives_any S W
  rw [decide_eq_false h] at this
  exact this
/-- The boxes of a call of Reckon. -/
structure RkB (w W : World) (S N : ByteArray) (k : Int) (K : Value) : Prop where
  bel : Below w.heap.size w W
  x : W.heap[w.heap.size]? = some (.cells #[.string S, .string N, .int .i64 k, K] tN (0, 0))
  r : W.heap[w.heap.size + 1]? = some (.cells z3 tG (0, 0))
theorem RkB.begin (w : World) (S N : ByteArray) (k : Int) (K : Value) : RkB w ((w.alloc (.cells #[.string S, .string N, .int .i64 k, K] tN)).alloc (.cells z3 tG)) S N k K := ⟨two_below _ _ _, two_old _ _ _, two_new _ _ _⟩
theorem RkB.next {w W W' : World} {S N : ByteArray} {k : Int} {K : Value} (h : RkB w W S N k K) (hb : Below W.heap.size W W') : RkB w W' S N k K :=
  ⟨h.bel.trans (hb.mono h.bel.size), (hb.block _ (fin_at h.x)).trans h.x, (hb.block _ (fin_at h.r)).trans h.r⟩
theorem box4 {W : World} {b : Nat} {t : TypeId} {x0 x1 x2 x3 : Value} (h : W.heap[b]? = some (.cells #[x0, x1, x2, x3] t (0, 0))) : W.cell? ⟨b, 0, none⟩ = some x0 ∧ W.cell? ⟨b, 1, none⟩ = some x1 ∧ W.cell? ⟨b, 2, none⟩ = some x2 ∧ W.cell? ⟨b, 3, none⟩ = some x3 ∧ b < W.heap.size :=
  ⟨cell_blk h 0, cell_blk h 1, cell_blk h 2, cell_blk h 3, fin_at h⟩
theorem rk_led_m {s : Bs} {t : Tm} {vs vs' : Vs} {n : Int} (h : reckonL t vs = .ok (n, vs')) : reckonL (.led s t) vs = .ok (ofL s n, vs') := by rw [reckonL, h]
theorem rk_led_e {s : Bs} {t : Tm} {vs : Vs} {e : Int} (h : reckonL t vs = .error e) : reckonL (.led s t) vs = .error e := by rw [reckonL, h]
set_option maxRecDepth 100000 in
set_option maxHeartbeats 6400000 in
theorem rk_led (s : Bs) (t : Tm) (ht : TmOk t) (ih : RkR t) : RkR (.led s t) := by
  rintro D S N k K vs v w ⟨rfl, hlead, b, rfl, ⟨-, hb⟩, hkid⟩ hv hl
  obtain ⟨S0, N0, k0, A0, m0, c0, hcell, hcall⟩ := kid_call hkid hb ih
  have HCELL := Lib.hid hcell
  have hS : S = [43] ∨ S = [45] ∨ S = [33] ∨ S = [126] := by
    unfold leadsOf at hlead
    simp at hlead
    rcases hlead with ((h | h) | h) | h
    · exact .inl h
    · exact .inr (.inl h)
    · exact .inr (.inr (.inl h))
    · exact .inr (.inr (.inr h))
  have hng : S ∉ gvS := by rcases hS with rfl | rfl | rfl | rfl <;> decide
  have hne : S ≠ [] := by rcases hS with rfl | rfl | rfl | rfl <;> decide
  have HG := Lib.hid (gives_no hng)
  obtain ⟨e1, e2⟩ := emp_no (b := nm S) (by rw [nm_data]; exact hne)
  have HCALL : Hid (∀ W, Below w.heap.size w W → Calls Tryz.prog 17 #[.agg #[.string S0, .string N0, .int .i64 k0, .slice A0 m0 c0], v] W (GoP v vs (reckonL t vs) W)) := Lib.hid (fun W hW => hcall W v vs hW (hv.below hW) hl)
  have HIN := Lib.hid (fun n vs' => reckon_in t vs n vs' ht)
  obtain ⟨M, hM⟩ : ∃ M, reckonL t vs = M := ⟨_, rfl⟩
  obtain ⟨R, hR⟩ : ∃ R, reckonL (.led S t) vs = R := ⟨_, rfl⟩
  have HE : Hid (∀ x, M = .error x → R = .error x) := Lib.hid (fun x h => by rw [← hR]; exact rk_led_e (hM.trans h))
  have HY : Hid (∀ n vs', M = .ok (n, vs') → R = .ok (ofL S n, vs') ∧ In64 n) := Lib.hid (fun n vs' h => ⟨by rw [← hR]; exact rk_led_m (hM.trans h), HIN.out n vs' (hM.trans h)⟩)
  rw [hM] at HCALL
  rw [hR]
  have HB0 := Lib.hid (RkB.begin w (nm S) (nm N) k (.slice (some ⟨b, 0, none⟩) 1 1))
  have q45 := str_is S [45]
  have q33 := str_is S [33]
  have q126 := str_is S [126]
  have q61 := str_is S [61]
  have HVI := Lib.hid hv
  clear hcell hcall hkid hlead hng hne hv hR hM HIN
  generalize nm N = NB at *
  rcases hS with rfl | rfl | rfl | rfl
  all_goals
    first | (rw [show decide (([43] : Bs) = [45]) = false from rfl] at q45; rw [show decide (([43] : Bs) = [33]) = false from rfl] at q33; rw [show decide (([43] : Bs) = [126]) = false from rfl] at q126) | (rw [show decide (([45] : Bs) = [45]) = true from rfl] at q45; rw [show decide (([45] : Bs) = [33]) = false from rfl] at q33; rw [show decide (([45] : Bs) = [126]) = false from rfl] at q126) | (rw [show decide (([33] : Bs) = [45]) = false from rfl] at q45; rw [show decide (([33] : Bs) = [33]) = true from rfl] at q33; rw [show decide (([33] : Bs) = [126]) = false from rfl] at q126) | (rw [show decide (([126] : Bs) = [45]) = false from rfl] at q45; rw [show decide (([126] : Bs) = [33]) = false from rfl] at q33; rw [show decide (([126] : Bs) = [126]) = true from rfl] at q126)
    generalize nm _ = SB at *
    go_enter Tryz.func17, Tryz.ntmps17
    go_wp2_with (go_at_call 28; refine (HG.out _).mono ?_; rintro e W1 ⟨rfl, hb1⟩; have HB1 := Lib.hid (HB0.out.next hb1); obtain ⟨x0, x1, x2, x3, hx⟩ := box4 HB1.out.x; obtain ⟨y0, y1, y2, y3⟩ := HCELL.out W1 HB1.out.bel; have hbW := Nat.lt_of_lt_of_le hb HB1.out.bel.size; clear hb1)
    refine (HCALL.out _ HB1.out.bel).mono ?_
    intro e W4 hq
    obtain ⟨n9, A9, m9, c9, x9, rfl⟩ := hq.form
    have HQ := Lib.hid hq
    have HB4 := Lib.hid (HB1.out.next hq.1)
    clear hq x0 x1 x2 x3 y0 y1 y2 y3 hx hbW
    have HX4 := Lib.hid HB4.out.r
    obtain ⟨x0, x1, x2, x3, hx⟩ := box4 HB4.out.x
    obtain ⟨d0, d1, d2, p0, p1, p2, hz⟩ := box3 HB4.out.r
    by_cases hx9 : x9 = 0
    · subst hx9
      obtain ⟨vs', hM9, hv9, hl9, hs9⟩ := HQ.out.got
      obtain ⟨hR9, hi9⟩ := HY.out _ _ hM9
      have HF : Hid (∀ W' n, Kept (· = w.heap.size + 1) W4 W' → R = .ok (n, vs') → GoP v vs R w (.returned (.agg #[.int .i64 n, .slice A9 m9 c9, .int .i64 0])) W') := Lib.hid (fun W' n hk hn => by
        have hbb := kept_box HB4.out.bel (Nat.le_succ _) hk
        obtain ⟨g1, g2⟩ := va_on HVI.out HB1.out.bel.size ⟨Nat.le_succ _, fin_at HB1.out.r⟩ hv9 hs9 hbb hk
        exact GoP.yes hn hbb g1 hl9 g2)
      have HR9 := Lib.hid hR9
      clear hM9 hv9 hR9 hs9
      go_wp2_with (go_at_call 33; refine (rtruth_any _ _).mono ?_; rintro e W5 ⟨rfl, rfl⟩)
      refine bodyPost_ret (results_cell_row rfl _ _ _ tG _ (0, 0) _ rfl (three_then HX4.out _ _ _ _).1 Tryz.underlying64 rfl (by kernel_rfl)) rfl ?_
      refine HF.out _ _ (three_then HX4.out _ _ _ _).2 (HR9.out.trans (congrArg (fun n => (Except.ok (n, vs') : Except Int (Int × Vs))) ?_))
      first | rfl | (show bvL _ _ _ = _; rw [not_is _ hi9.1 hi9.2, ← wrapL_64]; unfold wrapL; rw [IntWalk.i64_in _ (by have := hi9.1; have := hi9.2; omega)]; omega) | (show wrapL _ = _; rw [wrapL_64])
    · have HF : Hid (∀ W', Kept (· = w.heap.size + 1) W4 W' → GoP v vs R w (.returned (.agg #[.int .i64 n9, .slice A9 m9 c9, .int .i64 x9])) W') := Lib.hid (fun W' hk => GoP.no (HE.out _ (HQ.out.fell hx9)) hx9 (kept_box HB4.out.bel (Nat.le_succ _) hk))
      go_wp2_with fail
      refine bodyPost_ret (results_cell_row rfl _ _ _ tG _ (0, 0) _ rfl (three_then HX4.out _ _ _ _).1 Tryz.underlying64 rfl (by kernel_rfl)) rfl ?_
      exact HF.out _ (three_then HX4.out _ _ _ _).2

end Go.Proofs.YtcadnkanjlmfhaaGreatDoor.Ar
namespace Go.Proofs.YtcadnkanjlmfhaaGreatDoor.Ar
open Go.RowKit
open PathM WdM ArM
open Go.Proofs.YtcadnkanjlmfhaaGreatDoor.Wd
open Go.Proofs.YtcadnkanjlmfhaaGreatDoor.NumM (textL)
set_option linter.unusedVariables false

theorem rk_choice_e {x y z : Tm} {vs : Vs} {e : Int} (h : reckonL x vs = .error e) : reckonL (.choice x y z) vs = .error e := by rw [reckonL, h]
theorem rk_choice_y {x y z : Tm} {vs vs' : Vs} {n : Int} (h : reckonL x vs = .ok (n, vs')) (hn : n ≠ 0) : reckonL (.choice x y z) vs = reckonL y vs' := by
  rw [reckonL, h]; dsimp only; rw [if_pos (by simpa using hn)]
theorem rk_choice_z {x y z : Tm} {vs vs' : Vs} {n : Int} (h : reckonL x vs = .ok (n, vs')) (hn : n = 0) : reckonL (.choice x y z) vs = reckonL z vs' := by
  rw [reckonL, h]; dsimp only; rw [if_neg (by simp [hn])]
/-- What a call comes to is handed on through the result's box. -/
theorem GoP.thru {v : Value} {vs vs9 : Vs} {R : Except Int (Int × Vs)} {w W1 W5 W6 : World} {A9 : Option Addr} {k9 c9 : Nat} {n : Int} {A : Option Addr} {k c : Nat} {x : Int} {b : Nat} (hv : VaIn w v vs) (hb1 : w.heap.size ≤ b ∧ b < W1.heap.size) (h1 : Below w.heap.size w W1)
    (hs9 : Src v vs W1 A9 k9 c9 vs9) (hB5 : Below W1.heap.size W1 W5) (hP : GoP (.slice A9 k9 c9) vs9 R W5 (.returned (.agg #[.int .i64 n, .slice A k c, .int .i64 x])) W6) (h9 : VaIn W5 (.slice A9 k9 c9) vs9) :
    ∀ W', Kept (· = b) W6 W' → GoP v vs R w (.returned (.agg #[.int .i64 n, .slice A k c, .int .i64 x])) W' := by
  intro W' hk
  have hd : Below w.heap.size w W' := kept_box ((h1.trans (hB5.mono h1.size)).trans (hP.1.mono (Nat.le_trans h1.size hB5.size))) hb1.1 hk
  by_cases hx : x = 0
  · subst hx
    obtain ⟨vs', hm, hv', hl', hs'⟩ := hP.got
    have hsrc : Src v vs W1 A k c vs' := by
      rcases hs' with hs' | ⟨hs', rfl⟩
      · exact .inl (fun a ha => Nat.le_trans hB5.size (hs' a ha))
      · simp only [Value.slice.injEq] at hs'
        obtain ⟨rfl, rfl, rfl⟩ := hs'
        exact hs9
    obtain ⟨g1, g2⟩ := va_on hv h1.size hb1 hv' hsrc hd hk
    exact GoP.yes hm hd g1 hl' g2
  · exact GoP.no (hP.fell hx) hx hd
set_option maxRecDepth 100000 in
set_option maxHeartbeats 6400000 in
theorem rk_choice (x y z : Tm) (ix : RkR x) (iy : RkR y) (iz : RkR z) : RkR (.choice x y z) := by
  rintro D S N k K vs v w ⟨rfl, b, rfl, ⟨-, hb⟩, hkx, hky, hkz⟩ hv hl
  obtain ⟨S0, N0, k0, A0, m0, c0, hcell0, hcall0⟩ := kid_call hkx hb ix
  obtain ⟨S1, N1, k1, A1, m1, c1, hcell1, hcall1⟩ := kid_call hky hb iy
  obtain ⟨S2, N2, k2, A2, m2, c2, hcell2, hcall2⟩ := kid_call hkz hb iz
  have HCELL0 := Lib.hid hcell0
  have HCELL1 := Lib.hid hcell1
  have HCELL2 := Lib.hid hcell2
  have HC1 := Lib.hid hcall1
  have HC2 := Lib.hid hcall2
  have HG := Lib.hid (gives_no (S := [63]) (by decide))
  obtain ⟨e1, e2⟩ := emp_no (b := nm [63]) (by rw [nm_data]; simp)
  have q63 : ((nm [63]).toList == [63]) = true := by rw [str_is]; rfl
  have q63' : (nm [63]).toList = [63] := by rw [listD, nm_data]
  have HCALL : Hid (∀ W, Below w.heap.size w W → Calls Tryz.prog 17 #[.agg #[.string S0, .string N0, .int .i64 k0, .slice A0 m0 c0], v] W (GoP v vs (reckonL x vs) W)) := Lib.hid (fun W hW => hcall0 W v vs hW (hv.below hW) hl)
  obtain ⟨M, hM⟩ : ∃ M, reckonL x vs = M := ⟨_, rfl⟩
  obtain ⟨R, hR⟩ : ∃ R, reckonL (.choice x y z) vs = R := ⟨_, rfl⟩
  have HE : Hid (∀ e, M = .error e → R = .error e) := Lib.hid (fun e h => by rw [← hR]; exact rk_choice_e (hM.trans h))
  have HY : Hid (∀ n vs', M = .ok (n, vs') → n ≠ 0 → R = reckonL y vs') := Lib.hid (fun n vs' h hn => by rw [← hR]; exact rk_choice_y (hM.trans h) hn)
  have HZ : Hid (∀ n vs', M = .ok (n, vs') → n = 0 → R = reckonL z vs') := Lib.hid (fun n vs' h hn => by rw [← hR]; exact rk_choice_z (hM.trans h) hn)
  rw [hM] at HCALL
  rw [hR]
  have HB0 := Lib.hid (RkB.begin w (nm [63]) (nm N) k (.slice (some ⟨b, 0, none⟩) 3 3))
  have HVI := Lib.hid hv
  clear hcell0 hcall0 hcell1 hcall1 hcell2 hcall2 hkx hky hkz hv hR hM
  generalize nm N = NB at *
  generalize nm [63] = SB at *
  go_enter Tryz.func17, Tryz.ntmps17
  go_wp2_with (go_at_call 28; refine (HG.out _).mono ?_; rintro e W1 ⟨rfl, hb1⟩; have HB1 := Lib.hid (HB0.out.next hb1); obtain ⟨x0, x1, x2, x3, hx⟩ := box4 HB1.out.x; obtain ⟨y0, y1, y2, y3⟩ := HCELL0.out W1 HB1.out.bel; have hbW := Nat.lt_of_lt_of_le hb HB1.out.bel.size; clear hb1)
  refine (HCALL.out _ HB1.out.bel).mono ?_
  intro e W4 hq
  obtain ⟨n9, A9, m9, c9, x9, rfl⟩ := hq.form
  have HQ := Lib.hid hq
  have HB4 := Lib.hid (HB1.out.next hq.1)
  clear hq x0 x1 x2 x3 y0 y1 y2 y3 hx hbW
  have HX4 := Lib.hid HB4.out.r
  obtain ⟨x0, x1, x2, x3, hx⟩ := box4 HB4.out.x
  obtain ⟨d0, d1, d2, p0, p1, p2, hz⟩ := box3 HB4.out.r
  by_cases hx9 : x9 = 0
  · subst hx9
    obtain ⟨vs', hM9, hv9, hl9, hs9⟩ := HQ.out.got
    have HB5 := Lib.hid (fun o => HB4.out.next (al W4 o))
    have hn5 := fun o => heap_alloc_new W4 o
    have HV5 := Lib.hid (fun o => hv9.below (al W4 o))
    have HB15 := Lib.hid (fun o => HQ.out.1.alloc HQ.out.1.size o)
    have hcY := fun o => HCELL1.out _ (HB5.out o).bel
    have hcZ := fun o => HCELL2.out _ (HB5.out o).bel
    have hbW5 : b < W4.heap.size := Nat.lt_of_lt_of_le hb HB4.out.bel.size
    by_cases hn9 : n9 = 0
    · have hRZ := HZ.out _ _ hM9 hn9
      subst hn9
      have HRZ := Lib.hid hRZ
      have HSR := Lib.hid hs9
      clear hM9 hRZ hs9
      go_wp2_with fail
      refine wp_gen (fun W => RkB w W SB NB k (.slice (some ⟨b, 0, none⟩) 3 3) ∧ W.heap[W4.heap.size]? = some (.cells #[.int .i64 0, .slice A9 m9 c9, .int .i64 0] tG (0, 0)) ∧ VaIn W (.slice A9 m9 c9) vs' ∧ Below W1.heap.size W1 W ∧ W4.heap.size < W.heap.size) ⟨HB5.out _, hn5 _, HV5.out _, HB15.out _, by simp⟩ ?_
      rintro W5 ⟨hb5, hn5', hv5, hb15, hz5⟩
      have HB55 := Lib.hid hb5
      have HV55 := Lib.hid hv5
      have HB155 := Lib.hid hb15
      obtain ⟨x0, x1, x2, x3, hx⟩ := box4 hb5.x
      obtain ⟨a0, a1, a2, -, -, -, ha⟩ := box3 hn5'
      obtain ⟨y0, y1, y2, y3⟩ := HCELL2.out W5 hb5.bel
      have hbW5 : b < W5.heap.size := by omega
      generalize W4.heap.size = ab at *
      clear hb5 hn5' hv5 hb15 d0 d1 d2 p0 p1 p2 hz hn5 hcY hcZ HB5 HV5 HB15
      refine wp_region_still_tail 6 (by kernel_rfl) (by kernel_rfl) ?_
      simp only [List.take_succ_cons, List.take_zero, List.drop_succ_cons, List.drop_zero]
      repeat still_step
      refine wpStill_nil ?_
      change wpList _ _ _ _ _ W5.drew
      have h5d : Below W5.heap.size W5 W5.drew := (Below.refl _ _).drew
      have HBD := Lib.hid (HB55.out.next h5d)
      have HVD := Lib.hid (HV55.out.below h5d)
      have HD1 := Lib.hid (HB155.out.trans (h5d.mono HB155.out.size))
      generalize W5.drew = W6 at *
      go_wp2_with fail
      refine (HC2.out _ _ _ HBD.out.bel HVD.out hl9).mono ?_
      intro e W7 hq
      obtain ⟨n8, A8, m8, c8, x8, rfl⟩ := hq.form
      have hT := GoP.thru (b := w.heap.size + 1) HVI.out ⟨Nat.le_succ _, fin_at HB1.out.r⟩ HB1.out.bel HSR.out HD1.out hq HVD.out
      rw [← HRZ.out] at hT
      have HT := Lib.hid hT
      have HX7 := Lib.hid ((HBD.out.next hq.1).r)
      obtain ⟨d0, d1, d2, p0, p1, p2, hz⟩ := box3 HX7.out
      clear hq hT
      go_wp2_with fail
      refine bodyPost_ret (results_cell_row rfl _ _ _ tG _ (0, 0) _ rfl (three_set HX7.out _ _ _).1 Tryz.underlying64 rfl (by kernel_rfl)) rfl ?_
      exact HT.out _ (three_set HX7.out _ _ _).2
    · have hRZ := HY.out _ _ hM9 hn9
      have hnb : (n9 == 0) = false := by simpa using hn9
      have HRZ := Lib.hid hRZ
      have HSR := Lib.hid hs9
      clear hM9 hRZ hs9
      go_wp2_with fail
      refine wp_gen (fun W => RkB w W SB NB k (.slice (some ⟨b, 0, none⟩) 3 3) ∧ W.heap[W4.heap.size]? = some (.cells #[.int .i64 n9, .slice A9 m9 c9, .int .i64 0] tG (0, 0)) ∧ VaIn W (.slice A9 m9 c9) vs' ∧ Below W1.heap.size W1 W ∧ W4.heap.size < W.heap.size) ⟨HB5.out _, hn5 _, HV5.out _, HB15.out _, by simp⟩ ?_
      rintro W5 ⟨hb5, hn5', hv5, hb15, hz5⟩
      have HB55 := Lib.hid hb5
      have HV55 := Lib.hid hv5
      have HB155 := Lib.hid hb15
      obtain ⟨x0, x1, x2, x3, hx⟩ := box4 hb5.x
      obtain ⟨a0, a1, a2, -, -, -, ha⟩ := box3 hn5'
      obtain ⟨y0, y1, y2, y3⟩ := HCELL1.out W5 hb5.bel
      have hbW5 : b < W5.heap.size := by omega
      generalize W4.heap.size = ab at *
      clear hb5 hn5' hv5 hb15 d0 d1 d2 p0 p1 p2 hz hn5 hcY hcZ HB5 HV5 HB15
      refine wp_region_still_tail 6 (by kernel_rfl) (by kernel_rfl) ?_
      simp only [List.take_succ_cons, List.take_zero, List.drop_succ_cons, List.drop_zero]
      repeat still_step
      refine wpStill_nil ?_
      change wpList _ _ _ _ _ W5.drew
      have h5d : Below W5.heap.size W5 W5.drew := (Below.refl _ _).drew
      have HBD := Lib.hid (HB55.out.next h5d)
      have HVD := Lib.hid (HV55.out.below h5d)
      have HD1 := Lib.hid (HB155.out.trans (h5d.mono HB155.out.size))
      generalize W5.drew = W6 at *
      go_wp2_with fail
      refine (HC1.out _ _ _ HBD.out.bel HVD.out hl9).mono ?_
      intro e W7 hq
      obtain ⟨n8, A8, m8, c8, x8, rfl⟩ := hq.form
      have hT := GoP.thru (b := w.heap.size + 1) HVI.out ⟨Nat.le_succ _, fin_at HB1.out.r⟩ HB1.out.bel HSR.out HD1.out hq HVD.out
      rw [← HRZ.out] at hT
      have HT := Lib.hid hT
      have HX7 := Lib.hid ((HBD.out.next hq.1).r)
      obtain ⟨d0, d1, d2, p0, p1, p2, hz⟩ := box3 HX7.out
      clear hq hT
      go_wp2_with fail
      refine bodyPost_ret (results_cell_row rfl _ _ _ tG _ (0, 0) _ rfl (three_set HX7.out _ _ _).1 Tryz.underlying64 rfl (by kernel_rfl)) rfl ?_
      exact HT.out _ (three_set HX7.out _ _ _).2
  · have HF : Hid (∀ W', Kept (· = w.heap.size + 1) W4 W' → GoP v vs R w (.returned (.agg #[.int .i64 n9, .slice A9 m9 c9, .int .i64 x9])) W') := Lib.hid (fun W' hk => GoP.no (HE.out _ (HQ.out.fell hx9)) hx9 (kept_box HB4.out.bel (Nat.le_succ _) hk))
    go_wp2_with fail
    refine bodyPost_ret (results_cell_row rfl _ _ _ tG _ (0, 0) _ rfl (three_then HX4.out _ _ _ _).1 Tryz.underlying64 rfl (by kernel_rfl)) rfl ?_
    exact HF.out _ (three_then HX4.out _ _ _ _).2

end Go.Proofs.YtcadnkanjlmfhaaGreatDoor.Ar
