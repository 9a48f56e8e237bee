/- DERIVED. Texts of this claim, joined: ArEval, ArAwk, ArLawB. -/
import Derived.Test.YtcadnkanjlmfhaaGreatDoorAzQ16
import Derived.Test.YtcadnkanjlmfhaaGreatDoorAzQ10
namespace Go.Proofs.YtcadnkanjlmfhaaGreatDoor.Ar
open Go.RowKit
open PathM WdM ArM
open Go.Proofs.YtcadnkanjlmfhaaGreatDoor.Wd
open Go.Proofs.YtcadnkanjlmfhaaGreatDoor.NumM (textL)
set_option linter.unusedVariables false

theorem flat_len (vs : Vs) : (vs.flatMap varC).length = vs.length * 2 := by
  induction vs with
  | nil => rfl
  | cons x vs ih => rw [List.flatMap_cons, List.length_append, ih, List.length_cons]; simp [varC]; omega
theorem flat_one (vs : Vs) : ∀ u ∈ vs.flatMap varC, u.oneCell' = true := by
  intro u hu
  obtain ⟨x, _, hx⟩ := List.mem_flatMap.1 hu
  exact oneV _ _ u hx
theorem flat_cell {w : World} {b off : Nat} {vs : Vs} (h : ∀ i (h : i < vs.length), w.cell? ⟨b, off + i * 2, none⟩ = some (.string (nm vs[i].1)) ∧ w.cell? ⟨b, off + i * 2 + 1, none⟩ = some (.string (nm vs[i].2))) (j : Nat) (u : Value) (hj : (vs.flatMap varC)[j]? = some u) : w.cell? ⟨b, off + j, none⟩ = some u := by
  have hl := (List.getElem?_eq_some_iff.1 hj).1
  rw [flat_len] at hl
  have hi : j / 2 < vs.length := by omega
  obtain ⟨a0, a1⟩ := varC_at vs (j / 2) hi
  obtain ⟨c0, c1⟩ := h (j / 2) hi
  rcases Nat.mod_two_eq_zero_or_one j with h2 | h2
  · have e : j / 2 * 2 = j := by omega
    rw [e] at a0 c0
    rw [a0] at hj
    rw [c0]; exact hj
  · have e : j / 2 * 2 + 1 = j := by omega
    rw [e] at a1
    rw [Nat.add_assoc, e] at c1
    rw [a1] at hj
    rw [c1]; exact hj
theorem sizeV (w : World) : (Go.sizeOf 35).run Tryz.prog w = .ok 2 w := by kernel_rfl
theorem eqlNilV (w : World) (a : Option Addr) (n c n' c' : Nat) : (binOp .eql 22 (.slice a n c) (.slice none n' c')).run Tryz.prog w = .ok (.bool a.isNone) w := Lib.run_eql_slice_nil w _ _ a n c n' c' Tryz.underlying22
set_option maxHeartbeats 1600000 in
/-- A copy of variables. -/
theorem clone_any (vs : Vs) (v : Value) (w : World) (h : VaIn w v vs) (hl : vs.length ≤ 64) :
    Calls Tryz.prog 13 #[v] w fun e w' => ∃ v', e = .returned v' ∧ w'.ownsRow w.heap.size 35 2 v' vs.length (vs.flatMap varC) ∧ Below w.heap.size w w' := by
  obtain ⟨i0, hi, hz0, hz1, hz2⟩ := info_parts infoV
  obtain ⟨A, c, rfl, hsz, hc⟩ := h
  cases A with
  | none =>
    have : vs = [] := by
      cases vs with
      | nil => rfl
      | cons x vs => obtain ⟨b, off, e, _⟩ := hc (by simp); cases e
    subst this
    refine (Tryz.slices_CloneV_nil 0 c w).mono ?_
    rintro e w' ⟨rfl, rfl⟩
    exact ⟨_, rfl, World.ownsRow_nil _ _ _ _, Below.refl _ _⟩
  | some ad =>
    cases hv : vs with
    | nil =>
      have q22 := eqlNilV
      have HI := Lib.hid hi; have HZ0 := Lib.hid hz0; have HZ1 := Lib.hid hz1; have HZ2 := Lib.hid hz2; clear hi hz0 hz1 hz2 hc hsz hl hv
      show Calls _ _ #[.slice (some ad) 0 c] _ _
      go_enter Tryz.func13, Tryz.ntmps13
      go_wp2_with (at_builtin; refine wpList_append_own _ rfl _ _ 22 rfl w.heap.size 35 i0 (.agg #[.string ByteArray.empty, .string ByteArray.empty]) 2 32 Tryz.underlying22 HI.out HZ0.out HZ1.out HZ2.out rfl (by decide) _ _ _ rfl (World.ownsRow_made w #[] 0 (Nat.le_refl _) (Nat.zero_le _) (by simp)) ad 0 c [] rfl rfl (fun j u hj => by simp at hj) (by simp) (by unfold maxLen; omega) (by omega) (by simp) ?_; intro v' w1 hown hgrow _; have HO := Lib.hid hown; have HB := Lib.hid (((Below.refl _ w).alloc (Nat.le_refl _) _).grown hgrow (by simp) (by intro k hk; have hk : some w.heap.size = some k := hk; cases hk; exact Nat.le_refl _)); clear hown hgrow)
      go_ret
      exact ⟨v', rfl, by simpa using HO.out, HB.out⟩
    | cons x r =>
      obtain ⟨b, off, e, hb, hcs⟩ := hc (by rw [hv]; simp)
      cases e
      rw [← hv]
      refine (Tryz.slices_CloneV i0 _ 2 32 hi hz0 hz1 hz2 rfl (by decide) sizeV b off vs.length c (vs.flatMap varC) w (flat_len vs) (by unfold maxLen; omega) (by omega) (fun j u hj => flat_cell hcs j u hj) (flat_one vs)).mono ?_
      rintro e w' ⟨v', rfl, h1, _, h3⟩
      exact ⟨v', rfl, h1, h3⟩
theorem VaIn.drewN {w : World} {v : Value} {vs : Vs} (h : VaIn w v vs) (n : Nat) : VaIn (w.drewN n) v vs := h
theorem TksIn.mono {B B' : Nat} {w : World} {v : Value} {l : List Tok} (h : TksIn B w v l) (hb : B ≤ B') : TksIn B' w v l := by
  obtain ⟨A, c, hv, hl, h⟩ := h
  refine ⟨A, c, hv, hl, fun hne => ?_⟩
  obtain ⟨b, off, hA, hlt, hc⟩ := h hne
  exact ⟨b, off, hA, by omega, hc⟩
theorem TksIn.next {w w' : World} {v : Value} {l : List Tok} (h : TksIn w.heap.size w v l) (hb : Below w.heap.size w w') : TksIn w'.heap.size w' v l := (h.keep (fun b hlt => hb.block b hlt)).mono hb.size
theorem TksIn.toks {B : Nat} {w : World} {v : Value} {l : List Tok} (h : TksIn B w v l) : Toks l := by
  obtain ⟨_, _, _, ⟨_, _, hk⟩, _⟩ := h
  intro x hx
  have := hk x hx
  cases x with
  | sg s => trivial
  | num t n => exact ⟨by have := this.1; omega, this.2⟩
  | nam t => exact this
theorem TksIn.form {B : Nat} {w : World} {v : Value} {l : List Tok} (h : TksIn B w v l) : ∃ A c, v = .slice A l.length c := by
  obtain ⟨A, c, hv, _⟩ := h; exact ⟨A, c, hv⟩
/-- How Eval ends. -/
def EvPost (m : Except Int (Int × Vs)) (w : World) (e : Ending) (w' : World) : Prop := Below w.heap.size w w' ∧ match m with
  | .ok (n, vs') => In64 n ∧ ∃ v', e = .returned (.tuple #[.int .i64 n, v', .int .i64 0]) ∧ VaIn w' v' vs' ∧ vs'.length ≤ 64
  | .error er => er ≠ 0 ∧ e = .returned (.tuple #[.int .i64 0, .slice none 0 0, .int .i64 er])
theorem EvPost.er {m : Except Int (Int × Vs)} {w w' : World} {er : Int} (hm : m = .error er) (h0 : er ≠ 0) (hb : Below w.heap.size w w') : EvPost m w (.returned (.tuple #[.int .i64 0, .slice none 0 0, .int .i64 er])) w' := by subst hm; exact ⟨hb, h0, rfl⟩
theorem EvPost.yes {m : Except Int (Int × Vs)} {w w' : World} {n : Int} {vs' : Vs} {v' : Value} (hm : m = .ok (n, vs')) (hn : In64 n) (hv : VaIn w' v' vs') (hl : vs'.length ≤ 64) (hb : Below w.heap.size w w') : EvPost m w (.returned (.tuple #[.int .i64 n, v', .int .i64 0])) w' := by subst hm; exact ⟨hb, hn, v', rfl, hv, hl⟩
theorem ev_limit {s : Bs} {vs : Vs} (h : 8192 < s.length ∨ 64 < vs.length) : evalL s vs = .error 2 := by unfold evalL; rw [if_pos h]
theorem ev_cut {s : Bs} {vs : Vs} {e : Int} (h : ¬ (8192 < s.length ∨ 64 < vs.length)) (hc : cutL s = .error e) : evalL s vs = .error e := by unfold evalL; rw [if_neg h, hc]
theorem ev_none {s : Bs} {vs : Vs} (h : ¬ (8192 < s.length ∨ 64 < vs.length)) (hc : cutL s = .ok []) : evalL s vs = .ok (0, vs) := by unfold evalL; rw [if_neg h, hc]; rfl
theorem ev_read {s : Bs} {vs : Vs} {l : List Tok} {e : Int} (h : ¬ (8192 < s.length ∨ 64 < vs.length)) (hc : cutL s = .ok l) (hl : l ≠ []) (hr : readL l = .error e) : evalL s vs = .error e := by unfold evalL; rw [if_neg h, hc]; dsimp only; rw [if_neg (by simpa using hl), hr]
theorem ev_reck {s : Bs} {vs : Vs} {l : List Tok} {t : Tm} (h : ¬ (8192 < s.length ∨ 64 < vs.length)) (hc : cutL s = .ok l) (hl : l ≠ []) (hr : readL l = .ok t) : evalL s vs = reckonL t vs := by unfold evalL; rw [if_neg h, hc]; dsimp only; rw [if_neg (by simpa using hl), hr]
set_option maxRecDepth 100000 in
set_option maxHeartbeats 1600000 in
theorem eval_limit (s : Bs) (vs : Vs) (v : Value) (w : World) (hv : VaIn w v vs) (hl : s.length ≤ 4611686018427387904) (h : 8192 < s.length ∨ 64 < vs.length) :
    Calls Tryz.prog 7 #[.string (nm s), v] w (EvPost (evalL s vs) w) := by
  have HF := Lib.hid (EvPost.er (ev_limit h) (by decide) (Below.refl w.heap.size w))
  obtain ⟨A, c, rfl⟩ := hv.form
  have hsz : (nm s).size = s.length := nm_size s
  obtain ⟨sz, hsz2⟩ : ∃ sz, s.length = sz := ⟨_, rfl⟩
  rw [hsz2] at hsz h hl
  have HZ := Lib.hid hsz
  have hle : vs.length ≤ 1000000 := by obtain ⟨_, _, _, ⟨h, _⟩, _⟩ := hv; exact h
  generalize evalL s vs = M at *
  by_cases h1 : 8192 < sz
  · have h1' : 8192 < (nm s).size := by rw [hsz]; exact h1
    have h2' : (nm s).size ≤ 4611686018427387904 := by rw [hsz]; exact hl
    generalize vs.length = n at *
    generalize nm s = S at *
    clear hv h hsz hsz2 h1
    go_enter Tryz.func7, Tryz.ntmps7
    go_wp2_with fail
    go_ret3
    exact HF.out
  · have h1' : (nm s).size ≤ 8192 := by rw [hsz]; omega
    have h2 : 64 < vs.length := by omega
    generalize vs.length = n at *
    generalize nm s = S at *
    clear hv h hsz hsz2 h1
    go_enter Tryz.func7, Tryz.ntmps7
    go_wp2_with fail
    go_ret3
    exact HF.out
set_option maxRecDepth 100000 in
set_option maxHeartbeats 1600000 in
theorem eval_cut (s : Bs) (vs : Vs) (v : Value) (w : World) (hg : SigIn w) (hv : VaIn w v vs) (h1 : s.length ≤ 8192) (h2 : vs.length ≤ 64) (er : Int) (hc : cutL s = .error er) :
    Calls Tryz.prog 7 #[.string (nm s), v] w (EvPost (evalL s vs) w) := by
  have hq := ev_cut (vs := vs) (by omega) hc
  have hcu := cut_any s w hg h1
  rw [hc] at hcu
  have HC := Lib.hid hcu
  have HF : Hid (∀ W, Below w.heap.size w W → er ≠ 0 → EvPost (evalL s vs) w (.returned (.tuple #[.int .i64 0, .slice none 0 0, .int .i64 er])) W) := Lib.hid (fun W hb h0 => EvPost.er hq h0 hb)
  obtain ⟨A, c, rfl⟩ := hv.form
  have h1' : (nm s).size ≤ 8192 := by rw [nm_size]; exact h1
  generalize evalL s vs = M at *
  generalize vs.length = n at *
  generalize nm s = S at *
  clear hv hq hc hcu h1 hg
  go_enter Tryz.func7, Tryz.ntmps7
  go_wp2_with fail
  refine HC.out.mono ?_
  rintro e W ⟨hb, h0, rfl⟩
  have hqq : (er != 0) = true := by simpa using h0
  have HFF := Lib.hid (HF.out W hb h0)
  clear hb h0
  go_wp2_with fail
  go_ret3
  exact HFF.out
/-- The variables' box, made. -/
theorem vs_new {vs : Vs} {v v2 : Value} {w W W2 : World} (h : VaIn w v vs) (hl : vs.length ≤ 64) (hb : Below w.heap.size w W) (hr : W2.ownsRow W.heap.size 35 2 v2 vs.length (vs.flatMap varC)) (hb2 : Below W.heap.size W W2) : VS w.heap.size W2.heap.size vs v2 (W2.alloc (.cells #[v2] 44)) := by
  refine ⟨heap_alloc_new W2 _, ?_, fun e => ?_, hl, ?_⟩
  · have := hr.alloc (.cells #[v2] 44)
    obtain ⟨g1, g2⟩ := this
    refine ⟨g1, g2.imp id ?_⟩
    rintro ⟨g, cap, cur, hv, hg, hh, hr⟩
    exact ⟨g, cap, cur, hv, Nat.le_trans hb.size hg, hh, hr⟩
  · have := (hr.lt _ e).2; omega
  · obtain ⟨_, _, _, ⟨_, h⟩, _⟩ := h; exact h
set_option maxRecDepth 100000 in
set_option maxHeartbeats 1600000 in
theorem eval_some (s : Bs) (vs : Vs) (v : Value) (w : World) (hg : SigIn w) (hv : VaIn w v vs) (h1 : s.length ≤ 8192) (h2 : vs.length ≤ 64) (l : List Tok) (hc : cutL s = .ok l) :
    Calls Tryz.prog 7 #[.string (nm s), v] w (EvPost (evalL s vs) w) := by
  have hno : ¬ (8192 < s.length ∨ 64 < vs.length) := by omega
  have hcu := cut_any s w hg h1
  rw [hc] at hcu
  have HC := Lib.hid hcu
  have HCL : Hid (∀ W, Below w.heap.size w W → Calls Tryz.prog 13 #[v] W fun e w' => ∃ v', e = .returned v' ∧ w'.ownsRow W.heap.size 35 2 v' vs.length (vs.flatMap varC) ∧ Below W.heap.size W w') := Lib.hid (fun W hb => clone_any vs v W (hv.below hb) h2)
  have HVN : Hid (∀ W W2 v2, Below w.heap.size w W → W2.ownsRow W.heap.size 35 2 v2 vs.length (vs.flatMap varC) → Below W.heap.size W W2 → VS w.heap.size W2.heap.size vs v2 (W2.alloc (.cells #[v2] 44))) := Lib.hid (fun W W2 v2 hb hr hb2 => vs_new hv h2 hb hr hb2)
  obtain ⟨A, c, hvf⟩ := hv.form
  have h1' : (nm s).size ≤ 8192 := by rw [nm_size]; exact h1
  have hl2 := h2
  cases l with
  | nil =>
    have HF : Hid (∀ W v2, VaIn W v2 vs → Below w.heap.size w W → EvPost (evalL s vs) w (.returned (.tuple #[.int .i64 0, v2, .int .i64 0])) W) := Lib.hid (fun W v2 h hb => EvPost.yes (ev_none hno hc) ⟨by decide, by decide⟩ h h2 hb)
    generalize evalL s vs = M at *
    generalize nm s = S at *
    subst hvf
    have hn : vs.length ≤ 64 := h2
    obtain ⟨n, hnn⟩ : ∃ n, vs.length = n := ⟨_, rfl⟩
    rw [hnn] at hn
    have HNN := Lib.hid hnn
    clear hv hc hcu h1 hg hno hl2 h2
    rw [hnn] at HCL ⊢
    clear hnn
    go_enter Tryz.func7, Tryz.ntmps7
    go_wp2_with fail
    refine HC.out.mono ?_
    rintro e W ⟨hb, vt, rfl, htk⟩
    obtain ⟨At, ct, rfl⟩ := htk.form
    have HB := Lib.hid hb
    clear hb htk
    simp only [List.length_nil]
    go_wp2_with fail
    refine (HCL.out _ HB.out).mono ?_
    rintro e W2 ⟨v2, rfl, hr, hb2⟩
    have hvs := HVN.out W W2 v2 HB.out (by rw [HNN.out]; exact hr) hb2
    obtain ⟨A2, c2, rfl⟩ := hvs.va.form
    have hbf := HB.out.trans (hb2.mono HB.out.size)
    have HBF := Lib.hid (hbf.alloc hbf.size (.cells #[.slice A2 vs.length c2] 44))
    have HVA := Lib.hid hvs.va
    clear hr hb2 hvs hbf
    go_wp2_with fail
    go_quiet (fail)
    go_wp2_with fail
    go_ret3
    refine HF.out _ _ ?_ ?_
    · exact HVA.out.drewN nq
    · exact HBF.out.trans ⟨rfl, rfl, rfl, Nat.le_refl _, fun _ _ => rfl⟩
  | cons t l =>
    have hne : t :: l ≠ [] := by simp
    have HRD : Hid (∀ W vt, TksIn W.heap.size W vt (t :: l) → Calls Tryz.prog 14 #[vt] W (ReadPost (readL (t :: l)) W)) := Lib.hid (fun W vt h => read_any (t :: l) vt W h)
    cases hrd : readL (t :: l) with
    | error er =>
      rw [hrd] at HRD
      have hq := ev_read hno hc hne hrd
      have HF : Hid (∀ W, Below w.heap.size w W → er ≠ 0 → EvPost (evalL s vs) w (.returned (.tuple #[.int .i64 0, .slice none 0 0, .int .i64 er])) W) := Lib.hid (fun W hb h0 => EvPost.er hq h0 hb)
      generalize evalL s vs = M at *
      generalize nm s = S at *
      subst hvf
      have hn : vs.length ≤ 64 := h2
      obtain ⟨n, hnn⟩ : ∃ n, vs.length = n := ⟨_, rfl⟩
      rw [hnn] at hn
      have HNN := Lib.hid hnn
      clear hv hc hcu h1 hg hno hl2 h2 hne hq hrd
      rw [hnn] at HCL ⊢
      clear hnn
      go_enter Tryz.func7, Tryz.ntmps7
      go_wp2_with fail
      refine HC.out.mono ?_
      rintro e W ⟨hb, vt, rfl, htk⟩
      obtain ⟨At, ct, hvt⟩ := htk.form
      have HTK := Lib.hid htk
      have HVT := Lib.hid hvt
      have HB := Lib.hid hb
      rw [List.length_cons] at hvt
      subst hvt
      clear hb htk
      generalize l.length = ln at *
      go_wp2_with fail
      refine (HCL.out _ HB.out).mono ?_
      rintro e W2 ⟨v2, rfl, hr, hb2⟩
      have hvs := HVN.out W W2 v2 HB.out (by rw [HNN.out]; exact hr) hb2
      obtain ⟨A2, c2, rfl⟩ := hvs.va.form
      have hb3 := hb2.alloc hb2.size (.cells #[.slice A2 vs.length c2] 44)
      have HBF := Lib.hid (HB.out.trans (hb3.mono HB.out.size))
      have HRC := Lib.hid (HRD.out _ _ (HTK.out.next hb3))
      clear hr hb2 hb3 hvs HTK HVT HRD HCL HVN HC
      go_wp2_with fail
      refine HRC.out.mono ?_
      rintro e W3 ⟨hb3, vv, rfl, h0, hi⟩
      have hqq : (er != 0) = true := by simpa using h0
      have HFF := Lib.hid (HF.out W3 (HBF.out.trans (hb3.mono HBF.out.size)) h0)
      clear hb3 h0
      rcases hi with rfl | ⟨T, X, rfl⟩
      all_goals
        go_wp2_with fail
        go_ret3
        exact HFF.out
    | ok tm =>
      rw [hrd] at HRD
      have hq := ev_reck hno hc hne hrd
      have hTK : ∀ W vt, TksIn W.heap.size W vt (t :: l) → TmOk tm := fun W vt h => read_good h.toks hrd
      have HTM := Lib.hid hTK
      have hm := rk_method tm
      have he := rk_enters tm
      have HTV := Lib.hid (tm_if tm)
      cases hrk : reckonL tm vs with
      | error er =>
        rw [hrk] at hq
        have HF : Hid (∀ W, Below w.heap.size w W → er ≠ 0 → EvPost (evalL s vs) w (.returned (.tuple #[.int .i64 0, .slice none 0 0, .int .i64 er])) W) := Lib.hid (fun W hb h0 => EvPost.er hq h0 hb)
        have HRK : Hid (∀ W v2 vb, TmOk tm → w.heap.size ≤ vb → VS w.heap.size vb vs v2 W → w.heap.size ≤ W.heap.size → Calls Tryz.prog (rkF tm) #[rkX tm, .pointer (some ⟨vb, 0, none⟩)] W fun e w' => er ≠ 0 ∧ (∃ k, e = .returned (.tuple #[.int .i64 k, .int .i64 er])) ∧ (Below w.heap.size w W → Below w.heap.size w w')) := Lib.hid (by
          intro W v2 vb h0 hvb h1 h2
          have := reckon_any w.heap.size vb tm h0 vs v2 W h1 h2
          rw [hrk] at this
          refine this.mono ?_
          rintro e w' ⟨a, b, c⟩
          exact ⟨a, b, fun hb => hb.trans (c.below h2 (by rintro k (rfl | h) <;> omega))⟩)
        generalize evalL s vs = M at *
        generalize nm s = S at *
        subst hvf
        have hn : vs.length ≤ 64 := h2
        obtain ⟨n, hnn⟩ : ∃ n, vs.length = n := ⟨_, rfl⟩
        rw [hnn] at hn
        have HNN := Lib.hid hnn
        clear hv hc hcu h1 hg hno hl2 h2 hne hq hrd hTK hrk
        rw [hnn] at HCL ⊢
        clear hnn
        generalize rkT tm = T at *
        generalize rkX tm = X at *
        generalize rkF tm = F at *
        go_enter Tryz.func7, Tryz.ntmps7
        go_wp2_with fail
        refine HC.out.mono ?_
        rintro e W ⟨hb, vt, rfl, htk⟩
        obtain ⟨At, ct, hvt⟩ := htk.form
        have HTK := Lib.hid htk
        have HB := Lib.hid hb
        rw [List.length_cons] at hvt
        subst hvt
        clear hb htk
        generalize l.length = ln at *
        go_wp2_with fail
        refine (HCL.out _ HB.out).mono ?_
        rintro e W2 ⟨v2, rfl, hr, hb2⟩
        have hvs := HVN.out W W2 v2 HB.out (by rw [HNN.out]; exact hr) hb2
        obtain ⟨A2, c2, rfl⟩ := hvs.va.form
        have hb3 := hb2.alloc hb2.size (.cells #[.slice A2 vs.length c2] 44)
        have HBF := Lib.hid (HB.out.trans (hb3.mono HB.out.size))
        have HRC := Lib.hid (HRD.out _ _ (HTK.out.next hb3))
        have HTO := Lib.hid (HTM.out _ _ HTK.out)
        have HVS := Lib.hid hvs
        have hwb := Nat.le_trans HB.out.size hb2.size
        clear hr hb2 hb3 hvs HTK HRD HCL HVN HC
        go_wp2_with fail
        refine HRC.out.mono ?_
        rintro e W3 ⟨hb3, rfl⟩
        rw [HTV.out]
        have HB3 := Lib.hid (HBF.out.trans (hb3.mono HBF.out.size))
        have HRR := Lib.hid (HRK.out W3 _ W2.heap.size HTO.out hwb (HVS.out.below hb3) HB3.out.size)
        clear hb3
        go_wp2_with fail
        refine HRR.out.mono ?_
        rintro e W4 ⟨h0, ⟨k, rfl⟩, hbe⟩
        have hqq : (er != 0) = true := by simpa using h0
        have HFF := Lib.hid (HF.out W4 (hbe HB3.out) h0)
        clear h0 hbe hm he
        go_wp2_with fail
        go_ret3
        exact HFF.out
      | ok p =>
        obtain ⟨n0, vs2⟩ := p
        rw [hrk] at hq
        have HF : Hid (∀ W v2, TmOk tm → VaIn W v2 vs2 → vs2.length ≤ 64 → Below w.heap.size w W → EvPost (evalL s vs) w (.returned (.tuple #[.int .i64 n0, v2, .int .i64 0])) W) := Lib.hid (fun W v2 h0 h hl hb => EvPost.yes hq (reckon_in tm vs n0 vs2 h0 hrk) h hl hb)
        have HRK : Hid (∀ W v2 vb, TmOk tm → w.heap.size ≤ vb → VS w.heap.size vb vs v2 W → w.heap.size ≤ W.heap.size → Calls Tryz.prog (rkF tm) #[rkX tm, .pointer (some ⟨vb, 0, none⟩)] W fun e w' => e = .returned (.tuple #[.int .i64 n0, .int .i64 0]) ∧ ∃ v', VS w.heap.size vb vs2 v' w' ∧ (Below w.heap.size w W → Below w.heap.size w w')) := Lib.hid (by
          intro W v2 vb h0 hvb h1 h2
          have := reckon_any w.heap.size vb tm h0 vs v2 W h1 h2
          rw [hrk] at this
          refine this.mono ?_
          rintro e w' ⟨a, v', b, c⟩
          exact ⟨a, v', b, fun hb => hb.trans ((ow_wide h1 c.1).below h2 (by rintro k (rfl | h) <;> omega))⟩)
        generalize evalL s vs = M at *
        generalize nm s = S at *
        subst hvf
        have hn : vs.length ≤ 64 := h2
        obtain ⟨n, hnn⟩ : ∃ n, vs.length = n := ⟨_, rfl⟩
        rw [hnn] at hn
        have HNN := Lib.hid hnn
        clear hv hc hcu h1 hg hno hl2 h2 hne hq hrd hTK hrk
        rw [hnn] at HCL ⊢
        clear hnn
        generalize rkT tm = T at *
        generalize rkX tm = X at *
        generalize rkF tm = F at *
        go_enter Tryz.func7, Tryz.ntmps7
        go_wp2_with fail
        refine HC.out.mono ?_
        rintro e W ⟨hb, vt, rfl, htk⟩
        obtain ⟨At, ct, hvt⟩ := htk.form
        have HTK := Lib.hid htk
        have HB := Lib.hid hb
        rw [List.length_cons] at hvt
        subst hvt
        clear hb htk
        generalize l.length = ln at *
        go_wp2_with fail
        refine (HCL.out _ HB.out).mono ?_
        rintro e W2 ⟨v2, rfl, hr, hb2⟩
        have hvs := HVN.out W W2 v2 HB.out (by rw [HNN.out]; exact hr) hb2
        obtain ⟨A2, c2, rfl⟩ := hvs.va.form
        have hb3 := hb2.alloc hb2.size (.cells #[.slice A2 vs.length c2] 44)
        have HBF := Lib.hid (HB.out.trans (hb3.mono HB.out.size))
        have HRC := Lib.hid (HRD.out _ _ (HTK.out.next hb3))
        have HTO := Lib.hid (HTM.out _ _ HTK.out)
        have HVS := Lib.hid hvs
        have hwb := Nat.le_trans HB.out.size hb2.size
        clear hr hb2 hb3 hvs HTK HRD HCL HVN HC
        go_wp2_with fail
        refine HRC.out.mono ?_
        rintro e W3 ⟨hb3, rfl⟩
        rw [HTV.out]
        have HB3 := Lib.hid (HBF.out.trans (hb3.mono HBF.out.size))
        have HRR := Lib.hid (HRK.out W3 _ W2.heap.size HTO.out hwb (HVS.out.below hb3) HB3.out.size)
        clear hb3
        go_wp2_with fail
        refine HRR.out.mono ?_
        rintro e W4 ⟨rfl, v4, hv4, hbe⟩
        have hb4 := hbe HB3.out
        have HVA := Lib.hid hv4.va
        obtain ⟨A4, c4, hv4f⟩ := hv4.va.form
        have c0 := hv4.cell
        have z0 := hv4.lt
        rw [hv4f] at c0 HVA
        have HFF := Lib.hid (fun nq => HF.out (W4.drewN nq) _ HTO.out (HVA.out.drewN nq) hv4.len (hb4.trans ⟨rfl, rfl, rfl, Nat.le_refl _, fun _ _ => rfl⟩))
        clear hbe hm he hv4 hb4 hv4f HVA
        generalize vs2.length = n4 at *
        go_wp2_with fail
        go_quiet (fail)
        go_wp2_with fail
        go_ret3
        exact HFF.out _
/-- All of Eval. -/
theorem eval_any (s : Bs) (vs : Vs) (v : Value) (w : World) (hg : SigIn w) (hv : VaIn w v vs) (hl : s.length ≤ 4611686018427387904) :
    Calls Tryz.prog 7 #[.string (nm s), v] w (EvPost (evalL s vs) w) := by
  by_cases h : 8192 < s.length ∨ 64 < vs.length
  · exact eval_limit s vs v w hv hl h
  · cases hc : cutL s with
    | error er => exact eval_cut s vs v w hg hv (by omega) (by omega) er hc
    | ok l => exact eval_some s vs v w hg hv (by omega) (by omega) l hc
end Go.Proofs.YtcadnkanjlmfhaaGreatDoor.Ar
namespace Go.Proofs.YtcadnkanjlmfhaaGreatDoor.Ar
open Go.RowKit
open PathM WdM ArM
open Go.Proofs.YtcadnkanjlmfhaaGreatDoor.Wd
open Go.Proofs.YtcadnkanjlmfhaaGreatDoor.NumM (textL)
set_option linter.unusedVariables false

theorem var_same (a b : ByteArray) (w : World) : (binOp .neq 35 (.agg #[.string a, .string b]) (.agg #[.string a, .string b])).run Tryz.prog w = .ok (.bool false) w := by
  simp [go_sem]
theorem VaIn.at {w : World} {v : Value} {vs : Vs} (h : VaIn w v vs) (i : Nat) (hi : i < vs.length) : ∃ b off c, v = .slice (some ⟨b, off, none⟩) vs.length c ∧ b < w.heap.size ∧ w.cell? ⟨b, off + i * 2, none⟩ = some (.string (nm vs[i].1)) ∧ w.cell? ⟨b, off + i * 2 + 1, none⟩ = some (.string (nm vs[i].2)) := by
  obtain ⟨A, c, rfl, _, h⟩ := h
  obtain ⟨b, off, rfl, hb, hc⟩ := h (fun e => by rw [e] at hi; cases hi)
  exact ⟨b, off, c, rfl, hb, hc i hi⟩
set_option maxRecDepth 100000 in
set_option maxHeartbeats 1600000 in
theorem vars_same (vs : Vs) (a b : Value) (w : World) (ha : VaIn w a vs) (hb : VaIn w b vs) :
    Calls Tryz.prog 9 #[a, b] w fun e w' => e = .returned (.bool true) ∧ ∃ n, w' = w.drewN n := by
  have HA := Lib.hid ha
  have HB := Lib.hid hb
  obtain ⟨A1, c1, rfl⟩ := ha.form
  obtain ⟨A2, c2, rfl⟩ := hb.form
  have hle : vs.length ≤ 1000000 := by obtain ⟨_, _, _, ⟨h, _⟩, _⟩ := ha; exact h
  obtain ⟨n, hn⟩ : ∃ n, vs.length = n := ⟨_, rfl⟩
  have HN := Lib.hid hn
  rw [hn] at hle
  have HV := Lib.hid var_same
  clear ha hb
  rw [hn] at HA HB ⊢
  clear hn
  go_enter Tryz.func9, Tryz.ntmps9
  go_wp2_with fail
  go_loopw [5] (fun x wr => ∃ k j : Nat, x = .int .i64 k ∧ k ≤ n ∧ wr = w.drewN j) (fun x _ => n - (intOf x).toNat)
  case atStart => exact ⟨0, 0, rfl, by omega, rfl⟩
  case round =>
    obtain ⟨k, j, rfl, hk, rfl⟩ := hrel
    by_cases hlt : k < n
    · have hk2 : k < vs.length := by rw [HN.out]; exact hlt
      obtain ⟨b1, o1, d1, e1, z1, x0, x1⟩ := HA.out.at k hk2
      obtain ⟨b2, o2, d2, e2, z2, y0, y1⟩ := HB.out.at k hk2
      simp only [Value.slice.injEq] at e1 e2
      obtain ⟨rfl, _, rfl⟩ := e1
      obtain ⟨rfl, _, rfl⟩ := e2
      generalize nm (vs[k].1) = X at *
      generalize nm (vs[k].2) = Y at *
      have hv := HV.out X Y
      clear hk2
      go_wp2_with fail
      go_quiet (fail)
      go_wp2_with fail
      exact ⟨⟨k + 1, j + nq, by go_num, by omega, rfl⟩, by simp [intOf]; omega⟩
    · obtain rfl : k = n := by omega
      go_wp2_with fail
      go_ret
      exact ⟨rfl, _, rfl⟩
theorem va_nil (w : World) : VaIn w (.slice none 0 0) [] := ⟨none, 0, rfl, ⟨by simp, by simp⟩, fun h => absurd rfl h⟩
/-- Eval of a constant text without variables. -/
theorem eval_con (s : Bs) (n : Int) (vs' : Vs) (w : World) (hg : SigIn w) (hl : s.length ≤ 8192) (h : evalL s [] = .ok (n, vs')) :
    Calls Tryz.prog 7 #[.string (nm s), .slice none 0 0] w fun e w' => Below w.heap.size w w' ∧ ∃ v', e = .returned (.tuple #[.int .i64 n, v', .int .i64 0]) ∧ VaIn w' v' vs' := by
  have := eval_any s [] (.slice none 0 0) w hg (va_nil w) (by omega)
  rw [h] at this
  refine this.mono ?_
  rintro e w' ⟨hb, _, v', he, hv, _⟩
  exact ⟨hb, v', he, hv⟩
set_option maxHeartbeats 1600000 in
theorem gets_con (s : Bs) (n : Int) (vs' : Vs) (w : World) (hg : SigIn w) (hl : s.length ≤ 8192) (h : evalL s [] = .ok (n, vs')) :
    Calls Tryz.prog 11 #[.string (nm s)] w fun e w' => Below w.heap.size w w' ∧ e = .returned (.tuple #[.int .i64 n, .bool true]) := by
  have HE := Lib.hid (eval_con s n vs' w hg hl h)
  generalize nm s = S at *
  clear hg hl h
  go_enter Tryz.func11, Tryz.ntmps11
  go_wp2_with fail
  refine HE.out.mono ?_
  rintro e W ⟨hb, v', rfl, hv⟩
  obtain ⟨A, c, rfl⟩ := hv.form
  have HB := Lib.hid hb
  clear hb hv
  go_wp2_with fail
  go_ret2
  exact ⟨HB.out, rfl⟩
set_option maxRecDepth 100000 in
set_option maxHeartbeats 3200000 in
theorem awake_any (w : World) (hg : SigIn w) : Calls Tryz.prog 6 #[] w fun e w' => e = .returned (.bool true) ∧ Below w.heap.size w w' := by
  have G1 : Hid (∀ W, Below w.heap.size w W → Calls Tryz.prog 11 #[.string ⟨#[49, 43, 50, 42, 51]⟩] W fun e w' => Below W.heap.size W w' ∧ e = .returned (.tuple #[.int .i64 7, .bool true])) := Lib.hid (fun W hb => gets_con [49, 43, 50, 42, 51] 7 [] W (hg.below hb) (by decide) ex_1)
  have G2 : Hid (∀ W, Below w.heap.size w W → Calls Tryz.prog 7 #[.string ⟨#[120, 61, 53]⟩, .slice none 0 0] W fun e w' => Below W.heap.size W w' ∧ ∃ v', e = .returned (.tuple #[.int .i64 5, v', .int .i64 0]) ∧ VaIn w' v' [([120], [53])]) := Lib.hid (fun W hb => eval_con [120, 61, 53] 5 _ W (hg.below hb) (by decide) ex_2)
  have G3 : Hid (∀ W, Below w.heap.size w W → Calls Tryz.prog 7 #[.string ⟨#[49, 124, 124, 40, 121, 61, 50, 41]⟩, .slice none 0 0] W fun e w' => Below W.heap.size W w' ∧ ∃ v', e = .returned (.tuple #[.int .i64 1, v', .int .i64 0]) ∧ VaIn w' v' []) := Lib.hid (fun W hb => eval_con [49, 124, 124, 40, 121, 61, 50, 41] 1 _ W (hg.below hb) (by decide) ex_3)
  have G4 : Hid (∀ W, Below w.heap.size w W → Calls Tryz.prog 11 #[.string ⟨#[55, 47, 45, 50]⟩] W fun e w' => Below W.heap.size W w' ∧ e = .returned (.tuple #[.int .i64 (-3), .bool true])) := Lib.hid (fun W hb => gets_con [55, 47, 45, 50] (-3) [] W (hg.below hb) (by decide) ex_4)
  have G5 : Hid (∀ W, Below w.heap.size w W → Calls Tryz.prog 11 #[.string ⟨#[48, 49, 48, 43, 48, 120, 49, 48]⟩] W fun e w' => Below W.heap.size W w' ∧ e = .returned (.tuple #[.int .i64 24, .bool true])) := Lib.hid (fun W hb => gets_con [48, 49, 48, 43, 48, 120, 49, 48] 24 [] W (hg.below hb) (by decide) ex_5)
  have G6 : Hid (∀ W a b, VaIn W a [([120], [53])] → VaIn W b [([120], [53])] → Calls Tryz.prog 9 #[a, b] W fun e w' => e = .returned (.bool true) ∧ ∃ n, w' = W.drewN n) := Lib.hid (fun W a b h1 h2 => vars_same _ a b W h1 h2)
  clear hg
  go_enter Tryz.func6, Tryz.ntmps6
  go_wp2_with fail
  refine (G1.out _ (Below.refl _ _)).mono ?_
  rintro e W1 ⟨hb1, rfl⟩
  have B1 := Lib.hid hb1
  clear hb1
  go_wp2_with fail
  refine (G2.out _ B1.out).mono ?_
  rintro e W2 ⟨hb2, v2, rfl, hv2⟩
  obtain ⟨A2, c2, rfl⟩ := hv2.form
  have B2 := Lib.hid (B1.out.trans (hb2.mono B1.out.size))
  have V2 := Lib.hid hv2
  clear hb2 hv2
  simp only [List.length_cons, List.length_nil]
  go_wp2_with fail
  refine (G3.out _ B2.out).mono ?_
  rintro e W3 ⟨hb3, v3, rfl, hv3⟩
  obtain ⟨A3, c3, rfl⟩ := hv3.form
  have B3 := Lib.hid (B2.out.trans (hb3.mono B2.out.size))
  have V3 := Lib.hid (V2.out.below hb3)
  clear hb3 hv3
  simp only [List.length_nil]
  go_wp2_with fail
  refine (G4.out _ B3.out).mono ?_
  rintro e W4 ⟨hb4, rfl⟩
  have B4 := Lib.hid (B3.out.trans (hb4.mono B3.out.size))
  have V4 := Lib.hid (V3.out.below hb4)
  clear hb4
  go_wp2_with fail
  refine (G5.out _ B4.out).mono ?_
  rintro e W5 ⟨hb5, rfl⟩
  have B5 := Lib.hid (B4.out.trans (hb5.mono B4.out.size))
  have V5 := Lib.hid (V4.out.below hb5)
  clear hb5
  go_wp2_with fail
  have hal := al W5 (.cells #[.string ⟨#[120]⟩, .string ⟨#[53]⟩] 35)
  have hnv : VaIn (W5.alloc (.cells #[.string ⟨#[120]⟩, .string ⟨#[53]⟩] 35)) (.slice (some ⟨W5.heap.size, 0, none⟩) 1 1) [([120], [53])] := by
    refine ⟨_, 1, rfl, ⟨by simp, by simp⟩, fun _ => ⟨W5.heap.size, 0, rfl, by simp, ?_⟩⟩
    intro i hi
    obtain rfl : i = 0 := by simpa using hi
    have hn := heap_alloc_new W5 (.cells #[.string ⟨#[120]⟩, .string ⟨#[53]⟩] 35)
    exact ⟨cell_blk hn 0, cell_blk hn 1⟩
  have HV := Lib.hid (G6.out _ _ _ (V5.out.below hal) hnv)
  have HBF := Lib.hid (B5.out.trans (hal.mono B5.out.size))
  clear hal hnv
  refine HV.out.mono ?_
  rintro e W6 ⟨rfl, nq, rfl⟩
  go_wp2_with fail
  go_ret
  exact ⟨rfl, HBF.out.trans ⟨rfl, rfl, rfl, Nat.le_refl _, fun _ _ => rfl⟩⟩
end Go.Proofs.YtcadnkanjlmfhaaGreatDoor.Ar
namespace ArM
open PathM WdM
open Go.Proofs.YtcadnkanjlmfhaaGreatDoor.NumM
set_option linter.unusedVariables false

def v1 (a : Int) : Vs := [([97], textL a)]
theorem v1_a (a : Int) (h : -9223372036854775808 ≤ a ∧ a ≤ 9223372036854775807) : numberL (v1 a) [97] = .ok a := number_text rfl h.1 h.2
def lzS : List Bs := [[40, 97, 33, 61, 48, 41, 38, 38, 40, 120, 61, 49, 47, 97, 41], [97, 61, 61, 48, 124, 124, 49, 47, 97, 61, 61, 50], [97, 32, 63, 32, 55, 32, 58, 32, 40, 121, 61, 49, 47, 97, 41]]
def lzT : List Tm := [.pair [38, 38] (.pair [33, 61] (tN 97) (.const 0)) (.gift [] [120] (.pair [47] (.const 1) (tN 97))), .pair [124, 124] (.pair [61, 61] (tN 97) (.const 0)) (.pair [61, 61] (.pair [47] (.const 1) (tN 97)) (.const 2)), .choice (tN 97) (.const 7) (.gift [] [121] (.pair [47] (.const 1) (tN 97)))]
theorem lz_read : ∀ i, i < 3 → ∃ l, cutL (lzS.getD i []) = .ok l ∧ l ≠ [] ∧ readL l = .ok (lzT.getD i (.const 0)) ∧ (lzS.getD i []).length ≤ 8192
  | 0, _ => ⟨_, rfl, by simp, rfl, by decide⟩
  | 1, _ => ⟨_, rfl, by simp, rfl, by decide⟩
  | 2, _ => ⟨_, rfl, by simp, rfl, by decide⟩
  | n + 3, h => absurd h (by omega)
theorem lz_eval (a : Int) (i : Nat) (h : i < 3) : evalL (lzS.getD i []) (v1 a) = reckonL (lzT.getD i (.const 0)) (v1 a) := by
  obtain ⟨l, h1, h2, h3, h4⟩ := lz_read i h
  exact eval_of h4 (by simp [v1]) h1 h2 h3
theorem rk_err {v v2 v3 : Vs} {s : Bs} {l r : Tm} {a b e : Int} (hl : reckonL l v = .ok (a, v2)) (hr : reckonL r v2 = .ok (b, v3)) (hs : settledL s a = false) (hb : betweenL s a b = .error e) : reckonL (.pair s l r) v = .error e := by
  rw [reckonL, hl]
  dsimp only
  rw [if_neg (by rw [hs]; simp), hr]
  dsimp only
  rw [hb]
theorem rk_set {v v2 : Vs} {s : Bs} {l r : Tm} {a : Int} (hl : reckonL l v = .ok (a, v2)) (hs : settledL s a = true) : reckonL (.pair s l r) v = .ok (truthL (a != 0), v2) := by
  rw [reckonL, hl]
  dsimp only
  rw [if_pos hs]
theorem rk_gift {v v2 v3 : Vs} {n : Bs} {t : Tm} {a : Int} (h : reckonL t v = .ok (a, v2)) (hg : giveL v2 n a = .ok v3) : reckonL (.gift [] n t) v = .ok (a, v3) := by
  rw [reckonL, h]
  dsimp only
  rw [if_pos rfl]
  dsimp only
  rw [hg]
theorem rk_gerr {v : Vs} {n b : Bs} {t : Tm} {e : Int} (h : reckonL t v = .error e) : reckonL (.gift b n t) v = .error e := by
  rw [reckonL, h]
theorem one_div (a : Int) (h : a ≠ 0) (h0 : -9223372036854775808 ≤ a) (h1 : a ≤ 9223372036854775807) : wrapL (Int.tdiv 1 a) = if a = 1 then 1 else if a = -1 then -1 else 0 := by
  by_cases e : a = 1
  · subst e; rfl
  · by_cases e2 : a = -1
    · subst e2; rfl
    · rw [if_neg e, if_neg e2]
      have : Int.tdiv 1 a = 0 := by
        rcases Int.lt_or_gt_of_ne h with hl | hl
        · have := Int.tdiv_eq_zero_of_lt (a := 1) (b := -a) (by omega) (by omega)
          rw [Int.tdiv_neg] at this
          omega
        · exact Int.tdiv_eq_zero_of_lt (by omega) (by omega)
      rw [this]; rfl
theorem lz_zero (a : Int) (h : a = 0) : evalL (lzS.getD 0 []) (v1 a) = .ok (0, v1 a) ∧ evalL (lzS.getD 1 []) (v1 a) = .ok (1, v1 a) ∧ evalL (lzS.getD 2 []) (v1 a) = .error 42 := by
  subst h
  exact ⟨(lz_eval 0 0 (by omega)).trans rfl, (lz_eval 0 1 (by omega)).trans rfl, (lz_eval 0 2 (by omega)).trans rfl⟩
/-- Is a number one, or less one? -/
def oneL (a : Int) : Int := if a = 1 ∨ a = -1 then 1 else 0
theorem lz_more (a : Int) (h : a ≠ 0) (h0 : -9223372036854775808 ≤ a) (h1 : a ≤ 9223372036854775807) : (∃ t, evalL (lzS.getD 0 []) (v1 a) = .ok (oneL a, v1 a ++ [([120], t)])) ∧ evalL (lzS.getD 1 []) (v1 a) = .ok (0, v1 a) ∧ evalL (lzS.getD 2 []) (v1 a) = .ok (7, v1 a) := by
  have A := rk_n (v1_a a ⟨h0, h1⟩)
  have hd := one_div a h h0 h1
  have D : reckonL (.pair [47] (.const 1) (tN 97)) (v1 a) = .ok (wrapL (Int.tdiv 1 a), v1 a) := rk_p rfl A rfl (by show (if a = 0 then _ else _) = _; rw [if_neg h])
  have N : reckonL (.pair [33, 61] (tN 97) (.const 0)) (v1 a) = .ok (1, v1 a) := rk_p A rfl rfl (by show Except.ok (truthL (a != 0)) = _; rw [show (a != 0) = true by simpa using h]; rfl)
  have Z : reckonL (.pair [61, 61] (tN 97) (.const 0)) (v1 a) = .ok (0, v1 a) := rk_p A rfl rfl (by show Except.ok (truthL (a == 0)) = _; rw [show (a == 0) = false by simpa using h]; rfl)
  refine ⟨?_, ?_, ?_⟩
  · refine ⟨textL (wrapL (Int.tdiv 1 a)), (lz_eval a 0 (by omega)).trans (rk_p N (rk_gift D rfl) rfl ?_)⟩
    rw [hd]
    show Except.ok (truthL (holdsL [38, 38] 1 _)) = _
    unfold oneL
    by_cases e : a = 1
    · rw [if_pos e, if_pos (.inl e)]; rfl
    · by_cases e2 : a = -1
      · rw [if_neg e, if_pos e2, if_pos (.inr e2)]; rfl
      · rw [if_neg e, if_neg e2, if_neg (by rintro (x | x) <;> contradiction)]; rfl
  · have E : reckonL (.pair [61, 61] (.pair [47] (.const 1) (tN 97)) (.const 2)) (v1 a) = .ok (0, v1 a) := rk_p D rfl rfl (by
      rw [hd]
      show Except.ok (truthL (_ == 2)) = _
      by_cases e : a = 1
      · rw [if_pos e]; rfl
      · by_cases e2 : a = -1
        · rw [if_neg e, if_pos e2]; rfl
        · rw [if_neg e, if_neg e2]; rfl)
    exact (lz_eval a 1 (by omega)).trans (rk_p Z E rfl rfl)
  · refine (lz_eval a 2 (by omega)).trans ?_
    show reckonL (.choice (tN 97) (.const 7) _) (v1 a) = _
    rw [reckonL, A]
    dsimp only
    rw [if_pos (by simpa using h)]
    rfl
end ArM
