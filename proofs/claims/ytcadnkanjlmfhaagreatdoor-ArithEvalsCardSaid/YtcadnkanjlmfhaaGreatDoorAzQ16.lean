/- DERIVED. Texts of this claim, joined: ArReck2, Shelf4. -/
import Derived.Test.YtcadnkanjlmfhaaGreatDoorAzQ15
import Derived.Shelf.SlicesE.Clone
import Derived.Test.YtcadnkanjlmfhaaGreatDoorProg
namespace Go.Proofs.YtcadnkanjlmfhaaGreatDoor.Ar
open Go.RowKit
open PathM WdM ArM
open Go.Proofs.YtcadnkanjlmfhaaGreatDoor.Wd
open Go.Proofs.YtcadnkanjlmfhaaGreatDoor.NumM (textL)
set_option linter.unusedVariables false

/-- A call of the method of one kind. -/
def RkAt (base vb : Nat) (t : Tm) (F : Nat) (x : Value) : Prop := ∀ vs v w, VS base vb vs v w → base ≤ w.heap.size → Calls Tryz.prog F #[x, .pointer (some ⟨vb, 0, none⟩)] w (RkPost base vb v (reckonL t vs) w)
theorem rk_pair_e {s : Bs} {l r : Tm} {vs : Vs} {e : Int} (h : reckonL l vs = .error e) : reckonL (.pair s l r) vs = .error e := by rw [reckonL, h]
theorem rk_pair_s {s : Bs} {l r : Tm} {vs vs2 : Vs} {a : Int} (h : reckonL l vs = .ok (a, vs2)) (hs : settledL s a = true) : reckonL (.pair s l r) vs = .ok (truthL (a != 0), vs2) := by
  rw [reckonL, h]; dsimp only; rw [if_pos hs]
theorem rk_pair_re {s : Bs} {l r : Tm} {vs vs2 : Vs} {a e : Int} (h : reckonL l vs = .ok (a, vs2)) (hs : settledL s a = false) (hr : reckonL r vs2 = .error e) : reckonL (.pair s l r) vs = .error e := by
  rw [reckonL, h]; dsimp only; rw [if_neg (by rw [hs]; simp), hr]
theorem rk_pair_ok {s : Bs} {l r : Tm} {vs vs2 vs3 : Vs} {a b n : Int} (h : reckonL l vs = .ok (a, vs2)) (hs : settledL s a = false) (hr : reckonL r vs2 = .ok (b, vs3)) (hb : betweenL s a b = .ok n) : reckonL (.pair s l r) vs = .ok (n, vs3) := by
  rw [reckonL, h]; dsimp only; rw [if_neg (by rw [hs]; simp), hr]; dsimp only; rw [hb]
theorem rk_pair_be {s : Bs} {l r : Tm} {vs vs2 vs3 : Vs} {a b e : Int} (h : reckonL l vs = .ok (a, vs2)) (hs : settledL s a = false) (hr : reckonL r vs2 = .ok (b, vs3)) (hb : betweenL s a b = .error e) : reckonL (.pair s l r) vs = .error e := by
  rw [reckonL, h]; dsimp only; rw [if_neg (by rw [hs]; simp), hr]; dsimp only; rw [hb]
set_option maxRecDepth 100000 in
set_option maxHeartbeats 1600000 in
theorem reck_pair (base vb : Nat) (s : Bs) (l r : Tm) (hl : RkOk base vb l) (hr : RkOk base vb r) : RkOk base vb (.pair s l r) := by
  intro vs v w h hb
  show Calls _ 115 #[.agg #[.string (nm s), tmV l, tmV r], .pointer (some ⟨vb, 0, none⟩)] _ _
  rw [tm_if, tm_if]
  have hm := rk_method l
  have he := rk_enters l
  have hA := al w (.cells #[.string (nm s), .iface (rkT l) (rkX l), .iface (rkT r) (rkX r)] 128)
  have h1 := h.below hA
  have HP := Lib.hid (hl vs v _ h1 (Nat.le_trans hb hA.size))
  have HBX := Lib.hid (fun w' (hk : Kept (OwV vb v) (w.alloc (.cells #[.string (nm s), .iface (rkT l) (rkX l), .iface (rkT r) (rkX r)] 128)) w') => box_kept h hk)
  have HH := Lib.hid h
  have HST := Lib.hid (Stp.below (vb := vb) (v := v) hA)
  have H1 := Lib.hid h1
  have HBA := Lib.hid hb
  cases hx : reckonL l vs with
  | error er =>
    have hq := rk_pair_e (s := s) (r := r) hx
    rw [hx] at HP
    have HF : Hid (∀ W k, Kept (fun k => k = vb ∨ base ≤ k) w W → er ≠ 0 → RkPost base vb v (reckonL (.pair s l r) vs) w (.returned (.tuple #[.int .i64 k, .int .i64 er])) W) := Lib.hid (fun W k hk h0 => RkPost.er hq h0 hk)
    generalize reckonL (.pair s l r) vs = M at *
    clear hq hx h h1 hA
    generalize rkT l = Tl at *
    generalize rkX l = Xl at *
    generalize rkF l = Fl at *
    generalize rkT r = Tr at *
    generalize rkX r = Xr at *
    generalize nm s = S at *
    go_enter Tryz.func115, Tryz.ntmps115
    go_wp2_with fail
    refine HP.out.mono ?_
    rintro e W ⟨h0, ⟨k, rfl⟩, hk⟩
    have HFF := Lib.hid (HF.out W 0 ((ow_wide HH.out HST.out.1).trans hk) h0)
    have hq : (er != 0) = true := by simpa using h0
    clear h0 hk hm he
    go_wp2_with fail
    go_ret2
    exact HFF.out
  | ok p =>
    obtain ⟨a, vs2⟩ := p
    rw [hx] at HP
    cases hs : settledL s a with
    | true =>
      have hq := rk_pair_s (r := r) hx hs
      have HF : Hid (∀ W v', VS base vb vs2 v' W → Stp vb v v' w W → RkPost base vb v (reckonL (.pair s l r) vs) w (.returned (.tuple #[.int .i64 (truthL (a != 0)), .int .i64 0])) W) := Lib.hid (fun W v' h1 h2 => RkPost.yes hq h1 h2)
      have HS := Lib.hid (settled_any s a)
      rw [hs] at HS
      have HT := Lib.hid (truth_any (a != 0))
      generalize reckonL (.pair s l r) vs = M at *
      clear hq hx h h1 hA hs
      generalize rkT l = Tl at *
      generalize rkX l = Xl at *
      generalize rkF l = Fl at *
      generalize rkT r = Tr at *
      generalize rkX r = Xr at *
      generalize truthL (a != 0) = ta at *
      generalize nm s = S at *
      go_enter Tryz.func115, Tryz.ntmps115
      go_wp2_with fail
      refine HP.out.mono ?_
      rintro e W ⟨rfl, v', hv, hs⟩
      have hbx := HBX.out W hs.1
      have c0 := cell_blk hbx 0
      have z0 := fin_at hbx
      replace c0 := c0.trans (show _ = some (.string S) from rfl)
      have HFF := Lib.hid (HF.out W v' hv (HST.out.trans hs))
      clear hbx hv hs hm he
      go_wp2_with (first | (go_at_call 116; refine (HS.out _).mono ?_; rintro e W2 ⟨rfl, rfl⟩) | (go_at_call 108; refine (HT.out _).mono ?_; rintro e W2 ⟨rfl, rfl⟩))
      go_ret2
      exact HFF.out
    | false =>
      have HS := Lib.hid (settled_any s a)
      rw [hs] at HS
      have hm2 := rk_method r
      have he2 := rk_enters r
      have HC : Hid (∀ v' W, VS base vb vs2 v' W → base ≤ W.heap.size → Calls Tryz.prog (rkF r) #[rkX r, .pointer (some ⟨vb, 0, none⟩)] W (RkPost base vb v' (reckonL r vs2) W)) := Lib.hid (fun v' W h1 h2 => hr vs2 v' W h1 h2)
      cases hy : reckonL r vs2 with
      | error er =>
        rw [hy] at HC
        have hq := rk_pair_re hx hs hy
        have HF : Hid (∀ W k, Kept (fun k => k = vb ∨ base ≤ k) w W → er ≠ 0 → RkPost base vb v (reckonL (.pair s l r) vs) w (.returned (.tuple #[.int .i64 k, .int .i64 er])) W) := Lib.hid (fun W k hk h0 => RkPost.er hq h0 hk)
        generalize reckonL (.pair s l r) vs = M at *
        clear hq hx h h1 hA hs hy
        generalize rkT l = Tl at *
        generalize rkX l = Xl at *
        generalize rkF l = Fl at *
        generalize rkT r = Tr at *
        generalize rkX r = Xr at *
        generalize rkF r = Fr at *
        generalize nm s = S at *
        go_enter Tryz.func115, Tryz.ntmps115
        go_wp2_with fail
        refine HP.out.mono ?_
        rintro e W ⟨rfl, v', hv, hs⟩
        have hbx := HBX.out W hs.1
        have c0 := cell_blk hbx 0
        have c2 := cell_blk hbx 2
        have z0 := fin_at hbx
        replace c0 := c0.trans (show _ = some (.string S) from rfl)
        replace c2 := c2.trans (show _ = some (.iface Tr Xr) from rfl)
        have HKW := Lib.hid (ow_wide HH.out (HST.out.trans hs).1)
        have HC2 := Lib.hid (HC.out v' W hv (Nat.le_trans HBA.out (Nat.le_of_lt (fin_at hbx))))
        clear hbx hv hs hm he
        go_wp2_with (go_at_call 116; refine (HS.out _).mono ?_; rintro e W2 ⟨rfl, rfl⟩)
        refine HC2.out.mono ?_
        rintro e W3 ⟨h0, ⟨k, rfl⟩, hk⟩
        have HFF := Lib.hid (HF.out W3 0 (HKW.out.trans hk) h0)
        have hq : (er != 0) = true := by simpa using h0
        clear h0 hk hm2 he2
        go_wp2_with fail
        go_ret2
        exact HFF.out
      | ok p =>
        obtain ⟨b, vs3⟩ := p
        rw [hy] at HC
        have HB2 := Lib.hid (between_any s a b)
        have HF : Hid (∀ W v', VS base vb vs3 v' W → Stp vb v v' w W → Kept (fun k => k = vb ∨ base ≤ k) w W → ∃ n x, pairE (betweenL s a b) = .tuple #[.int .i64 n, .int .i64 x] ∧ RkPost base vb v (reckonL (.pair s l r) vs) w (.returned (.tuple #[.int .i64 n, .int .i64 x])) W) := Lib.hid (by
          intro W v' h1 h2 h3
          cases hz : betweenL s a b with
          | ok n => exact ⟨n, 0, rfl, RkPost.yes (rk_pair_ok hx hs hy hz) h1 h2⟩
          | error e => exact ⟨0, e, rfl, RkPost.er (rk_pair_be hx hs hy hz) (between_ne hz) h3⟩)
        generalize reckonL (.pair s l r) vs = M at *
        clear hx h h1 hA hs hy
        generalize rkT l = Tl at *
        generalize rkX l = Xl at *
        generalize rkF l = Fl at *
        generalize rkT r = Tr at *
        generalize rkX r = Xr at *
        generalize rkF r = Fr at *
        generalize pairE (betweenL s a b) = pe at *
        generalize nm s = S at *
        go_enter Tryz.func115, Tryz.ntmps115
        go_wp2_with fail
        refine HP.out.mono ?_
        rintro e W ⟨rfl, v', hv, hs⟩
        have hbx := HBX.out W hs.1
        have c0 := cell_blk hbx 0
        have c2 := cell_blk hbx 2
        have z0 := fin_at hbx
        replace c0 := c0.trans (show _ = some (.string S) from rfl)
        replace c2 := c2.trans (show _ = some (.iface Tr Xr) from rfl)
        have HBB := Lib.hid hbx
        have HV1 := Lib.hid hv
        have HS1 := Lib.hid (HST.out.trans hs)
        have HSS := Lib.hid hs
        have HC2 := Lib.hid (HC.out v' W hv (Nat.le_trans HBA.out (Nat.le_of_lt (fin_at hbx))))
        clear hbx hv hs hm he
        go_wp2_with (go_at_call 116; refine (HS.out _).mono ?_; rintro e W2 ⟨rfl, rfl⟩)
        refine HC2.out.mono ?_
        rintro e W3 ⟨rfl, v3, hv3, hs3⟩
        have hbx := HBX.out W3 (HSS.out.trans hs3).1
        have d0 := cell_blk hbx 0
        have z3 := fin_at hbx
        replace d0 := d0.trans (show _ = some (.string S) from rfl)
        have hst := HS1.out.trans hs3
        obtain ⟨n, x, hpe, hpost⟩ := HF.out W3 v3 hv3 hst (ow_wide HH.out hst.1)
        subst hpe
        have HFF := Lib.hid hpost
        clear hbx hv3 hs3 hm2 he2 hst hpost c0 c2 z0
        go_wp2_with (go_at_call 101; refine (HB2.out _).mono ?_; rintro e W4 ⟨rfl, rfl⟩)
        go_ret2
        exact HFF.out

theorem rk_gift_e {b n : Bs} {t : Tm} {vs : Vs} {e : Int} (h : reckonL t vs = .error e) : reckonL (.gift b n t) vs = .error e := by rw [reckonL, h]
/-- The number that is given. -/
def gvN (b n : Bs) (k : Int) (vs : Vs) : Except Int Int := if b = [] then .ok k else match numberL vs n with
  | .error e => .error e
  | .ok old => betweenL b old k
theorem rk_gift_gv {b n : Bs} {t : Tm} {vs vs2 : Vs} {k : Int} (h : reckonL t vs = .ok (k, vs2)) : (∀ e, gvN b n k vs2 = .error e → reckonL (.gift b n t) vs = .error e) ∧
    ∀ m, gvN b n k vs2 = .ok m → (∀ e, giveL vs2 n m = .error e → reckonL (.gift b n t) vs = .error e) ∧ ∀ vs3, giveL vs2 n m = .ok vs3 → reckonL (.gift b n t) vs = .ok (m, vs3) := by
  rw [reckonL, h]
  dsimp only
  unfold gvN
  by_cases hb : b = []
  · rw [if_pos hb, if_pos hb]
    refine ⟨(fun e he => nomatch he), fun m hm => ?_⟩
    cases hm
    dsimp only
    exact ⟨fun e he => by rw [he], fun vs3 he => by rw [he]⟩
  · rw [if_neg hb, if_neg hb]
    cases numberL vs2 n with
    | error er => exact ⟨(fun e he => by cases he; rfl), (fun m hm => nomatch hm)⟩
    | ok old =>
      dsimp only
      cases betweenL b old k with
      | error er => exact ⟨(fun e he => by cases he; rfl), (fun m hm => nomatch hm)⟩
      | ok m =>
        refine ⟨(fun e he => nomatch he), fun m' hm => ?_⟩
        cases hm
        dsimp only
        exact ⟨fun e he => by rw [he], fun vs3 he => by rw [he]⟩
theorem rk_gift_n {b n : Bs} {t : Tm} {vs vs2 : Vs} {k e : Int} (h : reckonL t vs = .ok (k, vs2)) (hn : gvN b n k vs2 = .error e) : reckonL (.gift b n t) vs = .error e := (rk_gift_gv h).1 e hn
theorem rk_gift_g {b n : Bs} {t : Tm} {vs vs2 : Vs} {k m e : Int} (h : reckonL t vs = .ok (k, vs2)) (hn : gvN b n k vs2 = .ok m) (hg : giveL vs2 n m = .error e) : reckonL (.gift b n t) vs = .error e := ((rk_gift_gv h).2 m hn).1 e hg
theorem rk_gift_ok {b n : Bs} {t : Tm} {vs vs2 vs3 : Vs} {k m : Int} (h : reckonL t vs = .ok (k, vs2)) (hn : gvN b n k vs2 = .ok m) (hg : giveL vs2 n m = .ok vs3) : reckonL (.gift b n t) vs = .ok (m, vs3) := ((rk_gift_gv h).2 m hn).2 vs3 hg
theorem str_ne (a b : Bs) : ((nm a).toList != b) = !decide (a = b) := by rw [bne, str_is]
/-- What give comes to, as reckon hands it on. -/
theorem gift_end {base vb : Nat} {b n : Bs} {t : Tm} {vs vs2 : Vs} {v v1 : Value} {k m : Int} {w W W5 : World} {e : Ending} (h0 : VS base vb vs v w) (h : reckonL t vs = .ok (k, vs2)) (hn : gvN b n k vs2 = .ok m) (h1 : VS base vb vs2 v1 W) (hs : Stp vb v v1 w W) (hg : GvPost base vb v1 (giveL vs2 n m) W e W5) :
    ∃ x, e = .returned (.int .i64 x) ∧ (x = 0 → RkPost base vb v (reckonL (.gift b n t) vs) w (.returned (.tuple #[.int .i64 m, .int .i64 0])) W5) ∧ (x ≠ 0 → RkPost base vb v (reckonL (.gift b n t) vs) w (.returned (.tuple #[.int .i64 0, .int .i64 x])) W5) := by
  cases hq : giveL vs2 n m with
  | ok vs3 =>
    rw [hq] at hg
    obtain ⟨he, v', hv, hs2⟩ := hg
    exact ⟨0, he, fun _ => RkPost.yes (rk_gift_ok h hn hq) hv (hs.trans hs2), fun h => absurd rfl h⟩
  | error er =>
    rw [hq] at hg
    obtain ⟨he, hne, hb⟩ := hg
    exact ⟨er, he, fun h => absurd h hne, fun _ => RkPost.er (rk_gift_g h hn hq) hne (ow_wide h0 (hs.trans (Stp.below hb)).1)⟩
set_option maxRecDepth 100000 in
set_option maxHeartbeats 1600000 in
theorem reck_gift (base vb : Nat) (b n : Bs) (t : Tm) (hnl : n.length ≤ 8192) (htm : TmOk t) (ht : RkOk base vb t) : RkOk base vb (.gift b n t) := by
  intro vs v w h hb
  show Calls _ 99 #[.agg #[.string (nm b), .string (nm n), tmV t], .pointer (some ⟨vb, 0, none⟩)] _ _
  rw [tm_if]
  have hm := rk_method t
  have he := rk_enters t
  have hA := al w (.cells #[.string (nm b), .string (nm n), .iface (rkT t) (rkX t)] 101)
  have h1 := h.below hA
  have HP := Lib.hid (ht vs v _ h1 (Nat.le_trans hb hA.size))
  have HBX := Lib.hid (fun w' (hk : Kept (OwV vb v) (w.alloc (.cells #[.string (nm b), .string (nm n), .iface (rkT t) (rkX t)] 101)) w') => box_kept h hk)
  have HH := Lib.hid h
  have HST := Lib.hid (Stp.below (vb := vb) (v := v) hA)
  have HBA := Lib.hid hb
  cases hx : reckonL t vs with
  | error er =>
    have hq := rk_gift_e (b := b) (n := n) hx
    rw [hx] at HP
    have HF : Hid (∀ W k, Kept (fun k => k = vb ∨ base ≤ k) w W → er ≠ 0 → RkPost base vb v (reckonL (.gift b n t) vs) w (.returned (.tuple #[.int .i64 k, .int .i64 er])) W) := Lib.hid (fun W k hk h0 => RkPost.er hq h0 hk)
    generalize reckonL (.gift b n t) vs = M at *
    clear hq hx h h1 hA
    generalize rkT t = T at *
    generalize rkX t = X at *
    generalize rkF t = F at *
    generalize nm b = B at *
    generalize nm n = N at *
    go_enter Tryz.func99, Tryz.ntmps99
    go_wp2_with fail
    refine HP.out.mono ?_
    rintro e W ⟨h0, ⟨k, rfl⟩, hk⟩
    have HFF := Lib.hid (HF.out W 0 ((ow_wide HH.out HST.out.1).trans hk) h0)
    have hq : (er != 0) = true := by simpa using h0
    clear h0 hk hm he
    go_wp2_with fail
    go_ret2
    exact HFF.out
  | ok p =>
    obtain ⟨k, vs2⟩ := p
    rw [hx] at HP
    have hin := reckon_in t vs k vs2 htm hx
    have HIN := Lib.hid hin
    have HG : Hid (∀ (m : Int) W v1, In64 m → VS base vb vs2 v1 W → base ≤ W.heap.size → Calls Tryz.prog 102 #[.pointer (some ⟨vb, 0, none⟩), .string (nm n), .int .i64 m] W (GvPost base vb v1 (giveL vs2 n m) W)) := Lib.hid (fun m W v1 h0 h1 h2 => give_any base vb vs2 v1 n m W h1 h2 (by omega) h0.1 h0.2)
    by_cases hb0 : b = []
    · have q0 : ((nm b).toList != []) = false := by rw [str_ne, decide_eq_true hb0]; rfl
      have q1 : (nm b).toList = [] := emp_yes (by rw [nm_data]; exact hb0)
      have hgn : gvN b n k vs2 = .ok k := by unfold gvN; rw [if_pos hb0]
      have HE0 : Hid (∀ W v1, VS base vb vs2 v1 W → Stp vb v v1 w W → ∀ W5 e, GvPost base vb v1 (giveL vs2 n k) W e W5 → ∃ x, e = .returned (.int .i64 x) ∧ (x = 0 → RkPost base vb v (reckonL (.gift b n t) vs) w (.returned (.tuple #[.int .i64 k, .int .i64 0])) W5) ∧ (x ≠ 0 → RkPost base vb v (reckonL (.gift b n t) vs) w (.returned (.tuple #[.int .i64 0, .int .i64 x])) W5)) := Lib.hid (fun W v1 h1 hs W5 e hg => gift_end HH.out hx hgn h1 hs hg)
      generalize reckonL (.gift b n t) vs = M at *
      clear hx h h1 hA hgn hb0 hin
      generalize rkT t = T at *
      generalize rkX t = X at *
      generalize rkF t = F at *
      generalize nm b = B at *
      generalize nm n = N at *
      go_enter Tryz.func99, Tryz.ntmps99
      go_wp2_with fail
      refine HP.out.mono ?_
      rintro e W ⟨rfl, v', hv, hs⟩
      have hbx := HBX.out W hs.1
      have c0 := cell_blk hbx 0
      have c1 := cell_blk hbx 1
      have z0 := fin_at hbx
      replace c0 := c0.trans (show _ = some (.string B) from rfl)
      replace c1 := c1.trans (show _ = some (.string N) from rfl)
      have HE := Lib.hid (HE0.out W v' hv (HST.out.trans hs))
      have HGC := Lib.hid (HG.out k W v' HIN.out hv (Nat.le_trans HBA.out (Nat.le_of_lt (fin_at hbx))))
      clear hbx hv hs hm he
      go_wp2_with fail
      refine HGC.out.mono ?_
      intro e W5 hg
      obtain ⟨x, rfl, hx0, hx1⟩ := HE.out W5 e hg
      have HX0 := Lib.hid hx0
      have HX1 := Lib.hid hx1
      clear hg hx0 hx1
      by_cases hxz : x = 0
      · subst hxz
        go_wp2_with fail
        go_ret2
        exact HX0.out (by trivial)
      · have hq : (x != 0) = true := by simpa using hxz
        go_wp2_with fail
        go_ret2
        exact HX1.out hxz
    · have q0 : ((nm b).toList != []) = true := by rw [str_ne, decide_eq_false hb0]; rfl
      obtain ⟨q1, q2⟩ := emp_no (b := nm b) (by rw [nm_data]; exact hb0)
      cases hnum : numberL vs2 n with
      | error er =>
        have hgn : gvN b n k vs2 = .error er := by unfold gvN; rw [if_neg hb0, hnum]
        have hq := rk_gift_n hx hgn
        have HN : Hid (∀ W v1, VS base vb vs2 v1 W → Calls Tryz.prog 100 #[.pointer (some ⟨vb, 0, none⟩), .string (nm n)] W fun e w' => e = .returned (.tuple #[.int .i64 0, .int .i64 er]) ∧ Below W.heap.size W w') := Lib.hid (fun W v1 h1 => by
          have := number_any vs2 n v1 vb W h1.cell h1.lt h1.va
          rw [hnum] at this
          exact this)
        have hne := number_ne hnum
        have HF : Hid (∀ W k, Kept (fun k => k = vb ∨ base ≤ k) w W → RkPost base vb v (reckonL (.gift b n t) vs) w (.returned (.tuple #[.int .i64 k, .int .i64 er])) W) := Lib.hid (fun W k hk => RkPost.er hq hne hk)
        have hqq : (er != 0) = true := by simpa using hne
        generalize reckonL (.gift b n t) vs = M at *
        clear hx h h1 hA hgn hb0 hin hnum hq hne
        generalize rkT t = T at *
        generalize rkX t = X at *
        generalize rkF t = F at *
        generalize nm b = B at *
        generalize nm n = N at *
        go_enter Tryz.func99, Tryz.ntmps99
        go_wp2_with fail
        refine HP.out.mono ?_
        rintro e W ⟨rfl, v', hv, hs⟩
        have hbx := HBX.out W hs.1
        have c0 := cell_blk hbx 0
        have c1 := cell_blk hbx 1
        have z0 := fin_at hbx
        replace c0 := c0.trans (show _ = some (.string B) from rfl)
        replace c1 := c1.trans (show _ = some (.string N) from rfl)
        have HNN := Lib.hid (HN.out W v' hv)
        have HKW := Lib.hid (HST.out.trans hs)
        clear hbx hv hs hm he
        go_wp2_with fail
        refine HNN.out.mono ?_
        rintro e W2 ⟨rfl, hb2⟩
        have HFF := Lib.hid (HF.out W2 0 (ow_wide HH.out (HKW.out.trans (Stp.below hb2)).1))
        clear hb2
        go_wp2_with fail
        go_ret2
        exact HFF.out
      | ok old =>
        have HN : Hid (∀ W v1, VS base vb vs2 v1 W → Calls Tryz.prog 100 #[.pointer (some ⟨vb, 0, none⟩), .string (nm n)] W fun e w' => e = .returned (.tuple #[.int .i64 old, .int .i64 0]) ∧ Below W.heap.size W w') := Lib.hid (fun W v1 h1 => by
          have := number_any vs2 n v1 vb W h1.cell h1.lt h1.va
          rw [hnum] at this
          exact this)
        have hio := number_in hnum
        have HBT := Lib.hid (between_any b old k)
        cases hbt : betweenL b old k with
        | error er =>
          rw [hbt] at HBT
          unfold pairE at HBT
          have hgn : gvN b n k vs2 = .error er := by unfold gvN; rw [if_neg hb0, hnum]; exact hbt
          have hq := rk_gift_n hx hgn
          have hne := between_ne hbt
          have HF : Hid (∀ W k, Kept (fun k => k = vb ∨ base ≤ k) w W → RkPost base vb v (reckonL (.gift b n t) vs) w (.returned (.tuple #[.int .i64 k, .int .i64 er])) W) := Lib.hid (fun W k hk => RkPost.er hq hne hk)
          have hqq : (er != 0) = true := by simpa using hne
          generalize reckonL (.gift b n t) vs = M at *
          clear hx h h1 hA hgn hb0 hin hnum hq hne hbt hio
          generalize rkT t = T at *
          generalize rkX t = X at *
          generalize rkF t = F at *
          generalize nm b = B at *
          generalize nm n = N at *
          go_enter Tryz.func99, Tryz.ntmps99
          go_wp2_with fail
          refine HP.out.mono ?_
          rintro e W ⟨rfl, v', hv, hs⟩
          have hbx := HBX.out W hs.1
          have c0 := cell_blk hbx 0
          have c1 := cell_blk hbx 1
          have z0 := fin_at hbx
          replace c0 := c0.trans (show _ = some (.string B) from rfl)
          replace c1 := c1.trans (show _ = some (.string N) from rfl)
          have HNN := Lib.hid (HN.out W v' hv)
          have HKW := Lib.hid (HST.out.trans hs)
          have HBB := Lib.hid hbx
          clear hbx hv hs hm he
          go_wp2_with fail
          refine HNN.out.mono ?_
          rintro e W2 ⟨rfl, hb2⟩
          have HFF := Lib.hid (HF.out W2 0 (ow_wide HH.out (HKW.out.trans (Stp.below hb2)).1))
          have hbx2 := (hb2.block w.heap.size (fin_at HBB.out)).trans HBB.out
          have d0 := cell_blk hbx2 0
          have z2 := fin_at hbx2
          replace d0 := d0.trans (show _ = some (.string B) from rfl)
          clear hb2 hbx2
          go_wp2_with (go_at_call 101; refine (HBT.out _).mono ?_; rintro e W4 ⟨rfl, rfl⟩)
          go_ret2
          exact HFF.out
        | ok m =>
          rw [hbt] at HBT
          unfold pairE at HBT
          have hgn : gvN b n k vs2 = .ok m := by unfold gvN; rw [if_neg hb0, hnum]; exact hbt
          have HIM := Lib.hid (between_in hio hin hbt)
          have HE0 : Hid (∀ W v1, VS base vb vs2 v1 W → Stp vb v v1 w W → ∀ W5 e, GvPost base vb v1 (giveL vs2 n m) W e W5 → ∃ x, e = .returned (.int .i64 x) ∧ (x = 0 → RkPost base vb v (reckonL (.gift b n t) vs) w (.returned (.tuple #[.int .i64 m, .int .i64 0])) W5) ∧ (x ≠ 0 → RkPost base vb v (reckonL (.gift b n t) vs) w (.returned (.tuple #[.int .i64 0, .int .i64 x])) W5)) := Lib.hid (fun W v1 h1 hs W5 e hg => gift_end HH.out hx hgn h1 hs hg)
          generalize reckonL (.gift b n t) vs = M at *
          clear hx h h1 hA hgn hb0 hin hnum hbt hio
          generalize rkT t = T at *
          generalize rkX t = X at *
          generalize rkF t = F at *
          generalize nm b = B at *
          generalize nm n = N at *
          go_enter Tryz.func99, Tryz.ntmps99
          go_wp2_with fail
          refine HP.out.mono ?_
          rintro e W ⟨rfl, v', hv, hs⟩
          have hbx := HBX.out W hs.1
          have c0 := cell_blk hbx 0
          have c1 := cell_blk hbx 1
          have z0 := fin_at hbx
          replace c0 := c0.trans (show _ = some (.string B) from rfl)
          replace c1 := c1.trans (show _ = some (.string N) from rfl)
          have HNN := Lib.hid (HN.out W v' hv)
          have HKW := Lib.hid (HST.out.trans hs)
          have HBB := Lib.hid hbx
          have HV := Lib.hid hv
          clear hbx hv hs hm he
          go_wp2_with fail
          refine HNN.out.mono ?_
          rintro e W2 ⟨rfl, hb2⟩
          have hbx2 := (hb2.block w.heap.size (fin_at HBB.out)).trans HBB.out
          have d0 := cell_blk hbx2 0
          have d1 := cell_blk hbx2 1
          have z2 := fin_at hbx2
          replace d0 := d0.trans (show _ = some (.string B) from rfl)
          replace d1 := d1.trans (show _ = some (.string N) from rfl)
          have HE := Lib.hid (HE0.out W2 v' (HV.out.below hb2) (HKW.out.trans (Stp.below hb2)))
          have HGC := Lib.hid (HG.out m W2 v' HIM.out (HV.out.below hb2) (Nat.le_trans HBA.out (Nat.le_of_lt (fin_at hbx2))))
          clear hb2 hbx2 c0 c1 z0
          go_wp2_with (go_at_call 101; refine (HBT.out _).mono ?_; rintro e W4 ⟨rfl, rfl⟩)
          refine HGC.out.mono ?_
          intro e W5 hg
          obtain ⟨x, rfl, hx0, hx1⟩ := HE.out W5 e hg
          have HX0 := Lib.hid hx0
          have HX1 := Lib.hid hx1
          clear hg hx0 hx1
          by_cases hxz : x = 0
          · subst hxz
            go_wp2_with fail
            go_ret2
            exact HX0.out (by trivial)
          · have hq : (x != 0) = true := by simpa using hxz
            go_wp2_with fail
            go_ret2
            exact HX1.out hxz
/-- All of reckon. -/
theorem reckon_any (base vb : Nat) : ∀ t : Tm, TmOk t → RkOk base vb t
  | .const n, _ => reck_const base vb n
  | .named t, _ => reck_named base vb t
  | .led s t, h => reck_led base vb s t (reckon_any base vb t h)
  | .pair s l r, h => reck_pair base vb s l r (reckon_any base vb l h.1) (reckon_any base vb r h.2)
  | .gift b n t, h => reck_gift base vb b n t h.1 h.2 (reckon_any base vb t h.2)
  | .choice a b c, h => reck_choice base vb a b c (reckon_any base vb a h.1) (reckon_any base vb b h.2.1) (reckon_any base vb c h.2.2)
end Go.Proofs.YtcadnkanjlmfhaaGreatDoor.Ar
namespace Go.Proofs
open Go.Shelf

def Tryz.laysCloneV_ren : Go.Shelf.Ren := ⟨fun | 41 => 13 | n => n, fun | 22 => 22 | 23 => 35 | 4 => 4 | n => n, fun | n => n⟩

theorem Tryz.laysCloneV : Go.Proofs.SlLaysE0.n41 Tryz.prog Tryz.laysCloneV_ren := {
  mixed := by kernel_rfl
  f41 := ⟨Tryz.f13.name, by decide, Tryz.func13.trans (congrArg some (by kernel_rfl))⟩
  t4 := Tryz.underlying4
  a4 := Tryz.isAgg4
  z4 := Tryz.sizeOf4
  v4 := Tryz.zeroValue4
  t22 := Tryz.underlying22
  a22 := Tryz.isAgg22
  z22 := Tryz.sizeOf22
  v22 := Tryz.zeroValue22 }

open Go.RowKit Go.Lib in
theorem Tryz.slices_CloneV (i0 : TypeInfo) (z : Value) (size bytes : Nat) (hi : Tryz.prog.info? 35 = some i0) (hz0 : i0.zero = some z) (hz1 : i0.size = size) (hz2 : i0.bytes = bytes) (hzs : z.cells.size = size) (hsz : 0 < size) (z23 : ∀ w, (Go.sizeOf 35).run Tryz.prog w = .ok size w) (b off n c : Nat) (news : List Value) (w : World) (hl : news.length = n * size) (hn : n ≤ maxLen) (hbig : n * bytes ≤ 140737488355328) (hc : ∀ j u, news[j]? = some u → w.cell? ⟨b, off + j, none⟩ = some u) (h1 : ∀ u ∈ news, u.oneCell' = true) :
    Calls Tryz.prog 13 #[.slice (some ⟨b, off, none⟩) n c] w fun e w' => ∃ v', e = .returned v' ∧ w'.ownsRow w.heap.size 35 size v' n news ∧ v' ≠ .slice none 0 0 ∧ Below w.heap.size w w' := AnyE.slices_Clone Tryz.laysCloneV i0 z size bytes hi hz0 hz1 hz2 hzs hsz z23 b off n c news w hl hn hbig hc h1

open Go.RowKit Go.Lib in
theorem Tryz.slices_CloneV_nil (n c : Nat) (w : World) :
    Calls Tryz.prog 13 #[.slice none n c] w fun e w' => e = .returned (.slice none 0 0) ∧ w' = w := AnyE.slices_Clone_nil Tryz.laysCloneV n c w

end Go.Proofs
