/- DERIVED. The walks over reckon, by the term's kind. -/
import Derived.Test.YtdegkfnlafgheaaDoorArGive
import Derived.Test.YtdegkfnlafgheaaDoorArRange
namespace Go.Proofs.YtdegkfnlafgheaaDoor.Ar
open Go.RowKit
open PathM WdM ArM
open Go.Proofs.YtdegkfnlafgheaaDoor.Wd
open Go.Proofs.YtdegkfnlafgheaaDoor.NumM (textL)
set_option linter.unusedVariables false

/-- How reckon ends. -/
def RkPost (base vb : Nat) (v : Value) (m : Except Int (Int × Vs)) (w : World) (e : Ending) (w' : World) : Prop := match m with
  | .ok (n, vs') => e = .returned (.tuple #[.int .i64 n, .int .i64 0]) ∧ ∃ v', VS base vb vs' v' w' ∧ Stp vb v v' w w'
  | .error er => er ≠ 0 ∧ (∃ k, e = .returned (.tuple #[.int .i64 k, .int .i64 er])) ∧ Kept (fun k => k = vb ∨ base ≤ k) w w'
/-- The kind of a term, its value, and its method. -/
def rkT : Tm → Nat
  | .const _ => 110 | .named _ => 111 | .led _ _ => 109 | .pair _ _ _ => 97 | .gift _ _ _ => 79 | .choice _ _ _ => 90
def rkX : Tm → Value
  | .const n => .int .i64 n
  | .named t => .string (nm t)
  | .led s t => .agg #[.string (nm s), tmV t]
  | .pair s l r => .agg #[.string (nm s), tmV l, tmV r]
  | .gift b n t => .agg #[.string (nm b), .string (nm n), tmV t]
  | .choice a b c => .agg #[tmV a, tmV b, tmV c]
def rkF : Tm → Nat
  | .const _ => 100 | .named _ => 101 | .led _ _ => 98 | .pair _ _ _ => 96 | .gift _ _ _ => 80 | .choice _ _ _ => 95
theorem tm_if (t : Tm) : tmV t = .iface (rkT t) (rkX t) := by cases t <;> rfl
theorem rk_enters (t : Tm) (args : Array Value) (w : World) : (callFunc (rkF t) args).run Tryd.prog w = .ok (.enter (rkF t) args) w := by
  cases t
  · exact enters_of Tryd.func100 (by kernel_rfl) rfl args w
  · exact enters_of Tryd.func101 (by kernel_rfl) rfl args w
  · exact enters_of Tryd.func98 (by kernel_rfl) rfl args w
  · exact enters_of Tryd.func96 (by kernel_rfl) rfl args w
  · exact enters_of Tryd.func80 (by kernel_rfl) rfl args w
  · exact enters_of Tryd.func95 (by kernel_rfl) rfl args w
theorem rk_method (t : Tm) (w : World) : (method 238 (rkT t) (rkX t) "rehearsal/arith.reckon").run Tryd.prog w = .ok (rkF t, rkX t) w := by
  cases t <;> kernel_rfl
/-- A term's method, as the model reckons. -/
def RkOk (base vb : Nat) (t : Tm) : Prop := ∀ vs v w, VS base vb vs v w → base ≤ w.heap.size → Calls Tryd.prog (rkF t) #[rkX t, .pointer (some ⟨vb, 0, none⟩)] w (RkPost base vb v (reckonL t vs) w)
theorem ow_wide {base vb : Nat} {vs : Vs} {v : Value} {w w' : World} (h : VS base vb vs v w) (hk : Kept (OwV vb v) w w') : Kept (fun k => k = vb ∨ base ≤ k) w w' := by
  refine hk.mono ?_
  rintro k (rfl | hk)
  · exact .inl rfl
  · exact .inr (h.row.lt k hk).1
/-- The box of a term is as it was. -/
theorem box_kept {base vb : Nat} {vs : Vs} {v : Value} {w w' : World} {o : Obj} (h : VS base vb vs v w) (hk : Kept (OwV vb v) (w.alloc o) w') : w'.heap[w.heap.size]? = some o := by
  refine hk.at (heap_alloc_new w o) ?_
  rintro (e | e)
  · have := h.lt; omega
  · have := (h.row.lt _ e).2; omega
theorem al (w : World) (o : Obj) : Below w.heap.size w (w.alloc o) := (Below.refl _ _).alloc (Nat.le_refl _) _
theorem RkPost.er {base vb : Nat} {v : Value} {w w' : World} {er k : Int} {m : Except Int (Int × Vs)} (hm : m = .error er) (h0 : er ≠ 0) (hk : Kept (fun k => k = vb ∨ base ≤ k) w w') : RkPost base vb v m w (.returned (.tuple #[.int .i64 k, .int .i64 er])) w' := by
  subst hm; exact ⟨h0, ⟨k, rfl⟩, hk⟩
theorem RkPost.yes {base vb : Nat} {v v' : Value} {w w' : World} {n : Int} {vs' : Vs} {m : Except Int (Int × Vs)} (hm : m = .ok (n, vs')) (h : VS base vb vs' v' w') (hs : Stp vb v v' w w') : RkPost base vb v m w (.returned (.tuple #[.int .i64 n, .int .i64 0])) w' := by
  subst hm; exact ⟨rfl, v', h, hs⟩
/-- Ahead of a later step. -/
theorem RkPost.from {base vb : Nat} {vs : Vs} {v v1 : Value} {m m2 : Except Int (Int × Vs)} {w w1 w2 : World} {e : Ending} (h0 : VS base vb vs v w) (hs : Stp vb v v1 w w1) (h : RkPost base vb v1 m w1 e w2) (hm : m = m2) : RkPost base vb v m2 w e w2 := by
  subst hm
  cases m with
  | ok p =>
    obtain ⟨n, vs'⟩ := p
    obtain ⟨he, v', hv, hs2⟩ := h
    exact ⟨he, v', hv, hs.trans hs2⟩
  | error er =>
    obtain ⟨hn, he, hk⟩ := h
    exact ⟨hn, he, (ow_wide h0 hs.1).trans hk⟩
theorem RkPost.form {base vb : Nat} {v : Value} {m : Except Int (Int × Vs)} {w w' : World} {e : Ending} (h : RkPost base vb v m w e w') : ∃ n x, e = .returned (.tuple #[.int .i64 n, .int .i64 x]) := by
  cases m with
  | ok p => exact ⟨_, _, h.1⟩
  | error er => obtain ⟨_, ⟨k, h⟩, _⟩ := h; exact ⟨k, er, h⟩
theorem reck_const (base vb : Nat) (n : Int) : RkOk base vb (.const n) := by
  intro vs v w h hb
  show Calls _ 100 #[.int .i64 n, .pointer (some ⟨vb, 0, none⟩)] _ _
  have HF := Lib.hid (RkPost.yes (base := base) (vb := vb) (m := reckonL (.const n) vs) rfl h (Stp.refl vb v w))
  generalize reckonL (.const n) vs = M at *
  clear h
  go_enter Tryd.func100, Tryd.ntmps100
  go_wp2_with fail
  go_ret2
  exact HF.out
set_option maxRecDepth 100000 in
set_option maxHeartbeats 1600000 in
theorem reck_named (base vb : Nat) (t : Bs) : RkOk base vb (.named t) := by
  intro vs v w h hb
  show Calls _ 101 #[.string (nm t), .pointer (some ⟨vb, 0, none⟩)] _ _
  have hn := number_any vs t v vb w h.cell h.lt h.va
  cases hr : numberL vs t with
  | ok n =>
    rw [hr] at hn
    have HN := Lib.hid hn
    have HF : Hid (∀ W, Below w.heap.size w W → RkPost base vb v (reckonL (.named t) vs) w (.returned (.tuple #[.int .i64 n, .int .i64 0])) W) := Lib.hid (fun W hW => RkPost.yes (by rw [reckonL, hr]) (h.below hW) (Stp.below hW))
    generalize reckonL (.named t) vs = M at *
    generalize nm t = N at *
    clear hn hr h
    unfold pairE at HN
    go_enter Tryd.func101, Tryd.ntmps101
    go_wp2_with (go_at_call 81; refine HN.out.mono ?_; rintro e W ⟨rfl, hb⟩; have HB := Lib.hid hb; clear hb)
    go_ret2
    exact HF.out _ HB.out
  | error er =>
    rw [hr] at hn
    have HN := Lib.hid hn
    have HF : Hid (∀ W, Below w.heap.size w W → RkPost base vb v (reckonL (.named t) vs) w (.returned (.tuple #[.int .i64 0, .int .i64 er])) W) := Lib.hid (fun W hW => RkPost.er (by rw [reckonL, hr]) (number_ne hr) (ow_wide h (kept_of_below hW)))
    generalize reckonL (.named t) vs = M at *
    generalize nm t = N at *
    clear hn hr h
    unfold pairE at HN
    go_enter Tryd.func101, Tryd.ntmps101
    go_wp2_with (go_at_call 81; refine HN.out.mono ?_; rintro e W ⟨rfl, hb⟩; have HB := Lib.hid hb; clear hb)
    go_ret2
    exact HF.out _ HB.out
set_option maxRecDepth 100000 in
set_option maxHeartbeats 1600000 in
theorem reck_led (base vb : Nat) (s : Bs) (t : Tm) (ht : RkOk base vb t) : RkOk base vb (.led s t) := by
  intro vs v w h hb
  show Calls _ 98 #[.agg #[.string (nm s), tmV t], .pointer (some ⟨vb, 0, none⟩)] _ _
  rw [tm_if]
  have hm := rk_method t
  have he := rk_enters t
  have hA := al w (.cells #[.string (nm s), .iface (rkT t) (rkX t)] 109)
  have h1 := h.below hA
  have HP := Lib.hid (ht vs v _ h1 (Nat.le_trans hb hA.size))
  have HBX := Lib.hid (fun w' (hk : Kept (OwV vb v) (w.alloc (.cells #[.string (nm s), .iface (rkT t) (rkX t)] 109)) w') => box_kept h hk)
  have HH := Lib.hid h
  have HO := Lib.hid (of_any s)
  have HST := Lib.hid (Stp.below (vb := vb) (v := v) hA)
  have H1 := Lib.hid h1
  cases hx : reckonL t vs with
  | error er =>
    have hr : reckonL (.led s t) vs = .error er := by rw [reckonL, hx]
    rw [hx] at HP
    have HF : Hid (∀ W k, Kept (fun k => k = vb ∨ base ≤ k) w W → er ≠ 0 → RkPost base vb v (reckonL (.led s t) vs) w (.returned (.tuple #[.int .i64 k, .int .i64 er])) W) := Lib.hid (fun W k hk h0 => RkPost.er hr h0 hk)
    generalize reckonL (.led s t) vs = M at *
    clear hr hx h h1 hA
    generalize rkT t = T at *
    generalize rkX t = X at *
    generalize rkF t = F at *
    generalize nm s = S at *
    go_enter Tryd.func98, Tryd.ntmps98
    go_wp2_with fail
    refine HP.out.mono ?_
    rintro e W ⟨h0, ⟨k, rfl⟩, hk⟩
    have HFF := Lib.hid (HF.out W 0 ((ow_wide HH.out HST.out.1).trans hk) h0)
    have hq : (er != 0) = true := by simpa using h0
    clear h0 hk hm he
    go_wp2_with fail
    go_ret2
    exact HFF.out
  | ok p =>
    obtain ⟨n, vs2⟩ := p
    have hr : reckonL (.led s t) vs = .ok (ofL s n, vs2) := by rw [reckonL, hx]
    rw [hx] at HP
    have HF : Hid (∀ W v', VS base vb vs2 v' W → Stp vb v v' w W → RkPost base vb v (reckonL (.led s t) vs) w (.returned (.tuple #[.int .i64 (ofL s n), .int .i64 0])) W) := Lib.hid (fun W v' h1 h2 => RkPost.yes hr h1 h2)
    generalize reckonL (.led s t) vs = M at *
    clear hr hx h h1 hA
    generalize rkT t = T at *
    generalize rkX t = X at *
    generalize rkF t = F at *
    have HO := Lib.hid (HO.out n)
    generalize ofL s n = on at *
    generalize nm s = S at *
    go_enter Tryd.func98, Tryd.ntmps98
    go_wp2_with fail
    refine HP.out.mono ?_
    rintro e W ⟨rfl, v', hv, hs⟩
    have hbx := HBX.out W hs.1
    have c0 := cell_blk hbx 0
    have z0 := fin_at hbx
    replace c0 := c0.trans (show _ = some (.string S) from rfl)
    have HFF := Lib.hid (HF.out W v' hv (HST.out.trans hs))
    clear hbx hv hs hm he
    go_wp2_with (go_at_call 99; refine (HO.out _).mono ?_; rintro e W2 ⟨rfl, rfl⟩)
    go_ret2
    exact HFF.out
set_option maxRecDepth 100000 in
set_option maxHeartbeats 1600000 in
theorem reck_choice (base vb : Nat) (a b c : Tm) (ha : RkOk base vb a) (hbb : RkOk base vb b) (hcc : RkOk base vb c) : RkOk base vb (.choice a b c) := by
  intro vs v w h hb
  show Calls _ 95 #[.agg #[tmV a, tmV b, tmV c], .pointer (some ⟨vb, 0, none⟩)] _ _
  rw [tm_if, tm_if, tm_if]
  have hm := rk_method a
  have he := rk_enters a
  have hA := al w (.cells #[.iface (rkT a) (rkX a), .iface (rkT b) (rkX b), .iface (rkT c) (rkX c)] 90)
  have h1 := h.below hA
  have HP := Lib.hid (ha vs v _ h1 (Nat.le_trans hb hA.size))
  have HBX := Lib.hid (fun w' (hk : Kept (OwV vb v) (w.alloc (.cells #[.iface (rkT a) (rkX a), .iface (rkT b) (rkX b), .iface (rkT c) (rkX c)] 90)) w') => box_kept h hk)
  have HH := Lib.hid h
  have HST := Lib.hid (Stp.below (vb := vb) (v := v) hA)
  have H1 := Lib.hid h1
  have HBA := Lib.hid hb
  cases hx : reckonL a vs with
  | error er =>
    have hr : reckonL (.choice a b c) vs = .error er := by rw [reckonL, hx]
    rw [hx] at HP
    have HF : Hid (∀ W k, Kept (fun k => k = vb ∨ base ≤ k) w W → er ≠ 0 → RkPost base vb v (reckonL (.choice a b c) vs) w (.returned (.tuple #[.int .i64 k, .int .i64 er])) W) := Lib.hid (fun W k hk h0 => RkPost.er hr h0 hk)
    generalize reckonL (.choice a b c) vs = M at *
    clear hr hx h h1 hA
    generalize rkT a = Ta at *
    generalize rkX a = Xa at *
    generalize rkF a = Fa at *
    generalize rkT b = Tb at *
    generalize rkX b = Xb at *
    generalize rkT c = Tc at *
    generalize rkX c = Xc at *
    go_enter Tryd.func95, Tryd.ntmps95
    go_wp2_with fail
    refine HP.out.mono ?_
    rintro e W ⟨h0, ⟨k, rfl⟩, hk⟩
    have HFF := Lib.hid (HF.out W 0 ((ow_wide HH.out HST.out.1).trans hk) h0)
    have hq : (er != 0) = true := by simpa using h0
    clear h0 hk hm he
    go_wp2_with fail
    go_ret2
    exact HFF.out
  | ok p =>
    obtain ⟨n, vs2⟩ := p
    have hr : reckonL (.choice a b c) vs = if n != 0 then reckonL b vs2 else reckonL c vs2 := by rw [reckonL, hx]
    rw [hx] at HP
    by_cases hn : n = 0
    · have hq : (n != 0) = false := by simpa using hn
      rw [if_neg (by rw [hq]; simp)] at hr
      have hm2 := rk_method c
      have he2 := rk_enters c
      have HF : Hid (∀ W v' e W2, Stp vb v v' w W → RkPost base vb v' (reckonL c vs2) W e W2 → RkPost base vb v (reckonL (.choice a b c) vs) w e W2) := Lib.hid (fun W v' e W2 h1 h2 => RkPost.from HH.out h1 h2 hr.symm)
      have HC : Hid (∀ v' W, VS base vb vs2 v' W → base ≤ W.heap.size → Calls Tryd.prog (rkF c) #[rkX c, .pointer (some ⟨vb, 0, none⟩)] W (RkPost base vb v' (reckonL c vs2) W)) := Lib.hid (fun v' W h1 h2 => hcc vs2 v' W h1 h2)
      generalize reckonL (.choice a b c) vs = M at *
      clear hr hx h h1 hA
      generalize rkT a = Ta at *
      generalize rkX a = Xa at *
      generalize rkF a = Fa at *
      generalize rkT b = Tb at *
      generalize rkX b = Xb at *
      generalize rkT c = Tc at *
      generalize rkX c = Xc at *
      generalize rkF c = Fc at *
      generalize reckonL c vs2 = M2 at *
      subst hn
      go_enter Tryd.func95, Tryd.ntmps95
      go_wp2_with fail
      refine HP.out.mono ?_
      rintro e W ⟨rfl, v', hv, hs⟩
      have hbx := HBX.out W hs.1
      have c0 := cell_blk hbx 2
      have z0 := fin_at hbx
      replace c0 := c0.trans (show _ = some (.iface Tc Xc) from rfl)
      have HS := Lib.hid (HST.out.trans hs)
      have HC2 := Lib.hid (HC.out v' W hv (Nat.le_trans HBA.out (Nat.le_of_lt (fin_at hbx))))
      clear hbx hv hs hm he
      go_wp2_with fail
      refine HC2.out.mono ?_
      intro e W2 hP
      have HFF := Lib.hid (HF.out _ _ _ _ HS.out hP)
      obtain ⟨k, x, rfl⟩ := hP.form
      clear hP hm2 he2
      go_wp2_with fail
      go_ret2
      exact HFF.out
    · have hq : (n != 0) = true := by simpa using hn
      rw [if_pos hq] at hr
      have hm2 := rk_method b
      have he2 := rk_enters b
      have HF : Hid (∀ W v' e W2, Stp vb v v' w W → RkPost base vb v' (reckonL b vs2) W e W2 → RkPost base vb v (reckonL (.choice a b c) vs) w e W2) := Lib.hid (fun W v' e W2 h1 h2 => RkPost.from HH.out h1 h2 hr.symm)
      have HC : Hid (∀ v' W, VS base vb vs2 v' W → base ≤ W.heap.size → Calls Tryd.prog (rkF b) #[rkX b, .pointer (some ⟨vb, 0, none⟩)] W (RkPost base vb v' (reckonL b vs2) W)) := Lib.hid (fun v' W h1 h2 => hbb vs2 v' W h1 h2)
      generalize reckonL (.choice a b c) vs = M at *
      clear hr hx h h1 hA
      generalize rkT a = Ta at *
      generalize rkX a = Xa at *
      generalize rkF a = Fa at *
      generalize rkT b = Tb at *
      generalize rkX b = Xb at *
      generalize rkF b = Fb at *
      generalize rkT c = Tc at *
      generalize rkX c = Xc at *
      generalize reckonL b vs2 = M2 at *
      go_enter Tryd.func95, Tryd.ntmps95
      go_wp2_with fail
      refine HP.out.mono ?_
      rintro e W ⟨rfl, v', hv, hs⟩
      have hbx := HBX.out W hs.1
      have c0 := cell_blk hbx 1
      have z0 := fin_at hbx
      replace c0 := c0.trans (show _ = some (.iface Tb Xb) from rfl)
      have HS := Lib.hid (HST.out.trans hs)
      have HC2 := Lib.hid (HC.out v' W hv (Nat.le_trans HBA.out (Nat.le_of_lt (fin_at hbx))))
      clear hbx hv hs hm he
      go_wp2_with fail
      refine HC2.out.mono ?_
      intro e W2 hP
      have HFF := Lib.hid (HF.out _ _ _ _ HS.out hP)
      obtain ⟨k, x, rfl⟩ := hP.form
      clear hP hm2 he2
      go_wp2_with fail
      go_ret2
      exact HFF.out
end Go.Proofs.YtdegkfnlafgheaaDoor.Ar
