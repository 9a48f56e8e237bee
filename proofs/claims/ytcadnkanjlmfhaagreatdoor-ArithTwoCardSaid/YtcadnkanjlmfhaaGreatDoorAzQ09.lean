/- DERIVED. Texts of this claim, joined: ArLead2, ArReadA. -/
import Derived.Test.YtcadnkanjlmfhaaGreatDoorAzQ08
import Derived.RegionTactic
import Derived.ChangeAlike
import Derived.BigRegion
namespace Go.Proofs.YtcadnkanjlmfhaaGreatDoor.Ar
open Go.RowKit
open PathM WdM ArM
open Go.Proofs.YtcadnkanjlmfhaaGreatDoor.Wd
set_option linter.unusedVariables false

theorem RdA.heap {w w' : World} {rb dp : Nat} {l : List Tok} (h : RdA w rb l dp) (e : w'.heap = w.heap) : RdA w' rb l dp := by
  obtain ⟨v, h, h2, h3⟩ := h
  exact ⟨v, by rw [e]; exact h, h2.keep (fun b _ => by rw [e]), h3⟩
/-- One level deeper, one token less. -/
theorem RdB.deeper {w : World} {rb dp b off n c m c2 : Nat} {t : Tok} {l : List Tok} (h : RdB w rb (.slice (some ⟨b, off, none⟩) n c) (t :: l) dp) (hd : dp < 64) (u : Obj) (hm : m = l.length) (hc2 : c2 = c - 1) :
    RdA (((w.setCell ⟨rb, 1, none⟩ (.int .i64 ((dp : Int) + 1))).setCell ⟨rb, 0, none⟩ (.slice (some ⟨b, off + 3, none⟩) m c2)).alloc u) rb l (dp + 1) := by
  have h1 : RdB (w.setCell ⟨rb, 1, none⟩ (.int .i64 ((dp : Int) + 1))) rb (.slice (some ⟨b, off, none⟩) n c) (t :: l) (dp + 1) := by
    refine ⟨by simpa using set_blk (j := 1) h.1 (.int .i64 ((dp : Int) + 1)), h.2.1.keep (fun k hk => Below.heap_setCell _ _ _ _ (fun e => ?_)), by omega⟩
    have : k = rb := e
    omega
  exact (h1.less hm hc2).told ((Below.refl _ _).alloc (Nat.le_refl _) _)
theorem RdB.deeper0 {w : World} {rb dp m : Nat} {v : Value} {A2 : Option Addr} {t : Tok} {l : List Tok} (h : RdB w rb v (t :: l) dp) (hd : dp < 64) (u : Obj) (hm : m = l.length) (h0 : m = 0) :
    RdA (((w.setCell ⟨rb, 1, none⟩ (.int .i64 ((dp : Int) + 1))).setCell ⟨rb, 0, none⟩ (.slice A2 m 0)).alloc u) rb l (dp + 1) := by
  have h1 : RdB (w.setCell ⟨rb, 1, none⟩ (.int .i64 ((dp : Int) + 1))) rb v (t :: l) (dp + 1) := by
    refine ⟨by simpa using set_blk (j := 1) h.1 (.int .i64 ((dp : Int) + 1)), h.2.1.keep (fun k hk => Below.heap_setCell _ _ _ _ (fun e => ?_)), by omega⟩
    have : k = rb := e
    omega
  exact (h1.last hm h0).told ((Below.refl _ _).alloc (Nat.le_refl _) _)
/-- And up again. -/
theorem RdA.up {w : World} {rb dp : Nat} {l : List Tok} (h : RdA w rb l (dp + 1)) (hd : dp ≤ 64) : RdA (w.setCell ⟨rb, 1, none⟩ (.int .i64 (dp : Int))) rb l dp := by
  obtain ⟨v, h, h2, h3⟩ := h
  refine ⟨v, by simpa using set_blk (j := 1) h (.int .i64 (dp : Int)), h2.keep (fun k hk => Below.heap_setCell _ _ _ _ (fun e => ?_)), hd⟩
  have : k = rb := e
  omega
/-- The world while the levels are one more. -/
def LdW (rb dp : Nat) (w W : World) : Prop := Kept (· = rb) w W ∧ W.cell? ⟨w.heap.size, 0, none⟩ = some (.pointer (some ⟨rb, 0, none⟩)) ∧ w.heap.size < W.heap.size ∧ rb < w.heap.size
theorem LdW.kept {rb dp : Nat} {w W W' : World} (h : LdW rb dp w W) (hk : Kept (· = rb) W W') : LdW rb dp w W' := by
  obtain ⟨h1, h2, h3, h4⟩ := h
  exact ⟨h1.trans hk, (hk.cell (p := ⟨w.heap.size, 0, none⟩) h3 (fun e => by have e : w.heap.size = rb := e; omega)).trans h2, Nat.lt_of_lt_of_le h3 hk.size, h4⟩
theorem calls_gen {P : Program} {f : FuncId} {args : Array Value} {W : World} {R : Ending → World → Prop} (Q : World → Prop) (hQ : Q W) (h : ∀ W', Q W' → Calls P f args W' R) : Calls P f args W R := h W hQ
theorem kept_drew {S : Nat → Prop} (w : World) : Kept S w w.drew := ⟨rfl, rfl, rfl, Nat.le_refl _, fun _ _ _ => rfl⟩
/-- Ahead of what stands behind a sign, or in parentheses. -/
def LdQ (rb dp : Nat) (l : List Tok) (w : World) (tb : Nat) (S : ByteArray) (W : World) : Prop := RdA W rb l (dp + 1) ∧ LdW rb dp w W ∧ W.cell? ⟨tb, 0, none⟩ = some (.string S) ∧ tb < W.heap.size ∧ ¬ tb = rb
theorem ldq_at {rb dp tb : Nat} {l : List Tok} {w W1 Wz W : World} {S T : ByteArray} {k : Int} (ht : W1.heap.size = tb) (hw : w.heap.size < tb) (hrb : rb < w.heap.size) (hk : Kept (· = rb) w W1) (hc : W1.cell? ⟨w.heap.size, 0, none⟩ = some (.pointer (some ⟨rb, 0, none⟩))) (hz : Kept (· = rb) W1 Wz) (hs : Wz.heap.size = tb)
    (hW : W.heap = (Wz.alloc (.cells #[.string S, .string T, .int .i64 k] 72)).heap ∧ Kept (· = rb) (Wz.alloc (.cells #[.string S, .string T, .int .i64 k] 72)) W) (h : RdA (Wz.alloc (.cells #[.string S, .string T, .int .i64 k] 72)) rb l (dp + 1)) : LdQ rb dp l w tb S W := by
  obtain ⟨hW, hk2⟩ := hW
  have h1 : LdW rb dp w W1 := ⟨hk, hc, by omega, hrb⟩
  have h2 := h1.kept hz
  have h3 := h2.kept ((kept_of_below ((Below.refl _ _).alloc (Nat.le_refl _) (.cells #[.string S, .string T, .int .i64 k] 72))).trans hk2)
  have hn := heap_alloc_new Wz (.cells #[.string S, .string T, .int .i64 k] 72)
  have hn2 : W.heap[tb]? = some (.cells #[.string S, .string T, .int .i64 k] 72) := by rw [hW, ← hs]; exact hn
  exact ⟨h.heap hW, h3, cell_blk hn2 0, fin_at hn2, by omega⟩
/-- The reader's post, one level up. -/
theorem RdPost.up {rb dp : Nat} {m : Rr} {w W W2 : World} {v : Value} {x : Int} (hd : dp ≤ 64) (hW : LdW rb dp w W) (h : RdPost rb (dp + 1) m W (.returned (.tuple #[v, .int .i64 x])) W2) : RdPost rb dp m w (.returned (.tuple #[v, .int .i64 x])) (W2.setCell ⟨rb, 1, none⟩ (.int .i64 (dp : Int))) := by
  obtain ⟨hk, h⟩ := h
  have hkk : Kept (· = rb) w (W2.setCell ⟨rb, 1, none⟩ (.int .i64 (dp : Int))) := (hW.1.trans hk).trans (Kept.setCell (S := (· = rb)) ⟨rb, 1, none⟩ _ rfl)
  cases m with
  | ok p =>
    obtain ⟨y, r⟩ := p
    obtain ⟨he, hr⟩ := h
    exact ⟨hkk, he, hr.up hd⟩
  | error er =>
    obtain ⟨v', r, he, hr, hne, hi⟩ := h
    exact ⟨hkk, v', r, he, hr.up hd, hne, hi⟩
/-- What stands behind a sign, as the model reads. -/
def ledR (s : Bs) (m : Rr) : Rr := match m with
  | .error e => .error e
  | .ok (t, r) => .ok (.led s t, r)
theorem RdPost.led {rb dp : Nat} {m : Rr} {w w2 : World} {v : Value} {x : Int} (s : Bs) (h : RdPost rb dp m w (.returned (.tuple #[v, .int .i64 x])) w2) :
    RdPost rb dp (ledR s m) w (.returned (.tuple #[.iface 139 (.agg #[.string (nm s), v]), .int .i64 x])) w2 := by
  obtain ⟨hk2, h⟩ := h
  cases m with
  | ok p =>
    obtain ⟨y, r⟩ := p
    obtain ⟨he, hr⟩ := h
    simp only [Ending.returned.injEq, Value.tuple.injEq, Array.mk.injEq, List.cons.injEq, Value.int.injEq, and_true, true_and] at he
    obtain ⟨rfl, rfl⟩ := he
    exact RdPost.yes rfl rfl hk2 hr
  | error er =>
    obtain ⟨v', r, he, hr, hne, _⟩ := h
    simp only [Ending.returned.injEq, Value.tuple.injEq, Array.mk.injEq, List.cons.injEq, Value.int.injEq, and_true, true_and] at he
    obtain ⟨rfl, rfl⟩ := he
    exact RdPost.no rfl hne (.inr ⟨_, _, rfl⟩) hk2 hr
/-- The cell that counts the levels. -/
theorem RdPost.cell {rb dp : Nat} {m : Rr} {w w2 : World} {e : Ending} (h : RdPost rb dp m w e w2) : w2.cell? ⟨rb, 1, none⟩ = some (.int .i64 dp) ∧ w2.frozen? ⟨rb, 1, none⟩ = false := by
  obtain ⟨_, h⟩ := h
  have : ∃ l, RdA w2 rb l dp := by
    split at h
    · exact ⟨_, h.2⟩
    · obtain ⟨_, _, _, h, _⟩ := h; exact ⟨_, h⟩
  obtain ⟨l, v, hb, _⟩ := this
  exact ⟨cell_blk hb 1, froz_blk hb 1⟩
set_option maxRecDepth 100000 in
set_option maxHeartbeats 3200000 in
theorem lead_led (rb dp : Nat) (t : Tok) (l : List Tok) (w : World) (m : Rr) (h : RdA w rb (t :: l) dp) (hd : dp < 64) (hl : leadsOf (sgOf t) = true) (b2 : Bool) (hp : decide (sgOf t = [40]) = b2)
    (hA : ∀ W, RdA W rb l (dp + 1) → Calls Tryz.prog 68 #[.pointer (some ⟨rb, 0, none⟩)] W (RdPost rb (dp + 1) m W)) :
    Calls Tryz.prog 68 #[.pointer (some ⟨rb, 0, none⟩)] w (RdPost rb dp (ledR (sgOf t) m) w) := by
  have hrb := h.lt
  have ha : Below w.heap.size w (w.alloc (.cells #[.pointer (some ⟨rb, 0, none⟩)] 97)) := (Below.refl _ _).alloc (Nat.le_refl _) _
  have h1 := h.told ha
  have HN := Lib.hid (next_some t l rb dp _ h1)
  unfold tokV at HN
  obtain ⟨v0, hb0⟩ := h1
  replace hb0 : RdB (w.alloc (.cells #[.pointer (some ⟨rb, 0, none⟩)] 97)) rb v0 (t :: l) dp := hb0
  obtain ⟨b, off, c, rfl, hlt, hlc, hlm, hk, a0, a1, a2⟩ := hb0.2.1.head
  have B0 := Lib.hid hb0
  clear hb0 a0 a1 a2 hk
  have HAL := Lib.hid ha
  have n0 := heap_alloc_new w (.cells #[.pointer (some ⟨rb, 0, none⟩)] 97)
  have N0 := Lib.hid n0
  clear n0 ha
  have HL := Lib.hid (leads_any (sgOf t))
  rw [hl] at HL
  have q := str_is (sgOf t) [40]
  rw [hp] at q
  have HF : Hid (∀ W W2 v x, LdW rb dp w W → RdPost rb (dp + 1) m W (.returned (.tuple #[v, .int .i64 x])) W2 → RdPost rb dp (ledR (sgOf t) m) w (.returned (.tuple #[.iface 139 (.agg #[.string (nm (sgOf t)), v]), .int .i64 x])) (W2.setCell ⟨rb, 1, none⟩ (.int .i64 (dp : Int)))) := Lib.hid (fun W W2 v x hW hP => (RdPost.up (by omega) hW hP).led (sgOf t))
  generalize nm (sgOf t) = S at *
  generalize nm t.text = T at *
  generalize nOf t = k at *
  generalize ledR (sgOf t) m = M at *
  have hw1 : IntKind.i64.wrap ((dp : Int) + 1) = (dp : Int) + 1 := IntWalk.i64_in _ (by omega)
  have hd6 : ((dp : Int) == 64) = false := by simpa using by omega
  generalize hN : l.length = mm at *
  have HLN := Lib.hid hN
  have HA := Lib.hid hA
  clear h hl hp hN hA
  have fk0 := fieldK0
  have hmf : ∀ (fn : Fn) (first cap : Array Value) (w : World), (Instr.makeFunc fn first cap).run Tryz.prog w = .ok (.func fn first cap) w := fun _ _ _ _ => rfl
  by_cases hc1 : c = 1
  · subst hc1
    obtain rfl : mm = 0 := by omega
    cases b2
    all_goals
      go_enter_defers Tryz.func68, Tryz.ntmps68
      go_wp2_with (first | (go_at_call 69; refine HN.out.mono ?_; rintro e W1 ⟨rfl, hb⟩; have HB := Lib.hid hb; have B1 := Lib.hid (B0.out.told hb); have d1 := B1.out.c1; have d0 := B1.out.c0; have f0 := B1.out.fz 0; have f1 := B1.out.fz 1; have hz := hb.size; rw [World.size_alloc] at hz; have cz := cell_blk ((hb.block w.heap.size (by rw [World.size_alloc]; omega)).trans N0.out) 0; replace cz := cz.trans (show _ = some (.pointer (some ⟨rb, 0, none⟩)) from rfl); replace hz := Nat.lt_of_lt_of_le (Nat.lt_succ_self _) hz; have hz2 := Nat.lt_trans hrb hz; clear hb) | (go_at_call 77; refine (HL.out _).mono ?_; rintro e W2 ⟨rfl, rfl⟩))
      go_region
      go_wp2_with fail
      refine calls_gen (LdQ rb dp l w W1.heap.size S) ?_ ?_
      · exact ldq_at rfl hz hrb ((kept_of_below HAL.out).trans ((kept_of_below HB.out).mono (fun _ h => h))) cz ((Kept.setCell (S := (· = rb)) ⟨rb, 1, none⟩ _ rfl).trans (Kept.setCell (S := (· = rb)) ⟨rb, 0, none⟩ _ rfl)) (by rw [World.size_setCell, World.size_setCell]) ⟨rfl, kept_drew _⟩ (RdB.deeper0 B1.out hd _ HLN.out.symm rfl)
      clear d0 d1 f0 f1 cz hz hz2 B1 HB
      generalize W1.heap.size = tb at *
      clear W1 HN B0 N0 HAL
      rintro W1 ⟨hR, hW, cS, hS, hT⟩
      have HW := Lib.hid hW
      have cz := hW.2.1
      have hz := hW.2.2.1
      have HAW := Lib.hid (HA.out _ hR)
      clear hR hW HA
      refine (HL.out _).mono ?_
      rintro e W2 ⟨rfl, rfl⟩
      go_wp2_with fail
      refine HAW.out.mono ?_
      intro e W3 hP
      obtain ⟨v, x, rfl, hi⟩ := hP.form
      obtain ⟨d1, f1⟩ := hP.cell
      rw [show (((dp + 1 : Nat)) : Int) = (dp : Int) + 1 by omega] at d1
      have HP := Lib.hid (HF.out _ _ _ _ HW.out hP)
      have hW3 := HW.out.kept hP.1
      have cz3 := hW3.2.1
      have hz3 := hW3.2.2.1
      have hz4 := hW3.2.2.2
      have cS3 := (hP.1.cell (p := ⟨tb, 0, none⟩) hS hT).trans cS
      have hS3 := Nat.lt_of_lt_of_le hS hP.1.size
      clear hP HAW HW hW3 cz hz cS hS HF
      rcases hi with rfl | ⟨T2, z2, rfl⟩
      all_goals
        go_wp2_with fail
        refine leaves_cons (f := 79) (args := #[.pointer (some ⟨w.heap.size, 0, none⟩)]) (by simp) (by simp [go_sem]) ?_
        refine (lead1_deferred rb w.heap.size dp _ _ cz3 d1 f1 hz3 (by omega) (by omega)).mono ?_
        rintro e u' w'' ⟨rfl, rfl, rfl⟩
        refine ⟨_, results_tmp2 rfl _ _ _, ?_⟩
        exact HP.out
  · have hc2 : 2 ≤ c := by omega
    clear hc1
    cases b2
    all_goals
      go_enter_defers Tryz.func68, Tryz.ntmps68
      go_wp2_with (first | (go_at_call 69; refine HN.out.mono ?_; rintro e W1 ⟨rfl, hb⟩; have HB := Lib.hid hb; have B1 := Lib.hid (B0.out.told hb); have d1 := B1.out.c1; have d0 := B1.out.c0; have f0 := B1.out.fz 0; have f1 := B1.out.fz 1; have hz := hb.size; rw [World.size_alloc] at hz; have cz := cell_blk ((hb.block w.heap.size (by rw [World.size_alloc]; omega)).trans N0.out) 0; replace cz := cz.trans (show _ = some (.pointer (some ⟨rb, 0, none⟩)) from rfl); replace hz := Nat.lt_of_lt_of_le (Nat.lt_succ_self _) hz; have hz2 := Nat.lt_trans hrb hz; clear hb) | (go_at_call 77; refine (HL.out _).mono ?_; rintro e W2 ⟨rfl, rfl⟩))
      go_region
      go_wp2_with fail
      refine calls_gen (LdQ rb dp l w W1.heap.size S) ?_ ?_
      · exact ldq_at rfl hz hrb ((kept_of_below HAL.out).trans ((kept_of_below HB.out).mono (fun _ h => h))) cz ((Kept.setCell (S := (· = rb)) ⟨rb, 1, none⟩ _ rfl).trans (Kept.setCell (S := (· = rb)) ⟨rb, 0, none⟩ _ rfl)) (by rw [World.size_setCell, World.size_setCell]) ⟨rfl, kept_drew _⟩ (RdB.deeper B1.out hd _ HLN.out.symm rfl)
      clear d0 d1 f0 f1 cz hz hz2 B1 HB
      generalize W1.heap.size = tb at *
      clear W1 HN B0 N0 HAL
      rintro W1 ⟨hR, hW, cS, hS, hT⟩
      have HW := Lib.hid hW
      have cz := hW.2.1
      have hz := hW.2.2.1
      have HAW := Lib.hid (HA.out _ hR)
      clear hR hW HA
      refine (HL.out _).mono ?_
      rintro e W2 ⟨rfl, rfl⟩
      go_wp2_with fail
      refine HAW.out.mono ?_
      intro e W3 hP
      obtain ⟨v, x, rfl, hi⟩ := hP.form
      obtain ⟨d1, f1⟩ := hP.cell
      rw [show (((dp + 1 : Nat)) : Int) = (dp : Int) + 1 by omega] at d1
      have HP := Lib.hid (HF.out _ _ _ _ HW.out hP)
      have hW3 := HW.out.kept hP.1
      have cz3 := hW3.2.1
      have hz3 := hW3.2.2.1
      have hz4 := hW3.2.2.2
      have cS3 := (hP.1.cell (p := ⟨tb, 0, none⟩) hS hT).trans cS
      have hS3 := Nat.lt_of_lt_of_le hS hP.1.size
      clear hP HAW HW hW3 cz hz cS hS HF
      rcases hi with rfl | ⟨T2, z2, rfl⟩
      all_goals
        go_wp2_with fail
        refine leaves_cons (f := 79) (args := #[.pointer (some ⟨w.heap.size, 0, none⟩)]) (by simp) (by simp [go_sem]) ?_
        refine (lead1_deferred rb w.heap.size dp _ _ cz3 d1 f1 hz3 (by omega) (by omega)).mono ?_
        rintro e u' w'' ⟨rfl, rfl, rfl⟩
        refine ⟨_, results_tmp2 rfl _ _ _, ?_⟩
        exact HP.out
/-- What stands in parentheses, as the model reads. -/
def parR (m : Rr) : Rr := match m with
  | .error e => .error e
  | .ok (t, r) => match takeL [41] r with
    | some r2 => .ok (t, r2)
    | none => .error 61
theorem RdA.cell {rb dp : Nat} {l : List Tok} {w : World} (h : RdA w rb l dp) : w.cell? ⟨rb, 1, none⟩ = some (.int .i64 dp) ∧ w.frozen? ⟨rb, 1, none⟩ = false := by
  obtain ⟨v, hb, _⟩ := h
  exact ⟨cell_blk hb 1, froz_blk hb 1⟩
set_option maxRecDepth 100000 in
set_option maxHeartbeats 3200000 in
theorem lead_paren (rb dp : Nat) (t : Tok) (l : List Tok) (w : World) (m : Rr) (h : RdA w rb (t :: l) dp) (hd : dp < 64) (hl : leadsOf (sgOf t) = false) (hp : sgOf t = [40])
    (hA : ∀ W, RdA W rb l (dp + 1) → Calls Tryz.prog 22 #[.pointer (some ⟨rb, 0, none⟩)] W (RdPost rb (dp + 1) m W)) :
    Calls Tryz.prog 68 #[.pointer (some ⟨rb, 0, none⟩)] w (RdPost rb dp (parR m) w) := by
  have hrb := h.lt
  have ha : Below w.heap.size w (w.alloc (.cells #[.pointer (some ⟨rb, 0, none⟩)] 97)) := (Below.refl _ _).alloc (Nat.le_refl _) _
  have h1 := h.told ha
  have HN := Lib.hid (next_some t l rb dp _ h1)
  unfold tokV at HN
  obtain ⟨v0, hb0⟩ := h1
  replace hb0 : RdB (w.alloc (.cells #[.pointer (some ⟨rb, 0, none⟩)] 97)) rb v0 (t :: l) dp := hb0
  obtain ⟨b, off, c, rfl, hlt, hlc, hlm, hk, a0, a1, a2⟩ := hb0.2.1.head
  have B0 := Lib.hid hb0
  clear hb0 a0 a1 a2 hk
  have HAL := Lib.hid ha
  have n0 := heap_alloc_new w (.cells #[.pointer (some ⟨rb, 0, none⟩)] 97)
  have N0 := Lib.hid n0
  clear n0 ha
  have HL := Lib.hid (leads_any (sgOf t))
  rw [hl] at HL
  have q := str_is (sgOf t) [40]
  rw [decide_eq_true hp] at q
  generalize nm (sgOf t) = S at *
  generalize nm t.text = T at *
  generalize nOf t = k at *
  have hw1 : IntKind.i64.wrap ((dp : Int) + 1) = (dp : Int) + 1 := IntWalk.i64_in _ (by omega)
  have hd6 : ((dp : Int) == 64) = false := by simpa using by omega
  generalize hN : l.length = mm at *
  have HLN := Lib.hid hN
  have HA := Lib.hid hA
  clear h hl hp hN hA
  have fk0 := fieldK0
  have hmf : ∀ (fn : Fn) (first cap : Array Value) (w : World), (Instr.makeFunc fn first cap).run Tryz.prog w = .ok (.func fn first cap) w := fun _ _ _ _ => rfl
  by_cases hc1 : c = 1
  · subst hc1
    obtain rfl : mm = 0 := by omega
    go_enter_defers Tryz.func68, Tryz.ntmps68
    go_wp2_with (first | (go_at_call 69; refine HN.out.mono ?_; rintro e W1 ⟨rfl, hb⟩; have HB := Lib.hid hb; have B1 := Lib.hid (B0.out.told hb); have d1 := B1.out.c1; have d0 := B1.out.c0; have f0 := B1.out.fz 0; have f1 := B1.out.fz 1; have hz := hb.size; rw [World.size_alloc] at hz; have cz := cell_blk ((hb.block w.heap.size (by rw [World.size_alloc]; omega)).trans N0.out) 0; replace cz := cz.trans (show _ = some (.pointer (some ⟨rb, 0, none⟩)) from rfl); replace hz := Nat.lt_of_lt_of_le (Nat.lt_succ_self _) hz; have hz2 := Nat.lt_trans hrb hz; clear hb) | (go_at_call 77; refine (HL.out _).mono ?_; rintro e W2 ⟨rfl, rfl⟩))
    go_region
    go_wp2_with fail
    refine calls_gen (LdQ rb dp l w W1.heap.size S) ?_ ?_
    · exact ldq_at rfl hz hrb ((kept_of_below HAL.out).trans ((kept_of_below HB.out).mono (fun _ h => h))) cz ((Kept.setCell (S := (· = rb)) ⟨rb, 1, none⟩ _ rfl).trans (Kept.setCell (S := (· = rb)) ⟨rb, 0, none⟩ _ rfl)) (by rw [World.size_setCell, World.size_setCell]) ⟨rfl, kept_drew _⟩ (RdB.deeper0 B1.out hd _ HLN.out.symm rfl)
    clear d0 d1 f0 f1 cz hz hz2 B1 HB
    generalize W1.heap.size = tb at *
    clear W1 HN B0 N0 HAL
    rintro W1 ⟨hR, hW, cS, hS, hT⟩
    have HW := Lib.hid hW
    have cz := hW.2.1
    have hz := hW.2.2.1
    have HAW := Lib.hid (HA.out _ hR)
    clear hR hW HA
    refine (HL.out _).mono ?_
    rintro e W2 ⟨rfl, rfl⟩
    go_wp2_with fail
    refine HAW.out.mono ?_
    intro e W3 hP
    have hW3 := HW.out.kept hP.1
    obtain ⟨d1, f1⟩ := hP.cell
    rw [show (((dp + 1 : Nat)) : Int) = (dp : Int) + 1 by omega] at d1
    have cz3 := hW3.2.1
    have hz3 := hW3.2.2.1
    have hz4 := hW3.2.2.2
    clear HAW cz hz cS hS
    cases m with
    | error er =>
      obtain ⟨v', r', rfl, hr, hne, hi⟩ := hP.2
      have HP := Lib.hid (RdPost.no (m := parR (.error er)) (v := .nilIface) rfl hne (.inl rfl) (hW3.1.trans (Kept.setCell (S := (· = rb)) ⟨rb, 1, none⟩ (.int .i64 (dp : Int)) rfl)) (hr.up (by omega)))
      have hq : (er != 0) = true := by simpa using hne
      clear hP HW hW3 hr hi hne
      go_wp2_with fail
      refine leaves_cons (f := 79) (args := #[.pointer (some ⟨w.heap.size, 0, none⟩)]) (by simp) (by simp [go_sem]) ?_
      refine (lead1_deferred rb w.heap.size dp _ _ cz3 d1 f1 hz3 (by omega) (by omega)).mono ?_
      rintro e u' w'' ⟨rfl, rfl, rfl⟩
      refine ⟨_, results_tmp2 rfl _ _ _, ?_⟩
      exact HP.out
    | ok p =>
      obtain ⟨t2, r⟩ := p
      obtain ⟨rfl, hr⟩ := hP.2
      have HT := Lib.hid (take_any [41] r rb (dp + 1) W3 hr)
      have HR3 := Lib.hid hr
      have HW3 := Lib.hid hW3
      have hi := tmV_if t2
      have HV : Hid (∀ W4 r3, takeL [41] r = some r3 → Kept (· = rb) W3 W4 → RdA W4 rb r3 (dp + 1) → RdPost rb dp (parR (.ok (t2, r))) w (.returned (.tuple #[tmV t2, .int .i64 0])) (W4.setCell ⟨rb, 1, none⟩ (.int .i64 (dp : Int)))) := Lib.hid (fun W4 r3 ht hk4 hr4 => RdPost.yes (by unfold parR; dsimp only; rw [ht]) rfl ((HW3.out.1.trans hk4).trans (Kept.setCell (S := (· = rb)) ⟨rb, 1, none⟩ _ rfl)) (hr4.up (by omega)))
      have HV2 : Hid (takeL [41] r = none → RdPost rb dp (parR (.ok (t2, r))) w (.returned (.tuple #[tmV t2, .int .i64 61])) (W3.setCell ⟨rb, 1, none⟩ (.int .i64 (dp : Int)))) := Lib.hid (fun ht => RdPost.no (er := 61) (by unfold parR; dsimp only; rw [ht]) (by decide) (tmV_if t2) (HW3.out.1.trans (Kept.setCell (S := (· = rb)) ⟨rb, 1, none⟩ _ rfl)) (HR3.out.up (by omega)))
      generalize tmV t2 = tv at *
      rw [show nm [41] = (⟨#[41]⟩ : ByteArray) from rfl] at HT
      generalize parR (.ok (t2, r)) = M at *
      generalize htk : takeL [41] r = tk at *
      clear hP HW hr hW3 hmf HL htk
      cases tk with
      | some r3 =>
        rcases hi with rfl | ⟨T2, z2, rfl⟩
        all_goals
          go_wp2_with fail
          refine HT.out.mono ?_
          rintro e W4 ⟨hk4, rfl, hr4⟩
          have HP := Lib.hid (HV.out W4 r3 rfl hk4 hr4)
          have hW4 := HW3.out.kept hk4
          have cz4 := hW4.2.1
          have hz5 := hW4.2.2.1
          have hz6 := hW4.2.2.2
          obtain ⟨d4, f4⟩ := hr4.cell
          rw [show (((dp + 1 : Nat)) : Int) = (dp : Int) + 1 by omega] at d4
          clear hk4 hr4 hW4 HV HV2 HW3 HR3 HT cz3 hz3 hz4 d1 f1
          go_wp2_with fail
          refine leaves_cons (f := 79) (args := #[.pointer (some ⟨w.heap.size, 0, none⟩)]) (by simp) (by simp [go_sem]) ?_
          refine (lead1_deferred rb w.heap.size dp _ _ cz4 d4 f4 hz5 (by omega) (by omega)).mono ?_
          rintro e u' w'' ⟨rfl, rfl, rfl⟩
          refine ⟨_, results_tmp2 rfl _ _ _, ?_⟩
          exact HP.out
      | none =>
        rcases hi with rfl | ⟨T2, z2, rfl⟩
        all_goals
          go_wp2_with fail
          refine HT.out.mono ?_
          rintro e W4 ⟨hk4, rfl, rfl⟩
          have HP := Lib.hid (HV2.out (by trivial))
          clear hk4 HV HV2 HW3 HR3 HT
          go_wp2_with fail
          refine leaves_cons (f := 79) (args := #[.pointer (some ⟨w.heap.size, 0, none⟩)]) (by simp) (by simp [go_sem]) ?_
          refine (lead1_deferred rb w.heap.size dp _ _ cz3 d1 f1 hz3 (by omega) (by omega)).mono ?_
          rintro e u' w'' ⟨rfl, rfl, rfl⟩
          refine ⟨_, results_tmp2 rfl _ _ _, ?_⟩
          exact HP.out
  · have hc2 : 2 ≤ c := by omega
    clear hc1
    go_enter_defers Tryz.func68, Tryz.ntmps68
    go_wp2_with (first | (go_at_call 69; refine HN.out.mono ?_; rintro e W1 ⟨rfl, hb⟩; have HB := Lib.hid hb; have B1 := Lib.hid (B0.out.told hb); have d1 := B1.out.c1; have d0 := B1.out.c0; have f0 := B1.out.fz 0; have f1 := B1.out.fz 1; have hz := hb.size; rw [World.size_alloc] at hz; have cz := cell_blk ((hb.block w.heap.size (by rw [World.size_alloc]; omega)).trans N0.out) 0; replace cz := cz.trans (show _ = some (.pointer (some ⟨rb, 0, none⟩)) from rfl); replace hz := Nat.lt_of_lt_of_le (Nat.lt_succ_self _) hz; have hz2 := Nat.lt_trans hrb hz; clear hb) | (go_at_call 77; refine (HL.out _).mono ?_; rintro e W2 ⟨rfl, rfl⟩))
    go_region
    go_wp2_with fail
    refine calls_gen (LdQ rb dp l w W1.heap.size S) ?_ ?_
    · exact ldq_at rfl hz hrb ((kept_of_below HAL.out).trans ((kept_of_below HB.out).mono (fun _ h => h))) cz ((Kept.setCell (S := (· = rb)) ⟨rb, 1, none⟩ _ rfl).trans (Kept.setCell (S := (· = rb)) ⟨rb, 0, none⟩ _ rfl)) (by rw [World.size_setCell, World.size_setCell]) ⟨rfl, kept_drew _⟩ (RdB.deeper B1.out hd _ HLN.out.symm rfl)
    clear d0 d1 f0 f1 cz hz hz2 B1 HB
    generalize W1.heap.size = tb at *
    clear W1 HN B0 N0 HAL
    rintro W1 ⟨hR, hW, cS, hS, hT⟩
    have HW := Lib.hid hW
    have cz := hW.2.1
    have hz := hW.2.2.1
    have HAW := Lib.hid (HA.out _ hR)
    clear hR hW HA
    refine (HL.out _).mono ?_
    rintro e W2 ⟨rfl, rfl⟩
    go_wp2_with fail
    refine HAW.out.mono ?_
    intro e W3 hP
    have hW3 := HW.out.kept hP.1
    obtain ⟨d1, f1⟩ := hP.cell
    rw [show (((dp + 1 : Nat)) : Int) = (dp : Int) + 1 by omega] at d1
    have cz3 := hW3.2.1
    have hz3 := hW3.2.2.1
    have hz4 := hW3.2.2.2
    clear HAW cz hz cS hS
    cases m with
    | error er =>
      obtain ⟨v', r', rfl, hr, hne, hi⟩ := hP.2
      have HP := Lib.hid (RdPost.no (m := parR (.error er)) (v := .nilIface) rfl hne (.inl rfl) (hW3.1.trans (Kept.setCell (S := (· = rb)) ⟨rb, 1, none⟩ (.int .i64 (dp : Int)) rfl)) (hr.up (by omega)))
      have hq : (er != 0) = true := by simpa using hne
      clear hP HW hW3 hr hi hne
      go_wp2_with fail
      refine leaves_cons (f := 79) (args := #[.pointer (some ⟨w.heap.size, 0, none⟩)]) (by simp) (by simp [go_sem]) ?_
      refine (lead1_deferred rb w.heap.size dp _ _ cz3 d1 f1 hz3 (by omega) (by omega)).mono ?_
      rintro e u' w'' ⟨rfl, rfl, rfl⟩
      refine ⟨_, results_tmp2 rfl _ _ _, ?_⟩
      exact HP.out
    | ok p =>
      obtain ⟨t2, r⟩ := p
      obtain ⟨rfl, hr⟩ := hP.2
      have HT := Lib.hid (take_any [41] r rb (dp + 1) W3 hr)
      have HR3 := Lib.hid hr
      have HW3 := Lib.hid hW3
      have hi := tmV_if t2
      have HV : Hid (∀ W4 r3, takeL [41] r = some r3 → Kept (· = rb) W3 W4 → RdA W4 rb r3 (dp + 1) → RdPost rb dp (parR (.ok (t2, r))) w (.returned (.tuple #[tmV t2, .int .i64 0])) (W4.setCell ⟨rb, 1, none⟩ (.int .i64 (dp : Int)))) := Lib.hid (fun W4 r3 ht hk4 hr4 => RdPost.yes (by unfold parR; dsimp only; rw [ht]) rfl ((HW3.out.1.trans hk4).trans (Kept.setCell (S := (· = rb)) ⟨rb, 1, none⟩ _ rfl)) (hr4.up (by omega)))
      have HV2 : Hid (takeL [41] r = none → RdPost rb dp (parR (.ok (t2, r))) w (.returned (.tuple #[tmV t2, .int .i64 61])) (W3.setCell ⟨rb, 1, none⟩ (.int .i64 (dp : Int)))) := Lib.hid (fun ht => RdPost.no (er := 61) (by unfold parR; dsimp only; rw [ht]) (by decide) (tmV_if t2) (HW3.out.1.trans (Kept.setCell (S := (· = rb)) ⟨rb, 1, none⟩ _ rfl)) (HR3.out.up (by omega)))
      generalize tmV t2 = tv at *
      rw [show nm [41] = (⟨#[41]⟩ : ByteArray) from rfl] at HT
      generalize parR (.ok (t2, r)) = M at *
      generalize htk : takeL [41] r = tk at *
      clear hP HW hr hW3 hmf HL htk
      cases tk with
      | some r3 =>
        rcases hi with rfl | ⟨T2, z2, rfl⟩
        all_goals
          go_wp2_with fail
          refine HT.out.mono ?_
          rintro e W4 ⟨hk4, rfl, hr4⟩
          have HP := Lib.hid (HV.out W4 r3 rfl hk4 hr4)
          have hW4 := HW3.out.kept hk4
          have cz4 := hW4.2.1
          have hz5 := hW4.2.2.1
          have hz6 := hW4.2.2.2
          obtain ⟨d4, f4⟩ := hr4.cell
          rw [show (((dp + 1 : Nat)) : Int) = (dp : Int) + 1 by omega] at d4
          clear hk4 hr4 hW4 HV HV2 HW3 HR3 HT cz3 hz3 hz4 d1 f1
          go_wp2_with fail
          refine leaves_cons (f := 79) (args := #[.pointer (some ⟨w.heap.size, 0, none⟩)]) (by simp) (by simp [go_sem]) ?_
          refine (lead1_deferred rb w.heap.size dp _ _ cz4 d4 f4 hz5 (by omega) (by omega)).mono ?_
          rintro e u' w'' ⟨rfl, rfl, rfl⟩
          refine ⟨_, results_tmp2 rfl _ _ _, ?_⟩
          exact HP.out
      | none =>
        rcases hi with rfl | ⟨T2, z2, rfl⟩
        all_goals
          go_wp2_with fail
          refine HT.out.mono ?_
          rintro e W4 ⟨hk4, rfl, rfl⟩
          have HP := Lib.hid (HV2.out (by trivial))
          clear hk4 HV HV2 HW3 HR3 HT
          go_wp2_with fail
          refine leaves_cons (f := 79) (args := #[.pointer (some ⟨w.heap.size, 0, none⟩)]) (by simp) (by simp [go_sem]) ?_
          refine (lead1_deferred rb w.heap.size dp _ _ cz3 d1 f1 hz3 (by omega) (by omega)).mono ?_
          rintro e u' w'' ⟨rfl, rfl, rfl⟩
          refine ⟨_, results_tmp2 rfl _ _ _, ?_⟩
          exact HP.out
end Go.Proofs.YtcadnkanjlmfhaaGreatDoor.Ar
namespace Go.Proofs.YtcadnkanjlmfhaaGreatDoor.Ar
open Go.RowKit
open PathM WdM ArM
open Go.Proofs.YtcadnkanjlmfhaaGreatDoor.Wd
set_option linter.unusedVariables false

theorem leads_num : leadsOf [110, 117, 109, 98, 101, 114] = false ∧ leadsOf [110, 97, 109, 101] = false := by decide
theorem lead_any (d : Rd) (rb m : Nat) (dp : Nat) (hL : ∀ dp, Ok1 68 rb dp m #[] (d.lead dp)) (hA : ∀ dp, Ok1 22 rb dp m #[] (d.all dp)) :
    Ok1 68 rb dp (m + 1) #[] (leadF d dp) := by
  intro l w hl h
  show Calls _ _ #[.pointer (some ⟨rb, 0, none⟩)] _ _
  cases l with
  | nil => exact lead_none rb dp w h
  | cons t l =>
    simp only [List.length_cons] at hl
    cases t with
    | num x n => exact lead_plain rb dp (.num x n) l w h leads_num.1 (show ([110, 117, 109, 98, 101, 114] : Bs) ≠ [40] by decide)
    | nam x => exact lead_plain rb dp (.nam x) l w h leads_num.2 (show ([110, 97, 109, 101] : Bs) ≠ [40] by decide)
    | sg s =>
      have hd : dp ≤ 64 := by obtain ⟨_, _, _, hd⟩ := h; exact hd
      by_cases h1 : leadsOf s = true
      · by_cases h64 : dp = 64
        · subst h64
          have e : leadF d 64 (.sg s :: l) = .error 63 := by unfold leadF; dsimp only; rw [if_pos h1, if_pos rfl]
          rw [e]
          exact lead_deep rb (.sg s) l w h true _ h1 rfl (.inl rfl)
        · have e : leadF d dp (.sg s :: l) = ledR s (d.lead (dp + 1) l) := by unfold leadF; dsimp only; rw [if_pos h1, if_neg h64]; rfl
          rw [e]
          exact lead_led rb dp (.sg s) l w _ h (by omega) h1 _ rfl (fun W hW => hL (dp + 1) l W (by omega) hW)
      · have h1' : leadsOf s = false := by simpa using h1
        by_cases h2 : s = [40]
        · by_cases h64 : dp = 64
          · subst h64
            have e : leadF d 64 (.sg s :: l) = .error 63 := by unfold leadF; dsimp only; rw [if_neg h1, if_pos h2, if_pos rfl]
            rw [e]
            exact lead_deep rb (.sg s) l w h false true h1' (decide_eq_true h2) (.inr rfl)
          · have e : leadF d dp (.sg s :: l) = parR (d.all (dp + 1) l) := by
              unfold leadF parR
              dsimp only
              rw [if_neg h1, if_pos h2, if_neg h64]
              cases d.all (dp + 1) l with
              | error e => rfl
              | ok p =>
                obtain ⟨t, r⟩ := p
                dsimp only
                rw [take_sg [41] (by decide)]
                cases r with
                | nil => rfl
                | cons a r => cases a with
                  | num x n => rfl
                  | nam x => rfl
                  | sg s2 =>
                    dsimp only
                    by_cases h41 : s2 = [41]
                    · rw [if_pos h41, if_pos h41]
                    · rw [if_neg h41, if_neg h41]
            rw [e]
            exact lead_paren rb dp (.sg s) l w _ h (by omega) h1' h2 (fun W hW => hA (dp + 1) l W (by omega) hW)
        · have e : leadF d dp (.sg s :: l) = plainL (.sg s :: l) := by unfold leadF; dsimp only; rw [if_neg h1, if_neg h2]; rfl
          rw [e]
          exact lead_plain rb dp (.sg s) l w h h1' h2
/-- All of the reader. -/
theorem rd_any (rb : Nat) : ∀ m, (∀ dp, Ok1 22 rb dp m #[] ((rd m).all dp)) ∧ (∀ dp, Ok1 42 rb dp m #[] ((rd m).cond dp)) ∧ (∀ dp, Ok1 68 rb dp m #[] ((rd m).lead dp))
  | 0 => ⟨fun dp l w h => absurd h (by omega), fun dp l w h => absurd h (by omega), fun dp l w h => absurd h (by omega)⟩
  | m + 1 => by
    obtain ⟨hA, hC, hL⟩ := rd_any rb m
    have h1 := fun dp => lead_any (rd m) rb m dp hL hA
    have hlf := fun dp => leadF_less (rd_less m) dp
    have h2 : ∀ dp, Ok1 42 rb dp (m + 1) #[] (condF (rd m) dp) := fun dp =>
      cond_any (rd m) rb dp m (pairs_all rb dp (m + 1) _ (h1 dp) (hlf dp) 10 1 rfl (by omega)) (hA dp) (hC dp) (pairsK_less (hlf dp) 10) (rd_less m dp).1
    exact ⟨fun dp => all_any (rd m) rb dp m (hA dp) (h2 dp), h2, h1⟩
/-- How read ends. -/
def ReadPost (m : Except Int Tm) (w : World) (e : Ending) (w' : World) : Prop := Below w.heap.size w w' ∧ match m with
  | .ok t => e = .returned (.tuple #[tmV t, .int .i64 0])
  | .error er => ∃ v, e = .returned (.tuple #[v, .int .i64 er]) ∧ er ≠ 0 ∧ IfV v
theorem ReadPost.yes {m : Except Int Tm} {w w' : World} {t : Tm} {v : Value} (hm : m = .ok t) (hv : v = tmV t) (h : Below w.heap.size w w') : ReadPost m w (.returned (.tuple #[v, .int .i64 0])) w' := by subst hm; subst hv; exact ⟨h, rfl⟩
theorem ReadPost.no {m : Except Int Tm} {w w' : World} {er : Int} {v : Value} (hm : m = .error er) (hv : IfV v) (hn : er ≠ 0) (h : Below w.heap.size w w') : ReadPost m w (.returned (.tuple #[v, .int .i64 er])) w' := by subst hm; exact ⟨h, v, rfl, hn, hv⟩
theorem RdA.left {w : World} {rb dp : Nat} {l : List Tok} (h : RdA w rb l dp) : ∃ A c, w.cell? ⟨rb, 0, none⟩ = some (.slice A l.length c) ∧ rb < w.heap.size := by
  have hz := h.lt
  obtain ⟨v, hb, ⟨A, c, rfl, _⟩, _⟩ := h
  exact ⟨A, c, cell_blk hb 0, hz⟩
set_option maxRecDepth 100000 in
set_option maxHeartbeats 3200000 in
theorem read_any (l : List Tok) (v : Value) (w : World) (h : TksIn w.heap.size w v l) :
    Calls Tryz.prog 14 #[v] w (ReadPost (readL l) w) := by
  obtain ⟨A, c, rfl, hcs⟩ := h
  have h : TksIn w.heap.size w (.slice A l.length c) l := ⟨A, c, rfl, hcs⟩
  have hb : Below w.heap.size w (w.alloc (.cells #[.slice A l.length c, .int .i64 0] 76)) := (Below.refl _ _).alloc (Nat.le_refl _) _
  have hr : RdA (w.alloc (.cells #[.slice A l.length c, .int .i64 0] 76)) w.heap.size l 0 := ⟨_, heap_alloc_new w _, h.keep (fun b hb2 => hb.block b hb2), by omega⟩
  have hA := (rd_any w.heap.size (l.length + 1)).1 0 l _ (by omega) hr
  replace hA : Calls Tryz.prog 22 #[.pointer (some ⟨w.heap.size, 0, none⟩)] _ _ := hA
  have HA := Lib.hid hA
  have HB := Lib.hid hb
  have hbl : ∀ W, Kept (· = w.heap.size) (w.alloc (.cells #[.slice A l.length c, .int .i64 0] 76)) W → Below w.heap.size w W := fun W hk => hb.trans (hk.below (by rw [World.size_alloc]; omega) (fun k e => by have e : k = w.heap.size := e; omega))
  have HBL := Lib.hid hbl
  clear hA hb hbl hcs h hr
  unfold readL
  cases hM : (rd (l.length + 1)).all 0 l with
  | error er =>
    rw [hM] at HA
    generalize l.length = n at *
    clear hM
    dsimp only
    go_enter Tryz.func14, Tryz.ntmps14
    go_wp2_with fail
    refine HA.out.mono ?_
    intro e W hP
    obtain ⟨v, r, rfl, hk, hr, hne, hi⟩ := hP.er
    have hq : (er == 0) = false := by simpa using hne
    have HF := Lib.hid (ReadPost.no (m := .error er) rfl hi hne (HBL.out _ hk))
    clear hP hk hr hne hi HA HB HBL
    go_wp2_with fail
    go_ret2
    exact HF.out
  | ok p =>
    obtain ⟨t, r⟩ := p
    rw [hM] at HA
    dsimp only
    generalize l.length = n at *
    clear hM
    cases r with
    | nil =>
      rw [if_pos (show ([] : List Tok).isEmpty = true from rfl)]
      go_enter Tryz.func14, Tryz.ntmps14
      go_wp2_with fail
      refine HA.out.mono ?_
      intro e W hP
      obtain ⟨rfl, hk, hr⟩ := hP.ok
      obtain ⟨A2, c2, c0, hz⟩ := hr.left
      have HK := Lib.hid (HBL.out _ hk)
      have HF := Lib.hid (ReadPost.yes (m := .ok t) rfl rfl HK.out)
      simp only [List.length_nil] at c0
      generalize tmV t = tv at *
      clear hP hk hr HA HB HBL HK
      go_wp2_with fail
      go_ret2
      exact HF.out
    | cons a r =>
      rw [if_neg (show ¬ (a :: r).isEmpty = true by simp)]
      go_enter Tryz.func14, Tryz.ntmps14
      go_wp2_with fail
      refine HA.out.mono ?_
      intro e W hP
      obtain ⟨rfl, hk, hr⟩ := hP.ok
      obtain ⟨A2, c2, c0, hz⟩ := hr.left
      have HK := Lib.hid (HBL.out _ hk)
      have HF := Lib.hid (ReadPost.no (m := .error 61) rfl (tmV_if t) (by decide) HK.out)
      simp only [List.length_cons] at c0
      generalize r.length = k at *
      generalize tmV t = tv at *
      clear hP hk hr HA HB HBL HK
      go_wp2_with fail
      go_ret2
      exact HF.out
end Go.Proofs.YtcadnkanjlmfhaaGreatDoor.Ar
