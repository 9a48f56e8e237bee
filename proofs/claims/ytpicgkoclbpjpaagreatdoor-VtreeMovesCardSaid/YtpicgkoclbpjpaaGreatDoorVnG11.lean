/- DERIVED. Stage 5, several texts in one: VtAsk VtBind VtRem VtCreate VtMake VtName VtRead VtWrite. -/
import Derived.Test.YtpicgkoclbpjpaaGreatDoorVnG10
section
namespace Go.Proofs.YtpicgkoclbpjpaaGreatDoor
open Go.RowKit Go.Sort Go.Lib Go.Shelf
open PathM TreeM VtM
set_option linter.unusedVariables false
attribute [local go_sem] cell_rg
attribute [local go_sem] cell_off
attribute [local go_sem] cell_far
/-- What a call that goes a path answers: beside an error whatever place. -/
def GonP (r : Except Int At) (w : World) (e : Ending) (w' : World) : Prop :=
  match r with
  | .error x => (∃ A n c nb id sl, e = .returned (.tuple #[.agg #[.slice A n c, .string nb, .int .i64 id, .bool sl], .int .i64 x])) ∧ x ≠ 0 ∧ Below w.heap.size w w'
  | .ok a => ∃ v, e = .returned (.tuple #[plV v a, .int .i64 0]) ∧ IntsIn w' w'.heap.size v a.dirs ∧ Below w.heap.size w w'
theorem GonePost.weak {r : Except Int At} {w w' : World} {e : Ending} (h : GonePost r w e w') : GonP r w e w' := by
  unfold GonePost at h
  unfold GonP
  cases r with
  | error x => exact ⟨⟨_, _, _, _, _, _, h.1⟩, h.2⟩
  | ok a => exact h
/-- A file system in memory, as the calls want it. -/
structure Sys (w : World) (fb db mb k : Nat) (f : Fs) : Prop where
  live : Live w fb db mb f
  ok : FsOk k f
  lib : ∃ m, w.cell? ⟨0, 0, none⟩ = some (.int .i64 m)
theorem Sys.below {w W : World} {fb db mb k : Nat} {f : Fs} (h : Sys w fb db mb k f) (hb : Below w.heap.size w W) : Sys W fb db mb k f := by
  obtain ⟨m, hm⟩ := h.lib
  exact ⟨h.live.below hb, h.ok, m, (hb.cell (p := ⟨0, 0, none⟩) (cell_lt hm)).trans hm⟩
theorem gone_any {k : Nat} {f : Fs} (fb db mb : Nat) (p : ByteArray) (fw : Bool) (w : World) (h : Sys w fb db mb k f) (hp : p.size ≤ maxLen) :
    Calls Tryz.prog 43 #[.pointer (some ⟨fb, 0, none⟩), .string p, .bool fw] w (GonP (findS f.t p.data.toList fw) w) :=
  (ffind_any h.ok fb db mb p fw w h.live h.lib hp).mono fun e w' h => h.weak
/-- The result's cell behind the inner call, and its end. -/
theorem place_end {w w2 : World} {dv : Value} {ds : List Int} {O : Obj} (hI : IntsIn w2 w2.heap.size dv ds) (hb : Below w.heap.size w w2) (hT : OfType (w2.alloc O) w.heap.size 92) (v0 v1 v2 v3 : Value) :
    IntsIn (((((w2.alloc O).setCell ⟨w.heap.size, 0, none⟩ v0).setCell ⟨w.heap.size, 1, none⟩ v1).setCell ⟨w.heap.size, 2, none⟩ v2).setCell ⟨w.heap.size, 3, none⟩ v3) (((((w2.alloc O).setCell ⟨w.heap.size, 0, none⟩ v0).setCell ⟨w.heap.size, 1, none⟩ v1).setCell ⟨w.heap.size, 2, none⟩ v2).setCell ⟨w.heap.size, 3, none⟩ v3).heap.size dv ds := by
  have h1 := (hI.below ((Below.refl _ _).alloc (Nat.le_refl _) O)).more (show w2.heap.size ≤ (w2.alloc O).heap.size by simp)
  have hk := four_kept (w2.alloc O) w.heap.size v0 v1 v2 v3
  exact (h1.keep fun b hb ht => hk.block b hb (fun e => OfType.ne ht hT (by decide) e)).more hk.size
set_option maxRecDepth 100000 in
set_option maxHeartbeats 2000000 in
theorem there_any {k : Nat} {f : Fs} (fb db mb : Nat) (p : ByteArray) (fw : Bool) (w : World) (h : Sys w fb db mb k f) (hp : p.size ≤ maxLen) :
    Calls Tryz.prog 40 #[.pointer (some ⟨fb, 0, none⟩), .string p, .bool fw] w (GonePost (thereF f p.data.toList fw) w) := by
  have hb0 := (Below.refl w.heap.size w).alloc (Nat.le_refl _) (.cells #[.slice none 0 0, .string { data := #[] }, .int .i64 0, .bool false] 92)
  have h0 := h.below hb0
  have HI := Lib.hid (gone_any fb db mb p fw _ h0 hp)
  have HN := Lib.hid (fnone_any fb db mb f _ h0.live)
  have RB0 := heap_alloc_new w (.cells #[.slice none 0 0, .string { data := #[] }, .int .i64 0, .bool false] 92)
  have HRB0 := Lib.hid RB0
  have HB0 := Lib.hid hb0
  unfold GonePost thereF
  clear h0 h hb0 RB0 hp
  cases hr : findS f.t p.data.toList fw with
  | error x =>
    rw [hr] at HI
    unfold GonP at HI
    dsimp only at HI ⊢
    clear hr
    go_enter Tryz.func40, Tryz.ntmps40
    go_wp2_with (first | (go_at_call 42; (with_reducible refine (HN.out).mono ?_); rintro e w1 ⟨rfl, rfl⟩) | (go_at_call 43; (with_reducible refine HI.out.mono ?_); rintro e w2 ⟨⟨A, n, c, nb, id, sl, rfl⟩, hx0, hb2⟩; have HX0 := Lib.hid hx0; have x1 : (x == 0) = false := beq_eq_false_iff_ne.2 hx0; have x2 : (x != 0) = true := bne_iff_ne.2 hx0; have rb2 := (heap_alloc_old w2 (.cells #[.slice A n c, .string nb, .int .i64 id, .bool sl] 92) (Nat.lt_of_lt_of_le (by simp) hb2.size)).trans ((hb2.block w.heap.size (by simp)).trans HRB0.out); have q0 := cell_blk rb2 0; have e0 := froz_blk rb2 0; have q1 := cell_blk rb2 1; have e1 := froz_blk rb2 1; have q2 := cell_blk rb2 2; have e2 := froz_blk rb2 2; have q3 := cell_blk rb2 3; have e3 := froz_blk rb2 3; simp at q0 q1 q2 q3; have HRB2 := Lib.hid rb2; have HB2 := Lib.hid (HB0.out.trans (hb2.mono HB0.out.size)); clear rb2 hb2; clear hx0))
    refine bodyPost_ret (results_cell2 rfl _ _ _ 92 _ (0, 0) _ rfl (four_set HRB2.out _ _ _ _) Tryz.underlying92 rfl (by kernel_rfl)) rfl ?_
    exact ⟨rfl, HX0.out, four_below (HB2.out.alloc HB2.out.size _) (Nat.le_refl _) _ _ _ _⟩
  | ok a =>
    rw [hr] at HI
    unfold GonP at HI
    dsimp only at HI ⊢
    clear hr
    by_cases hc : a.node = 0
    · rw [if_pos hc]
      dsimp only
      have HX0 : Hid ((20 : Int) ≠ 0) := Lib.hid (by decide)
      have t1 : (a.node == 0) = true := by simp [hc]
      clear hc
      go_enter Tryz.func40, Tryz.ntmps40
      go_wp2_with (first | (go_at_call 42; (with_reducible refine (HN.out).mono ?_); rintro e w1 ⟨rfl, rfl⟩) | (go_at_call 43; (with_reducible refine HI.out.mono ?_); rintro e w2 ⟨v, rfl, hi2, hb2⟩; unfold plV; obtain ⟨A, c, rfl⟩ := hi2.len; have HI2 := Lib.hid hi2; have rb2 := (heap_alloc_old w2 (.cells #[.slice A a.dirs.length c, .string (nm a.name), .int .i64 a.node, .bool a.slash] 92) (Nat.lt_of_lt_of_le (by simp) hb2.size)).trans ((hb2.block w.heap.size (by simp)).trans HRB0.out); have q0 := cell_blk rb2 0; have e0 := froz_blk rb2 0; have q1 := cell_blk rb2 1; have e1 := froz_blk rb2 1; have q2 := cell_blk rb2 2; have e2 := froz_blk rb2 2; have q3 := cell_blk rb2 3; have e3 := froz_blk rb2 3; simp at q0 q1 q2 q3; have HRB2 := Lib.hid rb2; have HB2 := Lib.hid (HB0.out.trans (hb2.mono HB0.out.size)); clear rb2 hb2; clear hi2))
      refine bodyPost_ret (results_cell2 rfl _ _ _ 92 _ (0, 0) _ rfl (four_set HRB2.out _ _ _ _) Tryz.underlying92 rfl (by kernel_rfl)) rfl ?_
      exact ⟨rfl, HX0.out, four_below (HB2.out.alloc HB2.out.size _) (Nat.le_refl _) _ _ _ _⟩
    · rw [if_neg hc]
      dsimp only
      have t1 : (a.node == 0) = false := by simp [hc]
      clear hc
      go_enter Tryz.func40, Tryz.ntmps40
      go_wp2_with (first | (go_at_call 42; (with_reducible refine (HN.out).mono ?_); rintro e w1 ⟨rfl, rfl⟩) | (go_at_call 43; (with_reducible refine HI.out.mono ?_); rintro e w2 ⟨v, rfl, hi2, hb2⟩; unfold plV; obtain ⟨A, c, rfl⟩ := hi2.len; have HI2 := Lib.hid hi2; have rb2 := (heap_alloc_old w2 (.cells #[.slice A a.dirs.length c, .string (nm a.name), .int .i64 a.node, .bool a.slash] 92) (Nat.lt_of_lt_of_le (by simp) hb2.size)).trans ((hb2.block w.heap.size (by simp)).trans HRB0.out); have q0 := cell_blk rb2 0; have e0 := froz_blk rb2 0; have q1 := cell_blk rb2 1; have e1 := froz_blk rb2 1; have q2 := cell_blk rb2 2; have e2 := froz_blk rb2 2; have q3 := cell_blk rb2 3; have e3 := froz_blk rb2 3; simp at q0 q1 q2 q3; have HRB2 := Lib.hid rb2; have HB2 := Lib.hid (HB0.out.trans (hb2.mono HB0.out.size)); clear rb2 hb2; clear hi2))
      refine bodyPost_ret (results_cell2 rfl _ _ _ 92 _ (0, 0) _ rfl (four_set HRB2.out _ _ _ _) Tryz.underlying92 rfl (by kernel_rfl)) rfl ?_
      skip
      exact ⟨_, rfl, place_end HI2.out HB2.out (OfType.of HRB2.out) _ _ _ _, four_below (HB2.out.alloc HB2.out.size _) (Nat.le_refl _) _ _ _ _⟩
set_option maxRecDepth 100000 in
set_option maxHeartbeats 2000000 in
theorem free_any {k : Nat} {f : Fs} (fb db mb : Nat) (p : ByteArray) (w : World) (h : Sys w fb db mb k f) (hp : p.size ≤ maxLen) :
    Calls Tryz.prog 52 #[.pointer (some ⟨fb, 0, none⟩), .string p] w (GonP (freeF f p.data.toList) w) := by
  have hb0 := (Below.refl w.heap.size w).alloc (Nat.le_refl _) (.cells #[.slice none 0 0, .string { data := #[] }, .int .i64 0, .bool false] 92)
  have h0 := h.below hb0
  have HI := Lib.hid (gone_any fb db mb p false _ h0 hp)
  have HN := Lib.hid (fnone_any fb db mb f _ h0.live)
  have RB0 := heap_alloc_new w (.cells #[.slice none 0 0, .string { data := #[] }, .int .i64 0, .bool false] 92)
  have HRB0 := Lib.hid RB0
  have HB0 := Lib.hid hb0
  unfold GonP freeF
  clear h0 h hb0 RB0 hp
  cases hr : findS f.t p.data.toList false with
  | error x =>
    rw [hr] at HI
    unfold GonP at HI
    dsimp only at HI ⊢
    clear hr
    go_enter Tryz.func52, Tryz.ntmps52
    go_wp2_with (go_at_call 43; (with_reducible refine HI.out.mono ?_); rintro e w2 ⟨⟨A, n, c, nb, id, sl, rfl⟩, hx0, hb2⟩; have HX0 := Lib.hid hx0; have x1 : (x == 0) = false := beq_eq_false_iff_ne.2 hx0; have x2 : (x != 0) = true := bne_iff_ne.2 hx0; have rb2 := (heap_alloc_old w2 (.cells #[.slice A n c, .string nb, .int .i64 id, .bool sl] 92) (Nat.lt_of_lt_of_le (by simp) hb2.size)).trans ((hb2.block w.heap.size (by simp)).trans HRB0.out); have q0 := cell_blk rb2 0; have e0 := froz_blk rb2 0; have q1 := cell_blk rb2 1; have e1 := froz_blk rb2 1; have q2 := cell_blk rb2 2; have e2 := froz_blk rb2 2; have q3 := cell_blk rb2 3; have e3 := froz_blk rb2 3; simp at q0 q1 q2 q3; have HRB2 := Lib.hid rb2; have HB2 := Lib.hid (HB0.out.trans (hb2.mono HB0.out.size)); clear rb2 hb2; clear hx0)
    refine bodyPost_ret (results_cell2 rfl _ _ _ 92 _ (0, 0) _ rfl (four_set HRB2.out _ _ _ _) Tryz.underlying92 rfl (by kernel_rfl)) rfl ?_
    exact ⟨⟨_, _, _, _, _, _, rfl⟩, HX0.out, four_below (HB2.out.alloc HB2.out.size _) (Nat.le_refl _) _ _ _ _⟩
  | ok a =>
    rw [hr] at HI
    unfold GonP at HI
    dsimp only at HI ⊢
    clear hr
    by_cases hc : a.node ≠ 0
    · rw [if_pos hc]
      dsimp only
      have HX0 : Hid ((21 : Int) ≠ 0) := Lib.hid (by decide)
      have t1 : (a.node != 0) = true := by simp [hc]
      clear hc
      go_enter Tryz.func52, Tryz.ntmps52
      go_wp2_with (go_at_call 43; (with_reducible refine HI.out.mono ?_); rintro e w2 ⟨v, rfl, hi2, hb2⟩; unfold plV; obtain ⟨A, c, rfl⟩ := hi2.len; have HI2 := Lib.hid hi2; have rb2 := (heap_alloc_old w2 (.cells #[.slice A a.dirs.length c, .string (nm a.name), .int .i64 a.node, .bool a.slash] 92) (Nat.lt_of_lt_of_le (by simp) hb2.size)).trans ((hb2.block w.heap.size (by simp)).trans HRB0.out); have q0 := cell_blk rb2 0; have e0 := froz_blk rb2 0; have q1 := cell_blk rb2 1; have e1 := froz_blk rb2 1; have q2 := cell_blk rb2 2; have e2 := froz_blk rb2 2; have q3 := cell_blk rb2 3; have e3 := froz_blk rb2 3; simp at q0 q1 q2 q3; have HRB2 := Lib.hid rb2; have HB2 := Lib.hid (HB0.out.trans (hb2.mono HB0.out.size)); clear rb2 hb2; clear hi2)
      refine bodyPost_ret (results_cell2 rfl _ _ _ 92 _ (0, 0) _ rfl (four_set HRB2.out _ _ _ _) Tryz.underlying92 rfl (by kernel_rfl)) rfl ?_
      exact ⟨⟨_, _, _, _, _, _, rfl⟩, HX0.out, four_below (HB2.out.alloc HB2.out.size _) (Nat.le_refl _) _ _ _ _⟩
    · rw [if_neg hc]
      dsimp only
      have t1 : (a.node != 0) = false := by simpa using hc
      clear hc
      go_enter Tryz.func52, Tryz.ntmps52
      go_wp2_with (go_at_call 43; (with_reducible refine HI.out.mono ?_); rintro e w2 ⟨v, rfl, hi2, hb2⟩; unfold plV; obtain ⟨A, c, rfl⟩ := hi2.len; have HI2 := Lib.hid hi2; have rb2 := (heap_alloc_old w2 (.cells #[.slice A a.dirs.length c, .string (nm a.name), .int .i64 a.node, .bool a.slash] 92) (Nat.lt_of_lt_of_le (by simp) hb2.size)).trans ((hb2.block w.heap.size (by simp)).trans HRB0.out); have q0 := cell_blk rb2 0; have e0 := froz_blk rb2 0; have q1 := cell_blk rb2 1; have e1 := froz_blk rb2 1; have q2 := cell_blk rb2 2; have e2 := froz_blk rb2 2; have q3 := cell_blk rb2 3; have e3 := froz_blk rb2 3; simp at q0 q1 q2 q3; have HRB2 := Lib.hid rb2; have HB2 := Lib.hid (HB0.out.trans (hb2.mono HB0.out.size)); clear rb2 hb2; clear hi2)
      refine bodyPost_ret (results_cell2 rfl _ _ _ 92 _ (0, 0) _ rfl (four_set HRB2.out _ _ _ _) Tryz.underlying92 rfl (by kernel_rfl)) rfl ?_
      skip
      exact ⟨_, rfl, place_end HI2.out HB2.out (OfType.of HRB2.out) _ _ _ _, four_below (HB2.out.alloc HB2.out.size _) (Nat.le_refl _) _ _ _ _⟩
set_option maxRecDepth 100000 in
set_option maxHeartbeats 2000000 in
theorem freeName_any {k : Nat} {f : Fs} (fb db mb : Nat) (p : ByteArray) (w : World) (h : Sys w fb db mb k f) (hp : p.size ≤ maxLen) :
    Calls Tryz.prog 47 #[.pointer (some ⟨fb, 0, none⟩), .string p] w (GonP (freeNameF f p.data.toList) w) := by
  have hb0 := (Below.refl w.heap.size w).alloc (Nat.le_refl _) (.cells #[.slice none 0 0, .string { data := #[] }, .int .i64 0, .bool false] 92)
  have h0 := h.below hb0
  have HI := Lib.hid (free_any fb db mb p _ h0 hp)
  have HN := Lib.hid (fnone_any fb db mb f _ h0.live)
  have RB0 := heap_alloc_new w (.cells #[.slice none 0 0, .string { data := #[] }, .int .i64 0, .bool false] 92)
  have HRB0 := Lib.hid RB0
  have HB0 := Lib.hid hb0
  unfold GonP freeNameF
  clear h0 h hb0 RB0 hp
  cases hr : freeF f p.data.toList with
  | error x =>
    rw [hr] at HI
    unfold GonP at HI
    dsimp only at HI ⊢
    clear hr
    go_enter Tryz.func47, Tryz.ntmps47
    go_wp2_with (go_at_call 52; (with_reducible refine HI.out.mono ?_); rintro e w2 ⟨⟨A, n, c, nb, id, sl, rfl⟩, hx0, hb2⟩; have HX0 := Lib.hid hx0; have x1 : (x == 0) = false := beq_eq_false_iff_ne.2 hx0; have x2 : (x != 0) = true := bne_iff_ne.2 hx0; have rb2 := (heap_alloc_old w2 (.cells #[.slice A n c, .string nb, .int .i64 id, .bool sl] 92) (Nat.lt_of_lt_of_le (by simp) hb2.size)).trans ((hb2.block w.heap.size (by simp)).trans HRB0.out); have q0 := cell_blk rb2 0; have e0 := froz_blk rb2 0; have q1 := cell_blk rb2 1; have e1 := froz_blk rb2 1; have q2 := cell_blk rb2 2; have e2 := froz_blk rb2 2; have q3 := cell_blk rb2 3; have e3 := froz_blk rb2 3; simp at q0 q1 q2 q3; have HRB2 := Lib.hid rb2; have HB2 := Lib.hid (HB0.out.trans (hb2.mono HB0.out.size)); clear rb2 hb2; clear hx0)
    refine bodyPost_ret (results_cell2 rfl _ _ _ 92 _ (0, 0) _ rfl (four_set HRB2.out _ _ _ _) Tryz.underlying92 rfl (by kernel_rfl)) rfl ?_
    exact ⟨⟨_, _, _, _, _, _, rfl⟩, HX0.out, four_below (HB2.out.alloc HB2.out.size _) (Nat.le_refl _) _ _ _ _⟩
  | ok a =>
    rw [hr] at HI
    unfold GonP at HI
    dsimp only at HI ⊢
    clear hr
    by_cases hc : a.slash = true
    · rw [if_pos hc]
      dsimp only
      have HX0 : Hid ((20 : Int) ≠ 0) := Lib.hid (by decide)
      have HC := Lib.hid hc
      clear hc
      go_enter Tryz.func47, Tryz.ntmps47
      go_wp2_with (go_at_call 52; (with_reducible refine HI.out.mono ?_); rintro e w2 ⟨v, rfl, hi2, hb2⟩; unfold plV; rw [HC.out]; obtain ⟨A, c, rfl⟩ := hi2.len; have HI2 := Lib.hid hi2; have rb2 := (heap_alloc_old w2 (.cells #[.slice A a.dirs.length c, .string (nm a.name), .int .i64 a.node, .bool true] 92) (Nat.lt_of_lt_of_le (by simp) hb2.size)).trans ((hb2.block w.heap.size (by simp)).trans HRB0.out); have q0 := cell_blk rb2 0; have e0 := froz_blk rb2 0; have q1 := cell_blk rb2 1; have e1 := froz_blk rb2 1; have q2 := cell_blk rb2 2; have e2 := froz_blk rb2 2; have q3 := cell_blk rb2 3; have e3 := froz_blk rb2 3; simp at q0 q1 q2 q3; have HRB2 := Lib.hid rb2; have HB2 := Lib.hid (HB0.out.trans (hb2.mono HB0.out.size)); clear rb2 hb2; clear hi2)
      refine bodyPost_ret (results_cell2 rfl _ _ _ 92 _ (0, 0) _ rfl (four_set HRB2.out _ _ _ _) Tryz.underlying92 rfl (by kernel_rfl)) rfl ?_
      exact ⟨⟨_, _, _, _, _, _, rfl⟩, HX0.out, four_below (HB2.out.alloc HB2.out.size _) (Nat.le_refl _) _ _ _ _⟩
    · rw [if_neg hc]
      dsimp only
      have HC := Lib.hid (show a.slash = false by simpa using hc)
      clear hc
      go_enter Tryz.func47, Tryz.ntmps47
      go_wp2_with (go_at_call 52; (with_reducible refine HI.out.mono ?_); rintro e w2 ⟨v, rfl, hi2, hb2⟩; unfold plV; rw [HC.out]; obtain ⟨A, c, rfl⟩ := hi2.len; have HI2 := Lib.hid hi2; have rb2 := (heap_alloc_old w2 (.cells #[.slice A a.dirs.length c, .string (nm a.name), .int .i64 a.node, .bool false] 92) (Nat.lt_of_lt_of_le (by simp) hb2.size)).trans ((hb2.block w.heap.size (by simp)).trans HRB0.out); have q0 := cell_blk rb2 0; have e0 := froz_blk rb2 0; have q1 := cell_blk rb2 1; have e1 := froz_blk rb2 1; have q2 := cell_blk rb2 2; have e2 := froz_blk rb2 2; have q3 := cell_blk rb2 3; have e3 := froz_blk rb2 3; simp at q0 q1 q2 q3; have HRB2 := Lib.hid rb2; have HB2 := Lib.hid (HB0.out.trans (hb2.mono HB0.out.size)); clear rb2 hb2; clear hi2)
      refine bodyPost_ret (results_cell2 rfl _ _ _ 92 _ (0, 0) _ rfl (four_set HRB2.out _ _ _ _) Tryz.underlying92 rfl (by kernel_rfl)) rfl ?_
      skip
      exact ⟨_, by unfold plV; rw [HC.out]; rfl, place_end HI2.out HB2.out (OfType.of HRB2.out) _ _ _ _, four_below (HB2.out.alloc HB2.out.size _) (Nat.le_refl _) _ _ _ _⟩
set_option maxRecDepth 100000 in
set_option maxHeartbeats 2000000 in
theorem named_any {k : Nat} {f : Fs} (fb db mb : Nat) (p : ByteArray) (w : World) (h : Sys w fb db mb k f) (hp : p.size ≤ maxLen) :
    Calls Tryz.prog 61 #[.pointer (some ⟨fb, 0, none⟩), .string p] w (GonP (namedF f p.data.toList) w) := by
  have hb0 := (Below.refl w.heap.size w).alloc (Nat.le_refl _) (.cells #[.slice none 0 0, .string { data := #[] }, .int .i64 0, .bool false] 92)
  have h0 := h.below hb0
  have HI := Lib.hid (gone_any fb db mb p false _ h0 hp)
  have HN := Lib.hid (fnone_any fb db mb f _ h0.live)
  have RB0 := heap_alloc_new w (.cells #[.slice none 0 0, .string { data := #[] }, .int .i64 0, .bool false] 92)
  have HRB0 := Lib.hid RB0
  have HB0 := Lib.hid hb0
  unfold GonP namedF
  clear h0 h hb0 RB0 hp
  cases hr : findS f.t p.data.toList false with
  | error x =>
    rw [hr] at HI
    unfold GonP at HI
    dsimp only at HI ⊢
    clear hr
    go_enter Tryz.func61, Tryz.ntmps61
    go_wp2_with (go_at_call 43; (with_reducible refine HI.out.mono ?_); rintro e w2 ⟨⟨A, n, c, nb, id, sl, rfl⟩, hx0, hb2⟩; have HX0 := Lib.hid hx0; have x1 : (x == 0) = false := beq_eq_false_iff_ne.2 hx0; have x2 : (x != 0) = true := bne_iff_ne.2 hx0; have rb2 := (heap_alloc_old w2 (.cells #[.slice A n c, .string nb, .int .i64 id, .bool sl] 92) (Nat.lt_of_lt_of_le (by simp) hb2.size)).trans ((hb2.block w.heap.size (by simp)).trans HRB0.out); have q0 := cell_blk rb2 0; have e0 := froz_blk rb2 0; have q1 := cell_blk rb2 1; have e1 := froz_blk rb2 1; have q2 := cell_blk rb2 2; have e2 := froz_blk rb2 2; have q3 := cell_blk rb2 3; have e3 := froz_blk rb2 3; simp at q0 q1 q2 q3; have HRB2 := Lib.hid rb2; have HB2 := Lib.hid (HB0.out.trans (hb2.mono HB0.out.size)); clear rb2 hb2; clear hx0)
    refine bodyPost_ret (results_cell2 rfl _ _ _ 92 _ (0, 0) _ rfl (four_set HRB2.out _ _ _ _) Tryz.underlying92 rfl (by kernel_rfl)) rfl ?_
    exact ⟨⟨_, _, _, _, _, _, rfl⟩, HX0.out, four_below (HB2.out.alloc HB2.out.size _) (Nat.le_refl _) _ _ _ _⟩
  | ok a =>
    rw [hr] at HI
    unfold GonP at HI
    dsimp only at HI ⊢
    clear hr
    by_cases hc : a.name = []
    · rw [if_pos hc]
      dsimp only
      have HX0 : Hid ((28 : Int) ≠ 0) := Lib.hid (by decide)
      have t1 := emp_yes (b := nm a.name) (by rw [hc]; rfl)
      clear hc
      go_enter Tryz.func61, Tryz.ntmps61
      go_wp2_with (go_at_call 43; (with_reducible refine HI.out.mono ?_); rintro e w2 ⟨v, rfl, hi2, hb2⟩; unfold plV; obtain ⟨A, c, rfl⟩ := hi2.len; have HI2 := Lib.hid hi2; have rb2 := (heap_alloc_old w2 (.cells #[.slice A a.dirs.length c, .string (nm a.name), .int .i64 a.node, .bool a.slash] 92) (Nat.lt_of_lt_of_le (by simp) hb2.size)).trans ((hb2.block w.heap.size (by simp)).trans HRB0.out); have q0 := cell_blk rb2 0; have e0 := froz_blk rb2 0; have q1 := cell_blk rb2 1; have e1 := froz_blk rb2 1; have q2 := cell_blk rb2 2; have e2 := froz_blk rb2 2; have q3 := cell_blk rb2 3; have e3 := froz_blk rb2 3; simp at q0 q1 q2 q3; have HRB2 := Lib.hid rb2; have HB2 := Lib.hid (HB0.out.trans (hb2.mono HB0.out.size)); clear rb2 hb2; clear hi2)
      refine bodyPost_ret (results_cell2 rfl _ _ _ 92 _ (0, 0) _ rfl (four_set HRB2.out _ _ _ _) Tryz.underlying92 rfl (by kernel_rfl)) rfl ?_
      exact ⟨⟨_, _, _, _, _, _, rfl⟩, HX0.out, four_below (HB2.out.alloc HB2.out.size _) (Nat.le_refl _) _ _ _ _⟩
    · rw [if_neg hc]
      dsimp only
      have t1 := emp_no (b := nm a.name) (by simpa [nm] using hc)
      clear hc
      go_enter Tryz.func61, Tryz.ntmps61
      go_wp2_with (go_at_call 43; (with_reducible refine HI.out.mono ?_); rintro e w2 ⟨v, rfl, hi2, hb2⟩; unfold plV; obtain ⟨A, c, rfl⟩ := hi2.len; have HI2 := Lib.hid hi2; have rb2 := (heap_alloc_old w2 (.cells #[.slice A a.dirs.length c, .string (nm a.name), .int .i64 a.node, .bool a.slash] 92) (Nat.lt_of_lt_of_le (by simp) hb2.size)).trans ((hb2.block w.heap.size (by simp)).trans HRB0.out); have q0 := cell_blk rb2 0; have e0 := froz_blk rb2 0; have q1 := cell_blk rb2 1; have e1 := froz_blk rb2 1; have q2 := cell_blk rb2 2; have e2 := froz_blk rb2 2; have q3 := cell_blk rb2 3; have e3 := froz_blk rb2 3; simp at q0 q1 q2 q3; have HRB2 := Lib.hid rb2; have HB2 := Lib.hid (HB0.out.trans (hb2.mono HB0.out.size)); clear rb2 hb2; clear hi2)
      refine bodyPost_ret (results_cell2 rfl _ _ _ 92 _ (0, 0) _ rfl (four_set HRB2.out _ _ _ _) Tryz.underlying92 rfl (by kernel_rfl)) rfl ?_
      skip
      exact ⟨_, rfl, place_end HI2.out HB2.out (OfType.of HRB2.out) _ _ _ _, four_below (HB2.out.alloc HB2.out.size _) (Nat.le_refl _) _ _ _ _⟩
set_option maxRecDepth 100000 in
set_option maxHeartbeats 2000000 in
theorem namedThere_any {k : Nat} {f : Fs} (fb db mb : Nat) (p : ByteArray) (w : World) (h : Sys w fb db mb k f) (hp : p.size ≤ maxLen) :
    Calls Tryz.prog 49 #[.pointer (some ⟨fb, 0, none⟩), .string p] w (GonP (namedThereF f p.data.toList) w) := by
  have hb0 := (Below.refl w.heap.size w).alloc (Nat.le_refl _) (.cells #[.slice none 0 0, .string { data := #[] }, .int .i64 0, .bool false] 92)
  have h0 := h.below hb0
  have HI := Lib.hid (named_any fb db mb p _ h0 hp)
  have HN := Lib.hid (fnone_any fb db mb f _ h0.live)
  have RB0 := heap_alloc_new w (.cells #[.slice none 0 0, .string { data := #[] }, .int .i64 0, .bool false] 92)
  have HRB0 := Lib.hid RB0
  have HB0 := Lib.hid hb0
  unfold GonP namedThereF
  clear h0 h hb0 RB0 hp
  cases hr : namedF f p.data.toList with
  | error x =>
    rw [hr] at HI
    unfold GonP at HI
    dsimp only at HI ⊢
    clear hr
    go_enter Tryz.func49, Tryz.ntmps49
    go_wp2_with (first | (go_at_call 42; (with_reducible refine (HN.out).mono ?_); rintro e w1 ⟨rfl, rfl⟩) | (go_at_call 61; (with_reducible refine HI.out.mono ?_); rintro e w2 ⟨⟨A, n, c, nb, id, sl, rfl⟩, hx0, hb2⟩; have HX0 := Lib.hid hx0; have x1 : (x == 0) = false := beq_eq_false_iff_ne.2 hx0; have x2 : (x != 0) = true := bne_iff_ne.2 hx0; have rb2 := (heap_alloc_old w2 (.cells #[.slice A n c, .string nb, .int .i64 id, .bool sl] 92) (Nat.lt_of_lt_of_le (by simp) hb2.size)).trans ((hb2.block w.heap.size (by simp)).trans HRB0.out); have q0 := cell_blk rb2 0; have e0 := froz_blk rb2 0; have q1 := cell_blk rb2 1; have e1 := froz_blk rb2 1; have q2 := cell_blk rb2 2; have e2 := froz_blk rb2 2; have q3 := cell_blk rb2 3; have e3 := froz_blk rb2 3; simp at q0 q1 q2 q3; have HRB2 := Lib.hid rb2; have HB2 := Lib.hid (HB0.out.trans (hb2.mono HB0.out.size)); clear rb2 hb2; clear hx0))
    refine bodyPost_ret (results_cell2 rfl _ _ _ 92 _ (0, 0) _ rfl (four_set HRB2.out _ _ _ _) Tryz.underlying92 rfl (by kernel_rfl)) rfl ?_
    exact ⟨⟨_, _, _, _, _, _, rfl⟩, HX0.out, four_below (HB2.out.alloc HB2.out.size _) (Nat.le_refl _) _ _ _ _⟩
  | ok a =>
    rw [hr] at HI
    unfold GonP at HI
    dsimp only at HI ⊢
    clear hr
    by_cases hc : a.node = 0
    · rw [if_pos hc]
      dsimp only
      have HX0 : Hid ((20 : Int) ≠ 0) := Lib.hid (by decide)
      have t1 : (a.node == 0) = true := by simp [hc]
      clear hc
      go_enter Tryz.func49, Tryz.ntmps49
      go_wp2_with (first | (go_at_call 42; (with_reducible refine (HN.out).mono ?_); rintro e w1 ⟨rfl, rfl⟩) | (go_at_call 61; (with_reducible refine HI.out.mono ?_); rintro e w2 ⟨v, rfl, hi2, hb2⟩; unfold plV; obtain ⟨A, c, rfl⟩ := hi2.len; have HI2 := Lib.hid hi2; have rb2 := (heap_alloc_old w2 (.cells #[.slice A a.dirs.length c, .string (nm a.name), .int .i64 a.node, .bool a.slash] 92) (Nat.lt_of_lt_of_le (by simp) hb2.size)).trans ((hb2.block w.heap.size (by simp)).trans HRB0.out); have q0 := cell_blk rb2 0; have e0 := froz_blk rb2 0; have q1 := cell_blk rb2 1; have e1 := froz_blk rb2 1; have q2 := cell_blk rb2 2; have e2 := froz_blk rb2 2; have q3 := cell_blk rb2 3; have e3 := froz_blk rb2 3; simp at q0 q1 q2 q3; have HRB2 := Lib.hid rb2; have HB2 := Lib.hid (HB0.out.trans (hb2.mono HB0.out.size)); clear rb2 hb2; clear hi2))
      refine bodyPost_ret (results_cell2 rfl _ _ _ 92 _ (0, 0) _ rfl (four_set HRB2.out _ _ _ _) Tryz.underlying92 rfl (by kernel_rfl)) rfl ?_
      exact ⟨⟨_, _, _, _, _, _, rfl⟩, HX0.out, four_below (HB2.out.alloc HB2.out.size _) (Nat.le_refl _) _ _ _ _⟩
    · rw [if_neg hc]
      dsimp only
      have t1 : (a.node == 0) = false := by simp [hc]
      clear hc
      go_enter Tryz.func49, Tryz.ntmps49
      go_wp2_with (first | (go_at_call 42; (with_reducible refine (HN.out).mono ?_); rintro e w1 ⟨rfl, rfl⟩) | (go_at_call 61; (with_reducible refine HI.out.mono ?_); rintro e w2 ⟨v, rfl, hi2, hb2⟩; unfold plV; obtain ⟨A, c, rfl⟩ := hi2.len; have HI2 := Lib.hid hi2; have rb2 := (heap_alloc_old w2 (.cells #[.slice A a.dirs.length c, .string (nm a.name), .int .i64 a.node, .bool a.slash] 92) (Nat.lt_of_lt_of_le (by simp) hb2.size)).trans ((hb2.block w.heap.size (by simp)).trans HRB0.out); have q0 := cell_blk rb2 0; have e0 := froz_blk rb2 0; have q1 := cell_blk rb2 1; have e1 := froz_blk rb2 1; have q2 := cell_blk rb2 2; have e2 := froz_blk rb2 2; have q3 := cell_blk rb2 3; have e3 := froz_blk rb2 3; simp at q0 q1 q2 q3; have HRB2 := Lib.hid rb2; have HB2 := Lib.hid (HB0.out.trans (hb2.mono HB0.out.size)); clear rb2 hb2; clear hi2))
      refine bodyPost_ret (results_cell2 rfl _ _ _ 92 _ (0, 0) _ rfl (four_set HRB2.out _ _ _ _) Tryz.underlying92 rfl (by kernel_rfl)) rfl ?_
      skip
      exact ⟨_, rfl, place_end HI2.out HB2.out (OfType.of HRB2.out) _ _ _ _, four_below (HB2.out.alloc HB2.out.size _) (Nat.le_refl _) _ _ _ _⟩
end Go.Proofs.YtpicgkoclbpjpaaGreatDoor
end

section
namespace Go.Proofs.YtpicgkoclbpjpaaGreatDoor
open Go.RowKit Go.Sort Go.Lib Go.Shelf
open PathM TreeM VtM
set_option linter.unusedVariables false
attribute [local go_sem] cell_rg
attribute [local go_sem] cell_off
attribute [local go_sem] cell_far
theorem Live.ofs {w : World} {fb db mb : Nat} {f : Fs} (h : Live w fb db mb f) : OfType w fb 82 ∧ OfType w db 110 ∧ ∃ es c, w.heap[mb]? = some (.map es c) := by
  obtain ⟨ev, hd⟩ := h.disk
  exact ⟨OfType.of h.files, OfType.of hd.disk, hd.map.block⟩
/-- A block of a type that is none of the three is not written. -/
theorem Live.not3 {w : World} {fb db mb : Nat} {f : Fs} (h : Live w fb db mb f) {b : Nat} {t : TypeId} (ht : OfType w b t) (h1 : t ≠ 82) (h2 : t ≠ 110) : ¬ Own3 fb db mb b := by
  obtain ⟨g1, g2, es, c, g3⟩ := h.ofs
  rintro (e | e | e)
  · exact OfType.ne ht g1 h1 e
  · exact OfType.ne ht g2 h2 e
  · exact OfType.ne_map ht g3 e
theorem IntsIn.wrote {w W : World} {fb db mb : Nat} {f : Fs} {v : Value} {l : List Int} (h : IntsIn w w.heap.size v l) (hL : Live w fb db mb f) (hk : Kept (Own3 fb db mb) w W) : IntsIn W W.heap.size v l :=
  (h.keep fun b hb ht => hk.block b hb (hL.not3 ht (by decide) (by decide))).more hk.size
theorem Live.lib {w W : World} {fb db mb : Nat} {f : Fs} (hL : Live w fb db mb f) (hk : Kept (Own3 fb db mb) w W) (h : ∃ m, w.cell? ⟨0, 0, none⟩ = some (.int .i64 m)) : ∃ m, W.cell? ⟨0, 0, none⟩ = some (.int .i64 m) := by
  obtain ⟨m, hm⟩ := h
  refine ⟨m, (hk.cell (p := ⟨0, 0, none⟩) (cell_lt hm) ?_).trans hm⟩
  obtain ⟨ev, hd⟩ := hL.disk
  obtain ⟨es, c, hmb⟩ := hd.map.block
  rintro (e | e | e)
  · have := cell_blk hL.files 0
    dsimp only at e
    rw [← e, hm] at this
    simp at this
  · have := cell_blk hd.disk 0
    dsimp only at e
    rw [← e, hm] at this
    simp at this
  · dsimp only at e
    rw [← e] at hmb
    simp [World.cell?, hmb] at hm
theorem Sys.wrote {w W : World} {fb db mb k k' : Nat} {f f' : Fs} (h : Sys w fb db mb k f) (hl : Live W fb db mb f') (hk : Kept (Own3 fb db mb) w W) (ho : FsOk k' f') : Sys W fb db mb k' f' :=
  ⟨hl, ho, h.live.lib hk h.lib⟩
/-- A writer's answer. -/
def WroteP (fb db mb : Nat) (w : World) (r : Fs × Int) (e : Ending) (w' : World) : Prop := e = .returned (.int .i64 r.2) ∧ Live w' fb db mb r.1 ∧ Kept (Own3 fb db mb) w w'
/-- The box of a place, the files' store. -/
def BK (w : World) (fb db bb : Nat) (dv : Value) (a : At) (W : World) : Prop :=
  Below w.heap.size w W ∧ W.heap[bb]? = some (.cells #[dv, .string (nm a.name), .int .i64 a.node, .bool a.slash] 92 (0, 0)) ∧ W.cell? ⟨fb, 0, none⟩ = some (.iface 31 (.pointer (some ⟨db, 0, none⟩)))
theorem BK.next {w W W' : World} {fb db bb : Nat} {dv : Value} {a : At} (h : BK w fb db bb dv a W) (hb : Below W.heap.size W W') : BK w fb db bb dv a W' :=
  ⟨h.1.trans (hb.mono h.1.size), (hb.block _ (blk_lt h.2.1)).trans h.2.1, (hb.cell (p := ⟨fb, 0, none⟩) (cell_lt h.2.2)).trans h.2.2⟩
theorem BK.cells {w W : World} {fb db bb : Nat} {dv : Value} {a : At} (h : BK w fb db bb dv a W) : W.cell? ⟨bb, 0, none⟩ = some dv ∧ W.cell? ⟨bb, 1, none⟩ = some (.string (nm a.name)) ∧ W.cell? ⟨bb, 2, none⟩ = some (.int .i64 a.node) ∧ W.cell? ⟨bb, 3, none⟩ = some (.bool a.slash) ∧ W.cell? ⟨fb, 0, none⟩ = some (.iface 31 (.pointer (some ⟨db, 0, none⟩))) ∧ bb < W.heap.size ∧ fb < W.heap.size :=
  ⟨(cell_blk h.2.1 0).trans rfl, (cell_blk h.2.1 1).trans rfl, (cell_blk h.2.1 2).trans rfl, (cell_blk h.2.1 3).trans rfl, h.2.2, blk_lt h.2.1, cell_lt h.2.2⟩
theorem BK.below {w W : World} {fb db bb : Nat} {dv : Value} {a : At} (h : BK w fb db bb dv a W) : Below w.heap.size w W := h.1
theorem BK.box {w W : World} {fb db bb : Nat} {dv : Value} {a : At} (h : BK w fb db bb dv a W) : W.heap[bb]? = some (.cells #[dv, .string (nm a.name), .int .i64 a.node, .bool a.slash] 92 (0, 0)) := h.2.1
set_option maxRecDepth 100000 in
set_option maxHeartbeats 2000000 in
theorem bindF_any {k : Nat} {f : Fs} (fb db mb : Nat) (a : At) (dv : Value) (id : Int) (w : World) (h : Sys w fb db mb k f) (ha : AtIn f.t a) (hI : IntsIn w w.heap.size dv a.dirs) (hid : I64 id) (hkk : k < 900000) :
    Calls Tryz.prog 55 #[.pointer (some ⟨fb, 0, none⟩), plV dv a, .int .i64 id] w fun e w' => e = .returned (.tuple #[]) ∧ Live w' fb db mb (bindF f a id) ∧ Kept (Own3 fb db mb) w w' := by
  obtain ⟨ev, hd⟩ := h.live.disk
  have k0 := cell_blk h.live.files 0
  simp at k0
  have hlt := blk_lt h.live.files
  have hm := method_Bind
  have hlen := h.ok.len
  have hla := ha.len
  obtain ⟨Ad, cd, rfl⟩ := hI.len
  have hb0 := (Below.refl w.heap.size w).alloc (Nat.le_refl _) (.cells #[.slice Ad a.dirs.length cd, .string (nm a.name), .int .i64 a.node, .bool a.slash] 92)
  have HK : Hid (BK w fb db w.heap.size (.slice Ad a.dirs.length cd) a ((w.alloc (.cells #[.slice Ad a.dirs.length cd, .string (nm a.name), .int .i64 a.node, .bool a.slash] 92)).drew)) := Lib.hid ⟨hb0.drew, heap_alloc_new w _, (hb0.cell (p := ⟨fb, 0, none⟩) hlt).trans k0⟩
  have HDIR := Lib.hid (fun W (hW : IntsIn W W.heap.size (.slice Ad a.dirs.length cd) a.dirs) => dir_any _ a W hW ha.ne (by omega))
  have HBIND := Lib.hid (fun W (hW : Below w.heap.size w W) => bind_any db mb f.t ev (lastI a.dirs) (nm a.name) id W (hd.below hW) h.ok.rise (h.ok.dir64 ha.last) hid (by rw [nm_data]; have := ha.name; omega) (by omega) (h.ok.nsorted _) (by have := h.ok.ncnt (lastI a.dirs); omega))
  have HI := Lib.hid hI
  have HL := Lib.hid h.live
  have h64 := h.ok.dir64 ha.last
  have hst := h.ok.bind ha.last0 a.name id
  have hkb : (nod (bindT f.t (lastI a.dirs) a.name id).nodes (lastI a.dirs)).kind ≠ 0 := by rw [kind_bind h.ok.rise ha.last0]; exact ha.last0
  have HST := Lib.hid (fun W (hW : Live W fb db mb { f with t := bindT f.t (lastI a.dirs) a.name id }) => stamp_any fb db mb { f with t := bindT f.t (lastI a.dirs) a.name id } (lastI a.dirs) W hW (rise_bind h.ok.rise _ _ _) h64 (by show (bindT f.t _ _ _).nodes.length < _; rw [bind_len h.ok.rise]; omega) (nod_id hkb))
  unfold plV IntPost at HDIR
  unfold plV
  rw [nm_data] at HBIND
  unfold bindF
  dsimp only at HST
  clear h64 hst hkb h ha hI hid hlen hla hd hb0 k0
  generalize lastI a.dirs = la at *
  go_enter Tryz.func55, Tryz.ntmps55
  go_wp2
  have HI0 : Hid (IntsIn ((w.alloc (.cells #[.slice Ad a.dirs.length cd, .string (nm a.name), .int .i64 a.node, .bool a.slash] 92)).drew) ((w.alloc (.cells #[.slice Ad a.dirs.length cd, .string (nm a.name), .int .i64 a.node, .bool a.slash] 92)).drew).heap.size (.slice Ad a.dirs.length cd) a.dirs) := Lib.hid ((HI.out.below ((Below.refl w.heap.size w).alloc (Nat.le_refl _) (.cells #[.slice Ad a.dirs.length cd, .string (nm a.name), .int .i64 a.node, .bool a.slash] 92)).drew).more (by show w.heap.size ≤ (w.alloc _).heap.size; simp))
  generalize (w.alloc (.cells #[.slice Ad a.dirs.length cd, .string (nm a.name), .int .i64 a.node, .bool a.slash] 92)) = W2 at *
  obtain ⟨j0, j1, j2, j3, j4, j5, j6⟩ := HK.out.cells
  have j5' : w.heap.size < W2.heap.size := j5
  have j6' : fb < W2.heap.size := j6
  go_region_with (first
    | (go_at_call 85; (with_reducible refine (HDIR.out _ HI0.out).mono ?_); rintro e w3 ⟨rfl, hb3⟩; have K3 := Lib.hid (HK.out.next hb3); obtain ⟨i0, i1, i2, i3, i4, i5, i6⟩ := K3.out.cells; clear hb3)
    | (go_at_call 195; (with_reducible refine (HBIND.out w3 K3.out.below).mono ?_); rintro e w4 ⟨rfl, hd4, hk4⟩; have HD4 := Lib.hid hd4; have HK4 := Lib.hid hk4; clear hd4 hk4))
  all_goals
    have HL3 := Lib.hid (HL.out.below K3.out.below)
    have HL4 := Lib.hid (HL3.out.stored HD4.out HK4.out)
    have HKW := Lib.hid ((kept_of_below K3.out.below).trans (HK4.out.mono own23) : Kept (Own3 fb db mb) w w4)
    have HI4 := Lib.hid (HI.out.wrote HL.out HKW.out)
    have rb4 := HK4.out.at K3.out.box (fun hs => HL3.out.not3 (OfType.of K3.out.box) (by decide) (by decide) (own23 _ hs))
    clear i0 i1 i2 i3 i4 i5 i6 j0 j1 j2 j3 j4 j5 j6 j5' j6'
    have m0 := cell_blk rb4 0
    have m1 := cell_blk rb4 1
    have m2 := cell_blk rb4 2
    have m3 := cell_blk rb4 3
    simp at m0 m1 m2 m3
    clear rb4
    go_wp2_with (first
      | (go_at_call 85; (with_reducible refine (HDIR.out _ HI4.out).mono ?_); rintro e w5 ⟨rfl, hb5⟩; have HB5 := Lib.hid hb5; have HL5 := Lib.hid (HL4.out.below hb5); clear hb5)
      | (go_at_call 86; (with_reducible refine (HST.out _ HL5.out).mono ?_); rintro e w6 ⟨rfl, hl6, hk6⟩; have HL6 := Lib.hid hl6; have HK6 := Lib.hid hk6; clear hl6 hk6))
    go_end0
    exact ⟨rfl, HL6.out, (HKW.out.trans (kept_of_below HB5.out)).trans HK6.out⟩
end Go.Proofs.YtpicgkoclbpjpaaGreatDoor
end

section
namespace Go.Proofs.YtpicgkoclbpjpaaGreatDoor
open Go.RowKit Go.Sort Go.Lib Go.Shelf
open PathM TreeM VtM
set_option linter.unusedVariables false
attribute [local go_sem] cell_rg
attribute [local go_sem] cell_off
attribute [local go_sem] cell_far
set_option maxRecDepth 100000 in
set_option maxHeartbeats 2000000 in
theorem remove_any {k : Nat} {f : Fs} (fb db mb : Nat) (a : At) (dv : Value) (w : World) (h : Sys w fb db mb k f) (ha : AtOk f.t a) (hI : IntsIn w w.heap.size dv a.dirs) (hkk : k < 900000) :
    Calls Tryz.prog 50 #[.pointer (some ⟨fb, 0, none⟩), plV dv a] w fun e w' => e = .returned (.tuple #[]) ∧ Live w' fb db mb (removeF f a) ∧ Kept (Own3 fb db mb) w w' := by
  obtain ⟨Ad, cd, rfl⟩ := hI.len
  have hb0 := (Below.refl w.heap.size w).alloc (Nat.le_refl _) (.cells #[.slice Ad a.dirs.length cd, .string (nm a.name), .int .i64 a.node, .bool a.slash] 92)
  have h1 := h.below hb0
  have h2 : FsOk k (tickF f) := h.ok.tick
  have h3 := h2.bindIn (a := a) ha.in 0 (.inl rfl)
  have HT := Lib.hid (tick_any fb db mb f _ h1.live)
  have HBF := Lib.hid (fun W (hW : Sys W fb db mb k (tickF f)) (hI : IntsIn W W.heap.size (.slice Ad a.dirs.length cd) a.dirs) => bindF_any fb db mb a _ 0 W hW ha.in hI i64_0 hkk)
  have h64 := ha.node64 h.ok
  have HFG := Lib.hid (fun W (hW : Live W fb db mb (bindF (tickF f) a 0)) => forget_any fb db mb (bindF (tickF f) a 0) a.node W hW h3.rise h64 (by have := h3.len; omega) (fun n hn => by have := h3.cnt n hn; omega))
  have H1 := Lib.hid h1
  have H2 := Lib.hid h2
  have HB0 := Lib.hid hb0
  have HI := Lib.hid ((hI.below hb0).more hb0.size)
  have HBX := Lib.hid (heap_alloc_new w (.cells #[.slice Ad a.dirs.length cd, .string (nm a.name), .int .i64 a.node, .bool a.slash] 92))
  unfold plV at HBF
  unfold plV removeF
  clear h1 h2 h3 h64 h ha hI hb0 hkk
  go_enter Tryz.func50, Tryz.ntmps50
  go_wp2_with (first
    | (go_at_call 54; (with_reducible refine HT.out.mono ?_); rintro e w2 ⟨rfl, hl2, hk2⟩; have HK2 := Lib.hid hk2; have HI2 := Lib.hid (HI.out.wrote H1.out.live hk2); have HBX2 := Lib.hid (hk2.at HBX.out (H1.out.live.not3 (OfType.of HBX.out) (by decide) (by decide))); have HS2 := Lib.hid (H1.out.wrote hl2 hk2 H2.out); clear hl2 hk2; have q0 := cell_blk HBX2.out 0; have q1 := cell_blk HBX2.out 1; have q2 := cell_blk HBX2.out 2; have q3 := cell_blk HBX2.out 3; simp at q0 q1 q2 q3)
    | (go_at_call 55; (with_reducible refine (HBF.out _ HS2.out HI2.out).mono ?_); rintro e w3 ⟨rfl, hl3, hk3⟩; have HK3 := Lib.hid (HK2.out.trans hk3); have HBX3 := Lib.hid (hk3.at HBX2.out (HS2.out.live.not3 (OfType.of HBX2.out) (by decide) (by decide))); have HL3 := Lib.hid hl3; clear hl3 hk3 q0 q1 q2 q3; have q2 := cell_blk HBX3.out 2; simp at q2)
    | (go_at_call 63; (with_reducible refine (HFG.out _ HL3.out).mono ?_); rintro e w4 ⟨rfl, hl4, hk4⟩; have HK4 := Lib.hid (HK3.out.trans hk4); have HL4 := Lib.hid hl4; clear hl4 hk4))
  go_end0
  exact ⟨rfl, HL4.out, (kept_of_below HB0.out).trans HK4.out⟩
end Go.Proofs.YtpicgkoclbpjpaaGreatDoor
end

section
namespace Go.Proofs.YtpicgkoclbpjpaaGreatDoor
open Go.RowKit Go.Sort Go.Lib Go.Shelf
open PathM TreeM VtM
set_option linter.unusedVariables false
attribute [local go_sem] cell_rg
attribute [local go_sem] cell_off
attribute [local go_sem] cell_far
theorem Live.boxed {w W : World} {fb db mb nb : Nat} {f : Fs} (h : Live w fb db mb f) {a0 a1 a2 a3 a4 : Int} {s5 : ByteArray} {A : Option Addr} {n c : Nat} (hb : w.heap[nb]? = some (.cells #[.int .i64 a0, .int .i64 a1, .int .i64 a2, .int .i64 a3, .int .i64 a4, .string s5, .slice A n c] 64 (0, 0))) (hk : Kept (fun k => k = nb) w W) : Live W fb db mb f := by
  obtain ⟨ev, hd⟩ := h.disk
  have hT := OfType.of hb
  have n3 := h.not3 hT (by decide) (by decide)
  have n1 : ¬ fb = nb := fun e => n3 (.inl e.symm)
  have n2 : ¬ db = nb := fun e => n3 (.inr (.inl e.symm))
  have n4 : ¬ mb = nb := fun e => n3 (.inr (.inr e.symm))
  refine ⟨hk.at h.files n1, ⟨ev, hk.at hd.disk n2, hd.map.at (hk.block mb hd.map.lt n4), fun nd hnd => ?_⟩, h.clock⟩
  exact ((hd.ents nd hnd).keepBut2 (fun b => b = nb) (fun b e => by rw [e]; exact box_noEnt hb (fun s => by simp) (fun s => by simp) (fun s => by simp) (fun s => by simp) (fun s => by simp)) (fun b hb hs => hk.block b hb hs)).more hk.size
theorem atIn_fresh {k : Nat} {f : Fs} (h : FsOk k f) {a : At} (ha : AtIn f.t a) (n : Nd) (hn : n.id = f.t.last + 1) : AtIn (putT f.t n) a := ha.kinds fun id hid => by
  rw [kind_put h.rise]
  split
  · rename_i e
    have := h.nid (id := id) (by rw [hid]; decide)
    omega
  · exact hid
/-- The boxes of a place and of a node, in a world. -/
structure Two (w : World) (pb nb : Nat) (dv : Value) (a : At) (i0 kind mode i4 : Int) (data : Bs) : Prop where
  place : w.heap[pb]? = some (.cells #[dv, .string (nm a.name), .int .i64 a.node, .bool a.slash] 92 (0, 0))
  node : w.heap[nb]? = some (.cells #[.int .i64 i0, .int .i64 kind, .int .i64 mode, .int .i64 0, .int .i64 i4, .string (nm data), .slice none 0 0] 64 (0, 0))
theorem Two.below {w W : World} {pb nb : Nat} {dv : Value} {a : At} {i0 kind mode i4 : Int} {data : Bs} (h : Two w pb nb dv a i0 kind mode i4 data) (hb : Below w.heap.size w W) : Two W pb nb dv a i0 kind mode i4 data :=
  ⟨(hb.block _ (blk_lt h.place)).trans h.place, (hb.block _ (blk_lt h.node)).trans h.node⟩
theorem Two.wrote {w W : World} {fb db mb pb nb : Nat} {f : Fs} {dv : Value} {a : At} {i0 kind mode i4 : Int} {data : Bs} (h : Two w pb nb dv a i0 kind mode i4 data) (hL : Live w fb db mb f) (hk : Kept (Own3 fb db mb) w W) : Two W pb nb dv a i0 kind mode i4 data :=
  ⟨hk.at h.place (hL.not3 (OfType.of h.place) (by decide) (by decide)), hk.at h.node (hL.not3 (OfType.of h.node) (by decide) (by decide))⟩
theorem Two.set {w : World} {pb nb : Nat} {dv : Value} {a : At} {i0 kind mode i4 : Int} {data : Bs} (h : Two w pb nb dv a i0 kind mode i4 data) (x y : Int) : Two ((w.setCell ⟨nb, 0, none⟩ (.int .i64 x)).setCell ⟨nb, 4, none⟩ (.int .i64 y)) pb nb dv a x kind mode y data := by
  have hne : pb ≠ nb := OfType.ne (OfType.of h.place) (OfType.of h.node) (by decide)
  refine ⟨?_, ?_⟩
  · exact (Below.heap_setCell _ _ _ _ hne).trans ((Below.heap_setCell _ _ _ _ hne).trans h.place)
  · have := set_blk (j := 4) (set_blk (j := 0) h.node (.int .i64 x)) (.int .i64 y)
    simpa using this
theorem Live.drew {w : World} {fb db mb : Nat} {f : Fs} (h : Live w fb db mb f) : Live w.drew fb db mb f := h.below (Below.refl _ _).drew
set_option maxRecDepth 100000 in
set_option maxHeartbeats 2000000 in
theorem createF_any {k : Nat} {f : Fs} (fb db mb : Nat) (a : At) (dv : Value) (kind mode : Int) (data : Bs) (w : World) (h : Sys w fb db mb k f) (ha : AtIn f.t a) (hI : IntsIn w w.heap.size dv a.dirs) (hkd : 1 ≤ kind ∧ kind ≤ 3) (hdl : data.length ≤ 4096) (hkk : k < 800000) :
    Calls Tryz.prog 45 #[.pointer (some ⟨fb, 0, none⟩), plV dv a, ndV (.slice none 0 0) ⟨0, kind, mode, 0, 0, data, []⟩] w (WroteP fb db mb w (createF f a kind mode data)) := by
  obtain ⟨Ad, cd, rfl⟩ := hI.len
  have hb0 := ((Below.refl w.heap.size w).alloc (Nat.le_refl _) (.cells #[.slice Ad a.dirs.length cd, .string (nm a.name), .int .i64 a.node, .bool a.slash] 92)).alloc (by simp) (.cells #[.int .i64 0, .int .i64 kind, .int .i64 mode, .int .i64 0, .int .i64 0, .string (nm data), .slice none 0 0] 64)
  have hs0 := h.below hb0
  have hno := heap_alloc_new (w.alloc (.cells #[.slice Ad a.dirs.length cd, .string (nm a.name), .int .i64 a.node, .bool a.slash] 92)) (.cells #[.int .i64 0, .int .i64 kind, .int .i64 mode, .int .i64 0, .int .i64 0, .string (nm data), .slice none 0 0] 64)
  rw [show (w.alloc (.cells #[.slice Ad a.dirs.length cd, .string (nm a.name), .int .i64 a.node, .bool a.slash] 92)).heap.size = w.heap.size + 1 from by simp] at hno
  have HT0 : Hid (Two ((w.alloc (.cells #[.slice Ad a.dirs.length cd, .string (nm a.name), .int .i64 a.node, .bool a.slash] 92)).alloc (.cells #[.int .i64 0, .int .i64 kind, .int .i64 mode, .int .i64 0, .int .i64 0, .string (nm data), .slice none 0 0] 64)) w.heap.size (w.heap.size + 1) (.slice Ad a.dirs.length cd) a 0 kind mode 0 data) := Lib.hid ⟨(heap_alloc_old (w.alloc (.cells #[.slice Ad a.dirs.length cd, .string (nm a.name), .int .i64 a.node, .bool a.slash] 92)) (.cells #[.int .i64 0, .int .i64 kind, .int .i64 mode, .int .i64 0, .int .i64 0, .string (nm data), .slice none 0 0] 64) (by simp)).trans (heap_alloc_new w (.cells #[.slice Ad a.dirs.length cd, .string (nm a.name), .int .i64 a.node, .bool a.slash] 92)), hno⟩
  have hlen := h.ok.len
  have HNF := Lib.hid (nodeFits_any fb db mb f _ hs0.live h.ok.rise (by omega) h.ok.data)
  have HBY := Lib.hid (fun W (hW : Live W fb db mb f) => bytesFit_any fb db mb f ((nm data).size : Int) W hW h.ok.rise (by omega) h.ok.data h.ok.rb)
  have HS0 := Lib.hid hs0
  have HB0 := Lib.hid hb0
  have HI0 := Lib.hid ((hI.below hb0).more hb0.size)
  have hsz := nm_size data
  unfold BoolPost at HNF HBY
  unfold WroteP plV ndV createF
  by_cases hf : nodeFitsB f = false ∨ bytesFitB f data.length = false
  · rw [if_pos hf]
    dsimp only
    by_cases h1 : nodeFitsB f = false
    · rw [h1] at HNF
      clear hf h1 hsz h hs0 hb0 ha hI hno hlen hkd hdl hkk
      go_enter Tryz.func45, Tryz.ntmps45
      go_wp2_with (go_at_call 81; (with_reducible refine HNF.out.mono ?_); rintro e w1 ⟨rfl, hb1⟩; have HT1 := Lib.hid (HT0.out.below hb1); have HS1 := Lib.hid (HS0.out.below hb1); have HI1 := Lib.hid ((HI0.out.below hb1).more hb1.size); have HB1 := Lib.hid (HB0.out.trans (hb1.mono HB0.out.size)); clear hb1; have q5 := cell_blk HT1.out.node 5; simp at q5)
      go_ret
      exact ⟨rfl, HS1.out.live, kept_of_below HB1.out⟩
    · have h1t : nodeFitsB f = true := by simpa using h1
      have h2 : bytesFitB f data.length = false := hf.resolve_left h1
      rw [h1t] at HNF
      rw [hsz, h2, ← hsz] at HBY
      clear hf h1 h1t h2 hsz h hs0 hb0 ha hI hno hlen hkd hdl hkk
      go_enter Tryz.func45, Tryz.ntmps45
      go_wp2_with (first | (go_at_call 81; (with_reducible refine HNF.out.mono ?_); rintro e w1 ⟨rfl, hb1⟩; have HT1 := Lib.hid (HT0.out.below hb1); have HS1 := Lib.hid (HS0.out.below hb1); have HI1 := Lib.hid ((HI0.out.below hb1).more hb1.size); have HB1 := Lib.hid (HB0.out.trans (hb1.mono HB0.out.size)); clear hb1; have q5 := cell_blk HT1.out.node 5; simp at q5) | (go_at_call 80; (with_reducible refine (HBY.out _ HS1.out.live).mono ?_); rintro e w2 ⟨rfl, hb2⟩; have HT2 := Lib.hid (HT1.out.below hb2); have HS2 := Lib.hid (HS1.out.below hb2); have HI2 := Lib.hid ((HI1.out.below hb2).more hb2.size); have HB2 := Lib.hid (HB1.out.trans (hb2.mono HB1.out.size)); clear hb2 q5))
      go_ret
      exact ⟨rfl, HS2.out.live, kept_of_below HB2.out⟩
  · have h1 : nodeFitsB f = true := by
      cases e : nodeFitsB f with
      | true => rfl
      | false => exact absurd (.inl e) hf
    have h2 : bytesFitB f data.length = true := by
      cases e : bytesFitB f data.length with
      | true => rfl
      | false => exact absurd (.inr e) hf
    rw [if_neg hf]
    rw [h1] at HNF
    rw [hsz, h2, ← hsz] at HBY
    have hm := method_Fresh
    have hm2 := method_Put
    have hlast := h.ok.last
    have hrl := h.ok.root_last
    have h64 : I64 (f.t.last + 1) := by unfold I64; omega
    have hok1 := h.ok.tick
    have hok2 : FsOk (k + 1) ⟨putT f.t ⟨f.t.last + 1, kind, mode, 0, (tickF f).ck, data, []⟩, (tickF f).ck⟩ := hok1.fresh kind mode (tickF f).ck data hkd hdl (by omega)
    have hain := atIn_fresh h.ok ha ⟨f.t.last + 1, kind, mode, 0, (tickF f).ck, data, []⟩ rfl
    have HOK := Lib.hid hok1
    have HOK2 := Lib.hid hok2
    have HTK := Lib.hid (fun W (hW : Live W fb db mb f) => tick_any fb db mb f W hW)
    have hfr : ∀ W, Live W fb db mb (tickF f) → Calls Tryz.prog 199 #[.pointer (some ⟨db, 0, none⟩)] W (IntPost (f.t.last + 1) W) := fun W hW => by
      obtain ⟨ev, hd⟩ := hW.disk
      exact fresh_any db mb f.t ev W hd ⟨by omega, by omega⟩
    have HFR := Lib.hid hfr
    have hpu : ∀ W, Live W fb db mb (tickF f) → Calls Tryz.prog 203 #[.pointer (some ⟨db, 0, none⟩), ndV (.slice none 0 0) ⟨f.t.last + 1, kind, mode, 0, (tickF f).ck, data, []⟩] W fun e w' => e = .returned (.tuple #[]) ∧ (∃ ev', DiskIn w' db mb (putT f.t ⟨f.t.last + 1, kind, mode, 0, (tickF f).ck, data, []⟩) ev') ∧ Kept (Own2 db mb) W w' := fun W hW => by
      obtain ⟨ev, hd⟩ := hW.disk
      exact put_any db mb f.t ev ⟨f.t.last + 1, kind, mode, 0, (tickF f).ck, data, []⟩ none 0 0 W hd h.ok.rise h64 (by omega)
    have HPU := Lib.hid hpu
    have HBD := Lib.hid (fun W (hW : Sys W fb db mb (k + 1) ⟨putT f.t ⟨f.t.last + 1, kind, mode, 0, (tickF f).ck, data, []⟩, (tickF f).ck⟩) (hI : IntsIn W W.heap.size (.slice Ad a.dirs.length cd) a.dirs) => bindF_any fb db mb a _ (f.t.last + 1) W hW hain hI h64 (by omega))
    have HNE : Hid (∀ {W : World} {i4 i0 : Int} {v : Value}, Two W w.heap.size (w.heap.size + 1) v a i0 kind mode i4 data → Live W fb db mb (tickF f) → w.heap.size + 1 ≠ fb) := Lib.hid (fun hT hL => OfType.ne (OfType.of hT.node) (OfType.of hL.files) (by decide))
    unfold IntPost at HFR
    unfold ndV at HPU
    unfold plV at HBD
    dsimp only at HPU ⊢
    clear hf h1 h2 hsz h hs0 hb0 ha hI hno hlen hkd hdl hkk hlast hrl h64 hok1 hok2 hain hfr hpu
    generalize hla : f.t.last + 1 = la at *
    obtain ⟨ck, hck⟩ : ∃ ck, (tickF f).ck = ck := ⟨_, rfl⟩
    rw [hck] at HPU HBD HOK2 ⊢
    have HCK := Lib.hid hck
    clear hck hla
    go_enter Tryz.func45, Tryz.ntmps45
    go_wp2_with (first | (go_at_call 81; (with_reducible refine HNF.out.mono ?_); rintro e w1 ⟨rfl, hb1⟩; have HT1 := Lib.hid (HT0.out.below hb1); have HS1 := Lib.hid (HS0.out.below hb1); have HI1 := Lib.hid ((HI0.out.below hb1).more hb1.size); have HB1 := Lib.hid (HB0.out.trans (hb1.mono HB0.out.size)); clear hb1; have q5 := cell_blk HT1.out.node 5; simp at q5) | (go_at_call 80; (with_reducible refine (HBY.out _ HS1.out.live).mono ?_); rintro e w2 ⟨rfl, hb2⟩; have HT2 := Lib.hid (HT1.out.below hb2); have HS2 := Lib.hid (HS1.out.below hb2); have HI2 := Lib.hid ((HI1.out.below hb2).more hb2.size); have HB2 := Lib.hid (HB1.out.trans (hb2.mono HB1.out.size)); clear hb2 q5) | (go_at_call 54; (with_reducible refine (HTK.out _ HS2.out.live).mono ?_); rintro e w3 ⟨rfl, hl3, hk3⟩; have HT3 := Lib.hid (HT2.out.wrote HS2.out.live hk3); have HS3 := Lib.hid (HS2.out.wrote hl3 hk3 HOK.out); have HI3 := Lib.hid (HI2.out.wrote HS2.out.live hk3); have HK3 := Lib.hid ((kept_of_below HB2.out).trans hk3); have c0 := cell_blk hl3.files 0; simp at c0; clear hl3 hk3) | (go_at_call 199; (with_reducible refine (HFR.out _ HS3.out.live).mono ?_); rintro e w4 ⟨rfl, hb4⟩; have HT4 := Lib.hid (HT3.out.below hb4); have HS4 := Lib.hid (HS3.out.below hb4); have HI4 := Lib.hid ((HI3.out.below hb4).more hb4.size); have HK4 := Lib.hid (HK3.out.trans (kept_of_below hb4)); clear hb4 c0; have c1 := cell_blk HS4.out.live.files 1; simp at c1; have n0 := cell_blk HT4.out.node 0; have n4 := cell_blk HT4.out.node 4; simp at n0 n4; have f0 := froz_blk HT4.out.node 0; have f4 := froz_blk HT4.out.node 4; have hne := HNE.out HT4.out HS4.out.live; rw [HCK.out] at c1))
    have HT5 := Lib.hid (HT4.out.set la ck)
    have HN5 : Hid (Kept (fun k => k = w.heap.size + 1) w4 ((w4.setCell ⟨w.heap.size + 1, 0, none⟩ (.int .i64 la)).setCell ⟨w.heap.size + 1, 4, none⟩ (.int .i64 ck))) := Lib.hid ((own_set _ _ _ _).trans (own_set _ _ _ _))
    have HL5 := Lib.hid (HS4.out.live.boxed HT4.out.node HN5.out)
    have HI5 := Lib.hid ((HI4.out.keep fun b hb ht => HN5.out.block b hb (fun e => OfType.ne ht (OfType.of HT4.out.node) (by decide) e)).more HN5.out.size)
    have HM5 : Hid (∃ m, ((w4.setCell ⟨w.heap.size + 1, 0, none⟩ (.int .i64 la)).setCell ⟨w.heap.size + 1, 4, none⟩ (.int .i64 ck)).cell? ⟨0, 0, none⟩ = some (.int .i64 m)) := Lib.hid (by
      obtain ⟨m, hm⟩ := HS4.out.lib
      refine ⟨m, ?_⟩
      rw [cell_far _ _ _ _ _ _ (Nat.succ_ne_zero _), cell_far _ _ _ _ _ _ (Nat.succ_ne_zero _)]
      exact hm)
    have HK5 := Lib.hid (HK4.out.after (HN5.out.below (by have := HB0.out.size; have := HK4.out.size; omega) (fun j hj => by rw [hj]; exact Nat.le_succ _) : Below w.heap.size w4 _))
    clear n0 n4 f0 f4 c1 hne
    generalize ((w4.setCell ⟨w.heap.size + 1, 0, none⟩ (.int .i64 la)).setCell ⟨w.heap.size + 1, 4, none⟩ (.int .i64 ck)) = W5 at *
    have c0 := cell_blk HL5.out.files 0
    simp at c0
    have l0 := blk_lt HL5.out.files
    have l1 := blk_lt HT5.out.node
    have n0 := cell_blk HT5.out.node 0
    have n1 := cell_blk HT5.out.node 1
    have n2 := cell_blk HT5.out.node 2
    have n3 := cell_blk HT5.out.node 3
    have n4 := cell_blk HT5.out.node 4
    have n5 := cell_blk HT5.out.node 5
    have n6 := cell_blk HT5.out.node 6
    simp at n0 n1 n2 n3 n4 n5 n6
    refine wp_region_still_tail 5 (by kernel_rfl) (by kernel_rfl) ?_
    simp only [List.take_succ_cons, List.take_zero, List.drop_succ_cons, List.drop_zero]
    repeat still_step
    refine wpStill_nil ?_
    change wpList _ _ _ _ _ W5.drew
    have HD5 := Lib.hid (Below.refl W5.heap.size W5).drew
    go_wp2_with (first
      | (go_at_call 203; (with_reducible refine (HPU.out _ HL5.out.drew).mono ?_); rintro e w6 ⟨rfl, hd6, hk6⟩; have HK56 := Lib.hid ((kept_of_below HD5.out).trans (hk6.mono own23) : Kept (Own3 fb db mb) W5 w6); have hl6 := HL5.out.drew.stored hd6 hk6; have hl6 : Live w6 fb db mb ⟨putT f.t ⟨la, kind, mode, 0, ck, data, []⟩, ck⟩ := (by rw [show (⟨putT f.t ⟨la, kind, mode, 0, ck, data, []⟩, ck⟩ : Fs) = ⟨putT f.t ⟨la, kind, mode, 0, ck, data, []⟩, (tickF f).ck⟩ from by rw [HCK.out]]; exact hl6); have hs6 : Sys w6 fb db mb (k + 1) ⟨putT f.t ⟨la, kind, mode, 0, ck, data, []⟩, ck⟩ := ⟨hl6, HOK2.out, HL5.out.lib HK56.out HM5.out⟩; have HS6 := Lib.hid hs6; have HI6 := Lib.hid (HI5.out.wrote HL5.out HK56.out); have HT6 := Lib.hid (HT5.out.wrote HL5.out HK56.out); have HK6 := Lib.hid (HK5.out.trans HK56.out); clear hd6 hk6 hl6 hs6 c0 l0 l1 n0 n1 n2 n3 n4 n5 n6; have p0 := cell_blk HT6.out.place 0; have p1 := cell_blk HT6.out.place 1; have p2 := cell_blk HT6.out.place 2; have p3 := cell_blk HT6.out.place 3; have n0 := cell_blk HT6.out.node 0; simp at p0 p1 p2 p3 n0)
      | (go_at_call 55; (with_reducible refine (HBD.out _ HS6.out HI6.out).mono ?_); rintro e w7 ⟨rfl, hl7, hk7⟩; have HL7 := Lib.hid hl7; have HK7 := Lib.hid (HK6.out.trans hk7); clear hl7 hk7))
    go_ret
    exact ⟨rfl, HL7.out, HK7.out⟩
end Go.Proofs.YtpicgkoclbpjpaaGreatDoor
end

section
namespace Go.Proofs.YtpicgkoclbpjpaaGreatDoor
open Go.RowKit Go.Sort Go.Lib Go.Shelf
open PathM TreeM VtM
set_option linter.unusedVariables false
attribute [local go_sem] cell_rg
attribute [local go_sem] cell_off
attribute [local go_sem] cell_far
set_option maxRecDepth 100000 in
theorem modeMay_any (mode : Int) (w : World) : Calls Tryz.prog 51 #[.int .i64 mode] w fun e w' => e = .returned (.bool (decide (0 ≤ mode ∧ mode ≤ 511))) ∧ w = w' := by
  by_cases h0 : 0 ≤ mode
  · by_cases h1 : mode ≤ 511
    · rw [decide_eq_true ⟨h0, h1⟩]
      go_enter Tryz.func51, Tryz.ntmps51
      go_wp2
      go_ret
      exact ⟨ret_bool (by simp), rfl⟩
    · rw [decide_eq_false (fun h => h1 h.2)]
      go_enter Tryz.func51, Tryz.ntmps51
      go_wp2
      go_ret
      exact ⟨ret_bool (by simp), rfl⟩
  · rw [decide_eq_false (fun h => h0 h.1)]
    have h0' : mode < 0 := by omega
    go_enter Tryz.func51, Tryz.ntmps51
    go_wp2
    go_ret
    exact ⟨rfl, rfl⟩
set_option maxRecDepth 100000 in
set_option maxHeartbeats 2000000 in
theorem mkdir_any {k : Nat} {f : Fs} (fb db mb : Nat) (p : ByteArray) (mode : Int) (w : World) (h : Sys w fb db mb k f) (hp : p.size ≤ maxLen) (hkk : k < 800000) :
    Calls Tryz.prog 19 #[.pointer (some ⟨fb, 0, none⟩), .string p, .int .i64 mode] w (WroteP fb db mb w (mkdirF f p.data.toList mode)) := by
  have HI := Lib.hid (free_any fb db mb p w h hp)
  have HN := Lib.hid (fnone_any fb db mb f _ h.live)
  have HS := Lib.hid h
  unfold WroteP mkdirF
  have hmm := modeMay_any mode w
  by_cases hmd : mode < 0 ∨ 511 < mode
  · rw [if_pos hmd]
    dsimp only
    rw [decide_eq_false (by omega)] at hmm
    have HMM := Lib.hid hmm
    clear HI h hp hkk hmd hmm
    go_enter Tryz.func19, Tryz.ntmps19
    go_wp2_with (first | (go_at_call 42; (with_reducible refine HN.out.mono ?_); rintro e w1 ⟨rfl, rfl⟩) | (go_at_call 51; (with_reducible refine HMM.out.mono ?_); rintro e w1 ⟨rfl, rfl⟩))
    go_ret
    exact ⟨rfl, HS.out.live, Kept.refl _ _⟩
  · rw [if_neg hmd]
    rw [decide_eq_true (by omega)] at hmm
    have HMM := Lib.hid hmm
    clear hmd hmm
    cases hr : freeF f p.data.toList with
    | error x =>
      rw [hr] at HI
      unfold GonP at HI
      dsimp only at HI ⊢
      clear hr h hp hkk
      go_enter Tryz.func19, Tryz.ntmps19
      go_wp2_with (first | (go_at_call 42; (with_reducible refine HN.out.mono ?_); rintro e w1 ⟨rfl, rfl⟩) | (go_at_call 51; (with_reducible refine HMM.out.mono ?_); rintro e w1 ⟨rfl, rfl⟩) | (go_at_call 52; (with_reducible refine HI.out.mono ?_); rintro e w2 ⟨⟨A, n, c, nb, id, sl, rfl⟩, hx0, hb2⟩; have HX0 := Lib.hid hx0; have x1 : (x == 0) = false := beq_eq_false_iff_ne.2 hx0; have x2 : (x != 0) = true := bne_iff_ne.2 hx0; have HBA := Lib.hid (hb2.alloc hb2.size (.cells #[.slice A n c, .string nb, .int .i64 id, .bool sl] 92)); clear hx0 hb2))
      go_ret
      exact ⟨rfl, HS.out.live.below HBA.out, kept_of_below HBA.out⟩
    | ok a =>
      have hcr : ∀ W A c, Sys W fb db mb k f → IntsIn W W.heap.size (.slice A a.dirs.length c) a.dirs → Calls Tryz.prog 45 #[.pointer (some ⟨fb, 0, none⟩), .agg #[.slice A a.dirs.length c, .string (nm a.name), .int .i64 a.node, .bool a.slash], .agg #[.int .i64 0, .int .i64 1, .int .i64 mode, .int .i64 0, .int .i64 0, .string { data := #[] }, .slice none 0 0]] W (WroteP fb db mb W (createF f a 1 mode [])) := fun W A c hS hI => createF_any fb db mb a _ 1 mode [] W hS (free_ok h.ok hr).1.in hI (by omega) (by simp) hkk
      have HCR := Lib.hid hcr
      unfold WroteP at HCR
      rw [hr] at HI
      unfold GonP at HI
      dsimp only at HI ⊢
      clear hr hcr h hp hkk
      go_enter Tryz.func19, Tryz.ntmps19
      go_wp2_with (first | (go_at_call 42; (with_reducible refine HN.out.mono ?_); rintro e w1 ⟨rfl, rfl⟩) | (go_at_call 51; (with_reducible refine HMM.out.mono ?_); rintro e w1 ⟨rfl, rfl⟩) | (go_at_call 52; (with_reducible refine HI.out.mono ?_); rintro e w2 ⟨v, rfl, hi2, hb2⟩; unfold plV; obtain ⟨A, c, rfl⟩ := hi2.len; have HBA := Lib.hid (hb2.alloc hb2.size (.cells #[.slice A a.dirs.length c, .string (nm a.name), .int .i64 a.node, .bool a.slash] 92)); have HSA := Lib.hid (HS.out.below HBA.out); have HIA := Lib.hid ((hi2.below ((Below.refl _ _).alloc (Nat.le_refl _) (.cells #[.slice A a.dirs.length c, .string (nm a.name), .int .i64 a.node, .bool a.slash] 92))).more (show w2.heap.size ≤ (w2.alloc (.cells #[.slice A a.dirs.length c, .string (nm a.name), .int .i64 a.node, .bool a.slash] 92)).heap.size by simp)); clear hi2 hb2) | (go_at_call 45; (with_reducible refine (HCR.out _ _ _ HSA.out HIA.out).mono ?_); rintro e w3 ⟨rfl, hl3, hk3⟩; have HL3 := Lib.hid hl3; have HK3 := Lib.hid hk3; clear hl3 hk3))
      go_ret
      exact ⟨rfl, HL3.out, (kept_of_below HBA.out).trans HK3.out⟩
set_option maxRecDepth 100000 in
set_option maxHeartbeats 2000000 in
theorem symlink_any {k : Nat} {f : Fs} (fb db mb : Nat) (tg p : ByteArray) (w : World) (h : Sys w fb db mb k f) (hp : p.size ≤ maxLen) (hkk : k < 800000) :
    Calls Tryz.prog 17 #[.pointer (some ⟨fb, 0, none⟩), .string tg, .string p] w (WroteP fb db mb w (symlinkF f tg.data.toList p.data.toList)) := by
  have HI := Lib.hid (freeName_any fb db mb p w h hp)
  have HN := Lib.hid (fnone_any fb db mb f _ h.live)
  have HS := Lib.hid h
  have hib := fun w => Tryz.strings_IndexByte tg 0 w
  rw [show Int.toNat 0 = 0 from rfl, show Nat.toUInt8 0 = 0 from rfl] at hib
  have h0 := index0 tg.data.toList
  have hsz := sizeD tg
  unfold WroteP symlinkF
  cases hr : freeNameF f p.data.toList with
  | error x =>
    rw [hr] at HI
    unfold GonP at HI
    dsimp only at HI ⊢
    clear hr h hp hkk hib h0 hsz
    go_enter Tryz.func17, Tryz.ntmps17
    go_wp2_with (first | (go_at_call 42; (with_reducible refine HN.out.mono ?_); rintro e w1 ⟨rfl, rfl⟩) | (go_at_call 47; (with_reducible refine HI.out.mono ?_); rintro e w2 ⟨⟨A, n, c, nb, id, sl, rfl⟩, hx0, hb2⟩; have HX0 := Lib.hid hx0; have x1 : (x == 0) = false := beq_eq_false_iff_ne.2 hx0; have x2 : (x != 0) = true := bne_iff_ne.2 hx0; have HBA := Lib.hid (hb2.alloc hb2.size (.cells #[.slice A n c, .string nb, .int .i64 id, .bool sl] 92)); clear hx0 hb2))
    go_ret
    exact ⟨rfl, HS.out.live.below HBA.out, kept_of_below HBA.out⟩
  | ok a =>
    rw [hr] at HI
    unfold GonP at HI
    dsimp only at HI ⊢
    by_cases hemp : tg.data.toList = []
    · rw [if_pos (.inl hemp)]
      have e1 := emp_yes hemp
      dsimp only
      clear hr h hp hkk hib h0 hsz hemp
      go_enter Tryz.func17, Tryz.ntmps17
      go_wp2_with (first | (go_at_call 42; (with_reducible refine HN.out.mono ?_); rintro e w1 ⟨rfl, rfl⟩) | (go_at_call 47; (with_reducible refine HI.out.mono ?_); rintro e w2 ⟨v, rfl, hi2, hb2⟩; unfold plV; obtain ⟨A, c, rfl⟩ := hi2.len; have HBA := Lib.hid (hb2.alloc hb2.size (.cells #[.slice A a.dirs.length c, .string (nm a.name), .int .i64 a.node, .bool a.slash] 92)); have HSA := Lib.hid (HS.out.below HBA.out); have HIA := Lib.hid ((hi2.below ((Below.refl _ _).alloc (Nat.le_refl _) (.cells #[.slice A a.dirs.length c, .string (nm a.name), .int .i64 a.node, .bool a.slash] 92))).more (show w2.heap.size ≤ (w2.alloc (.cells #[.slice A a.dirs.length c, .string (nm a.name), .int .i64 a.node, .bool a.slash] 92)).heap.size by simp)); clear hi2 hb2))
      go_ret
      exact ⟨rfl, HS.out.live.below HBA.out, kept_of_below HBA.out⟩
    · have e1 := emp_no hemp
      by_cases hz : tg.data.toList.contains 0 = true
      · rw [if_pos (.inr hz)]
        dsimp only
        have hx := h0.2 hz
        have HIB := Lib.hid hib
        generalize Lib.indexByte tg.data.toList 0 = x at hx HIB
        clear hr h hp hkk hib h0 hsz hemp hz
        go_enter Tryz.func17, Tryz.ntmps17
        go_wp2_with (first | (go_at_call 42; (with_reducible refine HN.out.mono ?_); rintro e w1 ⟨rfl, rfl⟩) | (go_at_call 47; (with_reducible refine HI.out.mono ?_); rintro e w2 ⟨v, rfl, hi2, hb2⟩; unfold plV; obtain ⟨A, c, rfl⟩ := hi2.len; have HBA := Lib.hid (hb2.alloc hb2.size (.cells #[.slice A a.dirs.length c, .string (nm a.name), .int .i64 a.node, .bool a.slash] 92)); have HSA := Lib.hid (HS.out.below HBA.out); have HIA := Lib.hid ((hi2.below ((Below.refl _ _).alloc (Nat.le_refl _) (.cells #[.slice A a.dirs.length c, .string (nm a.name), .int .i64 a.node, .bool a.slash] 92))).more (show w2.heap.size ≤ (w2.alloc (.cells #[.slice A a.dirs.length c, .string (nm a.name), .int .i64 a.node, .bool a.slash] 92)).heap.size by simp)); clear hi2 hb2) | (go_at_call 48; (with_reducible refine (HIB.out _).mono ?_); rintro e w' ⟨rfl, rfl⟩))
        go_ret
        exact ⟨rfl, HS.out.live.below HBA.out, kept_of_below HBA.out⟩
      · rw [if_neg (by rintro (e | e); exact hemp e; exact hz e)]
        have hx : ¬ 0 ≤ Lib.indexByte tg.data.toList 0 := fun h => hz (h0.1 h)
        have HIB := Lib.hid hib
        generalize Lib.indexByte tg.data.toList 0 = x at hx HIB
        by_cases hl : 256 < tg.data.toList.length
        · rw [if_pos hl]
          dsimp only
          have hl2 : (256 : Int) < (tg.size : Int) := by omega
          clear hr h hp hkk hib h0 hsz hemp hz hl
          go_enter Tryz.func17, Tryz.ntmps17
          go_wp2_with (first | (go_at_call 42; (with_reducible refine HN.out.mono ?_); rintro e w1 ⟨rfl, rfl⟩) | (go_at_call 47; (with_reducible refine HI.out.mono ?_); rintro e w2 ⟨v, rfl, hi2, hb2⟩; unfold plV; obtain ⟨A, c, rfl⟩ := hi2.len; have HBA := Lib.hid (hb2.alloc hb2.size (.cells #[.slice A a.dirs.length c, .string (nm a.name), .int .i64 a.node, .bool a.slash] 92)); have HSA := Lib.hid (HS.out.below HBA.out); have HIA := Lib.hid ((hi2.below ((Below.refl _ _).alloc (Nat.le_refl _) (.cells #[.slice A a.dirs.length c, .string (nm a.name), .int .i64 a.node, .bool a.slash] 92))).more (show w2.heap.size ≤ (w2.alloc (.cells #[.slice A a.dirs.length c, .string (nm a.name), .int .i64 a.node, .bool a.slash] 92)).heap.size by simp)); clear hi2 hb2) | (go_at_call 48; (with_reducible refine (HIB.out _).mono ?_); rintro e w' ⟨rfl, rfl⟩))
          go_ret
          exact ⟨rfl, HS.out.live.below HBA.out, kept_of_below HBA.out⟩
        · rw [if_neg hl]
          have hl2 : ¬ (256 : Int) < (tg.size : Int) := by omega
          have hcr : ∀ W A c, Sys W fb db mb k f → IntsIn W W.heap.size (.slice A a.dirs.length c) a.dirs → Calls Tryz.prog 45 #[.pointer (some ⟨fb, 0, none⟩), .agg #[.slice A a.dirs.length c, .string (nm a.name), .int .i64 a.node, .bool a.slash], .agg #[.int .i64 0, .int .i64 3, .int .i64 511, .int .i64 0, .int .i64 0, .string tg, .slice none 0 0]] W (WroteP fb db mb W (createF f a 3 511 tg.data.toList)) := fun W A c hS hI => createF_any fb db mb a _ 3 511 tg.data.toList W hS (freeName_ok h.ok hr).1.in hI (by omega) (by omega) hkk
          have HCR := Lib.hid hcr
          unfold WroteP at HCR
          clear hr hcr h hp hkk hib h0 hsz hemp hz hl
          go_enter Tryz.func17, Tryz.ntmps17
          go_wp2_with (first | (go_at_call 42; (with_reducible refine HN.out.mono ?_); rintro e w1 ⟨rfl, rfl⟩) | (go_at_call 47; (with_reducible refine HI.out.mono ?_); rintro e w2 ⟨v, rfl, hi2, hb2⟩; unfold plV; obtain ⟨A, c, rfl⟩ := hi2.len; have HBA := Lib.hid (hb2.alloc hb2.size (.cells #[.slice A a.dirs.length c, .string (nm a.name), .int .i64 a.node, .bool a.slash] 92)); have HSA := Lib.hid (HS.out.below HBA.out); have HIA := Lib.hid ((hi2.below ((Below.refl _ _).alloc (Nat.le_refl _) (.cells #[.slice A a.dirs.length c, .string (nm a.name), .int .i64 a.node, .bool a.slash] 92))).more (show w2.heap.size ≤ (w2.alloc (.cells #[.slice A a.dirs.length c, .string (nm a.name), .int .i64 a.node, .bool a.slash] 92)).heap.size by simp)); clear hi2 hb2) | (go_at_call 48; (with_reducible refine (HIB.out _).mono ?_); rintro e w' ⟨rfl, rfl⟩) | (go_at_call 45; (with_reducible refine (HCR.out _ _ _ HSA.out HIA.out).mono ?_); rintro e w3 ⟨rfl, hl3, hk3⟩; have HL3 := Lib.hid hl3; have HK3 := Lib.hid hk3; clear hl3 hk3))
          go_ret
          exact ⟨rfl, HL3.out, (kept_of_below HBA.out).trans HK3.out⟩
end Go.Proofs.YtpicgkoclbpjpaaGreatDoor
end

section
namespace Go.Proofs.YtpicgkoclbpjpaaGreatDoor
open Go.RowKit Go.Sort Go.Lib Go.Shelf
open PathM TreeM VtM
set_option linter.unusedVariables false
attribute [local go_sem] cell_rg
attribute [local go_sem] cell_off
attribute [local go_sem] cell_far
theorem isD_any {k : Nat} {f : Fs} (fb db mb : Nat) (a : At) (ha : AtOk f.t a) (W : World) (A : Option Addr) (c : Nat) (hS : Sys W fb db mb k f) (hI : IntsIn W W.heap.size (.slice A a.dirs.length c) a.dirs) : Calls Tryz.prog 41 #[.pointer (some ⟨fb, 0, none⟩), .agg #[.slice A a.dirs.length c, .string (nm a.name), .int .i64 a.node, .bool a.slash]] W (BoolPost (decide (a.node ≠ 0 ∧ kindF f a.node = 1)) W) :=
  isDir_any fb db mb f a _ W hS.live (ha.node64 hS.ok) hI
set_option maxRecDepth 100000 in
set_option maxHeartbeats 2000000 in
theorem unlink_any {k : Nat} {f : Fs} (fb db mb : Nat) (p : ByteArray) (w : World) (h : Sys w fb db mb k f) (hp : p.size ≤ maxLen) (hkk : k < 800000) :
    Calls Tryz.prog 18 #[.pointer (some ⟨fb, 0, none⟩), .string p] w (WroteP fb db mb w (unlinkF f p.data.toList)) := by
  have HI := Lib.hid (namedThere_any fb db mb p w h hp)
  have HS := Lib.hid h
  unfold WroteP unlinkF
  cases hr : namedThereF f p.data.toList with
  | error x =>
    rw [hr] at HI
    unfold GonP at HI
    dsimp only at HI ⊢
    clear hr h hp hkk
    go_enter Tryz.func18, Tryz.ntmps18
    go_wp2_with (go_at_call 49; (with_reducible refine HI.out.mono ?_); rintro e w2 ⟨⟨A, n, c, nb, id, sl, rfl⟩, hx0, hb2⟩; have HX0 := Lib.hid hx0; have x1 : (x == 0) = false := beq_eq_false_iff_ne.2 hx0; have x2 : (x != 0) = true := bne_iff_ne.2 hx0; have HBA := Lib.hid (hb2.alloc hb2.size (.cells #[.slice A n c, .string nb, .int .i64 id, .bool sl] 92)); clear hx0 hb2)
    go_ret
    exact ⟨rfl, HS.out.live.below HBA.out, kept_of_below HBA.out⟩
  | ok a =>
    obtain ⟨ha, hn1, hn2, hn3, hn4⟩ := namedThere_ok h.ok hr
    rw [hr] at HI
    unfold GonP at HI
    dsimp only at HI ⊢
    have his := fun W A c (hS : Sys W fb db mb k f) (hI : IntsIn W W.heap.size (.slice A a.dirs.length c) a.dirs) => isD_any fb db mb a ha W A c hS hI
    unfold BoolPost at his
    by_cases h1 : kindF f a.node = 1
    · rw [if_pos h1]
      rw [show decide (a.node ≠ 0 ∧ kindF f a.node = 1) = true from decide_eq_true ⟨hn2, h1⟩] at his
      have HISD := Lib.hid his
      clear hr h hp hkk his h1 hn1 hn2 hn3 hn4 ha
      go_enter Tryz.func18, Tryz.ntmps18
      go_wp2_with (first | (go_at_call 49; (with_reducible refine HI.out.mono ?_); rintro e w2 ⟨v, rfl, hi2, hb2⟩; unfold plV; obtain ⟨A, c, rfl⟩ := hi2.len; have HBA := Lib.hid (hb2.alloc hb2.size (.cells #[.slice A a.dirs.length c, .string (nm a.name), .int .i64 a.node, .bool a.slash] 92)); have HSA := Lib.hid (HS.out.below HBA.out); have HIA := Lib.hid ((hi2.below ((Below.refl _ _).alloc (Nat.le_refl _) (.cells #[.slice A a.dirs.length c, .string (nm a.name), .int .i64 a.node, .bool a.slash] 92))).more (show w2.heap.size ≤ (w2.alloc (.cells #[.slice A a.dirs.length c, .string (nm a.name), .int .i64 a.node, .bool a.slash] 92)).heap.size by simp)); have HBX := Lib.hid (heap_alloc_new w2 (.cells #[.slice A a.dirs.length c, .string (nm a.name), .int .i64 a.node, .bool a.slash] 92)); clear hi2 hb2) | (go_at_call 41; (with_reducible refine (HISD.out _ _ _ HSA.out HIA.out).mono ?_); rintro e w3 ⟨rfl, hb3⟩; have rb3 := (hb3.block _ (blk_lt HBX.out)).trans HBX.out; have HRB3 := Lib.hid rb3; have HB3 := Lib.hid (HBA.out.trans (hb3.mono HBA.out.size)); have HS3 := Lib.hid (HSA.out.below hb3); have HI3 := Lib.hid ((HIA.out.below hb3).more hb3.size); clear hb3 rb3; have q0 := cell_blk HRB3.out 0; have q1 := cell_blk HRB3.out 1; have q2 := cell_blk HRB3.out 2; have q3 := cell_blk HRB3.out 3; simp at q0 q1 q2 q3))
      go_ret
      exact ⟨rfl, HS3.out.live, kept_of_below HB3.out⟩
    · rw [if_neg h1]
      rw [show decide (a.node ≠ 0 ∧ kindF f a.node = 1) = false from decide_eq_false (fun h => h1 h.2)] at his
      have HISD := Lib.hid his
      have hrm : ∀ W A c, Sys W fb db mb k f → IntsIn W W.heap.size (.slice A a.dirs.length c) a.dirs → Calls Tryz.prog 50 #[.pointer (some ⟨fb, 0, none⟩), .agg #[.slice A a.dirs.length c, .string (nm a.name), .int .i64 a.node, .bool a.slash]] W fun e w' => e = .returned (.tuple #[]) ∧ Live w' fb db mb (removeF f a) ∧ Kept (Own3 fb db mb) W w' := fun W A c hS hI => remove_any fb db mb a _ W hS ha hI (by omega)
      have HRM := Lib.hid hrm
      clear hr h hp hkk his h1 hn1 hn2 hn3 hn4 ha hrm
      go_enter Tryz.func18, Tryz.ntmps18
      go_wp2_with (first | (go_at_call 49; (with_reducible refine HI.out.mono ?_); rintro e w2 ⟨v, rfl, hi2, hb2⟩; unfold plV; obtain ⟨A, c, rfl⟩ := hi2.len; have HBA := Lib.hid (hb2.alloc hb2.size (.cells #[.slice A a.dirs.length c, .string (nm a.name), .int .i64 a.node, .bool a.slash] 92)); have HSA := Lib.hid (HS.out.below HBA.out); have HIA := Lib.hid ((hi2.below ((Below.refl _ _).alloc (Nat.le_refl _) (.cells #[.slice A a.dirs.length c, .string (nm a.name), .int .i64 a.node, .bool a.slash] 92))).more (show w2.heap.size ≤ (w2.alloc (.cells #[.slice A a.dirs.length c, .string (nm a.name), .int .i64 a.node, .bool a.slash] 92)).heap.size by simp)); have HBX := Lib.hid (heap_alloc_new w2 (.cells #[.slice A a.dirs.length c, .string (nm a.name), .int .i64 a.node, .bool a.slash] 92)); clear hi2 hb2) | (go_at_call 41; (with_reducible refine (HISD.out _ _ _ HSA.out HIA.out).mono ?_); rintro e w3 ⟨rfl, hb3⟩; have rb3 := (hb3.block _ (blk_lt HBX.out)).trans HBX.out; have HRB3 := Lib.hid rb3; have HB3 := Lib.hid (HBA.out.trans (hb3.mono HBA.out.size)); have HS3 := Lib.hid (HSA.out.below hb3); have HI3 := Lib.hid ((HIA.out.below hb3).more hb3.size); clear hb3 rb3; have q0 := cell_blk HRB3.out 0; have q1 := cell_blk HRB3.out 1; have q2 := cell_blk HRB3.out 2; have q3 := cell_blk HRB3.out 3; simp at q0 q1 q2 q3) | (go_at_call 50; (with_reducible refine (HRM.out _ _ _ HS3.out HI3.out).mono ?_); rintro e w4 ⟨rfl, hl4, hk4⟩; have HL4 := Lib.hid hl4; have HK4 := Lib.hid ((kept_of_below HB3.out).trans hk4); clear hl4 hk4))
      go_ret
      exact ⟨rfl, HL4.out, HK4.out⟩
set_option maxRecDepth 100000 in
set_option maxHeartbeats 2000000 in
theorem rmdir_any {k : Nat} {f : Fs} (fb db mb : Nat) (p : ByteArray) (w : World) (h : Sys w fb db mb k f) (hp : p.size ≤ maxLen) (hkk : k < 800000) :
    Calls Tryz.prog 21 #[.pointer (some ⟨fb, 0, none⟩), .string p] w (WroteP fb db mb w (rmdirF f p.data.toList)) := by
  have HI := Lib.hid (namedThere_any fb db mb p w h hp)
  have HS := Lib.hid h
  unfold WroteP rmdirF
  cases hr : namedThereF f p.data.toList with
  | error x =>
    rw [hr] at HI
    unfold GonP at HI
    dsimp only at HI ⊢
    clear hr h hp hkk
    go_enter Tryz.func21, Tryz.ntmps21
    go_wp2_with (go_at_call 49; (with_reducible refine HI.out.mono ?_); rintro e w2 ⟨⟨A, n, c, nb, id, sl, rfl⟩, hx0, hb2⟩; have HX0 := Lib.hid hx0; have x1 : (x == 0) = false := beq_eq_false_iff_ne.2 hx0; have x2 : (x != 0) = true := bne_iff_ne.2 hx0; have HBA := Lib.hid (hb2.alloc hb2.size (.cells #[.slice A n c, .string nb, .int .i64 id, .bool sl] 92)); clear hx0 hb2)
    go_ret
    exact ⟨rfl, HS.out.live.below HBA.out, kept_of_below HBA.out⟩
  | ok a =>
    obtain ⟨ha, hn1, hn2, hn3, hn4⟩ := namedThere_ok h.ok hr
    rw [hr] at HI
    unfold GonP at HI
    dsimp only at HI ⊢
    have his := fun W A c (hS : Sys W fb db mb k f) (hI : IntsIn W W.heap.size (.slice A a.dirs.length c) a.dirs) => isD_any fb db mb a ha W A c hS hI
    unfold BoolPost at his
    by_cases h1 : kindF f a.node ≠ 1
    · rw [if_pos h1]
      rw [show decide (a.node ≠ 0 ∧ kindF f a.node = 1) = false from decide_eq_false (fun h => h1 h.2)] at his
      have HISD := Lib.hid his
      clear hr h hp hkk his h1 hn1 hn2 hn3 hn4 ha
      go_enter Tryz.func21, Tryz.ntmps21
      go_wp2_with (first | (go_at_call 49; (with_reducible refine HI.out.mono ?_); rintro e w2 ⟨v, rfl, hi2, hb2⟩; unfold plV; obtain ⟨A, c, rfl⟩ := hi2.len; have HBA := Lib.hid (hb2.alloc hb2.size (.cells #[.slice A a.dirs.length c, .string (nm a.name), .int .i64 a.node, .bool a.slash] 92)); have HSA := Lib.hid (HS.out.below HBA.out); have HIA := Lib.hid ((hi2.below ((Below.refl _ _).alloc (Nat.le_refl _) (.cells #[.slice A a.dirs.length c, .string (nm a.name), .int .i64 a.node, .bool a.slash] 92))).more (show w2.heap.size ≤ (w2.alloc (.cells #[.slice A a.dirs.length c, .string (nm a.name), .int .i64 a.node, .bool a.slash] 92)).heap.size by simp)); have HBX := Lib.hid (heap_alloc_new w2 (.cells #[.slice A a.dirs.length c, .string (nm a.name), .int .i64 a.node, .bool a.slash] 92)); clear hi2 hb2) | (go_at_call 41; (with_reducible refine (HISD.out _ _ _ HSA.out HIA.out).mono ?_); rintro e w3 ⟨rfl, hb3⟩; have rb3 := (hb3.block _ (blk_lt HBX.out)).trans HBX.out; have HRB3 := Lib.hid rb3; have HB3 := Lib.hid (HBA.out.trans (hb3.mono HBA.out.size)); have HS3 := Lib.hid (HSA.out.below hb3); have HI3 := Lib.hid ((HIA.out.below hb3).more hb3.size); clear hb3 rb3; have q0 := cell_blk HRB3.out 0; have q1 := cell_blk HRB3.out 1; have q2 := cell_blk HRB3.out 2; have q3 := cell_blk HRB3.out 3; simp at q0 q1 q2 q3))
      go_ret
      exact ⟨rfl, HS3.out.live, kept_of_below HB3.out⟩
    · rw [if_neg h1]
      have h1' : kindF f a.node = 1 := Classical.byContradiction fun hh => h1 hh
      rw [show decide (a.node ≠ 0 ∧ kindF f a.node = 1) = true from decide_eq_true ⟨hn2, h1'⟩] at his
      have HISD := Lib.hid his
      have hm := method_Entries
      obtain ⟨ev, hd⟩ := h.live.disk
      have HEN := Lib.hid (fun W (hW : Below w.heap.size w W) => entries_any db mb f.t ev a.node W (hd.below hW) (ha.node64 h.ok) (by have := h.ok.ncnt a.node; omega))
      unfold EntsPost at HEN
      have hrm : ∀ W A c, Sys W fb db mb k f → IntsIn W W.heap.size (.slice A a.dirs.length c) a.dirs → Calls Tryz.prog 50 #[.pointer (some ⟨fb, 0, none⟩), .agg #[.slice A a.dirs.length c, .string (nm a.name), .int .i64 a.node, .bool a.slash]] W fun e w' => e = .returned (.tuple #[]) ∧ Live w' fb db mb (removeF f a) ∧ Kept (Own3 fb db mb) W w' := fun W A c hS hI => remove_any fb db mb a _ W hS ha hI (by omega)
      have HRM := Lib.hid hrm
      have hel : ∀ n : Nat, (nod f.t.nodes a.node).es.length = n → ((0 : Int) < (n : Int)) = ((nod f.t.nodes a.node).es ≠ []) := fun n hn => by
        rw [← hn]
        simp [List.length_pos_iff]
      generalize (nod f.t.nodes a.node).es = es at *
      by_cases hne : es ≠ []
      · rw [if_pos hne]
        have hpos : (0 : Int) < (es.length : Int) := by have := List.length_pos_iff.2 hne; omega
        clear hr h hp hkk his h1 h1' hn1 hn2 hn3 hn4 ha hrm hel hne hd
        go_enter Tryz.func21, Tryz.ntmps21
        go_wp2_with (first | (go_at_call 49; (with_reducible refine HI.out.mono ?_); rintro e w2 ⟨v, rfl, hi2, hb2⟩; unfold plV; obtain ⟨A, c, rfl⟩ := hi2.len; have HBA := Lib.hid (hb2.alloc hb2.size (.cells #[.slice A a.dirs.length c, .string (nm a.name), .int .i64 a.node, .bool a.slash] 92)); have HSA := Lib.hid (HS.out.below HBA.out); have HIA := Lib.hid ((hi2.below ((Below.refl _ _).alloc (Nat.le_refl _) (.cells #[.slice A a.dirs.length c, .string (nm a.name), .int .i64 a.node, .bool a.slash] 92))).more (show w2.heap.size ≤ (w2.alloc (.cells #[.slice A a.dirs.length c, .string (nm a.name), .int .i64 a.node, .bool a.slash] 92)).heap.size by simp)); have HBX := Lib.hid (heap_alloc_new w2 (.cells #[.slice A a.dirs.length c, .string (nm a.name), .int .i64 a.node, .bool a.slash] 92)); clear hi2 hb2) | (go_at_call 41; (with_reducible refine (HISD.out _ _ _ HSA.out HIA.out).mono ?_); rintro e w3 ⟨rfl, hb3⟩; have rb3 := (hb3.block _ (blk_lt HBX.out)).trans HBX.out; have HRB3 := Lib.hid rb3; have HB3 := Lib.hid (HBA.out.trans (hb3.mono HBA.out.size)); have HS3 := Lib.hid (HSA.out.below hb3); have HI3 := Lib.hid ((HIA.out.below hb3).more hb3.size); clear hb3 rb3; have q0 := cell_blk HRB3.out 0; have q1 := cell_blk HRB3.out 1; have q2 := cell_blk HRB3.out 2; have q3 := cell_blk HRB3.out 3; simp at q0 q1 q2 q3))
        have c0 := cell_blk HS3.out.live.files 0
        simp at c0
        have l0 := blk_lt HS3.out.live.files
        have l1 := blk_lt HRB3.out
        have HE3 := Lib.hid HB3.out.drew
        have HRB4 : Hid (w3.drew.heap[_]? = some _) := Lib.hid HRB3.out
        go_region_with (go_at_call 197; (with_reducible refine (HEN.out _ HE3.out).mono ?_); rintro e w5 ⟨v5, rfl, hi5, hb5⟩; obtain ⟨A5, c5, rfl, -⟩ := ents_len hi5; have HB5 := Lib.hid (HE3.out.trans (hb5.mono HE3.out.size)); have rb5 := (hb5.block _ (blk_lt HRB4.out)).trans HRB4.out; have HRB5 := Lib.hid rb5; have HI5 := Lib.hid ((HI3.out.below ((Below.refl _ _).drew.trans hb5)).more hb5.size); have HS5 := Lib.hid (HS.out.below HB5.out); clear hi5 hb5 rb5)
        all_goals
          go_wp2
          go_ret
          exact ⟨rfl, HS.out.live.below HB5.out, kept_of_below HB5.out⟩
      · rw [if_neg hne]
        have hz : es = [] := Classical.byContradiction hne
        subst hz
        clear hr h hp hkk his h1 h1' hn1 hn2 hn3 hn4 ha hrm hel hne hd
        go_enter Tryz.func21, Tryz.ntmps21
        go_wp2_with (first | (go_at_call 49; (with_reducible refine HI.out.mono ?_); rintro e w2 ⟨v, rfl, hi2, hb2⟩; unfold plV; obtain ⟨A, c, rfl⟩ := hi2.len; have HBA := Lib.hid (hb2.alloc hb2.size (.cells #[.slice A a.dirs.length c, .string (nm a.name), .int .i64 a.node, .bool a.slash] 92)); have HSA := Lib.hid (HS.out.below HBA.out); have HIA := Lib.hid ((hi2.below ((Below.refl _ _).alloc (Nat.le_refl _) (.cells #[.slice A a.dirs.length c, .string (nm a.name), .int .i64 a.node, .bool a.slash] 92))).more (show w2.heap.size ≤ (w2.alloc (.cells #[.slice A a.dirs.length c, .string (nm a.name), .int .i64 a.node, .bool a.slash] 92)).heap.size by simp)); have HBX := Lib.hid (heap_alloc_new w2 (.cells #[.slice A a.dirs.length c, .string (nm a.name), .int .i64 a.node, .bool a.slash] 92)); clear hi2 hb2) | (go_at_call 41; (with_reducible refine (HISD.out _ _ _ HSA.out HIA.out).mono ?_); rintro e w3 ⟨rfl, hb3⟩; have rb3 := (hb3.block _ (blk_lt HBX.out)).trans HBX.out; have HRB3 := Lib.hid rb3; have HB3 := Lib.hid (HBA.out.trans (hb3.mono HBA.out.size)); have HS3 := Lib.hid (HSA.out.below hb3); have HI3 := Lib.hid ((HIA.out.below hb3).more hb3.size); clear hb3 rb3; have q0 := cell_blk HRB3.out 0; have q1 := cell_blk HRB3.out 1; have q2 := cell_blk HRB3.out 2; have q3 := cell_blk HRB3.out 3; simp at q0 q1 q2 q3))
        have c0 := cell_blk HS3.out.live.files 0
        simp at c0
        have l0 := blk_lt HS3.out.live.files
        have l1 := blk_lt HRB3.out
        have HE3 := Lib.hid HB3.out.drew
        have HRB4 : Hid (w3.drew.heap[_]? = some _) := Lib.hid HRB3.out
        go_region_with (go_at_call 197; (with_reducible refine (HEN.out _ HE3.out).mono ?_); rintro e w5 ⟨v5, rfl, hi5, hb5⟩; obtain ⟨A5, c5, rfl, -⟩ := ents_len hi5; have HB5 := Lib.hid (HE3.out.trans (hb5.mono HE3.out.size)); have rb5 := (hb5.block _ (blk_lt HRB4.out)).trans HRB4.out; have HRB5 := Lib.hid rb5; have HI5 := Lib.hid ((HI3.out.below ((Below.refl _ _).drew.trans hb5)).more hb5.size); have HS5 := Lib.hid (HS.out.below HB5.out); clear hi5 hb5 rb5)
        all_goals
          clear q0 q1 q2 q3
          have q0 := cell_blk HRB5.out 0
          have q1 := cell_blk HRB5.out 1
          have q2 := cell_blk HRB5.out 2
          have q3 := cell_blk HRB5.out 3
          simp at q0 q1 q2 q3
          go_wp2_with (go_at_call 50; (with_reducible refine (HRM.out _ _ _ HS5.out HI5.out).mono ?_); rintro e w6 ⟨rfl, hl4, hk4⟩; have HL4 := Lib.hid hl4; have HK4 := Lib.hid ((kept_of_below HB5.out).trans hk4); clear hl4 hk4)
          go_ret
          exact ⟨rfl, HL4.out, HK4.out⟩
end Go.Proofs.YtpicgkoclbpjpaaGreatDoor
end

section
namespace Go.Proofs.YtpicgkoclbpjpaaGreatDoor
open Go.RowKit Go.Sort Go.Lib Go.Shelf
open PathM TreeM VtM
set_option linter.unusedVariables false
attribute [local go_sem] cell_rg
attribute [local go_sem] cell_off
attribute [local go_sem] cell_far
set_option maxRecDepth 100000 in
set_option maxHeartbeats 2000000 in
theorem read_any {k : Nat} {f : Fs} (fb db mb : Nat) (p : ByteArray) (w : World) (h : Sys w fb db mb k f) (hp : p.size ≤ maxLen) :
    Calls Tryz.prog 12 #[.pointer (some ⟨fb, 0, none⟩), .string p] w fun e w' => e = .returned (.tuple #[.string (nm (readF f p.data.toList).1), .int .i64 (readF f p.data.toList).2]) ∧ Below w.heap.size w w' := by
  have HI := Lib.hid (there_any fb db mb p true w h hp)
  have HS := Lib.hid h
  unfold readF
  cases hr : thereF f p.data.toList true with
  | error x =>
    rw [hr] at HI
    unfold GonePost at HI
    dsimp only at HI ⊢
    clear hr h hp
    go_enter Tryz.func12, Tryz.ntmps12
    go_wp2_with (go_at_call 40; (with_reducible refine HI.out.mono ?_); rintro e w2 ⟨rfl, hx0, hb2⟩; have x1 : (x == 0) = false := beq_eq_false_iff_ne.2 hx0; have x2 : (x != 0) = true := bne_iff_ne.2 hx0; have HBA := Lib.hid (hb2.alloc hb2.size (.cells #[.slice none 0 0, .string { data := #[] }, .int .i64 0, .bool false] 92)); clear hx0 hb2)
    go_ret2
    exact ⟨rfl, HBA.out⟩
  | ok a =>
    obtain ⟨ha, hn4, hn2⟩ := there_ok h.ok hr
    rw [hr] at HI
    unfold GonePost at HI
    dsimp only at HI ⊢
    have his := fun W A c (hS : Sys W fb db mb k f) (hI : IntsIn W W.heap.size (.slice A a.dirs.length c) a.dirs) => isD_any fb db mb a ha W A c hS hI
    unfold BoolPost at his
    by_cases h1 : kindF f a.node = 1
    · rw [if_pos h1]
      rw [show decide (a.node ≠ 0 ∧ kindF f a.node = 1) = true from decide_eq_true ⟨hn2, h1⟩] at his
      have HISD := Lib.hid his
      clear hr h hp his h1 hn2 hn4 ha
      go_enter Tryz.func12, Tryz.ntmps12
      go_wp2_with (first | (go_at_call 40; (with_reducible refine HI.out.mono ?_); rintro e w2 ⟨v, rfl, hi2, hb2⟩; unfold plV; obtain ⟨A, c, rfl⟩ := hi2.len; have HBA := Lib.hid (hb2.alloc hb2.size (.cells #[.slice A a.dirs.length c, .string (nm a.name), .int .i64 a.node, .bool a.slash] 92)); have HSA := Lib.hid (HS.out.below HBA.out); have HIA := Lib.hid ((hi2.below ((Below.refl _ _).alloc (Nat.le_refl _) (.cells #[.slice A a.dirs.length c, .string (nm a.name), .int .i64 a.node, .bool a.slash] 92))).more (show w2.heap.size ≤ (w2.alloc (.cells #[.slice A a.dirs.length c, .string (nm a.name), .int .i64 a.node, .bool a.slash] 92)).heap.size by simp)); have HBX := Lib.hid (heap_alloc_new w2 (.cells #[.slice A a.dirs.length c, .string (nm a.name), .int .i64 a.node, .bool a.slash] 92)); clear hi2 hb2) | (go_at_call 41; (with_reducible refine (HISD.out _ _ _ HSA.out HIA.out).mono ?_); rintro e w3 ⟨rfl, hb3⟩; have rb3 := (hb3.block _ (blk_lt HBX.out)).trans HBX.out; have HRB3 := Lib.hid rb3; have HB3 := Lib.hid (HBA.out.trans (hb3.mono HBA.out.size)); have HS3 := Lib.hid (HSA.out.below hb3); have HI3 := Lib.hid ((HIA.out.below hb3).more hb3.size); clear hb3 rb3; have q0 := cell_blk HRB3.out 0; have q1 := cell_blk HRB3.out 1; have q2 := cell_blk HRB3.out 2; have q3 := cell_blk HRB3.out 3; simp at q0 q1 q2 q3))
      go_ret2
      exact ⟨rfl, HB3.out⟩
    · rw [if_neg h1]
      rw [show decide (a.node ≠ 0 ∧ kindF f a.node = 1) = false from decide_eq_false (fun h => h1 h.2)] at his
      have HISD := Lib.hid his
      have hm := method_Node
      have hfd := field_data
      obtain ⟨ev, hd⟩ := h.live.disk
      have HN := Lib.hid (fun W (hW : Below w.heap.size w W) => dnode_any db mb f.t ev a.node W (hd.below hW) (ha.node64 h.ok))
      generalize nod f.t.nodes a.node = nd at *
      unfold ndV at HN
      clear hr h hp his h1 hn2 hn4 ha hd
      go_enter Tryz.func12, Tryz.ntmps12
      go_wp2_with (first | (go_at_call 40; (with_reducible refine HI.out.mono ?_); rintro e w2 ⟨v, rfl, hi2, hb2⟩; unfold plV; obtain ⟨A, c, rfl⟩ := hi2.len; have HBA := Lib.hid (hb2.alloc hb2.size (.cells #[.slice A a.dirs.length c, .string (nm a.name), .int .i64 a.node, .bool a.slash] 92)); have HSA := Lib.hid (HS.out.below HBA.out); have HIA := Lib.hid ((hi2.below ((Below.refl _ _).alloc (Nat.le_refl _) (.cells #[.slice A a.dirs.length c, .string (nm a.name), .int .i64 a.node, .bool a.slash] 92))).more (show w2.heap.size ≤ (w2.alloc (.cells #[.slice A a.dirs.length c, .string (nm a.name), .int .i64 a.node, .bool a.slash] 92)).heap.size by simp)); have HBX := Lib.hid (heap_alloc_new w2 (.cells #[.slice A a.dirs.length c, .string (nm a.name), .int .i64 a.node, .bool a.slash] 92)); clear hi2 hb2) | (go_at_call 41; (with_reducible refine (HISD.out _ _ _ HSA.out HIA.out).mono ?_); rintro e w3 ⟨rfl, hb3⟩; have rb3 := (hb3.block _ (blk_lt HBX.out)).trans HBX.out; have HRB3 := Lib.hid rb3; have HB3 := Lib.hid (HBA.out.trans (hb3.mono HBA.out.size)); have HS3 := Lib.hid (HSA.out.below hb3); have HI3 := Lib.hid ((HIA.out.below hb3).more hb3.size); clear hb3 rb3; have q0 := cell_blk HRB3.out 0; have q1 := cell_blk HRB3.out 1; have q2 := cell_blk HRB3.out 2; have q3 := cell_blk HRB3.out 3; simp at q0 q1 q2 q3))
      have c0 := cell_blk HS3.out.live.files 0
      simp at c0
      have l0 := blk_lt HS3.out.live.files
      have l1 := blk_lt HRB3.out
      refine wp_region_quiet_below (by kernel_rfl) (by kernel_rfl) ?_
      repeat (first | go_big_quiet_step (((go_at_call 202; exact Calls.regrown_of (HN.out _ (HB3.out.trans ((below_regrown _ _ _).mono HB3.out.size)))))) | quiet_step (((go_at_call 202; exact Calls.regrown_of (HN.out _ (HB3.out.trans ((below_regrown _ _ _).mono HB3.out.size)))))))
      refine wpQuiet_nil ?_
      intro _ hw'
      obtain ⟨⟨dq, osq⟩, hw''⟩ := hw'
      subst hw''
      go_wp2
      go_ret2
      exact ⟨rfl, HB3.out.trans ((below_regrown _ _ _).mono HB3.out.size)⟩
end Go.Proofs.YtpicgkoclbpjpaaGreatDoor
end

section
namespace Go.Proofs.YtpicgkoclbpjpaaGreatDoor
open Go.RowKit Go.Sort Go.Lib Go.Shelf
open PathM TreeM VtM
set_option linter.unusedVariables false
attribute [local go_sem] cell_rg
attribute [local go_sem] cell_off
attribute [local go_sem] cell_far
set_option maxRecDepth 100000 in
set_option maxHeartbeats 2000000 in
theorem write_new {k : Nat} {f : Fs} (fb db mb : Nat) (p data : ByteArray) (how : Int) (w : World) (h : Sys w fb db mb k f) (hp : p.size ≤ maxLen) (hkk : k < 800000) (h1 : 1 ≤ how) (h3 : how ≤ 3) {a : At} (hf : findS f.t p.data.toList (decide (how ≠ 3)) = .ok a) (h0 : a.node = 0) (hsl : a.slash = false) (hd : data.data.toList.length ≤ 4096) :
    Calls Tryz.prog 13 #[.pointer (some ⟨fb, 0, none⟩), .string p, .string data, .int .i64 how] w (WroteP fb db mb w (writeF f p.data.toList data.data.toList how)) := by
  have hi := gone_any fb db mb p (decide (how ≠ 3)) w h hp
  have HN := Lib.hid (fnone_any fb db mb f _ h.live)
  have HS := Lib.hid h
  have hsz := sizeD data
  have ha := find_ok h.ok hf
  unfold WroteP writeF
  rw [if_neg (by omega), hf]
  dsimp only
  rw [if_neg (fun hh => hh.1 h0), if_neg (by rintro (⟨_, e⟩ | ⟨e, _⟩); rw [hsl] at e; cases e; exact e h0), if_neg (fun hh => hh h0), if_neg (by omega)]
  rw [hf] at hi
  unfold GonP at hi
  dsimp only at hi
  have hq : (how != 3) = decide (how ≠ 3) := by
    rw [Bool.eq_iff_iff]; simp
  rw [← hq] at hi
  have HI := Lib.hid hi
  have his := fun W A c (hS : Sys W fb db mb k f) (hI : IntsIn W W.heap.size (.slice A a.dirs.length c) a.dirs) => isD_any fb db mb a ha W A c hS hI
  unfold BoolPost at his
  rw [show decide (a.node ≠ 0 ∧ kindF f a.node = 1) = false from decide_eq_false (fun h => h.1 h0)] at his
  have hcr : ∀ W A c, Sys W fb db mb k f → IntsIn W W.heap.size (.slice A a.dirs.length c) a.dirs → Calls Tryz.prog 45 #[.pointer (some ⟨fb, 0, none⟩), .agg #[.slice A a.dirs.length c, .string (nm a.name), .int .i64 a.node, .bool a.slash], .agg #[.int .i64 0, .int .i64 2, .int .i64 420, .int .i64 0, .int .i64 0, .string data, .slice none 0 0]] W (WroteP fb db mb W (createF f a 2 420 data.data.toList)) := fun W A c hS hI => createF_any fb db mb a _ 2 420 data.data.toList W hS ha.in hI (by omega) hd hkk
  unfold WroteP at hcr
  rw [h0, hsl] at his hcr
  have HC := Lib.hid (show a.node = 0 ∧ a.slash = false from ⟨h0, hsl⟩)
  have HISD := Lib.hid his
  have HCR := Lib.hid hcr
  have hl2 : ¬ (4096 : Int) < (data.size : Int) := by omega
  have hn1 : ¬ how < 1 := by omega
  have hn3 : ¬ (3 : Int) < how := by omega
  clear hi hq his hcr h hp hkk hd hsz ha hf h0 hsl h1 h3
  go_enter Tryz.func13, Tryz.ntmps13
  go_wp2_with (first | (go_at_call 42; (with_reducible refine HN.out.mono ?_); rintro e w1 ⟨rfl, rfl⟩) | (go_at_call 43; (with_reducible refine HI.out.mono ?_); rintro e w2 ⟨v, rfl, hi2, hb2⟩; unfold plV; rw [HC.out.1, HC.out.2]; obtain ⟨A, c, rfl⟩ := hi2.len; have HBA := Lib.hid (hb2.alloc hb2.size (.cells #[.slice A a.dirs.length c, .string (nm a.name), .int .i64 0, .bool false] 92)); have HSA := Lib.hid (HS.out.below HBA.out); have HIA := Lib.hid ((hi2.below ((Below.refl _ _).alloc (Nat.le_refl _) (.cells #[.slice A a.dirs.length c, .string (nm a.name), .int .i64 0, .bool false] 92))).more (show w2.heap.size ≤ (w2.alloc (.cells #[.slice A a.dirs.length c, .string (nm a.name), .int .i64 0, .bool false] 92)).heap.size by simp)); have HBX := Lib.hid (heap_alloc_new w2 (.cells #[.slice A a.dirs.length c, .string (nm a.name), .int .i64 0, .bool false] 92)); clear hi2 hb2) | (go_at_call 41; (with_reducible refine (HISD.out _ _ _ HSA.out HIA.out).mono ?_); rintro e w3 ⟨rfl, hb3⟩; have rb3 := (hb3.block _ (blk_lt HBX.out)).trans HBX.out; have HRB3 := Lib.hid rb3; have HB3 := Lib.hid (HBA.out.trans (hb3.mono HBA.out.size)); have HS3 := Lib.hid (HSA.out.below hb3); have HI3 := Lib.hid ((HIA.out.below hb3).more hb3.size); clear hb3 rb3; have q0 := cell_blk HRB3.out 0; have q1 := cell_blk HRB3.out 1; have q2 := cell_blk HRB3.out 2; have q3 := cell_blk HRB3.out 3; simp at q0 q1 q2 q3) | (go_at_call 45; (with_reducible refine (HCR.out _ _ _ HS3.out HI3.out).mono ?_); rintro e w4 ⟨rfl, hl4, hk4⟩; have HL4 := Lib.hid hl4; have HK4 := Lib.hid ((kept_of_below HB3.out).trans hk4); clear hl4 hk4))
  go_ret
  exact ⟨rfl, HL4.out, HK4.out⟩
end Go.Proofs.YtpicgkoclbpjpaaGreatDoor
end
