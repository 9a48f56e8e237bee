/- DERIVED. The walk of the law TreeChecks. -/
import Derived.Test.YtgcoioejcnileaaDoorTreeLaw1
import Derived.Test.YtgcoioejcnileaaDoorTreeRChk
import Derived.Deep.RegionHeld3
namespace Go.Proofs.YtgcoioejcnileaaDoor
open Go.RowKit Go.Sort
open PathM TreeM
set_option linter.unusedVariables false

/-- The boxes of a tree and of a room, as they were laid; what was there before stays. -/
def CS (w : World) (a0 a1 a2 a3 r0 r1 : Value) (W : World) : Prop :=
  W.cell? ⟨w.heap.size, 0, none⟩ = some a0 ∧ W.cell? ⟨w.heap.size, 1, none⟩ = some a1 ∧ W.cell? ⟨w.heap.size, 2, none⟩ = some a2 ∧ W.cell? ⟨w.heap.size, 3, none⟩ = some a3 ∧
    W.cell? ⟨w.heap.size + 1, 0, none⟩ = some r0 ∧ W.cell? ⟨w.heap.size + 1, 1, none⟩ = some r1 ∧ Below w.heap.size w W ∧ w.heap.size + 1 < W.heap.size
theorem CS.next {w W W' : World} {a0 a1 a2 a3 r0 r1 : Value} (h : CS w a0 a1 a2 a3 r0 r1 W) (hb : Below W.heap.size W W') : CS w a0 a1 a2 a3 r0 r1 W' := by
  obtain ⟨h0, h1, h2, h3, h4, h5, h6, h7⟩ := h
  have hs := hb.size
  exact ⟨(hb.cell (p := ⟨w.heap.size, 0, none⟩) (by simp; omega)).trans h0, (hb.cell (p := ⟨w.heap.size, 1, none⟩) (by simp; omega)).trans h1, (hb.cell (p := ⟨w.heap.size, 2, none⟩) (by simp; omega)).trans h2, (hb.cell (p := ⟨w.heap.size, 3, none⟩) (by simp; omega)).trans h3,
    (hb.cell (p := ⟨w.heap.size + 1, 0, none⟩) (by simp; omega)).trans h4, (hb.cell (p := ⟨w.heap.size + 1, 1, none⟩) (by simp; omega)).trans h5, h6.trans (hb.mono (by omega)), by omega⟩
theorem CS.bel {w W : World} {a0 a1 a2 a3 r0 r1 : Value} (h : CS w a0 a1 a2 a3 r0 r1 W) : Below w.heap.size w W := h.2.2.2.2.2.2.1
theorem CS.made (w : World) (a0 a1 a2 a3 r0 r1 : Value) (s t : TypeId) : CS w a0 a1 a2 a3 r0 r1 ((w.alloc (.cells #[a0, a1, a2, a3] s)).alloc (.cells #[r0, r1] t)) := by
  have h1 := heap_alloc2_old w (.cells #[a0, a1, a2, a3] s) (.cells #[r0, r1] t)
  have h2 := heap_alloc2_new w (.cells #[a0, a1, a2, a3] s) (.cells #[r0, r1] t)
  exact ⟨(cell_blk h1 _).trans rfl, (cell_blk h1 _).trans rfl, (cell_blk h1 _).trans rfl, (cell_blk h1 _).trans rfl, (cell_blk h2 _).trans rfl, (cell_blk h2 _).trans rfl, ((Below.refl _ _).alloc (Nat.le_refl _) _).alloc (by simp) _, by simp⟩
theorem exact_new (v u : Value) (rn rb : Int) (w : World) (h : NodesIn w w.heap.size v (newT rn rb).nodes) (h' : NodesIn w w.heap.size u (newT rn rb).nodes) :
    Calls Tryd.prog 13 #[trV v (newT rn rb), trV u (newT rn rb)] w fun e w' => e = .returned (.bool true) ∧ Below w.heap.size w w' := by
  refine (rexact_any v u (newT rn rb) (newT rn rb) _ w h h' (Nat.le_refl _)).mono ?_
  rintro e w' ⟨rfl, hb⟩
  exact ⟨ret_bool (by simp), hb⟩

set_option maxHeartbeats 4000000 in
theorem checks_law (nv : Value) (t : Tr) (rn rb : Int) (B : Nat) (w : World) (hN : NodesIn w B nv t.nodes) (hB : B ≤ w.heap.size) :
    Calls Tryd.prog 3 #[trV nv t, .agg #[.int .i64 rn, .int .i64 rb]] w fun e w' => e = .returned (.bool true) ∧ Below w.heap.size w w' := by
  have hN0 := hN.more hB
  have hsm := fun W (hW : Below w.heap.size w W) => small_any nv t w.heap.size W (hN0.below hW) hW.size
  have hck := fun W (hW : Below w.heap.size w W) => check_any nv t w.heap.size W (hN0.below hW) hW.size
  have hrc := fun W (hW : Below w.heap.size w W) => rcheck_any nv t w.heap.size W (hN0.below hW) hW.size
  obtain ⟨A, c, rfl⟩ := nodes_len hN
  unfold BelowB at hsm
  generalize checkI t = ck at *
  cases hs : smallB t with
  | false =>
    rw [hs] at hsm
    have HSM := Lib.hid hsm
    clear hsm hck hrc hN hN0 hs
    unfold trV at *
    generalize t.nodes.length = n at *
    generalize t.last = la at *
    generalize t.rn = tn at *
    generalize t.rb = tb at *
    have h0 := CS.made w (.slice A n c) (.int .i64 la) (.int .i64 tn) (.int .i64 tb) (.int .i64 rn) (.int .i64 rb) 26 24
    have H0 := Lib.hid h0
    clear h0
    go_enter Tryd.func3, Tryd.ntmps3
    go_wp2_with (go_at_call 9; refine (HSM.out _ H0.out.bel).mono ?_; rintro e w1 ⟨rfl, hb1⟩; have H1 := Lib.hid (H0.out.next hb1); clear hb1)
    go_wp2_with (go_at_call 10; refine (awake_any _).mono ?_; rintro e w2 ⟨rfl, hb2⟩; have H2 := Lib.hid (H1.out.next hb2); clear hb2)
    go_ret
    exact ⟨rfl, H2.out.bel⟩
  | true =>
    rw [hs] at hsm
    have HSM := Lib.hid hsm; have HCK := Lib.hid hck; have HRC := Lib.hid hrc
    clear hsm hck hrc hN hN0 hs
    unfold trV at HSM HCK HRC ⊢
    generalize t.nodes.length = n at *
    generalize t.last = la at *
    generalize t.rn = tn at *
    generalize t.rb = tb at *
    have h0 := CS.made w (.slice A n c) (.int .i64 la) (.int .i64 tn) (.int .i64 tb) (.int .i64 rn) (.int .i64 rb) 26 24
    have H0 := Lib.hid h0
    clear h0
    go_enter Tryd.func3, Tryd.ntmps3
    go_wp2_with (go_at_call 9; refine (HSM.out _ H0.out.bel).mono ?_; rintro e w1 ⟨rfl, hb1⟩; have H1 := Lib.hid (H0.out.next hb1); clear hb1)
    have h1 : CS w (.slice A n c) (.int .i64 la) (.int .i64 tn) (.int .i64 tb) (.int .i64 rn) (.int .i64 rb) w1.drew := H1.out.next ((Below.refl _ _).drew)
    have K1 := Lib.hid h1
    obtain ⟨c0, c1, c2, c3, c4, c5, c6, c7⟩ := h1
    go_region_held3 (fun w' => w'.cell? ⟨w.heap.size, 0, none⟩ = some (.slice A n c) ∧ w'.cell? ⟨w.heap.size, 1, none⟩ = some (.int .i64 la) ∧ w'.cell? ⟨w.heap.size, 2, none⟩ = some (.int .i64 tn) ∧ w'.cell? ⟨w.heap.size, 3, none⟩ = some (.int .i64 tb) ∧ w'.cell? ⟨w.heap.size + 1, 0, none⟩ = some (.int .i64 rn) ∧ w'.cell? ⟨w.heap.size + 1, 1, none⟩ = some (.int .i64 rb) ∧ Below w.heap.size w w' ∧ w.heap.size + 1 < w'.heap.size)
      (first | exact K1.out | exact K2.out | exact K3.out | exact K4.out | exact K5.out | exact K6.out | exact K7.out)
      (first
        | (go_at_call 11; refine (HCK.out w1.drew K1.out.bel).mono ?_; rintro e w2 ⟨rfl, hb2⟩; have K2 := Lib.hid (K1.out.next hb2); clear hb2)
        | (go_at_call 12; refine (HRC.out w2 K2.out.bel).mono ?_; rintro e w3 ⟨rfl, hb3⟩; have K3 := Lib.hid (K2.out.next hb3); clear hb3)
        | (go_at_call 14; refine (new_any rn rb w3).mono ?_; rintro e w4 ⟨nv4, rfl, hN4, hb4⟩; have K4 := Lib.hid (K3.out.next hb4); have HN4 := Lib.hid hN4; clear hb4 hN4)
        | (go_at_call 15; refine (rnew_any rn rb w4).mono ?_; rintro e w5 ⟨nv5, rfl, hN5, hb5⟩; have K5 := Lib.hid (K4.out.next hb5); have HN5 := Lib.hid hN5; have HN4' := Lib.hid ((HN4.out.below hb5).more hb5.size); clear hb5 hN5)
        | (go_at_call 13; refine (exact_new nv4 nv5 rn rb w5 HN4'.out HN5.out).mono ?_; rintro e w6 ⟨rfl, hb6⟩; have K6 := Lib.hid (K5.out.next hb6); clear hb6)
        | (go_at_call 10; refine (awake_any w6).mono ?_; rintro e w7 ⟨rfl, hb7⟩; have K7 := Lib.hid (K6.out.next hb7); clear hb7))
    go_wp2
    go_ret
    exact ⟨rfl, K7.out.bel⟩

theorem checks_row (nv : Value) (t : Tr) (rn rb : Int) (w : World) (hN : NodesIn w w.heap.size nv t.nodes) :
    Calls Tryd.prog 3 #[trV nv t, .agg #[.int .i64 rn, .int .i64 rb]] w fun e w' => e = .returned (.bool true) ∧ Below w.heap.size w w' :=
  checks_law nv t rn rb _ w hN (Nat.le_refl _)

end Go.Proofs.YtgcoioejcnileaaDoor
