/- DERIVED. The walk of the law TreePaths. -/
import Derived.Test.YtgcoioejcnileaaDoorTreeSame2
namespace Go.Proofs.YtgcoioejcnileaaDoor
open Go.RowKit Go.Sort
open PathM TreeM
set_option linter.unusedVariables false

set_option maxHeartbeats 8000000 in
theorem paths_law (nv : Value) (t : Tr) (id : Int) (B : Nat) (w : World) (hN : NodesIn w B nv t.nodes) (hB : B ≤ w.heap.size) (hid : -9223372036854775808 ≤ id ∧ id ≤ 9223372036854775807) :
    Calls Tryd.prog 5 #[trV nv t, .int .i64 id] w fun e w' => e = .returned (.bool true) ∧ Below w.heap.size w w' := by
  have hN0 := hN.more hB
  have hsm := fun W (hW : Below w.heap.size w W) => small_any nv t w.heap.size W (hN0.below hW) hW.size
  unfold BelowB at hsm
  have hc1 : ∀ tv : Array Value, C1 w tv (w.alloc (.cells tv 26)) := fun tv => ⟨heap_alloc_new w _, (Below.refl _ _).alloc (Nat.le_refl _) _⟩
  cases hs : smallB t with
  | false =>
    obtain ⟨A, c, rfl⟩ := nodes_len hN
    rw [hs] at hsm
    have HSM := Lib.hid hsm
    clear hsm hN hN0 hs
    unfold trV at *
    generalize t.nodes.length = n at *
    generalize t.last = la at *
    generalize t.rn = tn at *
    generalize t.rb = tb at *
    have H0 := Lib.hid (hc1 #[.slice A n c, .int .i64 la, .int .i64 tn, .int .i64 tb])
    clear hc1
    go_enter Tryd.func5, Tryd.ntmps5
    go_wp2_with (go_at_call 9; refine (HSM.out _ H0.out.2).mono ?_; rintro e w1 ⟨rfl, hb1⟩; have H1 := Lib.hid (H0.out.next hb1); clear hb1)
    go_wp2_with (go_at_call 10; refine (awake_any _).mono ?_; rintro e w2 ⟨rfl, hb2⟩; have H2 := Lib.hid (H1.out.next hb2); clear hb2)
    go_ret
    exact ⟨rfl, H2.out.2⟩
  | true =>
    rw [hs] at hsm
    have hpa := fun W (hW : Below w.heap.size w W) => path_any nv t id w.heap.size W (hN0.below hW) hW.size hid
    have hrpa := fun W (hW : Below w.heap.size w W) => rpath_any nv t id w.heap.size W (hN0.below hW) hW.size
    have hca := fun W (hW : Below w.heap.size w W) => canon_any nv t w.heap.size W (hN0.below hW) hW.size
    have hrca := fun W (hW : Below w.heap.size w W) => rcanon_any nv t w.heap.size W (hN0.below hW) hW.size
    have hex := fun v u W B' h1 h2 h3 => rexact_any v u (canonR t) (canonR t) B' W h1 h2 h3
    have hdd : decide (canonR t = canonR t) = true := by simp
    rw [hdd] at hex
    unfold BelowB at hex
    unfold CanonPost at hca hrca
    obtain ⟨A, c, rfl⟩ := nodes_len hN
    have HSM := Lib.hid hsm; have HPA := Lib.hid hpa; have HRPA := Lib.hid hrpa; have HCA := Lib.hid hca; have HRCA := Lib.hid hrca; have HEX := Lib.hid hex
    clear hsm hpa hrpa hca hrca hex hN hN0 hs hid hdd
    unfold trV at *
    generalize nm (pathI t id).1 = P at *
    generalize (pathI t id).2 = pok at *
    generalize checkI t = ck at *
    generalize canonR t = cr at *
    generalize t.nodes.length = n at *
    generalize t.last = la at *
    generalize t.rn = tn at *
    generalize t.rb = tb at *
    have H0 := Lib.hid (hc1 #[.slice A n c, .int .i64 la, .int .i64 tn, .int .i64 tb])
    clear hc1
    go_enter Tryd.func5, Tryd.ntmps5
    go_wp2_with (go_at_call 9; refine (HSM.out _ H0.out.2).mono ?_; rintro e w1 ⟨rfl, hb1⟩; have H1 := Lib.hid (H0.out.next hb1); obtain ⟨d0, d1, d2, d3⟩ := H1.out.cells; clear hb1)
    go_wp2_with fail
    refine (HPA.out _ H1.out.2).mono ?_
    rintro e w2 ⟨rfl, hb2⟩
    have H2 := Lib.hid (H1.out.next hb2)
    obtain ⟨e0, e1, e2, e3⟩ := H2.out.cells
    clear hb2
    go_wp2_with fail
    refine (HRPA.out _ H2.out.2).mono ?_
    rintro e w3 ⟨rfl, hb3⟩
    have H3 := Lib.hid (H2.out.next hb3)
    obtain ⟨i0, i1, i2, i3⟩ := H3.out.cells
    clear hb3
    go_wp2_with fail
    refine (HCA.out _ H3.out.2).mono ?_
    rintro e w4 ⟨v4, rfl, hN4, hb4⟩
    obtain ⟨A4, c4, rfl⟩ := nodes_len hN4
    have H4 := Lib.hid (H3.out.next hb4)
    obtain ⟨j0, j1, j2, j3⟩ := H4.out.cells
    have hl4 : w.heap.size < w4.heap.size := fin_at H4.out.1
    have HN4 := Lib.hid hN4
    clear hb4 hN4
    go_wp2_with fail
    refine (HRCA.out _ (H4.out.next (below_alloc _ _)).2).mono ?_
    rintro e w5 ⟨v5, rfl, hN5, hb5⟩
    obtain ⟨A5, c5, rfl⟩ := nodes_len hN5
    have hA4 := (hb5.block _ (alloc_lt w4 _)).trans (heap_alloc_new w4 _)
    have H5 := Lib.hid ((H4.out.next (below_alloc _ _)).next hb5)
    have HN4b := Lib.hid (HN4.out.below ((below_alloc w4 _).trans (hb5.mono (Nat.le_of_lt (alloc_lt _ _)))))
    have hs45 : w4.heap.size < w5.heap.size := fin_at hA4
    have HN5 := Lib.hid hN5
    have HA4b := Lib.hid (blk_next hA4 (below_alloc w5 (.cells #[.slice A5 cr.nodes.length c5, .int .i64 cr.last, .int .i64 cr.rn, .int .i64 cr.rb] 26)))
    have HA5 := Lib.hid (heap_alloc_new w5 (.cells #[.slice A5 cr.nodes.length c5, .int .i64 cr.last, .int .i64 cr.rn, .int .i64 cr.rb] 26))
    have H6 := Lib.hid (H5.out.next (below_alloc w5 (.cells #[.slice A5 cr.nodes.length c5, .int .i64 cr.last, .int .i64 cr.rn, .int .i64 cr.rb] 26)))
    obtain ⟨l0, l1, l2, l3⟩ := four_cells HA4b.out
    obtain ⟨m0, m1, m2, m3⟩ := four_cells HA5.out
    clear hb5 hN5 hA4
    go_wp2_with fail
    refine (HEX.out _ _ _ w5.heap.size ((HN4b.out.more (Nat.le_of_lt hs45)).below (below_alloc w5 _)) (HN5.out.below (below_alloc w5 _)) (Nat.le_of_lt (alloc_lt _ _))).mono ?_
    rintro e w6 ⟨rfl, hb6⟩
    have H7 := Lib.hid (H6.out.next hb6)
    clear hb6
    go_wp2_with (go_at_call 10; refine (awake_any _).mono ?_; rintro e w7 ⟨rfl, hb7⟩; have H8 := Lib.hid (H7.out.next hb7); clear hb7)
    go_ret
    exact ⟨rfl, H8.out.2⟩

theorem paths_row (nv : Value) (t : Tr) (id : Int) (w : World) (hN : NodesIn w w.heap.size nv t.nodes) (h1 : -9223372036854775808 ≤ id) (h2 : id ≤ 9223372036854775807) :
    Calls Tryd.prog 5 #[trV nv t, .int .i64 id] w fun e w' => e = .returned (.bool true) ∧ Below w.heap.size w w' :=
  paths_law nv t id _ w hN (Nat.le_refl _) ⟨h1, h2⟩

end Go.Proofs.YtgcoioejcnileaaDoor
