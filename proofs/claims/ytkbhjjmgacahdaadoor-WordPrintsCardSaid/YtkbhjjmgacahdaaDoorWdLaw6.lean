/- DERIVED. The walk over the law WordPrints. -/
import Derived.Test.YtkbhjjmgacahdaaDoorWdWr
import Derived.Test.YtkbhjjmgacahdaaDoorWdRSc
import Derived.Test.YtkbhjjmgacahdaaDoorWdAwake
namespace Go.Proofs.YtkbhjjmgacahdaaDoor.Wd
open Go.RowKit
open PathM WdM
set_option linter.unusedVariables false

theorem rs_any (d : Nat) (v : Value) (l : List PT) (w : World) (hv : PA d w v l) (hp : PBd l) : Calls Tryd.prog 4 #[v, .int .i64 0] w fun e w' => e = .returned (.int .i64 (sizeF 41 l : Int)) ∧ ∃ k, w' = w.drewN k :=
  rsize_any 41 0 rfl d v l w _ 0 rfl hv hp
set_option maxRecDepth 100000 in
set_option maxHeartbeats 3200000 in
theorem prints_law (d d' : Nat) (v u : Value) (l l2 : List PT) (w : World) (hv : PA d w v l) (hu : PA d' w u l2) (hpl : PBd l) (hpu : PBd l2) (hz : Z0 w) (h0 : 0 < w.heap.size) :
    Calls Tryd.prog 3 #[v, u] w fun e w' => e = .returned (.bool true) ∧ Below w.heap.size w w' := by
  obtain ⟨A, c, rfl, _⟩ := PIn.shape hv
  obtain ⟨A2, c2, rfl, _⟩ := PIn.shape hu
  have HS1 := Lib.hid (rs_any d _ l w hv hpl)
  have HS2 := Lib.hid (fun k => rs_any d' _ l2 (w.drewN k) (PIn.drewN hu k) hpu)
  have HV := Lib.hid hv
  have HU := Lib.hid hu
  have HPL := Lib.hid hpl
  have HZ0 := Lib.hid hz
  have HTX : Hid (sizeF 41 l ≤ 2000 → (rText l).length ≤ 100000) := Lib.hid (fun h => by have := sizeF_text 41 l (by omega); omega)
  clear hv hu hpl hpu hz
  obtain ⟨z1, hz1⟩ : ∃ z1, sizeF 41 l = z1 := ⟨_, rfl⟩
  obtain ⟨z2, hz2⟩ : ∃ z2, sizeF 41 l2 = z2 := ⟨_, rfl⟩
  rw [hz1] at HS1 HTX
  rw [hz2] at HS2
  clear hz1 hz2
  obtain ⟨n, hn⟩ : ∃ n, n = l.length := ⟨_, rfl⟩
  obtain ⟨n2, hn2⟩ : ∃ n2, n2 = l2.length := ⟨_, rfl⟩
  rw [← hn] at HV HS1 ⊢
  rw [← hn2] at HU HS2 ⊢
  clear hn hn2
  by_cases c1 : 2000 < z1
  · have c1i : (2000 : Int) < (z1 : Int) := by omega
    clear c1
    go_enter Tryd.func3, Tryd.ntmps3
    go_wp2_with fail
    refine HS1.out.mono ?_
    rintro e w1 ⟨rfl, k1, rfl⟩
    go_wp2_with fail
    refine (awake_any _).mono ?_
    rintro e w2 ⟨rfl, hb2⟩
    have HB := Lib.hid ((below_drewN' (Below.refl w.heap.size w) k1).trans hb2)
    clear hb2
    go_wp2_with fail
    go_ret
    exact ⟨rfl, HB.out⟩
  have c1i : ¬ (2000 : Int) < (z1 : Int) := by omega
  have HT := Lib.hid (HTX.out (by omega))
  by_cases c2 : 2000 < z2
  · have c2i : (2000 : Int) < (z2 : Int) := by omega
    clear c1 c2
    go_enter Tryd.func3, Tryd.ntmps3
    go_wp2_with fail
    refine HS1.out.mono ?_
    rintro e w1 ⟨rfl, k1, rfl⟩
    go_wp2_with fail
    refine (HS2.out k1).mono ?_
    rintro e w1 ⟨rfl, k2, rfl⟩
    go_wp2_with fail
    refine (awake_any _).mono ?_
    rintro e w2 ⟨rfl, hb2⟩
    have HB := Lib.hid ((below_drewN' (Below.refl w.heap.size w) (k1 + k2)).trans hb2)
    clear hb2
    go_wp2_with fail
    go_ret
    exact ⟨rfl, HB.out⟩
  have c2i : ¬ (2000 : Int) < (z2 : Int) := by omega
  clear c1 c2 HTX
  obtain ⟨b, hb⟩ : ∃ b, sameL l l2 = b := ⟨_, rfl⟩
  have HSB := Lib.hid hb
  have hbb : (b == b) = true := by simp
  clear hb
  go_enter Tryd.func3, Tryd.ntmps3
  go_wp2_with fail
  refine HS1.out.mono ?_
  rintro e w1 ⟨rfl, k1, rfl⟩
  go_wp2_with fail
  refine (HS2.out k1).mono ?_
  rintro e w1 ⟨rfl, k2, rfl⟩
  have HB0 := Lib.hid (below_drewN' (below_drewN' (Below.refl w.heap.size w) k1) k2)
  have HV0 := Lib.hid (PIn.drewN (PIn.drewN HV.out k1) k2)
  have HU0 := Lib.hid (PIn.drewN (PIn.drewN HU.out k1) k2)
  have HP0 := Lib.hid (pprint_any d _ l ((w.drewN k1).drewN k2) HV0.out (HZ0.out.below HB0.out h0) (show 0 < w.heap.size from h0) HPL.out HT.out)
  clear HS1 HS2 HV HU
  rw [print_eq] at HP0
  have HRP : Hid (∀ W, PA d W (.slice A n c) l → Calls Tryd.prog 7 #[.slice A n c] W fun e w' => e = .returned (prV (rPrint l)) ∧ Below W.heap.size W w') := Lib.hid (fun W h => rprint d _ l W h HT.out)
  generalize hw3 : (w.drewN k1).drewN k2 = w3 at *
  clear hw3 HZ0
  obtain ⟨m, hm⟩ : ∃ m, rPrint l = m := ⟨_, rfl⟩
  rw [hm] at HP0 HRP
  clear hm
  cases m with
  | none =>
    rw [show prV none = .tuple #[.string ⟨#[]⟩, .int .i64 1] from rfl] at HP0 HRP
    go_wp2_with fail
    refine HP0.out.mono ?_
    rintro e w4 ⟨rfl, hb4⟩
    have HB4 := Lib.hid (HB0.out.trans (hb4.mono HB0.out.size))
    have HV4 := Lib.hid (HV0.out.below hb4)
    have HU4 := Lib.hid (PIn.below hb4 HU0.out)
    clear hb4 HB0 HV0 HU0 HP0
    go_wp2_with fail
    refine (HRP.out w4 HV4.out).mono ?_
    rintro e w5 ⟨rfl, hb5⟩
    have HB5 := Lib.hid (HB4.out.trans (hb5.mono HB4.out.size))
    have HV5 := Lib.hid (PIn.below hb5 HV4.out)
    have HU5 := Lib.hid (PIn.below hb5 HU4.out)
    clear hb5 HB4 HV4 HU4 HRP
    have h5 := same_any d d' _ _ l l2 w5 _ _ HV5.out HU5.out
    rw [HSB.out] at h5
    have H5 : Hid (Calls Tryd.prog 8 #[.slice A n c, .slice A2 n2 c2] w5 fun e w' => e = .returned (.bool b) ∧ Below w5.heap.size w5 w') := Lib.hid h5
    clear h5
    go_wp2_with fail
    refine H5.out.mono ?_
    rintro e w6 ⟨rfl, hb6⟩
    have HB6 := Lib.hid (HB5.out.trans (hb6.mono HB5.out.size))
    have HV6 := Lib.hid (PIn.below hb6 HV5.out)
    have HU6 := Lib.hid (PIn.below hb6 HU5.out)
    clear hb6 HB5 HV5 HU5 H5
    have h6 := rsame_any d d' _ _ l l2 w6 _ _ HV6.out HU6.out
    rw [HSB.out] at h6
    have H6 := Lib.hid h6
    clear h6
    go_wp2_with fail
    refine H6.out.mono ?_
    rintro e w7 ⟨rfl, k7, rfl⟩
    have HB7 := Lib.hid (below_drewN' HB6.out k7)
    have HV7 := Lib.hid (PIn.drewN HV6.out k7)
    clear HB6 HV6 HU6 H6 HSB
    generalize w6.drewN k7 = w7 at *
    have h7 := same_any d d _ _ l l w7 _ _ HV7.out HV7.out
    rw [sameL_refl] at h7
    have H7 : Hid (Calls Tryd.prog 8 #[.slice A n c, .slice A n c] w7 fun e w' => e = .returned (.bool true) ∧ Below w7.heap.size w7 w') := Lib.hid h7
    clear h7
    go_wp2_with fail
    refine H7.out.mono ?_
    rintro e w8 ⟨rfl, hb8⟩
    have HB8 := Lib.hid (HB7.out.trans (hb8.mono HB7.out.size))
    clear hb8 HB7 HV7 H7
    go_wp2_with fail
    refine (awake_any _).mono ?_
    rintro e w9 ⟨rfl, hb9⟩
    have HB9 := Lib.hid (HB8.out.trans (hb9.mono HB8.out.size))
    clear hb9 HB8
    go_wp2_with fail
    go_ret
    exact ⟨rfl, HB9.out⟩
  | some s =>
    rw [show prV (some s) = .tuple #[.string (nm s), .int .i64 0] from rfl] at HP0 HRP
    generalize nm s = sb at *
    have hss : (sb.toList == sb.toList) = true := by simp
    go_wp2_with fail
    refine HP0.out.mono ?_
    rintro e w4 ⟨rfl, hb4⟩
    have HB4 := Lib.hid (HB0.out.trans (hb4.mono HB0.out.size))
    have HV4 := Lib.hid (HV0.out.below hb4)
    have HU4 := Lib.hid (PIn.below hb4 HU0.out)
    clear hb4 HB0 HV0 HU0 HP0
    go_wp2_with fail
    refine (HRP.out w4 HV4.out).mono ?_
    rintro e w5 ⟨rfl, hb5⟩
    have HB5 := Lib.hid (HB4.out.trans (hb5.mono HB4.out.size))
    have HV5 := Lib.hid (PIn.below hb5 HV4.out)
    have HU5 := Lib.hid (PIn.below hb5 HU4.out)
    clear hb5 HB4 HV4 HU4 HRP
    have h5 := same_any d d' _ _ l l2 w5 _ _ HV5.out HU5.out
    rw [HSB.out] at h5
    have H5 : Hid (Calls Tryd.prog 8 #[.slice A n c, .slice A2 n2 c2] w5 fun e w' => e = .returned (.bool b) ∧ Below w5.heap.size w5 w') := Lib.hid h5
    clear h5
    go_wp2_with fail
    refine H5.out.mono ?_
    rintro e w6 ⟨rfl, hb6⟩
    have HB6 := Lib.hid (HB5.out.trans (hb6.mono HB5.out.size))
    have HV6 := Lib.hid (PIn.below hb6 HV5.out)
    have HU6 := Lib.hid (PIn.below hb6 HU5.out)
    clear hb6 HB5 HV5 HU5 H5
    have h6 := rsame_any d d' _ _ l l2 w6 _ _ HV6.out HU6.out
    rw [HSB.out] at h6
    have H6 := Lib.hid h6
    clear h6
    go_wp2_with fail
    refine H6.out.mono ?_
    rintro e w7 ⟨rfl, k7, rfl⟩
    have HB7 := Lib.hid (below_drewN' HB6.out k7)
    have HV7 := Lib.hid (PIn.drewN HV6.out k7)
    clear HB6 HV6 HU6 H6 HSB
    generalize w6.drewN k7 = w7 at *
    have h7 := same_any d d _ _ l l w7 _ _ HV7.out HV7.out
    rw [sameL_refl] at h7
    have H7 : Hid (Calls Tryd.prog 8 #[.slice A n c, .slice A n c] w7 fun e w' => e = .returned (.bool true) ∧ Below w7.heap.size w7 w') := Lib.hid h7
    clear h7
    go_wp2_with fail
    refine H7.out.mono ?_
    rintro e w8 ⟨rfl, hb8⟩
    have HB8 := Lib.hid (HB7.out.trans (hb8.mono HB7.out.size))
    clear hb8 HB7 HV7 H7
    go_wp2_with fail
    refine (awake_any _).mono ?_
    rintro e w9 ⟨rfl, hb9⟩
    have HB9 := Lib.hid (HB8.out.trans (hb9.mono HB8.out.size))
    clear hb9 HB8
    go_wp2_with fail
    go_ret
    exact ⟨rfl, HB9.out⟩
end Go.Proofs.YtkbhjjmgacahdaaDoor.Wd

/- DERIVED. The law WordPrints as its row wants it. -/
namespace Go.Proofs.YtkbhjjmgacahdaaDoor.Wd
open Go.RowKit
open PathM WdM
theorem prints_row (d : Nat) (v : Value) (l : List PT) (d' : Nat) (u : Value) (l2 : List PT) (w : World) (hv : PIn d w (fun _ => True) v l) (hpl : PBd l) (hu : PIn d' w (fun _ => True) u l2) (hpu : PBd l2) (hz : ∃ m, w.cell? ⟨0, 0, none⟩ = some (.int .i64 m)) :
    Calls Tryd.prog 3 #[v, u] w fun e w' => e = .returned (.bool true) ∧ Below w.heap.size w w' :=
  prints_law d d' v u l l2 w hv hu hpl hpu hz (by obtain ⟨m, h⟩ := hz; have := World.block_lt_of_cell? _ _ h; exact this)
end Go.Proofs.YtkbhjjmgacahdaaDoor.Wd
