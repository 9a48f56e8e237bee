/- DERIVED. The law ArithGroups walked. -/
import Derived.Test.YtdegkfnlafgheaaDoorArAwk
import Derived.Test.YtdegkfnlafgheaaDoorArLawB
import Derived.Test.YtdegkfnlafgheaaDoorNumRef2
namespace Go.Proofs.YtdegkfnlafgheaaDoor.Ar
open Go.RowKit
open PathM WdM ArM
open Go.Proofs.YtdegkfnlafgheaaDoor.Wd
open Go.Proofs.YtdegkfnlafgheaaDoor.NumM (textL)
set_option linter.unusedVariables false

/-- Eval where the model has no error. -/
theorem eval_ok (s : Bs) (vs vs' : Vs) (v : Value) (n : Int) (w : World) (hg : SigIn w) (hv : VaIn w v vs) (hl : s.length ≤ 8192) (h : evalL s vs = .ok (n, vs')) :
    Calls Tryd.prog 8 #[.string (nm s), v] w fun e w' => Below w.heap.size w w' ∧ ∃ v', e = .returned (.tuple #[.int .i64 n, v', .int .i64 0]) ∧ VaIn w' v' vs' := by
  have := eval_any s vs v w hg hv (by omega)
  rw [h] at this
  refine this.mono ?_
  rintro e w' ⟨hb, _, v', he, hv, _⟩
  exact ⟨hb, v', he, hv⟩
theorem grp_len : ∀ k, k < 10 → (grpS.getD k []).length ≤ 8192 := by decide
def grpC : Array Value := #[.string ⟨#[40, 97, 43, 98, 41, 43, 99]⟩, .string ⟨#[97, 43, 40, 99, 43, 98, 41]⟩, .string ⟨#[97, 42, 98, 42, 99]⟩, .string ⟨#[99, 42, 40, 97, 42, 98, 41]⟩, .string ⟨#[97, 42, 40, 98, 43, 99, 41]⟩, .string ⟨#[97, 42, 98, 43, 97, 42, 99]⟩, .string ⟨#[97, 45, 40, 98, 45, 99, 41]⟩, .string ⟨#[97, 45, 98, 43, 99]⟩, .string ⟨#[45, 97]⟩, .string ⟨#[126, 97, 43, 49]⟩]
theorem grpC_at : ∀ k, k < 10 → grpC[k]? = some (.string (nm (grpS.getD k [])))
  | 0, _ => rfl | 1, _ => rfl | 2, _ => rfl | 3, _ => rfl | 4, _ => rfl | 5, _ => rfl | 6, _ => rfl | 7, _ => rfl | 8, _ => rfl | 9, _ => rfl
  | n + 10, h => absurd h (by omega)
/-- Where the variables and the texts lie. -/
def GrQ (w : World) (V3 : Vs) (W : World) : Prop := VaIn W (.slice (some ⟨w.heap.size, 0, none⟩) 3 3) V3 ∧ Below w.heap.size w W ∧ (∀ k, k < 10 → W.cell? ⟨w.heap.size + 1, k, none⟩ = some (.string (nm (grpS.getD k [])))) ∧ w.heap.size < W.heap.size ∧ w.heap.size + 1 < W.heap.size
theorem va_three (W : World) (b : Nat) (x y z : Bs × Bs) (t : TypeId) (h : W.heap[b]? = some (.cells #[.string (nm x.1), .string (nm x.2), .string (nm y.1), .string (nm y.2), .string (nm z.1), .string (nm z.2)] t (0, 0))) (hs : SizesV [x, y, z]) : VaIn W (.slice (some ⟨b, 0, none⟩) 3 3) [x, y, z] := by
  refine ⟨_, 3, rfl, ⟨by simp, hs⟩, fun _ => ⟨b, 0, rfl, fin_at h, ?_⟩⟩
  intro i hi
  match i, hi with
  | 0, _ => exact ⟨cell_blk h 0, cell_blk h 1⟩
  | 1, _ => exact ⟨cell_blk h 2, cell_blk h 3⟩
  | 2, _ => exact ⟨cell_blk h 4, cell_blk h 5⟩
  | n + 3, h => exact absurd h (by simp)
theorem grq_at (w : World) (n : Nat) (a b c : Bs) (ha : a.length ≤ 4611686018427387904) (hb : b.length ≤ 4611686018427387904) (hc : c.length ≤ 4611686018427387904) : GrQ w [([97], a), ([98], b), ([99], c)] (((w.drewN n).alloc (.cells #[.string ⟨#[97]⟩, .string (nm a), .string ⟨#[98]⟩, .string (nm b), .string ⟨#[99]⟩, .string (nm c)] 24)).alloc (.cells grpC 9)) := by
  have h1 := al (w.drewN n) (.cells #[.string ⟨#[97]⟩, .string (nm a), .string ⟨#[98]⟩, .string (nm b), .string ⟨#[99]⟩, .string (nm c)] 24)
  have n1 := heap_alloc_new (w.drewN n) (.cells #[.string ⟨#[97]⟩, .string (nm a), .string ⟨#[98]⟩, .string (nm b), .string ⟨#[99]⟩, .string (nm c)] 24)
  generalize hW1 : (w.drewN n).alloc (.cells #[.string ⟨#[97]⟩, .string (nm a), .string ⟨#[98]⟩, .string (nm b), .string ⟨#[99]⟩, .string (nm c)] 24) = W1 at *
  have hz : W1.heap.size = w.heap.size + 1 := by rw [← hW1, World.size_alloc]; rfl
  have h2 := al W1 (.cells grpC 9)
  have n2 := heap_alloc_new W1 (.cells grpC 9)
  rw [hz] at n2
  have n1' : (W1.alloc (.cells grpC 9)).heap[w.heap.size]? = _ := (h2.block w.heap.size (by omega)).trans n1
  refine ⟨va_three _ _ _ _ _ _ n1' ?_, ?_, ?_, fin_at n1', fin_at n2⟩
  · intro x hx
    simp at hx
    rcases hx with rfl | rfl | rfl
    · exact ⟨by simp, ha⟩
    · exact ⟨by simp, hb⟩
    · exact ⟨by simp, hc⟩
  · have h0 : Below w.heap.size w (w.drewN n) := ⟨rfl, rfl, rfl, Nat.le_refl _, fun _ _ => rfl⟩
    exact (h0.trans h1).trans (h2.mono (by omega))
  · intro k hk
    exact (cell_blk n2 k).trans (grpC_at k hk)
set_option maxRecDepth 100000 in
set_option maxHeartbeats 3200000 in
theorem groups_law (a b c : Int) (w : World) (a0 : -9223372036854775808 ≤ a) (a1 : a ≤ 9223372036854775807) (b0 : -9223372036854775808 ≤ b) (b1 : b ≤ 9223372036854775807) (c0 : -9223372036854775808 ≤ c) (c1 : c ≤ 9223372036854775807) (hg : SigIn w) :
    Calls Tryd.prog 3 #[.int .i64 a, .int .i64 b, .int .i64 c] w fun e w' => e = .returned (.bool true) ∧ Below w.heap.size w w' := by
  have TA := Lib.hid (fun W => rtext_any a W a0 a1)
  have TB := Lib.hid (fun W => rtext_any b W b0 b1)
  have TC := Lib.hid (fun W => rtext_any c W c0 c1)
  have HG := Lib.hid hg
  have HEV : Hid (∀ k, k < 10 → ∀ W v, Below w.heap.size w W → VaIn W v (v3 a b c) → Calls Tryd.prog 8 #[.string (nm (grpS.getD k [])), v] W fun e w' => Below W.heap.size W w' ∧ ∃ v', e = .returned (.tuple #[.int .i64 ((grpN a b c).getD k 0), v', .int .i64 0]) ∧ VaIn w' v' (v3 a b c)) :=
    Lib.hid (fun k hk W v hb hv => eval_ok _ _ _ v _ W (hg.below hb) hv (grp_len k hk) (groups_all a b c ⟨a0, a1⟩ ⟨b0, b1⟩ ⟨c0, c1⟩ k hk))
  have HSM := Lib.hid (grp_same a b c ⟨a0, a1⟩)
  have HAW := Lib.hid (fun W hb => awake_any W (hg.below hb))
  have t3 : v3 a b c = [([97], textL a), ([98], textL b), ([99], textL c)] := rfl
  have HT3 := Lib.hid t3
  generalize grpN a b c = GN at *
  generalize v3 a b c = V3 at *
  have sz : ∀ x : Int, -9223372036854775808 ≤ x → x ≤ 9223372036854775807 → (textL x).length ≤ 4611686018427387904 := text_len
  have SA := Lib.hid (sz a a0 a1)
  have SB := Lib.hid (sz b b0 b1)
  have SC := Lib.hid (sz c c0 c1)
  have eA : (⟨(textL a).toArray⟩ : ByteArray) = nm (textL a) := rfl
  have eB : (⟨(textL b).toArray⟩ : ByteArray) = nm (textL b) := rfl
  have eC : (⟨(textL c).toArray⟩ : ByteArray) = nm (textL c) := rfl
  rw [eA] at TA; rw [eB] at TB; rw [eC] at TC
  clear eA eB eC sz t3 hg a0 a1 b0 b1 c0 c1
  go_enter Tryd.func3, Tryd.ntmps3
  go_wp2_with fail
  refine (TA.out _).mono ?_
  rintro e W1 ⟨rfl, n1, rfl⟩
  go_wp2_with fail
  refine (TB.out _).mono ?_
  rintro e W1 ⟨rfl, n2, rfl⟩
  go_wp2_with fail
  refine (TC.out _).mono ?_
  rintro e W1 ⟨rfl, n3, rfl⟩
  clear TA TB TC
  go_wp2_with fail
  refine wp_gen (GrQ w V3) ?_ ?_
  · rw [HT3.out]
    exact grq_at w _ _ _ _ SA.out SB.out SC.out
  rintro W ⟨hv, hb, hc, hz, hz2⟩
  have HV := Lib.hid hv
  have HB := Lib.hid hb
  have HC := Lib.hid hc
  clear hv hb hc SA SB SC HT3
  go_loopw [9] (fun x wr => ∃ j : Nat, x = .int .i64 (2 * j : Nat) ∧ j ≤ 5 ∧ Below W.heap.size W wr) (fun x _ => 10 - (intOf x).toNat)
  case atStart => exact ⟨0, rfl, by omega, Below.refl _ _⟩
  case round =>
    obtain ⟨j, rfl, hj, hbe⟩ := hrel
    have HBE := Lib.hid hbe
    have hwr := hbe.size
    by_cases hlt : j < 5
    · have c1 := (World.cell?_of_block (a := ⟨w.heap.size + 1, 2 * j, none⟩) (hbe.block (w.heap.size + 1) hz2)).trans (HC.out (2 * j) (by omega))
      have HE1 := Lib.hid (HEV.out (2 * j) (by omega) wr _ (HB.out.trans (hbe.mono HB.out.size)) (HV.out.below hbe))
      have HE2 := Lib.hid (fun W2 v hb hv => HEV.out (2 * j + 1) (by omega) W2 v hb hv)
      rw [← HSM.out j hlt] at HE2
      have HC2 := Lib.hid (HC.out (2 * j + 1) (by omega))
      generalize nm (grpS.getD (2 * j) []) = S1 at *
      generalize nm (grpS.getD (2 * j + 1) []) = S2 at *
      generalize GN.getD (2 * j) 0 = N at *
      have hz3 : w.heap.size + 1 < wr.heap.size := by omega
      obtain ⟨i, hi⟩ : ∃ i, 2 * j = i := ⟨_, rfl⟩
      rw [hi] at c1 ⊢
      rw [hi] at HC2
      have hi9 : (i : Int) < 10 := by omega
      have hi8 : (i : Int) + 1 < 10 := by omega
      have HI := Lib.hid hi
      clear hbe hi
      go_wp2_with fail
      refine HE1.out.mono ?_
      rintro e W2 ⟨hb2, v2, rfl, hv2⟩
      obtain ⟨A2, k2, rfl⟩ := hv2.form
      have HB2 := Lib.hid (HBE.out.trans (hb2.mono HBE.out.size))
      have d1 := (World.cell?_of_block (a := ⟨w.heap.size + 1, i + 1, none⟩) (HB2.out.block (w.heap.size + 1) hz2)).trans HC2.out
      have hz4 := Nat.lt_of_lt_of_le hz2 HB2.out.size
      clear hb2 hv2
      generalize V3.length = vl at *
      go_wp2_with fail
      refine (HE2.out W2 _ (HB.out.trans (HB2.out.mono HB.out.size)) (HV.out.below HB2.out)).mono ?_
      rintro e W3 ⟨hb3, v3, rfl, hv3⟩
      obtain ⟨A3, k3, rfl⟩ := hv3.form
      have HB3 := Lib.hid (HB2.out.trans (hb3.mono HB2.out.size))
      clear hb3 hv3 d1 c1
      generalize V3.length = vl3 at *
      go_wp2_with fail
      go_roundw
      case rel => exact ⟨j + 1, by have := HI.out; go_num, by omega, HB3.out⟩
      case measure => have := HI.out; simp [intOf]; omega
    · obtain rfl : j = 5 := by omega
      have HAA := Lib.hid (HAW.out wr (HB.out.trans (hbe.mono HB.out.size)))
      clear hbe
      go_wp2_with fail
      refine HAA.out.mono ?_
      rintro e W2 ⟨rfl, hb2⟩
      have HFB := Lib.hid (HB.out.trans (HBE.out.mono HB.out.size))
      have HFF := Lib.hid (HFB.out.trans (hb2.mono HFB.out.size))
      clear hb2
      go_wp2_with fail
      go_ret
      exact ⟨rfl, HFF.out⟩
end Go.Proofs.YtdegkfnlafgheaaDoor.Ar
