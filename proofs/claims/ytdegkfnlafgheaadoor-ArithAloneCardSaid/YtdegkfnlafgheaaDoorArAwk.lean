/- DERIVED. The walks over the document's Vars (the same ones), gets and awake. -/
import Derived.Test.YtdegkfnlafgheaaDoorArEval
namespace Go.Proofs.YtdegkfnlafgheaaDoor.Ar
open Go.RowKit
open PathM WdM ArM
open Go.Proofs.YtdegkfnlafgheaaDoor.Wd
open Go.Proofs.YtdegkfnlafgheaaDoor.NumM (textL)
set_option linter.unusedVariables false

theorem var_same (a b : ByteArray) (w : World) : (binOp .neq 24 (.agg #[.string a, .string b]) (.agg #[.string a, .string b])).run Tryd.prog w = .ok (.bool false) w := by
  simp [go_sem]
theorem VaIn.at {w : World} {v : Value} {vs : Vs} (h : VaIn w v vs) (i : Nat) (hi : i < vs.length) : ∃ b off c, v = .slice (some ⟨b, off, none⟩) vs.length c ∧ b < w.heap.size ∧ w.cell? ⟨b, off + i * 2, none⟩ = some (.string (nm vs[i].1)) ∧ w.cell? ⟨b, off + i * 2 + 1, none⟩ = some (.string (nm vs[i].2)) := by
  obtain ⟨A, c, rfl, _, h⟩ := h
  obtain ⟨b, off, rfl, hb, hc⟩ := h (fun e => by rw [e] at hi; cases hi)
  exact ⟨b, off, c, rfl, hb, hc i hi⟩
set_option maxRecDepth 100000 in
set_option maxHeartbeats 1600000 in
theorem vars_same (vs : Vs) (a b : Value) (w : World) (ha : VaIn w a vs) (hb : VaIn w b vs) :
    Calls Tryd.prog 10 #[a, b] w fun e w' => e = .returned (.bool true) ∧ ∃ n, w' = w.drewN n := by
  have HA := Lib.hid ha
  have HB := Lib.hid hb
  obtain ⟨A1, c1, rfl⟩ := ha.form
  obtain ⟨A2, c2, rfl⟩ := hb.form
  have hle : vs.length ≤ 1000000 := by obtain ⟨_, _, _, ⟨h, _⟩, _⟩ := ha; exact h
  obtain ⟨n, hn⟩ : ∃ n, vs.length = n := ⟨_, rfl⟩
  have HN := Lib.hid hn
  rw [hn] at hle
  have HV := Lib.hid var_same
  clear ha hb
  rw [hn] at HA HB ⊢
  clear hn
  go_enter Tryd.func10, Tryd.ntmps10
  go_wp2_with fail
  go_loopw [5] (fun x wr => ∃ k j : Nat, x = .int .i64 k ∧ k ≤ n ∧ wr = w.drewN j) (fun x _ => n - (intOf x).toNat)
  case atStart => exact ⟨0, 0, rfl, by omega, rfl⟩
  case round =>
    obtain ⟨k, j, rfl, hk, rfl⟩ := hrel
    by_cases hlt : k < n
    · have hk2 : k < vs.length := by rw [HN.out]; exact hlt
      obtain ⟨b1, o1, d1, e1, z1, x0, x1⟩ := HA.out.at k hk2
      obtain ⟨b2, o2, d2, e2, z2, y0, y1⟩ := HB.out.at k hk2
      simp only [Value.slice.injEq] at e1 e2
      obtain ⟨rfl, _, rfl⟩ := e1
      obtain ⟨rfl, _, rfl⟩ := e2
      generalize nm (vs[k].1) = X at *
      generalize nm (vs[k].2) = Y at *
      have hv := HV.out X Y
      clear hk2
      go_wp2_with fail
      go_quiet (fail)
      go_wp2_with fail
      exact ⟨⟨k + 1, j + nq, by go_num, by omega, rfl⟩, by simp [intOf]; omega⟩
    · obtain rfl : k = n := by omega
      go_wp2_with fail
      go_ret
      exact ⟨rfl, _, rfl⟩
theorem va_nil (w : World) : VaIn w (.slice none 0 0) [] := ⟨none, 0, rfl, ⟨by simp, by simp⟩, fun h => absurd rfl h⟩
/-- Eval of a constant text without variables. -/
theorem eval_con (s : Bs) (n : Int) (vs' : Vs) (w : World) (hg : SigIn w) (hl : s.length ≤ 8192) (h : evalL s [] = .ok (n, vs')) :
    Calls Tryd.prog 8 #[.string (nm s), .slice none 0 0] w fun e w' => Below w.heap.size w w' ∧ ∃ v', e = .returned (.tuple #[.int .i64 n, v', .int .i64 0]) ∧ VaIn w' v' vs' := by
  have := eval_any s [] (.slice none 0 0) w hg (va_nil w) (by omega)
  rw [h] at this
  refine this.mono ?_
  rintro e w' ⟨hb, _, v', he, hv, _⟩
  exact ⟨hb, v', he, hv⟩
set_option maxHeartbeats 1600000 in
theorem gets_con (s : Bs) (n : Int) (vs' : Vs) (w : World) (hg : SigIn w) (hl : s.length ≤ 8192) (h : evalL s [] = .ok (n, vs')) :
    Calls Tryd.prog 16 #[.string (nm s)] w fun e w' => Below w.heap.size w w' ∧ e = .returned (.tuple #[.int .i64 n, .bool true]) := by
  have HE := Lib.hid (eval_con s n vs' w hg hl h)
  generalize nm s = S at *
  clear hg hl h
  go_enter Tryd.func16, Tryd.ntmps16
  go_wp2_with fail
  refine HE.out.mono ?_
  rintro e W ⟨hb, v', rfl, hv⟩
  obtain ⟨A, c, rfl⟩ := hv.form
  have HB := Lib.hid hb
  clear hb hv
  go_wp2_with fail
  go_ret2
  exact ⟨HB.out, rfl⟩
set_option maxRecDepth 100000 in
set_option maxHeartbeats 3200000 in
theorem awake_any (w : World) (hg : SigIn w) : Calls Tryd.prog 9 #[] w fun e w' => e = .returned (.bool true) ∧ Below w.heap.size w w' := by
  have G1 : Hid (∀ W, Below w.heap.size w W → Calls Tryd.prog 16 #[.string ⟨#[49, 43, 50, 42, 51]⟩] W fun e w' => Below W.heap.size W w' ∧ e = .returned (.tuple #[.int .i64 7, .bool true])) := Lib.hid (fun W hb => gets_con [49, 43, 50, 42, 51] 7 [] W (hg.below hb) (by decide) ex_1)
  have G2 : Hid (∀ W, Below w.heap.size w W → Calls Tryd.prog 8 #[.string ⟨#[120, 61, 53]⟩, .slice none 0 0] W fun e w' => Below W.heap.size W w' ∧ ∃ v', e = .returned (.tuple #[.int .i64 5, v', .int .i64 0]) ∧ VaIn w' v' [([120], [53])]) := Lib.hid (fun W hb => eval_con [120, 61, 53] 5 _ W (hg.below hb) (by decide) ex_2)
  have G3 : Hid (∀ W, Below w.heap.size w W → Calls Tryd.prog 8 #[.string ⟨#[49, 124, 124, 40, 121, 61, 50, 41]⟩, .slice none 0 0] W fun e w' => Below W.heap.size W w' ∧ ∃ v', e = .returned (.tuple #[.int .i64 1, v', .int .i64 0]) ∧ VaIn w' v' []) := Lib.hid (fun W hb => eval_con [49, 124, 124, 40, 121, 61, 50, 41] 1 _ W (hg.below hb) (by decide) ex_3)
  have G4 : Hid (∀ W, Below w.heap.size w W → Calls Tryd.prog 16 #[.string ⟨#[55, 47, 45, 50]⟩] W fun e w' => Below W.heap.size W w' ∧ e = .returned (.tuple #[.int .i64 (-3), .bool true])) := Lib.hid (fun W hb => gets_con [55, 47, 45, 50] (-3) [] W (hg.below hb) (by decide) ex_4)
  have G5 : Hid (∀ W, Below w.heap.size w W → Calls Tryd.prog 16 #[.string ⟨#[48, 49, 48, 43, 48, 120, 49, 48]⟩] W fun e w' => Below W.heap.size W w' ∧ e = .returned (.tuple #[.int .i64 24, .bool true])) := Lib.hid (fun W hb => gets_con [48, 49, 48, 43, 48, 120, 49, 48] 24 [] W (hg.below hb) (by decide) ex_5)
  have G6 : Hid (∀ W a b, VaIn W a [([120], [53])] → VaIn W b [([120], [53])] → Calls Tryd.prog 10 #[a, b] W fun e w' => e = .returned (.bool true) ∧ ∃ n, w' = W.drewN n) := Lib.hid (fun W a b h1 h2 => vars_same _ a b W h1 h2)
  clear hg
  go_enter Tryd.func9, Tryd.ntmps9
  go_wp2_with fail
  refine (G1.out _ (Below.refl _ _)).mono ?_
  rintro e W1 ⟨hb1, rfl⟩
  have B1 := Lib.hid hb1
  clear hb1
  go_wp2_with fail
  refine (G2.out _ B1.out).mono ?_
  rintro e W2 ⟨hb2, v2, rfl, hv2⟩
  obtain ⟨A2, c2, rfl⟩ := hv2.form
  have B2 := Lib.hid (B1.out.trans (hb2.mono B1.out.size))
  have V2 := Lib.hid hv2
  clear hb2 hv2
  simp only [List.length_cons, List.length_nil]
  go_wp2_with fail
  refine (G3.out _ B2.out).mono ?_
  rintro e W3 ⟨hb3, v3, rfl, hv3⟩
  obtain ⟨A3, c3, rfl⟩ := hv3.form
  have B3 := Lib.hid (B2.out.trans (hb3.mono B2.out.size))
  have V3 := Lib.hid (V2.out.below hb3)
  clear hb3 hv3
  simp only [List.length_nil]
  go_wp2_with fail
  refine (G4.out _ B3.out).mono ?_
  rintro e W4 ⟨hb4, rfl⟩
  have B4 := Lib.hid (B3.out.trans (hb4.mono B3.out.size))
  have V4 := Lib.hid (V3.out.below hb4)
  clear hb4
  go_wp2_with fail
  refine (G5.out _ B4.out).mono ?_
  rintro e W5 ⟨hb5, rfl⟩
  have B5 := Lib.hid (B4.out.trans (hb5.mono B4.out.size))
  have V5 := Lib.hid (V4.out.below hb5)
  clear hb5
  go_wp2_with fail
  have hal := al W5 (.cells #[.string ⟨#[120]⟩, .string ⟨#[53]⟩] 24)
  have hnv : VaIn (W5.alloc (.cells #[.string ⟨#[120]⟩, .string ⟨#[53]⟩] 24)) (.slice (some ⟨W5.heap.size, 0, none⟩) 1 1) [([120], [53])] := by
    refine ⟨_, 1, rfl, ⟨by simp, by simp⟩, fun _ => ⟨W5.heap.size, 0, rfl, by simp, ?_⟩⟩
    intro i hi
    obtain rfl : i = 0 := by simpa using hi
    have hn := heap_alloc_new W5 (.cells #[.string ⟨#[120]⟩, .string ⟨#[53]⟩] 24)
    exact ⟨cell_blk hn 0, cell_blk hn 1⟩
  have HV := Lib.hid (G6.out _ _ _ (V5.out.below hal) hnv)
  have HBF := Lib.hid (B5.out.trans (hal.mono B5.out.size))
  clear hal hnv
  refine HV.out.mono ?_
  rintro e W6 ⟨rfl, nq, rfl⟩
  go_wp2_with fail
  go_ret
  exact ⟨rfl, HBF.out.trans ⟨rfl, rfl, rfl, Nat.le_refl _, fun _ _ => rfl⟩⟩
end Go.Proofs.YtdegkfnlafgheaaDoor.Ar
