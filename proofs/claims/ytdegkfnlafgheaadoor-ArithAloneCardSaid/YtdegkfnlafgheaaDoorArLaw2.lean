/- DERIVED. The law ArithLazy walked. -/
import Derived.Test.YtdegkfnlafgheaaDoorArLaw1
namespace Go.Proofs.YtdegkfnlafgheaaDoor.Ar
open Go.RowKit
open PathM WdM ArM
open Go.Proofs.YtdegkfnlafgheaaDoor.Wd
open Go.Proofs.YtdegkfnlafgheaaDoor.NumM (textL)
set_option linter.unusedVariables false

theorem lz_len : ∀ k, k < 3 → (lzS.getD k []).length ≤ 8192 := by decide
/-- Eval where the model has an error. -/
theorem eval_bad (s : Bs) (vs : Vs) (v : Value) (er : Int) (w : World) (hg : SigIn w) (hv : VaIn w v vs) (hl : s.length ≤ 8192) (h : evalL s vs = .error er) :
    Calls Tryd.prog 8 #[.string (nm s), v] w fun e w' => Below w.heap.size w w' ∧ e = .returned (.tuple #[.int .i64 0, .slice none 0 0, .int .i64 er]) := by
  have := eval_any s vs v w hg hv (by omega)
  rw [h] at this
  refine this.mono ?_
  rintro e w' ⟨hb, _, he⟩
  exact ⟨hb, he⟩
theorem va_one (W : World) (b : Nat) (x : Bs × Bs) (t : TypeId) (h : W.heap[b]? = some (.cells #[.string (nm x.1), .string (nm x.2)] t (0, 0))) (hs : SizesV [x]) : VaIn W (.slice (some ⟨b, 0, none⟩) 1 1) [x] := by
  refine ⟨_, 1, rfl, ⟨by simp, hs⟩, fun _ => ⟨b, 0, rfl, fin_at h, ?_⟩⟩
  intro i hi
  obtain rfl : i = 0 := by simpa using hi
  exact ⟨cell_blk h 0, cell_blk h 1⟩
def LzQ (w : World) (V : Vs) (W : World) : Prop := VaIn W (.slice (some ⟨w.heap.size, 0, none⟩) 1 1) V ∧ Below w.heap.size w W
theorem lzq_at (w : World) (n : Nat) (a : Bs) (ha : a.length ≤ 4611686018427387904) : LzQ w [([97], a)] ((w.drewN n).alloc (.cells #[.string ⟨#[97]⟩, .string (nm a)] 24)) := by
  have n1 := heap_alloc_new (w.drewN n) (.cells #[.string ⟨#[97]⟩, .string (nm a)] 24)
  have h1 := al (w.drewN n) (.cells #[.string ⟨#[97]⟩, .string (nm a)] 24)
  refine ⟨va_one _ _ ([97], a) _ n1 ?_, ?_⟩
  · intro x hx
    simp at hx
    rw [hx]
    exact ⟨by simp, ha⟩
  · have h0 : Below w.heap.size w (w.drewN n) := ⟨rfl, rfl, rfl, Nat.le_refl _, fun _ _ => rfl⟩
    exact h0.trans h1
set_option maxRecDepth 100000 in
set_option maxHeartbeats 3200000 in
theorem lazy_long (a : Int) (s : ByteArray) (w : World) (hl : 2000 < s.size) (hs : s.size ≤ maxLen) (hg : SigIn w) :
    Calls Tryd.prog 6 #[.int .i64 a, .string s] w fun e w' => e = .returned (.bool true) ∧ Below w.heap.size w w' := by
  have HA := Lib.hid (awake_any w hg)
  unfold maxLen at hs
  clear hg
  go_enter Tryd.func6, Tryd.ntmps6
  go_wp2_with fail
  refine HA.out.mono ?_
  rintro e W ⟨rfl, hb⟩
  have HB := Lib.hid hb
  clear hb
  go_wp2_with fail
  go_ret
  exact ⟨rfl, HB.out⟩
set_option maxRecDepth 100000 in
set_option maxHeartbeats 3200000 in
theorem lazy_zero (s : ByteArray) (w : World) (hl : s.size ≤ 2000) (hg : SigIn w) :
    Calls Tryd.prog 6 #[.int .i64 0, .string s] w fun e w' => e = .returned (.bool true) ∧ Below w.heap.size w w' := by
  have TA := Lib.hid (fun W => rtext_any 0 W (by decide) (by decide))
  obtain ⟨e1, e2, e3⟩ := lz_zero 0 rfl
  have H1 : Hid (∀ W v, Below w.heap.size w W → VaIn W v (v1 0) → Calls Tryd.prog 8 #[.string ⟨#[40, 97, 33, 61, 48, 41, 38, 38, 40, 120, 61, 49, 47, 97, 41]⟩, v] W fun e w' => Below W.heap.size W w' ∧ ∃ v', e = .returned (.tuple #[.int .i64 0, v', .int .i64 0]) ∧ VaIn w' v' (v1 0)) := Lib.hid (fun W v hb hv => eval_ok _ _ _ v _ W (hg.below hb) hv (lz_len 0 (by decide)) e1)
  have H2 : Hid (∀ W v, Below w.heap.size w W → VaIn W v (v1 0) → Calls Tryd.prog 8 #[.string ⟨#[97, 61, 61, 48, 124, 124, 49, 47, 97, 61, 61, 50]⟩, v] W fun e w' => Below W.heap.size W w' ∧ ∃ v', e = .returned (.tuple #[.int .i64 1, v', .int .i64 0]) ∧ VaIn w' v' (v1 0)) := Lib.hid (fun W v hb hv => eval_ok _ _ _ v _ W (hg.below hb) hv (lz_len 1 (by decide)) e2)
  have H3 : Hid (∀ W v, Below w.heap.size w W → VaIn W v (v1 0) → Calls Tryd.prog 8 #[.string ⟨#[97, 32, 63, 32, 55, 32, 58, 32, 40, 121, 61, 49, 47, 97, 41]⟩, v] W fun e w' => Below W.heap.size W w' ∧ e = .returned (.tuple #[.int .i64 0, .slice none 0 0, .int .i64 42])) := Lib.hid (fun W v hb hv => eval_bad _ _ v _ W (hg.below hb) hv (lz_len 2 (by decide)) e3)
  have HQ : Hid (∀ n, LzQ w (v1 0) ((w.drewN n).alloc (.cells #[.string ⟨#[97]⟩, .string ⟨(textL 0).toArray⟩] 24))) := Lib.hid (fun n => lzq_at w n (textL 0) (by decide))
  have HVS := Lib.hid (fun x y W => vars_same (v1 0) x y W)
  have HAW := Lib.hid (fun W hb => awake_any W (hg.below hb))
  have hlen : (v1 0).length = 1 := rfl
  have HLN := Lib.hid hlen
  generalize v1 0 = V at *
  generalize (⟨(textL 0).toArray⟩ : ByteArray) = T at *
  clear e1 e2 e3 hg hlen
  go_enter Tryd.func6, Tryd.ntmps6
  go_wp2_with fail
  refine (TA.out _).mono ?_
  rintro e W1 ⟨rfl, n1, rfl⟩
  go_wp2_with fail
  refine calls_gen (LzQ w V) (HQ.out n1) ?_
  rintro W ⟨hv, hb⟩
  have HV := Lib.hid hv
  have HB := Lib.hid hb
  refine (H1.out W _ hb hv).mono ?_
  clear hv hb
  rintro e W2 ⟨hb2, v2, rfl, hv2⟩
  obtain ⟨A2, c2, rfl⟩ := hv2.form
  have B2 := Lib.hid (HB.out.trans (hb2.mono HB.out.size))
  have V2 := Lib.hid hv2
  have X2 := Lib.hid (HV.out.below hb2)
  rw [HLN.out] at V2
  clear hb2 hv2
  rw [HLN.out]
  go_wp2_with fail
  refine (H2.out W2 _ B2.out X2.out).mono ?_
  rintro e W3 ⟨hb3, v3, rfl, hv3⟩
  obtain ⟨A3, c3, rfl⟩ := hv3.form
  have B3 := Lib.hid (B2.out.trans (hb3.mono B2.out.size))
  have V3 := Lib.hid (V2.out.below hb3)
  have Y3 := Lib.hid hv3
  have X3 := Lib.hid (X2.out.below hb3)
  rw [HLN.out] at Y3
  clear hb3 hv3
  rw [HLN.out]
  go_wp2_with fail
  refine (H3.out W3 _ B3.out X3.out).mono ?_
  rintro e W4 ⟨hb4, rfl⟩
  have B4 := Lib.hid (B3.out.trans (hb4.mono B3.out.size))
  have V4 := Lib.hid (V3.out.below hb4)
  have Y4 := Lib.hid (Y3.out.below hb4)
  have X4 := Lib.hid (X3.out.below hb4)
  clear hb4
  go_wp2_with fail
  refine (HVS.out _ _ W4 V4.out X4.out).mono ?_
  rintro e W5 ⟨rfl, n5, rfl⟩
  go_wp2_with fail
  refine (HVS.out _ _ _ (Y4.out.drewN n5) (X4.out.drewN n5)).mono ?_
  rintro e W6 ⟨rfl, n6, rfl⟩
  have B6 := Lib.hid (show Below w.heap.size w (W4.drewN (n5 + n6)) from B4.out.trans ⟨rfl, rfl, rfl, Nat.le_refl _, fun _ _ => rfl⟩)
  go_wp2_with fail
  refine (HAW.out _ B6.out).mono ?_
  rintro e W7 ⟨rfl, hb7⟩
  have B7 := Lib.hid (B6.out.trans (hb7.mono B6.out.size))
  clear hb7
  go_wp2_with fail
  go_ret
  exact ⟨rfl, B7.out⟩
set_option maxRecDepth 100000 in
set_option maxHeartbeats 3200000 in
theorem lazy_one (s : ByteArray) (w : World) (hl : s.size ≤ 2000) (hg : SigIn w) :
    Calls Tryd.prog 6 #[.int .i64 1, .string s] w fun e w' => e = .returned (.bool true) ∧ Below w.heap.size w w' := by
  have TA := Lib.hid (fun W => rtext_any 1 W (by decide) (by decide))
  have one : oneL 1 = 1 := rfl
  obtain ⟨⟨tx, e1⟩, e2, e3⟩ := lz_more 1 (by decide) (by decide) (by decide)
  rw [one] at e1
  clear one
  have H1 : Hid (∀ W v, Below w.heap.size w W → VaIn W v (v1 1) → Calls Tryd.prog 8 #[.string ⟨#[40, 97, 33, 61, 48, 41, 38, 38, 40, 120, 61, 49, 47, 97, 41]⟩, v] W fun e w' => Below W.heap.size W w' ∧ ∃ v', e = .returned (.tuple #[.int .i64 1, v', .int .i64 0]) ∧ VaIn w' v' (v1 1 ++ [([120], tx)])) := Lib.hid (fun W v hb hv => eval_ok _ _ _ v _ W (hg.below hb) hv (lz_len 0 (by decide)) e1)
  have H2 : Hid (∀ W v, Below w.heap.size w W → VaIn W v (v1 1) → Calls Tryd.prog 8 #[.string ⟨#[97, 61, 61, 48, 124, 124, 49, 47, 97, 61, 61, 50]⟩, v] W fun e w' => Below W.heap.size W w' ∧ ∃ v', e = .returned (.tuple #[.int .i64 0, v', .int .i64 0]) ∧ VaIn w' v' (v1 1)) := Lib.hid (fun W v hb hv => eval_ok _ _ _ v _ W (hg.below hb) hv (lz_len 1 (by decide)) e2)
  have H3 : Hid (∀ W v, Below w.heap.size w W → VaIn W v (v1 1) → Calls Tryd.prog 8 #[.string ⟨#[97, 32, 63, 32, 55, 32, 58, 32, 40, 121, 61, 49, 47, 97, 41]⟩, v] W fun e w' => Below W.heap.size W w' ∧ ∃ v', e = .returned (.tuple #[.int .i64 7, v', .int .i64 0]) ∧ VaIn w' v' (v1 1)) := Lib.hid (fun W v hb hv => eval_ok _ _ _ v _ W (hg.below hb) hv (lz_len 2 (by decide)) e3)
  have hta := text_len 1 (by decide) (by decide)
  have HQ : Hid (∀ n, LzQ w (v1 1) ((w.drewN n).alloc (.cells #[.string ⟨#[97]⟩, .string ⟨(textL 1).toArray⟩] 24))) := Lib.hid (fun n => lzq_at w n (textL 1) hta)
  have HVS := Lib.hid (fun x y W => vars_same (v1 1) x y W)
  have HAW := Lib.hid (fun W hb => awake_any W (hg.below hb))
  have hlen : (v1 1).length = 1 := rfl
  have HLN := Lib.hid hlen
  have hlen2 : (v1 1 ++ [([120], tx)]).length = 2 := rfl
  have HLN2 := Lib.hid hlen2
  generalize v1 1 ++ [([120], tx)] = VX at *
  generalize v1 1 = V at *
  generalize (⟨(textL 1).toArray⟩ : ByteArray) = T at *
  clear e1 e2 e3 hg hlen hlen2 hta
  go_enter Tryd.func6, Tryd.ntmps6
  go_wp2_with fail
  refine (TA.out _).mono ?_
  rintro e W1 ⟨rfl, n1, rfl⟩
  go_wp2_with fail
  refine calls_gen (LzQ w V) (HQ.out n1) ?_
  rintro W ⟨hv, hb⟩
  have HV := Lib.hid hv
  have HB := Lib.hid hb
  refine (H1.out W _ hb hv).mono ?_
  clear hv hb
  rintro e W2 ⟨hb2, v2, rfl, hv2⟩
  obtain ⟨A2, c2, rfl⟩ := hv2.form
  have B2 := Lib.hid (HB.out.trans (hb2.mono HB.out.size))
  have X2 := Lib.hid (HV.out.below hb2)
  clear hb2 hv2
  rw [HLN2.out]
  go_wp2_with fail
  refine (H2.out W2 _ B2.out X2.out).mono ?_
  rintro e W3 ⟨hb3, v3, rfl, hv3⟩
  obtain ⟨A3, c3, rfl⟩ := hv3.form
  have B3 := Lib.hid (B2.out.trans (hb3.mono B2.out.size))
  have X3 := Lib.hid (X2.out.below hb3)
  clear hb3 hv3
  rw [HLN.out]
  go_wp2_with fail
  refine (H3.out W3 _ B3.out X3.out).mono ?_
  rintro e W4 ⟨hb4, v4, rfl, hv4⟩
  obtain ⟨A4, c4, rfl⟩ := hv4.form
  have B4 := Lib.hid (B3.out.trans (hb4.mono B3.out.size))
  have V4 := Lib.hid hv4
  have X4 := Lib.hid (X3.out.below hb4)
  rw [HLN.out] at V4
  clear hb4 hv4
  rw [HLN.out]
  go_wp2_with fail
  refine (HVS.out _ _ W4 V4.out X4.out).mono ?_
  rintro e W5 ⟨rfl, n5, rfl⟩
  have B6 := Lib.hid (show Below w.heap.size w (W4.drewN n5) from B4.out.trans ⟨rfl, rfl, rfl, Nat.le_refl _, fun _ _ => rfl⟩)
  go_wp2_with fail
  refine (HAW.out _ B6.out).mono ?_
  rintro e W7 ⟨rfl, hb7⟩
  have B7 := Lib.hid (B6.out.trans (hb7.mono B6.out.size))
  clear hb7
  go_wp2_with fail
  go_ret
  exact ⟨rfl, B7.out⟩
set_option maxRecDepth 100000 in
set_option maxHeartbeats 3200000 in
theorem lazy_less (s : ByteArray) (w : World) (hl : s.size ≤ 2000) (hg : SigIn w) :
    Calls Tryd.prog 6 #[.int .i64 (-1), .string s] w fun e w' => e = .returned (.bool true) ∧ Below w.heap.size w w' := by
  have TA := Lib.hid (fun W => rtext_any (-1) W (by decide) (by decide))
  have one : oneL (-1) = 1 := rfl
  obtain ⟨⟨tx, e1⟩, e2, e3⟩ := lz_more (-1) (by decide) (by decide) (by decide)
  rw [one] at e1
  clear one
  have H1 : Hid (∀ W v, Below w.heap.size w W → VaIn W v (v1 (-1)) → Calls Tryd.prog 8 #[.string ⟨#[40, 97, 33, 61, 48, 41, 38, 38, 40, 120, 61, 49, 47, 97, 41]⟩, v] W fun e w' => Below W.heap.size W w' ∧ ∃ v', e = .returned (.tuple #[.int .i64 1, v', .int .i64 0]) ∧ VaIn w' v' (v1 (-1) ++ [([120], tx)])) := Lib.hid (fun W v hb hv => eval_ok _ _ _ v _ W (hg.below hb) hv (lz_len 0 (by decide)) e1)
  have H2 : Hid (∀ W v, Below w.heap.size w W → VaIn W v (v1 (-1)) → Calls Tryd.prog 8 #[.string ⟨#[97, 61, 61, 48, 124, 124, 49, 47, 97, 61, 61, 50]⟩, v] W fun e w' => Below W.heap.size W w' ∧ ∃ v', e = .returned (.tuple #[.int .i64 0, v', .int .i64 0]) ∧ VaIn w' v' (v1 (-1))) := Lib.hid (fun W v hb hv => eval_ok _ _ _ v _ W (hg.below hb) hv (lz_len 1 (by decide)) e2)
  have H3 : Hid (∀ W v, Below w.heap.size w W → VaIn W v (v1 (-1)) → Calls Tryd.prog 8 #[.string ⟨#[97, 32, 63, 32, 55, 32, 58, 32, 40, 121, 61, 49, 47, 97, 41]⟩, v] W fun e w' => Below W.heap.size W w' ∧ ∃ v', e = .returned (.tuple #[.int .i64 7, v', .int .i64 0]) ∧ VaIn w' v' (v1 (-1))) := Lib.hid (fun W v hb hv => eval_ok _ _ _ v _ W (hg.below hb) hv (lz_len 2 (by decide)) e3)
  have hta := text_len (-1) (by decide) (by decide)
  have HQ : Hid (∀ n, LzQ w (v1 (-1)) ((w.drewN n).alloc (.cells #[.string ⟨#[97]⟩, .string ⟨(textL (-1)).toArray⟩] 24))) := Lib.hid (fun n => lzq_at w n (textL (-1)) hta)
  have HVS := Lib.hid (fun x y W => vars_same (v1 (-1)) x y W)
  have HAW := Lib.hid (fun W hb => awake_any W (hg.below hb))
  have hlen : (v1 (-1)).length = 1 := rfl
  have HLN := Lib.hid hlen
  have hlen2 : (v1 (-1) ++ [([120], tx)]).length = 2 := rfl
  have HLN2 := Lib.hid hlen2
  generalize v1 (-1) ++ [([120], tx)] = VX at *
  generalize v1 (-1) = V at *
  generalize (⟨(textL (-1)).toArray⟩ : ByteArray) = T at *
  clear e1 e2 e3 hg hlen hlen2 hta
  go_enter Tryd.func6, Tryd.ntmps6
  go_wp2_with fail
  refine (TA.out _).mono ?_
  rintro e W1 ⟨rfl, n1, rfl⟩
  go_wp2_with fail
  refine calls_gen (LzQ w V) (HQ.out n1) ?_
  rintro W ⟨hv, hb⟩
  have HV := Lib.hid hv
  have HB := Lib.hid hb
  refine (H1.out W _ hb hv).mono ?_
  clear hv hb
  rintro e W2 ⟨hb2, v2, rfl, hv2⟩
  obtain ⟨A2, c2, rfl⟩ := hv2.form
  have B2 := Lib.hid (HB.out.trans (hb2.mono HB.out.size))
  have X2 := Lib.hid (HV.out.below hb2)
  clear hb2 hv2
  rw [HLN2.out]
  go_wp2_with fail
  refine (H2.out W2 _ B2.out X2.out).mono ?_
  rintro e W3 ⟨hb3, v3, rfl, hv3⟩
  obtain ⟨A3, c3, rfl⟩ := hv3.form
  have B3 := Lib.hid (B2.out.trans (hb3.mono B2.out.size))
  have X3 := Lib.hid (X2.out.below hb3)
  clear hb3 hv3
  rw [HLN.out]
  go_wp2_with fail
  refine (H3.out W3 _ B3.out X3.out).mono ?_
  rintro e W4 ⟨hb4, v4, rfl, hv4⟩
  obtain ⟨A4, c4, rfl⟩ := hv4.form
  have B4 := Lib.hid (B3.out.trans (hb4.mono B3.out.size))
  have V4 := Lib.hid hv4
  have X4 := Lib.hid (X3.out.below hb4)
  rw [HLN.out] at V4
  clear hb4 hv4
  rw [HLN.out]
  go_wp2_with fail
  refine (HVS.out _ _ W4 V4.out X4.out).mono ?_
  rintro e W5 ⟨rfl, n5, rfl⟩
  have B6 := Lib.hid (show Below w.heap.size w (W4.drewN n5) from B4.out.trans ⟨rfl, rfl, rfl, Nat.le_refl _, fun _ _ => rfl⟩)
  go_wp2_with fail
  refine (HAW.out _ B6.out).mono ?_
  rintro e W7 ⟨rfl, hb7⟩
  have B7 := Lib.hid (B6.out.trans (hb7.mono B6.out.size))
  clear hb7
  go_wp2_with fail
  go_ret
  exact ⟨rfl, B7.out⟩
set_option maxRecDepth 100000 in
set_option maxHeartbeats 3200000 in
theorem lazy_other (a : Int) (a0 : -9223372036854775808 ≤ a) (a1 : a ≤ 9223372036854775807) (h0 : a ≠ 0) (h1 : a ≠ 1) (h2 : a ≠ -1) (q0 : (a == 0) = false) (q1 : (a == 1) = false) (q2 : (a == -1) = false) (s : ByteArray) (w : World) (hl : s.size ≤ 2000) (hg : SigIn w) :
    Calls Tryd.prog 6 #[.int .i64 a, .string s] w fun e w' => e = .returned (.bool true) ∧ Below w.heap.size w w' := by
  have TA := Lib.hid (fun W => rtext_any a W a0 a1)
  have one : oneL a = 0 := if_neg (by rintro (h | h) <;> contradiction)
  obtain ⟨⟨tx, e1⟩, e2, e3⟩ := lz_more a h0 a0 a1
  rw [one] at e1
  clear one
  have H1 : Hid (∀ W v, Below w.heap.size w W → VaIn W v (v1 a) → Calls Tryd.prog 8 #[.string ⟨#[40, 97, 33, 61, 48, 41, 38, 38, 40, 120, 61, 49, 47, 97, 41]⟩, v] W fun e w' => Below W.heap.size W w' ∧ ∃ v', e = .returned (.tuple #[.int .i64 0, v', .int .i64 0]) ∧ VaIn w' v' (v1 a ++ [([120], tx)])) := Lib.hid (fun W v hb hv => eval_ok _ _ _ v _ W (hg.below hb) hv (lz_len 0 (by decide)) e1)
  have H2 : Hid (∀ W v, Below w.heap.size w W → VaIn W v (v1 a) → Calls Tryd.prog 8 #[.string ⟨#[97, 61, 61, 48, 124, 124, 49, 47, 97, 61, 61, 50]⟩, v] W fun e w' => Below W.heap.size W w' ∧ ∃ v', e = .returned (.tuple #[.int .i64 0, v', .int .i64 0]) ∧ VaIn w' v' (v1 a)) := Lib.hid (fun W v hb hv => eval_ok _ _ _ v _ W (hg.below hb) hv (lz_len 1 (by decide)) e2)
  have H3 : Hid (∀ W v, Below w.heap.size w W → VaIn W v (v1 a) → Calls Tryd.prog 8 #[.string ⟨#[97, 32, 63, 32, 55, 32, 58, 32, 40, 121, 61, 49, 47, 97, 41]⟩, v] W fun e w' => Below W.heap.size W w' ∧ ∃ v', e = .returned (.tuple #[.int .i64 7, v', .int .i64 0]) ∧ VaIn w' v' (v1 a)) := Lib.hid (fun W v hb hv => eval_ok _ _ _ v _ W (hg.below hb) hv (lz_len 2 (by decide)) e3)
  have hta := text_len a a0 a1
  have HQ : Hid (∀ n, LzQ w (v1 a) ((w.drewN n).alloc (.cells #[.string ⟨#[97]⟩, .string ⟨(textL a).toArray⟩] 24))) := Lib.hid (fun n => lzq_at w n (textL a) hta)
  have HVS := Lib.hid (fun x y W => vars_same (v1 a) x y W)
  have HAW := Lib.hid (fun W hb => awake_any W (hg.below hb))
  have hlen : (v1 a).length = 1 := rfl
  have HLN := Lib.hid hlen
  have hlen2 : (v1 a ++ [([120], tx)]).length = 2 := rfl
  have HLN2 := Lib.hid hlen2
  generalize v1 a ++ [([120], tx)] = VX at *
  generalize v1 a = V at *
  generalize (⟨(textL a).toArray⟩ : ByteArray) = T at *
  clear e1 e2 e3 hg hlen hlen2 hta  h0 h1 h2 a0 a1
  go_enter Tryd.func6, Tryd.ntmps6
  go_wp2_with fail
  refine (TA.out _).mono ?_
  rintro e W1 ⟨rfl, n1, rfl⟩
  go_wp2_with fail
  refine calls_gen (LzQ w V) (HQ.out n1) ?_
  rintro W ⟨hv, hb⟩
  have HV := Lib.hid hv
  have HB := Lib.hid hb
  refine (H1.out W _ hb hv).mono ?_
  clear hv hb
  rintro e W2 ⟨hb2, v2, rfl, hv2⟩
  obtain ⟨A2, c2, rfl⟩ := hv2.form
  have B2 := Lib.hid (HB.out.trans (hb2.mono HB.out.size))
  have X2 := Lib.hid (HV.out.below hb2)
  clear hb2 hv2
  rw [HLN2.out]
  go_wp2_with fail
  refine (H2.out W2 _ B2.out X2.out).mono ?_
  rintro e W3 ⟨hb3, v3, rfl, hv3⟩
  obtain ⟨A3, c3, rfl⟩ := hv3.form
  have B3 := Lib.hid (B2.out.trans (hb3.mono B2.out.size))
  have X3 := Lib.hid (X2.out.below hb3)
  clear hb3 hv3
  rw [HLN.out]
  go_wp2_with fail
  refine (H3.out W3 _ B3.out X3.out).mono ?_
  rintro e W4 ⟨hb4, v4, rfl, hv4⟩
  obtain ⟨A4, c4, rfl⟩ := hv4.form
  have B4 := Lib.hid (B3.out.trans (hb4.mono B3.out.size))
  have V4 := Lib.hid hv4
  have X4 := Lib.hid (X3.out.below hb4)
  rw [HLN.out] at V4
  clear hb4 hv4
  rw [HLN.out]
  go_wp2_with fail
  refine (HVS.out _ _ W4 V4.out X4.out).mono ?_
  rintro e W5 ⟨rfl, n5, rfl⟩
  have B6 := Lib.hid (show Below w.heap.size w (W4.drewN n5) from B4.out.trans ⟨rfl, rfl, rfl, Nat.le_refl _, fun _ _ => rfl⟩)
  go_wp2_with fail
  refine (HAW.out _ B6.out).mono ?_
  rintro e W7 ⟨rfl, hb7⟩
  have B7 := Lib.hid (B6.out.trans (hb7.mono B6.out.size))
  clear hb7
  go_wp2_with fail
  go_ret
  exact ⟨rfl, B7.out⟩
theorem lazy_law (a : Int) (s : ByteArray) (w : World) (a0 : -9223372036854775808 ≤ a) (a1 : a ≤ 9223372036854775807) (hs : s.size ≤ maxLen) (hg : SigIn w) :
    Calls Tryd.prog 6 #[.int .i64 a, .string s] w fun e w' => e = .returned (.bool true) ∧ Below w.heap.size w w' := by
  by_cases hl : 2000 < s.size
  · exact lazy_long a s w hl hs hg
  · by_cases h0 : a = 0
    · subst h0; exact lazy_zero s w (by omega) hg
    · by_cases h1 : a = 1
      · subst h1; exact lazy_one s w (by omega) hg
      · by_cases h2 : a = -1
        · subst h2; exact lazy_less s w (by omega) hg
        · exact lazy_other a a0 a1 h0 h1 h2 (by simpa using h0) (by simpa using h1) (by simpa using h2) s w (by omega) hg
end Go.Proofs.YtdegkfnlafgheaaDoor.Ar
