/- DERIVED. The law ArithAlone walked. -/
import Derived.Test.YtdegkfnlafgheaaDoorArLaw2
import Derived.Test.YtdegkfnlafgheaaDoorArCutM
namespace Go.Proofs.YtdegkfnlafgheaaDoor.Ar
open Go.RowKit
open PathM WdM ArM
open Go.Proofs.YtdegkfnlafgheaaDoor.Wd
open Go.Proofs.YtdegkfnlafgheaaDoor.NumM (textL)
set_option linter.unusedVariables false

/-- Variables that came in, however many. -/
def VaX (w : World) (v : Value) (vs : Vs) : Prop := ∃ (A : Option Addr) (c : Nat), v = .slice A vs.length c ∧ (vs.length ≤ 4611686018427387904 ∧ SizesV vs) ∧ (vs ≠ [] → ∃ b off, A = some ⟨b, off, none⟩ ∧ b < w.heap.size ∧ ∀ i (h : i < vs.length), w.cell? ⟨b, off + i * 2, none⟩ = some (.string (nm vs[i].1)) ∧ w.cell? ⟨b, off + i * 2 + 1, none⟩ = some (.string (nm vs[i].2)))
theorem VaX.va {w : World} {v : Value} {vs : Vs} (h : VaX w v vs) (hl : vs.length ≤ 64) : VaIn w v vs := by
  obtain ⟨A, c, hv, ⟨_, hs⟩, hc⟩ := h
  exact ⟨A, c, hv, ⟨by omega, hs⟩, hc⟩
theorem VaX.form {w : World} {v : Value} {vs : Vs} (h : VaX w v vs) : ∃ A c, v = .slice A vs.length c ∧ vs.length ≤ 4611686018427387904 := by
  obtain ⟨A, c, hv, ⟨h, _⟩, _⟩ := h; exact ⟨A, c, hv, h⟩
theorem EvPost.form {m : Except Int (Int × Vs)} {w w' : World} {e : Ending} (h : EvPost m w e w') : Below w.heap.size w w' ∧ ∃ n A k c x, e = .returned (.tuple #[.int .i64 n, .slice A k c, .int .i64 x]) := by
  obtain ⟨hb, h⟩ := h
  refine ⟨hb, ?_⟩
  cases m with
  | ok p =>
    obtain ⟨n, vs⟩ := p
    obtain ⟨_, v', he, hv, _⟩ := h
    obtain ⟨A, c, rfl⟩ := hv.form
    exact ⟨_, _, _, _, _, he⟩
  | error er => exact ⟨_, _, _, _, _, h.2⟩
theorem cat_two (a b : ByteArray) (h : a.size + b.size ≤ 9223372036854775807) (W : World) : (Op.stringOp .add a b).run Tryd.prog W = .ok (.string (a ++ b)) W := run_string_add_sum W _ _ h
theorem cat_bs (a b : ByteArray) : a ++ b = nm (a.data.toList ++ b.data.toList) := by
  rw [← Lib.mk_data (a ++ b)]
  congr 1
/-- Alone, or in parentheses: what a blank text comes to there. -/
theorem alone_more (s : Bs) (v v2 : Vs) (n : Int) (hs : s.length ≤ 2000) (h : evalL s v = .ok (n, v2)) :
    evalL (32 :: 40 :: (s ++ [41, 10, 9])) v = .ok (n, v2) ∨ evalL (32 :: 40 :: (s ++ [41, 10, 9])) v = .error 63 ∨ (s.all blankA = true ∧ evalL (32 :: 40 :: (s ++ [41, 10, 9])) v = .error 61) := by
  unfold evalL at h
  split at h
  · cases h
  · rename_i hb
    split at h
    · cases h
    · rename_i l hl
      split at h
      · rename_i he
        have : l = [] := by simpa using he
        subst this
        refine .inr (.inr ⟨cut_blank hl, ?_⟩)
        have hc := cut_paren hl
        unfold evalL
        rw [if_neg (by simp only [List.length_cons, List.length_append, List.length_nil]; omega), hc]
        rfl
      · split at h
        · cases h
        · rename_i hne t ht
          have hc := cut_paren hl
          unfold evalL
          rw [if_neg (by simp only [List.length_cons, List.length_append, List.length_nil]; omega), hc]
          dsimp only
          rw [if_neg (by simp)]
          rcases read_paren ht with h1 | h1
          · rw [h1]; exact .inl h
          · rw [h1]; exact .inr (.inl rfl)
theorem paren_cat (s : ByteArray) : (⟨#[32, 40]⟩ : ByteArray) ++ s ++ ⟨#[41, 10, 9]⟩ = nm (32 :: 40 :: (s.data.toList ++ [41, 10, 9])) := by
  rw [cat_bs, cat_bs, nm_data]
  rfl
set_option maxRecDepth 100000 in
set_option maxHeartbeats 3200000 in
theorem alone_out (s : ByteArray) (vs : Vs) (v : Value) (w : World) (hs : s.size ≤ maxLen) (hv : VaX w v vs) (hg : SigIn w) (h : 2000 < s.size ∨ 64 < vs.length) :
    Calls Tryd.prog 4 #[.string s, v] w fun e w' => e = .returned (.bool true) ∧ Below w.heap.size w w' := by
  have HA := Lib.hid (awake_any w hg)
  unfold maxLen at hs
  obtain ⟨A, c, rfl, hvl⟩ := hv.form
  generalize vs.length = n at *
  clear hg hv
  by_cases h1 : 2000 < s.size
  · clear h
    go_enter Tryd.func4, Tryd.ntmps4
    go_wp2_with fail
    refine HA.out.mono ?_
    rintro e W ⟨rfl, hb⟩
    have HB := Lib.hid hb
    clear hb
    go_wp2_with fail
    go_ret
    exact ⟨rfl, HB.out⟩
  · have h2 : 64 < n := by omega
    have h3 : s.size ≤ 2000 := by omega
    clear h h1
    go_enter Tryd.func4, Tryd.ntmps4
    go_wp2_with fail
    refine HA.out.mono ?_
    rintro e W ⟨rfl, hb⟩
    have HB := Lib.hid hb
    clear hb
    go_wp2_with fail
    go_ret
    exact ⟨rfl, HB.out⟩
set_option maxRecDepth 100000 in
set_option maxHeartbeats 3200000 in
theorem alone_err (s : ByteArray) (vs : Vs) (v : Value) (w : World) (hv : VaIn w v vs) (hg : SigIn w) (h1 : s.size ≤ 2000) (h2 : vs.length ≤ 64) (er : Int) (hm : evalL s.data.toList vs = .error er) :
    Calls Tryd.prog 4 #[.string s, v] w fun e w' => e = .returned (.bool true) ∧ Below w.heap.size w w' := by
  have hE1 := eval_any s.data.toList vs v w hg hv (by rw [← sizeD]; omega)
  rw [nm_of] at hE1
  have hE2 : Hid (∀ W, Below w.heap.size w W → Calls Tryd.prog 8 #[.string ((⟨#[32, 40]⟩ : ByteArray) ++ s ++ ⟨#[41, 10, 9]⟩), v] W (EvPost (evalL (32 :: 40 :: (s.data.toList ++ [41, 10, 9])) vs) W)) := Lib.hid (fun W hb => by
    rw [paren_cat]
    exact eval_any _ vs v W (hg.below hb) (hv.below hb) (by simp only [List.length_cons, List.length_append, List.length_nil]; rw [← sizeD]; omega))
  have HAW := Lib.hid (fun W hb => awake_any W (hg.below hb))
  have k1 := cat_two ⟨#[32, 40]⟩ s (by show 2 + s.size ≤ _; omega)
  have k2 := cat_two ((⟨#[32, 40]⟩ : ByteArray) ++ s) ⟨#[41, 10, 9]⟩ (by rw [ByteArray.size_append]; show 2 + s.size + 3 ≤ _; omega)
  obtain ⟨A, c, rfl⟩ := hv.form
  rw [hm] at hE1
  have HE1 := Lib.hid hE1
  have HE2 := hE2
  clear hm hE2
  generalize vs.length = n at *
  generalize ((⟨#[32, 40]⟩ : ByteArray) ++ s ++ ⟨#[41, 10, 9]⟩) = T at *
  generalize ((⟨#[32, 40]⟩ : ByteArray) ++ s) = T1 at *
  clear hg hv hE1
  go_enter Tryd.func4, Tryd.ntmps4
  go_wp2_with fail
  refine HE1.out.mono ?_
  rintro e W1 ⟨hb1, h0, rfl⟩
  have B1 := Lib.hid hb1
  have q1 : (er == 0) = false := by simpa using h0
  have q2 : (er != 0) = true := by simpa using h0
  clear hb1 h0
  go_wp2_with fail
  refine (HE2.out W1 B1.out).mono ?_
  intro e W2 hP
  obtain ⟨hb2, n2, A2, j2, c2, x2, rfl⟩ := hP.form
  have BL := Lib.hid (B1.out.trans (hb2.mono B1.out.size))
  clear hb2 hP
  go_wp2_with fail
  go_loop [11, 12] (fun x y => ∃ (b : Bool) (k : Nat), x = .bool b ∧ y = .int .i64 k ∧ k ≤ s.size ∧ Hid (b = (s.data.toList.take k).all blankA)) (fun _ y => s.size - (intOf y).toNat)
  case atStart => exact ⟨true, 0, rfl, rfl, by omega, Lib.hid (by rw [List.take_zero]; rfl)⟩
  case round =>
    obtain ⟨b, k, rfl, rfl, hk, HBL⟩ := hrel
    by_cases hlt : k < s.size
    · have hd := Wd.get_at s k hlt
      have htk : s.data.toList.take (k + 1) = s.data.toList.take k ++ [s[k]] := by
        rw [List.take_succ_eq_append_getElem (by rw [← sizeD]; exact hlt)]
        rfl
      cases b with
      | false =>
        have HN : Hid (false = (s.data.toList.take (k + 1)).all blankA) := Lib.hid (by rw [htk, List.all_append, ← HBL.out]; rfl)
        clear hd htk
        go_wp2_with fail
        go_round
        case rel => exact ⟨false, k + 1, rfl, by go_num, by omega, HN⟩
        case measure => simp [intOf]; omega
      | true =>
        have q32 : ((s[k].toNat : Int) == 32) = decide (s[k] = 32) := bt s[k] 32 (by decide)
        have q9 : ((s[k].toNat : Int) == 9) = decide (s[k] = 9) := bt s[k] 9 (by decide)
        have q10 : ((s[k].toNat : Int) == 10) = decide (s[k] = 10) := bt s[k] 10 (by decide)
        have HN : Hid ((decide (s[k] = 32) || (decide (s[k] = 9) || decide (s[k] = 10))) = (s.data.toList.take (k + 1)).all blankA) := Lib.hid (by
          rw [htk, List.all_append, ← HBL.out]
          show _ = (true && (blankA s[k] && true))
          unfold blankA
          rw [Bool.eq_iff_iff]; simp [or_assoc])
        clear hd htk
        generalize decide (s[k] = 32) = b1 at *
        generalize decide (s[k] = 9) = b2 at *
        generalize decide (s[k] = 10) = b3 at *
        cases b1 <;> cases b2 <;> cases b3
        all_goals
          go_wp2_with fail
          go_round
          case rel => exact ⟨_, k + 1, rfl, by go_num, by omega, by first | exact HN⟩
          case measure => simp [intOf]; omega
    · obtain rfl : k = s.size := by omega
      clear HBL
      go_wp2_with fail
      refine (HAW.out _ BL.out).mono ?_
      rintro e W3 ⟨rfl, hb3⟩
      have B3 := Lib.hid (BL.out.trans (hb3.mono BL.out.size))
      clear hb3
      go_wp2_with fail
      go_ret
      exact ⟨rfl, B3.out⟩
set_option maxRecDepth 100000 in
set_option maxHeartbeats 3200000 in
theorem alone_same (s : ByteArray) (vs : Vs) (v : Value) (w : World) (hv : VaIn w v vs) (hg : SigIn w) (h1 : s.size ≤ 2000) (h2 : vs.length ≤ 64) (k : Int) (vs2 : Vs) (hm : evalL s.data.toList vs = .ok (k, vs2)) (hm2 : evalL (32 :: 40 :: (s.data.toList ++ [41, 10, 9])) vs = .ok (k, vs2)) :
    Calls Tryd.prog 4 #[.string s, v] w fun e w' => e = .returned (.bool true) ∧ Below w.heap.size w w' := by
  have hE1 := eval_any s.data.toList vs v w hg hv (by rw [← sizeD]; omega)
  rw [nm_of] at hE1
  have hE2 : Hid (∀ W, Below w.heap.size w W → Calls Tryd.prog 8 #[.string ((⟨#[32, 40]⟩ : ByteArray) ++ s ++ ⟨#[41, 10, 9]⟩), v] W (EvPost (evalL (32 :: 40 :: (s.data.toList ++ [41, 10, 9])) vs) W)) := Lib.hid (fun W hb => by
    rw [paren_cat]
    exact eval_any _ vs v W (hg.below hb) (hv.below hb) (by simp only [List.length_cons, List.length_append, List.length_nil]; rw [← sizeD]; omega))
  have HAW := Lib.hid (fun W hb => awake_any W (hg.below hb))
  have k1 := cat_two ⟨#[32, 40]⟩ s (by show 2 + s.size ≤ _; omega)
  have k2 := cat_two ((⟨#[32, 40]⟩ : ByteArray) ++ s) ⟨#[41, 10, 9]⟩ (by rw [ByteArray.size_append]; show 2 + s.size + 3 ≤ _; omega)
  obtain ⟨A, c, rfl⟩ := hv.form
  rw [hm] at hE1
  rw [hm2] at hE2
  have HE1 := Lib.hid hE1
  have HE2 := hE2
  have HVS := Lib.hid (fun x y W => vars_same vs2 x y W)
  clear hm hm2 hE2
  generalize vs.length = n at *
  generalize ((⟨#[32, 40]⟩ : ByteArray) ++ s ++ ⟨#[41, 10, 9]⟩) = T at *
  generalize ((⟨#[32, 40]⟩ : ByteArray) ++ s) = T1 at *
  clear hg hv hE1
  go_enter Tryd.func4, Tryd.ntmps4
  go_wp2_with fail
  refine HE1.out.mono ?_
  rintro e W1 ⟨hb1, _, v1, rfl, hv1, _⟩
  obtain ⟨A1, c1, rfl⟩ := hv1.form
  have B1 := Lib.hid hb1
  have V1 := Lib.hid hv1
  clear hb1
  go_wp2_with fail
  refine (HE2.out W1 B1.out).mono ?_
  rintro e W2 ⟨hb2, _, v2, rfl, hv2, _⟩
  obtain ⟨A2, c2, rfl⟩ := hv2.form
  have B2 := Lib.hid (B1.out.trans (hb2.mono B1.out.size))
  have V2 := Lib.hid hv2
  have X1 := Lib.hid (V1.out.below hb2)
  clear hb2 hv1 hv2
  obtain ⟨nn, hnn⟩ : ∃ nn, vs2.length = nn := ⟨_, rfl⟩
  rw [hnn] at V2 X1
  rw [hnn]
  clear hnn
  go_wp2_with fail
  refine (HVS.out _ _ W2 X1.out V2.out).mono ?_
  rintro e W3 ⟨rfl, n3, rfl⟩
  have B3 := Lib.hid (show Below w.heap.size w (W2.drewN n3) from B2.out.trans ⟨rfl, rfl, rfl, Nat.le_refl _, fun _ _ => rfl⟩)
  go_wp2_with fail
  refine (HAW.out _ B3.out).mono ?_
  rintro e W4 ⟨rfl, hb4⟩
  have B4 := Lib.hid (B3.out.trans (hb4.mono B3.out.size))
  clear hb4
  go_wp2_with fail
  go_ret
  exact ⟨rfl, B4.out⟩
set_option maxRecDepth 100000 in
set_option maxHeartbeats 3200000 in
theorem alone_deep (s : ByteArray) (vs : Vs) (v : Value) (w : World) (hv : VaIn w v vs) (hg : SigIn w) (h1 : s.size ≤ 2000) (h2 : vs.length ≤ 64) (k : Int) (vs2 : Vs) (hm : evalL s.data.toList vs = .ok (k, vs2)) (hm2 : evalL (32 :: 40 :: (s.data.toList ++ [41, 10, 9])) vs = .error 63) :
    Calls Tryd.prog 4 #[.string s, v] w fun e w' => e = .returned (.bool true) ∧ Below w.heap.size w w' := by
  have hE1 := eval_any s.data.toList vs v w hg hv (by rw [← sizeD]; omega)
  rw [nm_of] at hE1
  have hE2 : Hid (∀ W, Below w.heap.size w W → Calls Tryd.prog 8 #[.string ((⟨#[32, 40]⟩ : ByteArray) ++ s ++ ⟨#[41, 10, 9]⟩), v] W (EvPost (evalL (32 :: 40 :: (s.data.toList ++ [41, 10, 9])) vs) W)) := Lib.hid (fun W hb => by
    rw [paren_cat]
    exact eval_any _ vs v W (hg.below hb) (hv.below hb) (by simp only [List.length_cons, List.length_append, List.length_nil]; rw [← sizeD]; omega))
  have HAW := Lib.hid (fun W hb => awake_any W (hg.below hb))
  have k1 := cat_two ⟨#[32, 40]⟩ s (by show 2 + s.size ≤ _; omega)
  have k2 := cat_two ((⟨#[32, 40]⟩ : ByteArray) ++ s) ⟨#[41, 10, 9]⟩ (by rw [ByteArray.size_append]; show 2 + s.size + 3 ≤ _; omega)
  obtain ⟨A, c, rfl⟩ := hv.form
  rw [hm] at hE1
  rw [hm2] at hE2
  have HE1 := Lib.hid hE1
  have HE2 := hE2
  clear hm hm2 hE2
  generalize vs.length = n at *
  generalize ((⟨#[32, 40]⟩ : ByteArray) ++ s ++ ⟨#[41, 10, 9]⟩) = T at *
  generalize ((⟨#[32, 40]⟩ : ByteArray) ++ s) = T1 at *
  clear hg hv hE1
  go_enter Tryd.func4, Tryd.ntmps4
  go_wp2_with fail
  refine HE1.out.mono ?_
  rintro e W1 ⟨hb1, _, v1, rfl, hv1, _⟩
  obtain ⟨A1, c1, rfl⟩ := hv1.form
  have B1 := Lib.hid hb1
  have V1 := Lib.hid hv1
  clear hb1
  go_wp2_with fail
  refine (HE2.out W1 B1.out).mono ?_
  rintro e W2 ⟨hb2, _, rfl⟩
  have BL := Lib.hid (B1.out.trans (hb2.mono B1.out.size))
  clear hb2 hv1
  generalize vs2.length = nn at *
  go_wp2_with fail
  go_loop [11, 12] (fun x y => ∃ (b : Bool) (k : Nat), x = .bool b ∧ y = .int .i64 k ∧ k ≤ s.size ∧ Hid (b = (s.data.toList.take k).all blankA)) (fun _ y => s.size - (intOf y).toNat)
  case atStart => exact ⟨true, 0, rfl, rfl, by omega, Lib.hid (by rw [List.take_zero]; rfl)⟩
  case round =>
    obtain ⟨b, k, rfl, rfl, hk, HBL⟩ := hrel
    by_cases hlt : k < s.size
    · have hd := Wd.get_at s k hlt
      have htk : s.data.toList.take (k + 1) = s.data.toList.take k ++ [s[k]] := by
        rw [List.take_succ_eq_append_getElem (by rw [← sizeD]; exact hlt)]
        rfl
      cases b with
      | false =>
        have HN : Hid (false = (s.data.toList.take (k + 1)).all blankA) := Lib.hid (by rw [htk, List.all_append, ← HBL.out]; rfl)
        clear hd htk
        go_wp2_with fail
        go_round
        case rel => exact ⟨false, k + 1, rfl, by go_num, by omega, HN⟩
        case measure => simp [intOf]; omega
      | true =>
        have q32 : ((s[k].toNat : Int) == 32) = decide (s[k] = 32) := bt s[k] 32 (by decide)
        have q9 : ((s[k].toNat : Int) == 9) = decide (s[k] = 9) := bt s[k] 9 (by decide)
        have q10 : ((s[k].toNat : Int) == 10) = decide (s[k] = 10) := bt s[k] 10 (by decide)
        have HN : Hid ((decide (s[k] = 32) || (decide (s[k] = 9) || decide (s[k] = 10))) = (s.data.toList.take (k + 1)).all blankA) := Lib.hid (by
          rw [htk, List.all_append, ← HBL.out]
          show _ = (true && (blankA s[k] && true))
          unfold blankA
          rw [Bool.eq_iff_iff]; simp [or_assoc])
        clear hd htk
        generalize decide (s[k] = 32) = b1 at *
        generalize decide (s[k] = 9) = b2 at *
        generalize decide (s[k] = 10) = b3 at *
        cases b1 <;> cases b2 <;> cases b3
        all_goals
          go_wp2_with fail
          go_round
          case rel => exact ⟨_, k + 1, rfl, by go_num, by omega, by first | exact HN⟩
          case measure => simp [intOf]; omega
    · obtain rfl : k = s.size := by omega
      clear HBL
      go_wp2_with fail
      refine (HAW.out _ BL.out).mono ?_
      rintro e W3 ⟨rfl, hb3⟩
      have B3 := Lib.hid (BL.out.trans (hb3.mono BL.out.size))
      clear hb3
      go_wp2_with fail
      go_ret
      exact ⟨rfl, B3.out⟩
set_option maxRecDepth 100000 in
set_option maxHeartbeats 3200000 in
theorem alone_blank (s : ByteArray) (vs : Vs) (v : Value) (w : World) (hv : VaIn w v vs) (hg : SigIn w) (h1 : s.size ≤ 2000) (h2 : vs.length ≤ 64) (k : Int) (vs2 : Vs) (hbl : s.data.toList.all blankA = true) (hm : evalL s.data.toList vs = .ok (k, vs2)) (hm2 : evalL (32 :: 40 :: (s.data.toList ++ [41, 10, 9])) vs = .error 61) :
    Calls Tryd.prog 4 #[.string s, v] w fun e w' => e = .returned (.bool true) ∧ Below w.heap.size w w' := by
  have hE1 := eval_any s.data.toList vs v w hg hv (by rw [← sizeD]; omega)
  rw [nm_of] at hE1
  have hE2 : Hid (∀ W, Below w.heap.size w W → Calls Tryd.prog 8 #[.string ((⟨#[32, 40]⟩ : ByteArray) ++ s ++ ⟨#[41, 10, 9]⟩), v] W (EvPost (evalL (32 :: 40 :: (s.data.toList ++ [41, 10, 9])) vs) W)) := Lib.hid (fun W hb => by
    rw [paren_cat]
    exact eval_any _ vs v W (hg.below hb) (hv.below hb) (by simp only [List.length_cons, List.length_append, List.length_nil]; rw [← sizeD]; omega))
  have HAW := Lib.hid (fun W hb => awake_any W (hg.below hb))
  have k1 := cat_two ⟨#[32, 40]⟩ s (by show 2 + s.size ≤ _; omega)
  have k2 := cat_two ((⟨#[32, 40]⟩ : ByteArray) ++ s) ⟨#[41, 10, 9]⟩ (by rw [ByteArray.size_append]; show 2 + s.size + 3 ≤ _; omega)
  obtain ⟨A, c, rfl⟩ := hv.form
  rw [hm] at hE1
  rw [hm2] at hE2
  have HE1 := Lib.hid hE1
  have HE2 := hE2
  have HBK := Lib.hid hbl
  clear hm hm2 hE2 hbl
  generalize vs.length = n at *
  generalize ((⟨#[32, 40]⟩ : ByteArray) ++ s ++ ⟨#[41, 10, 9]⟩) = T at *
  generalize ((⟨#[32, 40]⟩ : ByteArray) ++ s) = T1 at *
  clear hg hv hE1
  go_enter Tryd.func4, Tryd.ntmps4
  go_wp2_with fail
  refine HE1.out.mono ?_
  rintro e W1 ⟨hb1, _, v1, rfl, hv1, _⟩
  obtain ⟨A1, c1, rfl⟩ := hv1.form
  have B1 := Lib.hid hb1
  have V1 := Lib.hid hv1
  clear hb1
  go_wp2_with fail
  refine (HE2.out W1 B1.out).mono ?_
  rintro e W2 ⟨hb2, _, rfl⟩
  have BL := Lib.hid (B1.out.trans (hb2.mono B1.out.size))
  clear hb2 hv1
  generalize vs2.length = nn at *
  go_wp2_with fail
  go_loop [11, 12] (fun x y => ∃ (b : Bool) (k : Nat), x = .bool b ∧ y = .int .i64 k ∧ k ≤ s.size ∧ Hid (b = (s.data.toList.take k).all blankA)) (fun _ y => s.size - (intOf y).toNat)
  case atStart => exact ⟨true, 0, rfl, rfl, by omega, Lib.hid (by rw [List.take_zero]; rfl)⟩
  case round =>
    obtain ⟨b, k, rfl, rfl, hk, HBL⟩ := hrel
    by_cases hlt : k < s.size
    · have hd := Wd.get_at s k hlt
      have htk : s.data.toList.take (k + 1) = s.data.toList.take k ++ [s[k]] := by
        rw [List.take_succ_eq_append_getElem (by rw [← sizeD]; exact hlt)]
        rfl
      cases b with
      | false =>
        have HN : Hid (false = (s.data.toList.take (k + 1)).all blankA) := Lib.hid (by rw [htk, List.all_append, ← HBL.out]; rfl)
        clear hd htk
        go_wp2_with fail
        go_round
        case rel => exact ⟨false, k + 1, rfl, by go_num, by omega, HN⟩
        case measure => simp [intOf]; omega
      | true =>
        have q32 : ((s[k].toNat : Int) == 32) = decide (s[k] = 32) := bt s[k] 32 (by decide)
        have q9 : ((s[k].toNat : Int) == 9) = decide (s[k] = 9) := bt s[k] 9 (by decide)
        have q10 : ((s[k].toNat : Int) == 10) = decide (s[k] = 10) := bt s[k] 10 (by decide)
        have HN : Hid ((decide (s[k] = 32) || (decide (s[k] = 9) || decide (s[k] = 10))) = (s.data.toList.take (k + 1)).all blankA) := Lib.hid (by
          rw [htk, List.all_append, ← HBL.out]
          show _ = (true && (blankA s[k] && true))
          unfold blankA
          rw [Bool.eq_iff_iff]; simp [or_assoc])
        clear hd htk
        generalize decide (s[k] = 32) = b1 at *
        generalize decide (s[k] = 9) = b2 at *
        generalize decide (s[k] = 10) = b3 at *
        cases b1 <;> cases b2 <;> cases b3
        all_goals
          go_wp2_with fail
          go_round
          case rel => exact ⟨_, k + 1, rfl, by go_num, by omega, by first | exact HN⟩
          case measure => simp [intOf]; omega
    · obtain rfl : k = s.size := by omega
      obtain rfl : b = true := by
        have := HBL.out
        rw [List.take_of_length_le (by rw [← sizeD]; omega), HBK.out] at this
        exact this
      clear HBL
      go_wp2_with fail
      refine (HAW.out _ BL.out).mono ?_
      rintro e W3 ⟨rfl, hb3⟩
      have B3 := Lib.hid (BL.out.trans (hb3.mono BL.out.size))
      clear hb3
      go_wp2_with fail
      go_ret
      exact ⟨rfl, B3.out⟩
theorem alone_law (s : ByteArray) (vs : Vs) (v : Value) (w : World) (hs : s.size ≤ maxLen) (hv : VaX w v vs) (hg : SigIn w) :
    Calls Tryd.prog 4 #[.string s, v] w fun e w' => e = .returned (.bool true) ∧ Below w.heap.size w w' := by
  by_cases h : 2000 < s.size ∨ 64 < vs.length
  · exact alone_out s vs v w hs hv hg h
  · have h1 : s.size ≤ 2000 := by omega
    have h2 : vs.length ≤ 64 := by omega
    have hva := hv.va h2
    cases hm : evalL s.data.toList vs with
    | error er => exact alone_err s vs v w hva hg h1 h2 er hm
    | ok p =>
      obtain ⟨k, vs2⟩ := p
      rcases alone_more s.data.toList vs vs2 k (by rw [← sizeD]; exact h1) hm with h3 | h3 | ⟨h3, h4⟩
      · exact alone_same s vs v w hva hg h1 h2 k vs2 hm h3
      · exact alone_deep s vs v w hva hg h1 h2 k vs2 hm h3
      · exact alone_blank s vs v w hva hg h1 h2 k vs2 h3 hm h4
end Go.Proofs.YtdegkfnlafgheaaDoor.Ar
