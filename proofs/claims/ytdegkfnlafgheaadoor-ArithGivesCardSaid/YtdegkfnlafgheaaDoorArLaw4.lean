/- DERIVED. The law ArithGives walked. -/
import Derived.Test.YtdegkfnlafgheaaDoorArLaw3
namespace Go.Proofs.YtdegkfnlafgheaaDoor.Ar
open Go.RowKit
open PathM WdM ArM
open Go.Proofs.YtdegkfnlafgheaaDoor.Wd
open Go.Proofs.YtdegkfnlafgheaaDoor.NumM (textL)
set_option linter.unusedVariables false

theorem gift_cat (n s : ByteArray) : n ++ ⟨#[61]⟩ ++ s = nm (n.data.toList ++ 61 :: s.data.toList) := by
  rw [cat_bs, cat_bs, nm_data]
  congr 1
  simp
theorem str_neq (a b : Bs) : ((nm a).toList != (nm b).toList) = !decide (a = b) := by rw [bne, str_same]
set_option maxRecDepth 100000 in
set_option maxHeartbeats 3200000 in
theorem gives_out (s name : ByteArray) (vs : Vs) (v : Value) (w : World) (hs : s.size ≤ maxLen) (hn : name.size ≤ 4611686018427387904) (hv : VaX w v vs) (hg : SigIn w) (h : 2000 < s.size ∨ 64 ≤ vs.length ∨ isName name.data.toList = false) :
    Calls Tryd.prog 5 #[.string s, v, .string name] w fun e w' => e = .returned (.bool true) ∧ Below w.heap.size w w' := by
  have HA := Lib.hid (awake_any w hg)
  have HN := Lib.hid (fun W => rname_any name W hn)
  unfold maxLen at hs
  obtain ⟨A, c, rfl, hvl⟩ := hv.form
  generalize vs.length = n at *
  clear hg hv
  by_cases h1 : 2000 < s.size
  · clear h
    go_enter Tryd.func5, Tryd.ntmps5
    go_wp2_with fail
    refine HA.out.mono ?_
    rintro e W ⟨rfl, hb⟩
    have HB := Lib.hid hb
    clear hb
    go_wp2_with fail
    go_ret
    exact ⟨rfl, HB.out⟩
  · have h3 : s.size ≤ 2000 := by omega
    by_cases h2 : 64 ≤ n
    · clear h h1
      go_enter Tryd.func5, Tryd.ntmps5
      go_wp2_with fail
      refine HA.out.mono ?_
      rintro e W ⟨rfl, hb⟩
      have HB := Lib.hid hb
      clear hb
      go_wp2_with fail
      go_ret
      exact ⟨rfl, HB.out⟩
    · have h4 : n < 64 := by omega
      have h5 : isName name.data.toList = false := by
        rcases h with h | h | h
        · omega
        · omega
        · exact h
      rw [h5] at HN
      clear h h1 h2 h5
      go_enter Tryd.func5, Tryd.ntmps5
      go_wp2_with (go_at_call 11; refine (HN.out _).mono ?_; rintro e W0 ⟨rfl, rfl⟩)
      refine HA.out.mono ?_
      rintro e W ⟨rfl, hb⟩
      have HB := Lib.hid hb
      clear hb
      go_wp2_with fail
      go_ret
      exact ⟨rfl, HB.out⟩
set_option maxRecDepth 100000 in
set_option maxHeartbeats 3200000 in
theorem gives_err (s name : ByteArray) (vs : Vs) (v : Value) (w : World) (hv : VaIn w v vs) (hg : SigIn w) (h1 : s.size ≤ 2000) (h2 : vs.length < 64) (hn : isName name.data.toList = true) (er : Int) (hm : evalL s.data.toList vs = .error er) :
    Calls Tryd.prog 5 #[.string s, v, .string name] w fun e w' => e = .returned (.bool true) ∧ Below w.heap.size w w' := by
  have hnl : name.size ≤ 64 := by rw [sizeD]; exact (name_parts hn).1
  have hE1 := eval_any s.data.toList vs v w hg hv (by rw [← sizeD]; omega)
  rw [nm_of] at hE1
  have hE2 : Hid (∀ W, Below w.heap.size w W → Calls Tryd.prog 8 #[.string (name ++ ⟨#[61]⟩ ++ s), v] W (EvPost (evalL (name.data.toList ++ 61 :: s.data.toList) vs) W)) := Lib.hid (fun W hb => by
    rw [gift_cat]
    exact eval_any _ vs v W (hg.below hb) (hv.below hb) (by simp only [List.length_cons, List.length_append]; rw [← sizeD, ← sizeD]; omega))
  have hE3 : Hid (∀ W v2 vs2, Below w.heap.size w W → VaIn W v2 vs2 → Calls Tryd.prog 8 #[.string name, v2] W (EvPost (evalL name.data.toList vs2) W)) := Lib.hid (fun W v2 vs2 hb hv2 => by
    have := eval_any name.data.toList vs2 v2 W (hg.below hb) hv2 (by rw [← sizeD]; omega)
    rwa [nm_of] at this)
  have HN := Lib.hid (fun W => rname_any name W (by omega))
  rw [hn] at HN
  have HAW := Lib.hid (fun W hb => awake_any W (hg.below hb))
  have k1 := cat_two name ⟨#[61]⟩ (by show name.size + 1 ≤ _; omega)
  have k2 := cat_two (name ++ ⟨#[61]⟩) s (by rw [ByteArray.size_append]; show name.size + 1 + s.size ≤ _; omega)
  obtain ⟨A, c, rfl⟩ := hv.form
  rw [hm] at hE1
  have HE1 := Lib.hid hE1
  have HE2 := hE2
  clear hm hE2 hE3
  generalize vs.length = n at *
  generalize (name ++ (⟨#[61]⟩ : ByteArray) ++ s) = T at *
  generalize (name ++ (⟨#[61]⟩ : ByteArray)) = T1 at *
  clear hg hv hE1 hn
  go_enter Tryd.func5, Tryd.ntmps5
  go_wp2_with (go_at_call 11; refine (HN.out _).mono ?_; rintro e W0 ⟨rfl, rfl⟩)
  refine HE1.out.mono ?_
  rintro e W1 ⟨hb1, h0, rfl⟩
  have B1 := Lib.hid hb1
  have q1 : (er == 0) = false := by simpa using h0
  have q2 : (er != 0) = true := by simpa using h0
  clear hb1 h0
  go_wp2_with fail
  refine (HE2.out W1 B1.out).mono ?_
  intro e W2 hP
  obtain ⟨hb2, n2, A2, j2, c2, x2, rfl⟩ := hP.form
  have BL := Lib.hid (B1.out.trans (hb2.mono B1.out.size))
  clear hb2 hP
  go_wp2_with fail
  refine (HAW.out _ BL.out).mono ?_
  rintro e W9 ⟨rfl, hb9⟩
  have B9 := Lib.hid (BL.out.trans (hb9.mono BL.out.size))
  clear hb9
  go_wp2_with fail
  go_ret
  exact ⟨rfl, B9.out⟩
set_option maxRecDepth 100000 in
set_option maxHeartbeats 3200000 in
theorem gives_bad (s name : ByteArray) (vs : Vs) (v : Value) (w : World) (hv : VaIn w v vs) (hg : SigIn w) (h1 : s.size ≤ 2000) (h2 : vs.length < 64) (hn : isName name.data.toList = true) (k : Int) (vs2 : Vs) (hm : evalL s.data.toList vs = .ok (k, vs2)) (er : Int) (hm2 : evalL (name.data.toList ++ 61 :: s.data.toList) vs = .error er) :
    Calls Tryd.prog 5 #[.string s, v, .string name] w fun e w' => e = .returned (.bool true) ∧ Below w.heap.size w w' := by
  have hnl : name.size ≤ 64 := by rw [sizeD]; exact (name_parts hn).1
  have hE1 := eval_any s.data.toList vs v w hg hv (by rw [← sizeD]; omega)
  rw [nm_of] at hE1
  have hE2 : Hid (∀ W, Below w.heap.size w W → Calls Tryd.prog 8 #[.string (name ++ ⟨#[61]⟩ ++ s), v] W (EvPost (evalL (name.data.toList ++ 61 :: s.data.toList) vs) W)) := Lib.hid (fun W hb => by
    rw [gift_cat]
    exact eval_any _ vs v W (hg.below hb) (hv.below hb) (by simp only [List.length_cons, List.length_append]; rw [← sizeD, ← sizeD]; omega))
  have hE3 : Hid (∀ W v2 vs2, Below w.heap.size w W → VaIn W v2 vs2 → Calls Tryd.prog 8 #[.string name, v2] W (EvPost (evalL name.data.toList vs2) W)) := Lib.hid (fun W v2 vs2 hb hv2 => by
    have := eval_any name.data.toList vs2 v2 W (hg.below hb) hv2 (by rw [← sizeD]; omega)
    rwa [nm_of] at this)
  have HN := Lib.hid (fun W => rname_any name W (by omega))
  rw [hn] at HN
  have HAW := Lib.hid (fun W hb => awake_any W (hg.below hb))
  have k1 := cat_two name ⟨#[61]⟩ (by show name.size + 1 ≤ _; omega)
  have k2 := cat_two (name ++ ⟨#[61]⟩) s (by rw [ByteArray.size_append]; show name.size + 1 + s.size ≤ _; omega)
  obtain ⟨A, c, rfl⟩ := hv.form
  rw [hm] at hE1
  rw [hm2] at hE2
  have HE1 := Lib.hid hE1
  have HE2 := hE2
  clear hm hm2 hE2 hE3
  generalize vs.length = n at *
  generalize (name ++ (⟨#[61]⟩ : ByteArray) ++ s) = T at *
  generalize (name ++ (⟨#[61]⟩ : ByteArray)) = T1 at *
  clear hg hv hE1 hn
  go_enter Tryd.func5, Tryd.ntmps5
  go_wp2_with (go_at_call 11; refine (HN.out _).mono ?_; rintro e W0 ⟨rfl, rfl⟩)
  refine HE1.out.mono ?_
  rintro e W1 ⟨hb1, hin, v1, rfl, hv1, _⟩
  obtain ⟨A1, c1, rfl⟩ := hv1.form
  have B1 := Lib.hid hb1
  have V1 := Lib.hid hv1
  have HIN := Lib.hid hin
  clear hb1 hin
  go_wp2_with fail
  refine (HE2.out W1 B1.out).mono ?_
  rintro e W2 ⟨hb2, h0, rfl⟩
  have BL := Lib.hid (B1.out.trans (hb2.mono B1.out.size))
  have q1 : (er == 0) = false := by simpa using h0
  have q2 : (er != 0) = true := by simpa using h0
  clear hb2 hv1 h0
  generalize vs2.length = nn at *
  go_wp2_with fail
  refine (HAW.out _ BL.out).mono ?_
  rintro e W9 ⟨rfl, hb9⟩
  have B9 := Lib.hid (BL.out.trans (hb9.mono BL.out.size))
  clear hb9
  go_wp2_with fail
  go_ret
  exact ⟨rfl, B9.out⟩
set_option maxRecDepth 100000 in
set_option maxHeartbeats 3200000 in
theorem gives_yes (s name : ByteArray) (vs : Vs) (v : Value) (w : World) (hv : VaIn w v vs) (hg : SigIn w) (h1 : s.size ≤ 2000) (h2 : vs.length < 64) (hn : isName name.data.toList = true) (k : Int) (vs2 vs3 : Vs) (hm : evalL s.data.toList vs = .ok (k, vs2)) (hm2 : evalL (name.data.toList ++ 61 :: s.data.toList) vs = .ok (k, vs3)) (hm3 : vs3.length ≤ 64 → In64 k → evalL name.data.toList vs3 = .ok (k, vs3)) (hle : vs2.length ≤ vs3.length) (hat : ∀ i (h : i < vs2.length) (h2 : i < vs3.length), vs2[i].1 ≠ name.data.toList → vs3[i] = vs2[i]) :
    Calls Tryd.prog 5 #[.string s, v, .string name] w fun e w' => e = .returned (.bool true) ∧ Below w.heap.size w w' := by
  have hnl : name.size ≤ 64 := by rw [sizeD]; exact (name_parts hn).1
  have hE1 := eval_any s.data.toList vs v w hg hv (by rw [← sizeD]; omega)
  rw [nm_of] at hE1
  have hE2 : Hid (∀ W, Below w.heap.size w W → Calls Tryd.prog 8 #[.string (name ++ ⟨#[61]⟩ ++ s), v] W (EvPost (evalL (name.data.toList ++ 61 :: s.data.toList) vs) W)) := Lib.hid (fun W hb => by
    rw [gift_cat]
    exact eval_any _ vs v W (hg.below hb) (hv.below hb) (by simp only [List.length_cons, List.length_append]; rw [← sizeD, ← sizeD]; omega))
  have hE3 : Hid (∀ W v2 vs2, Below w.heap.size w W → VaIn W v2 vs2 → Calls Tryd.prog 8 #[.string name, v2] W (EvPost (evalL name.data.toList vs2) W)) := Lib.hid (fun W v2 vs2 hb hv2 => by
    have := eval_any name.data.toList vs2 v2 W (hg.below hb) hv2 (by rw [← sizeD]; omega)
    rwa [nm_of] at this)
  have HN := Lib.hid (fun W => rname_any name W (by omega))
  rw [hn] at HN
  have HAW := Lib.hid (fun W hb => awake_any W (hg.below hb))
  have k1 := cat_two name ⟨#[61]⟩ (by show name.size + 1 ≤ _; omega)
  have k2 := cat_two (name ++ ⟨#[61]⟩) s (by rw [ByteArray.size_append]; show name.size + 1 + s.size ≤ _; omega)
  obtain ⟨A, c, rfl⟩ := hv.form
  rw [hm] at hE1
  rw [hm2] at hE2
  have HE1 := Lib.hid hE1
  have HE2 := hE2
  have HE3 : Hid (∀ W v2, Below w.heap.size w W → VaIn W v2 vs3 → vs3.length ≤ 64 → In64 k → Calls Tryd.prog 8 #[.string name, v2] W (EvPost (.ok (k, vs3)) W)) := Lib.hid (fun W v2 hb hv2 hl hi => by
    have := hE3.out W v2 vs3 hb hv2
    rwa [hm3 hl hi] at this)
  have HAT := Lib.hid hat
  have HLE := Lib.hid hle
  clear hm hm2 hE2 hE3 hm3 hat hle
  generalize vs.length = n at *
  generalize (name ++ (⟨#[61]⟩ : ByteArray) ++ s) = T at *
  generalize (name ++ (⟨#[61]⟩ : ByteArray)) = T1 at *
  clear hg hv hE1 hn
  go_enter Tryd.func5, Tryd.ntmps5
  go_wp2_with (go_at_call 11; refine (HN.out _).mono ?_; rintro e W0 ⟨rfl, rfl⟩)
  refine HE1.out.mono ?_
  rintro e W1 ⟨hb1, hin, v1, rfl, hv1, _⟩
  obtain ⟨A1, c1, rfl⟩ := hv1.form
  have B1 := Lib.hid hb1
  have V1 := Lib.hid hv1
  have HIN := Lib.hid hin
  clear hb1 hin
  go_wp2_with fail
  refine (HE2.out W1 B1.out).mono ?_
  rintro e W2 ⟨hb2, _, v2, rfl, hv2, hl3⟩
  obtain ⟨A2, c2, rfl⟩ := hv2.form
  have B2 := Lib.hid (B1.out.trans (hb2.mono B1.out.size))
  have V2 := Lib.hid hv2
  have X1 := Lib.hid (V1.out.below hb2)
  clear hb2 hv1 hv2
  obtain ⟨n2, hn2⟩ : ∃ n2, vs2.length = n2 := ⟨_, rfl⟩
  obtain ⟨n3, hn3⟩ : ∃ n3, vs3.length = n3 := ⟨_, rfl⟩
  have HN2 := Lib.hid hn2
  have HN3 := Lib.hid hn3
  have hle : n2 ≤ n3 := by have := HLE.out; omega
  have hl64 : n3 ≤ 64 := by omega
  rw [hn2] at X1
  rw [hn3] at V2
  rw [hn2, hn3]
  clear hn2 hn3 hl3 V1
  go_wp2_with fail
  refine (HE3.out W2 _ B2.out V2.out (by rw [HN3.out]; exact hl64) HIN.out).mono ?_
  rintro e W3 ⟨hb3, _, v3, rfl, hv3, _⟩
  obtain ⟨A3, c3, rfl⟩ := hv3.form
  have B3 := Lib.hid (B2.out.trans (hb3.mono B2.out.size))
  have V3 := Lib.hid (V2.out.below hb3)
  have X3 := Lib.hid (X1.out.below hb3)
  clear hb3 hv3
  rw [HN3.out]
  go_wp2_with fail
  go_loopw [16] (fun x wr => ∃ k j : Nat, x = .int .i64 k ∧ k ≤ n2 ∧ wr = W3.drewN j) (fun x _ => n2 - (intOf x).toNat)
  case atStart => exact ⟨0, 0, rfl, by omega, rfl⟩
  case round =>
    obtain ⟨i, j, rfl, hi, rfl⟩ := hrel
    by_cases hlt : i < n2
    · have hlt3 : i < n3 := by omega
      have hi2 : i < vs2.length := by rw [HN2.out]; exact hlt
      have hi3 : i < vs3.length := by rw [HN3.out]; exact hlt3
      obtain ⟨b1, o1, d1, e1, z1, x0, x1⟩ := X3.out.at i hi2
      obtain ⟨b2, o2, d2, e2, z2, y0, y1⟩ := V3.out.at i hi3
      simp only [Value.slice.injEq] at e1 e2
      obtain ⟨rfl, hx1, rfl⟩ := e1
      obtain ⟨rfl, hx2, rfl⟩ := e2
      clear hx1 hx2
      have hq := str_neq vs2[i].1 name.data.toList
      rw [nm_of name] at hq
      have hnext : ∀ j2, ∃ k_1 j_1 : Nat, Value.int .i64 ((i : Int) + 1) = .int .i64 k_1 ∧ k_1 ≤ n2 ∧ W3.drewN j2 = W3.drewN j_1 := fun j2 => ⟨i + 1, j2, by go_num, by omega, rfl⟩
      have HNX := Lib.hid hnext
      clear hnext
      by_cases hnm : vs2[i].1 = name.data.toList
      · rw [decide_eq_true hnm] at hq
        replace hq : ((nm vs2[i].1).toList != name.toList) = false := hq
        have hq2 : ((nm vs2[i].1).toList == name.toList) = true := by rw [hnm, nm_of]; simp
        generalize nm vs2[i].1 = X at *
        generalize nm vs2[i].2 = Y at *
        generalize nm vs3[i].1 = X' at *
        generalize nm vs3[i].2 = Y' at *
        clear hnm hi2 hi3
        go_wp2_with fail
        go_quiet (fail)
        go_wp2_with fail
        exact ⟨HNX.out _, by simp [intOf]; omega⟩
      · rw [decide_eq_false hnm] at hq
        replace hq : ((nm vs2[i].1).toList != name.toList) = true := hq
        have hq2 : ((nm vs2[i].1).toList == name.toList) = false := by simpa [bne] using hq
        have he := HAT.out i hi2 hi3 hnm
        rw [he] at y0 y1
        have hvs := var_same (nm vs2[i].1) (nm vs2[i].2)
        generalize nm vs2[i].1 = X at *
        generalize nm vs2[i].2 = Y at *
        clear hnm he hi2 hi3
        go_wp2_with fail
        go_quiet (fail)
        go_wp2_with fail
        exact ⟨HNX.out _, by simp [intOf]; omega⟩
    · obtain rfl : i = n2 := by omega
      have BL := Lib.hid (show Below w.heap.size w (W3.drewN j) from B3.out.trans ⟨rfl, rfl, rfl, Nat.le_refl _, fun _ _ => rfl⟩)
      go_wp2_with fail
      refine (HAW.out _ BL.out).mono ?_
      rintro e W9 ⟨rfl, hb9⟩
      have B9 := Lib.hid (BL.out.trans (hb9.mono BL.out.size))
      clear hb9
      go_wp2_with fail
      go_ret
      exact ⟨rfl, B9.out⟩
theorem gives_law (s : ByteArray) (vs : Vs) (v : Value) (name : ByteArray) (w : World) (hs : s.size ≤ maxLen) (hv : VaX w v vs) (hn : name.size ≤ 4611686018427387904) (hg : SigIn w) :
    Calls Tryd.prog 5 #[.string s, v, .string name] w fun e w' => e = .returned (.bool true) ∧ Below w.heap.size w w' := by
  by_cases h : 2000 < s.size ∨ 64 ≤ vs.length ∨ isName name.data.toList = false
  · exact gives_out s name vs v w hs hn hv hg h
  · have h1 : s.size ≤ 2000 := by omega
    have h2 : vs.length < 64 := by omega
    have h3 : isName name.data.toList = true := by
      cases hq : isName name.data.toList with
      | true => rfl
      | false => exact absurd (.inr (.inr hq)) h
    have hva := hv.va (by omega)
    cases hm : evalL s.data.toList vs with
    | error er => exact gives_err s name vs v w hva hg h1 h2 h3 er hm
    | ok p =>
      obtain ⟨k, vs2⟩ := p
      rcases gives_all s.data.toList name.data.toList vs vs2 k (by rw [← sizeD]; exact h1) h3 hm with ⟨er, h4⟩ | h4
      · exact gives_bad s name vs v w hva hg h1 h2 h3 k vs2 hm er h4
      · exact gives_yes s name vs v w hva hg h1 h2 h3 k vs2 _ hm h4 (fun hl hi => name_all _ vs2 k h3 hl hi.1 hi.2) (set_len _ _ _) (fun i h h2 h3 => set_at _ _ _ i h h2 h3)
theorem gives_row (s : ByteArray) (vs : Vs) (v : Value) (name : ByteArray) (w : World) (hs : s.size ≤ maxLen) (zs : s.data.toList.length ≤ reachBytes) (hv : VaX w v vs) (hn : name.size ≤ maxLen) (zn : name.data.toList.length ≤ reachBytes) (hg : SigIn w) :
    Calls Tryd.prog 5 #[.string s, v, .string name] w fun e w' => e = .returned (.bool true) ∧ Below w.heap.size w w' :=
  gives_law s vs v name w hs hv (by rw [sizeD]; unfold reachBytes at zn; omega) hg
end Go.Proofs.YtdegkfnlafgheaaDoor.Ar
