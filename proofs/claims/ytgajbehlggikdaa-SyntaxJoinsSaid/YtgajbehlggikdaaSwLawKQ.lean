/- DERIVED. The law SyntaxJoins, walked. -/
import Derived.Test.YtgajbehlggikdaaSwLawJQ
namespace Go.Proofs.Ytgajbehlggikdaa.Sw
open Go.RowKit Go.Sort
open PathM WdM SyM
open Go.Proofs.Ytgajbehlggikdaa.Wd
set_option linter.unusedVariables false

theorem listsN_len (v : Lv) : ∀ (n : Nat) (acc : List LiT) (l : Bs) (xs : List LiT) (r : Bs), listsN v n acc l = .ok xs r → xs.length ≤ acc.length + n
  | 0, acc, l, xs, r, h => by rw [listsN] at h; injection h with h1 h2; rw [← h1]; omega
  | n + 1, acc, l, xs, r, h => by
    rw [div_is] at h
    split at h
    · injection h with h1 h2; rw [← h1]; omega
    · split at h
      · injection h with h1 h2; rw [← h1]; omega
      · split at h
        · cases h
        · have := listsN_len v n _ _ _ _ h
          rw [List.length_append, List.length_singleton] at this
          omega
theorem parse_len {l r : Bs} {xs : List LiT} (h : parseL l = .ok xs r) : xs.length ≤ l.length + 2 := by
  have h : scriptL (listsL (lv 16)) l = .ok xs r := h
  unfold scriptL at h
  split at h
  · injection h with h1 h2; rw [← h1]; simp
  · split at h
    · cases h
    · rename_i x r1 h2
      have hx : xs = x := by
        split at h
        · injection h with h1 h3; exact h1.symm
        · unfold refuse at h; cases h
      subst hx
      unfold listsL at h2
      split at h2
      · unfold refuse at h2; cases h2
      · split at h2
        · cases h2
        · rename_i y r3 h4
          have h5 := listsN_len _ _ _ _ _ _ h2
          have h6 := (list_ext (lv_ok 16).command _ _ _ [] h4).2.1
          have h7 := newlines_le l
          have h8 := newlines_le (newlinesL l)
          rw [List.length_singleton] at h5
          omega
theorem ce_below {l : List LiT} {vss : List (List Value)} {A : Option Addr} {w w' : World} {B : Nat} (hb : Below B w w') (hB : w.heap.size ≤ B) (h : l ≠ [] → ∃ b off, A = some ⟨b, off, none⟩ ∧ ∀ j u, vss.flatten[j]? = some u → w.cell? ⟨b, off + j, none⟩ = some u) : l ≠ [] → ∃ b off, A = some ⟨b, off, none⟩ ∧ ∀ j u, vss.flatten[j]? = some u → w'.cell? ⟨b, off + j, none⟩ = some u := fun hne => by
  obtain ⟨b, off, hA, hc⟩ := h hne
  exact ⟨b, off, hA, fun j u hj => (World.cell?_of_block (hb.block b (Nat.lt_of_lt_of_le (World.block_lt_of_cell? _ _ (hc j u hj)) hB))).trans (hc j u hj)⟩
theorem grown_below {W w' : World} {o : Obj} {v : Value} {B : Nat} (hB : B ≤ W.heap.size) (hv : ∀ k, v.ownBlock = some k → B ≤ k) (hg : W.grownBy w' v.ownBlock) : Below B W w' :=
  (Kept.grown hg (fun k e => e) : Kept (fun k => v.ownBlock = some k) W w').below hB hv
set_option maxRecDepth 100000 in
set_option maxHeartbeats 6400000 in
theorem joins_law (s t : ByteArray) (w : World) (hm : s.size ≤ maxLen) (hm2 : t.size ≤ maxLen) :
    Calls Try.prog 4 #[.string s, .string t] w fun e w' => e = .returned (.bool true) ∧ Below w.heap.size w w' := by
  have hmx : s.size ≤ 9223372036854775807 ∧ t.size ≤ 9223372036854775807 := by unfold maxLen at hm hm2; omega
  have HAW := Lib.hid awake_any
  clear hm hm2
  by_cases h1 : 1500 < s.size
  · as_aux_lemma =>
      go_enter Try.func4, Try.ntmps4
      go_wp2_with (go_at_call 7; refine (HAW.out _).mono ?_; rintro e W ⟨rfl, hb⟩; have HB := Lib.hid hb; clear hb)
      go_ret
      exact ⟨rfl, HB.out⟩
  · by_cases h2 : 1500 < t.size
    · as_aux_lemma =>
        go_enter Try.func4, Try.ntmps4
        go_wp2_with (go_at_call 7; refine (HAW.out _).mono ?_; rintro e W ⟨rfl, hb⟩; have HB := Lib.hid hb; clear hb)
        go_ret
        exact ⟨rfl, HB.out⟩
    · clear hmx
      have hs1 : s.size ≤ 1500 := by omega
      have ht1 : t.size ≤ 1500 := by omega
      have hps := Parse_any s w (by omega)
      have hpt := fun W => Parse_any t W (by omega)
      unfold ParsePost at hps hpt
      clear h1 h2
      cases hp : parseL s.data.toList with
      | bad a er =>
        rw [hp] at hps
        have her := parse_err hp
        have HPX := Lib.hid hps
        clear hps hp
        cases hp2 : parseL t.data.toList with
        | bad a2 er2 =>
          as_aux_lemma =>
            rw [hp2] at hpt
            have HPT := Lib.hid hpt
            clear hpt hp2
            go_enter Try.func4, Try.ntmps4
            go_wp2_with fail
            refine HPX.out.mono ?_
            rintro e W ⟨hb, h9⟩
            have h9 : e = _ := h9
            subst h9
            have HB := Lib.hid hb
            clear hb
            go_wp2_with fail
            refine (HPT.out W).mono ?_
            rintro e W1 ⟨hb, h9⟩
            have h9 : e = _ := h9
            subst h9
            have HB1 := Lib.hid (HB.out.trans (hb.mono HB.out.size))
            clear hb
            go_wp2_with (go_at_call 7; refine (HAW.out _).mono ?_; rintro e W2 ⟨rfl, hb⟩; have HB2 := Lib.hid (HB1.out.trans (hb.mono HB1.out.size)); clear hb)
            go_ret
            exact ⟨rfl, HB2.out⟩
        | ok ys q2 =>
          as_aux_lemma =>
            rw [hp2] at hpt
            have HPT := Lib.hid hpt
            clear hpt hp2
            go_enter Try.func4, Try.ntmps4
            go_wp2_with fail
            refine HPX.out.mono ?_
            rintro e W ⟨hb, h9⟩
            have h9 : e = _ := h9
            subst h9
            have HB := Lib.hid hb
            clear hb
            go_wp2_with fail
            refine (HPT.out W).mono ?_
            rintro e W1 ⟨hb, v2, rfl, hv2⟩
            have HB1 := Lib.hid (HB.out.trans (hb.mono HB.out.size))
            clear hb hv2
            go_wp2_with (go_at_call 7; refine (HAW.out _).mono ?_; rintro e W2 ⟨rfl, hb⟩; have HB2 := Lib.hid (HB1.out.trans (hb.mono HB1.out.size)); clear hb)
            go_ret
            exact ⟨rfl, HB2.out⟩
      | ok xs q =>
        rw [hp] at hps
        have HPX := Lib.hid hps
        clear hps
        cases hp2 : parseL t.data.toList with
        | bad a2 er2 =>
          as_aux_lemma =>
            rw [hp2] at hpt
            have her := parse_err hp2
            have HPT := Lib.hid hpt
            clear hpt hp2 hp
            go_enter Try.func4, Try.ntmps4
            go_wp2_with fail
            refine HPX.out.mono ?_
            rintro e W ⟨hb, v1, rfl, hv1⟩
            have HB := Lib.hid hb
            clear hb hv1
            go_wp2_with fail
            refine (HPT.out W).mono ?_
            rintro e W1 ⟨hb, h9⟩
            have h9 : e = _ := h9
            subst h9
            have HB1 := Lib.hid (HB.out.trans (hb.mono HB.out.size))
            clear hb
            go_wp2_with (go_at_call 7; refine (HAW.out _).mono ?_; rintro e W2 ⟨rfl, hb⟩; have HB2 := Lib.hid (HB1.out.trans (hb.mono HB1.out.size)); clear hb)
            go_ret
            exact ⟨rfl, HB2.out⟩
        | ok ys q2 =>
          rw [hp2] at hpt
          have HPT := Lib.hid hpt
          obtain ⟨y1, e1, n1, c1⟩ := cat_any s ⟨#[10]⟩ 1500 1 hs1 (by decide) (by decide)
          obtain ⟨y2, e2, n2, c2⟩ := cat_any y1 t 1501 1500 n1 ht1 (by decide)
          have hpz := fun W => Parse_any y2 W (by omega)
          have hpy : parseL y2.data.toList = .ok (xs ++ ys) [] := by
            rw [show y2.data.toList = s.data.toList ++ 10 :: t.data.toList by rw [e2.out, e1.out]; simp]
            exact plain_joins hp hp2
          unfold ParsePost at hpz
          rw [hpy] at hpz
          have HPZ := Lib.hid hpz
          have hlx := parse_len hp
          have hly := parse_len hp2
          rw [← sizeD] at hlx hly
          clear hpt hp2 hp hpz hpy e1 e2
          go_enter Try.func4, Try.ntmps4
          go_wp2_with fail
          refine HPX.out.mono ?_
          rintro e W ⟨hb, v1, rfl, hv1⟩
          have HB := Lib.hid hb
          have HV1 := Lib.hid hv1
          clear hb hv1
          go_wp2_with fail
          refine (HPT.out W).mono ?_
          rintro e W1 ⟨hb, v2, rfl, hv2⟩
          have HB1 := Lib.hid (HB.out.trans (hb.mono HB.out.size))
          have HV1b := Lib.hid (lsJ_below hb HV1.out)
          have HV2 := Lib.hid hv2
          clear hb hv2 HV1 HB
          go_wp2_with fail
          refine (HPZ.out W1).mono ?_
          rintro e W2 ⟨hb, v3, rfl, hv3⟩
          obtain ⟨vs1, hc1, A1, d1, rfl, hl1, hcell1⟩ := ls_cells (lsJ_below hb HV1b.out)
          obtain ⟨vs2, hc2, A2, d2, rfl, hl2, hcell2⟩ := ls_cells (lsJ_below hb HV2.out)
          have HB2 := Lib.hid (HB1.out.trans (hb.mono HB1.out.size))
          have HV3 := Lib.hid hv3
          obtain ⟨A3, n3, d3, rfl⟩ := LsIn.form hv3
          clear hb hv3 HV1b HV2 HB1
          have hba : Below W2.heap.size W2 (W2.alloc (.cells #[] 33)) := (Below.refl _ _).alloc (Nat.le_refl _) _
          have HBA := Lib.hid hba
          have HO0 : Hid ((W2.alloc (.cells #[] 33)).ownsRow W2.heap.size 33 2 (.slice (some ⟨W2.heap.size, 0, none⟩) 0 0) 0 []) := Lib.hid ⟨rfl, .inr ⟨W2.heap.size, 0, #[], rfl, Nat.le_refl _, heap_alloc_new W2 _, Nat.le_refl _, by simp [maxLen], rfl, rfl⟩⟩
          have HC1 := Lib.hid (hc1.below hba)
          have HE1 := Lib.hid (ce_below hba (Nat.le_refl _) hcell1)
          have HC2 := Lib.hid hc2
          have HC0 := Lib.hid hc1
          have HE2 := Lib.hid hcell2
          obtain ⟨nx, hnx⟩ : ∃ nx, xs.length = nx := ⟨_, rfl⟩
          obtain ⟨ny, hny⟩ : ∃ ny, ys.length = ny := ⟨_, rfl⟩
          have HNX := Lib.hid hnx
          have HNY := Lib.hid hny
          rw [hnx] at hlx hl1 ⊢
          rw [hny] at hly hl2 ⊢
          clear hba hc1 hc2 hcell1 hcell2 hnx hny
          go_wp2_with (first
            | (at_builtin; refine wpList_app_ls _ _ rfl W2.heap.size 0 _ [] rfl HO0.out (by simp) A1 d1 nx rfl 17 vs1 xs HNX.out.symm HC1.out HE1.out (by omega) (by rfl) ?_; intro v4 w4 hown4 hg4; have HO4 := Lib.hid hown4; have HB4 := Lib.hid (HBA.out.trans ((grown_below (o := .cells #[] 33) (by simp) (fun k e => by injection e with e; have e : W2.heap.size = k := e; omega) hg4).mono (Nat.le_refl _))); clear hown4 hg4)
            | (at_builtin; refine wpList_app_ls _ _ rfl W2.heap.size (0 + nx) _ ([] ++ vs1.flatten) rfl HO4.out HB4.out.size A2 d2 ny rfl 17 vs2 ys HNY.out.symm (HC2.out.below HB4.out) (ce_below HB4.out (Nat.le_refl _) HE2.out) (by omega) (by rfl) ?_; intro v5 w5 hown5 hg5; have HO5 := Lib.hid hown5; have HB5 := Lib.hid (HB4.out.trans (grown_below (o := .cells #[] 33) HB4.out.size (fun k e => (HO4.out.lt k e).1) hg5)); clear hown5 hg5)
            | (go_at_call 9; refine Calls.mono (same_all 18 (xs ++ ys) _ v5 w5 _ _ (lsJ_below HB5.out HV3.out) (ls_of_row (vss := vs1 ++ vs2) (by rw [List.flatten_append]; exact HO5.out) ((HC0.out.app HC2.out).below HB5.out) (by rw [List.length_append]; have := HNX.out; have := HNY.out; omega) (by rw [List.length_append]; have := HNX.out; have := HNY.out; omega))) ?_; rintro e W6 ⟨rfl, hb⟩; have HB6 := Lib.hid ((HB2.out.trans (HB5.out.mono HB2.out.size)).trans (hb.mono (HB2.out.trans (HB5.out.mono HB2.out.size)).size)); clear hb)
            | (go_at_call 7; refine (HAW.out _).mono ?_; rintro e W7 ⟨rfl, hb⟩; have HB7 := Lib.hid (HB6.out.trans (hb.mono HB6.out.size)); clear hb))
          go_ret
          exact ⟨rfl, HB7.out⟩

end Go.Proofs.Ytgajbehlggikdaa.Sw
