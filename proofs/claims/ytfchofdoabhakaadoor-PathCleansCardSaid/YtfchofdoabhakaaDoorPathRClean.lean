/- DERIVED. Walks over the document's own answer for layer 3: Clean, Texts. -/
import Derived.Test.YtfchofdoabhakaaDoorPathRParts
namespace Go.Proofs.YtfchofdoabhakaaDoor
open Go.RowKit
open PathM
set_option linter.unusedVariables false

abbrev fR (L : List Bs) : List Bs := L.foldl stepR []
theorem fR_take (L : List Bs) (k : Nat) (h : k < L.length) : fR (L.take (k + 1)) = stepR (fR (L.take k)) L[k] := by
  show List.foldl stepR [] (L.take (k + 1)) = _
  rw [List.take_succ_eq_append_getElem h, List.foldl_append]; rfl
theorem fR_len (L : List Bs) : (fR L).length ≤ L.length := by
  unfold fR; rw [fold_stepR]
  have h1 := fold_len (L.filter fun n => !n.isEmpty) []
  have h2 : (L.filter fun n => !n.isEmpty).length ≤ L.length := List.length_filter_le _ _
  simp at h1; omega

/-- What the first loop of Clean holds. -/
def RCRel (L : List Bs) (w1 : World) (v i : Value) (wr : World) : Prop :=
  ∃ k : Nat, k ≤ L.length ∧ i = .int .i64 k ∧ wr.ownsRow w1.heap.size 9 1 v (fR (L.take k)).length ((fR (L.take k)).map enc) ∧ Below w1.heap.size w1 wr

theorem str_eq (x : Bs) (y : Bs) : ((nm x).toList == y) = (x == y) := toList_beq x y

theorem flatS_app (a b : List Bs) : flatS (a ++ b) = flatS a ++ flatS b := by simp [flatS]
theorem flatS_take_len (acc : List Bs) (k : Nat) : (flatS (acc.take k)).length ≤ (flatS acc).length := by
  have : flatS acc = flatS (acc.take k) ++ flatS (acc.drop k) := by
    rw [← flatS_app, List.take_append_drop]
  rw [this]; simp
theorem flatS_succ (acc : List Bs) (k : Nat) (h : k < acc.length) : flatS (acc.take (k + 1)) = flatS (acc.take k) ++ [47] ++ acc[k] := by
  rw [List.take_succ_eq_append_getElem h, flatS_snoc]; simp

set_option maxRecDepth 100000 in
set_option maxHeartbeats 4000000 in
theorem rclean_any (p : ByteArray) (w : World) (hs : p.size ≤ 100000) :
    Calls Tryd.prog 20 #[.string p] w fun e w' => e = .returned (.string (nm (cleanL p.data.toList))) ∧ Below w.heap.size w w' := by
  have hL := sizeD p
  have hbt := fun w => rbetween_any p w (by omega)
  unfold BtwPost at hbt
  have hml := btw_len p.data.toList
  have hrl := rootJ_len p.data.toList
  rw [← hL] at hml hrl
  have hcl : cleanL p.data.toList = rootJ (fR (btw p.data.toList)) := by
    show rootJ (cleanNs p.data.toList) = _
    rw [← fold_btw]
  rw [hcl] at hrl ⊢
  clear hcl
  obtain ⟨i0, hi, hz0, hz1, hz2⟩ := info_parts info9
  have HI0 := Lib.hid hi; have HZ0 := Lib.hid hz0; have HZ1 := Lib.hid hz1; have HZ2 := Lib.hid hz2; clear hi hz0 hz1 hz2
  have HT := Lib.hid hbt; clear hbt hL
  generalize btw p.data.toList = L at *
  go_enter Tryd.func20, Tryd.ntmps20
  go_wp2_with fail
  refine (HT.out _).mono ?_
  rintro e w1 ⟨g, cap, rfl, hrow, hb1⟩
  have hcells : ∀ (k : Nat) (h : k < L.length), w1.cell? ⟨g, k, none⟩ = some (.string (nm L[k])) := fun k h => by
    have := ownsRow_cell hrow k (enc L[k]) (by rw [List.getElem?_map, List.getElem?_eq_getElem h]; rfl)
    rw [Nat.zero_add] at this; exact this
  have hcap : L.length ≤ cap ∧ cap ≤ maxLen ∧ g < w1.heap.size := by
    rcases ownsRow_two hrow with ⟨e1, _⟩ | ⟨g', cap', e1, hkc, hcm, hg1, hg2⟩
    · cases e1
    · cases e1; exact ⟨hkc, hcm, hg1⟩
  obtain ⟨hcap1, hcap2, hg⟩ := hcap
  have hle1 := hb1.size
  have HCE := Lib.hid hcells; clear hcells hrow
  have hst : RCRel L w1 (.slice none 0 0) (.int .i64 0) w1 := ⟨0, by omega, rfl, World.ownsRow_nil _ _ _ _, Below.refl _ _⟩
  go_wp2_with fail
  go_loopw [3, 5] (fun v i wr => RCRel L w1 v i wr) (fun _ i _ => L.length - (intOf i).toNat)
  case atStart => exact hst
  case round =>
    clear hst
    obtain ⟨k, hk, rfl, hown, hB⟩ := hrel
    have hle := hB.size
    have hfl := fR_len (L.take k)
    rw [List.length_take] at hfl
    by_cases hlt : k < L.length
    · have hc := HCE.out k hlt
      have hcw := (hB.cell (p := ⟨g, k, none⟩) hg).trans hc
      have hft := fR_take L k hlt
      obtain ⟨x, hx⟩ : ∃ x, L[k] = x := ⟨_, rfl⟩
      rw [hx] at hft hcw
      clear hc hx
      have b1 := str_eq x [46]
      have b2 := str_eq x [46, 46]
      have n2 : ((nm x).toList != [46, 46]) = !(x == [46, 46]) := by rw [bne, b2]
      by_cases hxe : x = []
      · have e1 := emp_yes (b := nm x) (by rw [nm_data]; exact hxe)
        have hst : fR (L.take (k + 1)) = fR (L.take k) := by rw [hft]; unfold stepR; rw [if_pos (.inl hxe)]
        have HF := Lib.hid hst; clear hst hft hxe b1 b2 n2
        go_wp2
        go_roundw
        case rel => exact ⟨k + 1, by omega, by go_num, by rw [HF.out]; exact hown, hB⟩
        case measure => simp [intOf]; omega
      · have e1 := emp_no (b := nm x) (by rw [nm_data]; exact hxe)
        by_cases h1 : x = [46]
        · have q1 : ((nm x).toList == [46]) = true := by rw [b1, h1]; rfl
          have hst : fR (L.take (k + 1)) = fR (L.take k) := by rw [hft]; unfold stepR; rw [if_pos (.inr h1)]
          have HF := Lib.hid hst; clear hst hft hxe b1 b2 n2 h1
          go_wp2
          go_roundw
          case rel => exact ⟨k + 1, by omega, by go_num, by rw [HF.out]; exact hown, hB⟩
          case measure => simp [intOf]; omega
        · have q1 : ((nm x).toList == [46]) = false := by rw [b1]; exact beq_eq_false_iff_ne.2 h1
          by_cases h2 : x = [46, 46]
          · have q2 : ((nm x).toList == [46, 46]) = true := by rw [b2, h2]; rfl
            have q3 : ((nm x).toList != [46, 46]) = false := by rw [n2, h2]; rfl
            have hst : fR (L.take (k + 1)) = (fR (L.take k)).dropLast := by
              rw [hft]; unfold stepR; rw [if_neg (by rintro (h | h); exact hxe h; exact h1 h), if_neg (by simp [h2])]
            have HF := Lib.hid hst; clear hst hft hxe b1 b2 n2 h1 h2
            have hdm := dropLast_map (fR (L.take k))
            have hdl : (fR (L.take k)).dropLast.length = (fR (L.take k)).length - 1 := List.length_dropLast
            obtain ⟨acc, hacc⟩ : ∃ acc, fR (L.take k) = acc := ⟨_, rfl⟩
            rw [hacc] at HF hdm hdl hown hfl
            obtain ⟨n, hn⟩ : ∃ n, acc.length = n := ⟨_, rfl⟩
            rw [hn] at hdm hdl hown hfl
            have HDM := Lib.hid hdm; have HDL := Lib.hid hdl; have HN := Lib.hid hn; have HA := Lib.hid hacc; clear hdm hdl hn hacc
            rcases ownsRow_two hown with ⟨rfl, hk0⟩ | ⟨g2, cap2, rfl, hkc, hcm, hg1, hg2⟩
            · subst hk0
              go_wp2
              go_roundw
              case rel => exact ⟨k + 1, by omega, by go_num, by rw [HF.out, HDL.out, ← HDM.out]; exact World.ownsRow_nil _ _ _ _, hB⟩
              case measure => simp [intOf]; omega
            · by_cases hk0 : n = 0
              · subst hk0
                go_wp2
                go_roundw
                case rel => exact ⟨k + 1, by omega, by go_num, by rw [HF.out, HDL.out, ← HDM.out]; exact ownsRow_cut hown (by omega), hB⟩
                case measure => simp [intOf]; omega
              · obtain ⟨j, rfl⟩ : ∃ j, n = j + 1 := ⟨n - 1, by omega⟩
                go_wp2
                go_roundw
                case rel => exact ⟨k + 1, by omega, by go_num, by rw [HF.out, HDL.out, ← HDM.out]; exact ownsRow_cut hown (by omega), hB⟩
                case measure => simp [intOf]; omega
          · have q2 : ((nm x).toList == [46, 46]) = false := by rw [b2]; exact beq_eq_false_iff_ne.2 h2
            have q3 : ((nm x).toList != [46, 46]) = true := by rw [n2, beq_eq_false_iff_ne.2 h2]; rfl
            have hst : fR (L.take (k + 1)) = fR (L.take k) ++ [x] := by
              rw [hft]; unfold stepR; rw [if_neg (by rintro (h | h); exact hxe h; exact h1 h), if_pos h2]
            have HF := Lib.hid hst; clear hst hft hxe b1 b2 n2 h1 h2
            go_wp2_with (at_builtin; refine wpList_append_own _ rfl _ _ 24 rfl w1.heap.size 9 i0 (.string ByteArray.empty) 1 16 Tryd.underlying24 HI0.out HZ0.out HZ1.out HZ2.out rfl (by decide) _ _ _ rfl (hown.alloc _) ⟨wr.heap.size, 0, none⟩ 1 1 [.string (nm x)] rfl rfl (cell_one_new _ _ _) (by simp [Value.oneCell']) (by unfold maxLen; omega) (by omega) (by simp; omega) ?_; intro v' w2 hown' hgrow _)
            have hB1 := (hB.alloc hle _).grown hgrow (by simp; omega) (fun j e => (hown.lt j e).1)
            go_roundw
            case rel => exact ⟨k + 1, by omega, by go_num, by rw [HF.out, enc_snoc, List.length_append]; exact hown', hB1⟩
            case measure => simp [intOf]; omega
    · have hkk : k = L.length := by omega
      rw [hkk, List.take_length] at hown
      have hown2 := ownsRow_base hown hle1
      have hBB := hb1.trans (hB.mono hle1)
      have hal := fR_len L
      clear hfl hown
      obtain ⟨acc, hacc⟩ : ∃ acc, fR L = acc := ⟨_, rfl⟩
      rw [hacc] at hown2 hrl hal
      have HACC := Lib.hid hacc; clear hacc
      rcases ownsRow_two hown2 with ⟨rfl, hk0⟩ | ⟨g2, cap2, rfl, hkc, hcm, hg1, hg2⟩
      · have hnil : acc = [] := List.length_eq_zero_iff.1 hk0
        subst hnil
        go_wp2
        go_loop [6, 7] (fun s i => s = .string ⟨#[]⟩ ∧ i = .int .i64 0) (fun _ i => 0)
        case atStart => exact ⟨rfl, rfl⟩
        case round =>
          obtain ⟨rfl, rfl⟩ := hrel
          go_wp2
          go_ret
          exact ⟨ret_str (by rw [HACC.out]; rfl), hBB⟩
      · have hc2 : ∀ (k : Nat) (h : k < acc.length), wr.cell? ⟨g2, k, none⟩ = some (.string (nm acc[k])) := fun k h => by
          have := ownsRow_cell hown2 k (enc acc[k]) (by rw [List.getElem?_map, List.getElem?_eq_getElem h]; rfl)
          rw [Nat.zero_add] at this; exact this
        have hfle : (flatS acc).length ≤ (rootJ acc).length := by
          unfold rootJ; split
          · rename_i e; subst e; simp [flatS]
          · exact Nat.le_refl _
        have HC2 := Lib.hid hc2; clear hc2 hown2
        go_wp2
        go_loop [6, 7] (fun s i => ∃ k : Nat, k ≤ acc.length ∧ s = .string (nm (flatS (acc.take k))) ∧ i = .int .i64 k) (fun _ i => acc.length - (intOf i).toNat)
        case atStart => exact ⟨0, by omega, rfl, rfl⟩
        case round =>
          obtain ⟨k, hk, rfl, rfl⟩ := hrel
          by_cases hlt : k < acc.length
          · have hcw := HC2.out k hlt
            have hsu := flatS_succ acc k hlt
            have hll := flatS_take_len acc (k + 1)
            have e1 : (nm (flatS (acc.take k))).data.toList ++ (⟨#[47]⟩ : ByteArray).data.toList = flatS (acc.take k) ++ [47] := rfl
            have e2 : (nm (flatS (acc.take k) ++ [47])).data.toList ++ (nm acc[k]).data.toList = flatS (acc.take (k + 1)) := hsu.symm
            have a1 := cat_nm (nm (flatS (acc.take k))) ⟨#[47]⟩ _ e1 (by have := congrArg List.length hsu; simp at this ⊢; omega)
            have a2 := cat_nm (nm (flatS (acc.take k) ++ [47])) (nm acc[k]) _ e2 (by omega)
            clear e1 e2 hsu hll
            generalize nm (flatS (acc.take k)) = S1 at *
            generalize nm (flatS (acc.take k) ++ [47]) = S2 at *
            generalize nm acc[k] = S3 at *
            go_wp2
            go_round
            case rel => exact ⟨k + 1, by omega, rfl, by go_num⟩
            case measure => simp [intOf]; omega
          · have hkk : k = acc.length := by omega
            have htk : acc.take k = acc := by rw [hkk]; exact List.take_length
            rw [htk]
            have HR : Hid (∀ h : acc = [], False ∨ True) := Lib.hid (fun _ => .inr trivial)
            by_cases hne : acc = []
            · have h1 := emp_yes (b := nm (flatS acc)) (by rw [nm_data, hne]; rfl)
              have hr : rootJ acc = [47] := by unfold rootJ; rw [if_pos hne]
              have HRR := Lib.hid hr
              clear hr hne hkk htk
              go_wp2
              go_ret
              exact ⟨ret_str (by rw [HACC.out, HRR.out]; rfl), hBB⟩
            · have h1 := emp_no (b := nm (flatS acc)) (by
                rw [nm_data]
                cases acc with
                | nil => exact absurd rfl hne
                | cons a b => simp [flatS])
              have hr : rootJ acc = flatS acc := by unfold rootJ; rw [if_neg hne]
              have HRR := Lib.hid hr
              clear hr hne hkk htk
              go_wp2
              go_ret
              exact ⟨ret_str (by rw [HACC.out, HRR.out]), hBB⟩

theorem drewN_more (w : World) (m k : Nat) : (w.drewN m).drewN k = w.drewN (m + k) := by simp [World.drewN, Nat.add_assoc]
/-- What Texts holds between two rounds. -/
def RTRel (n : Nat) (w : World) (i : Value) (wr : World) : Prop := ∃ k m : Nat, k ≤ n ∧ i = .int .i64 k ∧ wr = w.drewN m

theorem row_cells {W : World} {base g n cap : Nat} {xs : List Bs} (h : W.ownsRow base 9 1 (.slice (some ⟨g, 0, none⟩) n cap) n (xs.map enc)) :
    ∀ (k : Nat) (hk : k < xs.length), W.cell? ⟨g, k, none⟩ = some (.string (nm xs[k])) := fun k hk => by
  have := ownsRow_cell h k (enc xs[k]) (by rw [List.getElem?_map, List.getElem?_eq_getElem hk]; rfl)
  rw [Nat.zero_add] at this; exact this

set_option maxRecDepth 100000 in
set_option maxHeartbeats 2000000 in
theorem rtexts_eq (va vb : Value) (xs : List Bs) (B1 B2 : Nat) (w : World) (hA : w.ownsRow B1 9 1 va xs.length (xs.map enc)) (hB : w.ownsRow B2 9 1 vb xs.length (xs.map enc)) (hl : xs.length ≤ 9223372036854775806) :
    Calls Tryd.prog 14 #[va, vb] w fun e w' => e = .returned (.bool true) ∧ ∃ k, w' = w.drewN k := by
  obtain ⟨a, ca, ha⟩ := ownsRow_len hA
  obtain ⟨b, cb, hb⟩ := ownsRow_len hB
  by_cases hz : xs.length = 0
  · rw [hz] at ha hb
    subst ha; subst hb
    clear hA hB
    go_enter Tryd.func14, Tryd.ntmps14
    go_wp2
    go_loop [5] (fun i => i = .int .i64 0) (fun i => 0)
    case atStart => rfl
    case round =>
      subst hrel
      go_wp2
      go_ret
      exact ⟨rfl, 0, rfl⟩
  · rcases ownsRow_two hA with ⟨_, e2⟩ | ⟨g1, c1, rfl, hk1, hm1, hg1, _⟩
    · exact absurd e2 hz
    rcases ownsRow_two hB with ⟨_, e2⟩ | ⟨g2, c2, rfl, hk2, hm2, hg2, _⟩
    · exact absurd e2 hz
    have k1 := row_cells hA
    have k2 := row_cells hB
    have K1 := Lib.hid k1; have K2 := Lib.hid k2; clear k1 k2 hA hB ha hb
    have hst : RTRel xs.length w (.int .i64 0) w := ⟨0, 0, by omega, rfl, rfl⟩
    go_enter Tryd.func14, Tryd.ntmps14
    go_wp2
    go_loopw [5] (fun i wr => RTRel xs.length w i wr) (fun i _ => xs.length - (intOf i).toNat)
    case atStart => exact hst
    case round =>
      clear hst
      obtain ⟨k, m, hk, rfl, rfl⟩ := hrel
      by_cases hlt : k < xs.length
      · have q1 := K1.out k hlt
        have q2 := K2.out k hlt
        generalize nm xs[k] = X at q1 q2
        have hXX : (X.toList != X.toList) = false := by simp
        go_wp2
        go_quiet (fail)
        go_wp2
        go_roundw
        case rel => exact ⟨k + 1, _, by omega, by go_num, rfl⟩
        case measure => simp [intOf]; omega
      · go_wp2
        go_ret
        exact ⟨rfl, m, rfl⟩

end Go.Proofs.YtfchofdoabhakaaDoor
