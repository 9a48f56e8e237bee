/- DERIVED. The law SyntaxBlanks. -/
import Derived.Test.YtgajbehlggikdaaSwGk
import Derived.Deep.LoopGhost
namespace Go.Proofs.Ytgajbehlggikdaa.Sw
open Go.RowKit Go.Sort
open PathM WdM SyM
open Go.Proofs.Ytgajbehlggikdaa.Wd
set_option linter.unusedVariables false

set_option maxRecDepth 100000 in
set_option maxHeartbeats 3200000 in
theorem blanks_law (s r : ByteArray) (w : World) (hm : s.size ≤ maxLen) (hm2 : r.size ≤ maxLen) :
    Calls Try.prog 3 #[.string s, .string r] w fun e w' => e = .returned (.bool true) ∧ Below w.heap.size w w' := by
  have HM1 := Lib.hid hm
  have HM2 := Lib.hid hm2
  have hmx : s.size ≤ 9223372036854775807 ∧ r.size ≤ 9223372036854775807 := by unfold maxLen at hm hm2; omega
  have HAW := Lib.hid awake_any
  clear hm hm2
  by_cases h1 : 1500 < s.size
  · as_aux_lemma =>
      go_enter Try.func3, Try.ntmps3
      go_wp2_with (go_at_call 7; refine (HAW.out _).mono ?_; rintro e W ⟨rfl, hb⟩; have HB := Lib.hid hb; clear hb)
      go_ret
      exact ⟨rfl, HB.out⟩
  · by_cases h2 : 200 < r.size
    · as_aux_lemma =>
        go_enter Try.func3, Try.ntmps3
        go_wp2_with (go_at_call 7; refine (HAW.out _).mono ?_; rintro e W ⟨rfl, hb⟩; have HB := Lib.hid hb; clear hb)
        go_ret
        exact ⟨rfl, HB.out⟩
    · clear hmx
      have hs1 : s.size ≤ 1500 := by omega
      have hr1 : r.size ≤ 200 := by omega
      have HPS := Lib.hid (fun W => Parse_any s W (by omega))
      obtain ⟨y1, e1, n1, c1⟩ := cat_any ⟨#[10, 9, 35]⟩ r 3 200 (by decide) hr1 (by decide)
      obtain ⟨y2, e2, n2, c2⟩ := cat_any y1 ⟨#[10, 32]⟩ 203 2 n1 (by decide) (by decide)
      obtain ⟨y3, e3, n3, c3⟩ := cat_any y2 s 205 1500 n2 hs1 (by decide)
      obtain ⟨y4, e4, n4, c4⟩ := cat_any y3 ⟨#[10, 32, 92, 10, 32, 35]⟩ 1705 6 n3 (by decide) (by decide)
      obtain ⟨y5, e5, n5, c5⟩ := cat_any y4 r 1711 200 n4 hr1 (by decide)
      have HY : Hid (y5.data.toList = 10 :: 9 :: 35 :: (r.data.toList ++ 10 :: 32 :: (s.data.toList ++ 10 :: 32 :: 92 :: 10 :: 32 :: 35 :: r.data.toList))) := Lib.hid (by rw [e5.out, e4.out, e3.out, e2.out, e1.out]; simp)
      have HPY := Lib.hid (fun W => Parse_any y5 W (by omega))
      clear e1 e2 e3 e4 e5 h1 h2
      go_enter Try.func3, Try.ntmps3
      go_wp2_with fail
      go_loopg [5] r.size (fun g x wr => ∃ i : Nat, g = r.size - i ∧ x = .int .i64 i ∧ wr = w ∧ i ≤ r.size ∧ Hid (∀ d ∈ r.data.toList.take i, d ≠ 10))
      case atStart => exact ⟨0, by omega, rfl, rfl, by omega, Lib.hid (by simp)⟩
      case round =>
        obtain ⟨i, rfl, rfl, rfl, hi, HD⟩ := hrel
        by_cases hil : i < r.size
        · by_cases hx : r[i] = 10
          · as_aux_lemma =>
              have hq : ((r[i].toNat : Int) == 10) = true := by rw [hx]; rfl
              clear hx
              go_wp2_with (go_at_call 7; refine (HAW.out _).mono ?_; rintro e W ⟨rfl, hb⟩; have HB := Lib.hid hb; clear hb)
              go_ret
              exact ⟨rfl, HB.out⟩
          · have hq : ((r[i].toNat : Int) == 10) = false := by
              have : r[i].toNat ≠ 10 := fun e => hx (UInt8.toNat_inj.1 (by simpa using e))
              simpa using by omega
            have HN : Hid (∀ d ∈ r.data.toList.take (i + 1), d ≠ 10) := Lib.hid (fun d hd => by
              have hil2 : i < r.data.toList.length := by rw [← sizeD]; exact hil
              rw [List.take_succ_eq_append_getElem hil2, List.mem_append, List.mem_singleton] at hd
              rcases hd with hd | hd
              · exact HD.out d hd
              · rw [hd]; exact hx)
            clear hx
            go_wp2_with fail
            go_roundg (r.size - (i + 1))
            case measure => omega
            case rel => exact ⟨i + 1, rfl, by go_num, rfl, by omega, HN⟩
        · obtain rfl : i = r.size := by omega
          have hts : r.data.toList.take r.size = r.data.toList := List.take_of_length_le (by rw [← sizeD]; exact Nat.le_refl _)
          rw [hts] at HD
          clear hts hi hil
          go_wp2_with fail
          have hps := HPS.out wr
          unfold ParsePost at hps
          cases hp : parseL s.data.toList with
          | bad a er =>
            as_aux_lemma =>
              rw [hp] at hps
              have her := parse_err hp
              have HPX := Lib.hid hps
              clear hps hp
              refine HPX.out.mono ?_
              rintro e W ⟨hb, h9⟩
              have h9 : e = _ := h9
              subst h9
              have HB := Lib.hid hb
              clear hb
              go_wp2_with (go_at_call 7; refine (HAW.out _).mono ?_; rintro e W2 ⟨rfl, hb⟩; have HB2 := Lib.hid (HB.out.trans (hb.mono HB.out.size)); clear hb)
              go_ret
              exact ⟨rfl, HB2.out⟩
          | ok xs q =>
            as_aux_lemma =>
              rw [hp] at hps
              have HPX := Lib.hid hps
              have hpy : parseL y5.data.toList = .ok xs [] := by rw [HY.out]; exact plain_blanks _ HD.out hp
              have hpz := fun W => HPY.out W
              unfold ParsePost at hpz
              rw [hpy] at hpz
              have HPZ := Lib.hid hpz
              clear hps hp hpy hpz
              refine HPX.out.mono ?_
              rintro e W ⟨hb, v1, rfl, hv1⟩
              obtain ⟨A1, m1, d1, rfl⟩ := LsIn.form hv1
              have HB := Lib.hid hb
              have HV1 := Lib.hid hv1
              clear hb hv1
              go_wp2_with fail
              refine (HPZ.out W).mono ?_
              rintro e W2 ⟨hb, v2, rfl, hv2⟩
              obtain ⟨A2, m2, d2, rfl⟩ := LsIn.form hv2
              have HSM := Lib.hid (same_all 18 xs _ _ W2 _ _ (good_below (LsIn.good 18) hb HV1.out) hv2)
              have HB2 := Lib.hid (HB.out.trans (hb.mono HB.out.size))
              clear hb hv2
              go_wp2_with (first | (go_at_call 9; refine Calls.mono HSM.out ?_; rintro e W3 ⟨rfl, hb⟩; have HB3 := Lib.hid (HB2.out.trans (hb.mono HB2.out.size)); clear hb) | (go_at_call 7; refine (HAW.out _).mono ?_; rintro e W4 ⟨rfl, hb⟩; have HB4 := Lib.hid (HB3.out.trans (hb.mono HB3.out.size)); clear hb))
              go_ret
              exact ⟨rfl, HB4.out⟩

end Go.Proofs.Ytgajbehlggikdaa.Sw
