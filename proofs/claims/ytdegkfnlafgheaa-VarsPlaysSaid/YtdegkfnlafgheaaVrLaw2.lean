/- DERIVED. The walk over the law VarsGets. -/
import Derived.Test.YtdegkfnlafgheaaVrShort
import Derived.Test.YtdegkfnlafgheaaVrHold
import Derived.Test.YtdegkfnlafgheaaVrAwk
namespace Go.Proofs.Ytdegkfnlafgheaa.Vr
open Go.RowKit
open PathM WdM VrM
open Go.Proofs.Ytdegkfnlafgheaa.Wd
open Go.Proofs.Ytdegkfnlafgheaa.NumM (textL decN decE)
set_option linter.unusedVariables false
theorem ArX.below {w w' : World} {v : Value} {ps : List Bs} (h : ArX w v ps) (hb : Below w.heap.size w w') : ArX w' v ps := ⟨h.1.below hb, h.2⟩
theorem VsX.below {w w' : World} {v : Value} {l : Vs} (h : VsX w v l) (hb : Below w.heap.size w w') : VsX w' v l := ⟨h.1.below hb, h.2⟩
theorem optV_eq (o : Option Bs) : optV o = .tuple #[.string (nm (o.getD [])), .bool o.isSome] := rfl
theorem below_then {w w1 w2 : World} (h : Hid (Below w.heap.size w w1)) (k : Below w1.heap.size w1 w2) : Hid (Below w.heap.size w w2) := Lib.hid (h.out.trans (k.mono h.out.size))
set_option maxRecDepth 100000 in
set_option maxHeartbeats 1600000 in
theorem gets_any (l : Vs) (v : Value) (qs : List Bs) (a : Value) (st : Int) (name : ByteArray) (w : World) (hv : VsX w v l) (ha : ArX w a qs) (h0 : -9223372036854775808 ≤ st) (h1 : st ≤ 9223372036854775807) (hn0 : name.size ≤ maxLen) (hn : name.data.toList.length ≤ 140737488351232) :
    Calls Try.prog 4 #[v, a, .int .i64 st, .string name] w fun e w' => e = .returned (.bool true) ∧ Below w.heap.size w w' := by
  have HSH : Hid (Calls Try.prog 9 #[.agg #[.int .i64 0, .string ⟨#[]⟩, .string ⟨#[]⟩, a, .int .i64 0]] w (ShortPost w)) := Lib.hid (short_any ⟨0, [], [], qs, 0⟩ a w ⟨ha, by simp, by simp, by simp, by simp⟩)
  have HNEW : Hid (∀ W, Below w.heap.size w W → Calls Try.prog 10 #[v, a] W (NewPost qs (newL l qs) W)) := Lib.hid (fun W hb => new_any l v qs a W (hv.below hb) (ha.below hb))
  have HRNEW : Hid (∀ W, Below w.heap.size w W → Calls Try.prog 11 #[v, a] W (RNewPost a (newL l qs) W)) := Lib.hid (fun W hb => rnew_any l v qs a W (hv.below hb) (ha.below hb))
  have HAW := Lib.hid (fun W => awake_any W)
  have HNA : nm name.data.toList = name := nm_of _
  have HGET : Hid (∀ base tb vs vv av W, TbX base W tb st vs vv qs av → Calls Try.prog 15 #[.pointer (some ⟨tb, 0, none⟩), .string name] W fun e w' => e = .returned (.tuple #[.string (nm ((getL qs st vs name.data.toList).getD [])), .bool (getL qs st vs name.data.toList).isSome]) ∧ Below W.heap.size W w') := Lib.hid (fun base tb vs vv av W h => by
    have := get_any base tb st vs vv av qs name.data.toList W h h0 h1 hn
    rw [HNA] at this
    exact this)
  have HRGET : Hid (∀ vs A1 n1 c1 W, VsIn W (.slice A1 n1 c1) vs → ArIn W a qs → (Srt vs ∧ vs.length ≤ 64 ∧ Nms vs) → argsOk qs = true → Calls Try.prog 16 #[.agg #[.slice A1 n1 c1, a, .int .i64 st], .string name] W fun e w' => e = .returned (.tuple #[.string (nm ((getL qs st vs name.data.toList).getD [])), .bool (getL qs st vs name.data.toList).isSome]) ∧ Below W.heap.size W w') := Lib.hid (fun vs A1 n1 c1 W hv2 ha2 hok hq => by
    have := rget_any vs (.slice A1 n1 c1) a qs st name.data.toList W hv2 ha2 hok.1 hok.2.1 (argsOk_len hq).1 (argsOk_len hq).2 (nms_no hok.2.2) h0 h1 hn
    rw [HNA] at this
    exact this)
  have HOKS := Lib.hid (fun vs (h : newL l qs = .ok vs) => newL_ok h)
  have HAIN := Lib.hid ha
  obtain ⟨A, c, hvf, hlc⟩ := hv.1.form
  obtain ⟨A2, c2, haf, hlc2⟩ := ha.1.form
  have hl1 : (l.length : Int) ≤ 140737488351232 := by have := hv.2.1; omega
  subst hvf
  subst haf
  clear hv ha HNA
  generalize l.length = n at *
  go_enter Try.func4, Try.ntmps4
  go_wp2_with fail
  refine (HSH.out).mono ?_
  rintro e W1 ⟨b, rfl, hb⟩
  have HB1 := Lib.hid hb
  clear hb
  cases b with
  | false =>
    go_wp2_with (go_at_call 8; refine (HAW.out _).mono ?_; rintro e W ⟨rfl, hb⟩; have HB2 := below_then HB1 hb; clear hb)
    go_ret
    exact ⟨rfl, HB2.out⟩
  | true =>
    by_cases h100 : (100 : Int) < (n : Int)
    · go_wp2_with (go_at_call 8; refine (HAW.out _).mono ?_; rintro e W ⟨rfl, hb⟩; have HB2 := below_then HB1 hb; clear hb)
      go_ret
      exact ⟨rfl, HB2.out⟩
    · cases hm : newL l qs with
      | error er =>
        rw [hm] at HNEW HRNEW
        clear hm HOKS HGET HRGET HAIN
        go_wp2_with fail
        refine (HNEW.out _ HB1.out).mono ?_
        rintro e W2 ⟨hb2, rfl, h0⟩
        have HB2 := below_then HB1 hb2
        have HQ := Lib.hid h0
        clear hb2 h0
        go_wp2_with fail
        refine (HRNEW.out _ HB2.out).mono ?_
        rintro e W3 ⟨hb3, he, h0⟩
        unfold tblV at he
        subst he
        have HB3 := below_then HB2 hb3
        have hq : (er != 0) = true := by simpa using h0
        have hq2 : (er == er) = true := by simp
        clear hb3 h0
        go_wp2_with (go_at_call 8; refine (HAW.out _).mono ?_; rintro e W ⟨rfl, hb⟩; have HB4 := below_then (below_then HB3 (one_below W3 _)) hb; clear hb)
        go_ret
        exact ⟨rfl, HB4.out⟩
      | ok vs =>
        have hoks := HOKS.out vs hm
        have HOK := Lib.hid hoks.1
        have HAO := Lib.hid hoks.2.1
        rw [hm] at HNEW HRNEW
        clear hm HOKS hoks
        go_wp2_with fail
        refine (HNEW.out _ HB1.out).mono ?_
        rintro e W2 ⟨hb2, tb, vv, av, rfl, ht⟩
        have HB2 := below_then HB1 hb2
        have HB12 := Lib.hid hb2
        have HT := Lib.hid ht
        clear hb2 ht
        go_wp2_with fail
        refine (HRNEW.out _ HB2.out).mono ?_
        rintro e W3 ⟨hb3, vv2, he, hv2, hf2⟩
        unfold tblV at he
        subst he
        obtain ⟨A6, c6, rfl, _⟩ := hv2.form
        have HB3 := below_then HB2 hb3
        have HT3 := Lib.hid (HT.out.below hb3)
        have c0 := cell_blk HT3.out.box 0
        simp at c0
        have f0 := froz_blk HT3.out.box 0
        have hz := HT3.out.lt
        obtain ⟨W4, hW4⟩ : ∃ W4, W4 = (W3.setCell ⟨tb, 0, none⟩ (.int .i64 st)).alloc (.cells #[.slice A6 vs.length c6, .slice A2 qs.length c2, .int .i64 st] 36) := ⟨_, rfl⟩
        obtain ⟨k1, k2, k3, k4, k5⟩ := both_stat (w := W1) st HT3.out hv2 (HAIN.out.1.below HB3.out) (fun e => by have := hf2 _ e; have := HT.out.lt; omega) (fun hne e => by have := ArIn.own (HAIN.out.1.below HB1.out) hne e; have := HT.out.hb; omega) (HB12.out.trans (hb3.mono HB12.out.size)) HT.out.hb W4 hW4
        have T4 := Lib.hid k1
        have V4 := Lib.hid k2
        have A4 := Lib.hid k3
        have B4 := below_then HB1 k4
        have X4 := Lib.hid k5
        have HW4 := Lib.hid hW4
        clear hb3 hv2 hf2 k1 k2 k3 k4 k5 hW4
        go_wp2_with fail
        rw [← HW4.out]
        refine (HGET.out _ _ _ _ _ _ T4.out).mono ?_
        rintro e W5 ⟨rfl, hb5⟩
        have HB5 := below_then B4 hb5
        have hx5 := (hb5.block _ (fin_at X4.out)).trans X4.out
        have d0 := cell_blk hx5 0
        have d1 := cell_blk hx5 1
        have d2 := cell_blk hx5 2
        simp at d0 d1 d2
        have hz5 := fin_at hx5
        have HR := Lib.hid (HRGET.out vs A6 vs.length c6 W5 (V4.out.below hb5) (A4.out.below hb5) HOK.out HAO.out)
        clear hx5 hb5 c0 f0 hz HRGET HGET
        have hq1 : ((nm ((getL qs st vs name.data.toList).getD [])).toList == (nm ((getL qs st vs name.data.toList).getD [])).toList) = true := by simp
        have hq2 : ((getL qs st vs name.data.toList).isSome == (getL qs st vs name.data.toList).isSome) = true := by simp
        generalize nm ((getL qs st vs name.data.toList).getD []) = R1 at *
        generalize (getL qs st vs name.data.toList).isSome = R2 at *
        go_wp2_with fail
        refine (HR.out).mono ?_
        rintro e W6 ⟨rfl, hb6⟩
        have HB6 := below_then HB5 hb6
        clear hb6
        go_wp2_with (go_at_call 8; refine (HAW.out _).mono ?_; rintro e W ⟨rfl, hb⟩; have HB7 := below_then HB6 hb; clear hb)
        go_ret
        exact ⟨rfl, HB7.out⟩
end Go.Proofs.Ytdegkfnlafgheaa.Vr
