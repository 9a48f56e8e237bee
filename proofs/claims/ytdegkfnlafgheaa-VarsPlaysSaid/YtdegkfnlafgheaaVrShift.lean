/- DERIVED. The walks over Shift, Args and the like. -/
import Derived.Test.YtdegkfnlafgheaaVrArgs
namespace Go.Proofs.Ytdegkfnlafgheaa.Vr
open Go.RowKit
open PathM WdM
open Go.Proofs.Ytdegkfnlafgheaa.Wd
set_option linter.unusedVariables false
theorem ArIn.cut0 {w : World} {A : Option Addr} {ps : List Bs} {m n c : Nat} (hm : ps.length = m) (hn : n ≤ m) (hc : m ≤ c) (h : c = n) : ArIn w (.slice A (m - n) 0) (ps.drop n) := by
  have e : ps.drop n = [] := List.drop_of_length_le (by omega)
  rw [e, show m - n = 0 by omega]
  exact ArIn.nil _ _ _
theorem ArIn.cut1 {w : World} {A : Option Addr} {ps : List Bs} {m n c : Nat} (hm : ps.length = m) (hn : n ≤ m) (h : ArIn w (.slice A m c) ps) : ArIn w (.slice (A.map fun x => x.add n) (m - n) (c - n)) (ps.drop n) := by
  obtain ⟨A', c', hv, hlc, hc⟩ := h
  simp only [Value.slice.injEq] at hv
  obtain ⟨rfl, _, rfl⟩ := hv
  refine ⟨_, _, by rw [List.length_drop, hm], by rw [List.length_drop]; omega, fun hne => ?_⟩
  have hne2 : ps ≠ [] := by rintro rfl; simp at hne
  obtain ⟨b, off, rfl, hb, hcs⟩ := hc hne2
  refine ⟨b, off + n, ?_, hb, fun i hi => ?_⟩
  · show some ((⟨b, off, none⟩ : Addr).add n) = _
    cases n with
    | zero => simp [Addr.add]
    | succ n => simp [Addr.add]
  · rw [List.length_drop] at hi
    have := hcs (n + i) (by omega)
    rw [List.getElem_drop, Nat.add_assoc]
    exact this
set_option maxRecDepth 100000 in
set_option maxHeartbeats 1600000 in
theorem shift_ok (tb : Nat) (st : Int) (vv av : Value) (ps : List Bs) (n : Nat) (w : World) (h : TbIn w tb st vv ps av) (hn : n ≤ ps.length) :
    Calls Try.prog 26 #[.pointer (some ⟨tb, 0, none⟩), .int .i64 (n : Int)] w fun e w' => e = .returned (.bool true) ∧ ∃ av', TbIn w' tb st vv (ps.drop n) av' ∧ w'.ownsRow w.heap.size 9 1 av' (ps.drop n).length ((ps.drop n).map strC) ∧ Kept (· = tb) w w' := by
  have HN : Hid (∀ W, Below w.heap.size w W → Calls Try.prog 31 #[.pointer (some ⟨tb, 0, none⟩)] W fun e w' => e = .returned (.bool false) ∧ W = w') := Lib.hid (fun W hb => none_any tb W (h.below hb).c1)
  have HT := Lib.hid h
  have hz := h.lt
  have c3 := h.c3
  have hl := h.len
  obtain ⟨A, c, hv, hlc⟩ := h.args.form
  obtain ⟨m, hm⟩ : ∃ m, ps.length = m := ⟨_, rfl⟩
  have HV : Hid (ArIn w (.slice A m c) ps) := Lib.hid (by have := h.args; rw [hv, hm] at this; exact this)
  have hdl : (ps.drop n).length ≤ 256 := by rw [List.length_drop]; omega
  have HCP : Hid (∀ v, ArIn w v (ps.drop n) → Calls Try.prog 48 #[v] w fun e w' => ∃ A2 c2, e = .returned (.slice A2 (m - n) c2) ∧ w'.ownsRow w.heap.size 9 1 (.slice A2 (m - n) c2) (ps.drop n).length ((ps.drop n).map strC) ∧ Below w.heap.size w w') := Lib.hid (fun v hv => (copied_any (ps.drop n) v w hv hdl).mono (by
    rintro e w' ⟨v', rfl, hr, hb⟩
    obtain ⟨A2, c2, rfl, _⟩ := row_form hr
    have e1 : (ps.drop n).length = m - n := by rw [List.length_drop, hm]
    rw [e1] at hr ⊢
    exact ⟨A2, c2, rfl, hr, hb⟩))
  have HP : Hid (∀ W av', Below w.heap.size w W → W.ownsRow w.heap.size 9 1 av' (ps.drop n).length ((ps.drop n).map strC) → TbIn (W.setCell ⟨tb, 3, none⟩ av') tb st vv (ps.drop n) av' ∧ (W.setCell ⟨tb, 3, none⟩ av').ownsRow w.heap.size 9 1 av' (ps.drop n).length ((ps.drop n).map strC) ∧ Kept (· = tb) w (W.setCell ⟨tb, 3, none⟩ av')) := Lib.hid (fun W av' hb hr => HT.out.put hb (ar_row hr) hr hdl (fun x hx => HT.out.lens x (List.mem_of_mem_drop hx)))
  rw [hv] at c3
  clear h hdl hv
  have hnn : (n : Int) ≤ (ps.length : Int) := by omega
  have hn0 : (0 : Int) ≤ (n : Int) := by omega
  rw [hm] at hl hlc c3 hnn hn
  have hmc : (m : Int) ≤ (c : Int) := by omega
  have hm2 : (m : Int) ≤ 256 := by omega
  have HM := Lib.hid hm
  clear hm
  go_enter Try.func26, Try.ntmps26
  go_wp2_with (first | (go_at_call 31; refine (HN.out _ (Below.refl _ _)).mono ?_; rintro e W ⟨rfl, rfl⟩) | (go_at_call 48; refine (HCP.out _ (by first | exact ArIn.cut0 HM.out hn hlc ‹_› | exact ArIn.cut1 HM.out hn HV.out)).mono ?_; rintro e W ⟨A2, c2, rfl, hr, hb⟩; have HR := Lib.hid hr; have HB := Lib.hid hb; have c3 := (HT.out.below hb).c3; have f3 := (HT.out.below hb).f3; have hz2 := Nat.lt_of_lt_of_le hz hb.size; clear hr hb))
  all_goals
    go_ret
    obtain ⟨h1, h2⟩ := HP.out W _ HB.out HR.out
    exact ⟨rfl, _, h1, h2⟩
theorem shift_nil (n : Int) (w : World) : Calls Try.prog 26 #[.pointer none, .int .i64 n] w fun e w' => e = .returned (.bool false) ∧ w = w' := by
  go_enter Try.func26, Try.ntmps26
  go_wp2_with (go_at_call 31; refine (none_nil _).mono ?_; rintro e W ⟨rfl, rfl⟩)
  go_ret
  exact ⟨rfl, rfl⟩
set_option maxRecDepth 100000 in
set_option maxHeartbeats 1600000 in
theorem shift_no (tb : Nat) (st : Int) (vv av : Value) (ps : List Bs) (n : Int) (w : World) (h : TbIn w tb st vv ps av) (hn : n < 0 ∨ (ps.length : Int) < n) :
    Calls Try.prog 26 #[.pointer (some ⟨tb, 0, none⟩), .int .i64 n] w fun e w' => e = .returned (.bool false) ∧ w = w' := by
  have HN : Hid (∀ W, Below w.heap.size w W → Calls Try.prog 31 #[.pointer (some ⟨tb, 0, none⟩)] W fun e w' => e = .returned (.bool false) ∧ W = w') := Lib.hid (fun W hb => none_any tb W (h.below hb).c1)
  have hz := h.lt
  have c3 := h.c3
  have hl := h.len
  obtain ⟨A, c, rfl, hlc⟩ := h.args.form
  have hm2 : (ps.length : Int) ≤ 256 := by omega
  clear h
  generalize ps.length = m at *
  rcases hn with hn | hn
  all_goals
    go_enter Try.func26, Try.ntmps26
    go_wp2_with (first | (go_at_call 31; refine (HN.out _ (Below.refl _ _)).mono ?_; rintro e W ⟨rfl, rfl⟩))
    all_goals
      go_ret
      exact ⟨rfl, rfl⟩
set_option maxRecDepth 100000 in
set_option maxHeartbeats 1600000 in
theorem args_any (tb : Nat) (st : Int) (vv av : Value) (ps : List Bs) (w : World) (h : TbIn w tb st vv ps av) :
    Calls Try.prog 23 #[.pointer (some ⟨tb, 0, none⟩)] w fun e w' => ∃ v', e = .returned v' ∧ w'.ownsRow w.heap.size 9 1 v' ps.length (ps.map strC) ∧ Below w.heap.size w w' := by
  have HN : Hid (∀ W, Below w.heap.size w W → Calls Try.prog 31 #[.pointer (some ⟨tb, 0, none⟩)] W fun e w' => e = .returned (.bool false) ∧ W = w') := Lib.hid (fun W hb => none_any tb W (h.below hb).c1)
  have hz := h.lt
  have c3 := h.c3
  have HCP := Lib.hid (copied_any ps av w h.args h.len)
  obtain ⟨A, c, rfl, hlc⟩ := h.args.form
  clear h
  generalize ps.length = m at *
  go_enter Try.func23, Try.ntmps23
  go_wp2_with (first | (go_at_call 31; refine (HN.out _ (Below.refl _ _)).mono ?_; rintro e W ⟨rfl, rfl⟩) | (go_at_call 48; refine HCP.out.mono ?_; rintro e W ⟨v', rfl, hr, hb⟩; have HR := Lib.hid hr; have HB := Lib.hid hb; clear hr hb))
  go_ret
  exact ⟨_, rfl, HR.out, HB.out⟩
theorem args_nil (w : World) : Calls Try.prog 23 #[.pointer none] w fun e w' => e = .returned (.slice none 0 0) ∧ w = w' := by
  go_enter Try.func23, Try.ntmps23
  go_wp2_with (go_at_call 31; refine (none_nil _).mono ?_; rintro e W ⟨rfl, rfl⟩)
  go_ret
  exact ⟨rfl, rfl⟩
theorem vars_nil (w : World) : Calls Try.prog 22 #[.pointer none] w fun e w' => e = .returned (.slice none 0 0) ∧ w = w' := by
  go_enter Try.func22, Try.ntmps22
  go_wp2_with (go_at_call 31; refine (none_nil _).mono ?_; rintro e W ⟨rfl, rfl⟩)
  go_ret
  exact ⟨rfl, rfl⟩
theorem copy_nil (w : World) : Calls Try.prog 21 #[.pointer none] w fun e w' => e = .returned (.pointer none) ∧ w = w' := by
  go_enter Try.func21, Try.ntmps21
  go_wp2_with (go_at_call 31; refine (none_nil _).mono ?_; rintro e W ⟨rfl, rfl⟩)
  go_ret
  exact ⟨rfl, rfl⟩
theorem set_nil (a b : ByteArray) (w : World) : Calls Try.prog 17 #[.pointer none, .string a, .string b] w fun e w' => e = .returned (.int .i64 3) ∧ w = w' := by
  go_enter Try.func17, Try.ntmps17
  go_wp2_with (go_at_call 31; refine (none_nil _).mono ?_; rintro e W ⟨rfl, rfl⟩)
  go_ret
  exact ⟨rfl, rfl⟩
theorem get_nil (a : ByteArray) (w : World) : Calls Try.prog 15 #[.pointer none, .string a] w fun e w' => e = .returned (.tuple #[.string ⟨#[]⟩, .bool false]) ∧ w = w' := by
  go_enter Try.func15, Try.ntmps15
  go_wp2_with (go_at_call 31; refine (none_nil _).mono ?_; rintro e W ⟨rfl, rfl⟩)
  go_ret2
  exact ⟨rfl, rfl⟩
theorem unset_nil (a : ByteArray) (w : World) : Calls Try.prog 19 #[.pointer none, .string a] w fun e w' => e = .returned (.tuple #[]) ∧ w = w' := by
  go_enter Try.func19, Try.ntmps19
  go_wp2_with (go_at_call 31; refine (none_nil _).mono ?_; rintro e W ⟨rfl, rfl⟩)
  refine bodyPost_ret (results_none rfl _ _ _) rfl ?_
  exact ⟨rfl, rfl⟩
end Go.Proofs.Ytdegkfnlafgheaa.Vr
