/- DERIVED. All of Get. -/
import Derived.Test.YtdegkfnlafgheaaVrNew
namespace Go.Proofs.Ytdegkfnlafgheaa.Vr
open Go.RowKit
open PathM WdM VrM
open Go.Proofs.Ytdegkfnlafgheaa.Wd
open Go.Proofs.Ytdegkfnlafgheaa.NumM (textL decN decE)
set_option linter.unusedVariables false
def getL (ps : List Bs) (st : Int) (vs : Vs) (name : Bs) : Option Bs := match name with
  | [] => none
  | d :: r => if d :: r = [35] then some (textL ps.length) else if d :: r = [63] then some (textL st) else if d :: r = [64] ∨ d :: r = [42] then (if ps = [] then none else some (Lib.join ps [32]))
    else if digit d then parL ps (d :: r) else valV vs (d :: r)
theorem getL_cons (ps : List Bs) (st : Int) (vs : Vs) (d : UInt8) (r : Bs) : getL ps st vs (d :: r) = (if d :: r = [35] then some (textL ps.length) else if d :: r = [63] then some (textL st) else if d :: r = [64] ∨ d :: r = [42] then (if ps = [] then none else some (Lib.join ps [32]))
    else if digit d then parL ps (d :: r) else valV vs (d :: r)) := rfl
set_option maxRecDepth 100000 in
set_option maxHeartbeats 1600000 in
theorem get_empty (tb : Nat) (st : Int) (vv av : Value) (ps : List Bs) (w : World) (h : TbIn w tb st vv ps av) :
    Calls Try.prog 15 #[.pointer (some ⟨tb, 0, none⟩), .string (nm [])] w fun e w' => e = .returned (.tuple #[.string ⟨#[]⟩, .bool false]) ∧ w = w' := by
  have HN := h.none
  have e1 : (nm []).toList = [] := by rw [listD, nm_data]
  have e2 : (nm []).toList.isEmpty = true := by rw [e1]; rfl
  clear h
  generalize nm [] = N at *
  go_enter Try.func15, Try.ntmps15
  go_wp2_with (first | (go_at_call 31; refine (HN.out _ (Below.refl _ _)).mono ?_; rintro e W ⟨rfl, rfl⟩))
  go_ret2
  exact ⟨rfl, rfl⟩
set_option maxRecDepth 100000 in
set_option maxHeartbeats 1600000 in
theorem get_var (base tb : Nat) (st : Int) (vs : Vs) (vv av : Value) (ps : List Bs) (d : UInt8) (r : Bs) (w : World) (h : TbX base w tb st vs vv ps av) (h1 : d :: r ≠ [35]) (h2 : d :: r ≠ [63]) (h3 : d :: r ≠ [64]) (h4 : d :: r ≠ [42]) (hd : digit d = false) (hs : r.length ≤ 4611686018427380000) :
    Calls Try.prog 15 #[.pointer (some ⟨tb, 0, none⟩), .string (nm (d :: r))] w fun e w' => e = .returned (optV (valV vs (d :: r))) ∧ Below w.heap.size w w' := by
  have HN := h.nn
  have hz := h.lt
  have hsz : (nm (d :: r)).size = r.length + 1 := by rw [nm_size]; rfl
  have hp : 0 < (nm (d :: r)).size := by omega
  have g0 : (nm (d :: r))[0] = d := by
    have := Wd.get_at (nm (d :: r)) 0 hp
    rw [List.drop_zero, nm_data] at this
    exact (List.cons.inj this).1.symm
  have HD := Lib.hid (Wd.digit_any (nm (d :: r))[0] w)
  rw [g0, hd] at HD
  rw [← g0] at HD
  obtain ⟨q01, q02⟩ := no_emp (k := d :: r) (by simp)
  have q1 : ((nm (d :: r)).toList == [35]) = false := by rw [is_str]; exact decide_eq_false h1
  have q2 : ((nm (d :: r)).toList == [63]) = false := by rw [is_str]; exact decide_eq_false h2
  have q3 : ((nm (d :: r)).toList == [64]) = false := by rw [is_str]; exact decide_eq_false h3
  have q4 : ((nm (d :: r)).toList == [42]) = false := by rw [is_str]; exact decide_eq_false h4
  have n1 : ¬ (nm (d :: r)).toList = [35] := by intro e; rw [e] at q1; cases q1
  have n2 : ¬ (nm (d :: r)).toList = [63] := by intro e; rw [e] at q2; cases q2
  have n3 : ¬ (nm (d :: r)).toList = [64] := by intro e; rw [e] at q3; cases q3
  have n4 : ¬ (nm (d :: r)).toList = [42] := by intro e; rw [e] at q4; cases q4
  have HF := Lib.hid (h.find (d :: r))
  cases hh : hasV vs (d :: r) with
  | false =>
    rw [hh] at HF
    rw [val_no hh]
    show Calls _ _ _ _ fun e w' => e = .returned (.tuple #[.string ⟨#[]⟩, .bool false]) ∧ _
    clear h hd g0 hsz h1 h2 h3 h4 hh
    generalize posV vs (d :: r) = p at *
    generalize nm (d :: r) = S at *
    go_enter Try.func15, Try.ntmps15
    go_wp2_with (first | (go_at_call 31; refine (HN.out _ (Below.refl _ _)).mono ?_; rintro e W ⟨rfl, rfl⟩) | (go_at_call 34; refine HD.out.mono ?_; rintro e W ⟨rfl, rfl⟩) | (go_at_call 36; refine HF.out.mono ?_; rintro e W ⟨rfl, hb⟩; have HB := Lib.hid hb; clear hb))
    go_ret2
    exact ⟨rfl, HB.out⟩
  | true =>
    rw [hh] at HF
    obtain ⟨hpos, hpn, hpv⟩ := val_at h.srt hh
    rw [hpv]
    show Calls _ _ _ _ fun e w' => e = .returned (.tuple #[.string (nm vs[posV vs (d :: r)].2), .bool true]) ∧ _
    rcases row_two h.row with ⟨_, h0⟩ | ⟨g, c, rfl, hc, _, _⟩
    · omega
    have HC : Hid (∀ W, Below w.heap.size w W → W.cell? ⟨tb, 2, none⟩ = some (.slice (some ⟨g, 0, none⟩) vs.length c) ∧ tb < W.heap.size ∧ W.cell? ⟨g, posV vs (d :: r) * 2 + 1, none⟩ = some (.string (nm vs[posV vs (d :: r)].2))) := Lib.hid (fun W hb => by
      have hhh := h.below hb
      exact ⟨hhh.c2, hhh.lt, row_cells hhh.row _ _ (varC_at vs _ hpos).2⟩)
    have hpn2 : (posV vs (d :: r) : Int) < (vs.length : Int) := by omega
    have hl2 : (vs.length : Int) ≤ 64 := by have := h.len; omega
    clear h hd g0 hsz h1 h2 h3 h4 hh hpn hpv
    generalize vs[posV vs (d :: r)].2 = X at *
    generalize nm X = X at *
    clear hpos
    generalize posV vs (d :: r) = p at *
    generalize nm (d :: r) = S at *
    generalize vs.length = n at *
    go_enter Try.func15, Try.ntmps15
    go_wp2_with (first | (go_at_call 31; refine (HN.out _ (Below.refl _ _)).mono ?_; rintro e W ⟨rfl, rfl⟩) | (go_at_call 34; refine HD.out.mono ?_; rintro e W ⟨rfl, rfl⟩) | (go_at_call 36; refine HF.out.mono ?_; rintro e W ⟨rfl, hb⟩; obtain ⟨k1, k2, k3⟩ := HC.out W hb; have HB := Lib.hid hb; clear hb))
    go_ret2
    exact ⟨rfl, HB.out⟩
theorem get_any (base tb : Nat) (st : Int) (vs : Vs) (vv av : Value) (ps : List Bs) (name : Bs) (w : World) (h : TbX base w tb st vs vv ps av) (h0 : -9223372036854775808 ≤ st) (h1 : st ≤ 9223372036854775807) (hs : name.length ≤ 140737488351232) :
    Calls Try.prog 15 #[.pointer (some ⟨tb, 0, none⟩), .string (nm name)] w fun e w' => e = .returned (optV (getL ps st vs name)) ∧ Below w.heap.size w w' := by
  cases name with
  | nil =>
    refine (get_empty tb st vv av ps w h.t).mono ?_
    rintro e w' ⟨rfl, rfl⟩
    exact ⟨rfl, Below.refl _ _⟩
  | cons d r =>
    rw [getL_cons]
    by_cases e1 : d :: r = [35]
    · rw [if_pos e1, e1]
      exact get_hash tb st vv av ps w h.t
    rw [if_neg e1]
    by_cases e2 : d :: r = [63]
    · rw [if_pos e2, e2]
      exact get_stat tb st vv av ps w h.t h0 h1
    rw [if_neg e2]
    by_cases e3 : d :: r = [64] ∨ d :: r = [42]
    · rw [if_pos e3]
      refine (get_all tb st vv av ps (nm (d :: r)) (by rcases e3 with e | e <;> rw [e]; exact .inl rfl; exact .inr rfl) w h.t).mono ?_
      rintro e w' ⟨rfl, hb⟩
      refine ⟨?_, hb⟩
      by_cases hps : ps = []
      · rw [if_pos hps, hps]; rfl
      · rw [if_neg hps, decide_eq_true (List.length_pos_iff.2 hps)]; rfl
    rw [if_neg e3]
    cases hd : digit d with
    | true =>
      rw [if_pos rfl]
      refine (get_num tb st vv av ps d r hd w h.t (by simp at hs; omega)).mono ?_
      rintro e w' ⟨rfl, rfl⟩
      exact ⟨rfl, Below.refl _ _⟩
    | false =>
      rw [if_neg (by simp)]
      exact get_var base tb st vs vv av ps d r w h e1 e2 (fun e => e3 (.inl e)) (fun e => e3 (.inr e)) hd (by simp at hs; omega)
end Go.Proofs.Ytdegkfnlafgheaa.Vr
