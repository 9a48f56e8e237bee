/- DERIVED. The document's own table: all of Get. -/
import Derived.Test.YtdegkfnlafgheaaVrRGet
namespace Go.Proofs.Ytdegkfnlafgheaa.Vr
open Go.RowKit
open PathM WdM VrM
open Go.Proofs.Ytdegkfnlafgheaa.Wd
open Go.Proofs.Ytdegkfnlafgheaa.NumM (textL decN decE)
set_option linter.unusedVariables false
set_option maxRecDepth 100000 in
set_option maxHeartbeats 1600000 in
theorem rget_empty (vv : Value) (A2 : Option Addr) (n2 c2 : Nat) (vs : Vs) (st : Int) (w : World) (h : VsIn w vv vs) (hs0 : Srt vs) (hl : vs.length ≤ 64) (hno : hasV vs [] = false) :
    Calls Try.prog 16 #[tblV vv (.slice A2 n2 c2) st, .string (nm [])] w fun e w' => e = .returned (.tuple #[.string ⟨#[]⟩, .bool false]) ∧ Below w.heap.size w w' := by
  have HPL : Hid (∀ W, Below w.heap.size w W → Calls Try.prog 41 #[.agg #[vv, .slice A2 n2 c2, .int .i64 st], .string (nm [])] W fun e w' => e = .returned (.int .i64 (plV vs [])) ∧ Below W.heap.size W w') := Lib.hid (fun W hb => rplace_any vs [] vv A2 n2 c2 st W (h.below hb) hs0 (by omega))
  have hpl : plV vs [] = -1 := by unfold plV; rw [hno]; rfl
  rw [hpl] at HPL
  obtain ⟨A, c, rfl, hlc⟩ := h.form
  have HB := Lib.hid (one_below w (.cells #[.slice A vs.length c, .slice A2 n2 c2, .int .i64 st] 36))
  unfold tblV
  have e1 : (nm []).toList = [] := by rw [listD, nm_data]
  have e2 : (nm []).size = 0 := by rw [nm_size]; rfl
  have q1 : ((nm []).toList == [35]) = false := by rw [e1]; rfl
  have q2 : ((nm []).toList == [63]) = false := by rw [e1]; rfl
  have q3 : ((nm []).toList == [64]) = false := by rw [e1]; rfl
  have q4 : ((nm []).toList == [42]) = false := by rw [e1]; rfl
  have hss : ((nm []).size : Int) = 0 := by omega
  clear h hs0 hno hpl e1 e2
  generalize nm [] = S at *
  generalize vs.length = n at *
  go_enter Try.func16, Try.ntmps16
  go_wp2_with (first | (go_at_call 41; refine (HPL.out _ HB.out).mono ?_; rintro e W ⟨rfl, hb⟩; have HB2 := Lib.hid (HB.out.trans (hb.mono HB.out.size)); clear hb))
  all_goals
    go_ret2
    exact ⟨rfl, HB2.out⟩
set_option maxRecDepth 100000 in
set_option maxHeartbeats 1600000 in
theorem rget_var (vv : Value) (A2 : Option Addr) (n2 c2 : Nat) (vs : Vs) (st : Int) (d : UInt8) (r : Bs) (w : World) (h : VsIn w vv vs) (hs0 : Srt vs) (hl : vs.length ≤ 64) (h1 : d :: r ≠ [35]) (h2 : d :: r ≠ [63]) (h3 : d :: r ≠ [64]) (h4 : d :: r ≠ [42]) (hd : digit d = false) (hs : r.length ≤ 4611686018427380000) :
    Calls Try.prog 16 #[tblV vv (.slice A2 n2 c2) st, .string (nm (d :: r))] w fun e w' => e = .returned (optV (valV vs (d :: r))) ∧ Below w.heap.size w w' := by
  have hsz : (nm (d :: r)).size = r.length + 1 := by rw [nm_size]; rfl
  have hp : 0 < (nm (d :: r)).size := by omega
  have g0 : (nm (d :: r))[0] = d := by
    have := Wd.get_at (nm (d :: r)) 0 hp
    rw [List.drop_zero, nm_data] at this
    exact (List.cons.inj this).1.symm
  have HD := Lib.hid (fun W => Wd.rdigit_any (nm (d :: r))[0] W)
  rw [g0, hd] at HD
  rw [← g0] at HD
  obtain ⟨q01, q02⟩ := no_emp (k := d :: r) (by simp)
  have q1 : ((nm (d :: r)).toList == [35]) = false := by rw [is_str]; exact decide_eq_false h1
  have q2 : ((nm (d :: r)).toList == [63]) = false := by rw [is_str]; exact decide_eq_false h2
  have q3 : ((nm (d :: r)).toList == [64]) = false := by rw [is_str]; exact decide_eq_false h3
  have q4 : ((nm (d :: r)).toList == [42]) = false := by rw [is_str]; exact decide_eq_false h4
  have j1 : ¬ (nm (d :: r)).toList = [35] := by intro e; rw [e] at q1; cases q1
  have j2 : ¬ (nm (d :: r)).toList = [63] := by intro e; rw [e] at q2; cases q2
  have j3 : ¬ (nm (d :: r)).toList = [64] := by intro e; rw [e] at q3; cases q3
  have j4 : ¬ (nm (d :: r)).toList = [42] := by intro e; rw [e] at q4; cases q4
  have hss : ((nm (d :: r)).size : Int) ≤ 4611686018427387904 := by rw [hsz]; omega
  have hss0 : (0 : Int) < ((nm (d :: r)).size : Int) := by omega
  have HPL : Hid (∀ W, Below w.heap.size w W → Calls Try.prog 41 #[.agg #[vv, .slice A2 n2 c2, .int .i64 st], .string (nm (d :: r))] W fun e w' => e = .returned (.int .i64 (plV vs (d :: r))) ∧ Below W.heap.size W w') := Lib.hid (fun W hb => rplace_any vs (d :: r) vv A2 n2 c2 st W (h.below hb) hs0 (by omega))
  obtain ⟨A, c, hvf, hlc, hcell⟩ := h
  subst hvf
  have HB := Lib.hid (one_below w (.cells #[.slice A vs.length c, .slice A2 n2 c2, .int .i64 st] 36))
  have H1 := Lib.hid (heap_alloc_new w (.cells #[.slice A vs.length c, .slice A2 n2 c2, .int .i64 st] 36))
  have hl2 : (vs.length : Int) ≤ 64 := by omega
  unfold tblV
  cases hh : hasV vs (d :: r) with
  | false =>
    have hpl : plV vs (d :: r) = -1 := by unfold plV; rw [hh]; rfl
    rw [hpl] at HPL
    rw [val_no hh]
    show Calls _ _ _ _ fun e w' => e = .returned (.tuple #[.string ⟨#[]⟩, .bool false]) ∧ _
    clear hcell hd h1 h2 h3 h4 g0 hsz hh hpl hs0
    generalize nm (d :: r) = S at *
    generalize vs.length = n at *
    go_enter Try.func16, Try.ntmps16
    go_wp2_with (first | (go_at_call 39; refine (HD.out _).mono ?_; rintro e W ⟨rfl, rfl⟩) | (go_at_call 41; refine (HPL.out _ HB.out).mono ?_; rintro e W ⟨rfl, hb⟩; have HB2 := Lib.hid (HB.out.trans (hb.mono HB.out.size)); clear hb))
    all_goals
      go_ret2
      exact ⟨rfl, HB2.out⟩
  | true =>
    obtain ⟨hpos, hpn, hpv⟩ := val_at hs0 hh
    have hpl : plV vs (d :: r) = (posV vs (d :: r) : Int) := by unfold plV; rw [hh]; rfl
    rw [hpl] at HPL
    rw [hpv]
    show Calls _ _ _ _ fun e w' => e = .returned (.tuple #[.string (nm vs[posV vs (d :: r)].2), .bool true]) ∧ _
    obtain ⟨b, off, rfl, hb, hcs⟩ := hcell (fun e => by rw [e] at hpos; simp at hpos)
    have HC : Hid (∀ W, Below w.heap.size w W → W.cell? ⟨b, off + posV vs (d :: r) * 2 + 1, none⟩ = some (.string (nm vs[posV vs (d :: r)].2)) ∧ b < W.heap.size) := Lib.hid (fun W hbb => ⟨(World.cell?_of_block (hbb.block b hb)).trans (hcs _ hpos).2, Nat.lt_of_lt_of_le hb hbb.size⟩)
    have hpn2 : (posV vs (d :: r) : Int) < (vs.length : Int) := by omega
    have hpc : (vs.length : Int) ≤ (c : Int) := by omega
    clear hcs hcell hd h1 h2 h3 h4 g0 hsz hh hpl hs0 hpn hpv
    generalize vs[posV vs (d :: r)].2 = X at *
    generalize nm X = X at *
    clear hpos
    generalize posV vs (d :: r) = p at *
    generalize nm (d :: r) = S at *
    generalize vs.length = n at *
    go_enter Try.func16, Try.ntmps16
    go_wp2_with (first | (go_at_call 39; refine (HD.out _).mono ?_; rintro e W ⟨rfl, rfl⟩) | (go_at_call 41; refine (HPL.out _ HB.out).mono ?_; rintro e W ⟨rfl, hbb⟩; have HB2 := Lib.hid (HB.out.trans (hbb.mono HB.out.size)); obtain ⟨k1, k2⟩ := HC.out W HB2.out; have hh3 := (hbb.block w.heap.size (by simp)).trans H1.out; have c30 := cell_blk hh3 0; simp at c30; have hz3 := fin_at hh3; clear hbb hh3))
    all_goals
      go_ret2
      exact ⟨rfl, HB2.out⟩
/-- All of Get. -/
theorem rget_any (vs : Vs) (vv av : Value) (ps : List Bs) (st : Int) (name : Bs) (w : World) (hv : VsIn w vv vs) (ha : ArIn w av ps) (hs0 : Srt vs) (hl : vs.length ≤ 64) (hn : ps.length ≤ 256) (hpl : ∀ x ∈ ps, x.length ≤ 4096) (hno : hasV vs [] = false) (h0 : -9223372036854775808 ≤ st) (h1 : st ≤ 9223372036854775807) (hs : name.length ≤ 140737488351232) :
    Calls Try.prog 16 #[tblV vv av st, .string (nm name)] w fun e w' => e = .returned (optV (getL ps st vs name)) ∧ Below w.heap.size w w' := by
  obtain ⟨A1, c1, hf1, _⟩ := hv.form
  obtain ⟨A2, c2, hf2, _⟩ := ha.form
  cases name with
  | nil => rw [hf2]; exact rget_empty vv A2 ps.length c2 vs st w hv hs0 hl hno
  | cons d r =>
    rw [getL_cons]
    by_cases e1 : d :: r = [35]
    · rw [if_pos e1, e1, hf1, hf2]
      exact rget_hash A1 A2 vs.length c1 ps.length c2 st w (by omega)
    rw [if_neg e1]
    by_cases e2 : d :: r = [63]
    · rw [if_pos e2, e2, hf1, hf2]
      exact rget_stat A1 A2 vs.length c1 ps.length c2 st w h0 h1
    rw [if_neg e2]
    by_cases e3 : d :: r = [64] ∨ d :: r = [42]
    · rw [if_pos e3, hf1]
      refine (rget_all A1 vs.length c1 av ps st (nm (d :: r)) (by rcases e3 with e | e <;> rw [e]; exact .inl rfl; exact .inr rfl) w ha hn hpl).mono ?_
      rintro e w' ⟨rfl, hb⟩
      refine ⟨?_, hb⟩
      by_cases hps : ps = []
      · rw [if_pos hps, hps]; rfl
      · rw [if_neg hps, decide_eq_true (List.length_pos_iff.2 hps)]; rfl
    rw [if_neg e3]
    cases hd : digit d with
    | true =>
      rw [if_pos rfl, hf1]
      exact rget_num A1 vs.length c1 av ps st d r w ha hn hd (by simp at hs; omega)
    | false =>
      rw [if_neg (by simp), hf2]
      exact rget_var vv A2 ps.length c2 vs st d r w hv hs0 hl e1 e2 (fun e => e3 (.inl e)) (fun e => e3 (.inr e)) hd (by simp at hs; omega)
end Go.Proofs.Ytdegkfnlafgheaa.Vr
