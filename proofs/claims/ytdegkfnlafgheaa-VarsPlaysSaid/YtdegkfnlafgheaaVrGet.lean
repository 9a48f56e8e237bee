/- DERIVED. The walks over parameter and Get where no variable is asked for. -/
import Derived.Test.YtdegkfnlafgheaaVrShift
import Derived.Deep.RegionHeld3
namespace Go.Proofs.Ytdegkfnlafgheaa.Vr
open Go.RowKit
open PathM WdM
open Go.Proofs.Ytdegkfnlafgheaa.Wd
open Go.Proofs.Ytdegkfnlafgheaa.NumM (textL decN decE)
set_option linter.unusedVariables false
theorem is_str (k l : Bs) : ((nm k).toList == l) = decide (k = l) := by
  rw [listD, nm_data, Bool.eq_iff_iff]; simp
theorem no_emp {k : Bs} (h : k ≠ []) : (nm k).toList.isEmpty = false ∧ ¬ (nm k).toList = [] := by
  rw [listD, nm_data]
  exact ⟨List.isEmpty_eq_false_iff.2 h, h⟩
/-- The parameter of a number. -/
def parL (ps : List Bs) (s : Bs) : Option Bs := if decE s ≠ 0 ∨ decN s < 1 ∨ (ps.length : Int) < decN s then none else ps[(decN s - 1).toNat]?
theorem parL_no {ps : List Bs} {s : Bs} (h : decE s ≠ 0 ∨ decN s < 1 ∨ (ps.length : Int) < decN s) : parL ps s = none := by unfold parL; rw [if_pos h]
def optV (o : Option Bs) : Value := .tuple #[.string (nm (o.getD [])), .bool o.isSome]
set_option maxRecDepth 100000 in
set_option maxHeartbeats 1600000 in
theorem par_any (tb : Nat) (st : Int) (vv av : Value) (ps : List Bs) (s : Bs) (w : World) (h : TbIn w tb st vv ps av) (hs : s.length ≤ 4611686018427387904) :
    Calls Try.prog 35 #[.pointer (some ⟨tb, 0, none⟩), .string (nm s)] w fun e w' => e = .returned (optV (parL ps s)) ∧ w = w' := by
  have hd := decimal_any (nm s) w (by rw [nm_size]; unfold maxLen; omega)
  rw [nm_data] at hd
  have HD := Lib.hid hd
  have hz := h.lt
  have c3 := h.c3
  have hl := h.len
  obtain ⟨A, c, hv, hlc, hcs⟩ := h.args
  subst hv
  obtain ⟨m, hm⟩ : ∃ m, ps.length = m := ⟨_, rfl⟩
  have hm2 : (m : Int) ≤ 256 := by omega
  have hmc : (m : Int) ≤ (c : Int) := by omega
  by_cases hno : decE s ≠ 0 ∨ decN s < 1 ∨ (ps.length : Int) < decN s
  · rw [parL_no hno]
    rw [hm] at hno c3
    clear hcs h hd
    generalize decE s = E at *
    generalize decN s = N at *
    generalize nm s = S at *
    show Calls _ _ _ _ fun e w' => e = .returned (.tuple #[.string ⟨#[]⟩, .bool false]) ∧ w = w'
    by_cases h1 : E = 0
    · subst h1
      have hno2 : N < 1 ∨ (m : Int) < N := by rcases hno with h | h; exact absurd rfl h; exact h
      clear hno
      rcases hno2 with h1 | h1
      all_goals
        go_enter Try.func35, Try.ntmps35
        go_wp2_with (go_at_call 54; refine HD.out.mono ?_; rintro e W ⟨rfl, rfl⟩)
        all_goals
          go_ret2
          exact ⟨rfl, rfl⟩
    · have hq : ((E : Int) != 0) = true := by simpa using h1
      have hq2 : ((E : Int) == 0) = false := by simpa using h1
      clear hno h1
      go_enter Try.func35, Try.ntmps35
      go_wp2_with (go_at_call 54; refine HD.out.mono ?_; rintro e W ⟨rfl, rfl⟩)
      all_goals
        go_ret2
        exact ⟨rfl, rfl⟩
  · have hE : decE s = 0 := by
      by_cases h : decE s = 0
      · exact h
      · exact absurd (.inl h) hno
    have h1 : 1 ≤ decN s := by
      by_cases h : 1 ≤ decN s
      · exact h
      · exact absurd (.inr (.inl (by omega))) hno
    have h2 : decN s ≤ (m : Int) := by
      by_cases h : decN s ≤ (m : Int)
      · exact h
      · exact absurd (.inr (.inr (by omega))) hno
    have hne : ps ≠ [] := by rintro rfl; simp at hm; omega
    obtain ⟨b, off, rfl, hb, hcs⟩ := hcs hne
    obtain ⟨i, hi⟩ : ∃ i : Nat, decN s = (i : Int) + 1 := ⟨(decN s - 1).toNat, by omega⟩
    have hil : i < ps.length := by omega
    have hp : parL ps s = some ps[i] := by
      unfold parL
      rw [if_neg hno, hi, show ((i : Int) + 1 - 1).toNat = i by omega]
      exact List.getElem?_eq_getElem hil
    rw [hp]
    have hcell := hcs i hil
    show Calls _ _ _ _ fun e w' => e = .returned (.tuple #[.string (nm ps[i]), .bool true]) ∧ w = w'
    rw [hm] at c3
    rw [hi, hE] at HD
    generalize ps[i] = X at *
    generalize nm X = X at *
    generalize nm s = S at *
    have him : (i : Int) < (m : Int) := by omega
    have himc : i < c := by omega
    clear hno hE h1 h2 hi hcs hp hne h hd
    go_enter Try.func35, Try.ntmps35
    go_wp2_with (go_at_call 54; refine HD.out.mono ?_; rintro e W ⟨rfl, rfl⟩)
    all_goals
      go_ret2
      exact ⟨rfl, rfl⟩
theorem len_le {ps : List Bs} (h : ∀ x ∈ ps, x.length ≤ 4096) : (Lib.join ps [32]).length ≤ ps.length * 4097 := by
  induction ps with
  | nil => exact Nat.le_refl _
  | cons a r ih =>
    have h1 := h a (by simp)
    have h2 := ih (fun x hx => h x (by simp [hx]))
    cases r with
    | nil =>
      have e : Lib.join [a] [32] = a := by first | rfl | simp [Lib.join]
      rw [e]; simp; omega
    | cons b r =>
      show (a ++ ([32] ++ Lib.join (b :: r) [32])).length ≤ _
      simp only [List.length_append, List.length_cons, List.length_nil] at *
      omega
theorem join_any (ps : List Bs) (v : Value) (w : World) (h : ArIn w v ps) (hn : ps.length ≤ 256) (hl : ∀ x ∈ ps, x.length ≤ 4096) :
    Calls Try.prog 33 #[v, .string ⟨#[32]⟩] w fun e w' => e = .returned (.string (nm (Lib.join ps [32]))) ∧ Below w.heap.size w w' := by
  obtain ⟨A, c, rfl, hlc, hc⟩ := h
  by_cases h0 : ps = []
  · subst h0
    refine (Try.strings_Join_none A c ⟨#[32]⟩ w).mono ?_
    rintro e w' ⟨rfl, rfl⟩
    exact ⟨rfl, Below.refl _ _⟩
  · obtain ⟨b, off, rfl, hb, hcs⟩ := hc h0
    have hmap : (ps.map nm).map (·.data.toList) = ps := by
      rw [List.map_map]
      have : ((fun x : ByteArray => x.data.toList) ∘ nm) = id := by funext x; exact nm_data x
      rw [this, List.map_id]
    have hj := len_le hl
    have := Try.strings_Join b off c (ps.map nm) ⟨#[32]⟩ w (by
      intro j x hx
      obtain ⟨hj1, hj2⟩ := List.getElem?_eq_some_iff.1 hx
      rw [List.length_map] at hj1
      rw [List.getElem_map] at hj2
      rw [← hj2]
      exact hcs j hj1) hb (by rw [List.length_map]; omega) (by rw [List.length_map]; exact hlc) (by
        rw [hmap]
        have : ((⟨#[32]⟩ : ByteArray).data.toList) = [32] := rfl
        rw [this]; omega)
    rw [hmap, List.length_map] at this
    exact this
def nmNone (tb : Nat) (w : World) : Prop := ∀ W, Below w.heap.size w W → Calls Try.prog 31 #[.pointer (some ⟨tb, 0, none⟩)] W fun e w' => e = .returned (.bool false) ∧ W = w'
theorem TbIn.none {w : World} {tb : Nat} {st : Int} {vv av : Value} {ps : List Bs} (h : TbIn w tb st vv ps av) : Hid (nmNone tb w) := Lib.hid (fun W hb => none_any tb W (h.below hb).c1)
set_option maxRecDepth 100000 in
set_option maxHeartbeats 1600000 in
theorem get_hash (tb : Nat) (st : Int) (vv av : Value) (ps : List Bs) (w : World) (h : TbIn w tb st vv ps av) :
    Calls Try.prog 15 #[.pointer (some ⟨tb, 0, none⟩), .string ⟨#[35]⟩] w fun e w' => e = .returned (.tuple #[.string (nm (textL ps.length)), .bool true]) ∧ Below w.heap.size w w' := by
  have HN := h.none
  have hz := h.lt
  have c3 := h.c3
  have hl := h.len
  have ht := text_any (ps.length : Int) w (by omega) (by omega)
  rw [show (⟨(textL (ps.length : Int)).toArray⟩ : ByteArray) = nm (textL ps.length) from rfl] at ht
  have HT := Lib.hid ht
  obtain ⟨A, c, hv, hlc⟩ := h.args.form
  subst hv
  have hm2 : (ps.length : Int) ≤ 256 := by omega
  clear h ht
  generalize nm (textL ps.length) = T at *
  generalize ps.length = m at *
  go_enter Try.func15, Try.ntmps15
  go_wp2_with (first | (go_at_call 31; refine (HN.out _ (Below.refl _ _)).mono ?_; rintro e W ⟨rfl, rfl⟩) | (go_at_call 32; refine HT.out.mono ?_; rintro e W ⟨rfl, hb⟩; have HB := Lib.hid hb; clear hb))
  go_ret2
  exact ⟨rfl, HB.out⟩
set_option maxRecDepth 100000 in
set_option maxHeartbeats 1600000 in
theorem get_stat (tb : Nat) (st : Int) (vv av : Value) (ps : List Bs) (w : World) (h : TbIn w tb st vv ps av) (h0 : -9223372036854775808 ≤ st) (h1 : st ≤ 9223372036854775807) :
    Calls Try.prog 15 #[.pointer (some ⟨tb, 0, none⟩), .string ⟨#[63]⟩] w fun e w' => e = .returned (.tuple #[.string (nm (textL st)), .bool true]) ∧ Below w.heap.size w w' := by
  have HN := h.none
  have hz := h.lt
  have c0 := h.c0
  have ht := text_any st w h0 h1
  rw [show (⟨(textL st).toArray⟩ : ByteArray) = nm (textL st) from rfl] at ht
  have HT := Lib.hid ht
  clear h ht
  generalize nm (textL st) = T at *
  go_enter Try.func15, Try.ntmps15
  go_wp2_with (first | (go_at_call 31; refine (HN.out _ (Below.refl _ _)).mono ?_; rintro e W ⟨rfl, rfl⟩) | (go_at_call 32; refine HT.out.mono ?_; rintro e W ⟨rfl, hb⟩; have HB := Lib.hid hb; clear hb))
  go_ret2
  exact ⟨rfl, HB.out⟩
set_option maxRecDepth 100000 in
set_option maxHeartbeats 1600000 in
theorem get_all (tb : Nat) (st : Int) (vv av : Value) (ps : List Bs) (k : ByteArray) (hk : k = ⟨#[64]⟩ ∨ k = ⟨#[42]⟩) (w : World) (h : TbIn w tb st vv ps av) :
    Calls Try.prog 15 #[.pointer (some ⟨tb, 0, none⟩), .string k] w fun e w' => e = .returned (.tuple #[.string (nm (Lib.join ps [32])), .bool (decide (0 < ps.length))]) ∧ Below w.heap.size w w' := by
  have HN := h.none
  have hz := h.lt
  have HC : Hid (∀ W, Below w.heap.size w W → W.cell? ⟨tb, 3, none⟩ = some av ∧ tb < W.heap.size) := Lib.hid (fun W hb => ⟨(h.below hb).c3, (h.below hb).lt⟩)
  have c3 := h.c3
  have hl := h.len
  have HJ : Hid (∀ W, Below w.heap.size w W → Calls Try.prog 33 #[av, .string ⟨#[32]⟩] W fun e w' => e = .returned (.string (nm (Lib.join ps [32]))) ∧ Below W.heap.size W w') := Lib.hid (fun W hb => join_any ps av W (h.below hb).args h.len h.lens)
  obtain ⟨A, c, hv, hlc⟩ := h.args.form
  subst hv
  have hm2 : (ps.length : Int) ≤ 256 := by omega
  clear h
  generalize nm (Lib.join ps [32]) = T at *
  generalize ps.length = m at *
  rcases hk with rfl | rfl
  all_goals
    go_enter Try.func15, Try.ntmps15
    go_wp2_with (first | (go_at_call 31; refine (HN.out _ (Below.refl _ _)).mono ?_; rintro e W ⟨rfl, rfl⟩))
    have S0 : Hid (w.drew.cell? ⟨tb, 3, none⟩ = some (.slice A m c)) := Lib.hid c3
    have HJD := Lib.hid (HJ.out w.drew ((Below.refl _ _).drew))
    go_region_held3 (fun W => W.cell? ⟨tb, 3, none⟩ = some (.slice A m c))
      (first | (with_reducible exact S0.out) | (with_reducible exact S3.out))
      (first | (go_at_call 33; (refine (HJD.out).mono ?_); rintro e w3 ⟨rfl, hb3⟩; have HB3 : Hid (Below w.heap.size w w3) := Lib.hid ((Below.refl w.heap.size w).drew.trans hb3); have S3 : Hid (w3.cell? ⟨tb, 3, none⟩ = some (.slice A m c)) := Lib.hid (HC.out w3 HB3.out).1; clear hb3))
    go_wp2_with fail
    go_ret2
    exact ⟨rfl, HB3.out⟩
set_option maxRecDepth 100000 in
set_option maxHeartbeats 1600000 in
theorem get_num (tb : Nat) (st : Int) (vv av : Value) (ps : List Bs) (d : UInt8) (r : Bs) (hd : digit d = true) (w : World) (h : TbIn w tb st vv ps av) (hs : r.length ≤ 4611686018427380000) :
    Calls Try.prog 15 #[.pointer (some ⟨tb, 0, none⟩), .string (nm (d :: r))] w fun e w' => e = .returned (optV (parL ps (d :: r))) ∧ w = w' := by
  have HN := h.none
  have hz := h.lt
  have HP := Lib.hid (par_any tb st vv av ps (d :: r) w h (by rw [List.length_cons]; omega))
  have hsz : (nm (d :: r)).size = r.length + 1 := by rw [nm_size]; rfl
  have hp : 0 < (nm (d :: r)).size := by omega
  have g0 : (nm (d :: r))[0] = d := by
    have := Wd.get_at (nm (d :: r)) 0 hp
    rw [List.drop_zero, nm_data] at this
    exact (List.cons.inj this).1.symm
  have HD := Lib.hid (Wd.digit_any (nm (d :: r))[0] w)
  rw [g0, hd] at HD
  rw [← g0] at HD
  have hdd : d ≠ 35 ∧ d ≠ 63 ∧ d ≠ 64 ∧ d ≠ 42 := by
    refine ⟨?_, ?_, ?_, ?_⟩ <;> (rintro rfl; revert hd; decide)
  have q0 := no_emp (k := d :: r) (by simp)
  obtain ⟨q01, q02⟩ := q0
  have q1 : ((nm (d :: r)).toList == [35]) = false := by rw [is_str]; exact decide_eq_false (by rintro e; cases e; exact hdd.1 rfl)
  have q2 : ((nm (d :: r)).toList == [63]) = false := by rw [is_str]; exact decide_eq_false (by rintro e; cases e; exact hdd.2.1 rfl)
  have q3 : ((nm (d :: r)).toList == [64]) = false := by rw [is_str]; exact decide_eq_false (by rintro e; cases e; exact hdd.2.2.1 rfl)
  have q4 : ((nm (d :: r)).toList == [42]) = false := by rw [is_str]; exact decide_eq_false (by rintro e; cases e; exact hdd.2.2.2 rfl)
  have n1 : ¬ (nm (d :: r)).toList = [35] := by intro e; rw [e] at q1; cases q1
  have n2 : ¬ (nm (d :: r)).toList = [63] := by intro e; rw [e] at q2; cases q2
  have n3 : ¬ (nm (d :: r)).toList = [64] := by intro e; rw [e] at q3; cases q3
  have n4 : ¬ (nm (d :: r)).toList = [42] := by intro e; rw [e] at q4; cases q4
  clear h hd hdd g0 hsz
  unfold optV at *
  generalize (parL ps (d :: r)).getD [] = X at *
  generalize (parL ps (d :: r)).isSome = Y at *
  generalize nm (d :: r) = S at *
  go_enter Try.func15, Try.ntmps15
  go_wp2_with (first | (go_at_call 31; refine (HN.out _ (Below.refl _ _)).mono ?_; rintro e W ⟨rfl, rfl⟩) | (go_at_call 34; refine HD.out.mono ?_; rintro e W ⟨rfl, rfl⟩) | (go_at_call 35; refine HP.out.mono ?_; rintro e W ⟨rfl, rfl⟩))
  go_ret2
  exact ⟨rfl, rfl⟩
end Go.Proofs.Ytdegkfnlafgheaa.Vr
