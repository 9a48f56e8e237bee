/- DERIVED. The document's own table: Get. -/
import Derived.Test.YtdegkfnlafgheaaVrRSh
import Derived.Test.YtdegkfnlafgheaaVrGetV
import Derived.Test.YtdegkfnlafgheaaNumRef2
import Derived.BigQuiet
namespace Go.Proofs.Ytdegkfnlafgheaa.Vr
open Go.RowKit
open PathM WdM VrM
open Go.Proofs.Ytdegkfnlafgheaa.Wd
open Go.Proofs.Ytdegkfnlafgheaa.NumM (textL decN decE)
set_option linter.unusedVariables false
theorem one_below (w : World) (a : Obj) : Below w.heap.size w (w.alloc a) := (Below.refl _ _).alloc (Nat.le_refl _) _
set_option maxRecDepth 100000 in
set_option maxHeartbeats 1600000 in
theorem rget_hash (A1 A2 : Option Addr) (n1 c1 m c2 : Nat) (st : Int) (w : World) (hm : (m : Int) ≤ 4096) :
    Calls Try.prog 16 #[tblV (.slice A1 n1 c1) (.slice A2 m c2) st, .string ⟨#[35]⟩] w fun e w' => e = .returned (.tuple #[.string (nm (textL (m : Int))), .bool true]) ∧ Below w.heap.size w w' := by
  unfold tblV
  have ht := fun W => rtext_any (m : Int) W (by omega) (by omega)
  rw [show (⟨(textL (m : Int)).toArray⟩ : ByteArray) = nm (textL m) from rfl] at ht
  have HT := Lib.hid ht
  have HB := Lib.hid (one_below w (.cells #[.slice A1 n1 c1, .slice A2 m c2, .int .i64 st] 36))
  clear ht
  generalize nm (textL (m : Int)) = T at *
  go_enter Try.func16, Try.ntmps16
  go_wp2_with (go_at_call 37; refine (HT.out _).mono ?_; rintro e W ⟨rfl, k, rfl⟩)
  go_ret2
  exact ⟨rfl, below_drewN' HB.out k⟩
set_option maxRecDepth 100000 in
set_option maxHeartbeats 1600000 in
theorem rget_stat (A1 A2 : Option Addr) (n1 c1 m c2 : Nat) (st : Int) (w : World) (h0 : -9223372036854775808 ≤ st) (h1 : st ≤ 9223372036854775807) :
    Calls Try.prog 16 #[tblV (.slice A1 n1 c1) (.slice A2 m c2) st, .string ⟨#[63]⟩] w fun e w' => e = .returned (.tuple #[.string (nm (textL st)), .bool true]) ∧ Below w.heap.size w w' := by
  unfold tblV
  have ht := fun W => rtext_any st W h0 h1
  rw [show (⟨(textL st).toArray⟩ : ByteArray) = nm (textL st) from rfl] at ht
  have HT := Lib.hid ht
  have HB := Lib.hid (one_below w (.cells #[.slice A1 n1 c1, .slice A2 m c2, .int .i64 st] 36))
  clear ht
  generalize nm (textL st) = T at *
  go_enter Try.func16, Try.ntmps16
  go_wp2_with (go_at_call 37; refine (HT.out _).mono ?_; rintro e W ⟨rfl, k, rfl⟩)
  go_ret2
  exact ⟨rfl, below_drewN' HB.out k⟩
set_option maxRecDepth 100000 in
set_option maxHeartbeats 1600000 in
theorem rget_all (A1 : Option Addr) (n1 c1 : Nat) (av : Value) (ps : List Bs) (st : Int) (k : ByteArray) (hk : k = ⟨#[64]⟩ ∨ k = ⟨#[42]⟩) (w : World) (h : ArIn w av ps) (hn : ps.length ≤ 256) (hl : ∀ x ∈ ps, x.length ≤ 4096) :
    Calls Try.prog 16 #[tblV (.slice A1 n1 c1) av st, .string k] w fun e w' => e = .returned (.tuple #[.string (nm (Lib.join ps [32])), .bool (decide (0 < ps.length))]) ∧ Below w.heap.size w w' := by
  have HJ : Hid (∀ W, Below w.heap.size w W → Calls Try.prog 38 #[av, .string ⟨#[32]⟩] W fun e w' => e = .returned (.string (nm (Lib.join ps [32]))) ∧ W = w') := Lib.hid (fun W hb => joined_any ps av W (h.below hb) hn hl)
  obtain ⟨A2, c2, rfl, _⟩ := h.form
  unfold tblV
  have HB := Lib.hid (one_below w (.cells #[.slice A1 n1 c1, .slice A2 ps.length c2, .int .i64 st] 36))
  have hm2 : (ps.length : Int) ≤ 256 := by omega
  have HJD := fun q => Lib.hid (HJ.out ((w.alloc (.cells #[.slice A1 n1 c1, .slice A2 ps.length c2, .int .i64 st] 36)).drewN q) (below_drewN' HB.out q))
  clear h hl
  generalize nm (Lib.join ps [32]) = T at *
  generalize ps.length = m at *
  rcases hk with rfl | rfl
  all_goals
    go_enter Try.func16, Try.ntmps16
    go_wp2_with fail
    go_quiet (first | (go_at_call 38; exact Calls.quiet_of_same ((HJ.out _ (below_drewN' HB.out _)).mono (fun _ _ h => ⟨h.1, h.2.symm⟩))))
    go_wp2_with fail
    go_ret2
    exact ⟨rfl, below_drewN' HB.out _⟩
set_option maxRecDepth 100000 in
set_option maxHeartbeats 1600000 in
theorem rget_num (A1 : Option Addr) (n1' c1 : Nat) (av : Value) (ps : List Bs) (st : Int) (d : UInt8) (r : Bs) (w : World) (h : ArIn w av ps) (hn : ps.length ≤ 256) (hd : digit d = true) (hs : r.length ≤ 4611686018427380000) :
    Calls Try.prog 16 #[tblV (.slice A1 n1' c1) av st, .string (nm (d :: r))] w fun e w' => e = .returned (optV (parL ps (d :: r))) ∧ Below w.heap.size w w' := by
  have hdd : d ≠ 35 ∧ d ≠ 63 ∧ d ≠ 64 ∧ d ≠ 42 := by
    refine ⟨?_, ?_, ?_, ?_⟩ <;> (rintro rfl; revert hd; decide)
  have h1 : d :: r ≠ [35] := by rintro e; cases e; exact hdd.1 rfl
  have h2 : d :: r ≠ [63] := by rintro e; cases e; exact hdd.2.1 rfl
  have h3 : d :: r ≠ [64] := by rintro e; cases e; exact hdd.2.2.1 rfl
  have h4 : d :: r ≠ [42] := by rintro e; cases e; exact hdd.2.2.2 rfl
  have hsz : (nm (d :: r)).size = r.length + 1 := by rw [nm_size]; rfl
  have hp : 0 < (nm (d :: r)).size := by omega
  have g0 : (nm (d :: r))[0] = d := by
    have := Wd.get_at (nm (d :: r)) 0 hp
    rw [List.drop_zero, nm_data] at this
    exact (List.cons.inj this).1.symm
  have HD := Lib.hid (fun W => Wd.rdigit_any (nm (d :: r))[0] W)
  rw [g0, hd] at HD
  rw [← g0] at HD
  obtain ⟨q01, q02⟩ := no_emp (k := d :: r) (by simp)
  have q1 : ((nm (d :: r)).toList == [35]) = false := by rw [is_str]; exact decide_eq_false h1
  have q2 : ((nm (d :: r)).toList == [63]) = false := by rw [is_str]; exact decide_eq_false h2
  have q3 : ((nm (d :: r)).toList == [64]) = false := by rw [is_str]; exact decide_eq_false h3
  have q4 : ((nm (d :: r)).toList == [42]) = false := by rw [is_str]; exact decide_eq_false h4
  have n1 : ¬ (nm (d :: r)).toList = [35] := by intro e; rw [e] at q1; cases q1
  have n2 : ¬ (nm (d :: r)).toList = [63] := by intro e; rw [e] at q2; cases q2
  have n3 : ¬ (nm (d :: r)).toList = [64] := by intro e; rw [e] at q3; cases q3
  have n4 : ¬ (nm (d :: r)).toList = [42] := by intro e; rw [e] at q4; cases q4
  have hss : ((nm (d :: r)).size : Int) ≤ 4611686018427387904 := by rw [hsz]; omega
  have hss0 : (0 : Int) < ((nm (d :: r)).size : Int) := by omega
  have hdc := fun W => rdecimal_any (nm (d :: r)) W (by rw [hsz]; unfold maxLen; omega)
  rw [nm_data] at hdc
  have HDC := Lib.hid hdc
  obtain ⟨A, c, hv, hlc, hcs⟩ := h
  subst hv
  have HB := Lib.hid (one_below w (.cells #[.slice A1 n1' c1, .slice A ps.length c, .int .i64 st] 36))
  unfold tblV
  obtain ⟨m, hm⟩ : ∃ m, ps.length = m := ⟨_, rfl⟩
  have hm2 : (m : Int) ≤ 256 := by omega
  have hmc : (m : Int) ≤ (c : Int) := by omega
  by_cases hno : decE (d :: r) ≠ 0 ∨ decN (d :: r) < 1 ∨ (ps.length : Int) < decN (d :: r)
  · rw [parL_no hno]
    rw [hm] at hno HB ⊢
    clear hcs hd hdc hdd h1 h2 h3 h4 g0 hsz
    generalize decE (d :: r) = E at *
    generalize decN (d :: r) = N at *
    generalize nm (d :: r) = S at *
    show Calls _ _ _ _ fun e w' => e = .returned (.tuple #[.string ⟨#[]⟩, .bool false]) ∧ Below w.heap.size w w'
    by_cases h1 : E = 0
    · subst h1
      have hno2 : N < 1 ∨ (m : Int) < N := by rcases hno with h | h; exact absurd rfl h; exact h
      clear hno
      rcases hno2 with h1 | h1
      all_goals
        go_enter Try.func16, Try.ntmps16
        go_wp2_with (first | (go_at_call 39; refine (HD.out _).mono ?_; rintro e W ⟨rfl, rfl⟩) | (go_at_call 40; refine (HDC.out _).mono ?_; rintro e W ⟨rfl, rfl⟩))
        all_goals
          go_ret2
          exact ⟨rfl, HB.out⟩
    · have hq : ((E : Int) != 0) = true := by simpa using h1
      have hq2 : ((E : Int) == 0) = false := by simpa using h1
      clear hno h1
      go_enter Try.func16, Try.ntmps16
      go_wp2_with (first | (go_at_call 39; refine (HD.out _).mono ?_; rintro e W ⟨rfl, rfl⟩) | (go_at_call 40; refine (HDC.out _).mono ?_; rintro e W ⟨rfl, rfl⟩))
      all_goals
        go_ret2
        exact ⟨rfl, HB.out⟩
  · have hE : decE (d :: r) = 0 := by
      by_cases h : decE (d :: r) = 0
      · exact h
      · exact absurd (.inl h) hno
    have k1 : 1 ≤ decN (d :: r) := by
      by_cases h : 1 ≤ decN (d :: r)
      · exact h
      · exact absurd (.inr (.inl (by omega))) hno
    have k2 : decN (d :: r) ≤ (m : Int) := by
      by_cases h : decN (d :: r) ≤ (m : Int)
      · exact h
      · exact absurd (.inr (.inr (by omega))) hno
    have hne : ps ≠ [] := by rintro rfl; simp at hm; omega
    obtain ⟨b, off, rfl, hb, hcs⟩ := hcs hne
    obtain ⟨i, hi⟩ : ∃ i : Nat, decN (d :: r) = (i : Int) + 1 := ⟨(decN (d :: r) - 1).toNat, by omega⟩
    have hil : i < ps.length := by omega
    have hpar : parL ps (d :: r) = some ps[i] := by
      unfold parL
      rw [if_neg hno, hi, show ((i : Int) + 1 - 1).toNat = i by omega]
      exact List.getElem?_eq_getElem hil
    rw [hpar]
    have hcell := (World.cell?_of_block (HB.out.block b hb)).trans (hcs i hil)
    show Calls _ _ _ _ fun e w' => e = .returned (.tuple #[.string (nm ps[i]), .bool true]) ∧ Below w.heap.size w w'
    rw [hm] at HB hcell ⊢
    rw [hi, hE] at HDC
    generalize ps[i] = X at *
    generalize nm X = X at *
    have him : (i : Int) < (m : Int) := by omega
    have himc : i < c := by omega
    have hbw := Nat.lt_of_lt_of_le hb HB.out.size
    clear hno hE k1 k2 hi hcs hpar hne hdc hd hdd h1 h2 h3 h4 g0 hsz
    generalize nm (d :: r) = S at *
    go_enter Try.func16, Try.ntmps16
    go_wp2_with (first | (go_at_call 39; refine (HD.out _).mono ?_; rintro e W ⟨rfl, rfl⟩) | (go_at_call 40; refine (HDC.out _).mono ?_; rintro e W ⟨rfl, rfl⟩))
    all_goals
      go_ret2
      exact ⟨rfl, HB.out⟩
end Go.Proofs.Ytdegkfnlafgheaa.Vr
