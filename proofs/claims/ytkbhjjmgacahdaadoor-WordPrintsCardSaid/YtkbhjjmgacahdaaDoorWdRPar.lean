/- DERIVED. Walks over the document's fault, paramAt, opAt. -/
import Derived.Test.YtkbhjjmgacahdaaDoorWdRQuo
namespace Go.Proofs.YtkbhjjmgacahdaaDoor.Wd
open Go.RowKit
open PathM WdM
set_option linter.unusedVariables false

theorem rfault_any (n : Int) (er : Int) (w : World) : Calls Tryd.prog 23 #[.int .i64 n, .int .i64 er] w fun e w' => e = .returned (.agg #[.slice none 0 0, .int .i64 n, .int .i64 er]) ∧ Below w.heap.size w w' := by
  go_enter Tryd.func23, Tryd.ntmps23
  go_wp2
  refine bodyPost_ret (results_cell_row rfl _ _ _ 43 _ (0, 0) _ rfl (heap_alloc_new _ _) Tryd.underlying43 rfl (by kernel_rfl)) rfl ?_
  exact ⟨rfl, (Below.refl _ _).alloc (Nat.le_refl _) _⟩
/-- How long the parameter is that begins a text. -/
def parLen (l : Bs) : Nat := if paramStands l then paramLen l else 0
theorem nameLen_letter {c : UInt8} {t : Bs} (h : letter c = true) : 0 < nameLen (c :: t) ∧ nameLen (c :: t) = leading named (c :: t) := by
  have e : nameLen (c :: t) = leading named (c :: t) := by
    show (if letter c then leading named (c :: t) else 0) = _
    rw [if_pos h]
  refine ⟨?_, e⟩
  rw [e, leading]
  have hn : named c = true := by unfold named; rw [h]; rfl
  rw [if_pos hn]
  omega
theorem nameLen_not {c : UInt8} {t : Bs} (h : letter c = false) : nameLen (c :: t) = 0 := by
  show (if letter c then leading named (c :: t) else 0) = 0
  rw [h]
  rfl
set_option maxRecDepth 100000 in
set_option maxHeartbeats 1600000 in
theorem rparamAt_any (s : ByteArray) (i : Nat) (w : World) (hi : i ≤ s.size) (hs : s.size ≤ 8192) :
    Calls Tryd.prog 80 #[.string s, .int .i64 i] w fun e w' => e = .returned (.int .i64 (parLen (s.data.toList.drop i) : Nat)) ∧ w = w' := by
  have hn := nameAt_any s i hi w (by omega)
  by_cases hlt : i < s.size
  · have hd := get_at s i hlt
    cases hl : letter s[i] with
    | true =>
      obtain ⟨h1, h2⟩ := nameLen_letter (t := s.data.toList.drop (i + 1)) hl
      rw [← hd] at h1 h2
      have hp : parLen (s.data.toList.drop i) = nameLen (s.data.toList.drop i) := by
        rw [h2]
        unfold parLen
        rw [hd]
        have e1 : paramStands (s[i] :: s.data.toList.drop (i + 1)) = true := by
          show (named s[i] || _) = true
          unfold named; rw [hl]; rfl
        rw [if_pos e1]
        show (if letter s[i] then _ else _) = _
        rw [if_pos hl]
      rw [hp]
      have HN := Lib.hid hn
      generalize nameLen (s.data.toList.drop i) = n at *
      clear hp h2 hd hl hn
      go_enter Tryd.func80, Tryd.ntmps80
      go_wp2_with (go_at_call 62; refine HN.out.mono ?_; rintro e w' ⟨rfl, rfl⟩)
      go_ret
      exact ⟨rfl, rfl⟩
    | false =>
      have h0 : nameLen (s.data.toList.drop i) = 0 := by rw [hd]; exact nameLen_not hl
      rw [h0] at hn
      have HN := Lib.hid hn
      have HH := Lib.hid (fun w => has_any (nm signs) s[i] w (by decide))
      rw [nm_data] at HH
      clear hn h0
      cases hsg : signs.contains s[i] with
      | true =>
        rw [hsg] at HH
        have hdg : digit s[i] = false := by
          cases hx : digit s[i] with
          | false => rfl
          | true =>
            have h4 : s[i] = 64 ∨ s[i] = 42 ∨ s[i] = 35 ∨ s[i] = 63 := by simpa [signs] using hsg
            rcases h4 with h | h | h | h <;> (rw [h] at hx; exact absurd hx (by decide))
        have hp : parLen (s.data.toList.drop i) = 1 := by
          unfold parLen
          rw [hd]
          have e1 : paramStands (s[i] :: s.data.toList.drop (i + 1)) = true := by
            show (named s[i] || signs.contains s[i]) = true
            rw [hsg, Bool.or_true]
          rw [if_pos e1]
          show (if letter s[i] then _ else if digit s[i] then _ else 1) = 1
          rw [hl, hdg]
          rfl
        rw [hp]
        clear hp hdg hsg hl hd
        go_enter Tryd.func80, Tryd.ntmps80
        go_wp2_with (first | (go_at_call 62; refine HN.out.mono ?_; rintro e w' ⟨rfl, rfl⟩) | (go_at_call 47; refine (HH.out _).mono ?_; rintro e w' ⟨rfl, rfl⟩))
        go_ret
        exact ⟨rfl, rfl⟩
      | false =>
        rw [hsg] at HH
        have hp : parLen (s.data.toList.drop i) = leading digit (s.data.toList.drop i) := by
          unfold parLen
          rw [hd]
          cases hdg : digit s[i] with
          | true =>
            have e1 : paramStands (s[i] :: s.data.toList.drop (i + 1)) = true := by
              show (named s[i] || _) = true
              unfold named; rw [hdg, Bool.or_true]; rfl
            rw [if_pos e1]
            show (if letter s[i] then _ else if digit s[i] then _ else 1) = _
            rw [hl, hdg]
            rfl
          | false =>
            have e1 : paramStands (s[i] :: s.data.toList.drop (i + 1)) = false := by
              show (named s[i] || signs.contains s[i]) = false
              unfold named; rw [hl, hdg, hsg]; rfl
            rw [if_neg (by rw [e1]; decide), leading, if_neg (by rw [hdg]; decide)]
        have HL : Hid (leading digit (s.data.toList.drop (i + 0)) + 0 = parLen (s.data.toList.drop i)) := Lib.hid hp.symm
        have HG := Lib.hid (fun c w => rdigit_any c w)
        have HLE : Hid (leading digit (s.data.toList.drop i) ≤ s.size - i) := Lib.hid (by have := leading_le digit (s.data.toList.drop i); rw [bad_len] at this; exact this)
        generalize parLen (s.data.toList.drop i) = r at *
        clear hp hsg hl hd
        go_enter Tryd.func80, Tryd.ntmps80
        go_wp2_with (first | (go_at_call 62; refine HN.out.mono ?_; rintro e w' ⟨rfl, rfl⟩) | (go_at_call 47; refine (HH.out _).mono ?_; rintro e w' ⟨rfl, rfl⟩))
        go_loopg [5] (s.size - i) (fun g x wr => ∃ n : Nat, g = s.size - i - n ∧ x = .int .i64 n ∧ wr = w ∧ i + n ≤ s.size ∧ Hid (leading digit (s.data.toList.drop (i + n)) + n = r))
        case atStart => exact ⟨0, rfl, rfl, rfl, by omega, HL⟩
        case round =>
          obtain ⟨n, rfl, rfl, rfl, hin, HI⟩ := hrel
          clear HL
          have h1w : IntKind.i64.wrap ((i : Int) + (n : Int)) = (i : Int) + (n : Int) := IntWalk.i64_in _ (by omega)
          by_cases hjl : i + n < s.size
          · have hd := get_at s (i + n) hjl
            have HD := Lib.hid hd
            clear hd
            have hlt2 : (i : Int) + (n : Int) < (s.size : Int) := by omega
            have hp0 : (0 : Int) ≤ (i : Int) + (n : Int) := by omega
            have hpn : ((i : Int) + (n : Int)).toNat = i + n := by omega
            have HGJ := Lib.hid (HG.out s[i + n])
            cases hdg : digit s[i + n] with
            | true =>
              rw [hdg] at HGJ
              have HN2 : Hid (leading digit (s.data.toList.drop (i + (n + 1))) + (n + 1) = r) := Lib.hid (by
                have := HI.out
                rw [HD.out, leading, if_pos (by rw [hdg])] at this
                rw [← this, show i + (n + 1) = i + n + 1 from by omega]
                omega)
              clear hdg
              go_wp2_with (go_at_call 63; refine (HGJ.out _).mono ?_; rintro e w' ⟨rfl, rfl⟩)
              go_roundg (s.size - i - (n + 1))
              case rel => exact ⟨n + 1, rfl, by go_num, rfl, by omega, HN2⟩
              case measure => omega
            | false =>
              rw [hdg] at HGJ
              have HR : Hid (n = r) := Lib.hid (by
                have := HI.out
                rw [HD.out, leading, if_neg (by rw [hdg]; decide)] at this
                omega)
              clear hdg
              go_wp2_with (go_at_call 63; refine (HGJ.out _).mono ?_; rintro e w' ⟨rfl, rfl⟩)
              go_ret
              exact ⟨ret_int (by rw [HR.out]), rfl⟩
          · have HR : Hid (n = r) := Lib.hid (by
              have := HI.out
              rw [drop_nil s (i + n) (by omega)] at this
              simp [leading] at this
              exact this)
            have hge : ¬ ((i : Int) + (n : Int) < (s.size : Int)) := by omega
            go_wp2_with fail
            go_ret
            exact ⟨ret_int (by rw [HR.out]), rfl⟩
  · have hp : parLen (s.data.toList.drop i) = 0 := by rw [drop_nil s i (by omega)]; rfl
    rw [hp]
    have h0 : nameLen (s.data.toList.drop i) = 0 := by rw [drop_nil s i (by omega)]; rfl
    rw [h0] at hn
    have HN := Lib.hid hn
    clear hp h0 hn
    have hge : (s.size : Int) ≤ (i : Int) := by omega
    go_enter Tryd.func80, Tryd.ntmps80
    go_wp2_with (go_at_call 62; refine HN.out.mono ?_; rintro e w' ⟨rfl, rfl⟩)
    go_ret
    exact ⟨rfl, rfl⟩

theorem op_cell (k : Nat) (hk : k < 12) : (#[Value.string ⟨#[58, 45]⟩, .string ⟨#[58, 61]⟩, .string ⟨#[58, 63]⟩, .string ⟨#[58, 43]⟩, .string ⟨#[37, 37]⟩, .string ⟨#[35, 35]⟩, .string ⟨#[45]⟩, .string ⟨#[61]⟩, .string ⟨#[63]⟩, .string ⟨#[43]⟩, .string ⟨#[37]⟩, .string ⟨#[35]⟩] : Array Value)[k]? = some (.string (nm (opAt k))) := by
  rcases k with _ | _ | _ | _ | _ | _ | _ | _ | _ | _ | _ | _ | k
  all_goals first | omega | rfl
theorem op_len (k : Nat) (hk : k < 12) : 0 < (opAt k).length ∧ (opAt k).length ≤ 2 := by
  rcases k with _ | _ | _ | _ | _ | _ | _ | _ | _ | _ | _ | _ | k
  all_goals first | omega | decide
theorem stands_ext (s : ByteArray) (i : Nat) (o : Bs) (h : i + o.length ≤ s.size) : ((s.extract i (i + o.length)).toList == (nm o).toList) = stands o (s.data.toList.drop i) := by
  rw [listD, listD, nm_data, ext_mid, nm_data]
  rw [show i + o.length - i = o.length from by omega]
  have hl : o.length ≤ (s.data.toList.drop i).length := by rw [bad_len]; omega
  generalize s.data.toList.drop i = l at *
  rw [Bool.eq_iff_iff]
  simp only [beq_iff_eq]
  constructor
  · intro h2
    unfold stands
    rw [List.isPrefixOf_iff_prefix]
    exact ⟨l.drop o.length, by
      have h3 := List.take_append_drop o.length l
      rw [h2] at h3
      exact h3⟩
  · intro h2
    obtain ⟨t, ht⟩ := List.isPrefixOf_iff_prefix.1 h2
    rw [← ht]
    simp
set_option maxRecDepth 100000 in
set_option maxHeartbeats 1600000 in
theorem ropAt_any (s : ByteArray) (i : Nat) (w : World) (hi : i ≤ s.size) (hs : s.size ≤ 8192) :
    Calls Tryd.prog 81 #[.string s, .int .i64 i] w fun e w' => e = .returned (.string (nm (opOf (s.data.toList.drop i)))) ∧ Below w.heap.size w w' := by
  obtain ⟨r, hr⟩ : ∃ r, opOf (s.data.toList.drop i) = r := ⟨_, rfl⟩
  rw [hr]
  have HR : Hid ((((ops.drop 0).find? fun o => stands o (s.data.toList.drop i)).getD []) = r) := Lib.hid hr
  clear hr
  go_enter Tryd.func81, Tryd.ntmps81
  go_wp2_with fail
  go_loopg [6] 12 (fun g x wr => ∃ k : Nat, g = 12 - k ∧ x = .int .i64 k ∧ k ≤ 12 ∧ Hid (Below w.heap.size w wr) ∧ Hid (wr.heap[w.heap.size]? = some (.cells #[Value.string ⟨#[58, 45]⟩, .string ⟨#[58, 61]⟩, .string ⟨#[58, 63]⟩, .string ⟨#[58, 43]⟩, .string ⟨#[37, 37]⟩, .string ⟨#[35, 35]⟩, .string ⟨#[45]⟩, .string ⟨#[61]⟩, .string ⟨#[63]⟩, .string ⟨#[43]⟩, .string ⟨#[37]⟩, .string ⟨#[35]⟩] 9 (0, 0))) ∧ Hid ((((ops.drop k).find? fun o => stands o (s.data.toList.drop i)).getD []) = r))
  case atStart => exact ⟨0, rfl, rfl, by omega, Lib.hid ((Below.refl _ _).alloc (Nat.le_refl _) _), Lib.hid (heap_alloc_new w _), HR⟩
  case round =>
    obtain ⟨k, rfl, rfl, hk, HB, HC, HI⟩ := hrel
    clear HR
    by_cases hlt : k < 12
    · have c0 := (cell_blk HC.out k).trans (op_cell k hlt)
      have hz := fin_at HC.out
      have hol := op_len k hlt
      have HDR := Lib.hid (op_drop k hlt)
      have hobs : (nm (opAt k)).size = (opAt k).length := nm_size _
      have h1w : IntKind.i64.wrap ((i : Int) + ((opAt k).length : Int)) = (i : Int) + ((opAt k).length : Int) := IntWalk.i64_in _ (by omega)
      cases hst : stands (opAt k) (s.data.toList.drop i) with
      | true =>
        have hle : i + (opAt k).length ≤ s.size := by have := stands_len hst; rw [bad_len] at this; omega
        have heq := stands_ext s i (opAt k) hle
        rw [hst] at heq
        have HRR : Hid (opAt k = r) := Lib.hid (by rw [← HI.out, HDR.out, List.find?_cons, hst]; rfl)
        generalize opAt k = o at *
        have g1 : ((i : Int) + (o.length : Int)) ≤ (s.size : Int) := by omega
        have g2 : (0 : Int) ≤ (i : Int) + (o.length : Int) := by omega
        have g3 : ((i : Int) + (o.length : Int)).toNat = i + o.length := by omega
        have g4 : (i : Int) ≤ (i : Int) + (o.length : Int) := by omega
        rw [← hobs] at heq g1 g2 g3 g4 h1w hle hol
        obtain ⟨ob, hob⟩ : ∃ ob, nm o = ob := ⟨_, rfl⟩
        have HOB := Lib.hid hob
        rw [hob] at c0 heq g1 g2 g3 g4 h1w hle hol hobs
        clear hob hst hobs
        go_wp2_with fail
        go_quiet (fail)
        have HB2 := Lib.hid (below_drewN' HB.out nq)
        replace c0 := (show (wr.drewN nq).cell? _ = _ from c0)
        replace hz : w.heap.size < (wr.drewN nq).heap.size := hz
        generalize wr.drewN nq = w2 at *
        go_wp2
        go_ret
        exact ⟨ret_str (by rw [← HRR.out, HOB.out]), HB2.out⟩
      | false =>
        have HN : Hid ((((ops.drop (k + 1)).find? fun o => stands o (s.data.toList.drop i)).getD []) = r) := Lib.hid (by rw [← HI.out, HDR.out, List.find?_cons, hst])
        obtain ⟨o, ho⟩ : ∃ o, opAt k = o := ⟨_, rfl⟩
        rw [ho] at c0 hol hobs h1w hst
        clear HDR ho
        obtain ⟨ob, hob⟩ : ∃ ob, nm o = ob := ⟨_, rfl⟩
        by_cases hle : i + o.length ≤ s.size
        · have heq := stands_ext s i o hle
          rw [hst] at heq
          have g1 : ((i : Int) + (o.length : Int)) ≤ (s.size : Int) := by omega
          have g2 : (0 : Int) ≤ (i : Int) + (o.length : Int) := by omega
          have g3 : ((i : Int) + (o.length : Int)).toNat = i + o.length := by omega
          have g4 : (i : Int) ≤ (i : Int) + (o.length : Int) := by omega
          rw [← hobs] at heq g1 g2 g3 g4 h1w hle hol
          rw [hob] at c0 heq g1 g2 g3 g4 h1w hle hol hobs
          clear hob hst hobs
          go_wp2_with fail
          go_quiet (fail)
          have HB2 := Lib.hid (below_drewN' HB.out nq)
          have HC2 : Hid ((wr.drewN nq).heap[w.heap.size]? = _) := Lib.hid HC.out
          generalize wr.drewN nq = w2 at *
          go_wp2
          go_roundg (12 - (k + 1))
          case rel => exact ⟨k + 1, rfl, by go_num, by omega, HB2, HC2, HN⟩
          case measure => omega
        · have g1 : ¬ ((i : Int) + (o.length : Int)) ≤ (s.size : Int) := by omega
          rw [← hobs] at g1 h1w hle hol
          rw [hob] at c0 g1 h1w hle hol hobs
          clear hob hst hobs
          have g9 := decide_eq_false g1
          clear g1
          go_wp2_with fail
          go_quiet (fail)
          have HB2 := Lib.hid (below_drewN' HB.out nq)
          have HC2 : Hid ((wr.drewN nq).heap[w.heap.size]? = _) := Lib.hid HC.out
          generalize wr.drewN nq = w2 at *
          go_wp2
          go_roundg (12 - (k + 1))
          case rel => exact ⟨k + 1, rfl, by go_num, by omega, HB2, HC2, HN⟩
          case measure => omega
    · have HRR : Hid (([] : Bs) = r) := Lib.hid (by
        have := HI.out
        have h12 : ops.drop k = [] := List.drop_of_length_le (by have : ops.length = 12 := rfl; omega)
        rw [h12] at this
        exact this)
      go_wp2_with fail
      go_ret
      exact ⟨ret_str (by rw [← HRR.out]; rfl), HB.out⟩

end Go.Proofs.YtkbhjjmgacahdaaDoor.Wd
