/- DERIVED. The walk over the document's dollar, over what its braces answer. -/
import Derived.Test.YtkbhjjmgacahdaaDoorWdRBr
namespace Go.Proofs.YtkbhjjmgacahdaaDoor.Wd
open Go.RowKit
open PathM WdM
set_option linter.unusedVariables false

theorem part_end {D i k : Nat} {s : ByteArray} {w w2 : World} {v : Value} {L : List PT} {o : Option (List PT × Bs)} (hb : Below w.heap.size w w2) (hv : PIn D w2 (fun j => w.heap.size < j) v L) (ho : o = some (L, s.data.toList.drop k)) (hik : i < k) (hk : k ≤ s.size) :
    RP D s i w o (.returned (.agg #[v, .int .i64 (k : Nat), .int .i64 0])) (((w2.setCell ⟨w.heap.size, 0, none⟩ v).setCell ⟨w.heap.size, 1, none⟩ (.int .i64 (k : Nat))).setCell ⟨w.heap.size, 2, none⟩ (.int .i64 0)) := by
  have hK := three_kept (S := (· = w.heap.size)) w2 rfl v (.int .i64 (k : Nat)) (.int .i64 0)
  exact ⟨hb.trans (hK.below hb.size (fun k e => by omega)), _, k, 0, rfl, .inl ⟨rfl, k, L, rfl, ho, hik, hk, PIn.mono (fun j _ hj => by omega) _ _ _ (PIn.keep2 hK (fun j h1 h2 => by omega) hv)⟩⟩
/-- A reading that another one hands on. -/
theorem tail_end {D i : Nat} {s : ByteArray} {w w0 w2 : World} {v : Value} {n er : Int} {o : Option (List PT × Bs)} (h0 : w0.heap.size = w.heap.size + 1) (hb0 : Below w.heap.size w w0) (hb : Below w0.heap.size w0 w2)
    (h : (er = 0 ∧ ∃ (k : Nat) (L : List PT), n = (k : Int) ∧ o = some (L, s.data.toList.drop k) ∧ i < k ∧ k ≤ s.size ∧ PF D w0.heap.size w2 v L) ∨ (er ≠ 0 ∧ o = none ∧ v = .slice none 0 0)) :
    RP D s i w o (.returned (.agg #[v, .int .i64 n, .int .i64 er])) (((w2.setCell ⟨w.heap.size, 0, none⟩ v).setCell ⟨w.heap.size, 1, none⟩ (.int .i64 n)).setCell ⟨w.heap.size, 2, none⟩ (.int .i64 er)) := by
  have hb2 : Below w.heap.size w w2 := hb0.trans (hb.mono hb0.size)
  rcases h with ⟨rfl, k, L, rfl, ho, hik, hk, hv⟩ | ⟨her, ho, rfl⟩
  · exact part_end hb2 (PIn.mono (fun j _ hj => by omega) _ _ _ hv) ho hik hk
  · exact fault_end hb2 her ho
theorem dol_nil (rec : Rec) : rDol rec [] = some ([litP false [36]], []) := rfl
theorem st1 (c d : UInt8) (t : Bs) : stands [c] (d :: t) = (c == d) := by
  show (c == d && ([] : Bs).isPrefixOf t) = _
  rw [List.isPrefixOf_nil_left, Bool.and_true]
theorem st2 (c e d : UInt8) (t : Bs) : stands [c, e] (d :: t) = (c == d && stands [e] t) := rfl
theorem dol_brace (rec : Rec) (t : Bs) : rDol rec (123 :: t) = OB (braces rec (t.length + 1 + 1) false t) := by
  have e : dollarP rec false (123 :: t) = some (braces rec (t.length + 1 + 1) false t) := by
    unfold dollarP
    rw [st1, if_pos (by decide)]
    rfl
  unfold rDol
  rw [e]
  cases braces rec (t.length + 1 + 1) false t <;> rfl
theorem dol_arith (rec : Rec) (t : Bs) : rDol rec (40 :: 40 :: t) = arO (arithS (t.length + 1 + 1 + 1) 0 [] t) := by
  unfold rDol dollarP
  rw [st1, if_neg (by decide), st2, st1, if_pos (by decide)]
  have e : (40 :: 40 :: t : Bs).drop 2 = t := rfl
  have e2 : (40 :: 40 :: t : Bs).length + 1 = t.length + 1 + 1 + 1 := rfl
  rw [e, e2]
  cases arithS (t.length + 1 + 1 + 1) 0 [] t <;> rfl
theorem dol_cmd (rec : Rec) (t : Bs) (h : stands [40] t = false) : rDol rec (40 :: t) = match inside t with
    | none => none
    | some n => some ([.mk 3 false (t.take n) [] []], t.drop (n + 1)) := by
  unfold rDol dollarP
  rw [st1, if_neg (by decide), st2, h, if_neg (by decide), st1, if_pos (by decide)]
  have e : (40 :: t : Bs).drop 1 = t := rfl
  rw [e]
  unfold cmdS
  cases inside t <;> rfl
theorem dol_no (rec : Rec) (c : UInt8) (t : Bs) (h1 : ¬ c = 123) (h2 : ¬ c = 40) : dollarP rec false (c :: t) = if digit c = true then some (.ok (.mk 2 false ((c :: t).take 1) [] []) ((c :: t).drop 1))
    else if paramStands (c :: t) = true then some (match param (c :: t) with
      | .bad a e => .bad a e
      | .ok t r => .ok (.mk 2 false t [] []) r) else none := by
  unfold dollarP
  have e1 : ((123 : UInt8) == c) = false := beq_eq_false_iff_ne.2 (fun e => h1 e.symm)
  have e2 : ((40 : UInt8) == c) = false := beq_eq_false_iff_ne.2 (fun e => h2 e.symm)
  rw [st1, e1, if_neg (by decide), st2, e2, Bool.false_and, if_neg (by decide), st1, e2, if_neg (by decide)]
  rfl
theorem letter_not {c : UInt8} (h : letter c = true) : ¬ c = 123 ∧ ¬ c = 40 ∧ digit c = false ∧ signs.contains c = false := by
  refine ⟨?_, ?_, ?_, ?_⟩
  · rintro rfl; exact absurd h (by decide)
  · rintro rfl; exact absurd h (by decide)
  · cases hd : digit c with
    | false => rfl
    | true =>
      unfold letter at h
      unfold digit at hd
      simp [UInt8.le_iff_toNat_le] at h hd
      rcases h with (h | h) | h
      · omega
      · omega
      · rw [h] at hd; simp at hd
  · cases hs : signs.contains c with
    | false => rfl
    | true =>
      have h4 : c = 64 ∨ c = 42 ∨ c = 35 ∨ c = 63 := by simpa [signs] using hs
      rcases h4 with e | e | e | e <;> (rw [e] at h; exact absurd h (by decide))
theorem dol_letter (rec : Rec) (c : UInt8) (t : Bs) (h : letter c = true) : rDol rec (c :: t) = if 64 < nameLen (c :: t) then none else some ([.mk 2 false ((c :: t).take (nameLen (c :: t))) [] []], (c :: t).drop (nameLen (c :: t))) := by
  obtain ⟨n1, n2, n3, _⟩ := letter_not h
  have hs : paramStands (c :: t) = true := by
    show (named c || _) = true
    unfold named; rw [h]; rfl
  have hl : paramLen (c :: t) = nameLen (c :: t) := by
    show (if letter c then leading named (c :: t) else _) = (if letter c then leading named (c :: t) else 0)
    rw [if_pos h, if_pos h]
  unfold rDol
  rw [dol_no rec c t n1 n2, if_neg (by rw [n3]; decide), if_pos hs]
  unfold param
  rw [if_pos hs, hl]
  by_cases h64 : nameLen (c :: t) ≤ 64
  · rw [if_pos h64, if_neg (by omega)]
  · rw [if_neg h64, if_pos (by omega)]
theorem dol_one (rec : Rec) (c : UInt8) (t : Bs) (hl : letter c = false) (h : digit c = true ∨ signs.contains c = true) : rDol rec (c :: t) = some ([.mk 2 false [c] [] []], t) := by
  unfold rDol
  rcases h with h | h
  · have n1 : ¬ c = 123 := by rintro rfl; exact absurd h (by decide)
    have n2 : ¬ c = 40 := by rintro rfl; exact absurd h (by decide)
    rw [dol_no rec c t n1 n2, if_pos h]
    rfl
  · have h4 : c = 64 ∨ c = 42 ∨ c = 35 ∨ c = 63 := by simpa [signs] using h
    rcases h4 with rfl | rfl | rfl | rfl
    all_goals
      rw [dol_no rec _ t (by decide) (by decide), if_neg (by decide), if_pos (by rfl)]
      unfold param
      rw [if_pos (by rfl)]
      rfl
theorem dol_else (rec : Rec) (c : UInt8) (t : Bs) (hl : letter c = false) (hd : digit c = false) (hg : signs.contains c = false) (h1 : ¬ c = 123) (h2 : ¬ c = 40) : rDol rec (c :: t) = some ([litP false [36]], c :: t) := by
  have hs : paramStands (c :: t) = false := by
    show (named c || signs.contains c) = false
    unfold named; rw [hl, hd, hg]; rfl
  unfold rDol
  rw [dol_no rec c t h1 h2, if_neg (by rw [hd]; decide), if_neg (by rw [hs]; decide)]
set_option maxRecDepth 100000 in
/-- Too deep. -/
theorem rbraces_deep (D : Nat) (s : ByteArray) (i fl : Nat) (w : World) (hi : i + 2 ≤ s.size) :
    Calls Tryd.prog 64 #[.string s, .int .i64 i, .int .i64 17] w (RP D s i w (OB (braces none fl false (s.data.toList.drop (i + 2))))) := by
  have HNO : Hid (OB (braces none fl false (s.data.toList.drop (i + 2))) = none) := Lib.hid rfl
  generalize OB (braces none fl false (s.data.toList.drop (i + 2))) = m at *
  go_enter Tryd.func64, Tryd.ntmps64
  go_wp2_with fail
  refine calls_gen (fun W => W.heap[w.heap.size]? = some (.cells #[.slice none 0 0, .int .i64 0, .int .i64 0] 43 (0, 0)) ∧ Below w.heap.size w W) ⟨heap_alloc_new _ _, (Below.refl _ _).alloc (Nat.le_refl _) _⟩ ?_
  rintro W ⟨hr0, hb0⟩
  refine (rfault_any _ _ _).mono ?_
  rintro e w2 ⟨rfl, hb2⟩
  have HR := Lib.hid ((hb2.block w.heap.size (fin_at hr0)).trans hr0)
  have HB := Lib.hid (hb0.trans (hb2.mono hb0.size))
  clear hr0 hb0 hb2
  have k0 := cell_blk HR.out 0
  have k1 := cell_blk HR.out 1
  have k2 := cell_blk HR.out 2
  have l0 := froz_blk HR.out 0
  have l1 := froz_blk HR.out 1
  have l2 := froz_blk HR.out 2
  simp at k0 k1 k2
  have hz2 := fin_at HR.out
  go_wp2_with fail
  refine bodyPost_ret (results_cell_row rfl _ _ _ 43 _ (0, 0) _ rfl (three_set HR.out _ _ _) Tryd.underlying43 rfl (by kernel_rfl)) rfl ?_
  exact fault_end HB.out (by decide) HNO.out
set_option maxRecDepth 100000 in
set_option maxHeartbeats 6400000 in
theorem rdollar_any (rec : Rec) (D : Nat) (s : ByteArray) (i dp : Nat) (w : World) (hi : i < s.size) (hs : s.size ≤ 8192)
    (hbr : ∀ fl W, i + 2 ≤ s.size → Calls Tryd.prog 64 #[.string s, .int .i64 i, .int .i64 ((dp : Int) + 1)] W (RP (D + 1) s i W (OB (braces rec fl false (s.data.toList.drop (i + 2)))))) (hdp : dp ≤ 16) :
    Calls Tryd.prog 48 #[.string s, .int .i64 i, .int .i64 dp] w (RP (D + 1) s i w (rDol rec (s.data.toList.drop (i + 1)))) := by
  obtain ⟨m, hm⟩ : ∃ m, rDol rec (s.data.toList.drop (i + 1)) = m := ⟨_, rfl⟩
  rw [hm]
  obtain ⟨i1, hi1⟩ : ∃ i1, i1 = i + 1 := ⟨_, rfl⟩
  obtain ⟨i2, hi2⟩ : ∃ i2, i2 = i1 + 1 := ⟨_, rfl⟩
  have hi1s : i1 ≤ s.size := by omega
  rw [← hi1] at hm
  have HNA := Lib.hid (fun W => nameAt_any s i1 hi1s W (by omega))
  have HBR := Lib.hid hbr
  have e1 : (i : Int) + 1 = (i1 : Int) := by omega
  have e2 : (i : Int) + 2 = (i2 : Int) := by omega
  have HIN : Hid True := Lib.hid trivial
  clear hbr
  by_cases hlt : i1 < s.size
  · have hd := get_at s i1 hlt
    have HDG := Lib.hid (fun W => rdigit_any s[i1] W)
    have HHS := Lib.hid (fun W => has_any (nm signs) s[i1] W (by decide))
    rw [nm_data] at HHS
    have hlti : (i1 : Int) < (s.size : Int) := by omega
    cases hl : letter s[i1] with
    | true =>
      rw [hd, dol_letter rec _ _ hl, ← hd] at hm
      obtain ⟨n1, n2⟩ := nameLen_letter (t := s.data.toList.drop (i1 + 1)) hl
      have n3 := leading_le named (s[i1] :: s.data.toList.drop (i1 + 1))
      rw [← n2, ← hd, bad_len] at n3
      rw [← hd] at n1
      obtain ⟨n, hn⟩ : ∃ n, nameLen (s.data.toList.drop i1) = n := ⟨_, rfl⟩
      rw [hn] at hm HNA n1 n3
      clear n2 hd hn HDG HHS hl
      have n0 : ((n : Int) == 0) = false := by simp; omega
      by_cases h64 : 64 < n
      · rw [if_pos h64] at hm
        have HNO := Lib.hid hm.symm
        have h64i : (64 : Int) < (n : Int) := by omega
        clear hm hi1 hi2
        go_enter Tryd.func48, Tryd.ntmps48
        go_wp2_with (first | (go_at_call 62; refine (HNA.out _).mono ?_; rintro e w' ⟨rfl, rfl⟩) | (go_at_call 63; refine (HDG.out _).mono ?_; rintro e w' ⟨rfl, rfl⟩) | (go_at_call 47; refine (HHS.out _).mono ?_; rintro e w' ⟨rfl, rfl⟩) | (go_at_call 66; refine (HIN.out _).mono ?_; rintro e w' ⟨rfl, rfl⟩))
        refine calls_gen (fun W => W.heap[w.heap.size]? = some (.cells #[.slice none 0 0, .int .i64 0, .int .i64 0] 43 (0, 0)) ∧ Below w.heap.size w W) ⟨heap_alloc_new _ _, (Below.refl _ _).alloc (Nat.le_refl _) _⟩ ?_
        rintro W ⟨hr0, hb0⟩
        refine (rfault_any _ _ _).mono ?_
        rintro e w2 ⟨rfl, hb2⟩
        have HR := Lib.hid ((hb2.block w.heap.size (fin_at hr0)).trans hr0)
        have HB := Lib.hid (hb0.trans (hb2.mono hb0.size))
        clear hr0 hb0 hb2
        have k0 := cell_blk HR.out 0
        have k1 := cell_blk HR.out 1
        have k2 := cell_blk HR.out 2
        have l0 := froz_blk HR.out 0
        have l1 := froz_blk HR.out 1
        have l2 := froz_blk HR.out 2
        simp at k0 k1 k2
        have hz2 := fin_at HR.out
        go_wp2_with fail
        refine bodyPost_ret (results_cell_row rfl _ _ _ 43 _ (0, 0) _ rfl (three_set HR.out _ _ _) Tryd.underlying43 rfl (by kernel_rfl)) rfl ?_
        exact fault_end HB.out (by decide) HNO.out
      · rw [if_neg h64, List.drop_drop] at hm
        obtain ⟨k, hk⟩ : ∃ k, k = i1 + n := ⟨_, rfl⟩
        rw [← hk] at hm
        have e3 : (i1 : Int) + (n : Int) = (k : Int) := by omega
        have h64i : ¬ (64 : Int) < (n : Int) := by omega
        have hpos : (0 : Int) < (n : Int) := by omega
        have hks : (k : Int) ≤ (s.size : Int) := by omega
        have hik : (i1 : Int) ≤ (k : Int) := by omega
        have HX : Hid (s.extract i1 k = nm ((s.data.toList.drop i1).take n)) := Lib.hid (by rw [ext_mid, hk, show i1 + n - i1 = n from by omega])
        generalize (s.data.toList.drop i1).take n = t at *
        have HE := Lib.hid (one_end (D := D) (s := s) (i := i) (w := w) (p := .mk 2 false t [] []) (k := k) hm.symm (by omega) (by omega) rfl)
        clear hm hk hi1 hi2
        go_enter Tryd.func48, Tryd.ntmps48
        go_wp2_with (first | (go_at_call 62; refine (HNA.out _).mono ?_; rintro e w' ⟨rfl, rfl⟩) | (go_at_call 63; refine (HDG.out _).mono ?_; rintro e w' ⟨rfl, rfl⟩) | (go_at_call 47; refine (HHS.out _).mono ?_; rintro e w' ⟨rfl, rfl⟩) | (go_at_call 66; refine (HIN.out _).mono ?_; rintro e w' ⟨rfl, rfl⟩))
        rw [HX.out]
        refine bodyPost_ret (results_cell_row rfl _ _ _ 43 _ (0, 0) _ rfl ((Below.heap_alloc _ _ _ (by simp)).trans (heap_alloc_new w _)) Tryd.underlying43 rfl (by kernel_rfl)) rfl ?_
        exact HE.out
    | false =>
      have h0 : nameLen (s.data.toList.drop i1) = 0 := by rw [hd]; exact nameLen_not hl
      rw [h0] at HNA
      by_cases hone : digit s[i1] = true ∨ signs.contains s[i1] = true
      · rw [hd, dol_one rec _ _ hl hone] at hm
        rw [← hi2] at hm
        have HC : Hid (digit s[i1] = true ∨ (digit s[i1] = false ∧ signs.contains s[i1] = true)) := Lib.hid (by
          cases hx : digit s[i1] with
          | true => exact .inl rfl
          | false => exact .inr ⟨rfl, hone.resolve_left (by rw [hx]; decide)⟩)
        have HX : Hid (s.extract i1 i2 = nm [s[i1]]) := Lib.hid (by rw [ext_mid, hd, hi2, show i1 + 1 - i1 = 1 from by omega]; rfl)
        have HE := Lib.hid (one_end (D := D) (s := s) (i := i) (w := w) (p := .mk 2 false [s[i1]] [] []) (k := i2) hm.symm (by omega) (by omega) rfl)
        have hi2s : (i2 : Int) ≤ (s.size : Int) := by omega
        have hi12 : (i1 : Int) ≤ (i2 : Int) := by omega
        rcases HC.out with hx | ⟨hx, hy⟩
        · rw [hx] at HDG
          clear hm hd hl h0 hone hx HC hi1 hi2
          go_enter Tryd.func48, Tryd.ntmps48
          go_wp2_with (first | (go_at_call 62; refine (HNA.out _).mono ?_; rintro e w' ⟨rfl, rfl⟩) | (go_at_call 63; refine (HDG.out _).mono ?_; rintro e w' ⟨rfl, rfl⟩) | (go_at_call 47; refine (HHS.out _).mono ?_; rintro e w' ⟨rfl, rfl⟩) | (go_at_call 66; refine (HIN.out _).mono ?_; rintro e w' ⟨rfl, rfl⟩))
          rw [HX.out]
          refine bodyPost_ret (results_cell_row rfl _ _ _ 43 _ (0, 0) _ rfl ((Below.heap_alloc _ _ _ (by simp)).trans (heap_alloc_new w _)) Tryd.underlying43 rfl (by kernel_rfl)) rfl ?_
          exact HE.out
        · rw [hx] at HDG
          rw [hy] at HHS
          clear hm hd hl h0 hone hx hy HC hi1 hi2
          go_enter Tryd.func48, Tryd.ntmps48
          go_wp2_with (first | (go_at_call 62; refine (HNA.out _).mono ?_; rintro e w' ⟨rfl, rfl⟩) | (go_at_call 63; refine (HDG.out _).mono ?_; rintro e w' ⟨rfl, rfl⟩) | (go_at_call 47; refine (HHS.out _).mono ?_; rintro e w' ⟨rfl, rfl⟩) | (go_at_call 66; refine (HIN.out _).mono ?_; rintro e w' ⟨rfl, rfl⟩))
          rw [HX.out]
          refine bodyPost_ret (results_cell_row rfl _ _ _ 43 _ (0, 0) _ rfl ((Below.heap_alloc _ _ _ (by simp)).trans (heap_alloc_new w _)) Tryd.underlying43 rfl (by kernel_rfl)) rfl ?_
          exact HE.out
      · have hx : digit s[i1] = false := by cases h : digit s[i1] with | false => rfl | true => exact absurd (.inl h) hone
        have hy : signs.contains s[i1] = false := by cases h : signs.contains s[i1] with | false => rfl | true => exact absurd (.inr h) hone
        rw [hx] at HDG
        rw [hy] at HHS
        have h123 : ((s[i1].toNat : Int) == 123) = decide (s[i1] = 123) := bt s[i1] 123 (by decide)
        have h40 : ((s[i1].toNat : Int) == 40) = decide (s[i1] = 40) := bt s[i1] 40 (by decide)
        by_cases c1 : s[i1] = 123
        · rw [decide_eq_true c1] at h123
          rw [hd, c1, dol_brace rec, ← hi2] at hm
          have HTL := Lib.hid (fun W => HBR.out ((s.data.toList.drop i2).length + 1 + 1) W (by omega))
          rw [show i + 2 = i2 from by omega, hm] at HTL
          clear hm hd hl h0 hone hx hy c1 h40 hi1 hi2 HBR
          go_enter Tryd.func48, Tryd.ntmps48
          go_wp2_with (first | (go_at_call 62; refine (HNA.out _).mono ?_; rintro e w' ⟨rfl, rfl⟩) | (go_at_call 63; refine (HDG.out _).mono ?_; rintro e w' ⟨rfl, rfl⟩) | (go_at_call 47; refine (HHS.out _).mono ?_; rintro e w' ⟨rfl, rfl⟩) | (go_at_call 66; refine (HIN.out _).mono ?_; rintro e w' ⟨rfl, rfl⟩))
          refine calls_gen (fun W => W.heap[w.heap.size]? = some (.cells #[.slice none 0 0, .int .i64 0, .int .i64 0] 43 (0, 0)) ∧ Below w.heap.size w W ∧ W.heap.size = w.heap.size + 1) ⟨heap_alloc_new _ _, (Below.refl _ _).alloc (Nat.le_refl _) _, by simp⟩ ?_
          rintro W ⟨hr0, hb0, hz0⟩
          refine (HTL.out W).mono ?_
          rintro e w2 ⟨hb2, v2, n2, er, rfl, hc⟩
          obtain ⟨A2, m2, c2, rfl⟩ : ∃ A m c, v2 = .slice A m c := by
            rcases hc with ⟨_, k, L, _, _, _, _, hv⟩ | ⟨_, _, rfl⟩
            · exact PIn.form hv
            · exact ⟨_, _, _, rfl⟩
          have HR := Lib.hid ((hb2.block w.heap.size (fin_at hr0)).trans hr0)
          have HE := Lib.hid (tail_end hz0 hb0 hb2 hc)
          clear hr0 hb0 hb2 hc hz0
          have k0 := cell_blk HR.out 0
          have k1 := cell_blk HR.out 1
          have k2 := cell_blk HR.out 2
          have l0 := froz_blk HR.out 0
          have l1 := froz_blk HR.out 1
          have l2 := froz_blk HR.out 2
          simp at k0 k1 k2
          have hz2 := fin_at HR.out
          go_wp2_with fail
          refine bodyPost_ret (results_cell_row rfl _ _ _ 43 _ (0, 0) _ rfl (three_set HR.out _ _ _) Tryd.underlying43 rfl (by kernel_rfl)) rfl ?_
          exact HE.out
        · rw [decide_eq_false c1] at h123
          by_cases c2 : s[i1] = 40
          · rw [decide_eq_true c2] at h40
            rw [hd, c2, ← hi2] at hm
            by_cases hc3 : i2 < s.size ∧ stands [40] (s.data.toList.drop i2) = true
            · obtain ⟨hlt2, hst⟩ := hc3
              have hd2 := get_at s i2 hlt2
              have hlt2i : (i2 : Int) < (s.size : Int) := by omega
              have c3 : s[i2] = 40 := by rw [hd2, st1] at hst; exact (by simpa using hst : 40 = s[i2]).symm
              have h40b : ((s[i2].toNat : Int) == 40) = true := by
                have : ((s[i2].toNat : Int) == 40) = decide (s[i2] = 40) := bt s[i2] 40 (by decide)
                rw [this]; exact decide_eq_true c3
              rw [hd2, c3, dol_arith rec] at hm
              have HTL := Lib.hid (fun W => rarith_any D s i ((s.data.toList.drop (i2 + 1)).length + 1 + 1 + 1) W (by omega) hs)
              unfold arithO at HTL
              rw [show i + 3 = i2 + 1 from by omega, hm] at HTL
              clear hm hd hd2 hl h0 hone hx hy c1 c2 c3 hi1 hi2 HBR hst
              go_enter Tryd.func48, Tryd.ntmps48
              go_wp2_with (first | (go_at_call 62; refine (HNA.out _).mono ?_; rintro e w' ⟨rfl, rfl⟩) | (go_at_call 63; refine (HDG.out _).mono ?_; rintro e w' ⟨rfl, rfl⟩) | (go_at_call 47; refine (HHS.out _).mono ?_; rintro e w' ⟨rfl, rfl⟩) | (go_at_call 66; refine (HIN.out _).mono ?_; rintro e w' ⟨rfl, rfl⟩))
              refine calls_gen (fun W => W.heap[w.heap.size]? = some (.cells #[.slice none 0 0, .int .i64 0, .int .i64 0] 43 (0, 0)) ∧ Below w.heap.size w W ∧ W.heap.size = w.heap.size + 1) ⟨heap_alloc_new _ _, (Below.refl _ _).alloc (Nat.le_refl _) _, by simp⟩ ?_
              rintro W ⟨hr0, hb0, hz0⟩
              refine (HTL.out W).mono ?_
              rintro e w2 ⟨hb2, v2, n2, er, rfl, hc⟩
              obtain ⟨A2, m2, c2, rfl⟩ : ∃ A m c, v2 = .slice A m c := by
                rcases hc with ⟨_, k, L, _, _, _, _, hv⟩ | ⟨_, _, rfl⟩
                · exact PIn.form hv
                · exact ⟨_, _, _, rfl⟩
              have HR := Lib.hid ((hb2.block w.heap.size (fin_at hr0)).trans hr0)
              have HE := Lib.hid (tail_end hz0 hb0 hb2 hc)
              clear hr0 hb0 hb2 hc hz0
              have k0 := cell_blk HR.out 0
              have k1 := cell_blk HR.out 1
              have k2 := cell_blk HR.out 2
              have l0 := froz_blk HR.out 0
              have l1 := froz_blk HR.out 1
              have l2 := froz_blk HR.out 2
              simp at k0 k1 k2
              have hz2 := fin_at HR.out
              go_wp2_with fail
              refine bodyPost_ret (results_cell_row rfl _ _ _ 43 _ (0, 0) _ rfl (three_set HR.out _ _ _) Tryd.underlying43 rfl (by kernel_rfl)) rfl ?_
              exact HE.out
            · have hst : stands [40] (s.data.toList.drop i2) = false := by
                cases hh : stands [40] (s.data.toList.drop i2) with
                | false => rfl
                | true =>
                  refine absurd ⟨?_, hh⟩ hc3
                  apply Classical.byContradiction
                  intro hge
                  rw [drop_nil s i2 (by omega)] at hh
                  cases hh
              rw [dol_cmd rec _ hst] at hm
              have HC : Hid ((s.size : Int) ≤ (i2 : Int) ∨ ∃ h : i2 < s.size, (i2 : Int) < (s.size : Int) ∧ ((s[i2].toNat : Int) == 40) = false) := Lib.hid (by
                by_cases h : i2 < s.size
                · refine .inr ⟨h, by omega, ?_⟩
                  have h2 : ((s[i2].toNat : Int) == 40) = decide (s[i2] = 40) := bt s[i2] 40 (by decide)
                  rw [h2]
                  refine decide_eq_false (fun e => ?_)
                  rw [get_at s i2 h, st1, e] at hst
                  exact absurd hst (by decide)
                · exact .inl (by omega))
              have hi2s : (i2 : Int) ≤ (s.size : Int) := by omega
              have hin := fun W => rinside_any (s.extract i2 s.size) W (by rw [ext_from, nm_size, bad_len]; omega)
              rw [ext_from, nm_data] at hin
              have HXF : Hid (s.extract i2 s.size = nm (s.data.toList.drop i2)) := Lib.hid (ext_from s i2)
              cases hi3 : inside (s.data.toList.drop i2) with
              | none =>
                rw [hi3] at hm hin
                have HIN : Hid (∀ W, Calls Tryd.prog 66 #[.string (s.extract i2 s.size)] W fun e w' => e = .returned (.int .i64 (-1)) ∧ W = w') := Lib.hid (by rw [HXF.out]; exact hin)
                have HNO := Lib.hid hm.symm
                rcases HC.out with hge | ⟨hlt2, hlt2i, h40b⟩
                all_goals
                  clear hm hd hl h0 hone hx hy c1 c2 hc3 hst hin hi3 HC HBR hi1 hi2
                  go_enter Tryd.func48, Tryd.ntmps48
                  go_wp2_with (first | (go_at_call 62; refine (HNA.out _).mono ?_; rintro e w' ⟨rfl, rfl⟩) | (go_at_call 63; refine (HDG.out _).mono ?_; rintro e w' ⟨rfl, rfl⟩) | (go_at_call 47; refine (HHS.out _).mono ?_; rintro e w' ⟨rfl, rfl⟩) | (go_at_call 66; refine (HIN.out _).mono ?_; rintro e w' ⟨rfl, rfl⟩))
                  refine calls_gen (fun W => W.heap[w.heap.size]? = some (.cells #[.slice none 0 0, .int .i64 0, .int .i64 0] 43 (0, 0)) ∧ Below w.heap.size w W) ⟨heap_alloc_new _ _, (Below.refl _ _).alloc (Nat.le_refl _) _⟩ ?_
                  rintro W ⟨hr0, hb0⟩
                  refine (rfault_any _ _ _).mono ?_
                  rintro e w2 ⟨rfl, hb2⟩
                  have HR := Lib.hid ((hb2.block w.heap.size (fin_at hr0)).trans hr0)
                  have HB := Lib.hid (hb0.trans (hb2.mono hb0.size))
                  clear hr0 hb0 hb2
                  have k0 := cell_blk HR.out 0
                  have k1 := cell_blk HR.out 1
                  have k2 := cell_blk HR.out 2
                  have l0 := froz_blk HR.out 0
                  have l1 := froz_blk HR.out 1
                  have l2 := froz_blk HR.out 2
                  simp at k0 k1 k2
                  have hz2 := fin_at HR.out
                  go_wp2_with fail
                  refine bodyPost_ret (results_cell_row rfl _ _ _ 43 _ (0, 0) _ rfl (three_set HR.out _ _ _) Tryd.underlying43 rfl (by kernel_rfl)) rfl ?_
                  exact fault_end HB.out (by decide) HNO.out
              | some n =>
                rw [hi3] at hm hin
                have hnl := inside_lt _ _ _ _ _ hi3
                rw [bad_len] at hnl
                have HIN : Hid (∀ W, Calls Tryd.prog 66 #[.string (s.extract i2 s.size)] W fun e w' => e = .returned (.int .i64 (n : Nat)) ∧ W = w') := Lib.hid (by rw [HXF.out]; exact hin)
                obtain ⟨k, hk⟩ : ∃ k, k = i2 + n := ⟨_, rfl⟩
                have HX : Hid (s.extract i2 k = nm ((s.data.toList.drop i2).take n)) := Lib.hid (by rw [ext_mid, hk, show i2 + n - i2 = n from by omega])
                have e3 : (i2 : Int) + (n : Int) = (k : Int) := by omega
                have e4 : (i : Int) + 3 + (n : Int) = ((k + 1 : Nat) : Int) := by omega
                have hks : (k : Int) ≤ (s.size : Int) := by omega
                have hik : (i2 : Int) ≤ (k : Int) := by omega
                simp only [List.drop_drop] at hm
                rw [show i2 + (n + 1) = k + 1 from by omega] at hm
                generalize (s.data.toList.drop i2).take n = t at *
                obtain ⟨k1, hk1⟩ : ∃ k1, k1 = k + 1 := ⟨_, rfl⟩
                rw [← hk1] at hm e4
                have HE := Lib.hid (one_end (D := D) (s := s) (i := i) (w := w) (p := .mk 3 false t [] []) (k := k1) hm.symm (by omega) (by omega) rfl)
                have hn0 : ¬ (n : Int) < 0 := by omega
                rcases HC.out with hge | ⟨hlt2, hlt2i, h40b⟩
                · exfalso
                  omega
                · clear hm hd hl h0 hone hx hy c1 c2 hc3 hst hin hi3 HC HBR hi1 hi2 hk hk1 hnl HXF
                  go_enter Tryd.func48, Tryd.ntmps48
                  go_wp2_with (first | (go_at_call 62; refine (HNA.out _).mono ?_; rintro e w' ⟨rfl, rfl⟩) | (go_at_call 63; refine (HDG.out _).mono ?_; rintro e w' ⟨rfl, rfl⟩) | (go_at_call 47; refine (HHS.out _).mono ?_; rintro e w' ⟨rfl, rfl⟩) | (go_at_call 66; refine (HIN.out _).mono ?_; rintro e w' ⟨rfl, rfl⟩))
                  rw [HX.out]
                  refine bodyPost_ret (results_cell_row rfl _ _ _ 43 _ (0, 0) _ rfl ((Below.heap_alloc _ _ _ (by simp)).trans (heap_alloc_new w _)) Tryd.underlying43 rfl (by kernel_rfl)) rfl ?_
                  exact HE.out
          · rw [decide_eq_false c2] at h40
            rw [hd, dol_else rec _ _ hl hx hy c1 c2, ← hd] at hm
            have HO := Lib.hid hm.symm
            have HLT := Lib.hid (fun W => rlit_any D [36] false W)
            rw [show nm [36] = (⟨#[36]⟩ : ByteArray) from rfl] at HLT
            have hi2s : i2 ≤ s.size := by omega
            have hii1 : i < i1 := by omega
            clear hm hd hl h0 hone hx hy c1 c2 HBR hi1 hi2
            by_cases hlt2 : i2 < s.size
            · have hlt2i : (i2 : Int) < (s.size : Int) := by omega
              go_enter Tryd.func48, Tryd.ntmps48
              go_wp2_with (first | (go_at_call 62; refine (HNA.out _).mono ?_; rintro e w' ⟨rfl, rfl⟩) | (go_at_call 63; refine (HDG.out _).mono ?_; rintro e w' ⟨rfl, rfl⟩) | (go_at_call 47; refine (HHS.out _).mono ?_; rintro e w' ⟨rfl, rfl⟩) | (go_at_call 66; refine (HIN.out _).mono ?_; rintro e w' ⟨rfl, rfl⟩))
              refine calls_gen (fun W => W.heap[w.heap.size]? = some (.cells #[.slice none 0 0, .int .i64 0, .int .i64 0] 43 (0, 0)) ∧ Below w.heap.size w W ∧ w.heap.size < W.heap.size) ⟨heap_alloc_new _ _, (Below.refl _ _).alloc (Nat.le_refl _) _, by simp⟩ ?_
              rintro W ⟨hr0, hb0, hz0⟩
              refine (HLT.out W).mono ?_
              rintro e w2 ⟨hb2, v2, rfl, hv2⟩
              obtain ⟨A2, c2, rfl, _⟩ := PIn.shape hv2
              have HR := Lib.hid ((hb2.block w.heap.size (fin_at hr0)).trans hr0)
              have HB := Lib.hid (hb0.trans (hb2.mono hb0.size))
              have HV := Lib.hid (PIn.mono (fun q _ hq => Nat.lt_of_lt_of_le hz0 hq) _ _ _ hv2 : PIn (D + 1) w2 (fun q => w.heap.size < q) _ _)
              clear hr0 hb0 hb2 hv2 hz0
              have k0 := cell_blk HR.out 0
              have k1 := cell_blk HR.out 1
              have k2 := cell_blk HR.out 2
              have l0 := froz_blk HR.out 0
              have l1 := froz_blk HR.out 1
              have l2 := froz_blk HR.out 2
              simp at k0 k1 k2
              have hz2 := fin_at HR.out
              go_wp2_with fail
              refine bodyPost_ret (results_cell_row rfl _ _ _ 43 _ (0, 0) _ rfl (three_set HR.out _ _ _) Tryd.underlying43 rfl (by kernel_rfl)) rfl ?_
              exact part_end HB.out HV.out HO.out (by omega) (by omega)
            · have hlt2i : (s.size : Int) ≤ (i2 : Int) := by omega
              go_enter Tryd.func48, Tryd.ntmps48
              go_wp2_with (first | (go_at_call 62; refine (HNA.out _).mono ?_; rintro e w' ⟨rfl, rfl⟩) | (go_at_call 63; refine (HDG.out _).mono ?_; rintro e w' ⟨rfl, rfl⟩) | (go_at_call 47; refine (HHS.out _).mono ?_; rintro e w' ⟨rfl, rfl⟩) | (go_at_call 66; refine (HIN.out _).mono ?_; rintro e w' ⟨rfl, rfl⟩))
              refine calls_gen (fun W => W.heap[w.heap.size]? = some (.cells #[.slice none 0 0, .int .i64 0, .int .i64 0] 43 (0, 0)) ∧ Below w.heap.size w W ∧ w.heap.size < W.heap.size) ⟨heap_alloc_new _ _, (Below.refl _ _).alloc (Nat.le_refl _) _, by simp⟩ ?_
              rintro W ⟨hr0, hb0, hz0⟩
              refine (HLT.out W).mono ?_
              rintro e w2 ⟨hb2, v2, rfl, hv2⟩
              obtain ⟨A2, c2, rfl, _⟩ := PIn.shape hv2
              have HR := Lib.hid ((hb2.block w.heap.size (fin_at hr0)).trans hr0)
              have HB := Lib.hid (hb0.trans (hb2.mono hb0.size))
              have HV := Lib.hid (PIn.mono (fun q _ hq => Nat.lt_of_lt_of_le hz0 hq) _ _ _ hv2 : PIn (D + 1) w2 (fun q => w.heap.size < q) _ _)
              clear hr0 hb0 hb2 hv2 hz0
              have k0 := cell_blk HR.out 0
              have k1 := cell_blk HR.out 1
              have k2 := cell_blk HR.out 2
              have l0 := froz_blk HR.out 0
              have l1 := froz_blk HR.out 1
              have l2 := froz_blk HR.out 2
              simp at k0 k1 k2
              have hz2 := fin_at HR.out
              go_wp2_with fail
              refine bodyPost_ret (results_cell_row rfl _ _ _ 43 _ (0, 0) _ rfl (three_set HR.out _ _ _) Tryd.underlying43 rfl (by kernel_rfl)) rfl ?_
              exact part_end HB.out HV.out HO.out (by omega) (by omega)
  · have hge : (s.size : Int) ≤ (i1 : Int) := by omega
    have hge2 : (s.size : Int) ≤ (i2 : Int) := by omega
    rw [drop_nil s i1 (by omega)] at HNA hm
    have h0 : nameLen [] = 0 := rfl
    rw [h0] at HNA
    rw [dol_nil] at hm
    have HO : Hid (m = some ([litP false [36]], s.data.toList.drop i1)) := Lib.hid (by rw [← hm, drop_nil s i1 (by omega)])
    have HLT := Lib.hid (fun W => rlit_any D [36] false W)
    rw [show nm [36] = (⟨#[36]⟩ : ByteArray) from rfl] at HLT
    have HDG : Hid True := Lib.hid trivial
    have HHS : Hid True := Lib.hid trivial
    have hii1 : i < i1 := by omega
    clear hm h0 HBR hi1 hi2
    go_enter Tryd.func48, Tryd.ntmps48
    go_wp2_with (first | (go_at_call 62; refine (HNA.out _).mono ?_; rintro e w' ⟨rfl, rfl⟩) | (go_at_call 63; refine (HDG.out _).mono ?_; rintro e w' ⟨rfl, rfl⟩) | (go_at_call 47; refine (HHS.out _).mono ?_; rintro e w' ⟨rfl, rfl⟩) | (go_at_call 66; refine (HIN.out _).mono ?_; rintro e w' ⟨rfl, rfl⟩))
    refine calls_gen (fun W => W.heap[w.heap.size]? = some (.cells #[.slice none 0 0, .int .i64 0, .int .i64 0] 43 (0, 0)) ∧ Below w.heap.size w W ∧ w.heap.size < W.heap.size) ⟨heap_alloc_new _ _, (Below.refl _ _).alloc (Nat.le_refl _) _, by simp⟩ ?_
    rintro W ⟨hr0, hb0, hz0⟩
    refine (HLT.out W).mono ?_
    rintro e w2 ⟨hb2, v2, rfl, hv2⟩
    obtain ⟨A2, c2, rfl, _⟩ := PIn.shape hv2
    have HR := Lib.hid ((hb2.block w.heap.size (fin_at hr0)).trans hr0)
    have HB := Lib.hid (hb0.trans (hb2.mono hb0.size))
    have HV := Lib.hid (PIn.mono (fun q _ hq => Nat.lt_of_lt_of_le hz0 hq) _ _ _ hv2 : PIn (D + 1) w2 (fun q => w.heap.size < q) _ _)
    clear hr0 hb0 hb2 hv2 hz0
    have k0 := cell_blk HR.out 0
    have k1 := cell_blk HR.out 1
    have k2 := cell_blk HR.out 2
    have l0 := froz_blk HR.out 0
    have l1 := froz_blk HR.out 1
    have l2 := froz_blk HR.out 2
    simp at k0 k1 k2
    have hz2 := fin_at HR.out
    go_wp2_with fail
    refine bodyPost_ret (results_cell_row rfl _ _ _ 43 _ (0, 0) _ rfl (three_set HR.out _ _ _) Tryd.underlying43 rfl (by kernel_rfl)) rfl ?_
    exact part_end HB.out HV.out HO.out (by omega) (by omega)

end Go.Proofs.YtkbhjjmgacahdaaDoor.Wd
