/- DERIVED. The walk over the reader's arith. -/
import Derived.Test.YtgajbehlggikdaaWdCmd
import Derived.Deep.LoopGhost
namespace Go.Proofs.Ytgajbehlggikdaa.Wd
open Go.RowKit
open PathM WdM
set_option linter.unusedVariables false
theorem take_snoc (s : ByteArray) (i j : Nat) (hij : i ≤ j) (hj : j < s.size) : (s.data.toList.drop i).take (j + 1 - i) = (s.data.toList.drop i).take (j - i) ++ [s[j]] := by
  have e : j + 1 - i = (j - i) + 1 := by omega
  have hl : j - i < (s.data.toList.drop i).length := by rw [List.length_drop, ← sizeD]; omega
  rw [e, List.take_succ_eq_append_getElem hl]
  congr 2
  rw [List.getElem_drop]
  have h2 : s.data.toList[j]'(by rw [← sizeD]; exact hj) = s[j] := rfl
  rw [← h2]
  congr 1
  omega
theorem stands_cons (a : UInt8) (sg : Bs) (c : UInt8) (t : Bs) : stands (a :: sg) (c :: t) = (a == c && stands sg t) := rfl
theorem bad_five {c : UInt8} (h : [39, 34, 92, 96, 10].contains c = true) : c = 39 ∨ c = 34 ∨ c = 92 ∨ c = 96 ∨ c = 10 := by simpa using h
theorem not_five {c : UInt8} (h : ¬ [39, 34, 92, 96, 10].contains c = true) : ¬ c = 39 ∧ ¬ c = 34 ∧ ¬ c = 92 ∧ ¬ c = 96 ∧ ¬ c = 10 :=
  ⟨fun e => h (by rw [e]; rfl), fun e => h (by rw [e]; rfl), fun e => h (by rw [e]; rfl), fun e => h (by rw [e]; rfl), fun e => h (by rw [e]; rfl)⟩
theorem arith_bad (fl o : Nat) (acc : Bs) (c : UInt8) (t : Bs) (h : [39, 34, 92, 96, 10].contains c = true) : arithS fl o acc (c :: t) = .bad (t.length + 1) 61 := by rw [arithS, if_pos h]
theorem set_kept {w wr : World} {rb : Nat} (h : Kept (· = rb) w wr) (k : Nat) (v : Value) : Kept (· = rb) w ((wr.drewN k).setCell ⟨rb, 1, none⟩ v) := h.trans ((Kept.drewN k).trans (Kept.setCell _ _ rfl))
theorem set_rd {wr : World} {rb : Nat} {s : ByteArray} {i d : Nat} (h : RdIn wr rb s i d) (k n : Nat) : RdIn ((wr.drewN k).setCell ⟨rb, 1, none⟩ (.int .i64 n)) rb s n d := at_set (rd_drewN h k) n
set_option maxRecDepth 100000 in
set_option maxHeartbeats 3200000 in
theorem arith_any (rb : Nat) (s : ByteArray) (i f d : Nat) (w : World) (h : RdIn w rb s i d) (hf : f ≤ i) (hi : i ≤ s.size) (hs : s.size ≤ 8192) :
    Calls Try.prog 79 #[.pointer (some ⟨rb, 0, none⟩), .int .i64 f] w
      (Ends s f (arithS (s.size - f) 0 [] (s.data.toList.drop i)) (fun x n e w' => i ≤ n ∧ Red rb s n d (ptV (.mk 4 false x [] []) (.slice none 0 0)) w e w') (fun w' => Kept (· = rb) w w')) := by
  obtain ⟨r, hr⟩ : ∃ r, arithS (s.size - f) 0 [] (s.data.toList.drop i) = r := ⟨_, rfl⟩
  rw [hr]
  have HR : Hid (arithS (s.size - f) 0 ((s.data.toList.drop i).take (i - i)) (s.data.toList.drop i) = r) := Lib.hid (by rw [Nat.sub_self, List.take_zero]; exact hr)
  clear hr
  have HRD := Lib.hid h
  have r1 := rd_at h
  have hz := rd_lt h
  clear h
  go_enter Try.func79, Try.ntmps79
  go_wp2_with fail
  go_loopg [6] (s.size - i) (fun g x wr => ∃ j o : Nat, g = s.size - j ∧ x = .int .i64 o ∧ i ≤ j ∧ j ≤ s.size ∧ o ≤ j ∧ Hid (Kept (· = rb) (w.alloc (.cells #[.int .i64 0, .bool false, .string ⟨#[]⟩, .string ⟨#[]⟩, .slice none 0 0] 64)) wr) ∧ Hid (RdIn wr rb s j d) ∧ Hid (arithS (s.size - f) o ((s.data.toList.drop i).take (j - i)) (s.data.toList.drop j) = r))
  case atStart => exact ⟨i, 0, rfl, rfl, by omega, hi, by omega, Lib.hid (Kept.refl _ _), Lib.hid (rd_alloc HRD.out _), HR⟩
  case round =>
    obtain ⟨j, o, rfl, rfl, hij, hj, hoj, HK, HRJ, HI⟩ := hrel
    have s0 := rd_s HRJ.out
    have s1 := rd_at HRJ.out
    have g1 := rd_fz HRJ.out 1
    have hzr := rd_lt HRJ.out
    by_cases hlt : j < s.size
    · have HO := Lib.hid (over_lit rb s j d wr HRJ.out false (decide_eq_false (by omega)) 0)
      have HD := Lib.hid (get_at s j hlt)
      have hbl := bad_len s (j + 1)
      have HT : Hid (s.size - j = (s.data.toList.drop (j + 1)).length + 1) := Lib.hid (by omega)
      have b1 : ((s[j].toNat : Int) == 39) = decide (s[j] = 39) := bt s[j] 39 (by decide)
      have b2 : ((s[j].toNat : Int) == 34) = decide (s[j] = 34) := bt s[j] 34 (by decide)
      have b3 : ((s[j].toNat : Int) == 92) = decide (s[j] = 92) := bt s[j] 92 (by decide)
      have b4 : ((s[j].toNat : Int) == 96) = decide (s[j] = 96) := bt s[j] 96 (by decide)
      have b5 : ((s[j].toNat : Int) == 10) = decide (s[j] = 10) := bt s[j] 10 (by decide)
      have b6 : ((s[j].toNat : Int) == 40) = decide (s[j] = 40) := bt s[j] 40 (by decide)
      have b7 : ((s[j].toNat : Int) == 41) = decide (s[j] = 41) := bt s[j] 41 (by decide)
      by_cases hbad : [39, 34, 92, 96, 10].contains s[j] = true
      · have HBD : Hid (r = .bad (s.size - j) 61) := Lib.hid (by rw [← HI.out, HD.out, arith_bad _ _ _ _ _ hbad, HT.out])
        by_cases h1 : s[j] = 39
        · rw [decide_eq_true h1] at b1
          clear b2 b3 b4 b5 b6 b7 h1 hbad hbl
          go_wp2_with (go_at_call 44; refine (HO.out).mono ?_; rintro e w9 ⟨rfl, ko, rfl⟩)
          go_quiet (fail)
          go_wp2
          refine ⟨rfl, ?_⟩
          rw [HBD.out]
          exact .inr ⟨j, 61, rfl, by omega, by omega, rfl, (kept_alloc _ _).trans (HK.out.trans (Kept.drewN _))⟩
        · rw [decide_eq_false h1] at b1
          by_cases h2 : s[j] = 34
          · rw [decide_eq_true h2] at b2
            clear b3 b4 b5 b6 b7 h1 h2 hbad hbl
            go_wp2_with (go_at_call 44; refine (HO.out).mono ?_; rintro e w9 ⟨rfl, ko, rfl⟩)
            go_quiet (fail)
            go_wp2
            refine ⟨rfl, ?_⟩
            rw [HBD.out]
            exact .inr ⟨j, 61, rfl, by omega, by omega, rfl, (kept_alloc _ _).trans (HK.out.trans (Kept.drewN _))⟩
          · rw [decide_eq_false h2] at b2
            by_cases h3 : s[j] = 92
            · rw [decide_eq_true h3] at b3
              clear b4 b5 b6 b7 h1 h2 h3 hbad hbl
              go_wp2_with (go_at_call 44; refine (HO.out).mono ?_; rintro e w9 ⟨rfl, ko, rfl⟩)
              go_quiet (fail)
              go_wp2
              refine ⟨rfl, ?_⟩
              rw [HBD.out]
              exact .inr ⟨j, 61, rfl, by omega, by omega, rfl, (kept_alloc _ _).trans (HK.out.trans (Kept.drewN _))⟩
            · rw [decide_eq_false h3] at b3
              by_cases h4 : s[j] = 96
              · rw [decide_eq_true h4] at b4
                clear b5 b6 b7 h1 h2 h3 h4 hbad hbl
                go_wp2_with (go_at_call 44; refine (HO.out).mono ?_; rintro e w9 ⟨rfl, ko, rfl⟩)
                go_quiet (fail)
                go_wp2
                refine ⟨rfl, ?_⟩
                rw [HBD.out]
                exact .inr ⟨j, 61, rfl, by omega, by omega, rfl, (kept_alloc _ _).trans (HK.out.trans (Kept.drewN _))⟩
              · rw [decide_eq_false h4] at b4
                have h5 : s[j] = 10 := by
                  rcases bad_five hbad with h | h | h | h | h
                  · exact absurd h h1
                  · exact absurd h h2
                  · exact absurd h h3
                  · exact absurd h h4
                  · exact h
                rw [decide_eq_true h5] at b5
                clear b6 b7 h1 h2 h3 h4 h5 hbad hbl
                go_wp2_with (go_at_call 44; refine (HO.out).mono ?_; rintro e w9 ⟨rfl, ko, rfl⟩)
                go_quiet (fail)
                go_wp2
                refine ⟨rfl, ?_⟩
                rw [HBD.out]
                exact .inr ⟨j, 61, rfl, by omega, by omega, rfl, (kept_alloc _ _).trans (HK.out.trans (Kept.drewN _))⟩
      · have hn := not_five hbad
        rw [decide_eq_false hn.1] at b1
        rw [decide_eq_false hn.2.1] at b2
        rw [decide_eq_false hn.2.2.1] at b3
        rw [decide_eq_false hn.2.2.2.1] at b4
        rw [decide_eq_false hn.2.2.2.2] at b5
        have HS : Hid ((if s[j] = 40 then arithS (s.size - f) (o + 1) ((s.data.toList.drop i).take (j + 1 - i)) (s.data.toList.drop (j + 1))
            else if s[j] = 41 then
              if 0 < o then arithS (s.size - f) (o - 1) ((s.data.toList.drop i).take (j + 1 - i)) (s.data.toList.drop (j + 1))
              else if stands [41] (s.data.toList.drop (j + 1)) then .ok ((s.data.toList.drop i).take (j - i)) (s.data.toList.drop (j + 2)) else .bad (s.size - j) 61
            else arithS (s.size - f) o ((s.data.toList.drop i).take (j + 1 - i)) (s.data.toList.drop (j + 1))) = r) := Lib.hid (by
          have := HI.out
          rw [HD.out, arithS, if_neg hbad, ← take_snoc s i j hij hlt, ← HT.out, List.drop_drop] at this
          exact this)
        clear hn hbad hbl HI
        by_cases h6 : s[j] = 40
        · have HN := HS.out
          rw [if_pos h6] at HN
          have HN := Lib.hid HN
          rw [decide_eq_true h6] at b6
          clear b7 h6 HS
          go_wp2_with (go_at_call 44; refine (HO.out).mono ?_; rintro e w9 ⟨rfl, ko, rfl⟩)
          go_quiet (fail)
          go_wp2
          go_roundg (s.size - (j + 1))
          case measure => omega
          case rel => exact ⟨j + 1, o + 1, rfl, by go_num, by omega, by omega, by omega, Lib.hid (set_kept HK.out _ _), Lib.hid (set_rd HRJ.out _ (j + 1)), HN⟩
        · rw [decide_eq_false h6] at b6
          by_cases h7 : s[j] = 41
          · rw [decide_eq_true h7] at b7
            by_cases h8 : 0 < o
            · have HN := HS.out
              rw [if_neg h6, if_pos h7, if_pos h8] at HN
              have HN := Lib.hid HN
              clear h6 h7 HS
              go_wp2_with (go_at_call 44; refine (HO.out).mono ?_; rintro e w9 ⟨rfl, ko, rfl⟩)
              go_quiet (fail)
              go_wp2
              go_roundg (s.size - (j + 1))
              case measure => omega
              case rel => exact ⟨j + 1, o - 1, rfl, by go_num, by omega, by omega, by omega, Lib.hid (set_kept HK.out _ _), Lib.hid (set_rd HRJ.out _ (j + 1)), HN⟩
            · obtain rfl : o = 0 := by omega
              have HN := HS.out
              rw [if_neg h6, if_pos h7, if_neg h8] at HN
              have HN := Lib.hid HN
              have hst := fun k => pass_any rb s j d ⟨#[41, 41]⟩ (wr.drewN k) (rd_drewN HRJ.out k) (by omega) hs
              have e41 : stands (⟨#[41, 41]⟩ : ByteArray).data.toList (s.data.toList.drop j) = stands [41] (s.data.toList.drop (j + 1)) := by
                rw [HD.out]; show stands [41, 41] _ = _; rw [stands_cons, h7]; simp
              rw [e41] at hst
              have hex : s.extract i j = nm ((s.data.toList.drop i).take (j - i)) := ext_mid s i j
              cases hc : stands [41] (s.data.toList.drop (j + 1)) with
              | false =>
                rw [hc] at hst
                have HN := HN.out
                rw [if_neg (by rw [hc]; decide)] at HN
                rw [if_neg (by decide)] at hst
                have HBD := Lib.hid HN.symm
                have HST := Lib.hid hst
                clear h6 h7 HS HN hst e41 hc hex
                go_wp2_with (go_at_call 44; refine (HO.out).mono ?_; rintro e w9 ⟨rfl, ko, rfl⟩)
                go_quiet (fail)
                go_wp2_with fail
                go_quiet (fail)
                go_wp2_with (go_at_call 77; refine (HST.out _).mono ?_; rintro e w9 h9; obtain ⟨rfl, h9⟩ := h9; have H9 := Lib.hid h9; clear h9; have hy := Lib.hid ((HK.out.trans ((Kept.drewN _).trans H9.out.1)).at (alloc_at w _ 0) (by omega)); have p0 := cell_blk hy.out 0; have p1 := cell_blk hy.out 1; have p2 := cell_blk hy.out 2; have p3 := cell_blk hy.out 3; have p4 := cell_blk hy.out 4; have q0 := froz_blk hy.out 0; have q1 := froz_blk hy.out 1; have q2 := froz_blk hy.out 2; have q3 := froz_blk hy.out 3; have q4 := froz_blk hy.out 4; simp at p0 p1 p2 p3 p4; have hzp := fin_at hy.out; have t1 := rd_at H9.out.2)
                refine ⟨rfl, ?_⟩
                rw [HBD.out]
                exact .inr ⟨j, 61, rfl, by omega, by omega, rfl, (kept_alloc _ _).trans (HK.out.trans ((Kept.drewN _).trans H9.out.1))⟩
              | true =>
                rw [hc] at hst
                have HN := HN.out
                rw [if_pos hc] at HN
                rw [if_pos rfl] at hst
                have HOK := Lib.hid HN.symm
                have HST := Lib.hid hst
                have hle : j + 2 ≤ s.size := by have := stands_len hc; rw [bad_len] at this; simp at this; omega
                have HEX := Lib.hid hex
                clear h6 h7 HS HN hst e41 hc hex
                go_wp2_with (go_at_call 44; refine (HO.out).mono ?_; rintro e w9 ⟨rfl, ko, rfl⟩)
                go_quiet (fail)
                go_wp2_with fail
                go_quiet (fail)
                go_wp2_with (go_at_call 77; refine (HST.out _).mono ?_; rintro e w9 h9; obtain ⟨rfl, h9⟩ := h9; have H9 := Lib.hid h9; clear h9; have hy := Lib.hid ((HK.out.trans ((Kept.drewN _).trans H9.out.1)).at (alloc_at w _ 0) (by omega)); have p0 := cell_blk hy.out 0; have p1 := cell_blk hy.out 1; have p2 := cell_blk hy.out 2; have p3 := cell_blk hy.out 3; have p4 := cell_blk hy.out 4; have q0 := froz_blk hy.out 0; have q1 := froz_blk hy.out 1; have q2 := froz_blk hy.out 2; have q3 := froz_blk hy.out 3; have q4 := froz_blk hy.out 4; simp at p0 p1 p2 p3 p4; have hzp := fin_at hy.out; have t1 := rd_at H9.out.2)
                rw [HEX.out]
                have HK5 := Lib.hid (five_kept (S := (· = w.heap.size)) w9 rfl (.int .i64 4) (.bool false) (.string (nm ((s.data.toList.drop i).take (j - i)))) (.string ⟨#[]⟩) (.slice none 0 0))
                refine bodyPost_ret (results_cell_row rfl _ _ _ 64 _ (0, 0) _ rfl (five_set hy.out _ _ _ _ _) Try.underlying64 rfl (by kernel_rfl)) rfl ?_
                rw [HOK.out]
                exact .inl ⟨_, j + 2, rfl, by omega, hle, by omega, rfl, ((kept_alloc _ _).trans (HK.out.trans ((Kept.drewN _).trans H9.out.1))).then HK5.out (fun k hk e => absurd e (by omega)), rd_kept H9.out.2 HK5.out (by show ¬ rb = w.heap.size; omega)⟩
          · have HN := HS.out
            rw [if_neg h6, if_neg h7] at HN
            have HN := Lib.hid HN
            rw [decide_eq_false h7] at b7
            clear h6 h7 HS
            go_wp2_with (go_at_call 44; refine (HO.out).mono ?_; rintro e w9 ⟨rfl, ko, rfl⟩)
            go_quiet (fail)
            go_wp2
            go_roundg (s.size - (j + 1))
            case measure => omega
            case rel => exact ⟨j + 1, o, rfl, rfl, by omega, by omega, by omega, Lib.hid (set_kept HK.out _ _), Lib.hid (set_rd HRJ.out _ (j + 1)), HN⟩
    · obtain rfl : j = s.size := by omega
      have HO := Lib.hid (over_lit rb s s.size d wr HRJ.out true (decide_eq_true rfl) 0)
      have HBD : Hid (r = .bad (s.size - f) 60) := Lib.hid (by rw [← HI.out, drop_nil s s.size (Nat.le_refl _), arithS])
      go_wp2_with (go_at_call 44; refine (HO.out).mono ?_; rintro e w9 ⟨rfl, ko, rfl⟩)
      refine ⟨rfl, ?_⟩
      rw [HBD.out]
      exact .inr ⟨f, 60, rfl, by omega, by omega, rfl, (kept_alloc _ _).trans (HK.out.trans (Kept.drewN _))⟩

end Go.Proofs.Ytgajbehlggikdaa.Wd
