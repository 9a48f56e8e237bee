/- DERIVED. Walks over the document's own SameNode, Nodes, Exact, New. -/
import Derived.Test.YtkmnbbocahjmaaaGreatDoorTreeAwk
namespace Go.Proofs.YtkmnbbocahjmaaaGreatDoor
open Go.RowKit Go.Sort
open PathM TreeM
set_option linter.unusedVariables false

set_option maxHeartbeats 8000000 in
theorem rsameNode_any (v u : Value) (a b : Nd) (B : Nat) (w : World) (hE : EntsIn w B v a.es) (hF : EntsIn w B u b.es) (hB : B ≤ w.heap.size) :
    Calls Tryz.prog 29 #[ndV v a, ndV u b] w (BelowB (decide (a = b)) w) := by
  unfold BelowB
  obtain ⟨A1, c1, rfl, _⟩ := ents_len hE
  obtain ⟨A2, c2, rfl, _⟩ := ents_len hF
  have HE := Lib.hid (hE.more hB); have HF := Lib.hid (hF.more hB)
  clear hE hF
  unfold ndV
  obtain ⟨i1, k1, m1, o1, t1, d1, e1⟩ := a
  obtain ⟨i2, k2, m2, o2, t2, d2, e2⟩ := b
  simp only at *
  have hdec : decide ((⟨i1, k1, m1, o1, t1, d1, e1⟩ : Nd) = ⟨i2, k2, m2, o2, t2, d2, e2⟩) = (decide (i1 = i2) && (decide (k1 = k2) && (decide (m1 = m2) && (decide (o1 = o2) && (decide (t1 = t2) && (decide (d1 = d2) && decide (e1 = e2))))))) := by
    rw [Bool.eq_iff_iff]; simp
  rw [hdec]
  clear hdec
  have hB1 : Below w.heap.size w ((w.alloc (.cells #[.int .i64 i1, .int .i64 k1, .int .i64 m1, .int .i64 o1, .int .i64 t1, .string (nm d1), .slice A1 e1.length c1] 64)).alloc (.cells #[.int .i64 i2, .int .i64 k2, .int .i64 m2, .int .i64 o2, .int .i64 t2, .string (nm d2), .slice A2 e2.length c2] 64)) :=
    ((Below.refl _ _).alloc (Nat.le_refl _) _).alloc (by simp) _
  have HB := Lib.hid hB1
  clear hB1
  by_cases h1 : i1 = i2
  · have q1 : (i1 != i2) = false := by simpa using h1
    rw [decide_eq_true h1]
    clear h1
    by_cases h2 : k1 = k2
    · have q2 : (k1 != k2) = false := by simpa using h2
      rw [decide_eq_true h2]
      clear h2
      by_cases h3 : m1 = m2
      · have q3 : (m1 != m2) = false := by simpa using h3
        rw [decide_eq_true h3]
        clear h3
        by_cases h4 : o1 = o2
        · have q4 : (o1 != o2) = false := by simpa using h4
          rw [decide_eq_true h4]
          clear h4
          by_cases h5 : t1 = t2
          · have q5 : (t1 != t2) = false := by simpa using h5
            rw [decide_eq_true h5]
            clear h5
            by_cases h6 : d1 = d2
            · have q6 : ((nm d1).toList == (nm d2).toList) = true := by rw [listD, listD]; show (d1 == d2) = true; simpa using h6
              rw [decide_eq_true h6]
              clear h6
              by_cases h7 : e1.length = e2.length
              · have q7 : ((e1.length : Int) != (e2.length : Int)) = false := by simp; omega
                rw [← ents_eq h7]
                obtain ⟨r, hr⟩ : ∃ r, allTo (fun i => decide (entAt e1 i = entAt e2 i)) e1.length = r := ⟨_, rfl⟩
                rw [hr]
                have hfail : ∀ k, k < e1.length → ¬ entAt e1 k = entAt e2 k → r = false := fun k hk h => by rw [← hr]; exact allTo_not hk (by simpa using h)
                rw [← h7] at HB q7 ⊢
                have hl2 := h7
                obtain ⟨hlen, _, hc1⟩ := (HE.out.below HB.out).cases
                obtain ⟨_, _, hc2⟩ := (HF.out.below HB.out).cases
                rw [← h7] at hc2
                have HFA := Lib.hid hfail; have HR := Lib.hid hr; have HC1 := Lib.hid hc1; have HC2 := Lib.hid hc2; have HL2 := Lib.hid hl2
                clear hfail hr hc1 hc2 hl2 h7 HE HF
                generalize hn : e1.length = n at *
                have HN := Lib.hid hn
                clear hn
                generalize nm d1 = D1 at *
                generalize nm d2 = D2 at *
                go_enter Tryz.func29, Tryz.ntmps29
                go_wp2
                generalize hA : (.cells #[.int .i64 i1, .int .i64 k1, .int .i64 m1, .int .i64 o1, .int .i64 t1, .string D1, .slice A1 n c1] 64 : Obj) = OA at *
                generalize hB2 : (.cells #[.int .i64 i2, .int .i64 k2, .int .i64 m2, .int .i64 o2, .int .i64 t2, .string D2, .slice A2 n c2] 64 : Obj) = OB at *
                have b1 := heap_alloc2_old w OA OB
                have b2 := heap_alloc2_new w OA OB
                generalize (w.alloc OA).alloc OB = W0 at *
                rw [← hA] at b1
                rw [← hB2] at b2
                have p6 := cell_blk b1 6
                have r6 := cell_blk b2 6
                simp at p6 r6
                clear b1 b2 hA hB2 q1 q2 q3 q4 q5 q6 q7
                go_loopw [5] (fun i wr => ∃ k q : Nat, k ≤ n ∧ i = .int .i64 k ∧ wr = W0.drewN q ∧ allTo (fun i => decide (entAt e1 i = entAt e2 i)) k = true) (fun i _ => n - (intOf i).toNat)
                case atStart => exact ⟨0, 0, by omega, rfl, rfl, rfl⟩
                case round =>
                  obtain ⟨k, q, hk, rfl, rfl, hto⟩ := hrel
                  have HT := Lib.hid hto
                  clear hto
                  by_cases hlt : k < n
                  · obtain ⟨b, off, cc, hA1, hcells⟩ : ∃ b off cc, Value.slice A1 n c1 = .slice (some ⟨b, off, none⟩) n cc ∧ ∀ k, k < n → W0.cell? ⟨b, off + k * 2, none⟩ = some (.string (nm (entAt e1 k).key)) ∧ W0.cell? ⟨b, off + k * 2 + 1, none⟩ = some (.int .i64 (entAt e1 k).to) := by
                      rcases HC1.out with ⟨_, _, _, h0⟩ | ⟨b, off, cc, h1, _, _, _, h2⟩
                      · rw [← HN.out, h0] at hlt; exact absurd hlt (by simp)
                      · exact ⟨b, off, cc, h1, h2⟩
                    obtain ⟨b', off', cc', hA2, hcells'⟩ : ∃ b off cc, Value.slice A2 n c2 = .slice (some ⟨b, off, none⟩) n cc ∧ ∀ k, k < n → W0.cell? ⟨b, off + k * 2, none⟩ = some (.string (nm (entAt e2 k).key)) ∧ W0.cell? ⟨b, off + k * 2 + 1, none⟩ = some (.int .i64 (entAt e2 k).to) := by
                      rcases HC2.out with ⟨_, _, _, h0⟩ | ⟨b, off, cc, h1, _, _, _, h2⟩
                      · have : e2.length = n := by rw [← HL2.out]
                        rw [h0] at this; simp at this; omega
                      · exact ⟨b, off, cc, h1, h2⟩
                    cases hA1; cases hA2
                    obtain ⟨x0, x1⟩ := hcells k hlt
                    obtain ⟨y0, y1⟩ := hcells' k hlt
                    have hkk : (k : Int) < (n : Int) := by omega
                    have hne := fun W => ent_neq (entAt e1 k) (entAt e2 k) W
                    clear hcells hcells'
                    by_cases he : entAt e1 k = entAt e2 k
                    · have HO := Lib.hid (allTo_succ HT.out (show decide (entAt e1 k = entAt e2 k) = true by simpa using he))
                      have hbb : (!decide (entAt e1 k = entAt e2 k)) = false := by simp [he]
                      rw [hbb] at hne
                      clear he hbb
                      generalize entAt e1 k = x at *
                      generalize entAt e2 k = y at *
                      go_wp2
                      go_quiet (fail)
                      go_wp2
                      go_roundw
                      case rel => exact ⟨k + 1, q + nq, by omega, by go_num, rfl, HO.out⟩
                      case measure => simp [intOf]; omega
                    · have HO := Lib.hid (HFA.out k hlt he)
                      have hbb : (!decide (entAt e1 k = entAt e2 k)) = true := by simp [he]
                      rw [hbb] at hne
                      clear he hbb
                      generalize entAt e1 k = x at *
                      generalize entAt e2 k = y at *
                      go_wp2
                      go_quiet (fail)
                      go_wp2
                      go_ret
                      exact ⟨ret_bool HO.out.symm, below_drewN' (below_drewN' HB.out _) _⟩
                  · have hkn : k = n := by omega
                    have HO : Hid (true = r) := Lib.hid (by rw [← HR.out, ← hkn]; exact HT.out.symm)
                    clear hkn
                    go_wp2
                    go_ret
                    exact ⟨ret_bool HO.out, below_drewN' HB.out _⟩
              · have q7 : ((e1.length : Int) != (e2.length : Int)) = true := by simp; omega
                rw [decide_eq_false (fun h => h7 (by rw [h]))]
                clear h7
                clear HE HF
                generalize e1.length = l1 at *
                generalize e2.length = l2 at *
                generalize nm d1 = D1 at *
                generalize nm d2 = D2 at *
                go_enter Tryz.func29, Tryz.ntmps29
                go_wp2
                go_ret
                exact ⟨rfl, HB.out⟩
            · have q6 : ((nm d1).toList == (nm d2).toList) = false := by rw [listD, listD]; exact beq_eq_false_iff_ne.2 h6
              rw [decide_eq_false h6]
              clear h6
              clear HE HF
              generalize e1.length = l1 at *
              generalize e2.length = l2 at *
              generalize nm d1 = D1 at *
              generalize nm d2 = D2 at *
              go_enter Tryz.func29, Tryz.ntmps29
              go_wp2
              go_ret
              exact ⟨rfl, HB.out⟩
          · have q5 : (t1 != t2) = true := by simpa using h5
            rw [decide_eq_false h5]
            clear h5
            clear HE HF
            generalize e1.length = l1 at *
            generalize e2.length = l2 at *
            generalize nm d1 = D1 at *
            generalize nm d2 = D2 at *
            go_enter Tryz.func29, Tryz.ntmps29
            go_wp2
            go_ret
            exact ⟨rfl, HB.out⟩
        · have q4 : (o1 != o2) = true := by simpa using h4
          rw [decide_eq_false h4]
          clear h4
          clear HE HF
          generalize e1.length = l1 at *
          generalize e2.length = l2 at *
          generalize nm d1 = D1 at *
          generalize nm d2 = D2 at *
          go_enter Tryz.func29, Tryz.ntmps29
          go_wp2
          go_ret
          exact ⟨rfl, HB.out⟩
      · have q3 : (m1 != m2) = true := by simpa using h3
        rw [decide_eq_false h3]
        clear h3
        clear HE HF
        generalize e1.length = l1 at *
        generalize e2.length = l2 at *
        generalize nm d1 = D1 at *
        generalize nm d2 = D2 at *
        go_enter Tryz.func29, Tryz.ntmps29
        go_wp2
        go_ret
        exact ⟨rfl, HB.out⟩
    · have q2 : (k1 != k2) = true := by simpa using h2
      rw [decide_eq_false h2]
      clear h2
      clear HE HF
      generalize e1.length = l1 at *
      generalize e2.length = l2 at *
      generalize nm d1 = D1 at *
      generalize nm d2 = D2 at *
      go_enter Tryz.func29, Tryz.ntmps29
      go_wp2
      go_ret
      exact ⟨rfl, HB.out⟩
  · have q1 : (i1 != i2) = true := by simpa using h1
    rw [decide_eq_false h1]
    clear h1
    clear HE HF
    generalize e1.length = l1 at *
    generalize e2.length = l2 at *
    generalize nm d1 = D1 at *
    generalize nm d2 = D2 at *
    go_enter Tryz.func29, Tryz.ntmps29
    go_wp2
    go_ret
    exact ⟨rfl, HB.out⟩

end Go.Proofs.YtkmnbbocahjmaaaGreatDoor
