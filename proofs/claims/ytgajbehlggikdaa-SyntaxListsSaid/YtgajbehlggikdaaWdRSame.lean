/- DERIVED. The walk over the document's Same. -/
import Derived.Test.YtgajbehlggikdaaWdScan
namespace Go.Proofs.Ytgajbehlggikdaa.Wd
open Go.RowKit
open PathM WdM
set_option linter.unusedVariables false

theorem sameL_len : ∀ (l m : List PT), l.length ≠ m.length → sameL l m = false := by
  intro l
  induction l with
  | nil => intro m h; cases m with
    | nil => exact absurd rfl h
    | cons q m => simp [sameL]
  | cons p l ih => intro m h; cases m with
    | nil => obtain ⟨a1, a2, a3, a4, a5⟩ := p; simp [sameL]
    | cons q m =>
      obtain ⟨a1, a2, a3, a4, a5⟩ := p
      obtain ⟨b1, b2, b3, b4, b5⟩ := q
      rw [sameL, ih m (by simpa using h), Bool.and_false]
theorem sameL_cons (p q : PT) (l m : List PT) : sameL (p :: l) (q :: m) = (p.kind == q.kind && p.quoted == q.quoted && p.text == q.text && p.op == q.op && sameL p.word q.word && sameL l m) := by
  obtain ⟨a1, a2, a3, a4, a5⟩ := p
  obtain ⟨b1, b2, b3, b4, b5⟩ := q
  rw [sameL]
  rfl
/-- A part of a slice. -/
theorem PIn.opened {d : Nat} {w : World} {S : Nat → Prop} {v : Value} {l : List PT} (h : PIn d w S v l) (hl : l ≠ []) : ∃ d0 b off c, d = d0 + 1 ∧ v = .slice (some ⟨b, off, none⟩) l.length c ∧ S b ∧ l.length ≤ 1954687338211 ∧ ∀ i (hi : i < l.length),
    ∃ wv, w.cell? ⟨b, off + i * 5, none⟩ = some (.int .i64 l[i].kind) ∧ w.cell? ⟨b, off + i * 5 + 1, none⟩ = some (.bool l[i].quoted) ∧ w.cell? ⟨b, off + i * 5 + 2, none⟩ = some (.string (nm l[i].text)) ∧
      w.cell? ⟨b, off + i * 5 + 3, none⟩ = some (.string (nm l[i].op)) ∧ w.cell? ⟨b, off + i * 5 + 4, none⟩ = some wv ∧ PIn d0 w S wv l[i].word := by
  cases d with
  | zero => exact absurd h.1 hl
  | succ d0 =>
    obtain ⟨A, c, ps, rfl, he, h3, h4⟩ := h
    obtain ⟨b, off, rfl, h5, h6⟩ := h4 hl
    refine ⟨d0, b, off, c, rfl, rfl, h5, h3.1, fun i hi => ?_⟩
    have hip : i < ps.length := by rw [he, List.length_map] at hi; exact hi
    have hp : ptAt ps i = ps[i] := by unfold ptAt; rw [List.getD_eq_getElem?_getD, List.getElem?_eq_getElem hip]; rfl
    have hli : l[i] = ps[i].1 := by subst he; simp
    obtain ⟨a0, a1, a2, a3, a4, a5⟩ := h6 i hip
    rw [hp] at a0 a1 a2 a3 a4 a5
    rw [hli]
    exact ⟨_, a0, a1, a2, a3, a4, a5⟩
theorem PIn.drewN {d : Nat} {w : World} {S : Nat → Prop} {v : Value} {l : List PT} (h : PIn d w S v l) (k : Nat) : PIn d (w.drewN k) S v l := PIn.keep (w := w) (w' := w.drewN k) (S := S) (fun _ _ => rfl) d v l h
theorem PIn.shape {d : Nat} {w : World} {S : Nat → Prop} {v : Value} {l : List PT} (h : PIn d w S v l) : ∃ A c, v = .slice A l.length c ∧ l.length ≤ 1954687338211 := by
  cases d with
  | zero => obtain ⟨rfl, A, c, rfl⟩ := h; exact ⟨A, c, rfl, by decide⟩
  | succ d => obtain ⟨A, c, ps, rfl, _, h3, _⟩ := h; exact ⟨A, c, rfl, h3.1⟩
theorem str_ne {a b : Bs} (h : ¬ a = b) : ((nm a).toList == (nm b).toList) = false := by rw [listD, listD, nm_data, nm_data]; simpa using h
theorem str_eq (a : Bs) : ((nm a).toList == (nm a).toList) = true := by simp
set_option maxRecDepth 100000 in
set_option maxHeartbeats 6400000 in
theorem rsame_any : ∀ (D D' : Nat) (v u : Value) (l m : List PT) (w : World) (S T : Nat → Prop), PIn D w S v l → PIn D' w T u m →
    Calls Try.prog 15 #[v, u] w fun e w' => e = .returned (.bool (sameL l m)) ∧ ∃ k, w' = w.drewN k := by
  intro D
  induction D with
  | zero =>
    intro D' v u l m w S T hv hu
    obtain ⟨rfl, A, c, rfl⟩ := hv
    obtain ⟨A', c', rfl, hm⟩ := hu.shape
    by_cases h0 : m.length = 0
    · have hm0 : m = [] := List.length_eq_zero_iff.1 h0
      subst hm0
      have hs : sameL [] [] = true := by simp [sameL]
      rw [hs]
      clear hu h0 hs
      go_enter Try.func15, Try.ntmps15
      go_wp2_with fail
      go_loopg [5] 0 (fun g x wr => x = .int .i64 0 ∧ wr = w)
      case atStart => exact ⟨rfl, rfl⟩
      case round =>
        obtain ⟨rfl, rfl⟩ := hrel
        go_wp2_with fail
        go_ret
        exact ⟨rfl, 0, rfl⟩
    · rw [sameL_len [] m (by simpa using fun e => h0 e.symm)]
      have hp : 0 < m.length := by omega
      clear hu
      go_enter Try.func15, Try.ntmps15
      go_wp2_with fail
      go_ret
      exact ⟨rfl, 0, rfl⟩
  | succ D ih =>
    intro D' v u l m w S T hv hu
    have HIH := Lib.hid ih
    clear ih
    by_cases hlen : l.length = m.length
    · by_cases hl0 : l = []
      · subst hl0
        have hm0 : m = [] := List.length_eq_zero_iff.1 hlen.symm
        subst hm0
        obtain ⟨A, c, rfl, _⟩ := hv.shape
        obtain ⟨A', c', rfl, _⟩ := hu.shape
        have hs : sameL [] [] = true := by simp [sameL]
        rw [hs]
        clear hv hu hs HIH hlen
        go_enter Try.func15, Try.ntmps15
        go_wp2_with fail
        go_loopg [5] 0 (fun g x wr => x = .int .i64 0 ∧ wr = w)
        case atStart => exact ⟨rfl, rfl⟩
        case round =>
          obtain ⟨rfl, rfl⟩ := hrel
          go_wp2_with fail
          go_ret
          exact ⟨rfl, 0, rfl⟩
      · obtain ⟨d0, b, off, c, hd, rfl, _, hll, hl⟩ := hv.opened hl0
        obtain ⟨d1, b', off', c', rfl, rfl, _, _, hm⟩ := hu.opened (fun e => by subst e; exact hl0 (List.length_eq_zero_iff.1 hlen))
        obtain rfl : D = d0 := by omega
        have HL := Lib.hid hl
        have HM := Lib.hid hm
        obtain ⟨r, hr⟩ : ∃ r, sameL l m = r := ⟨_, rfl⟩
        rw [hr]
        have HR : Hid (sameL (l.drop 0) (m.drop 0) = r) := Lib.hid (by rw [List.drop_zero, List.drop_zero]; exact hr)
        rw [← hlen]
        clear hl hm hr hd hv hu
        go_enter Try.func15, Try.ntmps15
        go_wp2_with fail
        go_loopg [5] l.length (fun g x wr => ∃ i k : Nat, g = l.length - i ∧ x = .int .i64 i ∧ wr = w.drewN k ∧ i ≤ l.length ∧ Hid (sameL (l.drop i) (m.drop i) = r))
        case atStart => exact ⟨0, 0, by omega, rfl, rfl, by omega, HR⟩
        case round =>
          obtain ⟨i, k, rfl, rfl, hwr, hi, HI0⟩ := hrel
          have HK := Lib.hid hwr
          clear hwr
          clear HR
          by_cases hil : i < l.length
          · obtain ⟨wv1, a0, a1, a2, a3, a4, ap⟩ := HL.out i hil
            obtain ⟨wv2, e0, e1, e2, e3, e4, ep⟩ := HM.out i (by omega)
            have hcell : ∀ {a : Addr} {x : Value}, w.cell? a = some x → wr.cell? a = some x := fun h => by rw [HK.out]; exact h
            have hd1 : l.drop i = l[i] :: l.drop (i + 1) := List.drop_eq_getElem_cons hil
            have hd2 : m.drop i = m[i] :: m.drop (i + 1) := List.drop_eq_getElem_cons (by omega)
            have hI := HI0.out
            rw [hd1, hd2, sameL_cons] at hI
            clear HI0 hd1 hd2
            generalize l[i] = p at *
            generalize m[i]'(by omega) = q at *
            obtain ⟨k1, b1, t1, o1, w1⟩ := p
            obtain ⟨k2, b2, t2, o2, w2⟩ := q
            simp only [PT.kind, PT.quoted, PT.text, PT.op, PT.word] at *
            replace a0 := hcell a0
            replace a1 := hcell a1
            replace a2 := hcell a2
            replace a3 := hcell a3
            replace a4 := hcell a4
            replace e0 := hcell e0
            replace e1 := hcell e1
            replace e2 := hcell e2
            replace e3 := hcell e3
            replace e4 := hcell e4
            clear hcell
            have hz1 : b < wr.heap.size := World.block_lt_of_cell? _ _ a0
            have hz2 : b' < wr.heap.size := World.block_lt_of_cell? _ _ e0
            by_cases h0 : k1 = k2
            · have q0 : (k1 != k2) = false := by simpa using h0
              by_cases h1 : b1 = b2
              · have q1 : (!(b1 == b2)) = false := by simpa using h1
                by_cases h2 : t1 = t2
                · have q2 : ((nm t1).toList == (nm t2).toList) = true := by rw [h2]; exact str_eq _
                  by_cases h3 : o1 = o2
                  · have q3 : ((nm o1).toList == (nm o2).toList) = true := by rw [h3]; exact str_eq _
                    obtain ⟨A1, c1, rfl, _⟩ := ap.shape
                    obtain ⟨A2, c2, rfl, _⟩ := ep.shape
                    have HP1 : Hid (PIn D wr S (.slice A1 w1.length c1) w1) := Lib.hid (by rw [HK.out]; exact ap.drewN k)
                    have HP2 : Hid (PIn d1 wr T (.slice A2 w2.length c2) w2) := Lib.hid (by rw [HK.out]; exact ep.drewN k)
                    have hI2 : (sameL w1 w2 && sameL (l.drop (i + 1)) (m.drop (i + 1))) = r := by rw [← hI, h0, h1, h2, h3]; simp
                    have HI2 := Lib.hid hI2
                    clear hI hI2 h0 h1 h2 h3 ap ep
                    generalize nm t1 = x1 at *
                    generalize nm t2 = x2 at *
                    generalize nm o1 = x3 at *
                    generalize nm o2 = x4 at *
                    cases hw : sameL w1 w2 with
                    | true =>
                      have HI : Hid (∀ n, Calls Try.prog 15 #[.slice A1 w1.length c1, .slice A2 w2.length c2] (wr.drewN n) fun e w' => e = .returned (.bool true) ∧ ∃ j, w' = wr.drewN j) := Lib.hid fun n => by
                        have := HIH.out d1 _ _ w1 w2 (wr.drewN n) S T (HP1.out.drewN n) (HP2.out.drewN n)
                        rw [hw] at this
                        refine this.mono ?_
                        rintro e w' ⟨rfl, j, rfl⟩
                        exact ⟨rfl, n + j, World.drewN_drewN _ _ _⟩
                      have HN : Hid (sameL (l.drop (i + 1)) (m.drop (i + 1)) = r) := Lib.hid (by have := HI2.out; rw [hw, Bool.true_and] at this; exact this)
                      clear hw HI2
                      go_wp2_with fail
                      go_quiet ((go_at_call 15; exact HI.out _))
                      go_wp2
                      go_roundg (l.length - (i + 1))
                      case rel => exact ⟨i + 1, k + nq, rfl, by go_num, by rw [HK.out]; exact World.drewN_drewN _ _ _, by omega, HN⟩
                      case measure => omega
                    | false =>
                      have HI : Hid (∀ n, Calls Try.prog 15 #[.slice A1 w1.length c1, .slice A2 w2.length c2] (wr.drewN n) fun e w' => e = .returned (.bool false) ∧ ∃ j, w' = wr.drewN j) := Lib.hid fun n => by
                        have := HIH.out d1 _ _ w1 w2 (wr.drewN n) S T (HP1.out.drewN n) (HP2.out.drewN n)
                        rw [hw] at this
                        refine this.mono ?_
                        rintro e w' ⟨rfl, j, rfl⟩
                        exact ⟨rfl, n + j, World.drewN_drewN _ _ _⟩
                      have HF : Hid (r = false) := Lib.hid (by have := HI2.out; rw [hw, Bool.false_and] at this; exact this.symm)
                      clear hw HI2
                      go_wp2_with fail
                      go_quiet ((go_at_call 15; exact HI.out _))
                      go_wp2
                      go_ret
                      rw [HF.out]
                      exact ⟨rfl, k + nq, by rw [HK.out]; exact World.drewN_drewN _ _ _⟩
                  · have q3 : ((nm o1).toList == (nm o2).toList) = false := str_ne h3
                    have HF : Hid (r = false) := Lib.hid (by rw [← hI]; simp [h3])
                    clear hI h0 h1 h2 h3 ap ep
                    generalize nm t1 = x1 at *
                    generalize nm t2 = x2 at *
                    generalize nm o1 = x3 at *
                    generalize nm o2 = x4 at *
                    go_wp2_with fail
                    go_quiet (fail)
                    go_wp2
                    go_ret
                    rw [HF.out]
                    exact ⟨rfl, k + nq, by rw [HK.out]; exact World.drewN_drewN _ _ _⟩
                · have q2 : ((nm t1).toList == (nm t2).toList) = false := str_ne h2
                  have HF : Hid (r = false) := Lib.hid (by rw [← hI]; simp [h2])
                  clear hI h0 h1 h2 ap ep
                  generalize nm t1 = x1 at *
                  generalize nm t2 = x2 at *
                  go_wp2_with fail
                  go_quiet (fail)
                  go_wp2
                  go_ret
                  rw [HF.out]
                  exact ⟨rfl, k + nq, by rw [HK.out]; exact World.drewN_drewN _ _ _⟩
              · have q1 : (!(b1 == b2)) = true := by simpa using h1
                have HF : Hid (r = false) := Lib.hid (by rw [← hI]; simp [h1])
                clear hI h0 h1 ap ep
                go_wp2_with fail
                go_quiet (fail)
                go_wp2
                go_ret
                rw [HF.out]
                exact ⟨rfl, k + nq, by rw [HK.out]; exact World.drewN_drewN _ _ _⟩
            · have q0 : (k1 != k2) = true := by simpa using h0
              have HF : Hid (r = false) := Lib.hid (by rw [← hI]; simp [h0])
              clear hI h0 ap ep
              go_wp2_with fail
              go_quiet (fail)
              go_wp2
              go_ret
              rw [HF.out]
              exact ⟨rfl, k + nq, by rw [HK.out]; exact World.drewN_drewN _ _ _⟩
          · have HT : Hid (r = true) := Lib.hid (by rw [← HI0.out, List.drop_of_length_le (by omega), List.drop_of_length_le (by omega)]; simp [sameL])
            obtain rfl : i = l.length := by omega
            clear HI0
            go_wp2_with fail
            go_ret
            rw [HT.out]
            exact ⟨rfl, k, HK.out⟩
    · rw [sameL_len l m hlen]
      obtain ⟨A, c, rfl, hA⟩ := hv.shape
      obtain ⟨A', c', rfl, hB⟩ := hu.shape
      have q : ((l.length : Int) != (m.length : Int)) = true := by simp; omega
      clear hv hu
      go_enter Try.func15, Try.ntmps15
      go_wp2_with fail
      go_ret
      exact ⟨rfl, 0, rfl⟩

end Go.Proofs.Ytgajbehlggikdaa.Wd
