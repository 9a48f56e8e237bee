/- DERIVED. Plain mathematics of layer 8: commands with a newline and more behind them. -/
import Derived.Test.YtgajbehlggikdaaSyGa
namespace SyM
open PathM WdM
set_option linter.unusedVariables false

/-- With a newline and more behind it as it was, and less is left. -/
def XOk {α : Type} (f : Bs → Rs α) : Prop := ∀ l x r t, f l = .ok x r → f (l ++ 10 :: t) = .ok x (r ++ 10 :: t) ∧ r.length < l.length
/-- .. unless what is left is stuck. -/
def XW {α : Type} (f : Bs → Rs α) : Prop := ∀ l x r t, f l = .ok x r → (Stuck r ∨ f (l ++ 10 :: t) = .ok x (r ++ 10 :: t)) ∧ r.length < l.length
theorem ext_at {what l : Bs} (t : Bs) (hw : what ≠ []) (h10 : what ≠ [10]) (hs : ¬ Stuck l) : passL what (l ++ 10 :: t) = (passL what l).map (· ++ 10 :: t) := by
  cases hp : passL what l with
  | none => exact pass_none t h10 hs hp
  | some r => exact pass_ext t hw hp
theorem choice_ext {lists : Bs → Rs (List LiT)} {elif : Bs → Rs CmdT} (hX : XLists lists) (hE : XOk elif) : XOk (choiceL lists elif) := by
  intro l x r t h
  unfold choiceL at h ⊢
  cases h1 : listsTo lists thenK l with
  | bad a e => rw [h1] at h; cases h
  | ok c r1 =>
    obtain ⟨i1, i2⟩ := listsTo_ext hX t (by decide) h1
    rw [h1] at h
    rw [i1]
    simp only [] at h ⊢
    cases h2 : lists r1 with
    | bad a e => rw [h2] at h; cases h
    | ok b r2 =>
      obtain ⟨j1, j2⟩ := hX _ _ _ t h2
      rw [h2] at h
      simp only [] at h
      cases h3 : passL elseK r2 with
      | some r3 =>
        rw [h3] at h
        simp only [] at h
        rw [j1 (pass_free (by decide) h3)]
        simp only [pass_ext t (by decide) h3]
        have l3 := pass_less (by decide) h3
        cases h4 : listsTo lists fiK r3 with
        | bad a e => rw [h4] at h; cases h
        | ok o r4 =>
          obtain ⟨k1, k2⟩ := listsTo_ext hX t (by decide) h4
          rw [h4] at h
          rw [k1]
          injection h with e1 e2
          subst e1; subst e2
          exact ⟨rfl, by omega⟩
      | none =>
        rw [h3] at h
        simp only [] at h
        cases h4 : passL elifK r2 with
        | some r3 =>
          have hf := pass_free (by decide) h4
          rw [h4] at h
          simp only [] at h
          rw [j1 hf]
          simp only [pass_none t (by decide) hf.1 h3, pass_ext t (by decide) h4]
          have l3 := pass_less (by decide) h4
          cases h5 : elif r3 with
          | bad a e => rw [h5] at h; cases h
          | ok o r4 =>
            obtain ⟨k1, k2⟩ := hE _ _ _ t h5
            rw [h5] at h
            rw [k1]
            injection h with e1 e2
            subst e1; subst e2
            exact ⟨rfl, by omega⟩
        | none =>
          rw [h4] at h
          simp only [] at h
          cases h5 : needL fiK r2 with
          | bad a e => rw [h5] at h; cases h
          | ok u r4 =>
            have hf := need_free (r := r4) (by decide) h5
            have hn := need_ext t (r := r4) (by decide) h5
            have l3 := need_less (r := r4) (by decide) h5
            rw [h5] at h
            rw [j1 hf]
            simp only [pass_none t (by decide) hf.1 h3, pass_none t (by decide) hf.1 h4, hn]
            injection h with e1 e2
            subst e1; subst e2
            exact ⟨rfl, by omega⟩
theorem loop_ext {lists : Bs → Rs (List LiT)} (hX : XLists lists) (k : Int) : XOk (loopL lists k) := by
  intro l x r t h
  unfold loopL at h ⊢
  cases h1 : listsTo lists doK l with
  | bad a e => rw [h1] at h; cases h
  | ok c r1 =>
    obtain ⟨i1, i2⟩ := listsTo_ext hX t (by decide) h1
    rw [h1] at h
    rw [i1]
    simp only [] at h ⊢
    cases h2 : listsTo lists doneK r1 with
    | bad a e => rw [h2] at h; cases h
    | ok b r2 =>
      obtain ⟨j1, j2⟩ := listsTo_ext hX t (by decide) h2
      rw [h2] at h
      rw [j1]
      injection h with e1 e2
      subst e1; subst e2
      exact ⟨rfl, by omega⟩
theorem name_ext {l r : Bs} {nm : Bs} (t : Bs) (h : nameL l = .ok nm r) : nameL (l ++ 10 :: t) = .ok nm (r ++ 10 :: t) ∧ r.length < l.length ∧ Free l := by
  unfold nameL at h
  by_cases hn : isName (nextL l).1 = true
  · rw [if_pos hn] at h
    injection h with e1 e2
    have hne : nm ≠ [] := by
      rw [← e1]
      intro e
      rw [e] at hn
      cases hn
    have hp : passL nm l = some r := by unfold passL; rw [if_pos e1, e2]
    have hf := pass_free hne hp
    refine ⟨?_, pass_less hne hp, hf⟩
    unfold nameL
    rw [next_ext t hf.1 hf.2, if_pos hn]
    simp only [e1, e2]
  · rw [if_neg hn] at h; cases h
theorem wordStands_free {l : Bs} (h : wordStands l = false) : ¬ Stuck l := fun ⟨a, e, hs⟩ => by
  unfold wordStands at h
  cases hl : aheadL l with
  | nil => rw [hl, scan_nil] at hs; cases hs
  | cons c y =>
    rw [hl] at hs h
    rw [scan_meta (by simpa using h)] at hs
    cases hs
theorem word_free {sc : Bs → Option Int} {l r : Bs} {w : List PT} (h : wordL sc l = .ok w r) : ¬ Stuck l := fun ⟨a, e, hs⟩ => by
  unfold wordL at h
  split at h
  · rw [hs] at h
    simp only [] at h
    split at h <;> cases h
  · cases h
theorem words_ext {sc : Bs → Option Int} (t : Bs) : ∀ (n m : Nat) (acc ws : List (List PT)) (l r : Bs), l.length < n → l.length < m → wordsN sc n acc l = .ok ws r → wordsN sc m acc (l ++ 10 :: t) = .ok ws (r ++ 10 :: t) ∧ r.length ≤ l.length ∧ ¬ Stuck r
  | 0, m, acc, ws, l, r, hn, _, h => by omega
  | n + 1, 0, acc, ws, l, r, hn, hm, h => by omega
  | n + 1, m + 1, acc, ws, l, r, hn, hm, h => by
    rw [wordsN] at h
    rw [wordsN]
    cases hw : wordStands l with
    | false =>
      rw [hw] at h
      simp only [Bool.false_eq_true, if_false] at h
      have hs := wordStands_free hw
      injection h with h1 h2
      subst h1; subst h2
      rw [stands_word t hs, hw]
      exact ⟨rfl, Nat.le_refl _, hs⟩
    | true =>
      rw [hw] at h
      simp only [if_true] at h
      cases hr : wordL sc l with
      | bad a e => rw [hr] at h; cases h
      | ok w r1 =>
        have hl := word_less hr
        rw [hr] at h
        rw [stands_word t (word_free hr), hw, word_ext t hr]
        obtain ⟨i1, i2, i3⟩ := words_ext t n m (acc ++ [w]) ws r1 r (by omega) (by omega) h
        exact ⟨i1, by omega, i3⟩
theorem pats_ext {sc : Bs → Option Int} (t : Bs) : ∀ (n m : Nat) (acc ws : List (List PT)) (l r : Bs), l.length < n → l.length < m → patsN sc n acc l = .ok ws r → (¬ Stuck r → patsN sc m acc (l ++ 10 :: t) = .ok ws (r ++ 10 :: t)) ∧ r.length ≤ l.length
  | 0, m, acc, ws, l, r, hn, _, h => by omega
  | n + 1, 0, acc, ws, l, r, hn, hm, h => by omega
  | n + 1, m + 1, acc, ws, l, r, hn, hm, h => by
    rw [patsN] at h
    rw [patsN]
    cases hp : passL [124] l with
    | none =>
      rw [hp] at h
      injection h with h1 h2
      subst h1; subst h2
      refine ⟨fun hs => ?_, Nat.le_refl _⟩
      rw [pass_none t (by decide) hs hp]
    | some r1 =>
      have hl := pass_less (by decide) hp
      rw [hp] at h
      simp only [] at h
      rw [pass_ext t (by decide) hp]
      cases hr : wordL sc r1 with
      | bad a e => rw [hr] at h; cases h
      | ok w r2 =>
        have hl2 := word_less hr
        rw [hr] at h
        simp only [word_ext t hr]
        obtain ⟨i1, i2⟩ := pats_ext t n m (acc ++ [w]) ws r2 r (by omega) (by omega) h
        exact ⟨i1, by omega⟩
end SyM

/- DERIVED. Plain mathematics of layer 8: for, case, what a sign or a key word begins, functions with a newline and more behind them. -/
namespace SyM
open PathM WdM
set_option linter.unusedVariables false

theorem listsEnd_ext {l : Bs} (t : Bs) (h : Free l) : listsEnd (l ++ 10 :: t) = listsEnd l := by
  unfold listsEnd overL
  rw [next_ext t h.1 h.2, ahead_go t h.1]
  cases hl : aheadL l with
  | nil => exact absurd hl h.2
  | cons c x => rfl
theorem get_pass {what l r : Bs} (t : Bs) (hw : what ≠ []) (h10 : what ≠ [10]) (hs : ¬ Stuck l) (h : (passL what l).getD l = r) : (passL what (l ++ 10 :: t)).getD (l ++ 10 :: t) = r ++ 10 :: t := by
  rw [ext_at t hw h10 hs]
  cases hp : passL what l with
  | none => rw [hp] at h; rw [← h]; rfl
  | some r1 => rw [hp] at h; rw [← h]; rfl
theorem get_less {what l : Bs} (hw : what ≠ []) : ((passL what l).getD l).length ≤ l.length := by
  cases hp : passL what l with
  | none => exact Nat.le_refl _
  | some r => have := pass_less hw hp; show r.length ≤ _; omega
/-- Ahead of what isn't stuck nothing was, if a sign was passed over or not. -/
theorem get_free {what l : Bs} (hw : what ≠ []) (h : ¬ Stuck ((passL what l).getD l)) : ¬ Stuck l := by
  cases hp : passL what l with
  | none => rw [hp] at h; exact h
  | some r => exact (pass_free hw hp).1
theorem each_ext {lists : Bs → Rs (List LiT)} {sc : Bs → Option Int} (hX : XLists lists) : XOk (eachL lists sc) := by
  intro l x r t h
  unfold eachL at h ⊢
  cases h1 : nameL l with
  | bad a e => rw [h1] at h; cases h
  | ok nm r1 =>
    obtain ⟨i1, i2, _⟩ := name_ext t h1
    rw [h1] at h
    rw [i1]
    simp only [] at h ⊢
    cases h2 : inWords sc r1 with
    | bad a e => rw [h2] at h; cases h
    | ok ws r3 =>
      rw [h2] at h
      simp only [] at h
      cases h3 : needL doK (newlinesL ((passL [59] r3).getD r3)) with
      | bad a e => rw [h3] at h; cases h
      | ok u r4 =>
        have f1 := need_free (r := r4) (by decide) h3
        have n1 := need_ext t (r := r4) (by decide) h3
        have l1 := need_less (r := r4) (by decide) h3
        have f2 := newlines_free f1
        have f3 : Free r3 := by
          cases hp : passL [59] r3 with
          | none => rw [hp] at f2; exact f2
          | some r5 => exact pass_free (by decide) hp
        have l2 := newlines_le ((passL [59] r3).getD r3)
        have l3 := get_less (what := [59]) (l := r3) (by decide)
        have l4 := newlines_le r1
        rw [h3] at h
        simp only [] at h
        have hw : inWords sc (r1 ++ 10 :: t) = .ok ws (r3 ++ 10 :: t) ∧ r3.length ≤ r1.length := by
          unfold inWords at h2 ⊢
          cases hp : passL inK (newlinesL r1) with
          | some r2 =>
            have ff := pass_free (by decide) hp
            have ll := pass_less (by decide) hp
            rw [hp] at h2
            simp only [] at h2
            obtain ⟨j1, j2, j3⟩ := words_ext t (r2.length + 1) ((r2 ++ 10 :: t).length + 1) [] ws r2 r3 (by omega) (by simp; omega) h2
            rw [newlines_ext t ff, pass_ext t (by decide) hp]
            exact ⟨j1, by omega⟩
          | none =>
            rw [hp] at h2
            injection h2 with e1 e2
            subst e1
            have ff : Free (newlinesL r1) := by rw [e2]; exact f3
            rw [newlines_ext t ff, pass_none t (by decide) ff.1 hp]
            exact ⟨by rw [e2], by rw [← e2]; omega⟩
        rw [hw.1]
        simp only []
        rw [get_pass t (by decide) (by decide) f3.1 rfl, newlines_ext t f1, n1]
        simp only []
        cases h5 : listsTo lists doneK r4 with
        | bad a e => rw [h5] at h; cases h
        | ok b r5 =>
          obtain ⟨k1, k2⟩ := listsTo_ext hX t (by decide) h5
          rw [h5] at h
          rw [k1]
          injection h with e1 e2
          subst e1; subst e2
          have := hw.2
          exact ⟨rfl, by omega⟩
theorem branch_ext {lists : Bs → Rs (List LiT)} {sc : Bs → Option Int} (hX : XLists lists) (hF : ∀ l x r, lists l = .ok x r → Free l) {l r : Bs} {x : CsT} (t : Bs) (h : branchL lists sc l = .ok x r) : (Free r → branchL lists sc (l ++ 10 :: t) = .ok x (r ++ 10 :: t)) ∧ r.length < l.length ∧ ¬ Stuck l := by
  unfold branchL at h ⊢
  cases h1 : wordL sc ((passL [40] l).getD l) with
  | bad a e => rw [h1] at h; cases h
  | ok w r1 =>
    have l1 := word_less h1
    have l0 := get_less (what := [40]) (l := l) (by decide)
    have hsl := get_free (by decide) (word_free h1)
    rw [h1] at h
    rw [get_pass t (by decide) (by decide) hsl rfl, word_ext t h1]
    simp only [] at h ⊢
    cases h2 : patsN sc (r1.length + 1) [w] r1 with
    | bad a e => rw [h2] at h; cases h
    | ok ps r2 =>
      obtain ⟨i1, i2⟩ := pats_ext t (r1.length + 1) ((r1 ++ 10 :: t).length + 1) [w] ps r1 r2 (by omega) (by simp; omega) h2
      rw [h2] at h
      simp only [] at h
      cases h3 : needL [41] r2 with
      | bad a e => rw [h3] at h; cases h
      | ok u r3 =>
        have f1 := need_free (r := r3) (by decide) h3
        have n1 := need_ext t (r := r3) (by decide) h3
        have l3 := need_less (r := r3) (by decide) h3
        have l4 := newlines_le r3
        rw [h3] at h
        rw [i1 f1.1]
        simp only [n1] at h ⊢
        by_cases hle : listsEnd (newlinesL r3) = true
        · rw [if_pos hle] at h
          injection h with e1 e2
          subst e1; subst e2
          refine ⟨fun hf => ?_, by omega, hsl⟩
          rw [newlines_ext t hf, listsEnd_ext t hf, if_pos hle]
        · rw [if_neg hle] at h
          cases h4 : lists (newlinesL r3) with
          | bad a e => rw [h4] at h; cases h
          | ok b r4 =>
            obtain ⟨j1, j2⟩ := hX _ _ _ t h4
            have hf := hF _ _ _ h4
            rw [h4] at h
            injection h with e1 e2
            subst e1; subst e2
            refine ⟨fun hf2 => ?_, by omega, hsl⟩
            rw [newlines_ext t hf, listsEnd_ext t hf, if_neg hle, j1 hf2]
end SyM

/- DERIVED. Plain mathematics of layer 8: case, compound commands, functions, pipes, lists with a newline and more behind them. -/
namespace SyM
open PathM WdM
set_option linter.unusedVariables false

/-- Lists begin at something that is read. -/
def FLists (lists : Bs → Rs (List LiT)) : Prop := ∀ l x r, lists l = .ok x r → Free l
theorem branches_ext {lists : Bs → Rs (List LiT)} {sc : Bs → Option Int} (hX : XLists lists) (hF : FLists lists) (t : Bs) : ∀ (n m : Nat) (acc cs : List CsT) (l r : Bs), l.length < n → l.length < m → branchesN lists sc n acc l = .ok cs r → branchesN lists sc m acc (l ++ 10 :: t) = .ok cs (r ++ 10 :: t) ∧ r.length < l.length ∧ ¬ Stuck l ∧ Free l
  | 0, m, acc, cs, l, r, hn, _, h => by omega
  | n + 1, 0, acc, cs, l, r, hn, hm, h => by omega
  | n + 1, m + 1, acc, cs, l, r, hn, hm, h => by
    rw [branchesN] at h
    rw [branchesN]
    cases hp : passL esacK l with
    | some r1 =>
      have hl := pass_less (by decide) hp
      have hf := pass_free (by decide) hp
      rw [hp] at h
      rw [pass_ext t (by decide) hp]
      injection h with e1 e2
      subst e1; subst e2
      exact ⟨rfl, hl, hf.1, hf⟩
    | none =>
      rw [hp] at h
      simp only [] at h
      cases hb : branchL lists sc l with
      | bad a e => rw [hb] at h; cases h
      | ok x r1 =>
        obtain ⟨i1, i2, i3⟩ := branch_ext hX hF t hb
        have hfl : Free l := by
          refine ⟨i3, fun h0 => ?_⟩
          unfold branchL at hb
          have hpn : passL [40] l = none := pass_closed (by decide) (fun hf => hf.2 h0)
          rw [hpn] at hb
          have hw : wordL sc l = refuse l := by
            unfold wordL wordStands
            rw [h0]
            rfl
          simp only [Option.getD_none] at hb
          rw [hw] at hb
          cases hb
        rw [hb] at h
        simp only [] at h
        rw [pass_none t (by decide) i3 hp]
        simp only []
        cases h2 : passL [59, 59] r1 with
        | some r2 =>
          have hf := pass_free (by decide) h2
          have hl := pass_less (by decide) h2
          rw [h2] at h
          simp only [] at h
          rw [i1 hf]
          simp only [pass_ext t (by decide) h2]
          have l4 := newlines_le r2
          obtain ⟨j1, j2, _, j3⟩ := branches_ext hX hF t n m (acc ++ [x]) cs (newlinesL r2) r (by omega) (by omega) h
          rw [newlines_ext t j3]
          exact ⟨j1, by omega, i3, hfl⟩
        | none =>
          rw [h2] at h
          simp only [] at h
          cases h3 : needL esacK r1 with
          | bad a e => rw [h3] at h; cases h
          | ok u r2 =>
            have hf := need_free (r := r2) (by decide) h3
            have n1 := need_ext t (r := r2) (by decide) h3
            have l3 := need_less (r := r2) (by decide) h3
            rw [h3] at h
            rw [i1 hf]
            simp only [pass_none t (by decide) hf.1 h2, n1]
            injection h with e1 e2
            subst e1; subst e2
            exact ⟨rfl, by omega, i3, hfl⟩
theorem case_ext {lists : Bs → Rs (List LiT)} {sc : Bs → Option Int} (hX : XLists lists) (hF : FLists lists) : XOk (caseL lists sc) := by
  intro l x r t h
  unfold caseL at h ⊢
  cases h1 : wordL sc l with
  | bad a e => rw [h1] at h; cases h
  | ok w r1 =>
    have l1 := word_less h1
    rw [h1] at h
    rw [word_ext t h1]
    simp only [] at h ⊢
    cases h2 : needL inK (newlinesL r1) with
    | bad a e => rw [h2] at h; cases h
    | ok u r2 =>
      have f1 := need_free (r := r2) (by decide) h2
      have n1 := need_ext t (r := r2) (by decide) h2
      have l2 := need_less (r := r2) (by decide) h2
      have l3 := newlines_le r1
      have l4 := newlines_le r2
      rw [h2] at h
      rw [newlines_ext t f1]
      simp only [n1] at h ⊢
      cases h3 : branchesN lists sc (r2.length + 1) [] (newlinesL r2) with
      | bad a e => rw [h3] at h; cases h
      | ok cs r3 =>
        have hfl : Free (newlinesL r2) := by
          obtain ⟨_, _, _, h4⟩ := branches_ext hX hF t (r2.length + 1) ((newlinesL r2).length + 1) [] cs (newlinesL r2) r3 (by omega) (by omega) h3
          exact h4
        obtain ⟨i1, i2, _, _⟩ := branches_ext hX hF t (r2.length + 1) ((r2 ++ 10 :: t).length + 1) [] cs (newlinesL r2) r3 (by omega) (by simp; omega) h3
        rw [h3] at h
        rw [newlines_ext t hfl, i1]
        injection h with e1 e2
        subst e1; subst e2
        exact ⟨rfl, by omega⟩
/-- What a sign or a key word begins, by its first word. -/
def headL (lists : Bs → Rs (List LiT)) (choice : Bs → Rs CmdT) (sc : Bs → Option Int) (k r : Bs) : Option (Rs CmdT) :=
  if k = [40] then some (match listsTo lists [41] r with
    | .bad a e => .bad a e
    | .ok b r2 => .ok (.mk 3 [] [] [] [] b [] [] []) r2)
  else if k = [123] then some (match listsTo lists [125] r with
    | .bad a e => .bad a e
    | .ok b r2 => .ok (.mk 2 [] [] [] [] b [] [] []) r2)
  else if k = [105, 102] then some (choice r)
  else if k = [119, 104, 105, 108, 101] then some (loopL lists 5 r)
  else if k = [117, 110, 116, 105, 108] then some (loopL lists 6 r)
  else if k = [102, 111, 114] then some (eachL lists sc r)
  else if k = [99, 97, 115, 101] then some (caseL lists sc r)
  else none
theorem head_ext {lists : Bs → Rs (List LiT)} {choice : Bs → Rs CmdT} {sc : Bs → Option Int} (hX : XLists lists) (hF : FLists lists) (hC : XOk choice) (t k r : Bs) : (∀ c r2, headL lists choice sc k r = some (.ok c r2) → headL lists choice sc k (r ++ 10 :: t) = some (.ok c (r2 ++ 10 :: t)) ∧ r2.length < r.length ∧ k ≠ []) ∧ (headL lists choice sc k r = none → ∀ r', headL lists choice sc k r' = none) := by
  unfold headL
  have lt : ∀ (w : Bs) (f : List LiT → CmdT) (c : CmdT) (r2 : Bs), w ≠ [] → some (match listsTo lists w r with
      | .bad a e => Rs.bad a e
      | .ok b r2 => .ok (f b) r2) = some (.ok c r2) → some (match listsTo lists w (r ++ 10 :: t) with
      | .bad a e => Rs.bad a e
      | .ok b r2 => .ok (f b) r2) = some (.ok c (r2 ++ 10 :: t)) ∧ r2.length < r.length := fun w f c r2 hw h => by
    injection h with h
    cases h1 : listsTo lists w r with
    | bad a e => rw [h1] at h; cases h
    | ok b r3 =>
      obtain ⟨i1, i2⟩ := listsTo_ext hX t hw h1
      rw [h1] at h
      rw [i1]
      injection h with e1 e2
      subst e1; subst e2
      exact ⟨rfl, i2⟩
  have xo : ∀ (f : Bs → Rs CmdT) (c : CmdT) (r2 : Bs), XOk f → some (f r) = some (.ok c r2) → some (f (r ++ 10 :: t)) = some (.ok c (r2 ++ 10 :: t)) ∧ r2.length < r.length := fun f c r2 hf h => by
    injection h with h
    obtain ⟨i1, i2⟩ := hf r c r2 t h
    exact ⟨by rw [i1], i2⟩
  by_cases k1 : k = [40]
  · simp only [if_pos k1]
    exact ⟨fun c r2 h => by obtain ⟨a, b⟩ := lt [41] (fun b => .mk 3 [] [] [] [] b [] [] []) c r2 (by decide) h; exact ⟨a, b, by rw [k1]; decide⟩, fun h => by cases h⟩
  by_cases k2 : k = [123]
  · simp only [if_neg k1, if_pos k2]
    exact ⟨fun c r2 h => by obtain ⟨a, b⟩ := lt [125] (fun b => .mk 2 [] [] [] [] b [] [] []) c r2 (by decide) h; exact ⟨a, b, by rw [k2]; decide⟩, fun h => by cases h⟩
  by_cases k3 : k = [105, 102]
  · simp only [if_neg k1, if_neg k2, if_pos k3]
    exact ⟨fun c r2 h => by obtain ⟨a, b⟩ := xo choice c r2 hC h; exact ⟨a, b, by rw [k3]; decide⟩, fun h => by cases h⟩
  by_cases k4 : k = [119, 104, 105, 108, 101]
  · simp only [if_neg k1, if_neg k2, if_neg k3, if_pos k4]
    exact ⟨fun c r2 h => by obtain ⟨a, b⟩ := xo _ c r2 (loop_ext hX 5) h; exact ⟨a, b, by rw [k4]; decide⟩, fun h => by cases h⟩
  by_cases k5 : k = [117, 110, 116, 105, 108]
  · simp only [if_neg k1, if_neg k2, if_neg k3, if_neg k4, if_pos k5]
    exact ⟨fun c r2 h => by obtain ⟨a, b⟩ := xo _ c r2 (loop_ext hX 6) h; exact ⟨a, b, by rw [k5]; decide⟩, fun h => by cases h⟩
  by_cases k6 : k = [102, 111, 114]
  · simp only [if_neg k1, if_neg k2, if_neg k3, if_neg k4, if_neg k5, if_pos k6]
    exact ⟨fun c r2 h => by obtain ⟨a, b⟩ := xo _ c r2 (each_ext hX) h; exact ⟨a, b, by rw [k6]; decide⟩, fun h => by cases h⟩
  by_cases k7 : k = [99, 97, 115, 101]
  · simp only [if_neg k1, if_neg k2, if_neg k3, if_neg k4, if_neg k5, if_neg k6, if_pos k7]
    exact ⟨fun c r2 h => by obtain ⟨a, b⟩ := xo _ c r2 (case_ext hX hF) h; exact ⟨a, b, by rw [k7]; decide⟩, fun h => by cases h⟩
  · simp only [if_neg k1, if_neg k2, if_neg k3, if_neg k4, if_neg k5, if_neg k6, if_neg k7]
    exact ⟨fun c r2 h => (by cases h), fun _ _ => trivial⟩
end SyM

/- DERIVED. Plain mathematics of layer 8: compound commands, functions with a newline and more behind them. -/
namespace SyM
open PathM WdM
set_option linter.unusedVariables false

theorem next_free {l : Bs} (h : (nextL l).1 ≠ []) : Free l := pass_free (what := (nextL l).1) (r := (nextL l).2) h (by unfold passL; rw [if_pos rfl])
theorem compound_is (lists : Bs → Rs (List LiT)) (choice : Bs → Rs CmdT) (sc : Bs → Option Int) (l : Bs) : compoundL lists choice sc l = match headL lists choice sc (nextL l).1 (nextL l).2 with
    | none => .ok none l
    | some (.bad a e) => .bad a e
    | some (.ok c r2) => match redirsN sc (r2.length + 1) [] r2 with
      | .bad a e => .bad a e
      | .ok rs r3 => .ok (some (c.withR rs)) r3 := rfl
theorem compound_some {lists : Bs → Rs (List LiT)} {choice : Bs → Rs CmdT} {sc : Bs → Option Int} (hX : XLists lists) (hF : FLists lists) (hC : XOk choice) {l r : Bs} {c : CmdT} (t : Bs) (h : compoundL lists choice sc l = .ok (some c) r) : (Stuck r ∨ compoundL lists choice sc (l ++ 10 :: t) = .ok (some c) (r ++ 10 :: t)) ∧ r.length < l.length ∧ Free l := by
  rw [compound_is] at h
  cases hh : headL lists choice sc (nextL l).1 (nextL l).2 with
  | none => rw [hh] at h; injection h with h1; cases h1
  | some y =>
    rw [hh] at h
    cases y with
    | bad a e => cases h
    | ok c1 r2 =>
      obtain ⟨i1, i2, i3⟩ := (head_ext hX hF hC t (nextL l).1 (nextL l).2).1 c1 r2 hh
      have hf := next_free i3
      have hl := next_le l
      simp only [] at h
      cases hr : redirsN sc (r2.length + 1) [] r2 with
      | bad a e => rw [hr] at h; cases h
      | ok rs r3 =>
        obtain ⟨j1, j2, j3⟩ := redirs_ext (sc := sc) t (r2.length + 1) ((r2 ++ 10 :: t).length + 1) [] rs r2 r3 (by omega) (by simp only [List.length_append, List.length_cons]; omega) hr
        rw [hr] at h
        injection h with h1 h2
        injection h1 with h1
        subst h1; subst h2
        refine ⟨j1.imp id fun j => ?_, by omega, hf⟩
        rw [compound_is, next_ext t hf.1 hf.2]
        simp only []
        rw [i1]
        simp only []
        rw [j]
theorem compound_none {lists : Bs → Rs (List LiT)} {choice : Bs → Rs CmdT} {sc : Bs → Option Int} (hX : XLists lists) (hF : FLists lists) (hC : XOk choice) {l r : Bs} (t : Bs) (h : compoundL lists choice sc l = .ok none r) : r = l ∧ (¬ Stuck l → compoundL lists choice sc (l ++ 10 :: t) = .ok none (l ++ 10 :: t)) := by
  rw [compound_is] at h
  cases hh : headL lists choice sc (nextL l).1 (nextL l).2 with
  | some y =>
    rw [hh] at h
    cases y with
    | bad a e => cases h
    | ok c1 r2 =>
      simp only [] at h
      cases hr : redirsN sc (r2.length + 1) [] r2 with
      | bad a e => rw [hr] at h; cases h
      | ok rs r3 => rw [hr] at h; injection h with h1; cases h1
  | none =>
    rw [hh] at h
    injection h with _ h2
    refine ⟨h2.symm, fun hs => ?_⟩
    rw [compound_is]
    by_cases h0 : aheadL l = []
    · have e : nextL (l ++ 10 :: t) = ([10], t) := by
        have ha := ahead_go t hs
        rw [h0] at ha
        have hb := next_nl t
        unfold nextL at hb ⊢
        rw [ha]
        rw [show aheadL (10 :: t) = 10 :: t from ahead_nl t] at hb
        exact hb
      rw [e]
      rfl
    · rw [next_ext t hs h0]
      simp only []
      rw [(head_ext hX hF hC t (nextL l).1 (nextL l).2).2 hh]
theorem function_ext {body : Bs → Rs (Option CmdT)} (hB : ∀ l c r t, body l = .ok (some c) r → (Stuck r ∨ body (l ++ 10 :: t) = .ok (some c) (r ++ 10 :: t)) ∧ r.length < l.length ∧ Free l) {l r : Bs} {c : CmdT} (t : Bs) (h : functionL body l = .ok c r) : (Stuck r ∨ functionL body (l ++ 10 :: t) = .ok c (r ++ 10 :: t)) ∧ r.length < l.length ∧ Free l := by
  unfold functionL at h ⊢
  cases h1 : nameL l with
  | bad a e => rw [h1] at h; cases h
  | ok nm r1 =>
    obtain ⟨i1, i2, i3⟩ := name_ext t h1
    rw [h1] at h
    rw [i1]
    simp only [] at h ⊢
    cases h2 : needL [40] r1 with
    | bad a e => rw [h2] at h; cases h
    | ok u r2 =>
      have n2 := need_ext t (r := r2) (by decide) h2
      have l2 := need_less (r := r2) (by decide) h2
      rw [h2] at h
      rw [n2]
      simp only [] at h ⊢
      cases h3 : needL [41] r2 with
      | bad a e => rw [h3] at h; cases h
      | ok u r3 =>
        have n3 := need_ext t (r := r3) (by decide) h3
        have l3 := need_less (r := r3) (by decide) h3
        have l4 := newlines_le r3
        rw [h3] at h
        rw [n3]
        simp only [] at h ⊢
        cases h4 : body (newlinesL r3) with
        | bad a e => rw [h4] at h; cases h
        | ok y r4 =>
          rw [h4] at h
          cases y with
          | none => simp only [refuse] at h; cases h
          | some c1 =>
            obtain ⟨j1, j2, j3⟩ := hB _ c1 r4 t h4
            injection h with e1 e2
            subst e1; subst e2
            refine ⟨j1.imp id fun j => ?_, by omega, i3⟩
            rw [newlines_ext t j3, j]
end SyM

/- DERIVED. Plain mathematics of layer 8: commands, pipes with a newline and more behind them. -/
namespace SyM
open PathM WdM
set_option linter.unusedVariables false

def CSome (f : Bs → Rs (Option CmdT)) : Prop := ∀ l c r t, f l = .ok (some c) r → (Stuck r ∨ f (l ++ 10 :: t) = .ok (some c) (r ++ 10 :: t)) ∧ r.length < l.length ∧ Free l
def CNone (f : Bs → Rs (Option CmdT)) : Prop := ∀ l r t, f l = .ok none r → ¬ Stuck l → f (l ++ 10 :: t) = .ok none (l ++ 10 :: t)
/-- What may be followed by a newline and more, or is stuck. -/
def XC {α : Type} (f : Bs → Rs α) : Prop := ∀ l c r t, f l = .ok c r → (Stuck r ∨ f (l ++ 10 :: t) = .ok c (r ++ 10 :: t)) ∧ r.length < l.length ∧ Free l
theorem simple_ext (sc : Bs → Option Int) : XC (simpleL sc) := by
  intro l c r t h
  unfold simpleL at h
  by_cases hg : endingL (nextL l).1 = true ∨ ((arrowL l).isNone = true ∧ wordStands l = false)
  · rw [if_pos hg] at h; cases h
  rw [if_neg hg] at h
  have hF : Free l := by
    refine ⟨?_, fun h0 => hg (Or.inr ⟨by unfold arrowL; rw [h0]; rfl, by unfold wordStands; rw [h0]⟩)⟩
    rw [simpleN] at h
    cases ha : arrowL l with
    | some y => exact arrow_free ha
    | none =>
      rw [ha] at h
      simp only [Option.isSome_none, Bool.false_eq_true, if_false] at h
      cases hw : wordStands l with
      | false => exact wordStands_free hw
      | true =>
        rw [hw] at h
        simp only [if_true] at h
        cases hr : wordL sc l with
        | bad a e => rw [hr] at h; cases h
        | ok w r1 => exact word_free hr
  obtain ⟨i1, i2, i3⟩ := simpleN_ext t (l.length + 1) ((l ++ 10 :: t).length + 1) [] [] [] l r c (by omega) (by simp only [List.length_append, List.length_cons]; omega) h
  have hlt : r.length < l.length := by
    rw [simpleN] at h
    cases ha : arrowL l with
    | some y =>
      rw [ha] at h
      simp only [Option.isSome_some, if_true] at h
      cases hr : redirL sc l with
      | bad a e => rw [hr] at h; cases h
      | ok z r1 =>
        rw [hr] at h
        obtain ⟨h1, h2⟩ := redir_ext t hr (by rw [ha]; rfl)
        obtain ⟨_, j, _⟩ := simpleN_ext t l.length (r1.length + 1) _ _ _ r1 r c (by omega) (by omega) h
        omega
    | none =>
      rw [ha] at h
      simp only [Option.isSome_none, Bool.false_eq_true, if_false] at h
      cases hw : wordStands l with
      | false => exact absurd (Or.inr ⟨by rw [ha]; rfl, hw⟩) hg
      | true =>
        rw [hw] at h
        simp only [if_true] at h
        cases hr : wordL sc l with
        | bad a e => rw [hr] at h; cases h
        | ok w r1 =>
          have hl := word_less hr
          rw [hr] at h
          simp only [] at h
          cases hz : assignL w with
          | none =>
            rw [hz] at h
            obtain ⟨_, j, _⟩ := simpleN_ext t l.length (r1.length + 1) _ _ _ r1 r c (by omega) (by omega) h
            omega
          | some z =>
            rw [hz] at h
            simp only [] at h
            obtain ⟨_, j, _⟩ := simpleN_ext t l.length (r1.length + 1) _ _ _ r1 r c (by omega) (by omega) h
            omega
  refine ⟨Or.inr ?_, hlt, hF⟩
  unfold simpleL
  rw [next_ext t hF.1 hF.2]
  have e1 : (arrowL (l ++ 10 :: t)).isNone = (arrowL l).isNone := by
    rw [arrow_ext t hF.1]; cases arrowL l <;> rfl
  rw [e1, stands_word t hF.1]
  simp only []
  rw [if_neg hg]
  exact i1
theorem stands_ext (c : UInt8) (hc : c ≠ 10) (t : Bs) (r : Bs) : stands [c] (r ++ 10 :: t) = stands [c] r := by
  cases r with
  | nil =>
    show ((c == 10) && List.isPrefixOf [] t) = false
    rw [beq_false_of_ne hc]; rfl
  | cons d r =>
    show ((c == d) && List.isPrefixOf [] (r ++ 10 :: t)) = ((c == d) && List.isPrefixOf [] r)
    rfl
theorem command_ext {v : Lv} (hS : CSome v.compound) (hN : CNone v.compound) (hB : CSome v.body) : XC (commandL v) := by
  intro l c r t h
  unfold commandL at h ⊢
  cases h1 : v.compound l with
  | bad a e => rw [h1] at h; cases h
  | ok y r1 =>
    rw [h1] at h
    cases y with
    | some c1 =>
      injection h with e1 e2
      subst e1; subst e2
      obtain ⟨i1, i2, i3⟩ := hS l c1 r1 t h1
      exact ⟨i1.imp id fun i => by rw [i], i2, i3⟩
    | none =>
      simp only [] at h
      by_cases hq : isName (nextL l).1 = true ∧ stands [40] (nextL l).2 = true
      · rw [if_pos hq] at h
        obtain ⟨i1, i2, i3⟩ := function_ext hB t h
        refine ⟨i1.imp id fun i => ?_, i2, i3⟩
        rw [hN l r1 t h1 i3.1]
        simp only []
        rw [next_ext t i3.1 i3.2]
        simp only []
        rw [stands_ext 40 (by decide), if_pos hq]
        exact i
      · rw [if_neg hq] at h
        obtain ⟨i1, i2, i3⟩ := simple_ext v.sc l c r t h
        refine ⟨i1.imp id fun i => ?_, i2, i3⟩
        rw [hN l r1 t h1 i3.1]
        simp only []
        rw [next_ext t i3.1 i3.2]
        simp only []
        rw [stands_ext 40 (by decide), if_neg hq]
        exact i
theorem commandsN_stuck (v : Lv) : ∀ (n : Nat) (acc : List CmdT) (l : Bs), ¬ Free l → commandsN v n acc l = .ok acc l
  | 0, acc, l, h => rfl
  | n + 1, acc, l, h => by rw [commandsN, pass_closed (by decide) h]
theorem commandsN_ext {v : Lv} (hC : XC (commandL v)) (t : Bs) : ∀ (n m : Nat) (acc cs : List CmdT) (l r : Bs), l.length < n → l.length < m → commandsN v n acc l = .ok cs r → (Stuck r ∨ commandsN v m acc (l ++ 10 :: t) = .ok cs (r ++ 10 :: t)) ∧ r.length ≤ l.length
  | 0, m, acc, cs, l, r, hn, _, h => by omega
  | n + 1, 0, acc, cs, l, r, hn, hm, h => by omega
  | n + 1, m + 1, acc, cs, l, r, hn, hm, h => by
    rw [commandsN] at h
    rw [commandsN]
    cases hp : passL [124] l with
    | none =>
      rw [hp] at h
      injection h with e1 e2
      subst e1; subst e2
      refine ⟨?_, Nat.le_refl _⟩
      by_cases hs : Stuck l
      · exact Or.inl hs
      · right
        rw [pass_none t (by decide) hs hp]
    | some r1 =>
      rw [hp] at h
      have hl := pass_less (by decide) hp
      have hl2 := newlines_le r1
      rw [pass_ext t (by decide) hp]
      simp only [] at h ⊢
      cases h1 : commandL v (newlinesL r1) with
      | bad a e => rw [h1] at h; cases h
      | ok c r2 =>
        obtain ⟨i1, i2, i3⟩ := hC _ c r2 t h1
        rw [h1] at h
        simp only [] at h
        by_cases hs : Stuck r2
        · rw [commandsN_stuck v n _ r2 (fun x => x.1 hs)] at h
          injection h with e1 e2
          subst e2
          exact ⟨Or.inl hs, by omega⟩
        · have i := i1.resolve_left hs
          rw [newlines_ext t i3, i]
          simp only []
          obtain ⟨j1, j2⟩ := commandsN_ext hC t n m (acc ++ [c]) cs r2 r (by omega) (by omega) h
          exact ⟨j1, by omega⟩
theorem pipe_ext {v : Lv} (hC : XC (commandL v)) : XC (pipeL v) := by
  intro l p r t h
  unfold pipeL at h ⊢
  cases h1 : commandL v ((passL [33] l).getD l) with
  | bad a e => rw [h1] at h; cases h
  | ok c r1 =>
    obtain ⟨i1, i2, i3⟩ := hC _ c r1 t h1
    have hs := get_free (by decide) i3.1
    have hf : Free l := by
      cases hp : passL [33] l with
      | some x => exact pass_free (by decide) hp
      | none => rw [hp] at i3; exact i3
    have hl := get_less (what := [33]) (l := l) (by decide)
    rw [h1] at h
    simp only [] at h
    rw [get_pass t (by decide) (by decide) hs rfl]
    have e3 : (passL [33] (l ++ 10 :: t)).isSome = (passL [33] l).isSome := by
      rw [ext_at t (by decide) (by decide) hs]; cases passL [33] l <;> rfl
    rw [e3]
    cases h2 : commandsN v (r1.length + 1) [c] r1 with
    | bad a e => rw [h2] at h; cases h
    | ok cs r2 =>
      rw [h2] at h
      injection h with e1 e2
      subst e1; subst e2
      by_cases hs1 : Stuck r1
      · rw [commandsN_stuck v _ _ r1 (fun x => x.1 hs1)] at h2
        injection h2 with e1 e2
        subst e2
        exact ⟨Or.inl hs1, by omega, hf⟩
      · obtain ⟨j1, j2⟩ := commandsN_ext hC t (r1.length + 1) ((r1 ++ 10 :: t).length + 1) [c] cs r1 r2 (by omega) (by simp only [List.length_append, List.length_cons]; omega) h2
        refine ⟨j1.imp id fun j => ?_, by omega, hf⟩
        rw [i1.resolve_left hs1]
        simp only []
        rw [j]
end SyM

/- DERIVED. Plain mathematics of layer 8: lists with a newline and more behind them, at every level. -/
namespace SyM
open PathM WdM
set_option linter.unusedVariables false

/-- The next sign with a newline and more behind it, at the end too. -/
theorem next_at {l : Bs} (t : Bs) (h : ¬ Stuck l) : nextL (l ++ 10 :: t) = ((nextL l).1, (nextL l).2 ++ 10 :: t) ∨ (nextL (l ++ 10 :: t) = ([10], t) ∧ nextL l = ([], [])) := by
  by_cases h0 : aheadL l = []
  · right
    refine ⟨?_, next_end h0⟩
    have ha := ahead_go t h
    rw [h0] at ha
    have hb := next_nl t
    unfold nextL at hb ⊢
    rw [ha]
    rw [show aheadL (10 :: t) = 10 :: t from ahead_nl t] at hb
    exact hb
  · exact Or.inl (next_ext t h h0)
theorem joins_closed {l : Bs} (h : ¬ Free l) : ¬ ((nextL l).1 = [38, 38] ∨ (nextL l).1 = [124, 124]) := fun hx => by
  rcases hx with hx | hx <;> exact h (next_free (by rw [hx]; decide))
theorem pipesN_stuck (v : Lv) : ∀ (n : Nat) (ps : List PiT) (os : List Bs) (l : Bs), ¬ Free l → pipesN v n ps os l = .ok (.mk ps os) l
  | 0, ps, os, l, h => rfl
  | n + 1, ps, os, l, h => by rw [pipesN, if_neg (joins_closed h)]
theorem pipesN_ext {v : Lv} (hC : XC (commandL v)) (t : Bs) : ∀ (n m : Nat) (ps : List PiT) (os : List Bs) (x : LiT) (l r : Bs), l.length < n → l.length < m → pipesN v n ps os l = .ok x r → (Stuck r ∨ pipesN v m ps os (l ++ 10 :: t) = .ok x (r ++ 10 :: t)) ∧ r.length ≤ l.length
  | 0, m, ps, os, x, l, r, hn, _, h => by omega
  | n + 1, 0, ps, os, x, l, r, hn, hm, h => by omega
  | n + 1, m + 1, ps, os, x, l, r, hn, hm, h => by
    rw [pipesN] at h
    rw [pipesN]
    by_cases hq : (nextL l).1 = [38, 38] ∨ (nextL l).1 = [124, 124]
    · rw [if_pos hq] at h
      have hk : (nextL l).1 ≠ [] := by rcases hq with hx | hx <;> (rw [hx]; decide)
      have hf := next_free hk
      have hl : (nextL l).2.length < l.length := pass_less (what := (nextL l).1) hk (by unfold passL; rw [if_pos rfl])
      have hl2 := newlines_le (nextL l).2
      rw [next_ext t hf.1 hf.2]
      simp only []
      rw [if_pos hq]
      cases h1 : pipeL v (newlinesL (nextL l).2) with
      | bad a e => rw [h1] at h; cases h
      | ok p r2 =>
        obtain ⟨i1, i2, i3⟩ := pipe_ext hC _ p r2 t h1
        rw [h1] at h
        simp only [] at h
        by_cases hs : Stuck r2
        · rw [pipesN_stuck v n _ _ r2 (fun x => x.1 hs)] at h
          injection h with e1 e2
          subst e2
          exact ⟨Or.inl hs, by omega⟩
        · rw [newlines_ext t i3, i1.resolve_left hs]
          simp only []
          obtain ⟨j1, j2⟩ := pipesN_ext hC t n m _ _ x r2 r (by omega) (by omega) h
          exact ⟨j1, by omega⟩
    · rw [if_neg hq] at h
      injection h with e1 e2
      subst e1; subst e2
      refine ⟨?_, Nat.le_refl _⟩
      by_cases hs : Stuck l
      · exact Or.inl hs
      · right
        rcases next_at t hs with e | ⟨e, _⟩
        · rw [e]
          simp only []
          rw [if_neg hq]
        · rw [e]
          exact if_neg (show ¬ (([10] : Bs) = [38, 38] ∨ ([10] : Bs) = [124, 124]) by decide)
theorem list_ext {v : Lv} (hC : XC (commandL v)) : XC (listL v) := by
  intro l x r t h
  unfold listL at h ⊢
  cases h1 : pipeL v l with
  | bad a e => rw [h1] at h; cases h
  | ok p r1 =>
    obtain ⟨i1, i2, i3⟩ := pipe_ext hC l p r1 t h1
    rw [h1] at h
    simp only [] at h
    by_cases hs1 : Stuck r1
    · rw [pipesN_stuck v _ _ _ r1 (fun x => x.1 hs1)] at h
      injection h with e1 e2
      subst e2
      exact ⟨Or.inl hs1, by omega, i3⟩
    · obtain ⟨j1, j2⟩ := pipesN_ext hC t (r1.length + 1) ((r1 ++ 10 :: t).length + 1) [p] [] x r1 r (by omega) (by simp only [List.length_append, List.length_cons]; omega) h
      refine ⟨j1.imp id fun j => ?_, by omega, i3⟩
      rw [i1.resolve_left hs1]
      exact j
theorem pass_same {what l : Bs} (t : Bs) (h : Free l) : passL what (l ++ 10 :: t) = (passL what l).map (· ++ 10 :: t) := by
  unfold passL
  rw [next_ext t h.1 h.2]
  simp only []
  by_cases hq : (nextL l).1 = what
  · rw [if_pos hq, if_pos hq]; rfl
  · rw [if_neg hq, if_neg hq]; rfl
/-- What divides lists. -/
def divL (l : Bs) : Option Bs := match passL [59] l with
  | some r => some r
  | none => passL [10] l
theorem div_is (v : Lv) (n : Nat) (acc : List LiT) (l : Bs) : listsN v (n + 1) acc l = match divL l with
    | none => .ok acc l
    | some r => if listsEnd (newlinesL r) then .ok acc (newlinesL r) else match listL v (newlinesL r) with
      | .bad a e => .bad a e
      | .ok x r2 => listsN v n (acc ++ [x]) r2 := rfl
theorem div_same {l : Bs} (t : Bs) (h : Free l) : divL (l ++ 10 :: t) = (divL l).map (· ++ 10 :: t) := by
  unfold divL
  rw [pass_same t h, pass_same t h]
  cases passL [59] l <;> rfl
theorem div_closed {l : Bs} (h : ¬ Free l) : divL l = none := by
  unfold divL
  rw [pass_closed (by decide) h, pass_closed (by decide) h]
theorem div_free {l r : Bs} (h : divL l = some r) : Free l := Classical.byContradiction fun hn => by rw [div_closed hn] at h; cases h
theorem div_less {l r : Bs} (h : divL l = some r) : r.length < l.length := by
  unfold divL at h
  cases hp : passL [59] l with
  | some r1 => rw [hp] at h; injection h with e; subst e; exact pass_less (by decide) hp
  | none => rw [hp] at h; exact pass_less (what := [10]) (by decide) h
theorem listsN_closed (v : Lv) : ∀ (n : Nat) (acc : List LiT) (l : Bs), ¬ Free l → listsN v n acc l = .ok acc l
  | 0, acc, l, h => rfl
  | n + 1, acc, l, h => by rw [div_is, div_closed h]
theorem listsN_ext {v : Lv} (hC : XC (commandL v)) (t : Bs) : ∀ (n m : Nat) (acc xs : List LiT) (l r : Bs), l.length < n → l.length < m → listsN v n acc l = .ok xs r → (Free r → listsN v m acc (l ++ 10 :: t) = .ok xs (r ++ 10 :: t)) ∧ r.length ≤ l.length
  | 0, m, acc, xs, l, r, hn, _, h => by omega
  | n + 1, 0, acc, xs, l, r, hn, hm, h => by omega
  | n + 1, m + 1, acc, xs, l, r, hn, hm, h => by
    rw [div_is] at h
    rw [div_is]
    cases hd : divL l with
    | none =>
      rw [hd] at h
      injection h with e1 e2
      subst e1; subst e2
      refine ⟨fun hf => ?_, Nat.le_refl _⟩
      rw [div_same t hf, hd]
      rfl
    | some r1 =>
      have hf := div_free hd
      have hl := div_less hd
      have hl2 := newlines_le r1
      rw [hd] at h
      rw [div_same t hf, hd]
      simp only [Option.map_some] at h ⊢
      by_cases he : listsEnd (newlinesL r1) = true
      · rw [if_pos he] at h
        injection h with e1 e2
        subst e1; subst e2
        refine ⟨fun hf2 => ?_, by omega⟩
        rw [newlines_ext t hf2, listsEnd_ext t hf2, if_pos he]
      · rw [if_neg he] at h
        cases h1 : listL v (newlinesL r1) with
        | bad a e => rw [h1] at h; cases h
        | ok x r2 =>
          obtain ⟨i1, i2, i3⟩ := list_ext hC _ x r2 t h1
          rw [h1] at h
          simp only [] at h
          rw [newlines_ext t i3, listsEnd_ext t i3, if_neg he]
          by_cases hs : Stuck r2
          · rw [listsN_closed v n _ r2 (fun y => y.1 hs)] at h
            injection h with e1 e2
            subst e2
            exact ⟨fun hf2 => absurd hs hf2.1, by omega⟩
          · rw [i1.resolve_left hs]
            simp only []
            obtain ⟨j1, j2⟩ := listsN_ext hC t n m (acc ++ [x]) xs r2 r (by omega) (by omega) h
            exact ⟨j1, by omega⟩
theorem lists_ext {v : Lv} (hC : XC (commandL v)) : XLists (listsL v) ∧ FLists (listsL v) := by
  have key : ∀ l xs r t, listsL v l = .ok xs r → (Free r → listsL v (l ++ 10 :: t) = .ok xs (r ++ 10 :: t)) ∧ r.length < l.length ∧ Free l := by
    intro l xs r t h
    unfold listsL at h ⊢
    by_cases he : listsEnd (newlinesL l) = true
    · rw [if_pos he] at h; cases h
    rw [if_neg he] at h
    have hl := newlines_le l
    cases h1 : listL v (newlinesL l) with
    | bad a e => rw [h1] at h; cases h
    | ok x r1 =>
      obtain ⟨i1, i2, i3⟩ := list_ext hC _ x r1 t h1
      rw [h1] at h
      simp only [] at h
      rw [newlines_ext t i3, listsEnd_ext t i3, if_neg he]
      by_cases hs : Stuck r1
      · rw [listsN_closed v _ _ r1 (fun y => y.1 hs)] at h
        injection h with e1 e2
        subst e2
        exact ⟨fun hf2 => absurd hs hf2.1, by omega, newlines_free i3⟩
      · rw [i1.resolve_left hs]
        obtain ⟨j1, j2⟩ := listsN_ext hC t (r1.length + 1) ((r1 ++ 10 :: t).length + 1) [x] xs r1 r (by omega) (by simp only [List.length_append, List.length_cons]; omega) h
        exact ⟨j1, by omega, newlines_free i3⟩
  exact ⟨fun l x r t h => ⟨(key l x r t h).1, (key l x r t h).2.1⟩, fun l x r h => (key l x r [] h).2.2⟩
/-- All that is said of a level. -/
structure LOk (v : Lv) : Prop where
  lists : XLists v.lists
  first : FLists v.lists
  choice : XOk v.choice
  some_ : CSome v.compound
  none_ : CNone v.compound
  body : CSome v.body
theorem LOk.command {v : Lv} (h : LOk v) : XC (commandL v) := command_ext h.some_ h.none_ h.body
theorem deep_x : XLists tooDeep := fun l x r t h => by simp only [tooDeep] at h; cases h
theorem deep_f : FLists tooDeep := fun l x r h => by simp only [tooDeep] at h; cases h
theorem deep_c : XOk (tooDeep : Bs → Rs CmdT) := fun l x r t h => by simp only [tooDeep] at h; cases h
theorem lv_ok : ∀ n : Nat, LOk (lv n)
  | 0 => ⟨deep_x, deep_f, choice_ext deep_x deep_c, fun l c r t h => compound_some deep_x deep_f (choice_ext deep_x deep_c) t h, fun l r t h => (compound_none deep_x deep_f (choice_ext deep_x deep_c) t h).2, fun l c r t h => by simp only [lv] at h; cases h⟩
  | n + 1 => by
    have d := lv_ok n
    obtain ⟨hx, hf⟩ := lists_ext d.command
    have hc := choice_ext hx d.choice
    exact ⟨hx, hf, hc, fun l c r t h => compound_some hx hf hc t h, fun l r t h => (compound_none hx hf hc t h).2, d.some_⟩
end SyM

/- DERIVED. Plain mathematics of layer 8: lists that end where the text ends, with a newline and more behind them. -/
namespace SyM
open PathM WdM
set_option linter.unusedVariables false

theorem end_free {r : Bs} (h : aheadL r = []) : ¬ Stuck r := fun ⟨a, e, hs⟩ => by rw [h, scan_nil] at hs; cases hs
theorem next_over {l : Bs} (t : Bs) (h : aheadL l = []) : nextL (l ++ 10 :: t) = ([10], t) := by
  have ha := ahead_go t (end_free h)
  rw [h] at ha
  have hb := next_nl t
  unfold nextL at hb ⊢
  rw [ha]
  rw [show aheadL (10 :: t) = 10 :: t from ahead_nl t] at hb
  exact hb
theorem newlinesN_fuel : ∀ (n m : Nat) (l : Bs), l.length < n → l.length < m → newlinesN n l = newlinesN m l
  | 0, m, l, hn, _ => by omega
  | n + 1, 0, l, hn, hm => by omega
  | n + 1, m + 1, l, hn, hm => by
    rw [newlinesN, newlinesN]
    cases hp : passL [10] l with
    | none => rfl
    | some r =>
      have := pass_less (by decide) hp
      exact newlinesN_fuel n m r (by omega) (by omega)
theorem newlinesN_over (t : Bs) : ∀ (n m : Nat) (l : Bs), l.length < n → (l ++ 10 :: t).length < m → aheadL (newlinesN n l) = [] → newlinesN m (l ++ 10 :: t) = newlinesL t
  | 0, m, l, hn, _, h => by omega
  | n + 1, 0, l, hn, hm, h => by omega
  | n + 1, m + 1, l, hn, hm, h => by
    rw [newlinesN] at h
    simp only [List.length_append, List.length_cons] at hm
    rw [newlinesN]
    cases hp : passL [10] l with
    | none =>
      rw [hp] at h
      simp only [] at h
      have e : passL [10] (l ++ 10 :: t) = some t := by unfold passL; rw [next_over t h, if_pos rfl]
      rw [e]
      exact newlinesN_fuel m (t.length + 1) t (by omega) (by omega)
    | some r =>
      have := pass_less (by decide) hp
      rw [hp] at h
      rw [pass_ext t (by decide) hp]
      exact newlinesN_over t n m r (by omega) (by simp only [List.length_append, List.length_cons]; omega) h
theorem newlines_over {l : Bs} (t : Bs) (h : aheadL (newlinesL l) = []) : newlinesL (l ++ 10 :: t) = newlinesL t :=
  newlinesN_over t (l.length + 1) ((l ++ 10 :: t).length + 1) l (by omega) (by omega) h
theorem div_over {l : Bs} (t : Bs) (h : aheadL l = []) : divL (l ++ 10 :: t) = some t := by
  unfold divL passL
  rw [next_over t h]
  rfl
theorem listsN_over {v : Lv} (hC : XC (commandL v)) (t : Bs) (ht : listsEnd (newlinesL t) = true) : ∀ (n m : Nat) (acc xs : List LiT) (l r : Bs), l.length < n → l.length < m → listsN v n acc l = .ok xs r → aheadL r = [] → listsN v m acc (l ++ 10 :: t) = .ok xs (newlinesL t)
  | 0, m, acc, xs, l, r, hn, _, h, h0 => by omega
  | n + 1, 0, acc, xs, l, r, hn, hm, h, h0 => by omega
  | n + 1, m + 1, acc, xs, l, r, hn, hm, h, h0 => by
    rw [div_is] at h
    rw [div_is]
    cases hd : divL l with
    | none =>
      rw [hd] at h
      injection h with e1 e2
      subst e1; subst e2
      rw [div_over t h0]
      simp only []
      rw [if_pos ht]
    | some r1 =>
      have hf := div_free hd
      have hl := div_less hd
      have hl2 := newlines_le r1
      rw [hd] at h
      rw [div_same t hf, hd]
      simp only [Option.map_some] at h ⊢
      by_cases he : listsEnd (newlinesL r1) = true
      · rw [if_pos he] at h
        injection h with e1 e2
        subst e1; subst e2
        rw [newlines_over t h0, if_pos ht]
      · rw [if_neg he] at h
        cases h1 : listL v (newlinesL r1) with
        | bad a e => rw [h1] at h; cases h
        | ok x r2 =>
          obtain ⟨i1, i2, i3⟩ := list_ext hC _ x r2 t h1
          rw [h1] at h
          simp only [] at h
          rw [newlines_ext t i3, listsEnd_ext t i3, if_neg he]
          have hs : ¬ Stuck r2 := fun hs => by
            rw [listsN_closed v n _ r2 (fun y => y.1 hs)] at h
            injection h with e1 e2
            subst e2
            exact end_free h0 hs
          rw [i1.resolve_left hs]
          exact listsN_over hC t ht n m (acc ++ [x]) xs r2 r (by omega) (by omega) h h0
/-- Lists that end where the text ends, with a newline behind them and what ends lists: they pass the newline. -/
theorem lists_over {v : Lv} (hC : XC (commandL v)) {l r : Bs} {xs : List LiT} (t : Bs) (ht : listsEnd (newlinesL t) = true) (h : listsL v l = .ok xs r) (h0 : aheadL r = []) : listsL v (l ++ 10 :: t) = .ok xs (newlinesL t) := by
  unfold listsL at h ⊢
  by_cases he : listsEnd (newlinesL l) = true
  · rw [if_pos he] at h; cases h
  rw [if_neg he] at h
  cases h1 : listL v (newlinesL l) with
  | bad a e => rw [h1] at h; cases h
  | ok x r1 =>
    obtain ⟨i1, i2, i3⟩ := list_ext hC _ x r1 t h1
    rw [h1] at h
    simp only [] at h
    rw [newlines_ext t i3, listsEnd_ext t i3, if_neg he]
    have hs : ¬ Stuck r1 := fun hs => by
      rw [listsN_closed v _ _ r1 (fun y => y.1 hs)] at h
      injection h with e1 e2
      subst e2
      exact end_free h0 hs
    rw [i1.resolve_left hs]
    exact listsN_over hC t ht (r1.length + 1) ((r1 ++ 10 :: t).length + 1) [x] xs r1 r (by omega) (by simp only [List.length_append, List.length_cons]; omega) h h0
theorem over_end {l : Bs} (h : overL l = true) : aheadL l = [] := by unfold overL at h; simpa using h
/-- A script with a newline behind it is the same script. -/
theorem script_newline {v : Lv} (hC : XC (commandL v)) {l r : Bs} {xs : List LiT} (h : scriptL (listsL v) l = .ok xs r) : scriptL (listsL v) (l ++ [10]) = .ok xs [] := by
  have hn : newlinesL ([] : Bs) = [] := rfl
  unfold scriptL at h ⊢
  by_cases ho : overL (newlinesL l) = true
  · rw [if_pos ho] at h
    injection h with e1 e2
    rw [newlines_over [] (over_end ho), hn, if_pos (show overL ([] : Bs) = true from rfl), e1]
  · rw [if_neg ho] at h
    cases h1 : listsL v (newlinesL l) with
    | bad a e => rw [h1] at h; cases h
    | ok x r1 =>
      rw [h1] at h
      simp only [] at h
      by_cases ho2 : overL r1 = true
      · rw [if_pos ho2] at h
        injection h with e1 e2
        have hf : Free (newlinesL l) := (lists_ext hC).2 _ _ _ h1
        rw [newlines_ext [] hf, if_neg (show ¬ overL (newlinesL l ++ 10 :: []) = true by unfold overL; rw [ahead_go [] hf.1]; cases aheadL (newlinesL l) <;> simp)]
        rw [lists_over hC [] (by rw [hn]; rfl) h1 (over_end ho2), hn, e1]
        rfl
      · rw [if_neg ho2] at h; simp only [refuse] at h; cases h
end SyM
