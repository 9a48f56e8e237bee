/- DERIVED. Plain mathematics of layer 10: what is read is less than what was left; more fuel, more behind it, and one deeper. -/
import Derived.Test.YtdegkfnlafgheaaDoorArMath
namespace ArM
open PathM WdM
set_option linter.unusedVariables false

/-- What is left is less. -/
def Lss (f : List Tok → Rr) : Prop := ∀ l t r, f l = .ok (t, r) → r.length < l.length
theorem pairLoop_less {sub : List Tok → Rr} (h : Lss sub) (tight : Nat) : ∀ (n : Nat) (t : Tm) (l : List Tok) (t2 : Tm) (r : List Tok), pairLoop sub tight n t l = .ok (t2, r) → r.length ≤ l.length
  | 0, t, l, t2, r, e => by simp only [pairLoop, Except.ok.injEq, Prod.mk.injEq] at e; rw [e.2]; exact Nat.le_refl _
  | n + 1, t, l, t2, r, e => by
    unfold pairLoop at e
    split at e
    · split at e
      · split at e
        · cases e
        · rename_i hs
          have h1 := h _ _ _ hs
          have h2 := pairLoop_less h tight n _ _ _ _ e
          simp only [List.length_cons]; omega
      · simp only [Except.ok.injEq, Prod.mk.injEq] at e; rw [e.2]; exact Nat.le_refl _
    · simp only [Except.ok.injEq, Prod.mk.injEq] at e; rw [e.2]; exact Nat.le_refl _
theorem pairsK_less {lead : List Tok → Rr} (h : Lss lead) : ∀ k, Lss (pairsK lead k)
  | 0 => h
  | k + 1 => by
    intro l t r e
    unfold pairsK at e
    split at e
    · cases e
    · rename_i hs
      have h1 := pairsK_less h k _ _ _ hs
      have h2 := pairLoop_less (pairsK_less h k) _ _ _ _ _ _ e
      omega
/-- A reader of which all is less. -/
def RdLess (d : Rd) : Prop := ∀ dp, Lss (d.all dp) ∧ Lss (d.cond dp) ∧ Lss (d.lead dp)
theorem leadF_less {d : Rd} (h : RdLess d) (dp : Nat) : Lss (leadF d dp) := by
  intro l t r e
  unfold leadF at e
  split at e
  · cases e
  · simp only [Except.ok.injEq, Prod.mk.injEq] at e; rw [← e.2]; simp
  · simp only [Except.ok.injEq, Prod.mk.injEq] at e; rw [← e.2]; simp
  · split at e
    · split at e
      · cases e
      · split at e
        · cases e
        · rename_i hs
          have h1 := (h _).2.2 _ _ _ hs
          simp only [Except.ok.injEq, Prod.mk.injEq] at e
          rw [← e.2, List.length_cons]; omega
    · split at e
      · split at e
        · cases e
        · split at e
          · cases e
          · rename_i hs
            have h1 := (h _).1 _ _ _ hs
            split at e
            · split at e
              · simp only [Except.ok.injEq, Prod.mk.injEq] at e
                rw [← e.2]
                simp only [List.length_cons] at h1 ⊢; omega
              · cases e
            · cases e
      · cases e
theorem condF_less {d : Rd} (h : RdLess d) (dp : Nat) : Lss (condF d dp) := by
  intro l t r e
  unfold condF at e
  split at e
  · cases e
  · rename_i hs
    have h0 := pairsK_less (leadF_less h dp) 10 _ _ _ hs
    split at e
    · split at e
      · split at e
        · cases e
        · rename_i hs2
          have h1 := (h _).1 _ _ _ hs2
          split at e
          · split at e
            · split at e
              · cases e
              · rename_i hs3
                have h2 := (h _).2.1 _ _ _ hs3
                simp only [Except.ok.injEq, Prod.mk.injEq] at e
                rw [← e.2]
                simp only [List.length_cons] at h0 h1; omega
            · cases e
          · cases e
      · simp only [Except.ok.injEq, Prod.mk.injEq] at e; rw [← e.2]; exact h0
    · simp only [Except.ok.injEq, Prod.mk.injEq] at e; rw [← e.2]; exact h0
theorem allF_less {d : Rd} (h : RdLess d) (dp : Nat) : Lss (allF d dp) := by
  intro l t r e
  unfold allF at e
  split at e
  · split at e
    · split at e
      · cases e
      · rename_i hs
        have h1 := (h _).1 _ _ _ hs
        simp only [Except.ok.injEq, Prod.mk.injEq] at e
        rw [← e.2]
        simp only [List.length_cons]; omega
    · exact condF_less h dp _ _ _ e
  · exact condF_less h dp _ _ _ e
theorem rd_less : ∀ n, RdLess (rd n)
  | 0 => fun dp => ⟨(fun l t r e => nomatch e), (fun l t r e => nomatch e), (fun l t r e => nomatch e)⟩
  | n + 1 => fun dp => ⟨allF_less (rd_less n) dp, condF_less (rd_less n) dp, leadF_less (rd_less n) dp⟩

/-- What may stand behind. -/
def Stop (z : List Tok) : Prop := z = [] ∨ ∃ z', z = .sg [41] :: z'
/-- The same, with more behind it; or, if it is deeper (q = 1), too deep. -/
def Dq (q : Nat) (z : List Tok) (f g : List Tok → Rr) : Prop := ∀ l t r, f l = .ok (t, r) → g (l ++ z) = .ok (t, r ++ z) ∨ (q ≠ 0 ∧ g (l ++ z) = .error 63)
def RdDq (q : Nat) (z : List Tok) (d d' : Rd) : Prop := ∀ dp, Dq q z (d.all dp) (d'.all (dp + q)) ∧ Dq q z (d.cond dp) (d'.cond (dp + q)) ∧ Dq q z (d.lead dp) (d'.lead (dp + q))
theorem leadF_dq {q : Nat} {z : List Tok} {d d' : Rd} (hq : q ≤ 1) (h : RdDq q z d d') (dp : Nat) : Dq q z (leadF d dp) (leadF d' (dp + q)) := by
  intro l t r e
  cases l with
  | nil => cases e
  | cons a l =>
    rw [List.cons_append]
    cases a with
    | num x n =>
      simp only [leadF, Except.ok.injEq, Prod.mk.injEq] at e ⊢
      exact .inl ⟨e.1, by rw [e.2]⟩
    | nam x =>
      simp only [leadF, Except.ok.injEq, Prod.mk.injEq] at e ⊢
      exact .inl ⟨e.1, by rw [e.2]⟩
    | sg s =>
      unfold leadF at e ⊢
      dsimp only at e ⊢
      by_cases hl : leadsOf s = true
      · rw [if_pos hl] at e ⊢
        by_cases h64 : dp = 64
        · rw [if_pos h64] at e; cases e
        · rw [if_neg h64] at e
          by_cases h65 : dp + q = 64
          · rw [if_pos h65]
            exact .inr ⟨by omega, rfl⟩
          · rw [if_neg h65]
            split at e
            · cases e
            · rename_i hs
              simp only [Except.ok.injEq, Prod.mk.injEq] at e
              obtain ⟨rfl, rfl⟩ := e
              have := (h (dp + 1)).2.2 _ _ _ hs
              rw [show dp + 1 + q = dp + q + 1 by omega] at this
              rcases this with h1 | ⟨h0, h1⟩
              · rw [h1]; exact .inl rfl
              · rw [h1]; exact .inr ⟨h0, rfl⟩
      · rw [if_neg hl] at e ⊢
        by_cases hp : s = [40]
        · rw [if_pos hp] at e ⊢
          by_cases h64 : dp = 64
          · rw [if_pos h64] at e; cases e
          · rw [if_neg h64] at e
            by_cases h65 : dp + q = 64
            · rw [if_pos h65]
              exact .inr ⟨by omega, rfl⟩
            · rw [if_neg h65]
              split at e
              · cases e
              · rename_i hs
                have := (h (dp + 1)).1 _ _ _ hs
                rw [show dp + 1 + q = dp + q + 1 by omega] at this
                split at e
                · split at e
                  · rename_i h41
                    simp only [Except.ok.injEq, Prod.mk.injEq] at e
                    obtain ⟨rfl, rfl⟩ := e
                    rcases this with h1 | ⟨h0, h1⟩
                    · rw [h1, List.cons_append]; exact .inl (by dsimp only; rw [if_pos h41])
                    · rw [h1]; exact .inr ⟨h0, rfl⟩
                  · cases e
                · cases e
        · rw [if_neg hp] at e; cases e
theorem stop_loop {z : List Tok} (hz : Stop z) (sub : List Tok → Rr) (tight : Nat) (h : 1 ≤ tight) (n : Nat) (t : Tm) : pairLoop sub tight n t z = .ok (t, z) := by
  cases n with
  | zero => rfl
  | succ n => rcases hz with rfl | ⟨z', rfl⟩
              · rfl
              · exact if_neg (by show ¬ 0 = tight; omega)
theorem pairLoop_dq {q : Nat} {z : List Tok} (hz : Stop z) {sub sub' : List Tok → Rr} (h : Dq q z sub sub') (hs : Lss sub) (tight : Nat) (ht : 1 ≤ tight) : ∀ (n m : Nat) (t : Tm) (l : List Tok) (t2 : Tm) (r : List Tok), l.length < n → (l ++ z).length < m → pairLoop sub tight n t l = .ok (t2, r) →
    pairLoop sub' tight m t (l ++ z) = .ok (t2, r ++ z) ∨ (q ≠ 0 ∧ pairLoop sub' tight m t (l ++ z) = .error 63)
  | 0, m, t, l, t2, r, hn, _, _ => absurd hn (by omega)
  | n + 1, 0, t, l, t2, r, hn, hm, _ => absurd hm (by omega)
  | n + 1, m + 1, t, l, t2, r, hn, hm, e => by
    cases l with
    | nil =>
      simp only [pairLoop, Except.ok.injEq, Prod.mk.injEq] at e
      obtain ⟨rfl, rfl⟩ := e
      exact .inl (stop_loop hz sub' tight ht _ _)
    | cons a l =>
      rw [List.cons_append]
      unfold pairLoop at e ⊢
      cases a with
      | num x k => simp only [Except.ok.injEq, Prod.mk.injEq] at e ⊢; exact .inl ⟨e.1, by rw [← e.2]; rfl⟩
      | nam x => simp only [Except.ok.injEq, Prod.mk.injEq] at e ⊢; exact .inl ⟨e.1, by rw [← e.2]; rfl⟩
      | sg s =>
        dsimp only at e ⊢
        by_cases hti : tightOf s = tight
        · rw [if_pos hti] at e ⊢
          split at e
          · cases e
          · rename_i u r2 hu
            have h1 := h _ _ _ hu
            have h2 := hs _ _ _ hu
            rcases h1 with h1 | ⟨h0, h1⟩
            · rw [h1]
              dsimp only
              refine pairLoop_dq hz h hs tight ht n m _ r2 _ _ ?_ ?_ e
              · simp only [List.length_cons] at hn; omega
              · simp only [List.length_cons, List.length_append] at hm ⊢; omega
            · rw [h1]; exact .inr ⟨h0, rfl⟩
        · rw [if_neg hti] at e ⊢
          simp only [Except.ok.injEq, Prod.mk.injEq] at e ⊢
          exact .inl ⟨e.1, by rw [← e.2]; rfl⟩
theorem pairsK_dq {q : Nat} {z : List Tok} (hz : Stop z) {lead lead' : List Tok → Rr} (h : Dq q z lead lead') (hs : Lss lead) : ∀ k, k ≤ 10 → Dq q z (pairsK lead k) (pairsK lead' k)
  | 0, _ => h
  | k + 1, hk => by
    intro l t r e
    unfold pairsK at e ⊢
    split at e
    · cases e
    · rename_i u r2 hu
      rcases pairsK_dq hz h hs k (by omega) _ _ _ hu with h1 | ⟨h0, h1⟩
      · rw [h1]
        dsimp only
        exact pairLoop_dq hz (pairsK_dq hz h hs k (by omega)) (pairsK_less hs k) _ (by omega) _ _ _ _ _ _ (by omega) (by omega) e
      · rw [h1]; exact .inr ⟨h0, rfl⟩
theorem condF_dq {q : Nat} {z : List Tok} (hz : Stop z) {d d' : Rd} (hq : q ≤ 1) (h : RdDq q z d d') (hl : RdLess d) (dp : Nat) : Dq q z (condF d dp) (condF d' (dp + q)) := by
  intro l t r e
  unfold condF at e ⊢
  split at e
  · cases e
  · rename_i u r2 hu
    rcases pairsK_dq hz (leadF_dq hq h dp) (leadF_less hl dp) 10 (by omega) _ _ _ hu with h1 | ⟨h0, h1⟩
    · rw [h1]
      dsimp only
      cases r2 with
      | nil =>
        simp only [Except.ok.injEq, Prod.mk.injEq] at e
        obtain ⟨rfl, rfl⟩ := e
        rcases hz with rfl | ⟨z', rfl⟩
        · exact .inl rfl
        · exact .inl (if_neg (by decide))
      | cons a r2 =>
        rw [List.cons_append]
        cases a with
        | num x k => simp only [Except.ok.injEq, Prod.mk.injEq] at e ⊢; exact .inl ⟨e.1, by rw [← e.2]; rfl⟩
        | nam x => simp only [Except.ok.injEq, Prod.mk.injEq] at e ⊢; exact .inl ⟨e.1, by rw [← e.2]; rfl⟩
        | sg s =>
          dsimp only at e ⊢
          by_cases h63 : s = [63]
          · rw [if_pos h63] at e ⊢
            split at e
            · cases e
            · rename_i y r3 hy
              rcases (h dp).1 _ _ _ hy with h2 | ⟨h0, h2⟩
              · rw [h2]
                dsimp only
                split at e
                · rename_i s2 r4
                  rw [List.cons_append]
                  dsimp only
                  split at e
                  · rename_i h58
                    rw [if_pos h58]
                    split at e
                    · cases e
                    · rename_i z2 r5 hz2
                      simp only [Except.ok.injEq, Prod.mk.injEq] at e
                      obtain ⟨rfl, rfl⟩ := e
                      rcases (h dp).2.1 _ _ _ hz2 with h3 | ⟨h0, h3⟩
                      · rw [h3]; exact .inl rfl
                      · rw [h3]; exact .inr ⟨h0, rfl⟩
                  · cases e
                · cases e
              · rw [h2]; exact .inr ⟨h0, rfl⟩
          · rw [if_neg h63] at e ⊢
            simp only [Except.ok.injEq, Prod.mk.injEq] at e ⊢
            exact .inl ⟨e.1, by rw [← e.2]; rfl⟩
    · rw [h1]; exact .inr ⟨h0, rfl⟩
theorem allF_dq {q : Nat} {z : List Tok} (hz : Stop z) {d d' : Rd} (hq : q ≤ 1) (h : RdDq q z d d') (hl : RdLess d) (dp : Nat) : Dq q z (allF d dp) (allF d' (dp + q)) := by
  intro l t r e
  have hc := condF_dq hz hq h hl dp
  cases l with
  | nil =>
    have e2 : condF d dp [] = .ok (t, r) := e
    cases e2
  | cons a l =>
    cases a with
    | num x k => exact hc _ _ _ e
    | sg s => exact hc _ _ _ e
    | nam x =>
      cases l with
      | nil =>
        have e2 : condF d dp [.nam x] = .ok (t, r) := e
        have := hc _ _ _ e2
        rcases hz with rfl | ⟨z', rfl⟩
        · exact this
        · have e3 : allF d' (dp + q) ([Tok.nam x] ++ .sg [41] :: z') = condF d' (dp + q) ([Tok.nam x] ++ .sg [41] :: z') := rfl
          rw [e3]; exact this
      | cons b l =>
        cases b with
        | num y k => exact hc (.nam x :: .num y k :: l) t r e
        | nam y => exact hc (.nam x :: .nam y :: l) t r e
        | sg s =>
          have hcc := hc (.nam x :: .sg s :: l) t r
          rw [List.cons_append, List.cons_append] at hcc ⊢
          unfold allF at e ⊢
          dsimp only at e ⊢
          cases hg : givesOf s with
          | none => rw [hg] at e; exact hcc e
          | some b =>
            rw [hg] at e
            dsimp only at e ⊢
            split at e
            · cases e
            · rename_i u r2 hu
              simp only [Except.ok.injEq, Prod.mk.injEq] at e
              obtain ⟨rfl, rfl⟩ := e
              rcases (h dp).1 _ _ _ hu with h1 | ⟨h0, h1⟩
              · rw [h1]; exact .inl rfl
              · rw [h1]; exact .inr ⟨h0, rfl⟩
theorem rd_dq {q : Nat} {z : List Tok} (hz : Stop z) (hq : q ≤ 1) : ∀ n m, n ≤ m → RdDq q z (rd n) (rd m)
  | 0, _, _ => fun dp => ⟨(fun l t r e => nomatch e), (fun l t r e => nomatch e), (fun l t r e => nomatch e)⟩
  | n + 1, 0, h => absurd h (by omega)
  | n + 1, m + 1, h => fun dp => ⟨allF_dq hz hq (rd_dq hz hq n m (by omega)) (rd_less n) dp, condF_dq hz hq (rd_dq hz hq n m (by omega)) (rd_less n) dp, leadF_dq hq (rd_dq hz hq n m (by omega)) dp⟩
/-- In parentheses: the same, or too deep. -/
theorem read_paren {l : List Tok} {t : Tm} (h : readL l = .ok t) : readL (.sg [40] :: (l ++ [.sg [41]])) = .ok t ∨ readL (.sg [40] :: (l ++ [.sg [41]])) = .error 63 := by
  unfold readL at h
  split at h
  · cases h
  · rename_i u r hu
    split at h
    · rename_i hr
      simp only [Except.ok.injEq] at h
      subst h
      cases r with
      | cons a r => cases hr
      | nil =>
        have hq := (rd_dq (q := 1) (z := [.sg [41]]) (.inr ⟨[], rfl⟩) (by omega) (l.length + 1) (l.length + 2) (by omega) 0).1 _ _ _ hu
        have key : ∀ x, leadF (rd (l.length + 2)) 0 (.sg [40] :: (l ++ [.sg [41]])) = x → (x = .ok (u, []) → readL (.sg [40] :: (l ++ [.sg [41]])) = .ok u) ∧ (x = .error 63 → readL (.sg [40] :: (l ++ [.sg [41]])) = .error 63) := by
          intro x hx
          have hal : (rd ((Tok.sg [40] :: (l ++ [Tok.sg [41]])).length + 1)).all 0 (.sg [40] :: (l ++ [.sg [41]])) = condF (rd (l.length + 2)) 0 (.sg [40] :: (l ++ [.sg [41]])) := by
            rw [show (Tok.sg [40] :: (l ++ [Tok.sg [41]])).length + 1 = l.length + 2 + 1 by simp]
            rfl
          have hK : ∀ k, (x = .ok (u, []) → pairsK (leadF (rd (l.length + 2)) 0) k (.sg [40] :: (l ++ [.sg [41]])) = .ok (u, [])) ∧ (x = .error 63 → pairsK (leadF (rd (l.length + 2)) 0) k (.sg [40] :: (l ++ [.sg [41]])) = .error 63) := by
            intro k
            induction k with
            | zero => exact ⟨fun e => by rw [pairsK, hx, e], fun e => by rw [pairsK, hx, e]⟩
            | succ k ih => exact ⟨fun e => by rw [pairsK, ih.1 e]; rfl, fun e => by rw [pairsK, ih.2 e]⟩
          refine ⟨fun e => ?_, fun e => ?_⟩
          · unfold readL; rw [hal]; unfold condF; rw [(hK 10).1 e]; rfl
          · unfold readL; rw [hal]; unfold condF; rw [(hK 10).2 e]
        have hle : leadF (rd (l.length + 2)) 0 (.sg [40] :: (l ++ [.sg [41]])) = match (rd (l.length + 2)).all 1 (l ++ [.sg [41]]) with
          | .error e => .error e
          | .ok (t, r2) => match r2 with
            | .sg s2 :: r3 => if s2 = [41] then .ok (t, r3) else .error 61
            | _ => .error 61 := rfl
        rw [show (0 : Nat) + 1 = 1 from rfl] at hq
        rcases hq with h1 | ⟨_, h1⟩
        · rw [h1] at hle
          exact .inl ((key _ hle).1 rfl)
        · rw [h1] at hle
          exact .inr ((key _ hle).2 rfl)
    · cases h
/-- A name that is given what is read. -/
theorem read_gift {l : List Tok} {t : Tm} (n : Bs) (h : readL l = .ok t) : readL (.nam n :: .sg [61] :: l) = .ok (.gift [] n t) := by
  unfold readL at h
  split at h
  · cases h
  · rename_i u r hu
    split at h
    · rename_i hr
      simp only [Except.ok.injEq] at h
      subst h
      cases r with
      | cons a r => cases hr
      | nil =>
        have hq := (rd_dq (q := 0) (z := []) (.inl rfl) (by omega) (l.length + 1) (l.length + 2) (by omega) 0).1 _ _ _ hu
        rcases hq with h1 | ⟨h0, _⟩
        · rw [List.append_nil, List.append_nil] at h1
          have hal : (rd ((Tok.nam n :: .sg [61] :: l).length + 1)).all 0 (.nam n :: .sg [61] :: l) = match (rd (l.length + 2)).all 0 l with
            | .error e => .error e
            | .ok (x, r2) => .ok (.gift [] n x, r2) := rfl
          unfold readL
          rw [hal, show (0 : Nat) + 0 = 0 from rfl] at *
          rw [h1]
          rfl
        · exact absurd rfl h0
    · cases h
theorem read_gift_none (n : Bs) : readL [.nam n, .sg [61]] = .error 61 := rfl
end ArM
