/- DERIVED. Texts of this claim, joined: ArLess, ArPairs. -/
import Derived.Test.YtcadnkanjlmfhaaGreatDoorAzQ02
import Derived.Test.YtcadnkanjlmfhaaGreatDoorAzQ06
namespace ArM
open PathM WdM
set_option linter.unusedVariables false

/-- What is left is less. -/
def Lss (f : List Tok → Rr) : Prop := ∀ l t r, f l = .ok (t, r) → r.length < l.length
theorem pairLoop_less {sub : List Tok → Rr} (h : Lss sub) (tight : Nat) : ∀ (n : Nat) (t : Tm) (l : List Tok) (t2 : Tm) (r : List Tok), pairLoop sub tight n t l = .ok (t2, r) → r.length ≤ l.length
  | 0, t, l, t2, r, e => by simp only [pairLoop, Except.ok.injEq, Prod.mk.injEq] at e; rw [e.2]; exact Nat.le_refl _
  | n + 1, t, l, t2, r, e => by
    unfold pairLoop at e
    split at e
    · split at e
      · split at e
        · cases e
        · rename_i hs
          have h1 := h _ _ _ hs
          have h2 := pairLoop_less h tight n _ _ _ _ e
          simp only [List.length_cons]; omega
      · simp only [Except.ok.injEq, Prod.mk.injEq] at e; rw [e.2]; exact Nat.le_refl _
    · simp only [Except.ok.injEq, Prod.mk.injEq] at e; rw [e.2]; exact Nat.le_refl _
theorem pairsK_less {lead : List Tok → Rr} (h : Lss lead) : ∀ k, Lss (pairsK lead k)
  | 0 => h
  | k + 1 => by
    intro l t r e
    unfold pairsK at e
    split at e
    · cases e
    · rename_i hs
      have h1 := pairsK_less h k _ _ _ hs
      have h2 := pairLoop_less (pairsK_less h k) _ _ _ _ _ _ e
      omega
/-- A reader of which all is less. -/
def RdLess (d : Rd) : Prop := ∀ dp, Lss (d.all dp) ∧ Lss (d.cond dp) ∧ Lss (d.lead dp)
theorem leadF_less {d : Rd} (h : RdLess d) (dp : Nat) : Lss (leadF d dp) := by
  intro l t r e
  unfold leadF at e
  split at e
  · cases e
  · simp only [Except.ok.injEq, Prod.mk.injEq] at e; rw [← e.2]; simp
  · simp only [Except.ok.injEq, Prod.mk.injEq] at e; rw [← e.2]; simp
  · split at e
    · split at e
      · cases e
      · split at e
        · cases e
        · rename_i hs
          have h1 := (h _).2.2 _ _ _ hs
          simp only [Except.ok.injEq, Prod.mk.injEq] at e
          rw [← e.2, List.length_cons]; omega
    · split at e
      · split at e
        · cases e
        · split at e
          · cases e
          · rename_i hs
            have h1 := (h _).1 _ _ _ hs
            split at e
            · split at e
              · simp only [Except.ok.injEq, Prod.mk.injEq] at e
                rw [← e.2]
                simp only [List.length_cons] at h1 ⊢; omega
              · cases e
            · cases e
      · cases e
theorem condF_less {d : Rd} (h : RdLess d) (dp : Nat) : Lss (condF d dp) := by
  intro l t r e
  unfold condF at e
  split at e
  · cases e
  · rename_i hs
    have h0 := pairsK_less (leadF_less h dp) 10 _ _ _ hs
    split at e
    · split at e
      · split at e
        · cases e
        · rename_i hs2
          have h1 := (h _).1 _ _ _ hs2
          split at e
          · split at e
            · split at e
              · cases e
              · rename_i hs3
                have h2 := (h _).2.1 _ _ _ hs3
                simp only [Except.ok.injEq, Prod.mk.injEq] at e
                rw [← e.2]
                simp only [List.length_cons] at h0 h1; omega
            · cases e
          · cases e
      · simp only [Except.ok.injEq, Prod.mk.injEq] at e; rw [← e.2]; exact h0
    · simp only [Except.ok.injEq, Prod.mk.injEq] at e; rw [← e.2]; exact h0
theorem allF_less {d : Rd} (h : RdLess d) (dp : Nat) : Lss (allF d dp) := by
  intro l t r e
  unfold allF at e
  split at e
  · split at e
    · split at e
      · cases e
      · rename_i hs
        have h1 := (h _).1 _ _ _ hs
        simp only [Except.ok.injEq, Prod.mk.injEq] at e
        rw [← e.2]
        simp only [List.length_cons]; omega
    · exact condF_less h dp _ _ _ e
  · exact condF_less h dp _ _ _ e
theorem rd_less : ∀ n, RdLess (rd n)
  | 0 => fun dp => ⟨(fun l t r e => nomatch e), (fun l t r e => nomatch e), (fun l t r e => nomatch e)⟩
  | n + 1 => fun dp => ⟨allF_less (rd_less n) dp, condF_less (rd_less n) dp, leadF_less (rd_less n) dp⟩

/-- What may stand behind. -/
def Stop (z : List Tok) : Prop := z = [] ∨ ∃ z', z = .sg [41] :: z'
/-- The same, with more behind it; or, if it is deeper (q = 1), too deep. -/
def Dq (q : Nat) (z : List Tok) (f g : List Tok → Rr) : Prop := ∀ l t r, f l = .ok (t, r) → g (l ++ z) = .ok (t, r ++ z) ∨ (q ≠ 0 ∧ g (l ++ z) = .error 63)
def RdDq (q : Nat) (z : List Tok) (d d' : Rd) : Prop := ∀ dp, Dq q z (d.all dp) (d'.all (dp + q)) ∧ Dq q z (d.cond dp) (d'.cond (dp + q)) ∧ Dq q z (d.lead dp) (d'.lead (dp + q))
theorem leadF_dq {q : Nat} {z : List Tok} {d d' : Rd} (hq : q ≤ 1) (h : RdDq q z d d') (dp : Nat) : Dq q z (leadF d dp) (leadF d' (dp + q)) := by
  intro l t r e
  cases l with
  | nil => cases e
  | cons a l =>
    rw [List.cons_append]
    cases a with
    | num x n =>
      simp only [leadF, Except.ok.injEq, Prod.mk.injEq] at e ⊢
      exact .inl ⟨e.1, by rw [e.2]⟩
    | nam x =>
      simp only [leadF, Except.ok.injEq, Prod.mk.injEq] at e ⊢
      exact .inl ⟨e.1, by rw [e.2]⟩
    | sg s =>
      unfold leadF at e ⊢
      dsimp only at e ⊢
      by_cases hl : leadsOf s = true
      · rw [if_pos hl] at e ⊢
        by_cases h64 : dp = 64
        · rw [if_pos h64] at e; cases e
        · rw [if_neg h64] at e
          by_cases h65 : dp + q = 64
          · rw [if_pos h65]
            exact .inr ⟨by omega, rfl⟩
          · rw [if_neg h65]
            split at e
            · cases e
            · rename_i hs
              simp only [Except.ok.injEq, Prod.mk.injEq] at e
              obtain ⟨rfl, rfl⟩ := e
              have := (h (dp + 1)).2.2 _ _ _ hs
              rw [show dp + 1 + q = dp + q + 1 by omega] at this
              rcases this with h1 | ⟨h0, h1⟩
              · rw [h1]; exact .inl rfl
              · rw [h1]; exact .inr ⟨h0, rfl⟩
      · rw [if_neg hl] at e ⊢
        by_cases hp : s = [40]
        · rw [if_pos hp] at e ⊢
          by_cases h64 : dp = 64
          · rw [if_pos h64] at e; cases e
          · rw [if_neg h64] at e
            by_cases h65 : dp + q = 64
            · rw [if_pos h65]
              exact .inr ⟨by omega, rfl⟩
            · rw [if_neg h65]
              split at e
              · cases e
              · rename_i hs
                have := (h (dp + 1)).1 _ _ _ hs
                rw [show dp + 1 + q = dp + q + 1 by omega] at this
                split at e
                · split at e
                  · rename_i h41
                    simp only [Except.ok.injEq, Prod.mk.injEq] at e
                    obtain ⟨rfl, rfl⟩ := e
                    rcases this with h1 | ⟨h0, h1⟩
                    · rw [h1, List.cons_append]; exact .inl (by dsimp only; rw [if_pos h41])
                    · rw [h1]; exact .inr ⟨h0, rfl⟩
                  · cases e
                · cases e
        · rw [if_neg hp] at e; cases e
theorem stop_loop {z : List Tok} (hz : Stop z) (sub : List Tok → Rr) (tight : Nat) (h : 1 ≤ tight) (n : Nat) (t : Tm) : pairLoop sub tight n t z = .ok (t, z) := by
  cases n with
  | zero => rfl
  | succ n => rcases hz with rfl | ⟨z', rfl⟩
              · rfl
              · exact if_neg (by show ¬ 0 = tight; omega)
theorem pairLoop_dq {q : Nat} {z : List Tok} (hz : Stop z) {sub sub' : List Tok → Rr} (h : Dq q z sub sub') (hs : Lss sub) (tight : Nat) (ht : 1 ≤ tight) : ∀ (n m : Nat) (t : Tm) (l : List Tok) (t2 : Tm) (r : List Tok), l.length < n → (l ++ z).length < m → pairLoop sub tight n t l = .ok (t2, r) →
    pairLoop sub' tight m t (l ++ z) = .ok (t2, r ++ z) ∨ (q ≠ 0 ∧ pairLoop sub' tight m t (l ++ z) = .error 63)
  | 0, m, t, l, t2, r, hn, _, _ => absurd hn (by omega)
  | n + 1, 0, t, l, t2, r, hn, hm, _ => absurd hm (by omega)
  | n + 1, m + 1, t, l, t2, r, hn, hm, e => by
    cases l with
    | nil =>
      simp only [pairLoop, Except.ok.injEq, Prod.mk.injEq] at e
      obtain ⟨rfl, rfl⟩ := e
      exact .inl (stop_loop hz sub' tight ht _ _)
    | cons a l =>
      rw [List.cons_append]
      unfold pairLoop at e ⊢
      cases a with
      | num x k => simp only [Except.ok.injEq, Prod.mk.injEq] at e ⊢; exact .inl ⟨e.1, by rw [← e.2]; rfl⟩
      | nam x => simp only [Except.ok.injEq, Prod.mk.injEq] at e ⊢; exact .inl ⟨e.1, by rw [← e.2]; rfl⟩
      | sg s =>
        dsimp only at e ⊢
        by_cases hti : tightOf s = tight
        · rw [if_pos hti] at e ⊢
          split at e
          · cases e
          · rename_i u r2 hu
            have h1 := h _ _ _ hu
            have h2 := hs _ _ _ hu
            rcases h1 with h1 | ⟨h0, h1⟩
            · rw [h1]
              dsimp only
              refine pairLoop_dq hz h hs tight ht n m _ r2 _ _ ?_ ?_ e
              · simp only [List.length_cons] at hn; omega
              · simp only [List.length_cons, List.length_append] at hm ⊢; omega
            · rw [h1]; exact .inr ⟨h0, rfl⟩
        · rw [if_neg hti] at e ⊢
          simp only [Except.ok.injEq, Prod.mk.injEq] at e ⊢
          exact .inl ⟨e.1, by rw [← e.2]; rfl⟩
theorem pairsK_dq {q : Nat} {z : List Tok} (hz : Stop z) {lead lead' : List Tok → Rr} (h : Dq q z lead lead') (hs : Lss lead) : ∀ k, k ≤ 10 → Dq q z (pairsK lead k) (pairsK lead' k)
  | 0, _ => h
  | k + 1, hk => by
    intro l t r e
    unfold pairsK at e ⊢
    split at e
    · cases e
    · rename_i u r2 hu
      rcases pairsK_dq hz h hs k (by omega) _ _ _ hu with h1 | ⟨h0, h1⟩
      · rw [h1]
        dsimp only
        exact pairLoop_dq hz (pairsK_dq hz h hs k (by omega)) (pairsK_less hs k) _ (by omega) _ _ _ _ _ _ (by omega) (by omega) e
      · rw [h1]; exact .inr ⟨h0, rfl⟩
theorem condF_dq {q : Nat} {z : List Tok} (hz : Stop z) {d d' : Rd} (hq : q ≤ 1) (h : RdDq q z d d') (hl : RdLess d) (dp : Nat) : Dq q z (condF d dp) (condF d' (dp + q)) := by
  intro l t r e
  unfold condF at e ⊢
  split at e
  · cases e
  · rename_i u r2 hu
    rcases pairsK_dq hz (leadF_dq hq h dp) (leadF_less hl dp) 10 (by omega) _ _ _ hu with h1 | ⟨h0, h1⟩
    · rw [h1]
      dsimp only
      cases r2 with
      | nil =>
        simp only [Except.ok.injEq, Prod.mk.injEq] at e
        obtain ⟨rfl, rfl⟩ := e
        rcases hz with rfl | ⟨z', rfl⟩
        · exact .inl rfl
        · exact .inl (if_neg (by decide))
      | cons a r2 =>
        rw [List.cons_append]
        cases a with
        | num x k => simp only [Except.ok.injEq, Prod.mk.injEq] at e ⊢; exact .inl ⟨e.1, by rw [← e.2]; rfl⟩
        | nam x => simp only [Except.ok.injEq, Prod.mk.injEq] at e ⊢; exact .inl ⟨e.1, by rw [← e.2]; rfl⟩
        | sg s =>
          dsimp only at e ⊢
          by_cases h63 : s = [63]
          · rw [if_pos h63] at e ⊢
            split at e
            · cases e
            · rename_i y r3 hy
              rcases (h dp).1 _ _ _ hy with h2 | ⟨h0, h2⟩
              · rw [h2]
                dsimp only
                split at e
                · rename_i s2 r4
                  rw [List.cons_append]
                  dsimp only
                  split at e
                  · rename_i h58
                    rw [if_pos h58]
                    split at e
                    · cases e
                    · rename_i z2 r5 hz2
                      simp only [Except.ok.injEq, Prod.mk.injEq] at e
                      obtain ⟨rfl, rfl⟩ := e
                      rcases (h dp).2.1 _ _ _ hz2 with h3 | ⟨h0, h3⟩
                      · rw [h3]; exact .inl rfl
                      · rw [h3]; exact .inr ⟨h0, rfl⟩
                  · cases e
                · cases e
              · rw [h2]; exact .inr ⟨h0, rfl⟩
          · rw [if_neg h63] at e ⊢
            simp only [Except.ok.injEq, Prod.mk.injEq] at e ⊢
            exact .inl ⟨e.1, by rw [← e.2]; rfl⟩
    · rw [h1]; exact .inr ⟨h0, rfl⟩
theorem allF_dq {q : Nat} {z : List Tok} (hz : Stop z) {d d' : Rd} (hq : q ≤ 1) (h : RdDq q z d d') (hl : RdLess d) (dp : Nat) : Dq q z (allF d dp) (allF d' (dp + q)) := by
  intro l t r e
  have hc := condF_dq hz hq h hl dp
  cases l with
  | nil =>
    have e2 : condF d dp [] = .ok (t, r) := e
    cases e2
  | cons a l =>
    cases a with
    | num x k => exact hc _ _ _ e
    | sg s => exact hc _ _ _ e
    | nam x =>
      cases l with
      | nil =>
        have e2 : condF d dp [.nam x] = .ok (t, r) := e
        have := hc _ _ _ e2
        rcases hz with rfl | ⟨z', rfl⟩
        · exact this
        · have e3 : allF d' (dp + q) ([Tok.nam x] ++ .sg [41] :: z') = condF d' (dp + q) ([Tok.nam x] ++ .sg [41] :: z') := rfl
          rw [e3]; exact this
      | cons b l =>
        cases b with
        | num y k => exact hc (.nam x :: .num y k :: l) t r e
        | nam y => exact hc (.nam x :: .nam y :: l) t r e
        | sg s =>
          have hcc := hc (.nam x :: .sg s :: l) t r
          rw [List.cons_append, List.cons_append] at hcc ⊢
          unfold allF at e ⊢
          dsimp only at e ⊢
          cases hg : givesOf s with
          | none => rw [hg] at e; exact hcc e
          | some b =>
            rw [hg] at e
            dsimp only at e ⊢
            split at e
            · cases e
            · rename_i u r2 hu
              simp only [Except.ok.injEq, Prod.mk.injEq] at e
              obtain ⟨rfl, rfl⟩ := e
              rcases (h dp).1 _ _ _ hu with h1 | ⟨h0, h1⟩
              · rw [h1]; exact .inl rfl
              · rw [h1]; exact .inr ⟨h0, rfl⟩
theorem rd_dq {q : Nat} {z : List Tok} (hz : Stop z) (hq : q ≤ 1) : ∀ n m, n ≤ m → RdDq q z (rd n) (rd m)
  | 0, _, _ => fun dp => ⟨(fun l t r e => nomatch e), (fun l t r e => nomatch e), (fun l t r e => nomatch e)⟩
  | n + 1, 0, h => absurd h (by omega)
  | n + 1, m + 1, h => fun dp => ⟨allF_dq hz hq (rd_dq hz hq n m (by omega)) (rd_less n) dp, condF_dq hz hq (rd_dq hz hq n m (by omega)) (rd_less n) dp, leadF_dq hq (rd_dq hz hq n m (by omega)) dp⟩
/-- In parentheses: the same, or too deep. -/
theorem read_paren {l : List Tok} {t : Tm} (h : readL l = .ok t) : readL (.sg [40] :: (l ++ [.sg [41]])) = .ok t ∨ readL (.sg [40] :: (l ++ [.sg [41]])) = .error 63 := by
  unfold readL at h
  split at h
  · cases h
  · rename_i u r hu
    split at h
    · rename_i hr
      simp only [Except.ok.injEq] at h
      subst h
      cases r with
      | cons a r => cases hr
      | nil =>
        have hq := (rd_dq (q := 1) (z := [.sg [41]]) (.inr ⟨[], rfl⟩) (by omega) (l.length + 1) (l.length + 2) (by omega) 0).1 _ _ _ hu
        have key : ∀ x, leadF (rd (l.length + 2)) 0 (.sg [40] :: (l ++ [.sg [41]])) = x → (x = .ok (u, []) → readL (.sg [40] :: (l ++ [.sg [41]])) = .ok u) ∧ (x = .error 63 → readL (.sg [40] :: (l ++ [.sg [41]])) = .error 63) := by
          intro x hx
          have hal : (rd ((Tok.sg [40] :: (l ++ [Tok.sg [41]])).length + 1)).all 0 (.sg [40] :: (l ++ [.sg [41]])) = condF (rd (l.length + 2)) 0 (.sg [40] :: (l ++ [.sg [41]])) := by
            rw [show (Tok.sg [40] :: (l ++ [Tok.sg [41]])).length + 1 = l.length + 2 + 1 by simp]
            rfl
          have hK : ∀ k, (x = .ok (u, []) → pairsK (leadF (rd (l.length + 2)) 0) k (.sg [40] :: (l ++ [.sg [41]])) = .ok (u, [])) ∧ (x = .error 63 → pairsK (leadF (rd (l.length + 2)) 0) k (.sg [40] :: (l ++ [.sg [41]])) = .error 63) := by
            intro k
            induction k with
            | zero => exact ⟨fun e => by rw [pairsK, hx, e], fun e => by rw [pairsK, hx, e]⟩
            | succ k ih => exact ⟨fun e => by rw [pairsK, ih.1 e]; rfl, fun e => by rw [pairsK, ih.2 e]⟩
          refine ⟨fun e => ?_, fun e => ?_⟩
          · unfold readL; rw [hal]; unfold condF; rw [(hK 10).1 e]; rfl
          · unfold readL; rw [hal]; unfold condF; rw [(hK 10).2 e]
        have hle : leadF (rd (l.length + 2)) 0 (.sg [40] :: (l ++ [.sg [41]])) = match (rd (l.length + 2)).all 1 (l ++ [.sg [41]]) with
          | .error e => .error e
          | .ok (t, r2) => match r2 with
            | .sg s2 :: r3 => if s2 = [41] then .ok (t, r3) else .error 61
            | _ => .error 61 := rfl
        rw [show (0 : Nat) + 1 = 1 from rfl] at hq
        rcases hq with h1 | ⟨_, h1⟩
        · rw [h1] at hle
          exact .inl ((key _ hle).1 rfl)
        · rw [h1] at hle
          exact .inr ((key _ hle).2 rfl)
    · cases h
/-- A name that is given what is read. -/
theorem read_gift {l : List Tok} {t : Tm} (n : Bs) (h : readL l = .ok t) : readL (.nam n :: .sg [61] :: l) = .ok (.gift [] n t) := by
  unfold readL at h
  split at h
  · cases h
  · rename_i u r hu
    split at h
    · rename_i hr
      simp only [Except.ok.injEq] at h
      subst h
      cases r with
      | cons a r => cases hr
      | nil =>
        have hq := (rd_dq (q := 0) (z := []) (.inl rfl) (by omega) (l.length + 1) (l.length + 2) (by omega) 0).1 _ _ _ hu
        rcases hq with h1 | ⟨h0, _⟩
        · rw [List.append_nil, List.append_nil] at h1
          have hal : (rd ((Tok.nam n :: .sg [61] :: l).length + 1)).all 0 (.nam n :: .sg [61] :: l) = match (rd (l.length + 2)).all 0 l with
            | .error e => .error e
            | .ok (x, r2) => .ok (.gift [] n x, r2) := rfl
          unfold readL
          rw [hal, show (0 : Nat) + 0 = 0 from rfl] at *
          rw [h1]
          rfl
        · exact absurd rfl h0
    · cases h
theorem read_gift_none (n : Bs) : readL [.nam n, .sg [61]] = .error 61 := rfl
end ArM
namespace Go.Proofs.YtcadnkanjlmfhaaGreatDoor.Ar
open Go.RowKit
open PathM WdM ArM
open Go.Proofs.YtcadnkanjlmfhaaGreatDoor.Wd
set_option linter.unusedVariables false

/-- A call of the reader that reads as a function says, from few tokens. -/
def Ok1 (n : Nat) (rb dp m : Nat) (args : Array Value) (f : List Tok → Rr) : Prop := ∀ l w, l.length < m → RdA w rb l dp → Calls Tryz.prog n (#[.pointer (some ⟨rb, 0, none⟩)] ++ args) w (RdPost rb dp (f l) w)
theorem RdPost.form {rb dp : Nat} {m : Rr} {w w' : World} {e : Ending} (h : RdPost rb dp m w e w') : ∃ v x, e = .returned (.tuple #[v, .int .i64 x]) ∧ IfV v := by
  obtain ⟨_, h⟩ := h
  split at h
  · exact ⟨_, _, h.1, tmV_if _⟩
  · obtain ⟨v, r, h, _, _, hi⟩ := h; exact ⟨_, _, h, hi⟩
set_option maxHeartbeats 1600000 in
theorem pairs_zero (rb dp m : Nat) (lead : List Tok → Rr) (hL : Ok1 68 rb dp m #[] lead) : Ok1 58 rb dp m #[.int .i64 11] (pairsK lead 0) := by
  intro l w hl h
  have HL := Lib.hid (hL l w hl h)
  rw [pairsK]
  clear hL h
  generalize lead l = M at *
  show Calls _ _ #[.pointer (some ⟨rb, 0, none⟩), .int .i64 11] _ _
  go_enter Tryz.func58, Tryz.ntmps58
  go_wp2_with (go_at_call 68; refine HL.out.mono ?_; rintro e W hP; obtain ⟨v, x, rfl, _⟩ := hP.form; have HP := Lib.hid hP; clear hP)
  go_ret2
  exact HP.out
theorem fieldK0 (a0 a1 a2 : Value) (W : World) : (Instr.field 72 (.agg #[a0, a1, a2]) 0).run Tryz.prog W = .ok a0 W := by kernel_rfl
theorem IfV.cells {v : Value} (h : IfV v) : v.cells = #[v] := by
  rcases h with rfl | ⟨_, _, rfl⟩ <;> rfl
/-- A reader, with the slice that it holds. -/
def RdB (w : World) (rb : Nat) (v : Value) (l : List Tok) (dp : Nat) : Prop := w.heap[rb]? = some (.cells #[v, .int .i64 dp] 76 (0, 0)) ∧ TksIn rb w v l ∧ dp ≤ 64
theorem RdB.a {w : World} {rb dp : Nat} {v : Value} {l : List Tok} (h : RdB w rb v l dp) : RdA w rb l dp := ⟨v, h⟩
theorem RdB.lt {w : World} {rb dp : Nat} {v : Value} {l : List Tok} (h : RdB w rb v l dp) : rb < w.heap.size := fin_at h.1
theorem RdB.c0 {w : World} {rb dp : Nat} {v : Value} {l : List Tok} (h : RdB w rb v l dp) : w.cell? ⟨rb, 0, none⟩ = some v := cell_blk h.1 0
theorem RdB.c1 {w : World} {rb dp : Nat} {v : Value} {l : List Tok} (h : RdB w rb v l dp) : w.cell? ⟨rb, 1, none⟩ = some (.int .i64 dp) := cell_blk h.1 1
theorem RdB.fz {w : World} {rb dp : Nat} {v : Value} {l : List Tok} (h : RdB w rb v l dp) (j : Nat) : w.frozen? ⟨rb, j, none⟩ = false := froz_blk h.1 j
theorem RdB.told {w w' : World} {rb dp : Nat} {v : Value} {l : List Tok} (h : RdB w rb v l dp) (hb : Below w.heap.size w w') : RdB w' rb v l dp :=
  ⟨(hb.block rb h.lt).trans h.1, h.2.1.keep (fun b hb2 => hb.block b (by have := h.lt; omega)), h.2.2⟩
theorem RdB.less {w : World} {rb dp b off n c m c2 : Nat} {t : Tok} {l : List Tok} (h : RdB w rb (.slice (some ⟨b, off, none⟩) n c) (t :: l) dp) (hm : m = l.length) (hc2 : c2 = c - 1) : RdA (w.setCell ⟨rb, 0, none⟩ (.slice (some ⟨b, off + 3, none⟩) m c2)) rb l dp := RdA.less h.1 h.2.1 h.2.2 hm hc2
theorem RdB.last {w : World} {rb dp m : Nat} {v : Value} {A2 : Option Addr} {t : Tok} {l : List Tok} (h : RdB w rb v (t :: l) dp) (hm : m = l.length) (h0 : m = 0) : RdA (w.setCell ⟨rb, 0, none⟩ (.slice A2 m 0)) rb l dp := by
  obtain ⟨hb, h, hd⟩ := h
  obtain ⟨b, off, c, rfl, _⟩ := h.head
  exact RdA.last (t := t) hb hd hm h0
/-- Where the loop stands: what was read, or what it was given up with. -/
def PrSt (rb dp tight : Nat) (sub : List Tok → Rr) (res : Rr) (w : World) (L g : Nat) (tv : Value) (ev : Int) (W : World) : Prop :=
  Kept (· = rb) w W ∧ ((ev = 0 ∧ ∃ t l n, tv = tmV t ∧ RdA W rb l dp ∧ l.length < n ∧ l.length ≤ L ∧ g = l.length + 1 ∧ pairLoop sub tight n t l = res) ∨ (ev ≠ 0 ∧ g = 0 ∧ RdPost rb dp res w (.returned (.tuple #[tv, .int .i64 ev])) W))
set_option maxRecDepth 100000 in
set_option maxHeartbeats 3200000 in
theorem pairs_some (rb dp m k tight : Nat) (hk : tight + k = 10) (hk2 : 1 ≤ tight) (lead : List Tok → Rr) (hL : Ok1 58 rb dp m #[.int .i64 ((tight : Int) + 1)] (pairsK lead k)) (hs : Lss (pairsK lead k)) : Ok1 58 rb dp m #[.int .i64 (tight : Int)] (pairsK lead (k + 1)) := by
  intro l w hl h
  have hL1 : Calls Tryz.prog 58 #[.pointer (some ⟨rb, 0, none⟩), .int .i64 ((tight : Int) + 1)] w _ := hL l w hl h
  have e10 : 10 - k = tight := by omega
  obtain ⟨res, hres⟩ : ∃ res : Rr, pairsK lead (k + 1) l = res := ⟨_, rfl⟩
  rw [hres]
  rw [pairsK, e10] at hres
  have ht : tight ≤ 10 := by omega
  have HP1 := Lib.hid hL1
  have HLL := Lib.hid hL
  have hrb := h.lt
  clear hL1 hL h
  show Calls _ _ #[.pointer (some ⟨rb, 0, none⟩), .int .i64 (tight : Int)] _ _
  have HSS := Lib.hid hs
  obtain ⟨sub, hsub⟩ : ∃ sub, pairsK lead k = sub := ⟨_, rfl⟩
  rw [hsub] at HP1 HLL HSS hres
  clear hs hsub e10 hk k
  have HST : Hid (∀ v x W, RdPost rb dp (sub l) w (.returned (.tuple #[v, .int .i64 x])) W → ∃ g, PrSt rb dp tight sub res w m g v x W) := Lib.hid (by
    intro v x W hP
    obtain ⟨hk, hP⟩ := hP
    cases hM : sub l with
    | ok p =>
      obtain ⟨t, r⟩ := p
      rw [hM] at hP hres
      obtain ⟨he, hr⟩ := hP
      simp only [Ending.returned.injEq, Value.tuple.injEq, Array.mk.injEq, List.cons.injEq, Value.int.injEq, and_true, true_and] at he
      obtain ⟨rfl, rfl⟩ := he
      have := HSS.out _ _ _ hM
      exact ⟨_, hk, .inl ⟨rfl, t, r, r.length + 1, rfl, hr, by omega, by omega, rfl, hres⟩⟩
    | error er =>
      rw [hM] at hP hres
      obtain ⟨v', r, he, hr, hne, hi⟩ := hP
      simp only [Ending.returned.injEq, Value.tuple.injEq, Array.mk.injEq, List.cons.injEq, Value.int.injEq, and_true, true_and] at he
      obtain ⟨rfl, rfl⟩ := he
      exact ⟨0, hk, .inr ⟨hne, rfl, by rw [← hres]; exact ⟨hk, _, r, rfl, hr, hne, hi⟩⟩⟩)
  clear hres
  go_enter Tryz.func58, Tryz.ntmps58
  go_wp2_with fail
  refine HP1.out.mono ?_
  intro e W hP
  obtain ⟨v, x, rfl, _⟩ := hP.form
  obtain ⟨g, hg⟩ := HST.out _ _ _ hP
  have HG := Lib.hid hg
  clear hP hg
  go_wp2_with fail
  go_loopg [6, 7] g (fun gk y6 y7 wr => ∃ ev : Int, y7 = .int .i64 ev ∧ PrSt rb dp tight sub res w m gk y6 ev wr)
  case atStart => exact ⟨x, rfl, HG.out⟩
  case round =>
    clear HG HST HP1
    have fk0 := fieldK0
    obtain ⟨ev, rfl, hk, hrel⟩ := hrel
    rcases hrel with ⟨rfl, t, r, n, rfl, hr, hn, hrl, hgk, hp⟩ | ⟨hne, hg0, hP⟩
    · have HK := Lib.hid hk
      have HP := Lib.hid hp
      have HGK := Lib.hid hgk
      obtain ⟨v0, hr⟩ := hr
      replace hr : RdB wr rb v0 r dp := hr
      generalize htv : tmV t = tv at *
      have HTV := Lib.hid htv
      clear hk hp hgk htv
      cases r with
      | nil =>
        have hres : res = .ok (t, []) := by
          rw [← HP.out]
          obtain ⟨n, rfl⟩ : ∃ n', n = n' + 1 := ⟨n - 1, by omega⟩
          rfl
        have HN := Lib.hid (next_none rb dp wr hr.a)
        have HT := Lib.hid (tight_any [])
        rw [show tightOf [] = 0 from rfl] at HT
        unfold noTok at HN
        have HE : Hid (∀ W, Below wr.heap.size wr W → RdPost rb dp res w (.returned (.tuple #[tv, .int .i64 0])) W) := Lib.hid (fun W hb => RdPost.yes hres HTV.out.symm (HK.out.trans (kept_of_below hb)) (hr.told hb).a)
        generalize nm [] = S at *
        clear hr hres
        go_wp2_with (first | (go_at_call 69; refine HN.out.mono ?_; rintro e W1 ⟨rfl, hb⟩; have HB1 := Lib.hid hb; clear hb) | (go_at_call 70; refine (HT.out _).mono ?_; rintro e W2 ⟨rfl, rfl⟩))
        go_ret2
        exact HE.out _ HB1.out
      | cons u r =>
        have HN : Hid (∀ W, Below wr.heap.size wr W → Calls Tryz.prog 69 #[.pointer (some ⟨rb, 0, none⟩)] W fun e w' => e = .returned (tokV u) ∧ Below W.heap.size W w') := Lib.hid (fun W hb => next_some u r rb dp W (hr.told hb).a)
        have HT := Lib.hid (tight_any (sgOf u))
        unfold tokV at HN
        have HB0 := Lib.hid (Below.refl wr.heap.size wr)
        by_cases hu : tightOf (sgOf u) = tight
        · obtain ⟨sg, rfl⟩ : ∃ sg, u = .sg sg := by
            cases u with
            | sg s => exact ⟨s, rfl⟩
            | num x k => exact absurd hu (by show ¬ 0 = tight; omega)
            | nam x => exact absurd hu (by show ¬ 0 = tight; omega)
          obtain ⟨n, rfl⟩ : ∃ n', n = n' + 1 := ⟨n - 1, by omega⟩
          have hHU : tightOf sg = tight := hu
          have HNX : Hid (∀ W3 v x W4, Kept (· = rb) wr W3 → RdPost rb dp (sub r) W3 (.returned (.tuple #[v, .int .i64 x])) W4 → ∃ g', g' < gk ∧ PrSt rb dp tight sub res w m g' (.iface 128 (.agg #[.string (nm sg), tv, v])) x W4) := Lib.hid (by
            intro W3 v x W4 hk3 hP4
            have hp := HP.out
            unfold pairLoop at hp
            simp only at hp
            rw [if_pos hHU] at hp
            obtain ⟨hk4, hP4⟩ := hP4
            have hkk := HK.out.trans (hk3.trans hk4)
            cases hM : sub r with
            | ok p =>
              obtain ⟨t2, r2⟩ := p
              rw [hM] at hP4 hp
              obtain ⟨he, hr4⟩ := hP4
              simp only [Ending.returned.injEq, Value.tuple.injEq, Array.mk.injEq, List.cons.injEq, Value.int.injEq, and_true, true_and] at he
              obtain ⟨rfl, rfl⟩ := he
              have hl2 := HSS.out _ _ _ hM
              have hgk := HGK.out
              simp only [List.length_cons] at hn hrl hgk
              refine ⟨r2.length + 1, by omega, hkk, .inl ⟨rfl, .pair sg t t2, r2, n, ?_, hr4, by omega, by omega, rfl, hp⟩⟩
              rw [← HTV.out]; rfl
            | error er =>
              rw [hM] at hP4 hp
              obtain ⟨v', r4, he, hr4, hne, _⟩ := hP4
              simp only [Ending.returned.injEq, Value.tuple.injEq, Array.mk.injEq, List.cons.injEq, Value.int.injEq, and_true, true_and] at he
              obtain ⟨rfl, rfl⟩ := he
              have hgk := HGK.out
              exact ⟨0, by omega, hkk, .inr ⟨hne, rfl, RdPost.no hp.symm hne (.inr ⟨_, _, rfl⟩) hkk hr4⟩⟩)
          obtain ⟨b, off, c, rfl, hlt, hlc, hlm, _, _⟩ := hr.2.1.head
          have HC : Hid (∀ W mm c2, Below wr.heap.size wr W → mm = r.length → c2 = c - 1 → Calls Tryz.prog 58 #[.pointer (some ⟨rb, 0, none⟩), .int .i64 ((tight : Int) + 1)] (W.setCell ⟨rb, 0, none⟩ (.slice (some ⟨b, off + 3, none⟩) mm c2)) (RdPost rb dp (sub r) (W.setCell ⟨rb, 0, none⟩ (.slice (some ⟨b, off + 3, none⟩) mm c2)))) :=
            Lib.hid (fun W mm c2 hW hm h2 => HLL.out r _ (by simp only [List.length_cons] at hrl; omega) ((hr.told hW).less hm h2))
          have HC2 : Hid (∀ W A2 mm, Below wr.heap.size wr W → mm = r.length → mm = 0 → Calls Tryz.prog 58 #[.pointer (some ⟨rb, 0, none⟩), .int .i64 ((tight : Int) + 1)] (W.setCell ⟨rb, 0, none⟩ (.slice A2 mm 0)) (RdPost rb dp (sub r) (W.setCell ⟨rb, 0, none⟩ (.slice A2 mm 0)))) :=
            Lib.hid (fun W A2 mm hW hm h2 => HLL.out r _ (by simp only [List.length_cons] at hrl; omega) ((hr.told hW).last hm h2))
          have HKK : Hid (∀ W v, Below wr.heap.size wr W → Kept (· = rb) wr (W.setCell ⟨rb, 0, none⟩ v)) := Lib.hid (fun W v hW => (kept_of_below hW).trans (Kept.setCell (S := (· = rb)) ⟨rb, 0, none⟩ v rfl))
          have HR := Lib.hid hr
          have hS : sgOf (.sg sg) = sg := rfl
          rw [hS] at HN HT
          have hu2 : ((tightOf sg : Nat) : Int) = (tight : Int) := by omega
          generalize tightOf sg = tu at *
          generalize nm sg = S at *
          generalize nm (Tok.sg sg).text = T at *
          generalize nOf (.sg sg) = kk at *
          generalize hN : r.length = mm at *
          clear hr hu hHU hN hrl hn hlm hS
          go_wp2_with (first | (go_at_call 69; refine (HN.out _ HB0.out).mono ?_; rintro e W1 ⟨rfl, hb⟩; replace HB0 := Lib.hid (HB0.out.trans (hb.mono HB0.out.size)); have c0 := (HR.out.told HB0.out).c0; have f0 := (HR.out.told HB0.out).fz 0; have hrw := (HR.out.told HB0.out).lt; clear hb) | (go_at_call 70; refine (HT.out _).mono ?_; rintro e W2 ⟨rfl, rfl⟩))
          all_goals first | refine (HC.out _ _ _ HB0.out rfl rfl).mono ?_ | refine (HC2.out _ _ _ HB0.out rfl (by omega)).mono ?_
          all_goals
            intro e W4 hP4
            obtain ⟨v2, x2, rfl, hi2⟩ := hP4.form
            have hi1 : IfV tv := by have := tmV_if t; rwa [HTV.out] at this
            obtain ⟨g', hg', hst⟩ := HNX.out _ _ _ _ (HKK.out _ _ HB0.out) hP4
            have HST := Lib.hid hst
            have HGG := Lib.hid hg'
            clear hst hP4 HN HT HC HC2 HNX HKK HTV HR hg'
            rcases hi1 with rfl | ⟨T1, z1, rfl⟩ <;> rcases hi2 with rfl | ⟨T2, z2, rfl⟩ <;> (go_wp2_with fail; go_roundg g'; (case measure => exact HGG.out); (case rel => exact ⟨x2, rfl, HST.out⟩))
        · have hres : res = .ok (t, u :: r) := by
            rw [← HP.out]
            obtain ⟨n, rfl⟩ : ∃ n', n = n' + 1 := ⟨n - 1, by omega⟩
            unfold pairLoop
            cases u with
            | sg s => exact if_neg hu
            | num x k => rfl
            | nam x => rfl
          have HE : Hid (∀ W, Below wr.heap.size wr W → RdPost rb dp res w (.returned (.tuple #[tv, .int .i64 0])) W) := Lib.hid (fun W hb => RdPost.yes hres HTV.out.symm (HK.out.trans (kept_of_below hb)) (hr.told hb).a)
          have hu2 : ¬ ((tightOf (sgOf u) : Nat) : Int) = (tight : Int) := by omega
          generalize tightOf (sgOf u) = tu at *
          generalize nm (sgOf u) = S at *
          generalize nm u.text = T at *
          generalize nOf u = k at *
          clear hr hres hu
          go_wp2_with (first | (go_at_call 69; refine (HN.out _ HB0.out).mono ?_; rintro e W1 ⟨rfl, hb⟩; have HB1 := Lib.hid hb; clear hb) | (go_at_call 70; refine (HT.out _).mono ?_; rintro e W2 ⟨rfl, rfl⟩))
          go_ret2
          exact HE.out _ HB1.out
    · have HPP := Lib.hid hP
      have q := hne
      clear hk hP hg0
      go_wp2_with fail
      go_ret2
      exact HPP.out
theorem pairs_all (rb dp m : Nat) (lead : List Tok → Rr) (hL : Ok1 68 rb dp m #[] lead) (hs : Lss lead) : ∀ (k tight : Nat), tight + k = 11 → k ≤ 10 → Ok1 58 rb dp m #[.int .i64 (tight : Int)] (pairsK lead k)
  | 0, tight, h, _ => by
    have e : tight = 11 := by omega
    subst e
    exact pairs_zero rb dp m lead hL
  | k + 1, tight, h, hk => by
    refine pairs_some rb dp m k tight (by omega) (by omega) lead ?_ (pairsK_less hs k)
    have := pairs_all rb dp m lead hL hs k (tight + 1) (by omega) (by omega)
    exact this

end Go.Proofs.YtcadnkanjlmfhaaGreatDoor.Ar
