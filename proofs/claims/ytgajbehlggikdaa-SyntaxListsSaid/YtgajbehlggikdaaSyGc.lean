/- DERIVED. Plain mathematics of layer 8: what stands ahead of a script, and SyntaxBlanks. -/
import Derived.Test.YtgajbehlggikdaaSyGb
namespace SyM
open PathM WdM
set_option linter.unusedVariables false

section
variable {l l' : Bs} (h : aheadL l = aheadL l')
include h
theorem next_same : nextL l = nextL l' := by unfold nextL; rw [h]
theorem pass_eq (what : Bs) : passL what l = passL what l' := by unfold passL; rw [next_same h]
theorem stands_same : wordStands l = wordStands l' := by unfold wordStands; rw [h]
theorem arrow_same : arrowL l = arrowL l' := by unfold arrowL; rw [h]
theorem refuse_same {α : Type} : (refuse l : Rs α) = refuse l' := by unfold refuse; rw [h]
theorem word_same (sc : Bs → Option Int) : wordL sc l = wordL sc l' := by unfold wordL; rw [stands_same h, h, refuse_same h]
theorem redir_same (sc : Bs → Option Int) : redirL sc l = redirL sc l' := by unfold redirL; rw [arrow_same h]
theorem over_same : overL l = overL l' := by unfold overL; rw [h]
theorem listsEnd_same : listsEnd l = listsEnd l' := by unfold listsEnd; rw [next_same h, over_same h]
theorem name_same : nameL l = nameL l' := by unfold nameL; rw [next_same h, refuse_same h]
end
theorem simpleN_fuel (sc : Bs → Option Int) : ∀ (n m : Nat) (as : List AsT) (ws : List (List PT)) (rs : List RdT) (l : Bs), l.length < n → l.length < m → simpleN sc n as ws rs l = simpleN sc m as ws rs l
  | 0, m, as, ws, rs, l, hn, _ => by omega
  | n + 1, 0, as, ws, rs, l, hn, hm => by omega
  | n + 1, m + 1, as, ws, rs, l, hn, hm => by
    rw [simpleN, simpleN]
    by_cases ha : (arrowL l).isSome = true
    · rw [if_pos ha, if_pos ha]
      cases hr : redirL sc l with
      | bad a e => rfl
      | ok x r =>
        obtain ⟨_, h2⟩ := redir_ext [] hr ha
        exact simpleN_fuel sc n m _ _ _ r (by omega) (by omega)
    · rw [if_neg ha, if_neg ha]
      by_cases hw : wordStands l = true
      · rw [if_pos hw, if_pos hw]
        cases hr : wordL sc l with
        | bad a e => rfl
        | ok w r =>
          have hl := word_less hr
          simp only []
          cases assignL w with
          | none => exact simpleN_fuel sc n m _ _ _ r (by omega) (by omega)
          | some x =>
            simp only []
            by_cases hws : ws = []
            · rw [if_pos hws, if_pos hws]; exact simpleN_fuel sc n m _ _ _ r (by omega) (by omega)
            · rw [if_neg hws, if_neg hws]; exact simpleN_fuel sc n m _ _ _ r (by omega) (by omega)
      · rw [if_neg hw, if_neg hw]
theorem simple_same {l l' : Bs} (h : aheadL l = aheadL l') (sc : Bs → Option Int) : simpleL sc l = simpleL sc l' := by
  unfold simpleL
  by_cases hg : endingL (nextL l).1 = true ∨ ((arrowL l).isNone = true ∧ wordStands l = false)
  · rw [if_pos hg, if_pos (by rw [← next_same h, ← arrow_same h, ← stands_same h]; exact hg), refuse_same h]
  · rw [if_neg hg, if_neg (by rw [← next_same h, ← arrow_same h, ← stands_same h]; exact hg)]
    rw [simpleN_fuel sc (l.length + 1) (l.length + l'.length + 1) [] [] [] l (by omega) (by omega), simpleN_fuel sc (l'.length + 1) (l.length + l'.length + 1) [] [] [] l' (by omega) (by omega)]
    rw [simpleN, simpleN, ← arrow_same h, ← redir_same h, ← stands_same h, ← word_same h]
    by_cases ha : (arrowL l).isSome = true
    · rw [if_pos ha, if_pos ha]
    · rw [if_neg ha, if_neg ha]
      by_cases hw : wordStands l = true
      · rw [if_pos hw, if_pos hw]
      · exact absurd (Or.inr ⟨by cases hx : arrowL l with
          | none => rfl
          | some y => rw [hx] at ha; exact absurd rfl ha, by simpa using hw⟩) hg
/-- A reader that sees nothing of what is passed over, or leaves it. -/
def Same0 (f : Bs → Rs (Option CmdT)) : Prop := ∀ l l', aheadL l = aheadL l' → f l = f l' ∨ (f l = .ok none l ∧ f l' = .ok none l')
theorem compound_same (lists : Bs → Rs (List LiT)) (choice : Bs → Rs CmdT) (sc : Bs → Option Int) : Same0 (compoundL lists choice sc) := by
  intro l l' h
  rw [compound_is, compound_is, ← next_same h]
  cases headL lists choice sc (nextL l).1 (nextL l).2 with
  | none => exact Or.inr ⟨rfl, rfl⟩
  | some y => cases y <;> exact Or.inl rfl
theorem command_same {v : Lv} (hS : Same0 v.compound) {l l' : Bs} (h : aheadL l = aheadL l') : commandL v l = commandL v l' := by
  unfold commandL
  rcases hS l l' h with e | ⟨e1, e2⟩
  · rw [e, next_same h, simple_same h]
    unfold functionL
    rw [name_same h]
  · rw [e1, e2]
    simp only []
    rw [next_same h, simple_same h]
    unfold functionL
    rw [name_same h]
theorem pipe_same {v : Lv} (hS : Same0 v.compound) {l l' : Bs} (h : aheadL l = aheadL l') : pipeL v l = pipeL v l' := by
  unfold pipeL
  rw [pass_eq h]
  cases passL [33] l' with
  | some r => rfl
  | none => simp only [Option.getD_none]; rw [command_same hS h]
theorem list_same {v : Lv} (hS : Same0 v.compound) {l l' : Bs} (h : aheadL l = aheadL l') : listL v l = listL v l' := by
  unfold listL
  rw [pipe_same hS h]
theorem newlines_same {l l' : Bs} (h : aheadL l = aheadL l') : aheadL (newlinesL l) = aheadL (newlinesL l') := by
  unfold newlinesL
  rw [newlinesN_fuel (l.length + 1) (l.length + l'.length + 1) l (by omega) (by omega), newlinesN_fuel (l'.length + 1) (l.length + l'.length + 1) l' (by omega) (by omega)]
  rw [newlinesN, newlinesN, pass_eq h]
  cases passL [10] l' with
  | some r => rfl
  | none => exact h
theorem lists_same {v : Lv} (hS : Same0 v.compound) {l l' : Bs} (h : aheadL l = aheadL l') : listsL v l = listsL v l' := by
  unfold listsL
  have hn := newlines_same h
  rw [listsEnd_same hn, refuse_same hn, list_same hS hn]
theorem script_same {v : Lv} (hS : Same0 v.compound) {l l' : Bs} (h : aheadL (newlinesL l) = aheadL (newlinesL l')) : scriptL (listsL v) l = scriptL (listsL v) l' := by
  unfold scriptL
  rw [over_same h, lists_same hS h]
theorem newlines_line {l r : Bs} (h : aheadL l = 10 :: r) : newlinesL l = newlinesL r := by
  have hp : passL [10] l = some r := by
    rw [pass_eq (l' := 10 :: r) (by rw [h, ahead_nl])]
    unfold passL
    rw [next_nl, if_pos rfl]
  have hl := pass_less (by decide) hp
  show newlinesN (l.length + 1) l = newlinesN (r.length + 1) r
  rw [newlinesN, hp]
  exact newlinesN_fuel _ _ r (by omega) (by omega)
/-- A remark is passed over up to its newline. -/
theorem remark_drop (m : Bs) (hm : ∀ d ∈ m, d ≠ 10) (r : Bs) : (m ++ 10 :: r).dropWhile (fun d => d != 10) = 10 :: r := by
  induction m with
  | nil => simp
  | cons d m ih =>
    have hd := hm d (by simp)
    rw [List.cons_append, List.dropWhile_cons_of_pos (by simpa using hd)]
    exact ih fun x hx => hm x (by simp [hx])
theorem remark_end (m : Bs) (hm : ∀ d ∈ m, d ≠ 10) : m.dropWhile (fun d => d != 10) = [] := by
  induction m with
  | nil => rfl
  | cons d m ih =>
    have hd := hm d (by simp)
    rw [List.dropWhile_cons_of_pos (by simpa using hd)]
    exact ih fun x hx => hm x (by simp [hx])
/-- What the law sets ahead of a script. -/
theorem head_same {v : Lv} (hS : Same0 v.compound) (m : Bs) (hm : ∀ d ∈ m, d ≠ 10) (l : Bs) : scriptL (listsL v) (10 :: 9 :: 35 :: (m ++ 10 :: 32 :: l)) = scriptL (listsL v) l := by
  apply script_same hS
  rw [newlines_line (r := 9 :: 35 :: (m ++ 10 :: 32 :: l)) (ahead_nl _), newlines_line (r := 32 :: l) (by rw [ahead_9, ahead_35, remark_drop m hm])]
  exact newlines_same (ahead_32 l)
/-- What the law sets behind it. -/
theorem tail_same {v : Lv} (hC : XC (commandL v)) (m : Bs) (hm : ∀ d ∈ m, d ≠ 10) {l : Bs} {xs : List LiT} {r : Bs} (h : scriptL (listsL v) l = .ok xs r) : scriptL (listsL v) (l ++ 10 :: 32 :: 92 :: 10 :: 32 :: 35 :: m) = .ok xs [] := by
  have ha : aheadL (32 :: 92 :: 10 :: 32 :: 35 :: m) = [] := by rw [ahead_32, ahead_92, if_pos rfl, ahead_32, ahead_35, remark_end m hm]
  have hc : ¬ Free (32 :: 92 :: 10 :: 32 :: 35 :: m) := fun x => x.2 ha
  have hn : newlinesL (32 :: 92 :: 10 :: 32 :: 35 :: m) = 32 :: 92 :: 10 :: 32 :: 35 :: m := newlinesN_closed _ hc
  have ho : overL (32 :: 92 :: 10 :: 32 :: 35 :: m) = true := by unfold overL; rw [ha]; rfl
  unfold scriptL at h ⊢
  by_cases hv : overL (newlinesL l) = true
  · rw [if_pos hv] at h
    injection h with e1 e2
    rw [newlines_over _ (over_end hv), hn, if_pos ho, e1]
  · rw [if_neg hv] at h
    cases h1 : listsL v (newlinesL l) with
    | bad a e => rw [h1] at h; cases h
    | ok x r1 =>
      rw [h1] at h
      simp only [] at h
      by_cases ho2 : overL r1 = true
      · rw [if_pos ho2] at h
        injection h with e1 e2
        have hf : Free (newlinesL l) := (lists_ext hC).2 _ _ _ h1
        rw [newlines_ext _ hf, if_neg (show ¬ overL (newlinesL l ++ 10 :: 32 :: 92 :: 10 :: 32 :: 35 :: m) = true by unfold overL; rw [ahead_go _ hf.1]; cases aheadL (newlinesL l) <;> simp)]
        rw [lists_over hC _ (by rw [hn]; unfold listsEnd; rw [ho]; simp) h1 (over_end ho2), hn, e1]
        simp only []
        rw [if_pos ho]
      · rw [if_neg ho2] at h; simp only [refuse] at h; cases h
/-- All of SyntaxBlanks' mathematics. -/
theorem plain_blanks (m : Bs) (hm : ∀ d ∈ m, d ≠ 10) {l : Bs} {xs : List LiT} {r : Bs} (h : parseL l = .ok xs r) : parseL (10 :: 9 :: 35 :: (m ++ 10 :: 32 :: (l ++ 10 :: 32 :: 92 :: 10 :: 32 :: 35 :: m))) = .ok xs [] := by
  unfold parseL at h ⊢
  have hS : Same0 (lv 16).compound := compound_same _ _ _
  exact (head_same hS m hm _).trans (tail_same (lv_ok 16).command m hm h)
end SyM

/- DERIVED. Plain mathematics of layer 8: two scripts with a newline between (SyntaxJoins). -/
namespace SyM
open PathM WdM
set_option linter.unusedVariables false

def pre (acc : List LiT) : Rs (List LiT) → Rs (List LiT)
  | .bad a e => .bad a e
  | .ok x r => .ok (acc ++ x) r
theorem listsN_acc {v : Lv} : ∀ (n : Nat) (acc bs : List LiT) (l : Bs), listsN v n (acc ++ bs) l = pre acc (listsN v n bs l)
  | 0, acc, bs, l => rfl
  | n + 1, acc, bs, l => by
    rw [div_is, div_is]
    cases divL l with
    | none => rfl
    | some r =>
      simp only []
      by_cases he : listsEnd (newlinesL r) = true
      · rw [if_pos he, if_pos he]; rfl
      · rw [if_neg he, if_neg he]
        cases listL v (newlinesL r) with
        | bad a e => rfl
        | ok x r2 => simp only []; rw [List.append_assoc, listsN_acc n acc (bs ++ [x]) r2]
theorem listsN_fuel {v : Lv} (hC : XC (commandL v)) : ∀ (n m : Nat) (acc : List LiT) (l : Bs), l.length < n → l.length < m → listsN v n acc l = listsN v m acc l
  | 0, m, acc, l, hn, _ => by omega
  | n + 1, 0, acc, l, hn, hm => by omega
  | n + 1, m + 1, acc, l, hn, hm => by
    rw [div_is, div_is]
    cases hd : divL l with
    | none => rfl
    | some r =>
      have hl := div_less hd
      have hl2 := newlines_le r
      simp only []
      by_cases he : listsEnd (newlinesL r) = true
      · rw [if_pos he, if_pos he]
      · rw [if_neg he, if_neg he]
        cases h1 : listL v (newlinesL r) with
        | bad a e => rfl
        | ok x r2 =>
          obtain ⟨_, i2, _⟩ := list_ext hC _ x r2 [] h1
          exact listsN_fuel hC n m _ r2 (by omega) (by omega)
/-- What follows a newline between lists. -/
def afterN (v : Lv) (m : Nat) (acc : List LiT) (t : Bs) : Rs (List LiT) :=
  if listsEnd (newlinesL t) then .ok acc (newlinesL t) else match listL v (newlinesL t) with
    | .bad a e => .bad a e
    | .ok x r2 => listsN v m (acc ++ [x]) r2
theorem listsN_then {v : Lv} (hC : XC (commandL v)) {t r4 : Bs} {ys : List LiT} (ht : ∀ m acc, t.length < m → afterN v m acc t = .ok (acc ++ ys) r4) : ∀ (n m : Nat) (acc xs : List LiT) (l r : Bs), l.length < n → (l ++ 10 :: t).length < m → listsN v n acc l = .ok xs r → aheadL r = [] → listsN v m acc (l ++ 10 :: t) = .ok (xs ++ ys) r4
  | 0, m, acc, xs, l, r, hn, _, h, h0 => by omega
  | n + 1, 0, acc, xs, l, r, hn, hm, h, h0 => by omega
  | n + 1, m + 1, acc, xs, l, r, hn, hm, h, h0 => by
    simp only [List.length_append, List.length_cons] at hm
    rw [div_is] at h
    rw [div_is]
    cases hd : divL l with
    | none =>
      rw [hd] at h
      injection h with e1 e2
      subst e1; subst e2
      rw [div_over t h0]
      exact ht m acc (by omega)
    | some r1 =>
      have hf := div_free hd
      have hl := div_less hd
      have hl2 := newlines_le r1
      rw [hd] at h
      rw [div_same t hf, hd]
      simp only [Option.map_some] at h ⊢
      by_cases he : listsEnd (newlinesL r1) = true
      · rw [if_pos he] at h
        injection h with e1 e2
        subst e1; subst e2
        rw [newlines_over t h0]
        exact ht m acc (by omega)
      · rw [if_neg he] at h
        cases h1 : listL v (newlinesL r1) with
        | bad a e => rw [h1] at h; cases h
        | ok x r2 =>
          obtain ⟨i1, i2, i3⟩ := list_ext hC _ x r2 t h1
          rw [h1] at h
          simp only [] at h
          rw [newlines_ext t i3, listsEnd_ext t i3, if_neg he]
          have hs : ¬ Stuck r2 := fun hs => by
            rw [listsN_closed v n _ r2 (fun y => y.1 hs)] at h
            injection h with e1 e2
            subst e2
            exact end_free h0 hs
          rw [i1.resolve_left hs]
          exact listsN_then hC ht n m (acc ++ [x]) xs r2 r (by omega) (by simp only [List.length_append, List.length_cons]; omega) h h0
theorem lists_then {v : Lv} (hC : XC (commandL v)) {l r t r4 : Bs} {xs ys : List LiT} (ht : ∀ m acc, t.length < m → afterN v m acc t = .ok (acc ++ ys) r4) (h : listsL v l = .ok xs r) (h0 : aheadL r = []) : listsL v (l ++ 10 :: t) = .ok (xs ++ ys) r4 := by
  unfold listsL at h ⊢
  by_cases he : listsEnd (newlinesL l) = true
  · rw [if_pos he] at h; cases h
  rw [if_neg he] at h
  cases h1 : listL v (newlinesL l) with
  | bad a e => rw [h1] at h; cases h
  | ok x r1 =>
    obtain ⟨i1, i2, i3⟩ := list_ext hC _ x r1 t h1
    rw [h1] at h
    simp only [] at h
    rw [newlines_ext t i3, listsEnd_ext t i3, if_neg he]
    have hs : ¬ Stuck r1 := fun hs => by
      rw [listsN_closed v _ _ r1 (fun y => y.1 hs)] at h
      injection h with e1 e2
      subst e2
      exact end_free h0 hs
    rw [i1.resolve_left hs]
    exact listsN_then hC ht (r1.length + 1) ((r1 ++ 10 :: t).length + 1) [x] xs r1 r (by omega) (by omega) h h0
/-- What a script is behind a newline. -/
theorem after_script {v : Lv} (hC : XC (commandL v)) {t r : Bs} {ys : List LiT} (h : scriptL (listsL v) t = .ok ys r) : ∃ r4, overL r4 = true ∧ ∀ m acc, t.length < m → afterN v m acc t = .ok (acc ++ ys) r4 := by
  unfold scriptL at h
  by_cases hv : overL (newlinesL t) = true
  · rw [if_pos hv] at h
    injection h with e1 e2
    refine ⟨newlinesL t, hv, fun m acc hm => ?_⟩
    unfold afterN
    rw [if_pos (by unfold listsEnd; rw [hv]; simp), ← e1, List.append_nil]
  · rw [if_neg hv] at h
    cases h1 : listsL v (newlinesL t) with
    | bad a e => rw [h1] at h; cases h
    | ok x r1 =>
      rw [h1] at h
      simp only [] at h
      by_cases ho2 : overL r1 = true
      · rw [if_pos ho2] at h
        injection h with e1 e2
        subst e1
        refine ⟨r1, ho2, fun m acc hm => ?_⟩
        have hnn : newlinesL (newlinesL t) = newlinesL t := by
          have key : ∀ (n : Nat) (u : Bs), u.length < n → newlinesL (newlinesN n u) = newlinesN n u := by
            intro n
            induction n with
            | zero => intro u hu; omega
            | succ n ih =>
              intro u hu
              rw [newlinesN]
              cases hp : passL [10] u with
              | none => simp only []; show newlinesN (u.length + 1) u = u; rw [newlinesN, hp]
              | some r => have := pass_less (by decide) hp; exact ih r (by omega)
          exact key (t.length + 1) t (by omega)
        unfold listsL at h1
        rw [hnn] at h1
        unfold afterN
        by_cases he : listsEnd (newlinesL t) = true
        · rw [if_pos he] at h1; cases h1
        · rw [if_neg he] at h1 ⊢
          cases h2 : listL v (newlinesL t) with
          | bad a e => rw [h2] at h1; cases h1
          | ok y r2 =>
            obtain ⟨_, i2, _⟩ := list_ext hC _ y r2 [] h2
            have := newlines_le t
            rw [h2] at h1
            simp only [] at h1 ⊢
            rw [listsN_acc, listsN_fuel hC m (r2.length + 1) [y] r2 (by omega) (by omega), h1]
            rfl
      · rw [if_neg ho2] at h; simp only [refuse] at h; cases h
theorem script_join {v : Lv} (hC : XC (commandL v)) {l t r r' : Bs} {xs ys : List LiT} (h : scriptL (listsL v) l = .ok xs r) (h' : scriptL (listsL v) t = .ok ys r') : scriptL (listsL v) (l ++ 10 :: t) = .ok (xs ++ ys) [] := by
  obtain ⟨r4, ho4, ht⟩ := after_script hC h'
  have hr' : r' = [] := by
    unfold scriptL at h'
    split at h'
    · injection h' with _ e; exact e.symm
    · split at h'
      · cases h'
      · split at h'
        · injection h' with _ e; exact e.symm
        · simp only [refuse] at h'; cases h'
  unfold scriptL at h
  by_cases hv : overL (newlinesL l) = true
  · rw [if_pos hv] at h
    injection h with e1 e2
    subst e1
    have e : scriptL (listsL v) (l ++ 10 :: t) = scriptL (listsL v) t := by unfold scriptL; rw [newlines_over t (over_end hv)]
    rw [e, h', hr']
    rfl
  · rw [if_neg hv] at h
    cases h1 : listsL v (newlinesL l) with
    | bad a e => rw [h1] at h; cases h
    | ok x r1 =>
      rw [h1] at h
      simp only [] at h
      by_cases ho2 : overL r1 = true
      · rw [if_pos ho2] at h
        injection h with e1 e2
        subst e1
        have hf : Free (newlinesL l) := (lists_ext hC).2 _ _ _ h1
        unfold scriptL
        rw [newlines_ext _ hf, if_neg (show ¬ overL (newlinesL l ++ 10 :: t) = true by unfold overL; rw [ahead_go _ hf.1]; cases aheadL (newlinesL l) <;> simp)]
        rw [lists_then hC ht h1 (over_end ho2)]
        simp only []
        rw [if_pos ho4]
      · rw [if_neg ho2] at h; simp only [refuse] at h; cases h
/-- All of SyntaxJoins' mathematics. -/
theorem plain_joins {l t r r' : Bs} {xs ys : List LiT} (h : parseL l = .ok xs r) (h' : parseL t = .ok ys r') : parseL (l ++ 10 :: t) = .ok (xs ++ ys) [] := by
  unfold parseL at h h' ⊢
  exact script_join (lv_ok 16).command h h'
end SyM

/- DERIVED. Plain mathematics of layer 8: one level deeper (SyntaxGroups). -/
namespace SyM
open PathM WdM
set_option linter.unusedVariables false

/-- The same, or too deep. -/
def Dp {α : Type} (a b : Rs α) : Prop := b = a ∨ ∃ p, b = .bad p 63
theorem Dp.r {α : Type} (a : Rs α) : Dp a a := Or.inl rfl
def Ds (sc sc' : Bs → Option Int) : Prop := ∀ t, sc' t = sc t ∨ sc' t = some 63
def Df {α : Type} (f f' : Bs → Rs α) : Prop := ∀ l, Dp (f l) (f' l)
section
variable {sc sc' : Bs → Option Int} (hs : Ds sc sc') {lists lists' : Bs → Rs (List LiT)} (hL : Df lists lists')
include hs
theorem scriptsF_dp : ∀ ps : List PT, scriptsF sc' ps = scriptsF sc ps ∨ scriptsF sc' ps = some 63
  | [] => Or.inl (by rw [scriptsF, scriptsF])
  | .mk k q t s w :: r => by
    rw [scriptsF, scriptsF]
    have h1 : (if k = 3 then sc' t else none) = (if k = 3 then sc t else none) ∨ (if k = 3 then sc' t else none) = some 63 := by
      by_cases hk : k = 3
      · simp only [if_pos hk]; exact hs t
      · exact Or.inl (by rw [if_neg hk, if_neg hk])
    rcases h1 with e | e
    · rw [e]
      cases (if k = 3 then sc t else none) with
      | some e => exact Or.inl rfl
      | none =>
        simp only []
        rcases scriptsF_dp w with e | e
        · rw [e]
          cases scriptsF sc w with
          | some e => exact Or.inl rfl
          | none => exact scriptsF_dp r
        · rw [e]; exact Or.inr rfl
    · rw [e]; exact Or.inr rfl
theorem word_dp : Df (wordL sc) (wordL sc') := by
  intro l
  unfold wordL
  by_cases hw : wordStands l = true
  · rw [if_pos hw, if_pos hw]
    cases scan (aheadL l) with
    | bad a e => exact Dp.r _
    | ok w r =>
      simp only []
      rcases scriptsF_dp hs w with e | e
      · rw [e]; exact Dp.r _
      · rw [e]; exact Or.inr ⟨_, rfl⟩
  · rw [if_neg hw, if_neg hw]; exact Dp.r _
theorem redir_dp : Df (redirL sc) (redirL sc') := by
  intro l
  unfold redirL
  cases arrowL l with
  | none => exact Dp.r _
  | some y =>
    obtain ⟨fd, op, r⟩ := y
    simp only []
    rcases word_dp hs r with e | ⟨p, e⟩
    · rw [e]; exact Dp.r _
    · exact Or.inr ⟨p, by rw [e]⟩
theorem redirsN_dp : ∀ (n : Nat) (acc : List RdT), Df (redirsN sc n acc) (redirsN sc' n acc)
  | 0, acc, l => Dp.r _
  | n + 1, acc, l => by
    rw [redirsN, redirsN]
    cases arrowL l with
    | none => exact Dp.r _
    | some y =>
      simp only []
      rcases redir_dp hs l with e | ⟨p, e⟩
      · rw [e]
        cases redirL sc l with
        | bad a e => exact Dp.r _
        | ok x r => exact redirsN_dp n _ r
      · exact Or.inr ⟨p, by rw [e]⟩
theorem simpleN_dp : ∀ (n : Nat) (as : List AsT) (ws : List (List PT)) (rs : List RdT), Df (simpleN sc n as ws rs) (simpleN sc' n as ws rs)
  | 0, as, ws, rs, l => Dp.r _
  | n + 1, as, ws, rs, l => by
    rw [simpleN, simpleN]
    by_cases ha : (arrowL l).isSome = true
    · rw [if_pos ha, if_pos ha]
      rcases redir_dp hs l with e | ⟨p, e⟩
      · rw [e]
        cases redirL sc l with
        | bad a e => exact Dp.r _
        | ok x r => exact simpleN_dp n _ _ _ r
      · exact Or.inr ⟨p, by rw [e]⟩
    · rw [if_neg ha, if_neg ha]
      by_cases hw : wordStands l = true
      · rw [if_pos hw, if_pos hw]
        rcases word_dp hs l with e | ⟨p, e⟩
        · rw [e]
          cases wordL sc l with
          | bad a e => exact Dp.r _
          | ok w r =>
            simp only []
            cases assignL w with
            | none => exact simpleN_dp n _ _ _ r
            | some x =>
              simp only []
              by_cases hws : ws = []
              · rw [if_pos hws, if_pos hws]; exact simpleN_dp n _ _ _ r
              · rw [if_neg hws, if_neg hws]; exact simpleN_dp n _ _ _ r
        · exact Or.inr ⟨p, by rw [e]⟩
      · rw [if_neg hw, if_neg hw]; exact Dp.r _
theorem simple_dp : Df (simpleL sc) (simpleL sc') := by
  intro l
  unfold simpleL
  by_cases hg : endingL (nextL l).1 = true ∨ ((arrowL l).isNone = true ∧ wordStands l = false)
  · rw [if_pos hg, if_pos hg]; exact Dp.r _
  · rw [if_neg hg, if_neg hg]; exact simpleN_dp hs _ _ _ _ l
theorem wordsN_dp : ∀ (n : Nat) (acc : List (List PT)), Df (wordsN sc n acc) (wordsN sc' n acc)
  | 0, acc, l => Dp.r _
  | n + 1, acc, l => by
    rw [wordsN, wordsN]
    by_cases hw : wordStands l = true
    · rw [if_pos hw, if_pos hw]
      rcases word_dp hs l with e | ⟨p, e⟩
      · rw [e]
        cases wordL sc l with
        | bad a e => exact Dp.r _
        | ok w r => exact wordsN_dp n _ r
      · exact Or.inr ⟨p, by rw [e]⟩
    · rw [if_neg hw, if_neg hw]; exact Dp.r _
theorem patsN_dp : ∀ (n : Nat) (acc : List (List PT)), Df (patsN sc n acc) (patsN sc' n acc)
  | 0, acc, l => Dp.r _
  | n + 1, acc, l => by
    rw [patsN, patsN]
    cases passL [124] l with
    | none => exact Dp.r _
    | some r =>
      simp only []
      rcases word_dp hs r with e | ⟨p, e⟩
      · rw [e]
        cases wordL sc r with
        | bad a e => exact Dp.r _
        | ok w r => exact patsN_dp n _ r
      · exact Or.inr ⟨p, by rw [e]⟩
theorem inWords_dp : Df (inWords sc) (inWords sc') := by
  intro r
  unfold inWords
  cases passL inK (newlinesL r) with
  | none => exact Dp.r _
  | some r2 => exact wordsN_dp hs _ _ r2
omit hs
include hL
theorem listsTo_dp (w : Bs) : Df (listsTo lists w) (listsTo lists' w) := by
  intro l
  unfold listsTo
  rcases hL l with e | ⟨p, e⟩
  · rw [e]; exact Dp.r _
  · exact Or.inr ⟨p, by rw [e]⟩
theorem loop_dp (k : Int) : Df (loopL lists k) (loopL lists' k) := by
  intro l
  unfold loopL
  rcases listsTo_dp hL doK l with e | ⟨p, e⟩
  · rw [e]
    cases listsTo lists doK l with
    | bad a e => exact Dp.r _
    | ok c r =>
      simp only []
      rcases listsTo_dp hL doneK r with e | ⟨p, e⟩
      · rw [e]; exact Dp.r _
      · exact Or.inr ⟨p, by rw [e]⟩
  · exact Or.inr ⟨p, by rw [e]⟩
theorem choice_dp {elif elif' : Bs → Rs CmdT} (hE : Df elif elif') : Df (choiceL lists elif) (choiceL lists' elif') := by
  intro l
  unfold choiceL
  rcases listsTo_dp hL thenK l with e | ⟨p, e⟩
  · rw [e]
    cases listsTo lists thenK l with
    | bad a e => exact Dp.r _
    | ok c r =>
      simp only []
      rcases hL r with e | ⟨p, e⟩
      · rw [e]
        cases lists r with
        | bad a e => exact Dp.r _
        | ok b r2 =>
          simp only []
          cases passL elseK r2 with
          | some r3 =>
            simp only []
            rcases listsTo_dp hL fiK r3 with e | ⟨p, e⟩
            · rw [e]; exact Dp.r _
            · exact Or.inr ⟨p, by rw [e]⟩
          | none =>
            simp only []
            cases passL elifK r2 with
            | some r3 =>
              simp only []
              rcases hE r3 with e | ⟨p, e⟩
              · rw [e]; exact Dp.r _
              · exact Or.inr ⟨p, by rw [e]⟩
            | none => exact Dp.r _
      · exact Or.inr ⟨p, by rw [e]⟩
  · exact Or.inr ⟨p, by rw [e]⟩
include hs
theorem each_dp : Df (eachL lists sc) (eachL lists' sc') := by
  intro l
  unfold eachL
  cases nameL l with
  | bad a e => exact Dp.r _
  | ok nm r =>
    simp only []
    rcases inWords_dp hs r with e | ⟨p, e⟩
    · rw [e]
      cases inWords sc r with
      | bad a e => exact Dp.r _
      | ok ws r3 =>
        simp only []
        cases needL doK (newlinesL ((passL [59] r3).getD r3)) with
        | bad a e => exact Dp.r _
        | ok u r4 =>
          simp only []
          rcases listsTo_dp hL doneK r4 with e | ⟨p, e⟩
          · rw [e]; exact Dp.r _
          · exact Or.inr ⟨p, by rw [e]⟩
    · exact Or.inr ⟨p, by rw [e]⟩
theorem branch_dp : Df (branchL lists sc) (branchL lists' sc') := by
  intro l
  unfold branchL
  rcases word_dp hs ((passL [40] l).getD l) with e | ⟨p, e⟩
  · rw [e]
    cases wordL sc ((passL [40] l).getD l) with
    | bad a e => exact Dp.r _
    | ok w r =>
      simp only []
      rcases patsN_dp hs (r.length + 1) [w] r with e | ⟨p, e⟩
      · rw [e]
        cases patsN sc (r.length + 1) [w] r with
        | bad a e => exact Dp.r _
        | ok ps r2 =>
          simp only []
          cases needL [41] r2 with
          | bad a e => exact Dp.r _
          | ok u r3 =>
            simp only []
            by_cases he : listsEnd (newlinesL r3) = true
            · rw [if_pos he, if_pos he]; exact Dp.r _
            · rw [if_neg he, if_neg he]
              rcases hL (newlinesL r3) with e | ⟨p, e⟩
              · rw [e]; exact Dp.r _
              · exact Or.inr ⟨p, by rw [e]⟩
      · exact Or.inr ⟨p, by rw [e]⟩
  · exact Or.inr ⟨p, by rw [e]⟩
theorem branchesN_dp : ∀ (n : Nat) (acc : List CsT), Df (branchesN lists sc n acc) (branchesN lists' sc' n acc)
  | 0, acc, l => Dp.r _
  | n + 1, acc, l => by
    rw [branchesN, branchesN]
    cases passL esacK l with
    | some r => exact Dp.r _
    | none =>
      simp only []
      rcases branch_dp hs hL l with e | ⟨p, e⟩
      · rw [e]
        cases branchL lists sc l with
        | bad a e => exact Dp.r _
        | ok x r =>
          simp only []
          cases passL [59, 59] r with
          | some r2 => exact branchesN_dp n _ _
          | none => exact Dp.r _
      · exact Or.inr ⟨p, by rw [e]⟩
theorem case_dp : Df (caseL lists sc) (caseL lists' sc') := by
  intro l
  unfold caseL
  rcases word_dp hs l with e | ⟨p, e⟩
  · rw [e]
    cases wordL sc l with
    | bad a e => exact Dp.r _
    | ok w r =>
      simp only []
      cases needL inK (newlinesL r) with
      | bad a e => exact Dp.r _
      | ok u r2 =>
        simp only []
        rcases branchesN_dp hs hL (r2.length + 1) [] (newlinesL r2) with e | ⟨p, e⟩
        · rw [e]; exact Dp.r _
        · exact Or.inr ⟨p, by rw [e]⟩
  · exact Or.inr ⟨p, by rw [e]⟩
end
end SyM

/- DERIVED. Plain mathematics of layer 8: one level deeper, all of the reader (SyntaxGroups). -/
namespace SyM
open PathM WdM
set_option linter.unusedVariables false

theorem head_dp {sc sc' : Bs → Option Int} (hs : Ds sc sc') {lists lists' : Bs → Rs (List LiT)} (hL : Df lists lists') {choice choice' : Bs → Rs CmdT} (hC : Df choice choice') (k r : Bs) : (headL lists choice sc k r = none ∧ headL lists' choice' sc' k r = none) ∨ ∃ a b, headL lists choice sc k r = some a ∧ headL lists' choice' sc' k r = some b ∧ Dp a b := by
  unfold headL
  by_cases k1 : k = [40]
  · simp only [if_pos k1]
    refine Or.inr ⟨_, _, rfl, rfl, ?_⟩
    rcases listsTo_dp hL [41] r with e | ⟨p, e⟩
    · rw [e]; exact Dp.r _
    · exact Or.inr ⟨p, by rw [e]⟩
  by_cases k2 : k = [123]
  · simp only [if_neg k1, if_pos k2]
    refine Or.inr ⟨_, _, rfl, rfl, ?_⟩
    rcases listsTo_dp hL [125] r with e | ⟨p, e⟩
    · rw [e]; exact Dp.r _
    · exact Or.inr ⟨p, by rw [e]⟩
  by_cases k3 : k = [105, 102]
  · simp only [if_neg k1, if_neg k2, if_pos k3]
    exact Or.inr ⟨_, _, rfl, rfl, hC r⟩
  by_cases k4 : k = [119, 104, 105, 108, 101]
  · simp only [if_neg k1, if_neg k2, if_neg k3, if_pos k4]
    exact Or.inr ⟨_, _, rfl, rfl, loop_dp hL 5 r⟩
  by_cases k5 : k = [117, 110, 116, 105, 108]
  · simp only [if_neg k1, if_neg k2, if_neg k3, if_neg k4, if_pos k5]
    exact Or.inr ⟨_, _, rfl, rfl, loop_dp hL 6 r⟩
  by_cases k6 : k = [102, 111, 114]
  · simp only [if_neg k1, if_neg k2, if_neg k3, if_neg k4, if_neg k5, if_pos k6]
    exact Or.inr ⟨_, _, rfl, rfl, each_dp hs hL r⟩
  by_cases k7 : k = [99, 97, 115, 101]
  · simp only [if_neg k1, if_neg k2, if_neg k3, if_neg k4, if_neg k5, if_neg k6, if_pos k7]
    exact Or.inr ⟨_, _, rfl, rfl, case_dp hs hL r⟩
  · simp only [if_neg k1, if_neg k2, if_neg k3, if_neg k4, if_neg k5, if_neg k6, if_neg k7]
    exact Or.inl ⟨trivial, trivial⟩
theorem compound_dp {sc sc' : Bs → Option Int} (hs : Ds sc sc') {lists lists' : Bs → Rs (List LiT)} (hL : Df lists lists') {choice choice' : Bs → Rs CmdT} (hC : Df choice choice') : Df (compoundL lists choice sc) (compoundL lists' choice' sc') := by
  intro l
  rw [compound_is, compound_is]
  rcases head_dp hs hL hC (nextL l).1 (nextL l).2 with ⟨e1, e2⟩ | ⟨a, b, e1, e2, hd⟩
  · rw [e1, e2]; exact Dp.r _
  · rw [e1, e2]
    rcases hd with e | ⟨p, e⟩
    · rw [e]
      cases a with
      | bad a e => exact Dp.r _
      | ok c r2 =>
        simp only []
        rcases redirsN_dp hs (r2.length + 1) [] r2 with e | ⟨p, e⟩
        · rw [e]; exact Dp.r _
        · exact Or.inr ⟨p, by rw [e]⟩
    · rw [e]; exact Or.inr ⟨p, rfl⟩
theorem function_dp {body body' : Bs → Rs (Option CmdT)} (hB : Df body body') : Df (functionL body) (functionL body') := by
  intro l
  unfold functionL
  cases nameL l with
  | bad a e => exact Dp.r _
  | ok nm r =>
    simp only []
    cases needL [40] r with
    | bad a e => exact Dp.r _
    | ok u r2 =>
      simp only []
      cases needL [41] r2 with
      | bad a e => exact Dp.r _
      | ok u r3 =>
        simp only []
        rcases hB (newlinesL r3) with e | ⟨p, e⟩
        · rw [e]; exact Dp.r _
        · exact Or.inr ⟨p, by rw [e]⟩
/-- A level, and the one within it. -/
structure DLv (v v' : Lv) : Prop where
  lists : Df v.lists v'.lists
  choice : Df v.choice v'.choice
  compound : Df v.compound v'.compound
  body : Df v.body v'.body
  sc : Ds v.sc v'.sc
section
variable {v v' : Lv} (h : DLv v v')
include h
theorem command_dp : Df (commandL v) (commandL v') := by
  intro l
  unfold commandL
  rcases h.compound l with e | ⟨p, e⟩
  · rw [e]
    cases v.compound l with
    | bad a e => exact Dp.r _
    | ok y r =>
      cases y with
      | some c => exact Dp.r _
      | none =>
        simp only []
        by_cases hq : isName (nextL l).1 = true ∧ stands [40] (nextL l).2 = true
        · rw [if_pos hq, if_pos hq]; exact function_dp h.body l
        · rw [if_neg hq, if_neg hq]; exact simple_dp h.sc l
  · exact Or.inr ⟨p, by rw [e]⟩
theorem commandsN_dp : ∀ (n : Nat) (acc : List CmdT), Df (commandsN v n acc) (commandsN v' n acc)
  | 0, acc, l => Dp.r _
  | n + 1, acc, l => by
    rw [commandsN, commandsN]
    cases passL [124] l with
    | none => exact Dp.r _
    | some r =>
      simp only []
      rcases command_dp h (newlinesL r) with e | ⟨p, e⟩
      · rw [e]
        cases commandL v (newlinesL r) with
        | bad a e => exact Dp.r _
        | ok c r2 => exact commandsN_dp n _ r2
      · exact Or.inr ⟨p, by rw [e]⟩
theorem pipe_dp : Df (pipeL v) (pipeL v') := by
  intro l
  unfold pipeL
  rcases command_dp h ((passL [33] l).getD l) with e | ⟨p, e⟩
  · rw [e]
    cases commandL v ((passL [33] l).getD l) with
    | bad a e => exact Dp.r _
    | ok c r =>
      simp only []
      rcases commandsN_dp h (r.length + 1) [c] r with e | ⟨p, e⟩
      · rw [e]; exact Dp.r _
      · exact Or.inr ⟨p, by rw [e]⟩
  · exact Or.inr ⟨p, by rw [e]⟩
theorem pipesN_dp : ∀ (n : Nat) (ps : List PiT) (os : List Bs), Df (pipesN v n ps os) (pipesN v' n ps os)
  | 0, ps, os, l => Dp.r _
  | n + 1, ps, os, l => by
    rw [pipesN, pipesN]
    by_cases hq : (nextL l).1 = [38, 38] ∨ (nextL l).1 = [124, 124]
    · rw [if_pos hq, if_pos hq]
      rcases pipe_dp h (newlinesL (nextL l).2) with e | ⟨p, e⟩
      · rw [e]
        cases pipeL v (newlinesL (nextL l).2) with
        | bad a e => exact Dp.r _
        | ok p r => exact pipesN_dp n _ _ r
      · exact Or.inr ⟨p, by rw [e]⟩
    · rw [if_neg hq, if_neg hq]; exact Dp.r _
theorem list_dp : Df (listL v) (listL v') := by
  intro l
  unfold listL
  rcases pipe_dp h l with e | ⟨p, e⟩
  · rw [e]
    cases pipeL v l with
    | bad a e => exact Dp.r _
    | ok p r => exact pipesN_dp h _ _ _ r
  · exact Or.inr ⟨p, by rw [e]⟩
theorem listsN_dp : ∀ (n : Nat) (acc : List LiT), Df (listsN v n acc) (listsN v' n acc)
  | 0, acc, l => Dp.r _
  | n + 1, acc, l => by
    rw [div_is, div_is]
    cases divL l with
    | none => exact Dp.r _
    | some r =>
      simp only []
      by_cases he : listsEnd (newlinesL r) = true
      · rw [if_pos he, if_pos he]; exact Dp.r _
      · rw [if_neg he, if_neg he]
        rcases list_dp h (newlinesL r) with e | ⟨p, e⟩
        · rw [e]
          cases listL v (newlinesL r) with
          | bad a e => exact Dp.r _
          | ok x r2 => exact listsN_dp n _ r2
        · exact Or.inr ⟨p, by rw [e]⟩
theorem lists_dp : Df (listsL v) (listsL v') := by
  intro l
  unfold listsL
  by_cases he : listsEnd (newlinesL l) = true
  · rw [if_pos he, if_pos he]; exact Dp.r _
  · rw [if_neg he, if_neg he]
    rcases list_dp h (newlinesL l) with e | ⟨p, e⟩
    · rw [e]
      cases listL v (newlinesL l) with
      | bad a e => exact Dp.r _
      | ok x r => exact listsN_dp h _ _ r
    · exact Or.inr ⟨p, by rw [e]⟩
end
theorem script_dp {lists lists' : Bs → Rs (List LiT)} (hL : Df lists lists') : Df (scriptL lists) (scriptL lists') := by
  intro l
  unfold scriptL
  by_cases ho : overL (newlinesL l) = true
  · rw [if_pos ho, if_pos ho]; exact Dp.r _
  · rw [if_neg ho, if_neg ho]
    rcases hL (newlinesL l) with e | ⟨p, e⟩
    · rw [e]; exact Dp.r _
    · exact Or.inr ⟨p, by rw [e]⟩
theorem sc_dp {lists lists' : Bs → Rs (List LiT)} (hL : Df lists lists') : Ds (fun t => errOf (scriptL lists t)) (fun t => errOf (scriptL lists' t)) := by
  intro t
  show errOf (scriptL lists' t) = errOf (scriptL lists t) ∨ errOf (scriptL lists' t) = some 63
  rcases script_dp hL t with e | ⟨p, e⟩
  · rw [e]; exact Or.inl rfl
  · rw [e]; exact Or.inr rfl
theorem deep_dp {α : Type} (f : Bs → Rs α) : Df f tooDeep := fun l => Or.inr ⟨_, rfl⟩
theorem lv_dp : ∀ n : Nat, DLv (lv (n + 1)) (lv n)
  | 0 => by
    have hs : Ds (fun t => errOf (scriptL tooDeep t)) (fun t => errOf (scriptL tooDeep t)) := fun t => Or.inl rfl
    have hL : Df (listsL (lv 0)) tooDeep := deep_dp _
    have hC : Df (choiceL (listsL (lv 0)) (lv 0).choice) (choiceL tooDeep tooDeep) := choice_dp hL (deep_dp _)
    exact ⟨hL, hC, compound_dp hs hL hC, fun l => Or.inr ⟨_, rfl⟩, hs⟩
  | n + 1 => by
    have d := lv_dp n
    have hL : Df (listsL (lv (n + 1))) (listsL (lv n)) := lists_dp d
    have hC : Df (choiceL (listsL (lv (n + 1))) (lv (n + 1)).choice) (choiceL (listsL (lv n)) (lv n).choice) := choice_dp hL d.choice
    have hs := sc_dp d.lists
    exact ⟨hL, hC, compound_dp hs hL hC, d.compound, hs⟩
end SyM

/- DERIVED. Plain mathematics of layer 8: a script within a command (SyntaxGroups): braces, parentheses. -/
namespace SyM
open PathM WdM
set_option linter.unusedVariables false

theorem newlines_twice (l : Bs) : newlinesL (newlinesL l) = newlinesL l := by
  have key : ∀ (n : Nat) (u : Bs), u.length < n → newlinesL (newlinesN n u) = newlinesN n u := by
    intro n
    induction n with
    | zero => intro u hu; omega
    | succ n ih =>
      intro u hu
      rw [newlinesN]
      cases hp : passL [10] u with
      | none => simp only []; show newlinesN (u.length + 1) u = u; rw [newlinesN, hp]
      | some r => have := pass_less (by decide) hp; exact ih r (by omega)
  exact key (l.length + 1) l (by omega)
theorem lists_newlines (v : Lv) (l : Bs) : listsL v (newlinesL l) = listsL v l := by unfold listsL; rw [newlines_twice]
theorem lists_line (v : Lv) (l : Bs) : listsL v (10 :: l) = listsL v l := by
  unfold listsL; rw [newlines_line (ahead_nl l)]
theorem Dp.tr {α : Type} {a b c : Rs α} (h : Dp a b) (h' : Dp b c) : Dp a c := by
  rcases h' with e | e
  · rw [e]; exact h
  · exact Or.inr e
/-- A script that is not empty, with what ends lists behind it, at the level of a command's lists. -/
theorem inner {l r : Bs} {xs : List LiT} (h : parseL l = .ok xs r) (hx : xs ≠ []) (t : Bs) (ht : listsEnd (newlinesL t) = true) : Dp (.ok xs (newlinesL t)) (listsL (lv 16) (l ++ 10 :: t)) ∧ Dp (.ok xs (newlinesL t)) (listsL (lv 15) (l ++ 10 :: t)) ∧ Dp (.ok xs (newlinesL t)) (listsL (lv 14) (l ++ 10 :: t)) := by
  have h1 : listsL (lv 16) (l ++ 10 :: t) = .ok xs (newlinesL t) := by
    have h : scriptL (listsL (lv 16)) l = .ok xs r := h
    unfold scriptL at h
    by_cases hv : overL (newlinesL l) = true
    · rw [if_pos hv] at h
      injection h with e1 e2
      exact absurd e1.symm hx
    · rw [if_neg hv, lists_newlines] at h
      cases h1 : listsL (lv 16) l with
      | bad a e => rw [h1] at h; cases h
      | ok x r1 =>
        rw [h1] at h
        simp only [] at h
        by_cases ho2 : overL r1 = true
        · rw [if_pos ho2] at h
          injection h with e1 e2
          subst e1
          exact lists_over (lv_ok 16).command t ht h1 (over_end ho2)
        · rw [if_neg ho2] at h; simp only [refuse] at h; cases h
  have d1 := lists_dp (lv_dp 15) (l ++ 10 :: t)
  have d2 := lists_dp (lv_dp 14) (l ++ 10 :: t)
  rw [h1] at d1
  exact ⟨by rw [h1]; exact Dp.r _, d1, d1.tr d2⟩
theorem script_one {l : Bs} {c : CmdT} (h10 : (nextL l).1 ≠ [10]) (h33 : (nextL l).1 ≠ [33]) (he : listsEnd l = false) (hc : Dp (.ok c []) (commandL (lv 16) l)) : Dp (.ok [.mk [.mk false [c]] []] []) (parseL l) := by
  have hn : newlinesL l = l := by
    show newlinesN (l.length + 1) l = l
    rw [newlinesN]
    unfold passL
    rw [if_neg h10]
  have hp : passL [33] l = none := by unfold passL; rw [if_neg h33]
  have ho : ¬ overL l = true := fun x => by unfold listsEnd at he; rw [x] at he; simp at he
  have he' : ¬ listsEnd l = true := by rw [he]; decide
  show Dp _ (scriptL (listsL (lv 16)) l)
  unfold scriptL
  rw [hn, if_neg ho]
  unfold listsL listL pipeL
  rw [hn, if_neg he', hp]
  simp only [Option.getD_none]
  rcases hc with e | ⟨p, e⟩
  · rw [e]; exact Dp.r _
  · rw [e]; exact Or.inr ⟨p, rfl⟩
theorem compound_command {v : Lv} {l : Bs} {c : CmdT} {r : Bs} (h : Dp (.ok (some c) r) (v.compound l)) : Dp (.ok c r) (commandL v l) := by
  unfold commandL
  rcases h with e | ⟨p, e⟩
  · rw [e]; exact Dp.r _
  · rw [e]; exact Or.inr ⟨p, rfl⟩
theorem next_paren (u : Bs) : nextL (40 :: u) = ([40], u) := by
  have h : aheadL (40 :: u) = 40 :: u := by cases u <;> simp [aheadL]
  unfold nextL; rw [h]; rfl
theorem stuck_brace : ¬ Stuck [123] := fun ⟨a, e, h⟩ => by
  have : scan (aheadL [123]) = .ok [litP false [123]] [] := rfl
  rw [this] at h; cases h
theorem next_brace (u : Bs) : nextL (123 :: 10 :: u) = ([123], 10 :: u) := by
  have h := next_ext (l := [123]) u stuck_brace (by decide)
  exact h
theorem plain_paren {l r : Bs} {xs : List LiT} (h : parseL l = .ok xs r) (hx : xs ≠ []) : Dp (.ok [.mk [.mk false [.mk 3 [] [] [] [] xs [] [] []]] []] []) (parseL (40 :: (l ++ [10, 41]))) := by
  have hn := next_paren (l ++ [10, 41])
  have hi := (inner h hx [41] rfl).2.1
  apply script_one
  · rw [hn]; simp
  · rw [hn]; simp
  · unfold listsEnd overL; rw [hn, show aheadL (40 :: (l ++ [10, 41])) = 40 :: (l ++ [10, 41]) by cases l <;> simp [aheadL]]; rfl
  · apply compound_command
    show Dp _ (compoundL (listsL (lv 15)) _ _ _)
    rw [compound_is, hn]
    simp only [headL, if_true]
    unfold listsTo
    rcases hi with e | ⟨p, e⟩
    · rw [e]; exact Or.inl rfl
    · rw [e]; exact Or.inr ⟨p, rfl⟩
theorem plain_brace {l r : Bs} {xs : List LiT} (h : parseL l = .ok xs r) (hx : xs ≠ []) : Dp (.ok [.mk [.mk false [.mk 2 [] [] [] [] xs [] [] []]] []] []) (parseL (123 :: 10 :: (l ++ [10, 125]))) := by
  have hn := next_brace (l ++ [10, 125])
  have hi := (inner h hx [125] rfl).2.1
  apply script_one
  · rw [hn]; simp
  · rw [hn]; simp
  · unfold listsEnd overL; rw [hn, show aheadL (123 :: 10 :: (l ++ [10, 125])) = 123 :: 10 :: (l ++ [10, 125]) by simp [aheadL]]; rfl
  · apply compound_command
    show Dp _ (compoundL (listsL (lv 15)) _ _ _)
    rw [compound_is, hn]
    simp only [headL, if_neg (show ¬ ([123] : Bs) = [40] by decide), if_true]
    unfold listsTo
    rw [lists_line]
    rcases hi with e | ⟨p, e⟩
    · rw [e]; exact Or.inl rfl
    · rw [e]; exact Or.inr ⟨p, rfl⟩
end SyM

/- DERIVED. Plain mathematics of layer 8: a key word ahead of a sign or a blank. -/
namespace SyM
open PathM WdM
set_option linter.unusedVariables false

def low (c : UInt8) : Bool := 97 ≤ c && c ≤ 122
theorem low_meta {c : UInt8} (h : low c = true) : meta_ c = false := by
  cases hx : meta_ c with
  | false => rfl
  | true =>
    exfalso
    have h9 : metas.all (fun d => !low d) = true := by decide
    have := List.all_eq_true.1 h9 c (by unfold meta_ at hx; simpa using hx)
    rw [h] at this; cases this
theorem low_ne {c n : UInt8} (h : low c = true) (hn : low n = false) : ¬ c = n := fun e => by rw [e, hn] at h; cases h
theorem step_low {c : UInt8} (h : low c = true) (ps : List PT) (tx : Bs) (o : Bool) (t : Bs) : step (recN 16) ⟨ps, tx, o, false⟩ false (c :: t) = .ok ⟨ps, tx ++ [c], true, false⟩ t := by
  unfold step
  simp only [if_neg (low_ne h (n := 39) (by decide)), if_neg (low_ne h (n := 34) (by decide))]
  rw [pc_add (low_ne h (by decide)) (low_ne h (by decide)) (low_ne h (by decide))]
  rfl
theorem ploop_low {T : Bs} (hT : T = [] ∨ ∃ c t, T = c :: t ∧ meta_ c = true) : ∀ (w : Bs) (n : Nat) (tx : Bs), w.all low = true → (w ++ T).length < n → ploop (recN 16) meta_ false n ⟨[], tx, true, false⟩ (w ++ T) = .ok ⟨[], tx ++ w, true, false⟩ T
  | w, 0, tx, _, hn => by omega
  | [], n + 1, tx, _, hn => by
    rw [List.append_nil]
    rcases hT with rfl | ⟨c, t, rfl, hc⟩
    · rfl
    · exact ploop_stop (recN 16) meta_ false n _ t hc
  | c :: w, n + 1, tx, hw, hn => by
    simp only [List.all_cons, Bool.and_eq_true] at hw
    simp only [List.cons_append, List.length_cons] at hn
    rw [List.cons_append, ploop]
    simp only [low_meta hw.1, Bool.false_eq_true, if_false, step_low hw.1]
    rw [ploop_low hT w n (tx ++ [c]) hw.2 (by omega), List.append_assoc]
    rfl
theorem scan_low {T : Bs} (hT : T = [] ∨ ∃ c t, T = c :: t ∧ meta_ c = true) (c : UInt8) (w : Bs) (hw : (c :: w).all low = true) : scan (c :: w ++ T) = .ok [litP false (c :: w)] T := by
  have h := hw
  simp only [List.all_cons, Bool.and_eq_true] at h
  unfold scan partsR
  rw [List.cons_append, List.length_cons, ploop]
  simp only [low_meta h.1, Bool.false_eq_true, if_false]
  have hs : step (recN 16) .empty false (c :: (w ++ T)) = .ok ⟨[], [c], true, false⟩ (w ++ T) := step_low h.1 [] [] false (w ++ T)
  rw [hs]
  simp only []
  rw [ploop_low hT w _ [c] h.2 (by omega)]
  rfl
theorem next_low {T : Bs} (hT : T = [] ∨ ∃ c t, T = c :: t ∧ meta_ c = true) (c : UInt8) (w : Bs) (hw : (c :: w).all low = true) (hs : signOf (c :: w ++ T) = []) : nextL (c :: w ++ T) = (c :: w, T) := by
  have h := hw
  simp only [List.all_cons, Bool.and_eq_true] at h
  have ha : aheadL (c :: w ++ T) = c :: w ++ T := ahead_else (w ++ T) (low_ne h.1 (by decide)) (low_ne h.1 (by decide)) (low_ne h.1 (by decide)) (low_ne h.1 (by decide))
  unfold nextL
  rw [ha, hs, if_neg (by simp), scan_low hT c w hw]
  rfl
theorem next_while (u : Bs) : nextL (119 :: 104 :: 105 :: 108 :: 101 :: 32 :: u) = ([119, 104, 105, 108, 101], 32 :: u) :=
  next_low (T := 32 :: u) (Or.inr ⟨32, u, rfl, by decide⟩) 119 [104, 105, 108, 101] (by decide) rfl
theorem next_if (u : Bs) : nextL (105 :: 102 :: 32 :: u) = ([105, 102], 32 :: u) :=
  next_low (T := 32 :: u) (Or.inr ⟨32, u, rfl, by decide⟩) 105 [102] (by decide) rfl
theorem next_f (u : Bs) : nextL (102 :: 40 :: u) = ([102], 40 :: u) :=
  next_low (T := 40 :: u) (Or.inr ⟨40, u, rfl, by decide⟩) 102 [] (by decide) rfl
end SyM

/- DERIVED. Plain mathematics of layer 8: a script in a loop's condition (SyntaxGroups). -/
namespace SyM
open PathM WdM
set_option linter.unusedVariables false

/-- A plain command of one letter. -/
def one (c : UInt8) : List LiT := [.mk [.mk false [.mk 1 [] [] [[litP false [c]]] [] [] [] [] []]] []]
theorem word_x (sc : Bs → Option Int) : wordL sc (32 :: 120 :: 10 :: doneK) = .ok [litP false [120]] (10 :: doneK) := by
  have h1 : scan (aheadL (32 :: 120 :: 10 :: doneK)) = .ok [litP false [120]] (10 :: doneK) := rfl
  have h2 : wordStands (32 :: 120 :: 10 :: doneK) = true := rfl
  unfold wordL
  rw [h2, if_pos rfl, h1]
  simp [scriptsF, litP]
theorem simple_x (sc : Bs → Option Int) : simpleL sc (32 :: 120 :: 10 :: doneK) = .ok (.mk 1 [] [] [[litP false [120]]] [] [] [] [] []) (10 :: doneK) := by
  have h2 : wordStands (32 :: 120 :: 10 :: doneK) = true := rfl
  have h3 : arrowL (32 :: 120 :: 10 :: doneK) = none := rfl
  have h4 : endingL (nextL (32 :: 120 :: 10 :: doneK)).1 = false := rfl
  have h5 : assignL [litP false [120]] = none := rfl
  have h6 : wordStands (10 :: doneK) = false := rfl
  have h7 : arrowL (10 :: doneK) = none := rfl
  unfold simpleL
  rw [h4, h3, h2, if_neg (by simp)]
  show simpleN sc (6 + 1 + 1) [] [] [] (32 :: 120 :: 10 :: doneK) = _
  rw [simpleN, h3, h2, word_x]
  simp only [Option.isSome_none, Bool.false_eq_true, if_false, if_true, h5]
  rw [simpleN, h7, h6]
  rfl
theorem body_x : listsTo (listsL (lv 15)) doneK (32 :: 120 :: 10 :: doneK) = .ok (one 120) [] := by
  have hc : commandL (lv 15) (32 :: 120 :: 10 :: doneK) = .ok (.mk 1 [] [] [[litP false [120]]] [] [] [] [] []) (10 :: doneK) := by
    have h1 : (lv 15).compound (32 :: 120 :: 10 :: doneK) = .ok none (32 :: 120 :: 10 :: doneK) := rfl
    have h2 : ¬ (isName (nextL (32 :: 120 :: 10 :: doneK)).1 = true ∧ stands [40] (nextL (32 :: 120 :: 10 :: doneK)).2 = true) := fun x => by
      have : stands [40] (nextL (32 :: 120 :: 10 :: doneK)).2 = false := rfl
      rw [this] at x; cases x.2
    unfold commandL
    rw [h1]
    simp only []
    rw [if_neg h2, simple_x]
  have hp : passL [33] (32 :: 120 :: 10 :: doneK) = none := rfl
  have hn : newlinesL (32 :: 120 :: 10 :: doneK) = 32 :: 120 :: 10 :: doneK := rfl
  have he : listsEnd (32 :: 120 :: 10 :: doneK) = false := rfl
  have hL : listL (lv 15) (32 :: 120 :: 10 :: doneK) = .ok (.mk [.mk false [.mk 1 [] [] [[litP false [120]]] [] [] [] [] []]] []) (10 :: doneK) := by
    unfold listL pipeL
    rw [hp, Option.getD_none, hc]
    rfl
  unfold listsTo listsL
  rw [hn, he, hL]
  rfl
theorem lv_same (n : Nat) : Same0 (lv n).compound := by
  cases n with
  | zero => exact compound_same _ _ _
  | succ n => exact compound_same _ _ _
theorem plain_while {l r : Bs} {xs : List LiT} (h : parseL l = .ok xs r) (hx : xs ≠ []) : Dp (.ok [.mk [.mk false [.mk 5 [] [] [] xs (one 120) [] [] []]] []] []) (parseL (119 :: 104 :: 105 :: 108 :: 101 :: 32 :: (l ++ 10 :: 100 :: 111 :: 32 :: 120 :: 10 :: doneK))) := by
  have hn := next_while (l ++ 10 :: 100 :: 111 :: 32 :: 120 :: 10 :: doneK)
  have hi := (inner h hx (100 :: 111 :: 32 :: 120 :: 10 :: doneK) rfl).2.1
  apply script_one
  · rw [hn]; simp
  · rw [hn]; simp
  · unfold listsEnd overL; rw [hn, show aheadL (119 :: 104 :: 105 :: 108 :: 101 :: 32 :: (l ++ 10 :: 100 :: 111 :: 32 :: 120 :: 10 :: doneK)) = 119 :: 104 :: 105 :: 108 :: 101 :: 32 :: (l ++ 10 :: 100 :: 111 :: 32 :: 120 :: 10 :: doneK) by simp [aheadL]]; rfl
  · apply compound_command
    show Dp _ (compoundL (listsL (lv 15)) _ _ _)
    rw [compound_is, hn]
    simp only [headL, if_neg (show ¬ ([119, 104, 105, 108, 101] : Bs) = [40] by decide), if_neg (show ¬ ([119, 104, 105, 108, 101] : Bs) = [123] by decide), if_neg (show ¬ ([119, 104, 105, 108, 101] : Bs) = [105, 102] by decide), if_true]
    have hl : listsTo (listsL (lv 15)) doK (32 :: (l ++ 10 :: 100 :: 111 :: 32 :: 120 :: 10 :: doneK)) = match listsL (lv 15) (l ++ 10 :: 100 :: 111 :: 32 :: 120 :: 10 :: doneK) with
      | .bad a e => .bad a e
      | .ok x r => match needL doK r with
        | .bad a e => .bad a e
        | .ok _ r2 => .ok x r2 := by
      unfold listsTo
      rw [lists_same (lv_same 15) (ahead_32 _)]
      rfl
    unfold loopL
    rw [hl]
    rcases hi with e | ⟨p, e⟩
    · rw [e]
      have hd : needL doK (newlinesL (100 :: 111 :: 32 :: 120 :: 10 :: doneK)) = .ok () (32 :: 120 :: 10 :: doneK) := rfl
      simp only [hd, body_x]
      exact Or.inl rfl
    · rw [e]; exact Or.inr ⟨p, rfl⟩
end SyM

/- DERIVED. Plain mathematics of layer 8: a script in a function's body (SyntaxGroups). -/
namespace SyM
open PathM WdM
set_option linter.unusedVariables false

theorem plain_func {l r : Bs} {xs : List LiT} (h : parseL l = .ok xs r) (hx : xs ≠ []) : Dp (.ok [.mk [.mk false [.mk 9 [102] [] [] [] (alone (.mk 2 [] [] [] [] xs [] [] [])) [] [] []]] []] []) (parseL (102 :: 40 :: 41 :: 32 :: 123 :: 10 :: (l ++ [10, 125]))) := by
  have hn := next_f (41 :: 32 :: 123 :: 10 :: (l ++ [10, 125]))
  have hi := (inner h hx [125] rfl).2.2
  have hb : nextL (32 :: 123 :: 10 :: (l ++ [10, 125])) = ([123], 10 :: (l ++ [10, 125])) := by
    rw [next_same (ahead_32 (123 :: 10 :: (l ++ [10, 125]))), next_brace]
  have ha : ∀ (c : UInt8) (u : Bs), c = 102 ∨ c = 40 ∨ c = 41 → aheadL (c :: u) = c :: u := fun c u hc => by
    rcases hc with e | e | e <;> subst e <;> cases u <;> simp [aheadL]
  apply script_one
  · rw [hn]; simp
  · rw [hn]; simp
  · unfold listsEnd overL; rw [hn, ha 102 _ (.inl rfl)]; rfl
  · unfold commandL
    have h1 : (lv 16).compound (102 :: 40 :: 41 :: 32 :: 123 :: 10 :: (l ++ [10, 125])) = .ok none (102 :: 40 :: 41 :: 32 :: 123 :: 10 :: (l ++ [10, 125])) := by
      have e : (lv 16).compound = compoundL (listsL (lv 15)) (choiceL (listsL (lv 15)) (lv 15).choice) (lv 16).sc := rfl
      rw [e, compound_is, hn]
      rfl
    have h2 : isName [102] = true := rfl
    have h3 : ∀ u : Bs, stands [40] (40 :: u) = true := fun u => rfl
    rw [h1]
    simp only []
    rw [hn, if_pos ⟨h2, h3 _⟩]
    unfold functionL nameL
    rw [hn, if_pos h2]
    simp only []
    have n1 : needL [40] (40 :: 41 :: 32 :: 123 :: 10 :: (l ++ [10, 125])) = .ok () (41 :: 32 :: 123 :: 10 :: (l ++ [10, 125])) := by
      unfold needL passL
      rw [next_paren, if_pos rfl]
    have n2 : needL [41] (41 :: 32 :: 123 :: 10 :: (l ++ [10, 125])) = .ok () (32 :: 123 :: 10 :: (l ++ [10, 125])) := by
      have e : nextL (41 :: 32 :: 123 :: 10 :: (l ++ [10, 125])) = ([41], 32 :: 123 :: 10 :: (l ++ [10, 125])) := by
        unfold nextL; rw [ha 41 _ (.inr (.inr rfl))]; rfl
      unfold needL passL
      rw [e, if_pos rfl]
    have n3 : newlinesL (32 :: 123 :: 10 :: (l ++ [10, 125])) = 32 :: 123 :: 10 :: (l ++ [10, 125]) := by
      show newlinesN ((32 :: 123 :: 10 :: (l ++ [10, 125])).length + 1) _ = _
      rw [newlinesN]
      unfold passL
      rw [hb, if_neg (show ¬ ([123] : Bs) = [10] by decide)]
    rw [n1]
    simp only []
    rw [n2]
    simp only []
    rw [n3]
    have hc : Dp (.ok (some (.mk 2 [] [] [] [] xs [] [] [])) []) ((lv 16).body (32 :: 123 :: 10 :: (l ++ [10, 125]))) := by
      show Dp _ (compoundL (listsL (lv 14)) _ _ _)
      rw [compound_is, hb]
      simp only [headL, if_neg (show ¬ ([123] : Bs) = [40] by decide), if_true]
      unfold listsTo
      rw [lists_line]
      rcases hi with e | ⟨p, e⟩
      · rw [e]; exact Or.inl rfl
      · rw [e]; exact Or.inr ⟨p, rfl⟩
    rcases hc with e | ⟨p, e⟩
    · rw [e]; exact Or.inl rfl
    · rw [e]; exact Or.inr ⟨p, rfl⟩
end SyM

/- DERIVED. Plain mathematics of layer 8: a script behind a condition (SyntaxGroups). -/
namespace SyM
open PathM WdM
set_option linter.unusedVariables false

theorem word_x2 (sc : Bs → Option Int) : wordL sc [32, 120] = .ok [litP false [120]] [] := by
  have h1 : scan (aheadL [32, 120]) = .ok [litP false [120]] [] := rfl
  have h2 : wordStands [32, 120] = true := rfl
  unfold wordL
  rw [h2, if_pos rfl, h1]
  simp [scriptsF, litP]
theorem simple_x2 (sc : Bs → Option Int) : simpleL sc [32, 120] = .ok (.mk 1 [] [] [[litP false [120]]] [] [] [] [] []) [] := by
  have h2 : wordStands [32, 120] = true := rfl
  have h3 : arrowL [32, 120] = none := rfl
  have h4 : endingL (nextL [32, 120]).1 = false := rfl
  have h5 : assignL [litP false [120]] = none := rfl
  have h6 : wordStands [] = false := rfl
  have h7 : arrowL [] = none := rfl
  unfold simpleL
  rw [h4, h3, h2, if_neg (by simp)]
  show simpleN sc (1 + 1 + 1) [] [] [] [32, 120] = _
  rw [simpleN, h3, h2, word_x2]
  simp only [Option.isSome_none, Bool.false_eq_true, if_false, if_true, h5]
  rw [simpleN, h7, h6]
  rfl
theorem lists_x2 : listsL (lv 15) [32, 120] = .ok (one 120) [] := by
  have hc : commandL (lv 15) [32, 120] = .ok (.mk 1 [] [] [[litP false [120]]] [] [] [] [] []) [] := by
    have h1 : (lv 15).compound [32, 120] = .ok none [32, 120] := rfl
    have h2 : ¬ (isName (nextL [32, 120]).1 = true ∧ stands [40] (nextL [32, 120]).2 = true) := fun x => by
      have : stands [40] (nextL [32, 120]).2 = false := rfl
      rw [this] at x; cases x.2
    unfold commandL
    rw [h1]
    simp only []
    rw [if_neg h2, simple_x2]
  have hp : passL [33] [32, 120] = none := rfl
  have hn : newlinesL [32, 120] = [32, 120] := rfl
  have he : listsEnd [32, 120] = false := rfl
  have hL : listL (lv 15) [32, 120] = .ok (.mk [.mk false [.mk 1 [] [] [[litP false [120]]] [] [] [] [] []]] []) [] := by
    unfold listL pipeL
    rw [hp, Option.getD_none, hc]
    rfl
  unfold listsL
  rw [hn, he, hL]
  rfl
theorem next_then (u : Bs) : nextL (116 :: 104 :: 101 :: 110 :: 32 :: u) = (thenK, 32 :: u) :=
  next_low (T := 32 :: u) (Or.inr ⟨32, u, rfl, by decide⟩) 116 [104, 101, 110] (by decide) rfl
theorem plain_then {l r : Bs} {xs : List LiT} (h : parseL l = .ok xs r) (hx : xs ≠ []) : Dp (.ok [.mk [.mk false [.mk 4 [] [] [] (one 120) xs [] [] []]] []] []) (parseL (105 :: 102 :: 32 :: 120 :: 10 :: 116 :: 104 :: 101 :: 110 :: 32 :: (l ++ 10 :: fiK))) := by
  have hn := next_if (120 :: 10 :: 116 :: 104 :: 101 :: 110 :: 32 :: (l ++ 10 :: fiK))
  have ht := next_then (l ++ 10 :: fiK)
  have hi := (inner h hx fiK rfl).2.1
  have n1 : newlinesL (116 :: 104 :: 101 :: 110 :: 32 :: (l ++ 10 :: fiK)) = 116 :: 104 :: 101 :: 110 :: 32 :: (l ++ 10 :: fiK) := by
    show newlinesN ((116 :: 104 :: 101 :: 110 :: 32 :: (l ++ 10 :: fiK)).length + 1) _ = _
    rw [newlinesN]
    unfold passL
    rw [ht, if_neg (show ¬ (thenK : Bs) = [10] by decide)]
  have e1 : listsEnd (newlinesL (116 :: 104 :: 101 :: 110 :: 32 :: (l ++ 10 :: fiK))) = true := by
    rw [n1]; unfold listsEnd; rw [ht]; rfl
  have h1 : listsL (lv 15) (32 :: 120 :: 10 :: 116 :: 104 :: 101 :: 110 :: 32 :: (l ++ 10 :: fiK)) = .ok (one 120) (116 :: 104 :: 101 :: 110 :: 32 :: (l ++ 10 :: fiK)) := by
    have := lists_over (lv_ok 15).command _ e1 lists_x2 rfl
    rw [n1] at this
    exact this
  have h2 : needL thenK (116 :: 104 :: 101 :: 110 :: 32 :: (l ++ 10 :: fiK)) = .ok () (32 :: (l ++ 10 :: fiK)) := by
    unfold needL passL
    rw [ht, if_pos rfl]
  have h3 : listsTo (listsL (lv 15)) thenK (32 :: 120 :: 10 :: 116 :: 104 :: 101 :: 110 :: 32 :: (l ++ 10 :: fiK)) = .ok (one 120) (32 :: (l ++ 10 :: fiK)) := by
    unfold listsTo
    rw [h1]
    simp only []
    rw [h2]
  have h4 : listsL (lv 15) (32 :: (l ++ 10 :: fiK)) = listsL (lv 15) (l ++ 10 :: fiK) := lists_same (lv_same 15) (ahead_32 _)
  apply script_one
  · rw [hn]; simp
  · rw [hn]; simp
  · unfold listsEnd overL; rw [hn, show aheadL (105 :: 102 :: 32 :: 120 :: 10 :: 116 :: 104 :: 101 :: 110 :: 32 :: (l ++ 10 :: fiK)) = 105 :: 102 :: 32 :: 120 :: 10 :: 116 :: 104 :: 101 :: 110 :: 32 :: (l ++ 10 :: fiK) by simp [aheadL]]; rfl
  · apply compound_command
    have e : (lv 16).compound = compoundL (listsL (lv 15)) (choiceL (listsL (lv 15)) (lv 15).choice) (lv 16).sc := rfl
    rw [e, compound_is, hn]
    simp only [headL, if_neg (show ¬ ([105, 102] : Bs) = [40] by decide), if_neg (show ¬ ([105, 102] : Bs) = [123] by decide), if_true]
    unfold choiceL
    rw [h3]
    simp only []
    rw [h4]
    rcases hi with e | ⟨p, e⟩
    · rw [e]
      exact Or.inl rfl
    · rw [e]; exact Or.inr ⟨p, rfl⟩
end SyM

/- DERIVED. Plain mathematics of layer 8: a script behind else (SyntaxGroups). -/
namespace SyM
open PathM WdM
set_option linter.unusedVariables false

/-- A plain command of one letter, by what is seen of its text. -/
theorem lists_one (c : UInt8) (l T D R : Bs) (n : Nat) (hl : l.length = n + 1) (h1 : scan (aheadL l) = .ok [litP false [c]] T) (h2 : wordStands l = true) (h3 : arrowL l = none) (h4 : endingL (nextL l).1 = false) (h5 : assignL [litP false [c]] = none) (h6 : wordStands T = false) (h7 : arrowL T = none) (h8 : (lv 15).compound l = .ok none l) (h9 : stands [40] (nextL l).2 = false) (h10 : passL [33] l = none) (h11 : newlinesL l = l) (h12 : listsEnd l = false) (t1 : passL [124] T = none) (t2 : (nextL T).1 = [59]) (t3 : divL T = some D) (t4 : listsEnd (newlinesL D) = true) (t5 : newlinesL D = R) : listsL (lv 15) l = .ok (one c) R := by
  have hw : ∀ sc, wordL sc l = .ok [litP false [c]] T := fun sc => by
    unfold wordL
    rw [h2, if_pos rfl, h1]
    simp [scriptsF, litP]
  have hs : ∀ sc, simpleL sc l = .ok (.mk 1 [] [] [[litP false [c]]] [] [] [] [] []) T := fun sc => by
    unfold simpleL
    rw [h4, h3, h2, if_neg (by simp), hl, simpleN, h3, h2, hw]
    simp only [Option.isSome_none, Bool.false_eq_true, if_false, if_true, h5]
    rw [simpleN, h7, h6]
    rfl
  have hc : commandL (lv 15) l = .ok (.mk 1 [] [] [[litP false [c]]] [] [] [] [] []) T := by
    unfold commandL
    rw [h8]
    simp only []
    rw [if_neg (fun x => by rw [h9] at x; cases x.2), hs]
  have hL : listL (lv 15) l = .ok (.mk [.mk false [.mk 1 [] [] [[litP false [c]]] [] [] [] [] []]] []) T := by
    unfold listL pipeL
    rw [h10, Option.getD_none, hc]
    simp only []
    rw [commandsN, t1]
    simp only []
    rw [pipesN, t2, if_neg (show ¬ (([59] : Bs) = [38, 38] ∨ ([59] : Bs) = [124, 124]) by decide)]
    rfl
  unfold listsL
  rw [h11, h12, hL]
  simp only [Bool.false_eq_true, if_false]
  rw [div_is, t3]
  simp only []
  rw [if_pos t4, t5]
  rfl
def restY : Bs := 32 :: 121 :: 59 :: 32 :: elseK
theorem lists_y : listsL (lv 15) restY = .ok (one 121) (32 :: elseK) :=
  lists_one 121 restY (59 :: 32 :: elseK) (32 :: elseK) (32 :: elseK) 7 rfl rfl rfl rfl rfl rfl rfl rfl rfl rfl rfl rfl rfl rfl rfl rfl rfl rfl
theorem lists_cond : listsL (lv 15) (32 :: 120 :: 59 :: 32 :: (thenK ++ restY)) = .ok (one 120) (32 :: (thenK ++ restY)) :=
  lists_one 120 (32 :: 120 :: 59 :: 32 :: (thenK ++ restY)) (59 :: 32 :: (thenK ++ restY)) (32 :: (thenK ++ restY)) (32 :: (thenK ++ restY)) 15 rfl rfl rfl rfl rfl rfl rfl rfl rfl rfl rfl rfl rfl rfl rfl rfl rfl rfl
theorem cond_x : listsTo (listsL (lv 15)) thenK (32 :: 120 :: 59 :: 32 :: (thenK ++ restY)) = .ok (one 120) restY := by
  unfold listsTo
  rw [lists_cond]
  rfl
theorem plain_else {l r : Bs} {xs : List LiT} (h : parseL l = .ok xs r) (hx : xs ≠ []) : Dp (.ok [.mk [.mk false [.mk 4 [] [] [] (one 120) (one 121) xs [] []]] []] []) (parseL (105 :: 102 :: (32 :: 120 :: 59 :: 32 :: (thenK ++ restY) ++ 10 :: (l ++ 10 :: fiK)))) := by
  have hn : nextL (105 :: 102 :: (32 :: 120 :: 59 :: 32 :: (thenK ++ restY) ++ 10 :: (l ++ 10 :: fiK))) = ([105, 102], 32 :: 120 :: 59 :: 32 :: (thenK ++ restY) ++ 10 :: (l ++ 10 :: fiK)) := next_if (120 :: 59 :: 32 :: (thenK ++ restY) ++ 10 :: (l ++ 10 :: fiK))
  have hi := (inner h hx fiK rfl).2.1
  have hX := (lists_ext (lv_ok 15).command).1
  have h3 := (listsTo_ext hX (l ++ 10 :: fiK) (show thenK ≠ [] by decide) cond_x).1
  have hfree : Free (32 :: elseK) := pass_free (what := elseK) (r := []) (by decide) rfl
  have h4 := (hX _ _ _ (l ++ 10 :: fiK) lists_y).1 hfree
  have h5 : passL elseK (32 :: elseK ++ 10 :: (l ++ 10 :: fiK)) = some ([] ++ 10 :: (l ++ 10 :: fiK)) := pass_ext _ (by decide) rfl
  apply script_one
  · rw [hn]; simp
  · rw [hn]; simp
  · unfold listsEnd overL; rw [hn]; rw [show aheadL (105 :: 102 :: (32 :: 120 :: 59 :: 32 :: (thenK ++ restY) ++ 10 :: (l ++ 10 :: fiK))) = 105 :: 102 :: (32 :: 120 :: 59 :: 32 :: (thenK ++ restY) ++ 10 :: (l ++ 10 :: fiK)) by simp [aheadL]]; rfl
  · apply compound_command
    have e : (lv 16).compound = compoundL (listsL (lv 15)) (choiceL (listsL (lv 15)) (lv 15).choice) (lv 16).sc := rfl
    rw [e, compound_is, hn]
    simp only [headL, if_neg (show ¬ ([105, 102] : Bs) = [40] by decide), if_neg (show ¬ ([105, 102] : Bs) = [123] by decide), if_true]
    have hch : choiceL (listsL (lv 15)) (lv 15).choice (32 :: 120 :: 59 :: 32 :: (thenK ++ restY) ++ 10 :: (l ++ 10 :: fiK)) = match listsL (lv 15) (l ++ 10 :: fiK) with
        | .bad a e => .bad a e
        | .ok o r => match needL fiK r with
          | .bad a e => .bad a e
          | .ok _ r4 => .ok (.mk 4 [] [] [] (one 120) (one 121) o [] []) r4 := by
      unfold choiceL
      rw [h3]
      simp only []
      rw [h4]
      simp only []
      rw [h5]
      simp only [List.nil_append]
      unfold listsTo
      rw [lists_line]
      cases listsL (lv 15) (l ++ 10 :: fiK) with
      | bad a e => rfl
      | ok x r =>
        simp only []
        cases needL fiK r <;> rfl
    rw [hch]
    rcases hi with e | ⟨p, e⟩
    · rw [e]
      exact Or.inl rfl
    · rw [e]; exact Or.inr ⟨p, rfl⟩
end SyM

/- DERIVED. Plain mathematics of layer 8: no fault has the number 0. -/
namespace SyM
open PathM WdM
set_option linter.unusedVariables false

def GoodSc (sc : Bs → Option Int) : Prop := ∀ t e, sc t = some e → e ≠ 0
theorem good_refuse {α : Type} (l : Bs) : Good (refuse l : Rs α) := by
  unfold refuse
  refine good_bad _ _ ?_
  split <;> decide
theorem good_need (what l : Bs) : Good (needL what l) := by
  unfold needL
  split
  · exact good_ok _ _
  · exact good_refuse l
theorem good_scripts {sc : Bs → Option Int} (hs : GoodSc sc) : ∀ (l : List PT) (e : Int), scriptsF sc l = some e → e ≠ 0
  | [], e, h => by rw [scriptsF] at h; cases h
  | .mk k q t o w :: r, e, h => by
    have h1 := good_scripts hs w
    have h2 := good_scripts hs r
    rw [scriptsF] at h
    split at h
    · rename_i e2 h3
      injection h with h; subst h
      split at h3
      · exact hs _ _ h3
      · cases h3
    · split at h
      · rename_i e2 h3
        injection h with h; subst h
        exact h1 _ h3
      · exact h2 _ h
theorem good_word {sc : Bs → Option Int} (hs : GoodSc sc) (l : Bs) : Good (wordL sc l) := by
  unfold wordL
  split
  · split
    · rename_i a e h
      split
      · exact good_bad _ _ (by decide)
      · exact good_bad _ _ (scan_err h)
    · split
      · rename_i e h; exact good_bad _ _ (good_scripts hs _ _ h)
      · exact good_ok _ _
  · exact good_refuse l
theorem good_redir {sc : Bs → Option Int} (hs : GoodSc sc) {l : Bs} {x : Int × Bs × Bs} (h : arrowL l = some x) : Good (redirL sc l) := by
  unfold redirL
  rw [h]
  simp only
  split
  · rename_i h2; exact good_bad _ _ (good_word hs _ _ _ h2)
  · exact good_ok _ _
theorem good_redirs {sc : Bs → Option Int} (hs : GoodSc sc) : ∀ (n : Nat) (acc : List RdT) (l : Bs), Good (redirsN sc n acc l)
  | 0, acc, l => good_ok _ _
  | n + 1, acc, l => by
    rw [redirsN]
    split
    · exact good_ok _ _
    · rename_i h
      split
      · rename_i h2; exact good_bad _ _ (good_redir hs h _ _ h2)
      · exact good_redirs hs n _ _
theorem good_simpleN {sc : Bs → Option Int} (hs : GoodSc sc) : ∀ (n : Nat) (xs : List AsT) (ws : List (List PT)) (rs : List RdT) (l : Bs), Good (simpleN sc n xs ws rs l)
  | 0, xs, ws, rs, l => good_ok _ _
  | n + 1, xs, ws, rs, l => by
    rw [simpleN]
    split
    · rename_i h
      obtain ⟨x, hx⟩ := Option.isSome_iff_exists.1 h
      split
      · rename_i h2; exact good_bad _ _ (good_redir hs hx _ _ h2)
      · exact good_simpleN hs n _ _ _ _
    · split
      · split
        · rename_i h2; exact good_bad _ _ (good_word hs _ _ _ h2)
        · split
          · split
            · exact good_simpleN hs n _ _ _ _
            · exact good_simpleN hs n _ _ _ _
          · exact good_simpleN hs n _ _ _ _
      · exact good_ok _ _
theorem good_simple {sc : Bs → Option Int} (hs : GoodSc sc) (l : Bs) : Good (simpleL sc l) := by
  unfold simpleL
  split
  · exact good_refuse l
  · exact good_simpleN hs _ _ _ _ _
theorem good_name (l : Bs) : Good (nameL l) := by
  unfold nameL
  split
  · exact good_ok _ _
  · exact good_refuse l
section
variable {lists : Bs → Rs (List LiT)} (hl : ∀ l, Good (lists l))
theorem good_to (hl : ∀ l, Good (lists l)) (what l : Bs) : Good (listsTo lists what l) := by
  unfold listsTo
  split
  · rename_i h; exact good_bad _ _ (hl _ _ _ h)
  · split
    · rename_i h; exact good_bad _ _ (good_need _ _ _ _ h)
    · exact good_ok _ _
theorem good_choice (hl : ∀ l, Good (lists l)) {elif : Bs → Rs CmdT} (he : ∀ l, Good (elif l)) (l : Bs) : Good (choiceL lists elif l) := by
  unfold choiceL
  split
  · rename_i h; exact good_bad _ _ (good_to hl _ _ _ _ h)
  · split
    · rename_i h; exact good_bad _ _ (hl _ _ _ h)
    · split
      · split
        · rename_i h; exact good_bad _ _ (good_to hl _ _ _ _ h)
        · exact good_ok _ _
      · split
        · split
          · rename_i h; exact good_bad _ _ (he _ _ _ h)
          · exact good_ok _ _
        · split
          · rename_i h; exact good_bad _ _ (good_need _ _ _ _ h)
          · exact good_ok _ _
theorem good_loop (hl : ∀ l, Good (lists l)) (k : Int) (l : Bs) : Good (loopL lists k l) := by
  unfold loopL
  split
  · rename_i h; exact good_bad _ _ (good_to hl _ _ _ _ h)
  · split
    · rename_i h; exact good_bad _ _ (good_to hl _ _ _ _ h)
    · exact good_ok _ _
end
theorem good_words {sc : Bs → Option Int} (hs : GoodSc sc) : ∀ (n : Nat) (acc : List (List PT)) (l : Bs), Good (wordsN sc n acc l)
  | 0, acc, l => good_ok _ _
  | n + 1, acc, l => by
    rw [wordsN]
    split
    · split
      · rename_i h2; exact good_bad _ _ (good_word hs _ _ _ h2)
      · exact good_words hs n _ _
    · exact good_ok _ _
theorem good_in {sc : Bs → Option Int} (hs : GoodSc sc) (l : Bs) : Good (inWords sc l) := by
  unfold inWords
  split
  · exact good_words hs _ _ _
  · exact good_ok _ _
theorem good_each {lists : Bs → Rs (List LiT)} (hl : ∀ l, Good (lists l)) {sc : Bs → Option Int} (hs : GoodSc sc) (l : Bs) : Good (eachL lists sc l) := by
  unfold eachL
  split
  · rename_i h; exact good_bad _ _ (good_name _ _ _ h)
  · split
    · rename_i h; exact good_bad _ _ (good_in hs _ _ _ h)
    · split
      · rename_i h; exact good_bad _ _ (good_need _ _ _ _ h)
      · split
        · rename_i h; exact good_bad _ _ (good_to hl _ _ _ _ h)
        · exact good_ok _ _
theorem good_pats {sc : Bs → Option Int} (hs : GoodSc sc) : ∀ (n : Nat) (acc : List (List PT)) (l : Bs), Good (patsN sc n acc l)
  | 0, acc, l => good_ok _ _
  | n + 1, acc, l => by
    rw [patsN]
    split
    · exact good_ok _ _
    · split
      · rename_i h2; exact good_bad _ _ (good_word hs _ _ _ h2)
      · exact good_pats hs n _ _
theorem good_branch {lists : Bs → Rs (List LiT)} (hl : ∀ l, Good (lists l)) {sc : Bs → Option Int} (hs : GoodSc sc) (l : Bs) : Good (branchL lists sc l) := by
  unfold branchL
  split
  · rename_i h; exact good_bad _ _ (good_word hs _ _ _ h)
  · split
    · rename_i h; exact good_bad _ _ (good_pats hs _ _ _ _ _ h)
    · split
      · rename_i h; exact good_bad _ _ (good_need _ _ _ _ h)
      · split
        · exact good_ok _ _
        · split
          · rename_i h; exact good_bad _ _ (hl _ _ _ h)
          · exact good_ok _ _
theorem good_branches {lists : Bs → Rs (List LiT)} (hl : ∀ l, Good (lists l)) {sc : Bs → Option Int} (hs : GoodSc sc) : ∀ (n : Nat) (acc : List CsT) (l : Bs), Good (branchesN lists sc n acc l)
  | 0, acc, l => good_ok _ _
  | n + 1, acc, l => by
    rw [branchesN]
    split
    · exact good_ok _ _
    · split
      · rename_i h; exact good_bad _ _ (good_branch hl hs _ _ _ h)
      · split
        · exact good_branches hl hs n _ _
        · split
          · rename_i h; exact good_bad _ _ (good_need _ _ _ _ h)
          · exact good_ok _ _
theorem good_case {lists : Bs → Rs (List LiT)} (hl : ∀ l, Good (lists l)) {sc : Bs → Option Int} (hs : GoodSc sc) (l : Bs) : Good (caseL lists sc l) := by
  unfold caseL
  split
  · rename_i h; exact good_bad _ _ (good_word hs _ _ _ h)
  · split
    · rename_i h; exact good_bad _ _ (good_need _ _ _ _ h)
    · split
      · rename_i h; exact good_bad _ _ (good_branches hl hs _ _ _ _ _ h)
      · exact good_ok _ _
theorem good_sub {lists : Bs → Rs (List LiT)} (hl : ∀ l, Good (lists l)) (what l : Bs) (f : List LiT → CmdT) : Good (match listsTo lists what l with
      | .bad a e => .bad a e
      | .ok b r2 => .ok (f b) r2) := by
  split
  · rename_i h; exact good_bad _ _ (good_to hl _ _ _ _ h)
  · exact good_ok _ _
theorem good_compound {lists : Bs → Rs (List LiT)} (hl : ∀ l, Good (lists l)) {choice : Bs → Rs CmdT} (hc : ∀ l, Good (choice l)) {sc : Bs → Option Int} (hs : GoodSc sc) (l : Bs) : Good (compoundL lists choice sc l) := by
  unfold compoundL
  simp only
  split
  · exact good_ok _ _
  · rename_i a e h
    refine good_bad _ _ ?_
    split at h
    · injection h with h; exact good_sub hl [41] _ (fun b => .mk 3 [] [] [] [] b [] [] []) _ _ h
    · split at h
      · injection h with h; exact good_sub hl [125] _ (fun b => .mk 2 [] [] [] [] b [] [] []) _ _ h
      · split at h
        · injection h with h; exact hc _ _ _ h
        · split at h
          · injection h with h; exact good_loop hl _ _ _ _ h
          · split at h
            · injection h with h; exact good_loop hl _ _ _ _ h
            · split at h
              · injection h with h; exact good_each hl hs _ _ _ h
              · split at h
                · injection h with h; exact good_case hl hs _ _ _ h
                · cases h
  · split
    · rename_i h; exact good_bad _ _ (good_redirs hs _ _ _ _ _ h)
    · exact good_ok _ _
theorem good_function {body : Bs → Rs (Option CmdT)} (hb : ∀ l, Good (body l)) (l : Bs) : Good (functionL body l) := by
  unfold functionL
  split
  · rename_i h; exact good_bad _ _ (good_name _ _ _ h)
  · split
    · rename_i h; exact good_bad _ _ (good_need _ _ _ _ h)
    · split
      · rename_i h; exact good_bad _ _ (good_need _ _ _ _ h)
      · split
        · rename_i h; exact good_bad _ _ (hb _ _ _ h)
        · exact good_refuse _
        · exact good_ok _ _
/-- Of a level. -/
structure GoodLv (v : Lv) : Prop where
  lists : ∀ l, Good (v.lists l)
  choice : ∀ l, Good (v.choice l)
  compound : ∀ l, Good (v.compound l)
  body : ∀ l, Good (v.body l)
  sc : GoodSc v.sc
theorem good_command {v : Lv} (h : GoodLv v) (l : Bs) : Good (commandL v l) := by
  unfold commandL
  split
  · rename_i h2; exact good_bad _ _ (h.compound _ _ _ h2)
  · exact good_ok _ _
  · split
    · exact good_function h.body _
    · exact good_simple h.sc _
theorem good_commands {v : Lv} (h : GoodLv v) : ∀ (n : Nat) (acc : List CmdT) (l : Bs), Good (commandsN v n acc l)
  | 0, acc, l => good_ok _ _
  | n + 1, acc, l => by
    rw [commandsN]
    split
    · exact good_ok _ _
    · split
      · rename_i h2; exact good_bad _ _ (good_command h _ _ _ h2)
      · exact good_commands h n _ _
theorem good_pipe {v : Lv} (h : GoodLv v) (l : Bs) : Good (pipeL v l) := by
  unfold pipeL
  split
  · rename_i h2; exact good_bad _ _ (good_command h _ _ _ h2)
  · split
    · rename_i h2; exact good_bad _ _ (good_commands h _ _ _ _ _ h2)
    · exact good_ok _ _
theorem good_pipes {v : Lv} (h : GoodLv v) : ∀ (n : Nat) (ps : List PiT) (os : List Bs) (l : Bs), Good (pipesN v n ps os l)
  | 0, ps, os, l => good_ok _ _
  | n + 1, ps, os, l => by
    rw [pipesN]
    split
    · split
      · rename_i h2; exact good_bad _ _ (good_pipe h _ _ _ h2)
      · exact good_pipes h n _ _ _
    · exact good_ok _ _
theorem good_list {v : Lv} (h : GoodLv v) (l : Bs) : Good (listL v l) := by
  unfold listL
  split
  · rename_i h2; exact good_bad _ _ (good_pipe h _ _ _ h2)
  · exact good_pipes h _ _ _ _
theorem good_listsN {v : Lv} (h : GoodLv v) : ∀ (n : Nat) (acc : List LiT) (l : Bs), Good (listsN v n acc l)
  | 0, acc, l => good_ok _ _
  | n + 1, acc, l => by
    rw [listsN]
    split
    · exact good_ok _ _
    · split
      · exact good_ok _ _
      · split
        · rename_i h2; exact good_bad _ _ (good_list h _ _ _ h2)
        · exact good_listsN h n _ _
theorem good_lists {v : Lv} (h : GoodLv v) (l : Bs) : Good (listsL v l) := by
  unfold listsL
  split
  · exact good_refuse _
  · split
    · rename_i h2; exact good_bad _ _ (good_list h _ _ _ h2)
    · exact good_listsN h _ _ _
theorem good_script {lists : Bs → Rs (List LiT)} (hl : ∀ l, Good (lists l)) (l : Bs) : Good (scriptL lists l) := by
  unfold scriptL
  split
  · exact good_ok _ _
  · split
    · rename_i h2; exact good_bad _ _ (hl _ _ _ h2)
    · split
      · exact good_ok _ _
      · exact good_refuse _
theorem good_errs {lists : Bs → Rs (List LiT)} (hl : ∀ l, Good (lists l)) : GoodSc (fun t => errOf (scriptL lists t)) := by
  intro t e h
  cases hm : scriptL lists t with
  | bad a e2 =>
    have h : errOf (scriptL lists t) = some e := h
    rw [hm] at h
    injection h with h
    subst h
    exact good_script hl _ _ _ hm
  | ok x r =>
    have h : errOf (scriptL lists t) = some e := h
    rw [hm] at h
    cases h
theorem good_deep {α : Type} (l : Bs) : Good (tooDeep l : Rs α) := good_bad _ _ (by decide)
theorem good_lv : ∀ n, GoodLv (lv n)
  | 0 => ⟨good_deep, good_choice good_deep good_deep, good_compound good_deep (good_choice good_deep good_deep) (good_errs good_deep), fun l => good_bad _ _ (by decide), good_errs good_deep⟩
  | n + 1 =>
    have h := good_lv n
    ⟨good_lists h, good_choice (good_lists h) h.choice, good_compound (good_lists h) (good_choice (good_lists h) h.choice) (good_errs h.lists), h.compound, good_errs h.lists⟩
end SyM

/- DERIVED. Plain mathematics of layer 8: the chapter's examples. -/
namespace SyM
open PathM WdM
set_option linter.unusedVariables false

def cmd1 (c : UInt8) : CmdT := .mk 1 [] [] [[litP false [c]]] [] [] [] [] []
theorem pipe_one (m : Nat) (c : UInt8) (l T : Bs) (n : Nat) (hl : l.length = n + 1) (h1 : scan (aheadL l) = .ok [litP false [c]] T) (h2 : wordStands l = true) (h3 : arrowL l = none) (h4 : endingL (nextL l).1 = false) (h5 : assignL [litP false [c]] = none) (h6 : wordStands T = false) (h7 : arrowL T = none) (h8 : (lv m).compound l = .ok none l) (h9 : stands [40] (nextL l).2 = false) (h10 : passL [33] l = none) :
    commandL (lv m) l = .ok (cmd1 c) T ∧ (passL [124] T = none → pipeL (lv m) l = .ok (.mk false [cmd1 c]) T) := by
  have hw : ∀ sc, wordL sc l = .ok [litP false [c]] T := fun sc => by
    unfold wordL
    rw [h2, if_pos rfl, h1]
    simp [scriptsF, litP]
  have hs : ∀ sc, simpleL sc l = .ok (cmd1 c) T := fun sc => by
    unfold simpleL
    rw [h4, h3, h2, if_neg (by simp), hl, simpleN, h3, h2, hw]
    simp only [Option.isSome_none, Bool.false_eq_true, if_false, if_true, h5]
    rw [simpleN, h7, h6]
    rfl
  have hc : commandL (lv m) l = .ok (cmd1 c) T := by
    unfold commandL
    rw [h8]
    simp only []
    rw [if_neg (fun x => by rw [h9] at x; cases x.2), hs]
  refine ⟨hc, fun t1 => ?_⟩
  unfold pipeL
  rw [h10, Option.getD_none, hc]
  simp only []
  rw [commandsN, t1]
  rfl
def aBc : Bs := [97, 32, 38, 38, 32, 98, 32, 124, 124, 32, 99]
theorem aw1 : parseL aBc = .ok [.mk [.mk false [cmd1 97], .mk false [cmd1 98], .mk false [cmd1 99]] [[38, 38], [124, 124]]] [] := by
  have p1 := (pipe_one 16 97 aBc [32, 38, 38, 32, 98, 32, 124, 124, 32, 99] 10 rfl rfl rfl rfl rfl rfl rfl rfl rfl rfl rfl).2 rfl
  have p2 := (pipe_one 16 98 [32, 98, 32, 124, 124, 32, 99] [32, 124, 124, 32, 99] 6 rfl rfl rfl rfl rfl rfl rfl rfl rfl rfl rfl).2 rfl
  have p3 := (pipe_one 16 99 [32, 99] [] 1 rfl rfl rfl rfl rfl rfl rfl rfl rfl rfl rfl).2 rfl
  have hL : listL (lv 16) aBc = .ok (.mk [.mk false [cmd1 97], .mk false [cmd1 98], .mk false [cmd1 99]] [[38, 38], [124, 124]]) [] := by
    unfold listL
    rw [p1]
    simp only []
    show pipesN (lv 16) (8 + 1 + 1 + 1) _ _ _ = _
    have q1 : nextL ([32, 38, 38, 32, 98, 32, 124, 124, 32, 99] : Bs) = ([38, 38], [32, 98, 32, 124, 124, 32, 99]) := rfl
    have q2 : nextL ([32, 124, 124, 32, 99] : Bs) = ([124, 124], [32, 99]) := rfl
    have q3 : nextL ([] : Bs) = ([], []) := rfl
    have q4 : newlinesL ([32, 98, 32, 124, 124, 32, 99] : Bs) = [32, 98, 32, 124, 124, 32, 99] := rfl
    have q5 : newlinesL ([32, 99] : Bs) = [32, 99] := rfl
    rw [pipesN, q1]
    simp only []
    rw [if_pos (Or.inl trivial), q4, p2]
    simp only []
    rw [pipesN, q2]
    simp only []
    rw [if_pos (Or.inr trivial), q5, p3]
    simp only []
    rw [pipesN, q3]
    simp only []
    rw [if_neg (show ¬ (([] : Bs) = [38, 38] ∨ ([] : Bs) = [124, 124]) by decide)]
    rfl
  have hn : newlinesL aBc = aBc := rfl
  have hS : listsL (lv 16) aBc = .ok [.mk [.mk false [cmd1 97], .mk false [cmd1 98], .mk false [cmd1 99]] [[38, 38], [124, 124]]] [] := by
    unfold listsL
    rw [hn, show listsEnd aBc = false from rfl, hL]
    rfl
  show scriptL (listsL (lv 16)) aBc = _
  unfold scriptL
  rw [hn, show overL aBc = false from rfl, hS]
  rfl
/-- if a; then b; fi >f -/
def ifF : Bs := [105, 102, 32, 97, 59, 32, 116, 104, 101, 110, 32, 98, 59, 32, 102, 105, 32, 62, 102]
def ifC : CmdT := .mk 4 [] [] [] (one 97) (one 98) [] [] [⟨1, [62], [litP false [102]]⟩]
theorem aw2 : parseL ifF = .ok [.mk [.mk false [ifC]] []] [] := by
  have l1 : listsL (lv 15) [32, 97, 59, 32, 116, 104, 101, 110, 32, 98, 59, 32, 102, 105, 32, 62, 102] = .ok (one 97) [32, 116, 104, 101, 110, 32, 98, 59, 32, 102, 105, 32, 62, 102] :=
    lists_one 97 _ [59, 32, 116, 104, 101, 110, 32, 98, 59, 32, 102, 105, 32, 62, 102] [32, 116, 104, 101, 110, 32, 98, 59, 32, 102, 105, 32, 62, 102] _ 16 rfl rfl rfl rfl rfl rfl rfl rfl rfl rfl rfl rfl rfl rfl rfl rfl rfl rfl
  have l2 : listsL (lv 15) [32, 98, 59, 32, 102, 105, 32, 62, 102] = .ok (one 98) [32, 102, 105, 32, 62, 102] :=
    lists_one 98 _ [59, 32, 102, 105, 32, 62, 102] [32, 102, 105, 32, 62, 102] _ 8 rfl rfl rfl rfl rfl rfl rfl rfl rfl rfl rfl rfl rfl rfl rfl rfl rfl rfl
  have t1 : listsTo (listsL (lv 15)) thenK [32, 97, 59, 32, 116, 104, 101, 110, 32, 98, 59, 32, 102, 105, 32, 62, 102] = .ok (one 97) [32, 98, 59, 32, 102, 105, 32, 62, 102] := by
    unfold listsTo
    rw [l1]
    rfl
  have hch : ∀ elif, choiceL (listsL (lv 15)) elif [32, 97, 59, 32, 116, 104, 101, 110, 32, 98, 59, 32, 102, 105, 32, 62, 102] = .ok (.mk 4 [] [] [] (one 97) (one 98) [] [] []) [32, 62, 102] := fun elif => by
    unfold choiceL
    rw [t1]
    simp only []
    rw [l2]
    rfl
  have hw : ∀ sc, wordL sc [102] = .ok [litP false [102]] [] := fun sc => by
    unfold wordL
    rw [show wordStands [102] = true from rfl, if_pos rfl, show scan (aheadL [102]) = .ok [litP false [102]] [] from rfl]
    simp [scriptsF, litP]
  have hr : ∀ sc, redirL sc [32, 62, 102] = .ok ⟨1, [62], [litP false [102]]⟩ [] := fun sc => by
    unfold redirL
    rw [show arrowL [32, 62, 102] = some (1, [62], [102]) from rfl]
    simp only []
    rw [hw]
  have hrs : ∀ sc, redirsN sc (([32, 62, 102] : Bs).length + 1) [] [32, 62, 102] = .ok [⟨1, [62], [litP false [102]]⟩] [] := fun sc => by
    show redirsN sc (2 + 1 + 1) [] [32, 62, 102] = _
    rw [redirsN, show arrowL [32, 62, 102] = some (1, [62], [102]) from rfl]
    simp only []
    rw [hr]
    simp only []
    rw [redirsN]
    rfl
  have hc : (lv 16).compound ifF = .ok (some ifC) [] := by
    show compoundL (listsL (lv 15)) (choiceL (listsL (lv 15)) (lv 15).choice) _ ifF = _
    rw [compound_is, show nextL ifF = ([105, 102], [32, 97, 59, 32, 116, 104, 101, 110, 32, 98, 59, 32, 102, 105, 32, 62, 102]) from rfl]
    simp only [headL, if_neg (show ¬ ([105, 102] : Bs) = [40] by decide), if_neg (show ¬ ([105, 102] : Bs) = [123] by decide), if_true]
    rw [hch]
    simp only []
    rw [hrs]
    rfl
  have hcm : commandL (lv 16) ifF = .ok ifC [] := by
    unfold commandL
    rw [hc]
  have hL : listL (lv 16) ifF = .ok (.mk [.mk false [ifC]] []) [] := by
    unfold listL pipeL
    rw [show passL [33] ifF = none from rfl, Option.getD_none, hcm]
    rfl
  have hn : newlinesL ifF = ifF := rfl
  have hS : listsL (lv 16) ifF = .ok [.mk [.mk false [ifC]] []] [] := by
    unfold listsL
    rw [hn, show listsEnd ifF = false from rfl, hL]
    rfl
  show scriptL (listsL (lv 16)) ifF = _
  unfold scriptL
  rw [hn, show overL ifF = false from rfl, hS]
  rfl
theorem aw3 : parseL [97, 32, 124] = .bad 0 62 := by
  have p1 := (pipe_one 16 97 [97, 32, 124] [32, 124] 2 rfl rfl rfl rfl rfl rfl rfl rfl rfl rfl rfl).1
  have hc : commandL (lv 16) [] = .bad 0 62 := by
    unfold commandL
    rw [show (lv 16).compound [] = .ok none [] from rfl]
    rfl
  have hp : pipeL (lv 16) [97, 32, 124] = .bad 0 62 := by
    unfold pipeL
    rw [show passL [33] ([97, 32, 124] : Bs) = none from rfl, Option.getD_none, p1]
    simp only []
    rw [show ([32, 124] : Bs).length + 1 = 2 + 1 from rfl, commandsN, show passL [124] ([32, 124] : Bs) = some [] from rfl]
    simp only []
    rw [show newlinesL ([] : Bs) = [] from rfl, hc]
  have hn : newlinesL ([97, 32, 124] : Bs) = [97, 32, 124] := rfl
  have hS : listsL (lv 16) [97, 32, 124] = .bad 0 62 := by
    unfold listsL
    rw [hn, show listsEnd [97, 32, 124] = false from rfl]
    unfold listL
    rw [hp]
    rfl
  show scriptL (listsL (lv 16)) [97, 32, 124] = _
  unfold scriptL
  rw [hn, show overL [97, 32, 124] = false from rfl, hS]
  rfl
theorem aw4 : parseL [102, 105] = .bad 2 61 := rfl
end SyM
