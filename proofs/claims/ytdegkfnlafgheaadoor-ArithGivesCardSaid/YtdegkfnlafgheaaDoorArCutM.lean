/- DERIVED. Plain mathematics of layer 10: a text is cut with more behind it, and behind a name and a sign: the laws ArithAlone and ArithGives of the model. -/
import Derived.Test.YtdegkfnlafgheaaDoorArLess
import Derived.Test.YtdegkfnlafgheaaDoorArLawA
namespace ArM
open PathM WdM
open Go.Proofs.YtdegkfnlafgheaaDoor.NumM
set_option linter.unusedVariables false

theorem stands_app (o x z : Bs) (h : (41 : UInt8) ∉ o) : stands o (x ++ 41 :: z) = stands o x := by
  unfold stands
  induction o generalizing x with
  | nil => rfl
  | cons a o ih =>
    cases x with
    | nil =>
      have ha : (a == 41) = false := by
        rw [beq_eq_false_iff_ne]; intro e; exact h (by rw [e]; simp)
      show (a == 41 && _) = _
      rw [ha]; rfl
    | cons b x =>
      rw [List.cons_append, List.isPrefixOf, List.isPrefixOf, ih x (fun hm => h (List.mem_cons_of_mem _ hm))]
theorem signs_in : ∀ o ∈ signsA, (41 : UInt8) ∉ o ∨ o = [41] := by decide
theorem signs_len : ∀ o ∈ signsA, o ≠ [] ∧ o.length ≤ 3 := by decide
theorem signs_app (x z : Bs) (hx : x ≠ []) : signsA.find? (fun o => stands o (x ++ 41 :: z)) = signsA.find? (fun o => stands o x) := by
  have h : ∀ l : List Bs, (∀ o ∈ l, stands o (x ++ 41 :: z) = stands o x) → l.find? (fun o => stands o (x ++ 41 :: z)) = l.find? (fun o => stands o x) := by
    intro l hl
    induction l with
    | nil => rfl
    | cons a l ih => rw [List.find?_cons, List.find?_cons, hl a (List.mem_cons_self ..), ih (fun o ho => hl o (List.mem_cons_of_mem _ ho))]
  refine h _ (fun o ho => ?_)
  rcases signs_in o ho with h1 | rfl
  · exact stands_app o x z h1
  · cases x with
    | nil => exact absurd rfl hx
    | cons a x => rw [List.cons_append]; unfold stands; simp [List.isPrefixOf]
theorem leading_app (k : UInt8 → Bool) (x z : Bs) (c : UInt8) (hc : k c = false) : leading k (x ++ c :: z) = leading k x := by
  induction x with
  | nil =>
    show (if k c then _ else 0) = 0
    rw [if_neg (by rw [hc]; simp)]
  | cons a x ih => rw [List.cons_append, leading, leading, ih]
theorem leading_le (k : UInt8 → Bool) (x : Bs) : leading k x ≤ x.length := by
  induction x with
  | nil => exact Nat.le_refl _
  | cons a x ih => rw [leading]; split <;> simp only [List.length_cons] <;> omega
theorem first_app (x z : Bs) (hx : x ≠ []) : firstL (x ++ 41 :: z) = firstL x := by
  unfold firstL
  rw [signs_app x z hx, leading_app named x z 41 (by decide), List.take_append_of_le_length (leading_le _ _)]
theorem first_len {x : Bs} {t : Tok} (h : firstL x = .ok t) : 1 ≤ t.text.length ∧ t.text.length ≤ x.length := by
  unfold firstL at h
  split at h
  · rename_i o ho
    simp only [Except.ok.injEq] at h
    subst h
    have h1 := List.mem_of_find?_eq_some ho
    have h2 := List.find?_some ho
    have h3 : o <+: x := by simpa [stands] using h2
    have := (signs_len o h1).1
    exact ⟨by
      cases o with
      | nil => exact absurd rfl this
      | cons a o => simp [Tok.text], h3.length_le⟩
  · split at h
    · cases h
    · rename_i c t' hct
      have hl : (c :: t').length ≤ x.length := by rw [← hct, List.length_take]; exact Nat.min_le_right _ _
      have h1 : 1 ≤ (c :: t').length := by simp
      split at h
      · split at h
        · simp only [Except.ok.injEq] at h; subst h; exact ⟨h1, hl⟩
        · cases h
      · split at h
        · simp only [Except.ok.injEq] at h; subst h; exact ⟨h1, hl⟩
        · cases h
theorem dollar_app (c : UInt8) (r z : Bs) : dollarL (c :: (r ++ 41 :: z)) = dollarL (c :: r) ++ 41 :: z := by
  cases r with
  | nil =>
    show (if c = 36 ∧ letter 41 = true then _ else _) = _
    rw [if_neg (fun h => absurd h.2 (by decide))]; rfl
  | cons d r =>
    show (if c = 36 ∧ letter d = true then _ else _) = (if c = 36 ∧ letter d = true then _ else _) ++ _
    by_cases h : c = 36 ∧ letter d = true
    · rw [if_pos h, if_pos h]; rfl
    · rw [if_neg h, if_neg h]; rfl
theorem dollar_len (c : UInt8) (r : Bs) : dollarL (c :: r) ≠ [] ∧ (dollarL (c :: r)).length ≤ r.length + 1 := by
  cases r with
  | nil => exact ⟨by simp [dollarL], by simp [dollarL]⟩
  | cons d r =>
    have e : dollarL (c :: d :: r) = if c = 36 ∧ letter d = true then d :: r else c :: d :: r := rfl
    rw [e]
    by_cases h : c = 36 ∧ letter d = true
    · rw [if_pos h]; exact ⟨by simp, by simp⟩
    · rw [if_neg h]; exact ⟨by simp, by simp⟩
theorem dollar_no (c : UInt8) (r : Bs) (h : c ≠ 36) : dollarL (c :: r) = c :: r := by
  cases r with
  | nil => rfl
  | cons d r =>
    have e : dollarL (c :: d :: r) = if c = 36 ∧ letter d = true then d :: r else c :: d :: r := rfl
    rw [e, if_neg (fun x => h x.1)]
theorem dw_len (s : Bs) : (s.dropWhile blankA).length ≤ s.length := (List.dropWhile_sublist _).length_le
theorem cut_step (n : Nat) (acc : List Tok) (s : Bs) : cutN (n + 1) acc s = match s.dropWhile blankA with
    | [] => .ok acc
    | c :: r => match firstL (dollarL (c :: r)) with
      | .error e => .error e
      | .ok t => cutN n (acc ++ [t]) ((dollarL (c :: r)).drop t.text.length) := rfl
/-- With more behind it: what it is cut into, and then the rest. -/
theorem cut_app (z : Bs) : ∀ (n : Nat) (acc : List Tok) (s : Bs) (l : List Tok) (m : Nat), cutN n acc s = .ok l → s.length < n → (s ++ 41 :: z).length < m → ∃ m', (41 :: z).length < m' ∧ cutN m acc (s ++ 41 :: z) = cutN m' l (41 :: z)
  | 0, acc, s, l, m, _, h, _ => absurd h (by omega)
  | n + 1, acc, s, l, 0, _, _, h => absurd h (by omega)
  | n + 1, acc, s, l, m + 1, h, hn, hm => by
    rw [cut_step] at h ⊢
    cases hd : s.dropWhile blankA with
    | nil =>
      rw [hd] at h
      simp only [Except.ok.injEq] at h
      subst h
      have e : (s ++ 41 :: z).dropWhile blankA = (41 :: z).dropWhile blankA := by
        rw [List.dropWhile_append, hd]; rfl
      refine ⟨m + 1, by simp only [List.length_append] at hm; omega, ?_⟩
      rw [e, cut_step]
    | cons c r =>
      rw [hd] at h
      have e : (s ++ 41 :: z).dropWhile blankA = c :: (r ++ 41 :: z) := by
        rw [List.dropWhile_append, hd]; rfl
      rw [e]
      dsimp only at h ⊢
      have hl1 := dw_len s
      rw [hd, List.length_cons] at hl1
      obtain ⟨hne, hl2⟩ := dollar_len c r
      rw [dollar_app, first_app _ _ hne]
      cases hf : firstL (dollarL (c :: r)) with
      | error e => rw [hf] at h; cases h
      | ok t =>
        rw [hf] at h
        dsimp only at h ⊢
        obtain ⟨h1, h2⟩ := first_len hf
        rw [List.drop_append_of_le_length h2]
        refine cut_app z n _ _ l m h ?_ ?_
        · rw [List.length_drop]; omega
        · rw [List.length_append, List.length_drop]; rw [List.length_append] at hm; omega
/-- What was cut before stands ahead; and how much fuel plays no part. -/
theorem cut_acc : ∀ (n m : Nat) (acc pre : List Tok) (s : Bs), s.length < n → s.length < m → cutN n (pre ++ acc) s = match cutN m acc s with
    | .error e => .error e
    | .ok l => .ok (pre ++ l)
  | 0, _, _, _, _, h, _ => absurd h (by omega)
  | _ + 1, 0, _, _, _, _, h => absurd h (by omega)
  | n + 1, m + 1, acc, pre, s, hn, hm => by
    rw [cut_step, cut_step]
    cases hd : s.dropWhile blankA with
    | nil => rfl
    | cons c r =>
      dsimp only
      have hl1 := dw_len s
      rw [hd, List.length_cons] at hl1
      obtain ⟨hne, hl2⟩ := dollar_len c r
      cases hf : firstL (dollarL (c :: r)) with
      | error e => rfl
      | ok t =>
        dsimp only
        obtain ⟨h1, h2⟩ := first_len hf
        rw [List.append_assoc]
        exact cut_acc n m (acc ++ [t]) pre _ (by rw [List.length_drop]; omega) (by rw [List.length_drop]; omega)
theorem cut_more : ∀ (n : Nat) (acc : List Tok) (s : Bs) (l : List Tok), cutN n acc s = .ok l → acc.length ≤ l.length
  | 0, acc, s, l, h => by cases h; exact Nat.le_refl _
  | n + 1, acc, s, l, h => by
    rw [cut_step] at h
    split at h
    · cases h; exact Nat.le_refl _
    · split at h
      · cases h
      · have := cut_more n _ _ _ h
        simp only [List.length_append, List.length_cons, List.length_nil] at this; omega
theorem cut_blank {s : Bs} (h : cutL s = .ok []) : s.all blankA = true := by
  unfold cutL at h
  rw [cut_step] at h
  split at h
  · rename_i hd
    clear h
    induction s with
    | nil => rfl
    | cons a s ih =>
      rw [List.dropWhile_cons] at hd
      split at hd
      · rename_i ha
        rw [List.all_cons, ha, ih hd]; rfl
      · cases hd
  · split at h
    · cases h
    · have := cut_more _ _ _ _ h
      simp at this
theorem cut_paren {s : Bs} {l : List Tok} (h : cutL s = .ok l) : cutL (32 :: 40 :: (s ++ [41, 10, 9])) = .ok (.sg [40] :: (l ++ [.sg [41]])) := by
  unfold cutL at h ⊢
  have e1 : cutN ((32 :: 40 :: (s ++ [41, 10, 9])).length + 1) [] (32 :: 40 :: (s ++ [41, 10, 9])) = cutN (s.length + 5) [.sg [40]] (s ++ [41, 10, 9]) := by
    rw [show (32 :: 40 :: (s ++ [41, 10, 9])).length + 1 = s.length + 5 + 1 by simp, cut_step]
    have hdw : (32 :: 40 :: (s ++ [41, 10, 9])).dropWhile blankA = 40 :: (s ++ [41, 10, 9]) := rfl
    rw [hdw]
    dsimp only
    have hdl : dollarL (40 :: (s ++ [41, 10, 9])) = 40 :: (s ++ [41, 10, 9]) := dollar_no 40 _ (by decide)
    rw [hdl]
    have hf : firstL (40 :: (s ++ [41, 10, 9])) = .ok (.sg [40]) := by
      unfold firstL
      have : signsA.find? (fun o => stands o (40 :: (s ++ [41, 10, 9]))) = some [40] := rfl
      rw [this]
    rw [hf]
    rfl
  rw [e1]
  have hx := cut_acc (s.length + 5) (s.length + 5) [] [.sg [40]] (s ++ [41, 10, 9]) (by simp) (by simp)
  rw [List.append_nil] at hx
  rw [hx]
  obtain ⟨m', hm, hc⟩ := cut_app [10, 9] (s.length + 1) [] s l (s.length + 5) h (by omega) (by simp)
  rw [hc]
  obtain ⟨k, rfl⟩ : ∃ k, m' = k + 1 + 1 := ⟨m' - 2, by simp at hm; omega⟩
  rfl
/-- All of ArithAlone. -/
theorem alone_all (s : Bs) (v v2 : Vs) (n : Int) (hs : s.length ≤ 2000) (h : evalL s v = .ok (n, v2)) :
    evalL (32 :: 40 :: (s ++ [41, 10, 9])) v = .ok (n, v2) ∨ evalL (32 :: 40 :: (s ++ [41, 10, 9])) v = .error 63 ∨ s.all blankA = true := by
  unfold evalL at h
  split at h
  · cases h
  · rename_i hb
    split at h
    · cases h
    · rename_i l hl
      split at h
      · rename_i he
        have : l = [] := by simpa using he
        subst this
        exact .inr (.inr (cut_blank hl))
      · split at h
        · cases h
        · rename_i t ht
          have hc := cut_paren hl
          unfold evalL
          rw [if_neg (by simp only [List.length_cons, List.length_append, List.length_nil]; omega), hc]
          dsimp only
          rw [if_neg (by simp)]
          rcases read_paren ht with h1 | h1
          · rw [h1]; exact .inl h
          · rw [h1]; exact .inr (.inl rfl)
theorem letter_no : ∀ c : UInt8, letter c = true → blankA c = false ∧ c ≠ 36 ∧ (∀ o ∈ signsA, o.head? ≠ some c) ∧ digit c = false := by
  intro c
  have h : ∀ i, i < 256 → letter (UInt8.ofNat i) = true → blankA (UInt8.ofNat i) = false ∧ UInt8.ofNat i ≠ 36 ∧ (∀ o ∈ signsA, o.head? ≠ some (UInt8.ofNat i)) ∧ digit (UInt8.ofNat i) = false := by decide +kernel
  have := h c.toNat c.toNat_lt
  rwa [UInt8.ofNat_toNat] at this
theorem stands_head {o : Bs} {c : UInt8} {r : Bs} (h : o ≠ []) (h2 : o.head? ≠ some c) : stands o (c :: r) = false := by
  cases o with
  | nil => exact absurd rfl h
  | cons a o =>
    have ha : (a == c) = false := by rw [beq_eq_false_iff_ne]; intro e; exact h2 (by rw [e]; rfl)
    unfold stands
    rw [List.isPrefixOf, ha]; rfl
theorem name_parts {n : Bs} (h : isName n = true) : n.length ≤ 64 ∧ leading named n = n.length ∧ ∃ c r, n = c :: r ∧ letter c = true := by
  unfold isName at h
  cases n with
  | nil => cases h
  | cons c r =>
    simp only [Bool.and_eq_true, decide_eq_true_eq] at h
    exact ⟨h.1.1.2, h.2, c, r, rfl, h.1.2⟩
/-- A name stands first. -/
theorem first_name {n : Bs} (h : isName n = true) (z : Bs) (hz : z = [] ∨ ∃ c r, z = c :: r ∧ named c = false) : firstL (n ++ z) = .ok (.nam n) := by
  obtain ⟨h64, hle, c, r, rfl, hc⟩ := name_parts h
  obtain ⟨_, _, hs, hd⟩ := letter_no c hc
  have hf : signsA.find? (fun o => stands o (c :: r ++ z)) = none := by
    rw [List.find?_eq_none]
    intro o ho
    rw [List.cons_append, stands_head (signs_len o ho).1 (hs o ho)]; simp
  have hld : leading named (c :: r ++ z) = (c :: r).length := by
    rcases hz with rfl | ⟨d, z, rfl, hd⟩
    · rw [List.append_nil, hle]
    · rw [leading_app _ _ _ _ hd, hle]
  unfold firstL
  rw [hf, hld, List.take_append_of_le_length (Nat.le_refl _), List.take_length]
  dsimp only
  rw [if_neg (by rw [hd]; simp), if_pos h]
theorem cut_name {n : Bs} (h : isName n = true) (z : Bs) (hz : z = [] ∨ ∃ c r, z = c :: r ∧ named c = false) (m : Nat) (acc : List Tok) : cutN (m + 1) acc (n ++ z) = cutN m (acc ++ [.nam n]) z := by
  have hf := first_name h z hz
  obtain ⟨h64, hle, c, r, rfl, hc⟩ := name_parts h
  obtain ⟨hb, h36, _, _⟩ := letter_no c hc
  rw [cut_step]
  have hdw : (c :: r ++ z).dropWhile blankA = c :: (r ++ z) := by rw [List.cons_append, List.dropWhile_cons, if_neg (by rw [hb]; simp)]
  rw [hdw]
  dsimp only
  have hdl : dollarL (c :: (r ++ z)) = c :: r ++ z := by
    rw [List.cons_append]
    cases r ++ z with
    | nil => rfl
    | cons d l => exact if_neg (fun h => h36 h.1)
  rw [hdl, hf]
  dsimp only
  rw [show (Tok.nam (c :: r)).text.length = (c :: r).length from rfl, List.drop_left]
/-- An equal sign, ahead of what doesn't begin with another. -/
theorem first_eq (s : Bs) (h : s.head? ≠ some 61) : firstL (61 :: s) = .ok (.sg [61]) := by
  unfold firstL
  have h1 : stands [61, 61] (61 :: s) = false := by
    cases s with
    | nil => rfl
    | cons a s =>
      have : a ≠ 61 := fun e => h (by rw [e]; rfl)
      unfold stands
      simp [List.isPrefixOf]
      exact fun e => this e.symm
  have h2 : ∀ o ∈ signsA, o = [61, 61] ∨ o = [61] ∨ o.head? ≠ some 61 := by decide
  have h3 : ∀ l : List Bs, (∀ o ∈ l, o ≠ [] ∧ (o = [61, 61] ∨ o = [61] ∨ o.head? ≠ some 61)) → [61] ∈ l → l.find? (fun o => stands o (61 :: s)) = some [61] := by
    intro l hl hm
    induction l with
    | nil => cases hm
    | cons a l ih =>
      obtain ⟨hne, ha⟩ := hl a (List.mem_cons_self ..)
      rw [List.find?_cons]
      by_cases ha1 : a = [61]
      · subst ha1
        have : stands [61] (61 :: s) = true := by simp [stands, List.isPrefixOf]
        rw [this]
      · have : stands a (61 :: s) = false := by
          rcases ha with rfl | rfl | hh
          · exact h1
          · exact absurd rfl ha1
          · exact stands_head hne hh
        rw [this]
        exact ih (fun o ho => hl o (List.mem_cons_of_mem _ ho)) (by
          rcases List.mem_cons.1 hm with rfl | h
          · exact absurd rfl ha1
          · exact h)
  have : signsA.find? (fun o => stands o (61 :: s)) = some [61] := h3 _ (fun o ho => ⟨(signs_len o ho).1, h2 o ho⟩) (by decide)
  rw [this]
theorem cut_gift {n s : Bs} {l : List Tok} (hn : isName n = true) (hs : s.head? ≠ some 61) (h : cutL s = .ok l) : cutL (n ++ 61 :: s) = .ok (.nam n :: .sg [61] :: l) := by
  unfold cutL at h ⊢
  obtain ⟨k, hk⟩ : ∃ k, (n ++ 61 :: s).length = k + 1 ∧ s.length < k + 1 := ⟨n.length + s.length, by simp only [List.length_append, List.length_cons]; omega, by omega⟩
  rw [hk.1, cut_name hn _ (.inr ⟨61, s, rfl, by decide⟩), cut_step]
  have hdw : (61 :: s).dropWhile blankA = 61 :: s := rfl
  rw [hdw]
  dsimp only
  have hdl : dollarL (61 :: s) = 61 :: s := dollar_no 61 _ (by decide)
  rw [hdl, first_eq s hs]
  dsimp only
  have hx := cut_acc k (s.length + 1) [] [.nam n, .sg [61]] s (by have := (name_parts hn).2.2; obtain ⟨c, r, rfl, _⟩ := this; simp at hk; omega) (by omega)
  rw [List.append_nil] at hx
  show cutN k [.nam n, .sg [61]] s = _
  rw [hx, h]
  rfl
/-- What begins with an equal sign has an error. -/
theorem eval_eq (s : Bs) (v : Vs) (h : s.head? = some 61) : ∃ e, evalL s v = .error e := by
  cases s with
  | nil => cases h
  | cons c s =>
    simp only [List.head?_cons, Option.some.injEq] at h
    subst h
    unfold evalL
    split
    · exact ⟨_, rfl⟩
    · cases hc : cutL (61 :: s) with
      | error e => exact ⟨_, rfl⟩
      | ok l =>
        dsimp only
        have : ∃ o l', l = .sg o :: l' ∧ (o = [61] ∨ o = [61, 61]) := by
          unfold cutL at hc
          rw [cut_step] at hc
          have hdw : (61 :: s).dropWhile blankA = 61 :: s := rfl
          rw [hdw] at hc
          dsimp only at hc
          have hdl : dollarL (61 :: s) = 61 :: s := dollar_no 61 _ (by decide)
          rw [hdl] at hc
          have hfo : ∃ o, firstL (61 :: s) = .ok (.sg o) ∧ (o = [61] ∨ o = [61, 61]) := by
            by_cases h2 : s.head? = some 61
            · cases s with
              | nil => cases h2
              | cons a s =>
                simp only [List.head?_cons, Option.some.injEq] at h2
                subst h2
                refine ⟨[61, 61], ?_, .inr rfl⟩
                unfold firstL
                have : signsA.find? (fun o => stands o (61 :: 61 :: s)) = some [61, 61] := rfl
                rw [this]
            · exact ⟨[61], first_eq s h2, .inl rfl⟩
          obtain ⟨o, ho, ho2⟩ := hfo
          rw [ho] at hc
          dsimp only at hc
          have hx := cut_acc (61 :: s).length ((61 :: s).length) [] [.sg o] (List.drop (Tok.sg o).text.length (61 :: s)) (by rcases ho2 with rfl | rfl <;> simp [Tok.text] <;> omega) (by rcases ho2 with rfl | rfl <;> simp [Tok.text] <;> omega)
          rw [List.append_nil] at hx
          rw [List.nil_append] at hc
          rw [hx] at hc
          split at hc
          · cases hc
          · simp only [Except.ok.injEq] at hc
            exact ⟨o, _, hc.symm, ho2⟩
        obtain ⟨o, l', rfl, ho⟩ := this
        have hr : readL (.sg o :: l') = .error 61 := by
          have hle : leadF (rd ((Tok.sg o :: l').length)) 0 (.sg o :: l') = .error 61 := by rcases ho with rfl | rfl <;> rfl
          have hK : ∀ k, pairsK (leadF (rd ((Tok.sg o :: l').length)) 0) k (.sg o :: l') = .error 61 := by
            intro k
            induction k with
            | zero => exact hle
            | succ k ih => rw [pairsK, ih]
          unfold readL
          rw [show (rd ((Tok.sg o :: l').length + 1)).all 0 (.sg o :: l') = condF (rd ((Tok.sg o :: l').length)) 0 (.sg o :: l') from rfl]
          unfold condF
          rw [hK 10]
        rw [if_neg (by simp), hr]
        exact ⟨_, rfl⟩
theorem find_set (v : Vs) (n t : Bs) : findV (setV v n t) n = some t := by
  induction v with
  | nil => simp [setV, findV]
  | cons x v ih =>
    rw [setV]
    by_cases h : x.1 = n
    · rw [if_pos h]; simp [findV, h]
    · rw [if_neg h]
      unfold findV at ih ⊢
      rw [List.find?_cons]
      have : (x.1 == n) = false := by simpa using h
      rw [this]; exact ih
theorem set_len (v : Vs) (n t : Bs) : v.length ≤ (setV v n t).length := by
  induction v with
  | nil => simp
  | cons x v ih =>
    rw [setV]
    split
    · exact Nat.le_refl _
    · simp only [List.length_cons]; omega
theorem set_at (v : Vs) (n t : Bs) (i : Nat) (h : i < v.length) (h2 : i < (setV v n t).length) : v[i].1 ≠ n → (setV v n t)[i] = v[i] := by
  induction v generalizing i with
  | nil => simp at h
  | cons x v ih =>
    intro hn
    have e : setV (x :: v) n t = if x.1 = n then (x.1, t) :: v else x :: setV v n t := rfl
    by_cases hx : x.1 = n
    · rw [if_pos hx] at e
      cases i with
      | zero => exact absurd hx hn
      | succ i => simp only [e, List.getElem_cons_succ]
    · rw [if_neg hx] at e
      cases i with
      | zero => simp only [e, List.getElem_cons_zero]
      | succ i =>
        simp only [List.getElem_cons_succ] at hn
        simp only [List.length_cons] at h
        have h3 : i < (setV v n t).length := by have := set_len v n t; omega
        simp only [e, List.getElem_cons_succ]
        exact ih i (by omega) h3 hn
/-- All of ArithGives: what the second one comes to, if the first one has no error. -/
theorem gives_all (s n : Bs) (v v2 : Vs) (k : Int) (hs : s.length ≤ 2000) (hn : isName n = true) (h : evalL s v = .ok (k, v2)) :
    (∃ e, evalL (n ++ 61 :: s) v = .error e) ∨ evalL (n ++ 61 :: s) v = .ok (k, setV v2 n (textL k)) := by
  have h61 : s.head? ≠ some 61 := by
    intro e
    obtain ⟨x, hx⟩ := eval_eq s v e
    rw [hx] at h; cases h
  unfold evalL at h
  split at h
  · cases h
  · rename_i hb
    split at h
    · cases h
    · rename_i l hl
      have hc := cut_gift hn h61 hl
      have h64 := (name_parts hn).1
      have he : ∀ x, readL (.nam n :: .sg [61] :: l) = x → (∀ e, x = .error e → evalL (n ++ 61 :: s) v = .error e) ∧ (∀ t, x = .ok t → evalL (n ++ 61 :: s) v = reckonL t v) := by
        intro x hx
        unfold evalL
        rw [if_neg (by simp only [List.length_append, List.length_cons]; omega), hc]
        dsimp only
        rw [if_neg (by simp), hx]
        exact ⟨fun e h => by rw [h], fun t h => by rw [h]⟩
      split at h
      · rename_i hle
        have : l = [] := by simpa using hle
        subst this
        exact .inl ⟨61, (he _ rfl).1 61 rfl⟩
      · split at h
        · cases h
        · rename_i t ht
          rw [(he _ (read_gift n ht)).2 _ rfl, reckonL, h]
          dsimp only
          rw [if_pos rfl]
          dsimp only
          unfold giveL
          by_cases hx : (findV v2 n).isNone = true ∧ 64 ≤ v2.length
          · rw [if_pos hx]; exact .inl ⟨_, rfl⟩
          · rw [if_neg hx]; exact .inr rfl
/-- And the name alone, then. -/
theorem name_all (n : Bs) (v : Vs) (k : Int) (hn : isName n = true) (hv : (setV v n (textL k)).length ≤ 64) (h0 : -9223372036854775808 ≤ k) (h1 : k ≤ 9223372036854775807) : evalL n (setV v n (textL k)) = .ok (k, setV v n (textL k)) := by
  have hc : cutL n = .ok [.nam n] := by
    unfold cutL
    have := cut_name hn [] (.inl rfl) n.length []
    rw [List.append_nil] at this
    rw [this]
    cases n.length <;> rfl
  have h64 := (name_parts hn).1
  rw [eval_of (by omega) hv hc (by simp) (show readL [.nam n] = .ok (.named n) from rfl)]
  rw [reckonL, number_text (find_set v n (textL k)) h0 h1]
end ArM
