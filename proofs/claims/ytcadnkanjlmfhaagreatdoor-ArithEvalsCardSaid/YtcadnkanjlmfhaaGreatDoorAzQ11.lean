/- DERIVED. Texts of this claim, joined: ArCutM, WdByte, WdText, WdText2. -/
import Derived.Test.YtcadnkanjlmfhaaGreatDoorAzQ07
import Derived.Test.YtcadnkanjlmfhaaGreatDoorAzQ10
import Derived.Test.YtcadnkanjlmfhaaGreatDoorAzQ03
import Derived.LoopTactic
import Derived.Shelf.Abstract
namespace ArM
open PathM WdM
open Go.Proofs.YtcadnkanjlmfhaaGreatDoor.NumM
set_option linter.unusedVariables false

theorem stands_app (o x z : Bs) (h : (41 : UInt8) ∉ o) : stands o (x ++ 41 :: z) = stands o x := by
  unfold stands
  induction o generalizing x with
  | nil => rfl
  | cons a o ih =>
    cases x with
    | nil =>
      have ha : (a == 41) = false := by
        rw [beq_eq_false_iff_ne]; intro e; exact h (by rw [e]; simp)
      show (a == 41 && _) = _
      rw [ha]; rfl
    | cons b x =>
      rw [List.cons_append, List.isPrefixOf, List.isPrefixOf, ih x (fun hm => h (List.mem_cons_of_mem _ hm))]
theorem signs_in : ∀ o ∈ signsA, (41 : UInt8) ∉ o ∨ o = [41] := by decide
theorem signs_len : ∀ o ∈ signsA, o ≠ [] ∧ o.length ≤ 3 := by decide
theorem signs_app (x z : Bs) (hx : x ≠ []) : signsA.find? (fun o => stands o (x ++ 41 :: z)) = signsA.find? (fun o => stands o x) := by
  have h : ∀ l : List Bs, (∀ o ∈ l, stands o (x ++ 41 :: z) = stands o x) → l.find? (fun o => stands o (x ++ 41 :: z)) = l.find? (fun o => stands o x) := by
    intro l hl
    induction l with
    | nil => rfl
    | cons a l ih => rw [List.find?_cons, List.find?_cons, hl a (List.mem_cons_self ..), ih (fun o ho => hl o (List.mem_cons_of_mem _ ho))]
  refine h _ (fun o ho => ?_)
  rcases signs_in o ho with h1 | rfl
  · exact stands_app o x z h1
  · cases x with
    | nil => exact absurd rfl hx
    | cons a x => rw [List.cons_append]; unfold stands; simp [List.isPrefixOf]
theorem leading_app (k : UInt8 → Bool) (x z : Bs) (c : UInt8) (hc : k c = false) : leading k (x ++ c :: z) = leading k x := by
  induction x with
  | nil =>
    show (if k c then _ else 0) = 0
    rw [if_neg (by rw [hc]; simp)]
  | cons a x ih => rw [List.cons_append, leading, leading, ih]
theorem leading_le (k : UInt8 → Bool) (x : Bs) : leading k x ≤ x.length := by
  induction x with
  | nil => exact Nat.le_refl _
  | cons a x ih => rw [leading]; split <;> simp only [List.length_cons] <;> omega
theorem first_app (x z : Bs) (hx : x ≠ []) : firstL (x ++ 41 :: z) = firstL x := by
  unfold firstL
  rw [signs_app x z hx, leading_app named x z 41 (by decide), List.take_append_of_le_length (leading_le _ _)]
theorem first_len {x : Bs} {t : Tok} (h : firstL x = .ok t) : 1 ≤ t.text.length ∧ t.text.length ≤ x.length := by
  unfold firstL at h
  split at h
  · rename_i o ho
    simp only [Except.ok.injEq] at h
    subst h
    have h1 := List.mem_of_find?_eq_some ho
    have h2 := List.find?_some ho
    have h3 : o <+: x := by simpa [stands] using h2
    have := (signs_len o h1).1
    exact ⟨by
      cases o with
      | nil => exact absurd rfl this
      | cons a o => simp [Tok.text], h3.length_le⟩
  · split at h
    · cases h
    · rename_i c t' hct
      have hl : (c :: t').length ≤ x.length := by rw [← hct, List.length_take]; exact Nat.min_le_right _ _
      have h1 : 1 ≤ (c :: t').length := by simp
      split at h
      · split at h
        · simp only [Except.ok.injEq] at h; subst h; exact ⟨h1, hl⟩
        · cases h
      · split at h
        · simp only [Except.ok.injEq] at h; subst h; exact ⟨h1, hl⟩
        · cases h
theorem dollar_app (c : UInt8) (r z : Bs) : dollarL (c :: (r ++ 41 :: z)) = dollarL (c :: r) ++ 41 :: z := by
  cases r with
  | nil =>
    show (if c = 36 ∧ letter 41 = true then _ else _) = _
    rw [if_neg (fun h => absurd h.2 (by decide))]; rfl
  | cons d r =>
    show (if c = 36 ∧ letter d = true then _ else _) = (if c = 36 ∧ letter d = true then _ else _) ++ _
    by_cases h : c = 36 ∧ letter d = true
    · rw [if_pos h, if_pos h]; rfl
    · rw [if_neg h, if_neg h]; rfl
theorem dollar_len (c : UInt8) (r : Bs) : dollarL (c :: r) ≠ [] ∧ (dollarL (c :: r)).length ≤ r.length + 1 := by
  cases r with
  | nil => exact ⟨by simp [dollarL], by simp [dollarL]⟩
  | cons d r =>
    have e : dollarL (c :: d :: r) = if c = 36 ∧ letter d = true then d :: r else c :: d :: r := rfl
    rw [e]
    by_cases h : c = 36 ∧ letter d = true
    · rw [if_pos h]; exact ⟨by simp, by simp⟩
    · rw [if_neg h]; exact ⟨by simp, by simp⟩
theorem dollar_no (c : UInt8) (r : Bs) (h : c ≠ 36) : dollarL (c :: r) = c :: r := by
  cases r with
  | nil => rfl
  | cons d r =>
    have e : dollarL (c :: d :: r) = if c = 36 ∧ letter d = true then d :: r else c :: d :: r := rfl
    rw [e, if_neg (fun x => h x.1)]
theorem dw_len (s : Bs) : (s.dropWhile blankA).length ≤ s.length := (List.dropWhile_sublist _).length_le
theorem cut_step (n : Nat) (acc : List Tok) (s : Bs) : cutN (n + 1) acc s = match s.dropWhile blankA with
    | [] => .ok acc
    | c :: r => match firstL (dollarL (c :: r)) with
      | .error e => .error e
      | .ok t => cutN n (acc ++ [t]) ((dollarL (c :: r)).drop t.text.length) := rfl
/-- With more behind it: what it is cut into, and then the rest. -/
theorem cut_app (z : Bs) : ∀ (n : Nat) (acc : List Tok) (s : Bs) (l : List Tok) (m : Nat), cutN n acc s = .ok l → s.length < n → (s ++ 41 :: z).length < m → ∃ m', (41 :: z).length < m' ∧ cutN m acc (s ++ 41 :: z) = cutN m' l (41 :: z)
  | 0, acc, s, l, m, _, h, _ => absurd h (by omega)
  | n + 1, acc, s, l, 0, _, _, h => absurd h (by omega)
  | n + 1, acc, s, l, m + 1, h, hn, hm => by
    rw [cut_step] at h ⊢
    cases hd : s.dropWhile blankA with
    | nil =>
      rw [hd] at h
      simp only [Except.ok.injEq] at h
      subst h
      have e : (s ++ 41 :: z).dropWhile blankA = (41 :: z).dropWhile blankA := by
        rw [List.dropWhile_append, hd]; rfl
      refine ⟨m + 1, by simp only [List.length_append] at hm; omega, ?_⟩
      rw [e, cut_step]
    | cons c r =>
      rw [hd] at h
      have e : (s ++ 41 :: z).dropWhile blankA = c :: (r ++ 41 :: z) := by
        rw [List.dropWhile_append, hd]; rfl
      rw [e]
      dsimp only at h ⊢
      have hl1 := dw_len s
      rw [hd, List.length_cons] at hl1
      obtain ⟨hne, hl2⟩ := dollar_len c r
      rw [dollar_app, first_app _ _ hne]
      cases hf : firstL (dollarL (c :: r)) with
      | error e => rw [hf] at h; cases h
      | ok t =>
        rw [hf] at h
        dsimp only at h ⊢
        obtain ⟨h1, h2⟩ := first_len hf
        rw [List.drop_append_of_le_length h2]
        refine cut_app z n _ _ l m h ?_ ?_
        · rw [List.length_drop]; omega
        · rw [List.length_append, List.length_drop]; rw [List.length_append] at hm; omega
/-- What was cut before stands ahead; and how much fuel plays no part. -/
theorem cut_acc : ∀ (n m : Nat) (acc pre : List Tok) (s : Bs), s.length < n → s.length < m → cutN n (pre ++ acc) s = match cutN m acc s with
    | .error e => .error e
    | .ok l => .ok (pre ++ l)
  | 0, _, _, _, _, h, _ => absurd h (by omega)
  | _ + 1, 0, _, _, _, _, h => absurd h (by omega)
  | n + 1, m + 1, acc, pre, s, hn, hm => by
    rw [cut_step, cut_step]
    cases hd : s.dropWhile blankA with
    | nil => rfl
    | cons c r =>
      dsimp only
      have hl1 := dw_len s
      rw [hd, List.length_cons] at hl1
      obtain ⟨hne, hl2⟩ := dollar_len c r
      cases hf : firstL (dollarL (c :: r)) with
      | error e => rfl
      | ok t =>
        dsimp only
        obtain ⟨h1, h2⟩ := first_len hf
        rw [List.append_assoc]
        exact cut_acc n m (acc ++ [t]) pre _ (by rw [List.length_drop]; omega) (by rw [List.length_drop]; omega)
theorem cut_more : ∀ (n : Nat) (acc : List Tok) (s : Bs) (l : List Tok), cutN n acc s = .ok l → acc.length ≤ l.length
  | 0, acc, s, l, h => by cases h; exact Nat.le_refl _
  | n + 1, acc, s, l, h => by
    rw [cut_step] at h
    split at h
    · cases h; exact Nat.le_refl _
    · split at h
      · cases h
      · have := cut_more n _ _ _ h
        simp only [List.length_append, List.length_cons, List.length_nil] at this; omega
theorem cut_blank {s : Bs} (h : cutL s = .ok []) : s.all blankA = true := by
  unfold cutL at h
  rw [cut_step] at h
  split at h
  · rename_i hd
    clear h
    induction s with
    | nil => rfl
    | cons a s ih =>
      rw [List.dropWhile_cons] at hd
      split at hd
      · rename_i ha
        rw [List.all_cons, ha, ih hd]; rfl
      · cases hd
  · split at h
    · cases h
    · have := cut_more _ _ _ _ h
      simp at this
theorem cut_paren {s : Bs} {l : List Tok} (h : cutL s = .ok l) : cutL (32 :: 40 :: (s ++ [41, 10, 9])) = .ok (.sg [40] :: (l ++ [.sg [41]])) := by
  unfold cutL at h ⊢
  have e1 : cutN ((32 :: 40 :: (s ++ [41, 10, 9])).length + 1) [] (32 :: 40 :: (s ++ [41, 10, 9])) = cutN (s.length + 5) [.sg [40]] (s ++ [41, 10, 9]) := by
    rw [show (32 :: 40 :: (s ++ [41, 10, 9])).length + 1 = s.length + 5 + 1 by simp, cut_step]
    have hdw : (32 :: 40 :: (s ++ [41, 10, 9])).dropWhile blankA = 40 :: (s ++ [41, 10, 9]) := rfl
    rw [hdw]
    dsimp only
    have hdl : dollarL (40 :: (s ++ [41, 10, 9])) = 40 :: (s ++ [41, 10, 9]) := dollar_no 40 _ (by decide)
    rw [hdl]
    have hf : firstL (40 :: (s ++ [41, 10, 9])) = .ok (.sg [40]) := by
      unfold firstL
      have : signsA.find? (fun o => stands o (40 :: (s ++ [41, 10, 9]))) = some [40] := rfl
      rw [this]
    rw [hf]
    rfl
  rw [e1]
  have hx := cut_acc (s.length + 5) (s.length + 5) [] [.sg [40]] (s ++ [41, 10, 9]) (by simp) (by simp)
  rw [List.append_nil] at hx
  rw [hx]
  obtain ⟨m', hm, hc⟩ := cut_app [10, 9] (s.length + 1) [] s l (s.length + 5) h (by omega) (by simp)
  rw [hc]
  obtain ⟨k, rfl⟩ : ∃ k, m' = k + 1 + 1 := ⟨m' - 2, by simp at hm; omega⟩
  rfl
/-- All of ArithAlone. -/
theorem alone_all (s : Bs) (v v2 : Vs) (n : Int) (hs : s.length ≤ 2000) (h : evalL s v = .ok (n, v2)) :
    evalL (32 :: 40 :: (s ++ [41, 10, 9])) v = .ok (n, v2) ∨ evalL (32 :: 40 :: (s ++ [41, 10, 9])) v = .error 63 ∨ s.all blankA = true := by
  unfold evalL at h
  split at h
  · cases h
  · rename_i hb
    split at h
    · cases h
    · rename_i l hl
      split at h
      · rename_i he
        have : l = [] := by simpa using he
        subst this
        exact .inr (.inr (cut_blank hl))
      · split at h
        · cases h
        · rename_i t ht
          have hc := cut_paren hl
          unfold evalL
          rw [if_neg (by simp only [List.length_cons, List.length_append, List.length_nil]; omega), hc]
          dsimp only
          rw [if_neg (by simp)]
          rcases read_paren ht with h1 | h1
          · rw [h1]; exact .inl h
          · rw [h1]; exact .inr (.inl rfl)
theorem letter_no : ∀ c : UInt8, letter c = true → blankA c = false ∧ c ≠ 36 ∧ (∀ o ∈ signsA, o.head? ≠ some c) ∧ digit c = false := by
  intro c
  have h : ∀ i, i < 256 → letter (UInt8.ofNat i) = true → blankA (UInt8.ofNat i) = false ∧ UInt8.ofNat i ≠ 36 ∧ (∀ o ∈ signsA, o.head? ≠ some (UInt8.ofNat i)) ∧ digit (UInt8.ofNat i) = false := by decide +kernel
  have := h c.toNat c.toNat_lt
  rwa [UInt8.ofNat_toNat] at this
theorem stands_head {o : Bs} {c : UInt8} {r : Bs} (h : o ≠ []) (h2 : o.head? ≠ some c) : stands o (c :: r) = false := by
  cases o with
  | nil => exact absurd rfl h
  | cons a o =>
    have ha : (a == c) = false := by rw [beq_eq_false_iff_ne]; intro e; exact h2 (by rw [e]; rfl)
    unfold stands
    rw [List.isPrefixOf, ha]; rfl
theorem name_parts {n : Bs} (h : isName n = true) : n.length ≤ 64 ∧ leading named n = n.length ∧ ∃ c r, n = c :: r ∧ letter c = true := by
  unfold isName at h
  cases n with
  | nil => cases h
  | cons c r =>
    simp only [Bool.and_eq_true, decide_eq_true_eq] at h
    exact ⟨h.1.1.2, h.2, c, r, rfl, h.1.2⟩
/-- A name stands first. -/
theorem first_name {n : Bs} (h : isName n = true) (z : Bs) (hz : z = [] ∨ ∃ c r, z = c :: r ∧ named c = false) : firstL (n ++ z) = .ok (.nam n) := by
  obtain ⟨h64, hle, c, r, rfl, hc⟩ := name_parts h
  obtain ⟨_, _, hs, hd⟩ := letter_no c hc
  have hf : signsA.find? (fun o => stands o (c :: r ++ z)) = none := by
    rw [List.find?_eq_none]
    intro o ho
    rw [List.cons_append, stands_head (signs_len o ho).1 (hs o ho)]; simp
  have hld : leading named (c :: r ++ z) = (c :: r).length := by
    rcases hz with rfl | ⟨d, z, rfl, hd⟩
    · rw [List.append_nil, hle]
    · rw [leading_app _ _ _ _ hd, hle]
  unfold firstL
  rw [hf, hld, List.take_append_of_le_length (Nat.le_refl _), List.take_length]
  dsimp only
  rw [if_neg (by rw [hd]; simp), if_pos h]
theorem cut_name {n : Bs} (h : isName n = true) (z : Bs) (hz : z = [] ∨ ∃ c r, z = c :: r ∧ named c = false) (m : Nat) (acc : List Tok) : cutN (m + 1) acc (n ++ z) = cutN m (acc ++ [.nam n]) z := by
  have hf := first_name h z hz
  obtain ⟨h64, hle, c, r, rfl, hc⟩ := name_parts h
  obtain ⟨hb, h36, _, _⟩ := letter_no c hc
  rw [cut_step]
  have hdw : (c :: r ++ z).dropWhile blankA = c :: (r ++ z) := by rw [List.cons_append, List.dropWhile_cons, if_neg (by rw [hb]; simp)]
  rw [hdw]
  dsimp only
  have hdl : dollarL (c :: (r ++ z)) = c :: r ++ z := by
    rw [List.cons_append]
    cases r ++ z with
    | nil => rfl
    | cons d l => exact if_neg (fun h => h36 h.1)
  rw [hdl, hf]
  dsimp only
  rw [show (Tok.nam (c :: r)).text.length = (c :: r).length from rfl, List.drop_left]
/-- An equal sign, ahead of what doesn't begin with another. -/
theorem first_eq (s : Bs) (h : s.head? ≠ some 61) : firstL (61 :: s) = .ok (.sg [61]) := by
  unfold firstL
  have h1 : stands [61, 61] (61 :: s) = false := by
    cases s with
    | nil => rfl
    | cons a s =>
      have : a ≠ 61 := fun e => h (by rw [e]; rfl)
      unfold stands
      simp [List.isPrefixOf]
      exact fun e => this e.symm
  have h2 : ∀ o ∈ signsA, o = [61, 61] ∨ o = [61] ∨ o.head? ≠ some 61 := by decide
  have h3 : ∀ l : List Bs, (∀ o ∈ l, o ≠ [] ∧ (o = [61, 61] ∨ o = [61] ∨ o.head? ≠ some 61)) → [61] ∈ l → l.find? (fun o => stands o (61 :: s)) = some [61] := by
    intro l hl hm
    induction l with
    | nil => cases hm
    | cons a l ih =>
      obtain ⟨hne, ha⟩ := hl a (List.mem_cons_self ..)
      rw [List.find?_cons]
      by_cases ha1 : a = [61]
      · subst ha1
        have : stands [61] (61 :: s) = true := by simp [stands, List.isPrefixOf]
        rw [this]
      · have : stands a (61 :: s) = false := by
          rcases ha with rfl | rfl | hh
          · exact h1
          · exact absurd rfl ha1
          · exact stands_head hne hh
        rw [this]
        exact ih (fun o ho => hl o (List.mem_cons_of_mem _ ho)) (by
          rcases List.mem_cons.1 hm with rfl | h
          · exact absurd rfl ha1
          · exact h)
  have : signsA.find? (fun o => stands o (61 :: s)) = some [61] := h3 _ (fun o ho => ⟨(signs_len o ho).1, h2 o ho⟩) (by decide)
  rw [this]
theorem cut_gift {n s : Bs} {l : List Tok} (hn : isName n = true) (hs : s.head? ≠ some 61) (h : cutL s = .ok l) : cutL (n ++ 61 :: s) = .ok (.nam n :: .sg [61] :: l) := by
  unfold cutL at h ⊢
  obtain ⟨k, hk⟩ : ∃ k, (n ++ 61 :: s).length = k + 1 ∧ s.length < k + 1 := ⟨n.length + s.length, by simp only [List.length_append, List.length_cons]; omega, by omega⟩
  rw [hk.1, cut_name hn _ (.inr ⟨61, s, rfl, by decide⟩), cut_step]
  have hdw : (61 :: s).dropWhile blankA = 61 :: s := rfl
  rw [hdw]
  dsimp only
  have hdl : dollarL (61 :: s) = 61 :: s := dollar_no 61 _ (by decide)
  rw [hdl, first_eq s hs]
  dsimp only
  have hx := cut_acc k (s.length + 1) [] [.nam n, .sg [61]] s (by have := (name_parts hn).2.2; obtain ⟨c, r, rfl, _⟩ := this; simp at hk; omega) (by omega)
  rw [List.append_nil] at hx
  show cutN k [.nam n, .sg [61]] s = _
  rw [hx, h]
  rfl
/-- What begins with an equal sign has an error. -/
theorem eval_eq (s : Bs) (v : Vs) (h : s.head? = some 61) : ∃ e, evalL s v = .error e := by
  cases s with
  | nil => cases h
  | cons c s =>
    simp only [List.head?_cons, Option.some.injEq] at h
    subst h
    unfold evalL
    split
    · exact ⟨_, rfl⟩
    · cases hc : cutL (61 :: s) with
      | error e => exact ⟨_, rfl⟩
      | ok l =>
        dsimp only
        have : ∃ o l', l = .sg o :: l' ∧ (o = [61] ∨ o = [61, 61]) := by
          unfold cutL at hc
          rw [cut_step] at hc
          have hdw : (61 :: s).dropWhile blankA = 61 :: s := rfl
          rw [hdw] at hc
          dsimp only at hc
          have hdl : dollarL (61 :: s) = 61 :: s := dollar_no 61 _ (by decide)
          rw [hdl] at hc
          have hfo : ∃ o, firstL (61 :: s) = .ok (.sg o) ∧ (o = [61] ∨ o = [61, 61]) := by
            by_cases h2 : s.head? = some 61
            · cases s with
              | nil => cases h2
              | cons a s =>
                simp only [List.head?_cons, Option.some.injEq] at h2
                subst h2
                refine ⟨[61, 61], ?_, .inr rfl⟩
                unfold firstL
                have : signsA.find? (fun o => stands o (61 :: 61 :: s)) = some [61, 61] := rfl
                rw [this]
            · exact ⟨[61], first_eq s h2, .inl rfl⟩
          obtain ⟨o, ho, ho2⟩ := hfo
          rw [ho] at hc
          dsimp only at hc
          have hx := cut_acc (61 :: s).length ((61 :: s).length) [] [.sg o] (List.drop (Tok.sg o).text.length (61 :: s)) (by rcases ho2 with rfl | rfl <;> simp [Tok.text] <;> omega) (by rcases ho2 with rfl | rfl <;> simp [Tok.text] <;> omega)
          rw [List.append_nil] at hx
          rw [List.nil_append] at hc
          rw [hx] at hc
          split at hc
          · cases hc
          · simp only [Except.ok.injEq] at hc
            exact ⟨o, _, hc.symm, ho2⟩
        obtain ⟨o, l', rfl, ho⟩ := this
        have hr : readL (.sg o :: l') = .error 61 := by
          have hle : leadF (rd ((Tok.sg o :: l').length)) 0 (.sg o :: l') = .error 61 := by rcases ho with rfl | rfl <;> rfl
          have hK : ∀ k, pairsK (leadF (rd ((Tok.sg o :: l').length)) 0) k (.sg o :: l') = .error 61 := by
            intro k
            induction k with
            | zero => exact hle
            | succ k ih => rw [pairsK, ih]
          unfold readL
          rw [show (rd ((Tok.sg o :: l').length + 1)).all 0 (.sg o :: l') = condF (rd ((Tok.sg o :: l').length)) 0 (.sg o :: l') from rfl]
          unfold condF
          rw [hK 10]
        rw [if_neg (by simp), hr]
        exact ⟨_, rfl⟩
theorem find_set (v : Vs) (n t : Bs) : findV (setV v n t) n = some t := by
  induction v with
  | nil => simp [setV, findV]
  | cons x v ih =>
    rw [setV]
    by_cases h : x.1 = n
    · rw [if_pos h]; simp [findV, h]
    · rw [if_neg h]
      unfold findV at ih ⊢
      rw [List.find?_cons]
      have : (x.1 == n) = false := by simpa using h
      rw [this]; exact ih
theorem set_len (v : Vs) (n t : Bs) : v.length ≤ (setV v n t).length := by
  induction v with
  | nil => simp
  | cons x v ih =>
    rw [setV]
    split
    · exact Nat.le_refl _
    · simp only [List.length_cons]; omega
theorem set_at (v : Vs) (n t : Bs) (i : Nat) (h : i < v.length) (h2 : i < (setV v n t).length) : v[i].1 ≠ n → (setV v n t)[i] = v[i] := by
  induction v generalizing i with
  | nil => simp at h
  | cons x v ih =>
    intro hn
    have e : setV (x :: v) n t = if x.1 = n then (x.1, t) :: v else x :: setV v n t := rfl
    by_cases hx : x.1 = n
    · rw [if_pos hx] at e
      cases i with
      | zero => exact absurd hx hn
      | succ i => simp only [e, List.getElem_cons_succ]
    · rw [if_neg hx] at e
      cases i with
      | zero => simp only [e, List.getElem_cons_zero]
      | succ i =>
        simp only [List.getElem_cons_succ] at hn
        simp only [List.length_cons] at h
        have h3 : i < (setV v n t).length := by have := set_len v n t; omega
        simp only [e, List.getElem_cons_succ]
        exact ih i (by omega) h3 hn
/-- All of ArithGives: what the second one comes to, if the first one has no error. -/
theorem gives_all (s n : Bs) (v v2 : Vs) (k : Int) (hs : s.length ≤ 2000) (hn : isName n = true) (h : evalL s v = .ok (k, v2)) :
    (∃ e, evalL (n ++ 61 :: s) v = .error e) ∨ evalL (n ++ 61 :: s) v = .ok (k, setV v2 n (textL k)) := by
  have h61 : s.head? ≠ some 61 := by
    intro e
    obtain ⟨x, hx⟩ := eval_eq s v e
    rw [hx] at h; cases h
  unfold evalL at h
  split at h
  · cases h
  · rename_i hb
    split at h
    · cases h
    · rename_i l hl
      have hc := cut_gift hn h61 hl
      have h64 := (name_parts hn).1
      have he : ∀ x, readL (.nam n :: .sg [61] :: l) = x → (∀ e, x = .error e → evalL (n ++ 61 :: s) v = .error e) ∧ (∀ t, x = .ok t → evalL (n ++ 61 :: s) v = reckonL t v) := by
        intro x hx
        unfold evalL
        rw [if_neg (by simp only [List.length_append, List.length_cons]; omega), hc]
        dsimp only
        rw [if_neg (by simp), hx]
        exact ⟨fun e h => by rw [h], fun t h => by rw [h]⟩
      split at h
      · rename_i hle
        have : l = [] := by simpa using hle
        subst this
        exact .inl ⟨61, (he _ rfl).1 61 rfl⟩
      · split at h
        · cases h
        · rename_i t ht
          rw [(he _ (read_gift n ht)).2 _ rfl, reckonL, h]
          dsimp only
          rw [if_pos rfl]
          dsimp only
          unfold giveL
          by_cases hx : (findV v2 n).isNone = true ∧ 64 ≤ v2.length
          · rw [if_pos hx]; exact .inl ⟨_, rfl⟩
          · rw [if_neg hx]; exact .inr rfl
/-- And the name alone, then. -/
theorem name_all (n : Bs) (v : Vs) (k : Int) (hn : isName n = true) (hv : (setV v n (textL k)).length ≤ 64) (h0 : -9223372036854775808 ≤ k) (h1 : k ≤ 9223372036854775807) : evalL n (setV v n (textL k)) = .ok (k, setV v n (textL k)) := by
  have hc : cutL n = .ok [.nam n] := by
    unfold cutL
    have := cut_name hn [] (.inl rfl) n.length []
    rw [List.append_nil] at this
    rw [this]
    cases n.length <;> rfl
  have h64 := (name_parts hn).1
  rw [eval_of (by omega) hv hc (by simp) (show readL [.nam n] = .ok (.named n) from rfl)]
  rw [reckonL, number_text (find_set v n (textL k)) h0 h1]
end ArM
namespace Go.Proofs.YtcadnkanjlmfhaaGreatDoor.Wd
open Go.RowKit
open PathM WdM
set_option linter.unusedVariables false

theorem letter_eq (c : UInt8) : letter c = (decide ((97 : Int) ≤ (c.toNat : Int)) && decide ((c.toNat : Int) ≤ 122) || decide ((65 : Int) ≤ (c.toNat : Int)) && decide ((c.toNat : Int) ≤ 90) || ((c.toNat : Int) == 95)) := by
  unfold letter
  have h : (c == 95) = ((c.toNat : Int) == 95) := by
    rw [Bool.eq_iff_iff]
    simp only [beq_iff_eq]
    constructor
    · rintro rfl; rfl
    · intro h; exact UInt8.toNat_inj.1 (by show c.toNat = 95; omega)
  have g : ∀ a b : UInt8, decide (a ≤ b) = decide ((a.toNat : Int) ≤ (b.toNat : Int)) := fun a b => by
    rw [decide_eq_decide, UInt8.le_iff_toNat_le]; omega
  rw [h, g, g, g, g]
  rfl
theorem digit_eq (c : UInt8) : digit c = (decide ((48 : Int) ≤ (c.toNat : Int)) && decide ((c.toNat : Int) ≤ 57)) := by
  unfold digit
  have g : ∀ a b : UInt8, decide (a ≤ b) = decide ((a.toNat : Int) ≤ (b.toNat : Int)) := fun a b => by
    rw [decide_eq_decide, UInt8.le_iff_toNat_le]; omega
  rw [g, g]
  rfl
theorem byte_eq (c : UInt8) (n : Nat) (hn : n < 256) : ((c.toNat : Int) == (n : Int)) = (c == n.toUInt8) := by
  rw [Bool.eq_iff_iff]
  simp only [beq_iff_eq]
  constructor
  · intro h; exact UInt8.toNat_inj.1 (by rw [UInt8.toNat_ofNat_of_lt' hn]; omega)
  · rintro rfl; rw [UInt8.toNat_ofNat_of_lt' hn]
theorem toU8 (c : UInt8) : ((c.toNat : Int)).toNat.toUInt8 = c := by simp
theorem has_idx (l : Bs) (c : UInt8) : l.contains c = decide (0 ≤ Lib.indexByte l c) := by
  induction l with
  | nil => simp [Lib.indexByte]
  | cons d l ih =>
    have hge := Lib.indexByte_ge l c
    unfold Lib.indexByte
    by_cases hc : d = c
    · simp [hc]
    · have h1 : (d == c) = false := by simpa using hc
      have h2 : (d :: l).contains c = l.contains c := by simp; exact fun e => absurd e.symm hc
      rw [h1, h2, ih]
      simp only [Bool.false_eq_true, if_false]
      split
      · rename_i h
        have h' : Lib.indexByte l c = -1 := by simpa using h
        rw [h']
      · rename_i h
        have h' : Lib.indexByte l c ≠ -1 := by simpa using h
        simp only [decide_eq_decide]
        omega

set_option maxHeartbeats 400000 in
theorem letter_any (c : UInt8) (w : World) :
    Calls Tryz.prog 20 #[.int .u8 c.toNat] w fun e w' => e = .returned (.bool (letter c)) ∧ w = w' := by
  rw [letter_eq]
  generalize (c.toNat : Int) = n
  go_enter Tryz.func20, Tryz.ntmps20
  go_wp2
  all_goals (go_ret; refine ⟨ret_bool ?_, rfl⟩; first | (simp_all; done) | (simp_all; omega) | (rw [Bool.eq_iff_iff]; simp; omega) | (simp; omega))
set_option maxHeartbeats 400000 in
theorem rletter_any (c : UInt8) (w : World) :
    Calls Tryz.prog 24 #[.int .u8 c.toNat] w fun e w' => e = .returned (.bool (letter c)) ∧ w = w' := by
  rw [letter_eq]
  generalize (c.toNat : Int) = n
  go_enter Tryz.func24, Tryz.ntmps24
  go_wp2
  all_goals (go_ret; refine ⟨ret_bool ?_, rfl⟩; first | (simp_all; done) | (simp_all; omega) | (rw [Bool.eq_iff_iff]; simp; omega) | (simp; omega))
theorem digit_any (c : UInt8) (w : World) :
    Calls Tryz.prog 39 #[.int .u8 c.toNat] w fun e w' => e = .returned (.bool (digit c)) ∧ w = w' := by
  rw [digit_eq]
  generalize (c.toNat : Int) = n
  go_enter Tryz.func39, Tryz.ntmps39
  go_wp2
  all_goals (go_ret; refine ⟨ret_bool ?_, rfl⟩; first | (simp_all; done) | (simp_all; omega) | (rw [Bool.eq_iff_iff]; simp; omega) | (simp; omega))
theorem rdigit_any (c : UInt8) (w : World) :
    Calls Tryz.prog 26 #[.int .u8 c.toNat] w fun e w' => e = .returned (.bool (digit c)) ∧ w = w' := by
  rw [digit_eq]
  generalize (c.toNat : Int) = n
  go_enter Tryz.func26, Tryz.ntmps26
  go_wp2
  all_goals (go_ret; refine ⟨ret_bool ?_, rfl⟩; first | (simp_all; done) | (simp_all; omega) | (rw [Bool.eq_iff_iff]; simp; omega) | (simp; omega))
theorem index_any (l : Bs) (c : UInt8) (w : World) :
    Calls Tryz.prog 72 #[.string (nm l), .int .u8 c.toNat] w fun e w' => e = .returned (.int .i64 (Lib.indexByte l c)) ∧ w = w' := by
  refine (Tryz.strings_IndexByte (nm l) c.toNat w).mono ?_
  rintro e w' ⟨rfl, rfl⟩
  rw [toU8]
  exact ⟨rfl, rfl⟩
theorem named_any (c : UInt8) (w : World) :
    Calls Tryz.prog 57 #[.int .u8 c.toNat] w fun e w' => e = .returned (.bool (named c)) ∧ w = w' := by
  have h1 := letter_any c
  have h2 := digit_any c
  unfold named
  generalize (c.toNat : Int) = n at *
  generalize letter c = x at *
  generalize digit c = y at *
  have H1 := Lib.hid h1; have H2 := Lib.hid h2; clear h1 h2
  cases x
  all_goals
    go_enter Tryz.func57, Tryz.ntmps57
    go_wp2_with (first | (go_at_call 20; refine (H1.out _).mono ?_; rintro e w' ⟨rfl, rfl⟩) | (go_at_call 39; refine (H2.out _).mono ?_; rintro e w' ⟨rfl, rfl⟩))
    go_ret
    refine ⟨ret_bool ?_, rfl⟩
    simp
end Go.Proofs.YtcadnkanjlmfhaaGreatDoor.Wd
namespace Go.Proofs.YtcadnkanjlmfhaaGreatDoor.Wd
open Go.RowKit
open PathM WdM
set_option linter.unusedVariables false

/-- What asks of a byte. -/
structure Asks (F : Nat) (k : UInt8 → Bool) : Prop where
  enters : ∀ (args : Array Value) (w : World), (callFunc F args).run Tryz.prog w = .ok (.enter F args) w
  calls : ∀ (c : UInt8) (w : World), Calls Tryz.prog F #[.int .u8 c.toNat] w fun e w' => e = .returned (.bool (k c)) ∧ w = w'
theorem asks_named : Asks 57 named := ⟨enters_of Tryz.func57 (by kernel_rfl) rfl, named_any⟩
theorem asks_digit : Asks 39 digit := ⟨enters_of Tryz.func39 (by kernel_rfl) rfl, digit_any⟩
theorem bt (c : UInt8) (n : Nat) (hn : n < 256) : ((c.toNat : Int) == (n : Int)) = decide (c = n.toUInt8) := by
  rw [byte_eq c n hn, Bool.eq_iff_iff]; simp
theorem bt2 (c d : UInt8) : ((c.toNat : Int) == (d.toNat : Int)) = decide (c = d) := by
  rw [Bool.eq_iff_iff]
  simp only [beq_iff_eq, decide_eq_true_eq]
  constructor
  · intro h; exact UInt8.toNat_inj.1 (by omega)
  · rintro rfl; rfl
theorem bn (c : UInt8) (n : Nat) (hn : n < 256) : ((c.toNat : Int) != (n : Int)) = !decide (c = n.toUInt8) := by
  rw [← bt c n hn]; rfl

set_option maxHeartbeats 400000 in
theorem leading_any {F : Nat} {k : UInt8 → Bool} (hF : Asks F k) (s : ByteArray) (w : World) (hs : s.size ≤ 4611686018427387904) :
    Calls Tryz.prog 56 #[.string s, .func (.func F) #[] #[]] w fun e w' => e = .returned (.int .i64 (leading k s.data.toList : Nat)) ∧ w = w' := by
  have e1 := hF.enters
  have HK := Lib.hid hF.calls
  clear hF
  have HL : Hid (leading k s.data.toList = leading k (s.data.toList.drop 0) + 0) := Lib.hid rfl
  go_enter Tryz.func56, Tryz.ntmps56
  go_wp2
  go_loop [5] (fun n => ∃ i : Nat, n = .int .i64 i ∧ i ≤ s.size ∧ Hid (leading k s.data.toList = leading k (s.data.toList.drop i) + i)) (fun n => s.size - (intOf n).toNat)
  case atStart => exact ⟨0, rfl, by omega, HL⟩
  case round =>
    obtain ⟨i, rfl, hi, HI⟩ := hrel
    by_cases hlt : i < s.size
    · have hd := get_at s i hlt
      have HD := Lib.hid hd
      clear hd
      cases hk : k s[i] with
      | true =>
        have HKK : Hid (leading k s.data.toList = leading k (s.data.toList.drop (i + 1)) + (i + 1)) := Lib.hid (by rw [HI.out, HD.out, leading, if_pos hk]; omega)
        go_wp2_with (go_at_fn F; refine (HK.out _ _).mono ?_; rintro e w' ⟨rfl, rfl⟩)
        go_wp2
        go_round
        case rel => exact ⟨i + 1, by go_num, by omega, HKK⟩
        case measure => simp [intOf]; omega
      | false =>
        have HKK : Hid (leading k s.data.toList = i) := Lib.hid (by rw [HI.out, HD.out, leading, if_neg (by rw [hk]; decide)]; omega)
        go_wp2_with (go_at_fn F; refine (HK.out _ _).mono ?_; rintro e w' ⟨rfl, rfl⟩)
        go_wp2
        go_ret
        exact ⟨ret_int (by rw [HKK.out]), rfl⟩
    · obtain rfl : i = s.size := by omega
      have HKK : Hid (leading k s.data.toList = s.size) := Lib.hid (by rw [HI.out, List.drop_of_length_le (by rw [sizeD]; exact Nat.le_refl _), leading]; omega)
      go_wp2
      go_ret
      exact ⟨ret_int (by rw [HKK.out]), rfl⟩

/-- An answer that counts from a place on. -/
def resI (i : Nat) : Option Nat → Int
  | none => -1
  | some n => ((n + i : Nat) : Int)
theorem resI_map (i : Nat) (o : Option Nat) : resI i (o.map (· + 1)) = resI (i + 1) o := by cases o <;> simp [resI]; omega
theorem quoted_skip (q : UInt8) (i : Nat) (l : Bs) : resI i (quotedS q true l) = resI (i + 1) (quotedS q false (l.drop 1)) := by
  cases l with
  | nil => rfl
  | cons c t => rw [quotedS, resI_map]; rfl
theorem inside_skip (q : UInt8) (dp i : Nat) (l : Bs) : resI i (insideS q true dp l) = resI (i + 1) (insideS q false dp (l.drop 1)) := by
  cases l with
  | nil => rfl
  | cons c t => rw [insideS, if_pos rfl, resI_map]; rfl
theorem inside_quote (q : UInt8) (hq : q = 39 ∨ q = 34) (dp : Nat) : ∀ (l : Bs) (sk : Bool), insideS q sk dp l = match quotedS q sk l with
    | none => none
    | some n => (insideS 0 false dp (l.drop (n + 1))).map (· + (n + 1)) := by
  have hq0 : ¬ q = 0 := by rcases hq with rfl | rfl <;> decide
  intro l
  induction l with
  | nil => intro sk; cases sk <;> rfl
  | cons c t ih =>
    intro sk
    have key : ∀ sk', (insideS q sk' dp t).map (· + 1) = match (quotedS q sk' t).map (· + 1) with
        | none => none
        | some n => (insideS 0 false dp ((c :: t).drop (n + 1))).map (· + (n + 1)) := fun sk' => by
      rw [ih sk']
      cases quotedS q sk' t with
      | none => rfl
      | some n =>
        simp only [Option.map_some, List.drop_succ_cons, Option.map_map]
        congr 1
    cases sk with
    | true => rw [insideS, if_pos rfl, quotedS]; exact key false
    | false =>
      rw [insideS, if_neg (by decide), if_neg hq0, quotedS]
      by_cases h1 : c = q
      · have h2 : ¬ (c = 92 ∧ q = 34) := by rintro ⟨rfl, h⟩; rw [h] at h1; exact absurd h1 (by decide)
        rw [if_neg h2, if_pos h1, if_pos h1]
        rfl
      · rw [if_neg h1, if_neg h1]
        by_cases h2 : c = 92 ∧ q = 34
        · rw [if_pos h2, if_pos h2]; exact key true
        · rw [if_neg h2, if_neg h2]; exact key false

theorem drop_len (s : ByteArray) (i : Nat) (h : i ≤ s.size) : (nm (s.data.toList.drop i)).size = s.size - i := by rw [nm_size, List.length_drop, sizeD]
theorem quote_of {q : UInt8} (hq : q = 39 ∨ q = 34) (dp i : Nat) (l : Bs) (r : Int) (h : resI (i + 1) (insideS q false dp l) = r) :
    (quotedS q false l = none ∧ r = -1) ∨ ∃ n, quotedS q false l = some n ∧ resI (i + n + 2) (insideS 0 false dp (l.drop (n + 1))) = r := by
  rw [inside_quote q hq] at h
  cases hk : quotedS q false l with
  | none => rw [hk] at h; exact .inl ⟨rfl, h.symm⟩
  | some n =>
    rw [hk] at h
    dsimp only at h
    refine .inr ⟨n, rfl, ?_⟩
    rw [← h]
    cases insideS 0 false dp (l.drop (n + 1)) with
    | none => rfl
    | some m => simp only [resI, Option.map_some]; omega
theorem quoted_lt (q : UInt8) : ∀ (l : Bs) (sk : Bool) (n : Nat), quotedS q sk l = some n → n < l.length := by
  intro l
  induction l with
  | nil => intro sk n h; cases sk <;> cases h
  | cons c t ih =>
    intro sk n h
    have key : ∀ sk', (quotedS q sk' t).map (· + 1) = some n → n < (c :: t).length := fun sk' h => by
      cases hk : quotedS q sk' t with
      | none => rw [hk] at h; cases h
      | some m => rw [hk] at h; have := ih _ _ hk; simp at h ⊢; omega
    cases sk with
    | true => exact key false h
    | false =>
      rw [quotedS] at h
      split at h
      · injection h with h; subst h; simp
      · split at h
        · exact key true h
        · exact key false h

end Go.Proofs.YtcadnkanjlmfhaaGreatDoor.Wd
namespace Go.Proofs.YtcadnkanjlmfhaaGreatDoor.Wd
open Go.RowKit
open PathM WdM
set_option linter.unusedVariables false

theorem leading_le (k : UInt8 → Bool) : ∀ l : Bs, leading k l ≤ l.length := by
  intro l
  induction l with
  | nil => exact Nat.le_refl _
  | cons c t ih => rw [leading]; split <;> simp <;> omega
theorem isName_eq (s : ByteArray) (h0 : 0 < s.size) : isName s.data.toList = (decide (s.size ≤ 64) && letter s[0] && decide (leading named s.data.toList = s.size)) := by
  have hd := get_at s 0 h0
  rw [List.drop_zero] at hd
  unfold isName
  rw [← sizeD, hd]
  simp
theorem isName_nil : isName [] = false := rfl

set_option maxHeartbeats 800000 in
theorem name_any (s : ByteArray) (w : World) (hs : s.size ≤ 4611686018427387904) :
    Calls Tryz.prog 41 #[.string s] w fun e w' => e = .returned (.bool (isName s.data.toList)) ∧ w = w' := by
  have HLD := Lib.hid (fun w => leading_any asks_named s w hs)
  have hle := leading_le named s.data.toList
  rw [← sizeD] at hle
  by_cases h0 : s.size = 0
  · have hl : s.data.toList = [] := List.length_eq_zero_iff.1 (by rw [← sizeD]; exact h0)
    have he : s.toList = [] := by rw [listD]; exact hl
    have HN : Hid (isName s.data.toList = false) := Lib.hid (by rw [hl]; rfl)
    clear hl hle
    go_enter Tryz.func41, Tryz.ntmps41
    go_wp2
    go_ret
    exact ⟨ret_bool HN.out.symm, rfl⟩
  · have hp : 0 < s.size := by omega
    have HN := Lib.hid (isName_eq s hp)
    have he : s.toList.isEmpty = false := by rw [listD]; rw [List.isEmpty_eq_false_iff]; intro h; have := congrArg List.length h; rw [← sizeD] at this; exact h0 this
    have HL := Lib.hid (letter_any s[0])
    have he2 : ¬ s.toList = [] := by intro h; rw [h] at he; cases he
    generalize leading named s.data.toList = n at *
    by_cases h1 : s.size ≤ 64
    · cases h2 : letter s[0] with
      | true =>
        rw [h2] at HL
        have HNN : Hid (isName s.data.toList = decide (n = s.size)) := Lib.hid (by rw [HN.out, h2, decide_eq_true h1]; simp)
        have h3 : ((n : Int) == (s.size : Int)) = decide (n = s.size) := by rw [Bool.eq_iff_iff]; simp; omega
        have H3 := Lib.hid h3
        clear h2 h3 h0 HN hle
        go_enter Tryz.func41, Tryz.ntmps41
        go_wp2_with (first | (go_at_call 20; refine (HL.out _).mono ?_; rintro e w' ⟨rfl, rfl⟩) | (go_at_call 56; refine (HLD.out _).mono ?_; rintro e w' ⟨rfl, rfl⟩))
        go_ret
        exact ⟨ret_bool (by rw [HNN.out]; exact H3.out), rfl⟩
      | false =>
        rw [h2] at HL
        have HNN : Hid (isName s.data.toList = false) := Lib.hid (by rw [HN.out, h2]; simp)
        clear h2 h0 HN hle
        go_enter Tryz.func41, Tryz.ntmps41
        go_wp2_with (first | (go_at_call 20; refine (HL.out _).mono ?_; rintro e w' ⟨rfl, rfl⟩) | (go_at_call 56; refine (HLD.out _).mono ?_; rintro e w' ⟨rfl, rfl⟩))
        go_ret
        exact ⟨ret_bool HNN.out.symm, rfl⟩
    · have HNN : Hid (isName s.data.toList = false) := Lib.hid (by rw [HN.out, decide_eq_false h1]; simp)
      clear h0 HN hle
      go_enter Tryz.func41, Tryz.ntmps41
      go_wp2
      go_ret
      exact ⟨ret_bool HNN.out.symm, rfl⟩

theorem has_any (s : ByteArray) (c : UInt8) (w : World) (hs : s.size ≤ 4611686018427387904) :
    Calls Tryz.prog 23 #[.string s, .int .u8 c.toNat] w fun e w' => e = .returned (.bool (s.data.toList.contains c)) ∧ w = w' := by
  obtain ⟨r, hr⟩ : ∃ r, s.data.toList.contains c = r := ⟨_, rfl⟩
  rw [hr]
  have HR := Lib.hid hr
  clear hr
  go_enter Tryz.func23, Tryz.ntmps23
  go_wp2
  go_loop [5] (fun n => ∃ i : Nat, n = .int .i64 i ∧ i ≤ s.size ∧ Hid ((s.data.toList.drop i).contains c = r)) (fun n => s.size - (intOf n).toNat)
  case atStart => exact ⟨0, rfl, by omega, HR⟩
  case round =>
    obtain ⟨i, rfl, hi, HI⟩ := hrel
    by_cases hlt : i < s.size
    · have HD := Lib.hid (get_at s i hlt)
      have b1 := bt2 s[i] c
      by_cases h1 : s[i] = c
      · have HK : Hid (r = true) := Lib.hid (by rw [← HI.out, HD.out, h1]; simp)
        rw [decide_eq_true h1] at b1
        clear h1
        go_wp2
        go_ret
        exact ⟨ret_bool HK.out.symm, rfl⟩
      · have HK : Hid ((s.data.toList.drop (i + 1)).contains c = r) := Lib.hid (by rw [← HI.out, HD.out, List.contains_cons, beq_eq_false_iff_ne.2 (fun h => h1 h.symm), Bool.false_or])
        rw [decide_eq_false h1] at b1
        clear h1
        go_wp2
        go_round
        case rel => exact ⟨i + 1, by go_num, by omega, HK⟩
        case measure => simp [intOf]; omega
    · have HK : Hid (r = false) := Lib.hid (by rw [← HI.out, List.drop_of_length_le (by rw [← sizeD]; omega)]; rfl)
      go_wp2
      go_ret
      exact ⟨ret_bool HK.out.symm, rfl⟩

/-- How long the name that a text begins with is. -/
def nameLen (l : Bs) : Nat := match l with
  | [] => 0
  | c :: _ => if letter c then leading named l else 0
/-- .. from a place in it on. -/
def nameFrom (n : Nat) (l : Bs) : Nat := if n = 0 then nameLen l else leading named l
theorem isName_len (l : Bs) : isName l = (decide (0 < l.length) && decide (l.length ≤ 64) && decide (nameLen l = l.length)) := by
  unfold isName nameLen
  cases l with
  | nil => rfl
  | cons c t =>
    cases h : letter c with
    | true => simp [h]
    | false => simp [h]
end Go.Proofs.YtcadnkanjlmfhaaGreatDoor.Wd
