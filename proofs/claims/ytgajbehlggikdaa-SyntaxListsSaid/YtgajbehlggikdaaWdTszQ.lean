/- DERIVED. Plain mathematics of layer 7: the texts of what is read are no longer than what it was read from. -/
import Derived.Test.YtgajbehlggikdaaWdFm
import Derived.Test.YtgajbehlggikdaaWdText2
namespace Go.Proofs.Ytgajbehlggikdaa.WdT
open PathM WdM
open Go.Proofs.Ytgajbehlggikdaa.Wd (nameLen leading_le)
set_option linter.unusedVariables false

/-- How long the parameter is that begins a text. -/
def parLen (l : Bs) : Nat := if paramStands l then paramLen l else 0

def arO : Rs Bs → Option (List PT × Bs)
  | .bad _ _ => none
  | .ok t r => some ([.mk 4 false t [] []], r)

def OB : Rs PT → Option (List PT × Bs)
  | .bad _ _ => none
  | .ok p r => some ([p], r)

theorem parLen_pos {l : Bs} (h : paramStands l = true) : 0 < paramLen l := by
  cases l with
  | nil => cases h
  | cons c t =>
    show 0 < (if letter c then leading named (c :: t) else if digit c then leading digit (c :: t) else 1)
    cases hl : letter c with
    | true =>
      have hn : named c = true := by unfold named; rw [hl]; rfl
      rw [if_pos rfl, leading, if_pos hn]; omega
    | false =>
      rw [if_neg (by decide)]
      cases hd : digit c with
      | true => rw [if_pos rfl, leading, if_pos hd]; omega
      | false => rw [if_neg (by decide)]; omega

theorem param_no {l : Bs} (h : parLen l = 0 ∨ 64 < parLen l) : ∃ a e, param l = .bad a e := by
  unfold param
  unfold parLen at h
  cases hp : paramStands l with
  | true =>
    rw [hp, if_pos rfl] at h
    have := parLen_pos hp
    rw [if_pos rfl, if_neg (by omega)]
    exact ⟨_, _, rfl⟩
  | false => rw [if_neg (by decide)]; exact ⟨_, _, rfl⟩

theorem param_yes {l : Bs} (h0 : parLen l ≠ 0) (h : parLen l ≤ 64) : param l = .ok (l.take (parLen l)) (l.drop (parLen l)) := by
  unfold param
  unfold parLen at h h0 ⊢
  cases hp : paramStands l with
  | true =>
    rw [hp, if_pos rfl] at h
    rw [if_pos rfl, if_pos h, if_pos rfl]
  | false => rw [hp, if_neg (by decide)] at h0; exact absurd rfl h0

theorem param_len {l : Bs} : parLen l ≤ l.length := by
  unfold parLen
  cases hp : paramStands l with
  | false => simp
  | true =>
    rw [if_pos rfl]
    cases l with
    | nil => cases hp
    | cons c t =>
      show (if letter c then leading named (c :: t) else if digit c then leading digit (c :: t) else 1) ≤ _
      split
      · exact leading_le named (c :: t)
      · split
        · exact leading_le digit (c :: t)
        · rw [List.length_cons]; omega

theorem ob_fin_nil (fl : Nat) (p : PT) : OB (finish fl p []) = none := rfl

theorem ob_fin_yes (fl : Nat) (p : PT) (t : Bs) : OB (finish fl p (125 :: t)) = some ([p], t) := rfl

theorem ob_fin_no (fl : Nat) (p : PT) {c : UInt8} (t : Bs) (h : ¬ c = 125) : OB (finish fl p (c :: t)) = none := by
  unfold finish; simp only [if_neg h]; rfl

/-- The pieces of the document's braces, as plain mathematics. -/
theorem br_len (parts : Bool → Bs → Rs (List PT)) (fl : Nat) (l : Bs) (h : lengthStands l = true) : OB (braces (some parts) fl false l) = if parLen (l.drop 1) = 0 ∨ 64 < parLen (l.drop 1) then none else OB (finish fl (.mk 2 false ((l.drop 1).take (parLen (l.drop 1))) [108, 101, 110] []) ((l.drop 1).drop (parLen (l.drop 1)))) := by
  unfold braces
  simp only [h, if_true]
  by_cases hp : parLen (l.drop 1) = 0 ∨ 64 < parLen (l.drop 1)
  · rw [if_pos hp]
    obtain ⟨a, e, h⟩ := param_no hp
    rw [h]; rfl
  · rw [if_neg hp, param_yes (fun e => hp (.inl e)) (by omega)]

theorem br_not (parts : Bool → Bs → Rs (List PT)) (fl : Nat) (l : Bs) (h : lengthStands l = false) : OB (braces (some parts) fl false l) = if parLen l = 0 ∨ 64 < parLen l then none else if opOf (l.drop (parLen l)) = [] then OB (finish fl (.mk 2 false (l.take (parLen l)) [] []) (l.drop (parLen l)))
    else match parts false ((l.drop (parLen l)).drop (opOf (l.drop (parLen l))).length) with
      | .bad _ _ => none
      | .ok w r2 => OB (finish fl (.mk 2 false (l.take (parLen l)) (opOf (l.drop (parLen l))) w) r2) := by
  unfold braces
  simp only [h, Bool.false_eq_true, if_false]
  by_cases hp : parLen l = 0 ∨ 64 < parLen l
  · rw [if_pos hp]
    obtain ⟨a, e, h⟩ := param_no hp
    rw [h]; rfl
  · rw [if_neg hp, param_yes (fun e => hp (.inl e)) (by omega)]
    show OB (if opOf (l.drop (parLen l)) = [] then _ else _) = _
    by_cases ho : opOf (l.drop (parLen l)) = []
    · rw [if_pos ho, if_pos ho]
    · rw [if_neg ho, if_neg ho]
      cases parts false ((l.drop (parLen l)).drop (opOf (l.drop (parLen l))).length) <;> rfl

theorem dol_nil (rec : Rec) : rDol rec [] = some ([litP false [36]], []) := rfl

theorem st1 (c d : UInt8) (t : Bs) : stands [c] (d :: t) = (c == d) := by
  show (c == d && ([] : Bs).isPrefixOf t) = _
  rw [List.isPrefixOf_nil_left, Bool.and_true]

theorem st2 (c e d : UInt8) (t : Bs) : stands [c, e] (d :: t) = (c == d && stands [e] t) := rfl

theorem dol_brace (rec : Rec) (t : Bs) : rDol rec (123 :: t) = OB (braces rec (t.length + 1 + 1) false t) := by
  have e : dollarP rec false (123 :: t) = some (braces rec (t.length + 1 + 1) false t) := by
    unfold dollarP
    rw [st1, if_pos (by decide)]
    rfl
  unfold rDol
  rw [e]
  cases braces rec (t.length + 1 + 1) false t <;> rfl

theorem dol_arith (rec : Rec) (t : Bs) : rDol rec (40 :: 40 :: t) = arO (arithS (t.length + 1 + 1 + 1) 0 [] t) := by
  unfold rDol dollarP
  rw [st1, if_neg (by decide), st2, st1, if_pos (by decide)]
  have e : (40 :: 40 :: t : Bs).drop 2 = t := rfl
  have e2 : (40 :: 40 :: t : Bs).length + 1 = t.length + 1 + 1 + 1 := rfl
  rw [e, e2]
  cases arithS (t.length + 1 + 1 + 1) 0 [] t <;> rfl

theorem dol_cmd (rec : Rec) (t : Bs) (h : stands [40] t = false) : rDol rec (40 :: t) = match inside t with
    | none => none
    | some n => some ([.mk 3 false (t.take n) [] []], t.drop (n + 1)) := by
  unfold rDol dollarP
  rw [st1, if_neg (by decide), st2, h, if_neg (by decide), st1, if_pos (by decide)]
  have e : (40 :: t : Bs).drop 1 = t := rfl
  rw [e]
  unfold cmdS
  cases inside t <;> rfl

theorem dol_no (rec : Rec) (c : UInt8) (t : Bs) (h1 : ¬ c = 123) (h2 : ¬ c = 40) : dollarP rec false (c :: t) = if digit c = true then some (.ok (.mk 2 false ((c :: t).take 1) [] []) ((c :: t).drop 1))
    else if paramStands (c :: t) = true then some (match param (c :: t) with
      | .bad a e => .bad a e
      | .ok t r => .ok (.mk 2 false t [] []) r) else none := by
  unfold dollarP
  have e1 : ((123 : UInt8) == c) = false := beq_eq_false_iff_ne.2 (fun e => h1 e.symm)
  have e2 : ((40 : UInt8) == c) = false := beq_eq_false_iff_ne.2 (fun e => h2 e.symm)
  rw [st1, e1, if_neg (by decide), st2, e2, Bool.false_and, if_neg (by decide), st1, e2, if_neg (by decide)]
  rfl

theorem letter_not {c : UInt8} (h : letter c = true) : ¬ c = 123 ∧ ¬ c = 40 ∧ digit c = false ∧ signs.contains c = false := by
  refine ⟨?_, ?_, ?_, ?_⟩
  · rintro rfl; exact absurd h (by decide)
  · rintro rfl; exact absurd h (by decide)
  · cases hd : digit c with
    | false => rfl
    | true =>
      unfold letter at h
      unfold digit at hd
      simp [UInt8.le_iff_toNat_le] at h hd
      rcases h with (h | h) | h
      · omega
      · omega
      · rw [h] at hd; simp at hd
  · cases hs : signs.contains c with
    | false => rfl
    | true =>
      have h4 : c = 64 ∨ c = 42 ∨ c = 35 ∨ c = 63 := by simpa [signs] using hs
      rcases h4 with e | e | e | e <;> (rw [e] at h; exact absurd h (by decide))

theorem dol_letter (rec : Rec) (c : UInt8) (t : Bs) (h : letter c = true) : rDol rec (c :: t) = if 64 < nameLen (c :: t) then none else some ([.mk 2 false ((c :: t).take (nameLen (c :: t))) [] []], (c :: t).drop (nameLen (c :: t))) := by
  obtain ⟨n1, n2, n3, _⟩ := letter_not h
  have hs : paramStands (c :: t) = true := by
    show (named c || _) = true
    unfold named; rw [h]; rfl
  have hl : paramLen (c :: t) = nameLen (c :: t) := by
    show (if letter c then leading named (c :: t) else _) = (if letter c then leading named (c :: t) else 0)
    rw [if_pos h, if_pos h]
  unfold rDol
  rw [dol_no rec c t n1 n2, if_neg (by rw [n3]; decide), if_pos hs]
  unfold param
  rw [if_pos hs, hl]
  by_cases h64 : nameLen (c :: t) ≤ 64
  · rw [if_pos h64, if_neg (by omega)]
  · rw [if_neg h64, if_pos (by omega)]

theorem dol_one (rec : Rec) (c : UInt8) (t : Bs) (hl : letter c = false) (h : digit c = true ∨ signs.contains c = true) : rDol rec (c :: t) = some ([.mk 2 false [c] [] []], t) := by
  unfold rDol
  rcases h with h | h
  · have n1 : ¬ c = 123 := by rintro rfl; exact absurd h (by decide)
    have n2 : ¬ c = 40 := by rintro rfl; exact absurd h (by decide)
    rw [dol_no rec c t n1 n2, if_pos h]
    rfl
  · have h4 : c = 64 ∨ c = 42 ∨ c = 35 ∨ c = 63 := by simpa [signs] using h
    rcases h4 with rfl | rfl | rfl | rfl
    all_goals
      rw [dol_no rec _ t (by decide) (by decide), if_neg (by decide), if_pos (by rfl)]
      unfold param
      rw [if_pos (by rfl)]
      rfl

theorem dol_else (rec : Rec) (c : UInt8) (t : Bs) (hl : letter c = false) (hd : digit c = false) (hg : signs.contains c = false) (h1 : ¬ c = 123) (h2 : ¬ c = 40) : rDol rec (c :: t) = some ([litP false [36]], c :: t) := by
  have hs : paramStands (c :: t) = false := by
    show (named c || signs.contains c) = false
    unfold named; rw [hl, hd, hg]; rfl
  unfold rDol
  rw [dol_no rec c t h1 h2, if_neg (by rw [hd]; decide), if_neg (by rw [hs]; decide)]

theorem take_drop (l : Bs) (n : Nat) : (l.take n).length + (l.drop n).length = l.length := by
  rw [List.length_take, List.length_drop]; omega

theorem arith_len (fl : Nat) : ∀ (l : Bs) (dp : Nat) (acc t r : Bs), arithS fl dp acc l = .ok t r → t.length + r.length ≤ acc.length + l.length
  | [], dp, acc, t, r, h => by cases h
  | c :: l, dp, acc, t, r, h => by
    rw [arithS] at h
    have e : (acc ++ [c]).length = acc.length + 1 := by simp
    have ih := fun dp => arith_len fl l dp (acc ++ [c]) t r
    rw [List.length_cons]
    split at h
    · cases h
    · split at h
      · have := ih _ h; omega
      · split at h
        · split at h
          · have := ih _ h; omega
          · split at h
            · injection h with h1 h2
              subst h1; subst h2
              rw [List.length_drop]; omega
            · cases h
        · have := ih _ h; omega

/-- How many bytes of texts. -/
def tsz : List PT → Nat
  | [] => 0
  | .mk _ _ t _ w :: r => t.length + tsz w + tsz r
theorem tsz_cons (p : PT) (r : List PT) : tsz (p :: r) = p.text.length + tsz p.word + tsz r := by
  obtain ⟨k, q, t, o, w⟩ := p
  rw [tsz]; rfl
theorem tsz_nil : tsz [] = 0 := by rw [tsz]
theorem tsz_app (a b : List PT) : tsz (a ++ b) = tsz a + tsz b := by
  induction a with
  | nil => rw [List.nil_append, tsz_nil]; omega
  | cons p a ih => rw [List.cons_append, tsz_cons, tsz_cons, ih]; omega
theorem tsz_one (p : PT) : tsz [p] = p.text.length + tsz p.word := by rw [tsz_cons, tsz_nil]; omega
theorem tsz_add (a : List PT) (p : PT) : tsz (addP a p) ≤ tsz a + tsz [p] := by
  rcases WdM.snoc_cases a with rfl | ⟨b, q, rfl⟩
  · rw [addP_nil, tsz_nil]; omega
  · by_cases h : merges q p
    · rw [addP_yes _ _ _ h, tsz_app, tsz_app, tsz_one, tsz_one, tsz_one]
      simp only [glue, PT.text, PT.word, List.length_append]
      cases q; cases p; simp only []; omega
    · rw [addP_no _ _ _ h, tsz_app]; omega
theorem tsz_join (a b : List PT) : tsz (joinL a b) ≤ tsz a + tsz b := by
  induction b generalizing a with
  | nil => rw [joinL_nil]; omega
  | cons p b ih =>
    have h1 := ih (addP a p)
    have h2 := tsz_add a p
    have h3 : tsz (p :: b) = tsz [p] + tsz b := tsz_app [p] b
    show tsz (joinL (addP a p) b) ≤ _
    omega
theorem tsz_qmap : ∀ l : List PT, tsz (qmap l) ≤ tsz l
  | [] => by rw [qmap_nil]; omega
  | .mk k q t o w :: r => by
    have h1 := tsz_qmap w
    have h2 := tsz_qmap r
    have h3 := tsz_join [] (qmap w)
    rw [tsz_nil] at h3
    rw [qmap_cons, tsz_cons, tsz_cons]
    simp only [q1, PT.text, PT.word]
    show t.length + tsz (joinL [] (qmap w)) + tsz (qmap r) ≤ _
    omega
theorem tsz_quoted (l : List PT) : tsz (quotedL l) ≤ tsz l := by
  have h1 := tsz_join [] (qmap l)
  have h2 := tsz_qmap l
  rw [tsz_nil] at h1
  unfold quotedL
  omega
/-- Of what is read from so many bytes. -/
def FitT (n : Nat) (o : Option (List PT × Bs)) : Prop := ∀ L r, o = some (L, r) → tsz L + r.length ≤ n
theorem fitt_none (n : Nat) : FitT n none := fun L r h => by cases h
theorem fitt_some {n : Nat} {L : List PT} {r : Bs} (h : tsz L + r.length ≤ n) : FitT n (some (L, r)) := fun L' r' e => by
  injection e with e; injection e with e1 e2; subst e1; subst e2; exact h
def FitTR (rec : Rec) : Prop := ∀ parts, rec = some parts → ∀ l L r, parts false l = .ok L r → tsz L + r.length ≤ l.length
theorem fitt_fin (fl : Nat) (p : PT) (l : Bs) (n : Nat) (h : tsz [p] + l.length ≤ n + 1) : FitT n (OB (finish fl p l)) := by
  cases l with
  | nil => rw [ob_fin_nil]; exact fitt_none _
  | cons c t =>
    by_cases hc : c = 125
    · subst hc
      rw [ob_fin_yes]
      exact fitt_some (by rw [List.length_cons] at h; omega)
    · rw [ob_fin_no _ _ _ hc]; exact fitt_none _
theorem fitt_braces {rec : Rec} (h : FitTR rec) (fl : Nat) (l : Bs) : FitT (l.length) (OB (braces rec fl false l)) := by
  cases rec with
  | none => exact fitt_none _
  | some parts =>
    cases hl : lengthStands l with
    | true =>
      rw [br_len parts fl l hl]
      split
      · exact fitt_none _
      · refine fitt_fin _ _ _ _ ?_
        rw [tsz_one]
        simp only [PT.text, PT.word, tsz_nil]
        have := take_drop (l.drop 1) (parLen (l.drop 1))
        have h0 : (l.drop 1).length ≤ l.length := by rw [List.length_drop]; omega
        omega
    | false =>
      rw [br_not parts fl l hl]
      have ht := take_drop l (parLen l)
      split
      · exact fitt_none _
      · split
        · refine fitt_fin _ _ _ _ ?_
          rw [tsz_one]
          simp only [PT.text, PT.word, tsz_nil]
          omega
        · split
          · exact fitt_none _
          · rename_i w r2 heq
            have hp := h parts rfl _ _ _ heq
            refine fitt_fin _ _ _ _ ?_
            rw [tsz_one]
            simp only [PT.text, PT.word]
            rw [List.length_drop] at hp
            omega
theorem fitt_dol {rec : Rec} (h : FitTR rec) (l : Bs) : FitT (l.length + 1) (rDol rec l) := by
  cases l with
  | nil => rw [dol_nil]; exact fitt_some (by rw [tsz_one]; simp [litP, PT.text, PT.word, tsz_nil])
  | cons c t =>
    rw [List.length_cons]
    by_cases h1 : c = 123
    · subst h1
      rw [dol_brace]
      exact fun L r e => by have := fitt_braces h _ _ L r e; omega
    by_cases h2 : c = 40
    · subst h2
      cases hs : stands [40] t with
      | true =>
        obtain ⟨t', rfl⟩ : ∃ t', t = 40 :: t' := by
          cases t with
          | nil => cases hs
          | cons d t => rw [st1] at hs; simp at hs; exact ⟨t, by rw [← hs]⟩
        rw [dol_arith, List.length_cons]
        cases ha : arithS (t'.length + 1 + 1 + 1) 0 [] t' with
        | bad a e => exact fitt_none _
        | ok x r =>
          have := arith_len _ _ _ _ _ _ ha
          simp only [List.length_nil] at this
          exact fitt_some (by rw [tsz_one]; simp only [PT.text, PT.word, tsz_nil]; omega)
      | false =>
        rw [dol_cmd rec t hs]
        cases hi : inside t with
        | none => exact fitt_none _
        | some n =>
          have := take_drop t n
          refine fitt_some ?_
          rw [tsz_one]
          simp only [PT.text, PT.word, tsz_nil]
          rw [List.length_drop] at this ⊢
          omega
    cases hl : letter c with
    | true =>
      rw [dol_letter rec c t hl]
      split
      · exact fitt_none _
      · have := take_drop (c :: t) (nameLen (c :: t))
        rw [List.length_cons] at this
        exact fitt_some (by rw [tsz_one]; simp only [PT.text, PT.word, tsz_nil]; omega)
    | false =>
      by_cases hd : digit c = true ∨ signs.contains c = true
      · rw [dol_one rec c t hl hd]
        exact fitt_some (by rw [tsz_one]; simp only [PT.text, PT.word, tsz_nil, List.length_singleton]; omega)
      · rw [dol_else rec c t hl (by cases hx : digit c with | false => rfl | true => exact absurd (.inl hx) hd) (by cases hx : signs.contains c with | false => rfl | true => exact absurd (.inr hx) hd) h1 h2]
        exact fitt_some (by rw [tsz_one]; simp only [litP, PT.text, PT.word, tsz_nil, List.length_cons, List.length_nil]; omega)
theorem fitt_lit {n : Nat} (q : Bool) (t r : Bs) (h : t.length + r.length ≤ n) : FitT n (some ([litP q t], r)) := fitt_some (by rw [tsz_one]; simp only [litP, PT.text, PT.word, tsz_nil]; omega)
theorem fitt_next2 {rec : Rec} (h : FitTR rec) (c : UInt8) (t : Bs) : FitT (t.length + 1) (rNext2 rec c t) := by
  unfold rNext2
  split
  · exact fitt_none _
  · split
    · exact fitt_dol h t
    · split
      · cases t with
        | nil => exact fitt_none _
        | cons d t' =>
          rw [List.length_cons]
          simp only []
          split
          · exact fitt_some (by rw [tsz_nil]; omega)
          · exact fitt_lit _ _ _ (by simp; omega)
      · exact fitt_lit _ _ _ (by simp; omega)
theorem fitt_r2 {rec : Rec} (h : FitTR rec) : ∀ (n : Nat) (acc : List PT) (l : Bs), FitT (tsz acc + l.length) (r2 rec n acc l)
  | 0, acc, l => fitt_none _
  | n + 1, acc, [] => by rw [r2]; exact fitt_some (by simp)
  | n + 1, acc, c :: t => by
    rw [r2, List.length_cons]
    split
    · exact fitt_some (by rw [List.length_cons]; omega)
    · have hn := fitt_next2 h c t
      cases hx : rNext2 rec c t with
      | none => exact fitt_none _
      | some x =>
        obtain ⟨L, r⟩ := x
        have h1 := hn L r hx
        have h2 := tsz_join acc L
        exact fun L' r' e => by have := fitt_r2 h n (joinL acc L) r L' r' e; omega
theorem fitt_next {rec : Rec} (h : FitTR rec) (c : UInt8) (t : Bs) : FitT (t.length + 1) (rNext rec c t) := by
  unfold rNext
  split
  · exact fitt_none _
  · split
    · exact fitt_dol h t
    · split
      · cases t with
        | nil => exact fitt_none _
        | cons d t' =>
          rw [List.length_cons]
          simp only []
          split
          · exact fitt_some (by rw [tsz_nil]; omega)
          · exact fitt_lit _ _ _ (by simp; omega)
      · split
        · split
          · exact fitt_none _
          · have := take_drop t (Go.Lib.indexByte t 39).toNat
            rw [List.length_drop] at this
            exact fitt_lit _ _ _ (by rw [List.length_drop]; omega)
        · split
          · have hr := fitt_r2 h (t.length + 1) [] t
            rw [tsz_nil] at hr
            cases hx : r2 rec (t.length + 1) [] t with
            | none => exact fitt_none _
            | some x =>
              obtain ⟨L, r⟩ := x
              have h1 := hr L r hx
              cases r with
              | nil => exact fitt_none _
              | cons d r =>
                rw [List.length_cons] at h1
                simp only []
                split
                · exact fitt_lit _ _ _ (by simp; omega)
                · have := tsz_quoted L
                  exact fitt_some (by omega)
          · exact fitt_lit _ _ _ (by simp; omega)
theorem fitt_loop {rec : Rec} (h : FitTR rec) (ends : UInt8 → Bool) : ∀ (n : Nat) (acc : List PT) (l : Bs), FitT (tsz acc + l.length) (rLoop rec ends n acc l)
  | 0, acc, l => by rw [rLoop]; exact fitt_some (Nat.le_refl _)
  | n + 1, acc, [] => by rw [rLoop]; exact fitt_some (by simp)
  | n + 1, acc, c :: t => by
    rw [rLoop, List.length_cons]
    split
    · exact fitt_some (by rw [List.length_cons]; omega)
    · have hn := fitt_next h c t
      cases hx : rNext rec c t with
      | none => exact fitt_none _
      | some x =>
        obtain ⟨L, r⟩ := x
        have h1 := hn L r hx
        have h2 := tsz_join acc L
        exact fun L' r' e => by have := fitt_loop h ends n (joinL acc L) r L' r' e; omega
theorem fitt_parts {rec : Rec} (h : FitTR rec) (ends : UInt8 → Bool) (l : Bs) : FitT (l.length) (rParts rec ends l) := by
  have := fitt_loop h ends (l.length + 1) [] l
  rw [tsz_nil, Nat.zero_add] at this
  exact this
theorem fitt_recN : ∀ n, FitTR (recN n)
  | 0 => fun parts h => by cases h
  | n + 1 => fun parts h l L r hp => by
    cases h
    have hs := rec_same n l
    cases hx : rParts (recN n) (· == 125) l with
    | none =>
      rw [hx] at hs
      obtain ⟨a, e, h2⟩ := hs
      have hp : partsR (recN n) (· == 125) false l = .ok L r := hp
      rw [h2] at hp
      cases hp
    | some x =>
      obtain ⟨L', r'⟩ := x
      rw [hx] at hs
      have hp : partsR (recN n) (· == 125) false l = .ok L r := hp
      rw [hs] at hp
      injection hp with h1 h2
      subst h1; subst h2
      exact fitt_parts (fitt_recN n) _ _ _ _ hx
theorem scan_texts {l : Bs} {L : List PT} {r : Bs} (h : scan l = .ok L r) : tsz L + r.length ≤ l.length := by
  have hs := scan_same l
  cases hx : rScan l with
  | none => rw [hx] at hs; obtain ⟨a, e, h2⟩ := hs; rw [h] at h2; cases h2
  | some x =>
    obtain ⟨L', r'⟩ := x
    rw [hx] at hs
    have hs : scan l = .ok L' r' := hs
    rw [h] at hs
    injection hs with h1 h2
    subst h1; subst h2
    exact fitt_parts (fitt_recN 16) _ _ _ _ hx
end Go.Proofs.Ytgajbehlggikdaa.WdT
