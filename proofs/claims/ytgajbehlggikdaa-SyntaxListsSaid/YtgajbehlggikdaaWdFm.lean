/- DERIVED. Plain mathematics of layer 7: parts side by side, parts all quoted, what is gathered as parts. -/
import Derived.Test.YtgajbehlggikdaaWdBad
namespace WdM
open PathM
set_option linter.unusedVariables false

/-- A part behind others: texts alike side by side are one. -/
def merges (q p : PT) : Prop := p.kind = 1 ∧ q.kind = 1 ∧ q.quoted = p.quoted
instance (q p : PT) : Decidable (merges q p) := by unfold merges; exact inferInstance
def glue (q p : PT) : PT := .mk q.kind q.quoted (q.text ++ p.text) q.op q.word
def addP (a : List PT) (p : PT) : List PT := match a.getLast? with
  | none => [p]
  | some q => if merges q p then a.dropLast ++ [glue q p] else a ++ [p]
def joinL (a b : List PT) : List PT := b.foldl addP a
theorem addP_nil (p : PT) : addP [] p = [p] := rfl
theorem addP_yes (a : List PT) (q p : PT) (h : merges q p) : addP (a ++ [q]) p = a ++ [glue q p] := by
  unfold addP; simp only [List.getLast?_append, List.getLast?_singleton, Option.some_or, if_pos h, List.dropLast_concat]
theorem addP_no (a : List PT) (q p : PT) (h : ¬ merges q p) : addP (a ++ [q]) p = a ++ [q] ++ [p] := by
  unfold addP; simp only [List.getLast?_append, List.getLast?_singleton, Option.some_or, if_neg h]
theorem snoc_cases (a : List PT) : a = [] ∨ ∃ b q, a = b ++ [q] := by
  rcases List.eq_nil_or_concat a with h | ⟨b, q, h⟩
  · exact .inl h
  · exact .inr ⟨b, q, by rw [h, List.concat_eq_append]⟩
theorem joinL_nil (a : List PT) : joinL a [] = a := rfl
theorem joinL_one (a : List PT) (p : PT) : joinL a [p] = addP a p := rfl
theorem joinL_app (a b c : List PT) : joinL a (b ++ c) = joinL (joinL a b) c := List.foldl_append
theorem joinL_snoc (a b : List PT) (p : PT) : joinL a (b ++ [p]) = addP (joinL a b) p := joinL_app a b [p]
theorem add_glue (X : List PT) (q p : PT) (h : merges q p) : addP X (glue q p) = addP (addP X q) p := by
  rcases snoc_cases X with rfl | ⟨b, r, rfl⟩
  · rw [addP_nil, addP_nil]
    have := addP_yes [] q p h
    rw [List.nil_append, List.nil_append] at this
    exact this.symm
  · by_cases hr : merges r q
    · have h1 : merges r (glue q p) := ⟨h.2.1, hr.2.1, hr.2.2⟩
      have h2 : merges (glue r q) p := ⟨h.1, hr.2.1, by show r.quoted = p.quoted; rw [hr.2.2, h.2.2]⟩
      rw [addP_yes _ _ _ h1, addP_yes _ _ _ hr, addP_yes _ _ _ h2]
      show b ++ [PT.mk r.kind r.quoted (r.text ++ (q.text ++ p.text)) r.op r.word] = b ++ [PT.mk r.kind r.quoted ((r.text ++ q.text) ++ p.text) r.op r.word]
      rw [List.append_assoc]
    · have h1 : ¬ merges r (glue q p) := fun e => hr ⟨h.2.1, e.2.1, e.2.2⟩
      rw [addP_no _ _ _ h1, addP_no _ _ _ hr, addP_yes _ _ _ h]
theorem join_add (a b : List PT) (p : PT) : joinL a (addP b p) = addP (joinL a b) p := by
  rcases snoc_cases b with rfl | ⟨c, q, rfl⟩
  · rfl
  · by_cases h : merges q p
    · rw [addP_yes _ _ _ h, joinL_snoc, joinL_snoc, add_glue _ _ _ h]
    · rw [addP_no _ _ _ h, joinL_snoc]
theorem join_assoc (a b c : List PT) : joinL a (joinL b c) = joinL (joinL a b) c := by
  induction c generalizing b with
  | nil => rfl
  | cons p c ih =>
    show joinL a (joinL (addP b p) c) = joinL (addP (joinL a b) p) c
    rw [ih, join_add]

/-- Parts, each quoted. -/
def qmap : List PT → List PT
  | [] => []
  | .mk k _ t o w :: r => .mk k true t o (joinL [] (qmap w)) :: qmap r
def quotedL (l : List PT) : List PT := joinL [] (qmap l)
def q1 (p : PT) : PT := .mk p.kind true p.text p.op (quotedL p.word)
theorem qmap_nil : qmap [] = [] := by simp [qmap]
theorem qmap_cons (p : PT) (r : List PT) : qmap (p :: r) = q1 p :: qmap r := by
  obtain ⟨k, q, t, o, w⟩ := p
  rw [qmap]; rfl
theorem qmap_app (a b : List PT) : qmap (a ++ b) = qmap a ++ qmap b := by
  induction a with
  | nil => rw [qmap_nil]; rfl
  | cons p a ih => rw [List.cons_append, qmap_cons, qmap_cons, ih]; rfl
theorem quoted_nil : quotedL [] = [] := by unfold quotedL; rw [qmap_nil]; rfl
theorem quoted_one (p : PT) : quotedL [p] = [q1 p] := by unfold quotedL; rw [qmap_cons, qmap_nil]; rfl
theorem quoted_snoc (a : List PT) (p : PT) : quotedL (a ++ [p]) = addP (quotedL a) (q1 p) := by
  unfold quotedL; rw [qmap_app, qmap_cons, qmap_nil, joinL_snoc]
theorem quoted_add (a : List PT) (p : PT) : quotedL (addP a p) = addP (quotedL a) (q1 p) := by
  rcases snoc_cases a with rfl | ⟨b, q, rfl⟩
  · rw [addP_nil, quoted_one, quoted_nil]; rfl
  · by_cases h : merges q p
    · have hq : merges (q1 q) (q1 p) := ⟨h.1, h.2.1, rfl⟩
      rw [addP_yes _ _ _ h, quoted_snoc, quoted_snoc, ← add_glue _ _ _ hq]
      rfl
    · rw [addP_no _ _ _ h, quoted_snoc]
theorem quoted_join (a b : List PT) : quotedL (joinL a b) = joinL (quotedL a) (quotedL b) := by
  induction b generalizing a with
  | nil => rw [quoted_nil]; rfl
  | cons p b ih =>
    show quotedL (joinL (addP a p) b) = _
    rw [ih, quoted_add]
    have e : quotedL (p :: b) = joinL [q1 p] (quotedL b) := by
      unfold quotedL
      rw [qmap_cons, join_assoc]
      rfl
    rw [e, join_assoc]
    rfl
theorem qmap_twice : ∀ l : List PT, qmap (qmap l) = qmap l
  | [] => by rw [qmap_nil, qmap_nil]
  | .mk k q t o w :: r => by
    have h := qmap_twice w
    have e : quotedL (quotedL w) = quotedL w := by
      have h2 : quotedL (joinL [] (qmap w)) = joinL (quotedL []) (quotedL (qmap w)) := quoted_join [] (qmap w)
      show quotedL (joinL [] (qmap w)) = _
      rw [h2, quoted_nil]
      show joinL [] (joinL [] (qmap (qmap w))) = quotedL w
      rw [h, join_assoc]
      rfl
    rw [qmap_cons, qmap_cons, qmap_twice r]
    show PT.mk k true t o (quotedL (quotedL w)) :: qmap r = PT.mk k true t o (quotedL w) :: qmap r
    rw [e]
theorem quoted_twice (w : List PT) : quotedL (quotedL w) = quotedL w := by
  have h2 : quotedL (joinL [] (qmap w)) = joinL (quotedL []) (quotedL (qmap w)) := quoted_join [] (qmap w)
  show quotedL (joinL [] (qmap w)) = _
  rw [h2, quoted_nil]
  show joinL [] (joinL [] (qmap (qmap w))) = quotedL w
  rw [qmap_twice, join_assoc]
  rfl
theorem q1_lit (q : Bool) (t : Bs) : q1 (litP q t) = litP true t := by
  unfold q1 litP
  simp only [PT.kind, PT.text, PT.op, PT.word, quoted_nil]

/-- What is gathered, as parts. -/
def vw (g : Ga) : List PT := g.close.ps
structure Inv (g : Ga) : Prop where
  shut : g.op = false → g.tx = [] ∧ ∀ r, g.ps.getLast? = some r → r.kind ≠ 1
  held : g.op = true → ∀ r, g.ps.getLast? = some r → ¬ (r.kind = 1 ∧ r.quoted = g.q)
theorem inv_empty : Inv .empty := ⟨fun _ => ⟨rfl, fun r h => by cases h⟩, fun h => by cases h⟩
theorem vw_op {g : Ga} (h : g.op = true) : vw g = g.ps ++ [litP g.q g.tx] := by unfold vw Ga.close; simp only [h, if_true]
theorem vw_shut {g : Ga} (h : g.op = false) : vw g = g.ps := by unfold vw Ga.close; simp only [h, Bool.false_eq_true, if_false]
theorem addP_apart (a : List PT) (p : PT) (h : ∀ r, a.getLast? = some r → ¬ merges r p) : addP a p = a ++ [p] := by
  rcases snoc_cases a with rfl | ⟨b, q, rfl⟩
  · rfl
  · exact addP_no _ _ _ (h q (by simp))
theorem add_inv {g : Ga} (h : Inv g) (t : Bs) (q : Bool) : Inv (g.add t q) ∧ vw (g.add t q) = addP (vw g) (litP q t) := by
  unfold Ga.add
  by_cases hq : g.q = q
  · simp only [if_pos hq]
    cases ho : g.op with
    | true =>
      refine ⟨⟨fun e => (by cases e), fun _ r hr => ?_⟩, ?_⟩
      · rw [← hq]; exact h.held ho r hr
      · rw [vw_op rfl, vw_op ho]
        have hm : merges (litP g.q g.tx) (litP q t) := ⟨rfl, rfl, hq⟩
        rw [addP_yes _ _ _ hm]
        show g.ps ++ [litP q (g.tx ++ t)] = g.ps ++ [PT.mk 1 g.q (g.tx ++ t) [] []]
        rw [hq]; rfl
    | false =>
      obtain ⟨h1, h2⟩ := h.shut ho
      refine ⟨⟨fun e => (by cases e), fun _ r hr e => h2 r hr e.1⟩, ?_⟩
      rw [vw_op rfl, vw_shut ho, addP_apart _ _ (fun r hr e => h2 r hr e.2.1)]
      simp only [h1, List.nil_append]
  · simp only [if_neg hq]
    have hv : ∀ r, (vw g).getLast? = some r → ¬ (r.kind = 1 ∧ r.quoted = q) := fun r hr e => by
      cases ho : g.op with
      | true =>
        rw [vw_op ho] at hr
        simp at hr
        rw [← hr] at e
        exact hq e.2
      | false =>
        rw [vw_shut ho] at hr
        exact (h.shut ho).2 r hr e.1
    refine ⟨⟨fun e => (by cases e), fun _ r hr => hv r hr⟩, ?_⟩
    rw [vw_op rfl, addP_apart (vw g) (litP q t) (fun r hr e => hv r hr ⟨e.2.1, e.2.2⟩)]
    rfl
theorem put_inv {g : Ga} (h : Inv g) (p : PT) (hp : p.kind ≠ 1) : Inv (g.put p) ∧ vw (g.put p) = addP (vw g) p := by
  unfold Ga.put
  refine ⟨⟨fun _ => ⟨rfl, fun r hr => ?_⟩, fun e => by cases e⟩, ?_⟩
  · simp at hr
    rw [← hr]; exact hp
  · rw [vw_shut rfl, addP_apart _ _ (fun r hr e => hp e.1)]
    rfl

end WdM

/- DERIVED. Plain mathematics of layer 7: how the document's own answer reads words, and that it reads as the program does (of faults it is said alone that there is one). -/
namespace WdM
open PathM
set_option linter.unusedVariables false

def bad? {α : Type} (m : Rs α) : Prop := ∃ a e, m = .bad a e
theorem bad_is {α : Type} (a : Nat) (e : Int) : bad? (.bad a e : Rs α) := ⟨a, e, rfl⟩
theorem bad_ok {α : Type} {x : α} {r : Bs} (h : bad? (.ok x r)) : False := by obtain ⟨a, e, h⟩ := h; cases h
/-- What a dollar begins. -/
def rDol (rec : Rec) (l : Bs) : Option (List PT × Bs) := match dollarP rec false l with
  | none => some ([litP false [36]], l)
  | some (.bad _ _) => none
  | some (.ok p r) => some ([p], r)
def escHead (t : Bs) : Bool := match t with
  | [] => false
  | d :: _ => escD d
/-- In double quotes. -/
def rNext2 (rec : Rec) (c : UInt8) (t : Bs) : Option (List PT × Bs) :=
  if c = 96 then none
  else if c = 36 then rDol rec t
  else if c = 92 ∧ escHead t = true then (match t with
    | [] => none
    | d :: t' => if d = 10 then some ([], t') else some ([litP true [d]], t'))
  else some ([litP false [c]], t)
def r2 (rec : Rec) : Nat → List PT → Bs → Option (List PT × Bs)
  | 0, acc, l => none
  | n + 1, acc, l => match l with
    | [] => some (acc, [])
    | c :: t => if c = 34 then some (acc, c :: t) else match rNext2 rec c t with
      | none => none
      | some (L, r) => r2 rec n (joinL acc L) r
def rNext (rec : Rec) (c : UInt8) (t : Bs) : Option (List PT × Bs) :=
  if c = 96 then none
  else if c = 36 then rDol rec t
  else if c = 92 then (match t with
    | [] => none
    | d :: t' => if d = 10 then some ([], t') else some ([litP true [d]], t'))
  else if c = 39 then (if Go.Lib.indexByte t 39 < 0 then none else some ([litP true (t.take (Go.Lib.indexByte t 39).toNat)], t.drop ((Go.Lib.indexByte t 39).toNat + 1)))
  else if c = 34 then (match r2 rec (t.length + 1) [] t with
    | none => none
    | some (_, []) => none
    | some (L, _ :: r) => if stands [34] t then some ([litP true []], r) else some (quotedL L, r))
  else some ([litP false [c]], t)
def rLoop (rec : Rec) (ends : UInt8 → Bool) : Nat → List PT → Bs → Option (List PT × Bs)
  | 0, acc, l => some (acc, l)
  | n + 1, acc, l => match l with
    | [] => some (acc, [])
    | c :: t => if ends c then some (acc, c :: t) else match rNext rec c t with
      | none => none
      | some (L, r) => rLoop rec ends n (joinL acc L) r

/-- What braces hold, quoted, is what they hold else, each part quoted. -/
def Turns (rec : Rec) : Prop := ∀ parts, rec = some parts → ∀ l, (∀ L r, parts false l = .ok L r → parts true l = .ok (quotedL L) r) ∧ (bad? (parts false l) → bad? (parts true l))
def qd (q : Bool) (L : List PT) : List PT := if q then quotedL L else L
/-- A part that a dollar begins, in quotes. -/
def qw (q : Bool) (p : PT) : PT := if q then .mk p.kind p.quoted p.text p.op (quotedL p.word) else p
theorem braces_turn {rec : Rec} (h : Turns rec) (fl : Nat) (l : Bs) : (∀ p r, braces rec fl false l = .ok p r → p.kind = 2 ∧ p.quoted = false ∧ braces rec fl true l = .ok (qw true p) r) ∧ (bad? (braces rec fl false l) → bad? (braces rec fl true l)) := by
  have hfin : ∀ (p : PT) (x : Bs), p.kind = 2 → p.quoted = false → p.word = [] → (∀ p' r, finish fl p x = .ok p' r → p'.kind = 2 ∧ p'.quoted = false ∧ finish fl p x = .ok (qw true p') r) := by
    intro p x hk hq hw p' r hp
    unfold finish at hp ⊢
    split at hp
    · cases hp
    · rename_i c t
      by_cases hc : c = 125
      · rw [if_pos hc] at hp
        injection hp with h1 h2
        subst h1
        refine ⟨hk, hq, ?_⟩
        simp only [if_pos hc, h2]
        obtain ⟨a1, a2, a3, a4, a5⟩ := p
        simp only [PT.word] at hw
        subst hw
        unfold qw
        simp only [if_true, PT.kind, PT.quoted, PT.text, PT.op, PT.word, quoted_nil]
      · rw [if_neg hc] at hp; cases hp
  cases rec with
  | none => exact ⟨fun p r hp => (by cases hp), fun _ => bad_is _ _⟩
  | some parts =>
    have hT := h parts rfl
    cases hL : lengthStands l with
    | true =>
      have e : ∀ q, braces (some parts) fl q l = match param (l.drop 1) with
          | .bad a e => .bad a e
          | .ok tx r => finish fl (.mk 2 false tx [108, 101, 110] []) r := fun q => by unfold braces; simp only [hL, if_true]; cases param (l.drop 1) <;> rfl
      rw [e, e]
      cases hp : param (l.drop 1) with
      | bad a e => exact ⟨fun p r h => (by cases h), fun _ => bad_is _ _⟩
      | ok tx r => exact ⟨fun p r' h => hfin (.mk 2 false tx [108, 101, 110] []) r rfl rfl rfl p r' h, fun h => h⟩
    | false =>
      cases hp : param l with
      | bad a e =>
        have e : ∀ q, braces (some parts) fl q l = .bad a e := fun q => by unfold braces; simp only [hL, hp, Bool.false_eq_true, if_false]
        rw [e, e]
        exact ⟨fun p r h => (by cases h), fun _ => bad_is _ _⟩
      | ok tx r =>
        by_cases ho : opOf r = []
        · have e : ∀ q, braces (some parts) fl q l = finish fl (.mk 2 false tx [] []) r := fun q => by unfold braces; simp only [hL, hp, ho, Bool.false_eq_true, if_false, if_true]
          rw [e, e]
          exact ⟨fun p r' h => hfin (.mk 2 false tx [] []) r rfl rfl rfl p r' h, fun h => h⟩
        · have e : ∀ q, braces (some parts) fl q l = match parts q (r.drop (opOf r).length) with
              | .bad a e => .bad a e
              | .ok w r2 => finish fl (.mk 2 false tx (opOf r) w) r2 := fun q => by
            unfold braces; simp only [hL, hp, ho, Bool.false_eq_true, if_false]
            cases parts q (r.drop (opOf r).length) <;> rfl
          rw [e, e]
          obtain ⟨t1, t2⟩ := hT (r.drop (opOf r).length)
          cases hq : parts false (r.drop (opOf r).length) with
          | bad a e =>
            obtain ⟨a', e', h'⟩ := t2 ⟨a, e, hq⟩
            rw [h']
            exact ⟨fun p r h => (by cases h), fun _ => bad_is _ _⟩
          | ok w r3 =>
            rw [t1 w r3 hq]
            show (∀ p r', finish fl (.mk 2 false tx (opOf r) w) r3 = .ok p r' → _ ∧ _ ∧ finish fl (.mk 2 false tx (opOf r) (quotedL w)) r3 = _) ∧ (bad? (finish fl (.mk 2 false tx (opOf r) w) r3) → bad? (finish fl (.mk 2 false tx (opOf r) (quotedL w)) r3))
            cases r3 with
            | nil => exact ⟨fun p r h => (by cases h), fun _ => bad_is _ _⟩
            | cons c t =>
              by_cases hc : c = 125
              · have f : ∀ p, finish fl p (c :: t) = .ok p t := fun p => by unfold finish; simp only [if_pos hc]
                rw [f, f]
                refine ⟨fun p r' h => ?_, fun h => (bad_ok h).elim⟩
                injection h with h1 h2
                subst h1; subst h2
                exact ⟨rfl, rfl, rfl⟩
              · have f : ∀ p, finish fl p (c :: t) = .bad (t.length + 1) 61 := fun p => by unfold finish; simp only [if_neg hc]
                rw [f, f]
                exact ⟨fun p r h => (by cases h), fun _ => bad_is _ _⟩
theorem dollarP_turn {rec : Rec} (h : Turns rec) (l : Bs) : match dollarP rec false l with
    | none => dollarP rec true l = none
    | some (.bad _ _) => ∃ a e, dollarP rec true l = some (.bad a e)
    | some (.ok p r) => p.kind ≠ 1 ∧ p.quoted = false ∧ dollarP rec true l = some (.ok (qw true p) r) := by
  by_cases h1 : stands [123] l = true
  · have e : ∀ q, dollarP rec q l = some (braces rec (l.length + 1) q (l.drop 1)) := fun q => by unfold dollarP; rw [if_pos h1]
    rw [e, e]
    obtain ⟨t1, t2⟩ := braces_turn h (l.length + 1) (l.drop 1)
    cases hb : braces rec (l.length + 1) false (l.drop 1) with
    | bad a e => obtain ⟨a', e', h'⟩ := t2 ⟨a, e, hb⟩; exact ⟨a', e', by rw [h']⟩
    | ok p r =>
      obtain ⟨k1, k2, k3⟩ := t1 p r hb
      exact ⟨by rw [k1]; decide, k2, by rw [k3]⟩
  · have e : dollarP rec true l = dollarP rec false l := by unfold dollarP; rw [if_neg h1, if_neg h1]
    rw [e]
    have hw : ∀ x, dollarP rec false l = some x → ∀ p r, x = .ok p r → p.kind ≠ 1 ∧ p.quoted = false ∧ p.word = [] := by
      intro x hx p r hp
      subst hp
      unfold dollarP at hx
      rw [if_neg h1] at hx
      by_cases h2 : stands [40, 40] l = true
      · rw [if_pos h2] at hx
        injection hx with hx
        split at hx
        · cases hx
        · injection hx with hx _; subst hx; exact ⟨by simp [PT.kind], rfl, rfl⟩
      rw [if_neg h2] at hx
      by_cases h3 : stands [40] l = true
      · rw [if_pos h3] at hx
        injection hx with hx
        split at hx
        · cases hx
        · injection hx with hx _; subst hx; exact ⟨by simp [PT.kind], rfl, rfl⟩
      rw [if_neg h3] at hx
      have hz : ∀ b : Bool, (if b = true then some (Rs.ok (PT.mk 2 false (l.take 1) [] []) (l.drop 1)) else if paramStands l = true then some (match param l with
          | .bad a e => .bad a e
          | .ok t r => .ok (.mk 2 false t [] []) r) else none) = some (.ok p r) → p.kind ≠ 1 ∧ p.quoted = false ∧ p.word = [] := by
        intro b hx
        cases b with
        | true => rw [if_pos rfl] at hx; injection hx with hx; injection hx with hx _; subst hx; exact ⟨by simp [PT.kind], rfl, rfl⟩
        | false =>
          rw [if_neg (by decide)] at hx
          by_cases h5 : paramStands l = true
          · rw [if_pos h5] at hx
            injection hx with hx
            split at hx
            · cases hx
            · injection hx with hx _; subst hx; exact ⟨by simp [PT.kind], rfl, rfl⟩
          · rw [if_neg h5] at hx; cases hx
      exact hz _ hx
    cases hd : dollarP rec false l with
    | none => rfl
    | some x =>
      cases x with
      | bad a e => exact ⟨a, e, rfl⟩
      | ok p r =>
        obtain ⟨k1, k2, k3⟩ := hw _ hd p r rfl
        refine ⟨k1, k2, ?_⟩
        obtain ⟨a1, a2, a3, a4, a5⟩ := p
        simp only [PT.word] at k3
        subst k3
        unfold qw
        simp only [if_true, PT.kind, PT.quoted, PT.text, PT.op, PT.word, quoted_nil]

/-- A step that gathers, as the document's own. -/
def Goes (g : Ga) (q : Bool) (m : Rs Ga) (o : Option (List PT × Bs)) : Prop := match o with
  | none => bad? m
  | some (L, r) => ∃ g', m = .ok g' r ∧ Inv g' ∧ vw g' = joinL (vw g) (qd q L)
theorem goes_add {g : Ga} (h : Inv g) (q q' : Bool) (t r : Bs) (hq : q' = true ∨ q' = q) (q0 : Bool) (h0 : q' = true ∨ q0 = false) (h1 : q = true ∨ q0 = q') : Goes g q (.ok (g.add t q') r) (some ([litP q0 t], r)) := by
  obtain ⟨i1, i2⟩ := add_inv h t q'
  refine ⟨_, rfl, i1, ?_⟩
  rw [i2]
  unfold qd
  cases q with
  | true =>
    have : q' = true := by rcases hq with h | h <;> exact h
    rw [if_pos rfl, quoted_one, q1_lit, this]
    rfl
  | false =>
    have : q0 = q' := by
      rcases h1 with h | h
      · cases h
      · exact h
    rw [if_neg (by decide), this]
    rfl
theorem goes_dollar {rec : Rec} (hT : Turns rec) {g : Ga} (h : Inv g) (q : Bool) (l : Bs) : Goes g q (dollar rec g q l) (rDol rec l) := by
  have ht := dollarP_turn hT l
  unfold rDol dollar
  cases q with
  | false =>
    cases hd : dollarP rec false l with
    | none => exact goes_add h false false [36] l (.inr rfl) false (.inr rfl) (.inr rfl)
    | some x =>
      rw [hd] at ht
      cases x with
      | bad a e => exact bad_is _ _
      | ok p r =>
        obtain ⟨k1, k2, k3⟩ := ht
        obtain ⟨i1, i2⟩ := put_inv h (p.withQ false) k1
        refine ⟨_, rfl, i1, ?_⟩
        rw [i2]
        obtain ⟨a1, a2, a3, a4, a5⟩ := p
        simp only [PT.quoted] at k2
        subst k2
        rfl
  | true =>
    cases hd : dollarP rec false l with
    | none =>
      rw [hd] at ht
      simp only at ht
      rw [ht]
      exact goes_add h true true [36] l (.inl rfl) false (.inl rfl) (.inl rfl)
    | some x =>
      rw [hd] at ht
      cases x with
      | bad a e =>
        obtain ⟨a', e', h'⟩ := ht
        rw [h']
        exact bad_is _ _
      | ok p r =>
        obtain ⟨k1, k2, k3⟩ := ht
        rw [k3]
        obtain ⟨i1, i2⟩ := put_inv h ((qw true p).withQ true) k1
        refine ⟨_, rfl, i1, ?_⟩
        rw [i2]
        show _ = joinL (vw g) (quotedL [p])
        rw [quoted_one]
        rfl
theorem join_lit (g : Ga) (q : Bool) (L : List PT) (h : quotedL L = L) : joinL (vw g) (qd q L) = joinL (vw g) L := by
  unfold qd
  cases q with
  | true => rw [if_pos rfl, h]
  | false => rfl
section
variable {rec : Rec} {esc : UInt8 → Bool} {g : Ga} {q : Bool} {c d : UInt8} {t : Bs}
theorem pc_esc : piece rec esc g q (92 :: t) = escape esc g t := rfl
theorem pc_dol : piece rec esc g q (36 :: t) = dollar rec g q t := rfl
theorem pc_bad : piece rec esc g q (96 :: t) = .bad (t.length + 1) 61 := rfl
theorem pc_add (h1 : ¬ c = 92) (h2 : ¬ c = 36) (h3 : ¬ c = 96) : piece rec esc g q (c :: t) = .ok (g.add [c] q) t := by unfold piece; simp only [h1, h2, h3, if_false]
theorem es_ten (h : esc d = true) (h2 : d = 10) : escape esc g (d :: t) = .ok g t := by unfold escape; simp only [h, if_true, if_pos h2]
theorem es_one (h : esc d = true) (h2 : ¬ d = 10) : escape esc g (d :: t) = .ok (g.add [d] true) t := by unfold escape; simp only [h, if_true, if_neg h2]
theorem es_not (h : esc d = false) : escape esc g (d :: t) = .ok (g.add [92] true) (d :: t) := by unfold escape; simp only [h, Bool.false_eq_true, if_false]
theorem n2_bad : rNext2 rec 96 t = none := rfl
theorem n2_dol : rNext2 rec 36 t = rDol rec t := rfl
theorem n2_ten (h : escD d = true) (h2 : d = 10) : rNext2 rec 92 (d :: t) = some ([], t) := by
  have e : escHead (d :: t) = true := h
  unfold rNext2
  rw [if_neg (by decide), if_neg (by decide), if_pos ⟨rfl, e⟩]
  simp only [if_pos h2]
theorem n2_one (h : escD d = true) (h2 : ¬ d = 10) : rNext2 rec 92 (d :: t) = some ([litP true [d]], t) := by
  have e : escHead (d :: t) = true := h
  unfold rNext2
  rw [if_neg (by decide), if_neg (by decide), if_pos ⟨rfl, e⟩]
  simp only [if_neg h2]
theorem n2_not (h : escD d = false) : rNext2 rec 92 (d :: t) = some ([litP false [92]], d :: t) := by
  have e : escHead (d :: t) = false := h
  unfold rNext2
  rw [if_neg (by decide), if_neg (by decide), if_neg (fun x => by rw [e] at x; exact absurd x.2 (by decide))]
theorem n2_add (h1 : ¬ c = 92) (h2 : ¬ c = 36) (h3 : ¬ c = 96) : rNext2 rec c t = some ([litP false [c]], t) := by
  unfold rNext2
  rw [if_neg h3, if_neg h2, if_neg (fun e => h1 e.1)]
end
/-- In double quotes: a step. -/
theorem goes_two {rec : Rec} (hT : Turns rec) {g : Ga} (h : Inv g) (c : UInt8) (t : Bs) (hne : ¬ (c = 92 ∧ t = [])) : Goes g true (piece rec escD g true (c :: t)) (rNext2 rec c t) := by
  by_cases c1 : c = 92
  · subst c1
    cases t with
    | nil => exact absurd ⟨rfl, rfl⟩ hne
    | cons d t' =>
      rw [pc_esc]
      cases hd : escD d with
      | true =>
        by_cases h10 : d = 10
        · rw [n2_ten hd h10, es_ten hd h10]
          exact ⟨g, rfl, h, by unfold qd; rw [if_pos rfl, quoted_nil]; rfl⟩
        · rw [n2_one hd h10, es_one hd h10]
          exact goes_add h true true [d] t' (.inl rfl) true (.inl rfl) (.inl rfl)
      | false =>
        rw [n2_not hd, es_not hd]
        exact goes_add h true true [92] (d :: t') (.inl rfl) false (.inl rfl) (.inl rfl)
  · by_cases c2 : c = 36
    · subst c2
      rw [n2_dol, pc_dol]
      exact goes_dollar hT h true t
    · by_cases c3 : c = 96
      · subst c3
        exact bad_is _ _
      · rw [n2_add c1 c2 c3, pc_add c1 c2 c3]
        exact goes_add h true true [c] t (.inl rfl) false (.inl rfl) (.inl rfl)
/-- In double quotes: all of it. -/
theorem goes_loop2 {rec : Rec} (hT : Turns rec) (fl : Nat) (V : List PT) : ∀ (n : Nat) (g : Ga) (acc : List PT) (l : Bs), Inv g → vw g = joinL V (quotedL acc) → match r2 rec n acc l with
    | none => bad? (dloop rec fl n g l)
    | some (_, []) => bad? (dloop rec fl n g l)
    | some (L, _ :: r) => ∃ g', dloop rec fl n g l = .ok g' r ∧ Inv g' ∧ vw g' = joinL V (quotedL L) := by
  intro n
  induction n with
  | zero => intro g acc l hI hv; exact bad_is _ _
  | succ n ih =>
    intro g acc l hI hv
    cases l with
    | nil => exact bad_is _ _
    | cons c t =>
      rw [r2, dloop]
      by_cases c0 : c = 34
      · simp only [if_pos c0]
        exact ⟨g, rfl, hI, hv⟩
      · simp only [if_neg c0]
        by_cases hsp : c = 92 ∧ t = []
        · obtain ⟨rfl, rfl⟩ := hsp
          have e1 : rNext2 rec 92 [] = some ([litP false [92]], []) := rfl
          have e2 : piece rec escD g true [92] = .bad 1 60 := rfl
          rw [e1, e2]
          have e3 : ∀ a, r2 rec n a [] = none ∨ r2 rec n a [] = some (a, []) := fun a => by
            cases n with
            | zero => exact .inl rfl
            | succ n => exact .inr rfl
          show match r2 rec n (joinL acc [litP false [92]]) [] with
            | none => bad? (Rs.bad 1 60)
            | some (_, []) => bad? (Rs.bad 1 60)
            | some (L, _ :: r) => ∃ g', (Rs.bad 1 60 : Rs Ga) = .ok g' r ∧ Inv g' ∧ vw g' = joinL V (quotedL L)
          rcases e3 (joinL acc [litP false [92]]) with h | h <;> rw [h] <;> exact bad_is _ _
        · have hg := goes_two hT hI c t hsp
          cases hn : rNext2 rec c t with
          | none =>
            rw [hn] at hg
            obtain ⟨a, e, h⟩ := hg
            rw [h]
            exact bad_is _ _
          | some x =>
            obtain ⟨L, r⟩ := x
            rw [hn] at hg
            obtain ⟨g', h1, h2, h3⟩ := hg
            rw [h1]
            have hv' : vw g' = joinL V (quotedL (joinL acc L)) := by
              rw [h3, hv, quoted_join, join_assoc]; rfl
            exact ih g' (joinL acc L) r h2 hv'
theorem quoted_empty : quotedL [litP true []] = [litP true []] := by rw [quoted_one, q1_lit]
/-- A step of a word, or of what braces hold. -/
theorem goes_step {rec : Rec} (hT : Turns rec) {g : Ga} (h : Inv g) (q : Bool) (c : UInt8) (t : Bs) : Goes g q (step rec g q (c :: t)) (rNext rec c t) := by
  by_cases c39 : c = 39
  · subst c39
    have e1 : step rec g q (39 :: t) = single g t := rfl
    have e2 : rNext rec 39 t = if Go.Lib.indexByte t 39 < 0 then none else some ([litP true (t.take (Go.Lib.indexByte t 39).toNat)], t.drop ((Go.Lib.indexByte t 39).toNat + 1)) := rfl
    rw [e1, e2]
    unfold single
    by_cases hx : Go.Lib.indexByte t 39 < 0
    · rw [if_pos hx, if_pos hx]; exact bad_is _ _
    · rw [if_neg hx, if_neg hx]
      exact goes_add h q true _ _ (.inl rfl) true (.inl rfl) (.inr rfl)
  by_cases c34 : c = 34
  · subst c34
    have e1 : step rec g q (34 :: t) = dloop rec (t.length + 1) (t.length + 1) (if stands [34] t then g.add [] true else g) t := rfl
    have e2 : rNext rec 34 t = match r2 rec (t.length + 1) [] t with
      | none => none
      | some (_, []) => none
      | some (L, _ :: r) => if stands [34] t then some ([litP true []], r) else some (quotedL L, r) := rfl
    rw [e1, e2]
    cases hst : stands [34] t with
    | true =>
      rw [if_pos rfl]
      obtain ⟨t', rfl⟩ : ∃ t', t = 34 :: t' := by
        cases t with
        | nil => cases hst
        | cons c t => simp [stands] at hst; exact ⟨t, by rw [hst]⟩
      have e3 : r2 rec ((34 :: t').length + 1) [] (34 :: t') = some ([], 34 :: t') := rfl
      have e4 : dloop rec ((34 :: t').length + 1) ((34 :: t').length + 1) (g.add [] true) (34 :: t') = .ok (g.add [] true) t' := rfl
      rw [e3, e4]
      obtain ⟨i1, i2⟩ := add_inv h [] true
      refine ⟨_, rfl, i1, ?_⟩
      rw [i2]
      show addP (vw g) (litP true []) = joinL (vw g) (qd q [litP true []])
      rw [join_lit g q _ quoted_empty]
      rfl
    | false =>
      rw [if_neg (by decide)]
      have hl := goes_loop2 hT (t.length + 1) (vw g) (t.length + 1) g [] t h (by rw [quoted_nil]; rfl)
      cases hr : r2 rec (t.length + 1) [] t with
      | none => rw [hr] at hl; exact hl
      | some x =>
        obtain ⟨L, r⟩ := x
        rw [hr] at hl
        cases r with
        | nil => exact hl
        | cons d r =>
          obtain ⟨g', h1, h2, h3⟩ := hl
          refine ⟨g', h1, h2, ?_⟩
          rw [h3]
          exact (join_lit g q _ (quoted_twice L)).symm
  have e1 : step rec g q (c :: t) = piece rec (fun _ => true) g q (c :: t) := by unfold step; simp only [if_neg c39, if_neg c34]
  rw [e1]
  by_cases c92 : c = 92
  · subst c92
    rw [pc_esc]
    cases t with
    | nil => exact bad_is _ _
    | cons d t' =>
      have e2 : rNext rec 92 (d :: t') = if d = 10 then some ([], t') else some ([litP true [d]], t') := rfl
      rw [e2]
      by_cases h10 : d = 10
      · rw [if_pos h10, es_ten rfl h10]
        exact ⟨g, rfl, h, by rw [join_lit g q _ quoted_nil]; rfl⟩
      · rw [if_neg h10, es_one rfl h10]
        exact goes_add h q true [d] t' (.inl rfl) true (.inl rfl) (.inr rfl)
  by_cases c36 : c = 36
  · subst c36
    rw [pc_dol]
    exact goes_dollar hT h q t
  by_cases c96 : c = 96
  · subst c96
    exact bad_is _ _
  rw [pc_add c92 c36 c96]
  have e2 : rNext rec c t = some ([litP false [c]], t) := by
    unfold rNext
    rw [if_neg c96, if_neg c36, if_neg c92, if_neg c39, if_neg c34]
  rw [e2]
  cases q with
  | true => exact goes_add h true true [c] t (.inl rfl) false (.inl rfl) (.inl rfl)
  | false => exact goes_add h false false [c] t (.inr rfl) false (.inr rfl) (.inr rfl)
/-- The loop. -/
theorem goes_ploop {rec : Rec} (hT : Turns rec) (ends : UInt8 → Bool) (q : Bool) (V : List PT) : ∀ (n : Nat) (g : Ga) (acc : List PT) (l : Bs), Inv g → vw g = joinL V (qd q acc) → match rLoop rec ends n acc l with
    | none => bad? (ploop rec ends q n g l)
    | some (L, r) => ∃ g', ploop rec ends q n g l = .ok g' r ∧ Inv g' ∧ vw g' = joinL V (qd q L) := by
  intro n
  induction n with
  | zero => intro g acc l hI hv; exact ⟨g, rfl, hI, hv⟩
  | succ n ih =>
    intro g acc l hI hv
    cases l with
    | nil => exact ⟨g, rfl, hI, hv⟩
    | cons c t =>
      rw [rLoop, ploop]
      cases he : ends c with
      | true =>
        simp only [if_true]
        exact ⟨g, rfl, hI, hv⟩
      | false =>
        simp only [Bool.false_eq_true, if_false]
        have hg := goes_step hT hI q c t
        cases hn : rNext rec c t with
        | none =>
          rw [hn] at hg
          obtain ⟨a, e, h⟩ := hg
          rw [h]
          exact bad_is _ _
        | some x =>
          obtain ⟨L, r⟩ := x
          rw [hn] at hg
          obtain ⟨g', h1, h2, h3⟩ := hg
          rw [h1]
          have hv' : vw g' = joinL V (qd q (joinL acc L)) := by
            rw [h3, hv]
            unfold qd
            cases q with
            | true => rw [if_pos rfl, if_pos rfl, if_pos rfl, quoted_join, join_assoc]
            | false => rw [if_neg (by decide), if_neg (by decide), if_neg (by decide), join_assoc]
          exact ih g' (joinL acc L) r h2 hv'
/-- What the document reads. -/
def rParts (rec : Rec) (ends : UInt8 → Bool) (l : Bs) : Option (List PT × Bs) := rLoop rec ends (l.length + 1) [] l
theorem parts_goes {rec : Rec} (hT : Turns rec) (ends : UInt8 → Bool) (q : Bool) (l : Bs) : match rParts rec ends l with
    | none => bad? (partsR rec ends q l)
    | some (L, r) => partsR rec ends q l = .ok (joinL [] (qd q L)) r := by
  have h := goes_ploop hT ends q [] (l.length + 1) .empty [] l inv_empty (by cases q <;> first | rfl | (unfold qd; rw [if_pos rfl, quoted_nil]; rfl))
  unfold rParts partsR
  cases hr : rLoop rec ends (l.length + 1) [] l with
  | none =>
    rw [hr] at h
    obtain ⟨a, e, h⟩ := h
    rw [h]
    exact bad_is _ _
  | some x =>
    obtain ⟨L, r⟩ := x
    rw [hr] at h
    obtain ⟨g', h1, h2, h3⟩ := h
    rw [h1]
    show Rs.ok (vw g') r = _
    rw [h3]

theorem loop_joined (rec : Rec) (ends : UInt8 → Bool) : ∀ (n : Nat) (acc : List PT) (l : Bs) (L : List PT) (r : Bs), joinL [] acc = acc → rLoop rec ends n acc l = some (L, r) → joinL [] L = L := by
  intro n
  induction n with
  | zero => intro acc l L r ha h; injection h with h; injection h with h1 _; rw [← h1]; exact ha
  | succ n ih =>
    intro acc l L r ha h
    cases l with
    | nil => injection h with h; injection h with h1 _; rw [← h1]; exact ha
    | cons c t =>
      rw [rLoop] at h
      cases he : ends c with
      | true => simp only [he, if_true] at h; injection h with h; injection h with h1 _; rw [← h1]; exact ha
      | false =>
        simp only [he, Bool.false_eq_true, if_false] at h
        cases hn : rNext rec c t with
        | none => rw [hn] at h; cases h
        | some x =>
          obtain ⟨X, t'⟩ := x
          rw [hn] at h
          exact ih (joinL acc X) t' L r (by rw [join_assoc, ha]) h
theorem parts_same {rec : Rec} (hT : Turns rec) (ends : UInt8 → Bool) (l : Bs) : match rParts rec ends l with
    | none => ∀ q, bad? (partsR rec ends q l)
    | some (L, r) => ∀ q, partsR rec ends q l = .ok (qd q L) r := by
  cases hr : rParts rec ends l with
  | none => intro q; have h := parts_goes hT ends q l; rw [hr] at h; exact h
  | some x =>
    obtain ⟨L, r⟩ := x
    intro q
    have h := parts_goes hT ends q l
    rw [hr] at h
    have hj := loop_joined rec ends _ [] l L r rfl hr
    have e : joinL [] (qd q L) = qd q L := by
      unfold qd
      cases q with
      | true => rw [if_pos rfl]; unfold quotedL; rw [join_assoc]; rfl
      | false => rw [if_neg (by decide)]; exact hj
    have h' : partsR rec ends q l = .ok (joinL [] (qd q L)) r := h
    rw [e] at h'
    exact h'
theorem turns_recN : ∀ n, Turns (recN n)
  | 0 => fun parts h => by cases h
  | n + 1 => fun parts h l => by
    cases h
    have hp := parts_same (turns_recN n) (· == 125) l
    cases hr : rParts (recN n) (· == 125) l with
    | none =>
      rw [hr] at hp
      refine ⟨fun L r h => ?_, fun _ => hp true⟩
      obtain ⟨a, e, h2⟩ := hp false
      have h : partsR (recN n) (· == 125) false l = .ok L r := h
      rw [h2] at h; cases h
    | some x =>
      obtain ⟨L, r⟩ := x
      rw [hr] at hp
      refine ⟨fun L' r' h => ?_, fun h => ?_⟩
      · have h : partsR (recN n) (· == 125) false l = .ok L' r' := h
        rw [hp false] at h
        injection h with h1 h2
        show partsR (recN n) (· == 125) true l = _
        rw [hp true, ← h1, ← h2]
        rfl
      · have h : bad? (partsR (recN n) (· == 125) false l) := h
        rw [hp false] at h
        exact (bad_ok h).elim
/-- What the document scans. -/
def rScan (l : Bs) : Option (List PT × Bs) := rParts (recN 16) meta_ l
theorem scan_same (l : Bs) : match rScan l with
    | none => bad? (scan l)
    | some (L, r) => scan l = .ok L r := by
  have h := parts_same (turns_recN 16) meta_ l
  unfold rScan
  cases hr : rParts (recN 16) meta_ l with
  | none => rw [hr] at h; exact h false
  | some x =>
    obtain ⟨L, r⟩ := x
    rw [hr] at h
    exact h false
/-- What braces hold, as the document reads it. -/
theorem rec_same (n : Nat) (l : Bs) : match rParts (recN n) (· == 125) l with
    | none => bad? (partsR (recN n) (· == 125) false l)
    | some (L, r) => partsR (recN n) (· == 125) false l = .ok L r := by
  have h := parts_same (turns_recN n) (· == 125) l
  cases hr : rParts (recN n) (· == 125) l with
  | none => rw [hr] at h; exact h false
  | some x =>
    obtain ⟨L, r⟩ := x
    rw [hr] at h
    exact h false

end WdM

/- DERIVED. Plain mathematics of layer 7: how words are written, by the program and by the document. -/
namespace WdM
open PathM
set_option linter.unusedVariables false

/-- A text in single quotes. -/
def quoteT : Bs → Bs
  | [] => []
  | c :: t => if c = 39 then [39, 92, 39, 39] ++ quoteT t else c :: quoteT t
def literalT (q : Bool) (t : Bs) : Bs := if q then [39] ++ quoteT t ++ [39] else t
def markT (q : Bool) (k : Int) : Bs := if q && decide (k ≠ 1) then [34] else []
def lenT : Bs := [108, 101, 110]
/-- The document's text. -/
def rText : List PT → Bs
  | [] => []
  | .mk k q t o w :: r =>
    markT q k ++ (if k = 1 then literalT q t else if k = 2 then (if o = lenT then [36, 123, 35] ++ t ++ [125] else [36, 123] ++ t ++ o ++ rText w ++ [125]) else if k = 3 then [36, 40] ++ t ++ [41] else [36, 40, 40] ++ t ++ [41, 41]) ++ markT q k ++ rText r
/-- The program's; b: how much is written already; none: it leaves off. -/
def pText : Nat → List PT → Option Bs
  | _, [] => some []
  | b, .mk k q t o w :: r =>
    if 8192 < b + t.length + o.length then none
    else match (if k = 1 then some (literalT q t) else if k = 2 then (if o = lenT then some ([36, 123, 35] ++ t ++ [125]) else (pText (b + (markT q k).length + (2 + t.length + o.length)) w).map fun z => [36, 123] ++ t ++ o ++ z ++ [125])
      else if k = 3 then some ([36, 40] ++ t ++ [41]) else if k = 4 then some ([36, 40, 40] ++ t ++ [41, 41]) else none) with
      | none => none
      | some x => (pText (b + (markT q k ++ x ++ markT q k).length) r).map fun z => markT q k ++ x ++ markT q k ++ z
theorem pText_text : ∀ (w : List PT) (b : Nat) (s : Bs), pText b w = some s → s = rText w
  | [], b, s, h => by rw [pText] at h; injection h with h; rw [rText]; exact h.symm
  | .mk k q t o w :: r, b, s, h => by
    rw [pText] at h
    rw [rText]
    by_cases h0 : 8192 < b + t.length + o.length
    · rw [if_pos h0] at h; cases h
    · rw [if_neg h0] at h
      have hr : ∀ x, (pText (b + (markT q k ++ x ++ markT q k).length) r).map (fun z => markT q k ++ x ++ markT q k ++ z) = some s → s = markT q k ++ x ++ markT q k ++ rText r := by
        intro x hx
        cases hp : pText (b + (markT q k ++ x ++ markT q k).length) r with
        | none => rw [hp] at hx; cases hx
        | some z =>
          rw [hp] at hx
          injection hx with hx
          rw [← pText_text r _ z hp]
          exact hx.symm
      by_cases k1 : k = 1
      · rw [if_pos k1] at h ⊢
        exact hr _ h
      rw [if_neg k1] at h ⊢
      by_cases k2 : k = 2
      · rw [if_pos k2] at h ⊢
        by_cases ho : o = lenT
        · rw [if_pos ho] at h ⊢
          exact hr _ h
        · rw [if_neg ho] at h ⊢
          cases hp : pText (b + (markT q k).length + (2 + t.length + o.length)) w with
          | none => rw [hp] at h; cases h
          | some z =>
            rw [hp] at h
            rw [← pText_text w _ z hp]
            exact hr _ h
      rw [if_neg k2] at h ⊢
      by_cases k3 : k = 3
      · rw [if_pos k3] at h ⊢
        exact hr _ h
      rw [if_neg k3] at h ⊢
      by_cases k4 : k = 4
      · rw [if_pos k4] at h
        exact hr _ h
      · rw [if_neg k4] at h
        cases h
/-- What is scanned is of these forms. -/
inductive WF : List PT → Prop
  | nil : WF []
  | lit (q : Bool) (t : Bs) (r : List PT) : WF r → WF (.mk 1 q t [] [] :: r)
  | par (q : Bool) (t o : Bs) (w r : List PT) : WF w → WF r → WF (.mk 2 q t o w :: r)
  | cmd (q : Bool) (t : Bs) (w r : List PT) : WF r → WF (.mk 3 q t [] w :: r)
  | ari (q : Bool) (t : Bs) (w r : List PT) : WF r → WF (.mk 4 q t [] w :: r)
theorem quoteT_len (t : Bs) : t.length ≤ (quoteT t).length := by
  induction t with
  | nil => exact Nat.le_refl _
  | cons c t ih =>
    rw [quoteT]
    split
    · simp; omega
    · simp; exact ih
theorem literal_len (q : Bool) (t : Bs) : t.length ≤ (literalT q t).length := by
  unfold literalT
  have := quoteT_len t
  cases q <;> simp <;> omega
theorem WF.text {w : List PT} (h : WF w) : ∀ b, b + (rText w).length ≤ 8192 → pText b w = some (rText w) := by
  induction h with
  | nil => intro b _; rw [pText, rText]
  | lit q t r hr ih =>
    intro b hb
    rw [rText] at hb ⊢
    rw [pText]
    simp only [if_true, List.length_append] at hb ⊢
    have hl := literal_len q t
    rw [if_neg (by simp; omega), ih _ (by omega)]
    rfl
  | par q t o w r hw hr ih1 ih2 =>
    intro b hb
    rw [rText] at hb ⊢
    rw [pText]
    have k1 : ¬ (2 : Int) = 1 := by decide
    simp only [if_neg k1, if_true, List.length_append] at hb ⊢
    by_cases ho : o = lenT
    · have hol : o.length = 3 := by rw [ho]; rfl
      simp only [if_pos ho] at hb ⊢
      simp only [List.length_append, List.length_cons, List.length_nil] at hb ⊢
      rw [if_neg (by omega), ih2 _ (by omega)]
      rfl
    · simp only [if_neg ho] at hb ⊢
      simp only [List.length_append, List.length_cons, List.length_nil] at hb ⊢
      rw [if_neg (by omega), ih1 _ (by omega)]
      simp only [Option.map_some, List.length_append, List.length_cons, List.length_nil]
      rw [ih2 _ (by omega)]
      rfl
  | cmd q t w r hr ih =>
    intro b hb
    rw [rText] at hb ⊢
    rw [pText]
    have k1 : ¬ (3 : Int) = 1 := by decide
    have k2 : ¬ (3 : Int) = 2 := by decide
    simp only [if_neg k1, if_neg k2, if_true, List.length_append, List.length_cons, List.length_nil] at hb ⊢
    rw [if_neg (by omega), ih _ (by omega)]
    rfl
  | ari q t w r hr ih =>
    intro b hb
    rw [rText] at hb ⊢
    rw [pText]
    have k1 : ¬ (4 : Int) = 1 := by decide
    have k2 : ¬ (4 : Int) = 2 := by decide
    have k3 : ¬ (4 : Int) = 3 := by decide
    simp only [if_neg k1, if_neg k2, if_neg k3, if_true, List.length_append, List.length_cons, List.length_nil] at hb ⊢
    rw [if_neg (by omega), ih _ (by omega)]
    rfl
theorem sameL_eq : ∀ (l m : List PT), sameL l m = true → l = m
  | [], [], _ => rfl
  | [], q :: m, h => by simp [sameL] at h
  | .mk _ _ _ _ _ :: l, [], h => by simp [sameL] at h
  | .mk k q t o w :: l, .mk k' q' t' o' w' :: m, h => by
    rw [sameL] at h
    simp only [Bool.and_eq_true, beq_iff_eq] at h
    obtain ⟨⟨⟨⟨⟨h1, h2⟩, h3⟩, h4⟩, h5⟩, h6⟩ := h
    rw [h1, h2, h3, h4, sameL_eq w w' h5, sameL_eq l m h6]

end WdM

/- DERIVED. Plain mathematics of layer 7: of which forms what is scanned is; what is printed. -/
namespace WdM
open PathM
set_option linter.unusedVariables false

theorem WF.append {a b : List PT} (ha : WF a) (hb : WF b) : WF (a ++ b) := by
  induction ha with
  | nil => exact hb
  | lit q t r hr ih => exact .lit q t _ ih
  | par q t o w r hw hr _ ih => exact .par q t o w _ hw ih
  | cmd q t w r hr ih => exact .cmd q t w _ ih
  | ari q t w r hr ih => exact .ari q t w _ ih
theorem WF.withQ {p : PT} (h : WF [p]) (q : Bool) : WF [p.withQ q] := by
  cases h with
  | lit q' t r hr => exact .lit q t _ .nil
  | par q' t o w r hw hr => exact .par q t o w _ hw .nil
  | cmd q' t w r hr => exact .cmd q t w _ .nil
  | ari q' t w r hr => exact .ari q t w _ .nil
def WG (m : Rs Ga) : Prop := ∀ g r, m = .ok g r → WF g.ps
def W1 (m : Rs PT) : Prop := ∀ p r, m = .ok p r → WF [p]
def WL (m : Rs (List PT)) : Prop := ∀ l r, m = .ok l r → WF l
theorem wg_bad (a : Nat) (e : Int) : WG (.bad a e) := fun g r h => by cases h
theorem wg_ok {g : Ga} (r : Bs) (h : WF g.ps) : WG (.ok g r) := fun g' r' e => by injection e with e _; rw [← e]; exact h
theorem w1_bad (a : Nat) (e : Int) : W1 (.bad a e) := fun g r h => by cases h
theorem w1_ok {p : PT} (r : Bs) (h : WF [p]) : W1 (.ok p r) := fun g' r' e => by injection e with e _; rw [← e]; exact h
theorem wf_close {g : Ga} (h : WF g.ps) : WF g.close.ps := by
  unfold Ga.close
  cases g.op with
  | true => simp only [if_true]; exact h.append (.lit _ _ _ .nil)
  | false => simp only [Bool.false_eq_true, if_false]; exact h
theorem wf_add {g : Ga} (h : WF g.ps) (t : Bs) (q : Bool) : WF (g.add t q).ps := by
  unfold Ga.add
  by_cases hq : g.q = q
  · simp only [if_pos hq]; exact h
  · simp only [if_neg hq]; exact wf_close h
theorem wf_put {g : Ga} (h : WF g.ps) {p : PT} (hp : WF [p]) : WF (g.put p).ps := (wf_close h).append hp
def WR (rec : Rec) : Prop := ∀ parts, rec = some parts → ∀ q l, WL (parts q l)
theorem wf_finish (fl : Nat) {p : PT} (h : WF [p]) (l : Bs) : W1 (finish fl p l) := by
  unfold finish
  split
  · exact w1_bad _ _
  · split
    · exact w1_ok _ h
    · exact w1_bad _ _
theorem wf_braces {rec : Rec} (hr : WR rec) (fl : Nat) (q : Bool) (l : Bs) : W1 (braces rec fl q l) := by
  unfold braces
  split
  · exact w1_bad _ _
  · rename_i parts
    split
    · split
      · exact w1_bad _ _
      · exact wf_finish _ (.par _ _ _ _ _ .nil .nil) _
    · split
      · exact w1_bad _ _
      · split
        · exact wf_finish _ (.par _ _ _ _ _ .nil .nil) _
        · split
          · exact w1_bad _ _
          · rename_i w r2 h
            exact wf_finish _ (.par _ _ _ _ _ (hr parts rfl _ _ _ _ h) .nil) _
theorem wf_dollarP {rec : Rec} (hr : WR rec) (q : Bool) (l : Bs) : ∀ x, dollarP rec q l = some x → W1 x := by
  intro x hx
  unfold dollarP at hx
  by_cases h1 : stands [123] l = true
  · rw [if_pos h1] at hx; cases hx; exact wf_braces hr _ _ _
  rw [if_neg h1] at hx
  by_cases h2 : stands [40, 40] l = true
  · rw [if_pos h2] at hx
    cases hx
    split
    · exact w1_bad _ _
    · exact w1_ok _ (.ari _ _ _ _ .nil)
  rw [if_neg h2] at hx
  by_cases h3 : stands [40] l = true
  · rw [if_pos h3] at hx
    cases hx
    split
    · exact w1_bad _ _
    · exact w1_ok _ (.cmd _ _ _ _ .nil)
  rw [if_neg h3] at hx
  have hz : ∀ b : Bool, (if b = true then some (Rs.ok (PT.mk 2 false (l.take 1) [] []) (l.drop 1)) else if paramStands l = true then some (match param l with
      | .bad a e => .bad a e
      | .ok t r => .ok (.mk 2 false t [] []) r) else none) = some x → W1 x := by
    intro b hx
    cases b with
    | true => rw [if_pos rfl] at hx; cases hx; exact w1_ok _ (.par _ _ _ _ _ .nil .nil)
    | false =>
      rw [if_neg (by decide)] at hx
      by_cases h5 : paramStands l = true
      · rw [if_pos h5] at hx
        cases hx
        split
        · exact w1_bad _ _
        · exact w1_ok _ (.par _ _ _ _ _ .nil .nil)
      · rw [if_neg h5] at hx
        cases hx
  exact hz _ hx
theorem wf_dollar {rec : Rec} (hr : WR rec) {g : Ga} (h : WF g.ps) (q : Bool) (l : Bs) : WG (dollar rec g q l) := by
  unfold dollar
  split
  · exact wg_ok _ (wf_add h _ _)
  · exact wg_bad _ _
  · rename_i p r hd
    exact wg_ok _ (wf_put h ((wf_dollarP hr q l _ hd p r rfl).withQ q))
theorem wf_escape (esc : UInt8 → Bool) {g : Ga} (h : WF g.ps) (l : Bs) : WG (escape esc g l) := by
  unfold escape
  split
  · exact wg_bad _ _
  · split
    · split
      · exact wg_ok _ h
      · exact wg_ok _ (wf_add h _ _)
    · exact wg_ok _ (wf_add h _ _)
theorem wf_piece {rec : Rec} (hr : WR rec) (esc : UInt8 → Bool) {g : Ga} (h : WF g.ps) (q : Bool) (l : Bs) : WG (piece rec esc g q l) := by
  unfold piece
  split
  · exact wg_bad _ _
  · split
    · exact wf_escape _ h _
    · split
      · exact wf_dollar hr h _ _
      · split
        · exact wg_bad _ _
        · exact wg_ok _ (wf_add h _ _)
theorem wf_dloop {rec : Rec} (hr : WR rec) (fl : Nat) : ∀ (n : Nat) (g : Ga) (l : Bs), WF g.ps → WG (dloop rec fl n g l)
  | 0, g, l, h => wg_bad _ _
  | n + 1, g, [], h => wg_bad _ _
  | n + 1, g, c :: t, h => by
    rw [dloop]
    split
    · exact wg_ok _ h
    · split
      · exact wg_bad _ _
      · rename_i g' l' hp
        exact wf_dloop hr fl n g' l' (wf_piece hr _ h _ _ _ _ hp)
theorem wf_step {rec : Rec} (hr : WR rec) {g : Ga} (h : WF g.ps) (q : Bool) (l : Bs) : WG (step rec g q l) := by
  unfold step
  split
  · exact wg_bad _ _
  · split
    · unfold single
      split
      · exact wg_bad _ _
      · exact wg_ok _ (wf_add h _ _)
    · split
      · unfold double
        refine wf_dloop hr _ _ _ _ ?_
        split
        · exact wf_add h _ _
        · exact h
      · exact wf_piece hr _ h _ _
theorem wf_ploop {rec : Rec} (hr : WR rec) (ends : UInt8 → Bool) (q : Bool) : ∀ (n : Nat) (g : Ga) (l : Bs), WF g.ps → WG (ploop rec ends q n g l)
  | 0, g, l, h => wg_ok _ h
  | n + 1, g, [], h => wg_ok _ h
  | n + 1, g, c :: t, h => by
    rw [ploop]
    split
    · exact wg_ok _ h
    · split
      · exact wg_bad _ _
      · rename_i g' l' hp
        exact wf_ploop hr ends q n g' l' (wf_step hr h _ _ _ _ hp)
theorem wf_parts {rec : Rec} (hr : WR rec) (ends : UInt8 → Bool) (q : Bool) (l : Bs) : WL (partsR rec ends q l) := by
  intro L r h
  unfold partsR at h
  cases hp : ploop rec ends q (l.length + 1) .empty l with
  | bad a e => rw [hp] at h; cases h
  | ok g r' =>
    rw [hp] at h
    injection h with h1 _
    rw [← h1]
    exact wf_close (wf_ploop hr ends q _ _ _ .nil _ _ hp)
theorem wf_recN : ∀ n, WR (recN n)
  | 0 => fun parts h => by cases h
  | n + 1 => fun parts h q l => by cases h; exact wf_parts (wf_recN n) _ _ _
theorem scan_form {l : Bs} {L : List PT} {r : Bs} (h : scan l = .ok L r) : WF L := wf_parts (wf_recN 16) _ _ _ L r h
/-- Is a text what a word is written as? -/
def Writes (s : Bs) (w : List PT) : Prop := s.length ≤ 8192 ∧ scan s = .ok w []
/-- Where the program leaves off there is no such text. -/
theorem leaves_off {w : List PT} (h : pText 0 w = none) : ¬ Writes (rText w) w := fun ⟨h1, h2⟩ => by
  rw [(scan_form h2).text 0 (by omega)] at h
  cases h

end WdM
