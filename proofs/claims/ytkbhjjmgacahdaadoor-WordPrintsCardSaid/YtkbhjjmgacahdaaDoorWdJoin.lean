/- DERIVED. Plain mathematics of layer 7: parts side by side, parts all quoted, what is gathered as parts. -/
import Derived.Test.YtkbhjjmgacahdaaDoorWdBad
namespace WdM
open PathM
set_option linter.unusedVariables false

/-- A part behind others: texts alike side by side are one. -/
def merges (q p : PT) : Prop := p.kind = 1 ∧ q.kind = 1 ∧ q.quoted = p.quoted
instance (q p : PT) : Decidable (merges q p) := by unfold merges; exact inferInstance
def glue (q p : PT) : PT := .mk q.kind q.quoted (q.text ++ p.text) q.op q.word
def addP (a : List PT) (p : PT) : List PT := match a.getLast? with
  | none => [p]
  | some q => if merges q p then a.dropLast ++ [glue q p] else a ++ [p]
def joinL (a b : List PT) : List PT := b.foldl addP a
theorem addP_nil (p : PT) : addP [] p = [p] := rfl
theorem addP_yes (a : List PT) (q p : PT) (h : merges q p) : addP (a ++ [q]) p = a ++ [glue q p] := by
  unfold addP; simp only [List.getLast?_append, List.getLast?_singleton, Option.some_or, if_pos h, List.dropLast_concat]
theorem addP_no (a : List PT) (q p : PT) (h : ¬ merges q p) : addP (a ++ [q]) p = a ++ [q] ++ [p] := by
  unfold addP; simp only [List.getLast?_append, List.getLast?_singleton, Option.some_or, if_neg h]
theorem snoc_cases (a : List PT) : a = [] ∨ ∃ b q, a = b ++ [q] := by
  rcases List.eq_nil_or_concat a with h | ⟨b, q, h⟩
  · exact .inl h
  · exact .inr ⟨b, q, by rw [h, List.concat_eq_append]⟩
theorem joinL_nil (a : List PT) : joinL a [] = a := rfl
theorem joinL_one (a : List PT) (p : PT) : joinL a [p] = addP a p := rfl
theorem joinL_app (a b c : List PT) : joinL a (b ++ c) = joinL (joinL a b) c := List.foldl_append
theorem joinL_snoc (a b : List PT) (p : PT) : joinL a (b ++ [p]) = addP (joinL a b) p := joinL_app a b [p]
theorem add_glue (X : List PT) (q p : PT) (h : merges q p) : addP X (glue q p) = addP (addP X q) p := by
  rcases snoc_cases X with rfl | ⟨b, r, rfl⟩
  · rw [addP_nil, addP_nil]
    have := addP_yes [] q p h
    rw [List.nil_append, List.nil_append] at this
    exact this.symm
  · by_cases hr : merges r q
    · have h1 : merges r (glue q p) := ⟨h.2.1, hr.2.1, hr.2.2⟩
      have h2 : merges (glue r q) p := ⟨h.1, hr.2.1, by show r.quoted = p.quoted; rw [hr.2.2, h.2.2]⟩
      rw [addP_yes _ _ _ h1, addP_yes _ _ _ hr, addP_yes _ _ _ h2]
      show b ++ [PT.mk r.kind r.quoted (r.text ++ (q.text ++ p.text)) r.op r.word] = b ++ [PT.mk r.kind r.quoted ((r.text ++ q.text) ++ p.text) r.op r.word]
      rw [List.append_assoc]
    · have h1 : ¬ merges r (glue q p) := fun e => hr ⟨h.2.1, e.2.1, e.2.2⟩
      rw [addP_no _ _ _ h1, addP_no _ _ _ hr, addP_yes _ _ _ h]
theorem join_add (a b : List PT) (p : PT) : joinL a (addP b p) = addP (joinL a b) p := by
  rcases snoc_cases b with rfl | ⟨c, q, rfl⟩
  · rfl
  · by_cases h : merges q p
    · rw [addP_yes _ _ _ h, joinL_snoc, joinL_snoc, add_glue _ _ _ h]
    · rw [addP_no _ _ _ h, joinL_snoc]
theorem join_assoc (a b c : List PT) : joinL a (joinL b c) = joinL (joinL a b) c := by
  induction c generalizing b with
  | nil => rfl
  | cons p c ih =>
    show joinL a (joinL (addP b p) c) = joinL (addP (joinL a b) p) c
    rw [ih, join_add]

/-- Parts, each quoted. -/
def qmap : List PT → List PT
  | [] => []
  | .mk k _ t o w :: r => .mk k true t o (joinL [] (qmap w)) :: qmap r
def quotedL (l : List PT) : List PT := joinL [] (qmap l)
def q1 (p : PT) : PT := .mk p.kind true p.text p.op (quotedL p.word)
theorem qmap_nil : qmap [] = [] := by simp [qmap]
theorem qmap_cons (p : PT) (r : List PT) : qmap (p :: r) = q1 p :: qmap r := by
  obtain ⟨k, q, t, o, w⟩ := p
  rw [qmap]; rfl
theorem qmap_app (a b : List PT) : qmap (a ++ b) = qmap a ++ qmap b := by
  induction a with
  | nil => rw [qmap_nil]; rfl
  | cons p a ih => rw [List.cons_append, qmap_cons, qmap_cons, ih]; rfl
theorem quoted_nil : quotedL [] = [] := by unfold quotedL; rw [qmap_nil]; rfl
theorem quoted_one (p : PT) : quotedL [p] = [q1 p] := by unfold quotedL; rw [qmap_cons, qmap_nil]; rfl
theorem quoted_snoc (a : List PT) (p : PT) : quotedL (a ++ [p]) = addP (quotedL a) (q1 p) := by
  unfold quotedL; rw [qmap_app, qmap_cons, qmap_nil, joinL_snoc]
theorem quoted_add (a : List PT) (p : PT) : quotedL (addP a p) = addP (quotedL a) (q1 p) := by
  rcases snoc_cases a with rfl | ⟨b, q, rfl⟩
  · rw [addP_nil, quoted_one, quoted_nil]; rfl
  · by_cases h : merges q p
    · have hq : merges (q1 q) (q1 p) := ⟨h.1, h.2.1, rfl⟩
      rw [addP_yes _ _ _ h, quoted_snoc, quoted_snoc, ← add_glue _ _ _ hq]
      rfl
    · rw [addP_no _ _ _ h, quoted_snoc]
theorem quoted_join (a b : List PT) : quotedL (joinL a b) = joinL (quotedL a) (quotedL b) := by
  induction b generalizing a with
  | nil => rw [quoted_nil]; rfl
  | cons p b ih =>
    show quotedL (joinL (addP a p) b) = _
    rw [ih, quoted_add]
    have e : quotedL (p :: b) = joinL [q1 p] (quotedL b) := by
      unfold quotedL
      rw [qmap_cons, join_assoc]
      rfl
    rw [e, join_assoc]
    rfl
theorem qmap_twice : ∀ l : List PT, qmap (qmap l) = qmap l
  | [] => by rw [qmap_nil, qmap_nil]
  | .mk k q t o w :: r => by
    have h := qmap_twice w
    have e : quotedL (quotedL w) = quotedL w := by
      have h2 : quotedL (joinL [] (qmap w)) = joinL (quotedL []) (quotedL (qmap w)) := quoted_join [] (qmap w)
      show quotedL (joinL [] (qmap w)) = _
      rw [h2, quoted_nil]
      show joinL [] (joinL [] (qmap (qmap w))) = quotedL w
      rw [h, join_assoc]
      rfl
    rw [qmap_cons, qmap_cons, qmap_twice r]
    show PT.mk k true t o (quotedL (quotedL w)) :: qmap r = PT.mk k true t o (quotedL w) :: qmap r
    rw [e]
theorem quoted_twice (w : List PT) : quotedL (quotedL w) = quotedL w := by
  have h2 : quotedL (joinL [] (qmap w)) = joinL (quotedL []) (quotedL (qmap w)) := quoted_join [] (qmap w)
  show quotedL (joinL [] (qmap w)) = _
  rw [h2, quoted_nil]
  show joinL [] (joinL [] (qmap (qmap w))) = quotedL w
  rw [qmap_twice, join_assoc]
  rfl
theorem q1_lit (q : Bool) (t : Bs) : q1 (litP q t) = litP true t := by
  unfold q1 litP
  simp only [PT.kind, PT.text, PT.op, PT.word, quoted_nil]

/-- What is gathered, as parts. -/
def vw (g : Ga) : List PT := g.close.ps
structure Inv (g : Ga) : Prop where
  shut : g.op = false → g.tx = [] ∧ ∀ r, g.ps.getLast? = some r → r.kind ≠ 1
  held : g.op = true → ∀ r, g.ps.getLast? = some r → ¬ (r.kind = 1 ∧ r.quoted = g.q)
theorem inv_empty : Inv .empty := ⟨fun _ => ⟨rfl, fun r h => by cases h⟩, fun h => by cases h⟩
theorem vw_op {g : Ga} (h : g.op = true) : vw g = g.ps ++ [litP g.q g.tx] := by unfold vw Ga.close; simp only [h, if_true]
theorem vw_shut {g : Ga} (h : g.op = false) : vw g = g.ps := by unfold vw Ga.close; simp only [h, Bool.false_eq_true, if_false]
theorem addP_apart (a : List PT) (p : PT) (h : ∀ r, a.getLast? = some r → ¬ merges r p) : addP a p = a ++ [p] := by
  rcases snoc_cases a with rfl | ⟨b, q, rfl⟩
  · rfl
  · exact addP_no _ _ _ (h q (by simp))
theorem add_inv {g : Ga} (h : Inv g) (t : Bs) (q : Bool) : Inv (g.add t q) ∧ vw (g.add t q) = addP (vw g) (litP q t) := by
  unfold Ga.add
  by_cases hq : g.q = q
  · simp only [if_pos hq]
    cases ho : g.op with
    | true =>
      refine ⟨⟨fun e => (by cases e), fun _ r hr => ?_⟩, ?_⟩
      · rw [← hq]; exact h.held ho r hr
      · rw [vw_op rfl, vw_op ho]
        have hm : merges (litP g.q g.tx) (litP q t) := ⟨rfl, rfl, hq⟩
        rw [addP_yes _ _ _ hm]
        show g.ps ++ [litP q (g.tx ++ t)] = g.ps ++ [PT.mk 1 g.q (g.tx ++ t) [] []]
        rw [hq]; rfl
    | false =>
      obtain ⟨h1, h2⟩ := h.shut ho
      refine ⟨⟨fun e => (by cases e), fun _ r hr e => h2 r hr e.1⟩, ?_⟩
      rw [vw_op rfl, vw_shut ho, addP_apart _ _ (fun r hr e => h2 r hr e.2.1)]
      simp only [h1, List.nil_append]
  · simp only [if_neg hq]
    have hv : ∀ r, (vw g).getLast? = some r → ¬ (r.kind = 1 ∧ r.quoted = q) := fun r hr e => by
      cases ho : g.op with
      | true =>
        rw [vw_op ho] at hr
        simp at hr
        rw [← hr] at e
        exact hq e.2
      | false =>
        rw [vw_shut ho] at hr
        exact (h.shut ho).2 r hr e.1
    refine ⟨⟨fun e => (by cases e), fun _ r hr => hv r hr⟩, ?_⟩
    rw [vw_op rfl, addP_apart (vw g) (litP q t) (fun r hr e => hv r hr ⟨e.2.1, e.2.2⟩)]
    rfl
theorem put_inv {g : Ga} (h : Inv g) (p : PT) (hp : p.kind ≠ 1) : Inv (g.put p) ∧ vw (g.put p) = addP (vw g) p := by
  unfold Ga.put
  refine ⟨⟨fun _ => ⟨rfl, fun r hr => ?_⟩, fun e => by cases e⟩, ?_⟩
  · simp at hr
    rw [← hr]; exact hp
  · rw [vw_shut rfl, addP_apart _ _ (fun r hr e => hp e.1)]
    rfl

end WdM
