/- DERIVED. Plain mathematics of layer 7: texts in quotes, names behind a dollar, the chapter's example. -/
import Derived.Test.YtgajbehlggikdaaWdMath
namespace WdM
open PathM
set_option linter.unusedVariables false

theorem ix_at (l r : Bs) (c : UInt8) (h : ∀ x ∈ l, x ≠ c) : Go.Lib.indexByte (l ++ c :: r) c = (l.length : Int) := by
  induction l with
  | nil => simp [Go.Lib.indexByte]
  | cons x l ih =>
    have h1 : (x == c) = false := by simpa using h x (by simp)
    have h2 := ih fun y hy => h y (by simp [hy])
    have h3 : (Go.Lib.indexByte (l ++ c :: r) c == -1) = false := by
      rw [h2, beq_eq_false_iff_ne]; omega
    rw [List.cons_append, Go.Lib.indexByte, h1, h3, h2]
    simp
theorem step_dollar (rec : Rec) (g : Ga) (q : Bool) (t : Bs) : step rec g q (36 :: t) = dollar rec g q t := rfl
theorem ploop_nil (rec : Rec) (ends : UInt8 → Bool) (q : Bool) (n : Nat) (g : Ga) : ploop rec ends q n g [] = .ok g [] := by cases n <;> rfl
theorem scan_one (c : UInt8) (t : Bs) (g : Ga) (hc : meta_ c = false) (hs : step (recN 16) .empty false (c :: t) = .ok g []) : scan (c :: t) = .ok g.close.ps [] := by
  unfold scan partsR
  show (match (if meta_ c then Rs.ok Ga.empty (c :: t) else match step (recN 16) .empty false (c :: t) with
      | .bad a e => .bad a e
      | .ok g' l' => ploop (recN 16) meta_ false (c :: t).length g' l') with
    | .bad a e => Rs.bad a e
    | .ok g r => .ok g.close.ps r) = _
  rw [hc, hs]
  simp only [Bool.false_eq_true, if_false]
  rw [ploop_nil]
/-- A text in single quotes. -/
theorem scan_single (l : Bs) (h : ∀ x ∈ l, x ≠ 39) : scan (39 :: (l ++ [39])) = .ok [litP true l] [] := by
  have hs : step (recN 16) .empty false (39 :: (l ++ [39])) = .ok (Ga.empty.add l true) [] := by
    show single .empty (l ++ [39]) = _
    unfold single
    rw [ix_at l [] 39 h, if_neg (by omega), Int.toNat_natCast, List.take_left, List.drop_of_length_le (by simp)]
  rw [scan_one 39 _ _ (by rfl) hs]
  rfl
def plainD (x : UInt8) : Prop := x ≠ 34 ∧ x ≠ 36 ∧ x ≠ 92 ∧ x ≠ 96
theorem piece_plain (rec : Rec) (g : Ga) (q : Bool) (c : UInt8) (t : Bs) (esc : UInt8 → Bool) (h : plainD c) : piece rec esc g q (c :: t) = .ok (g.add [c] q) t := by
  unfold piece
  simp only
  rw [if_neg h.2.2.1, if_neg h.2.1, if_neg h.2.2.2]
theorem dloop_plain (rec : Rec) (fl : Nat) (l : Bs) (h : ∀ x ∈ l, plainD x) : ∀ (n : Nat) (p : Bs), l.length < n → dloop rec fl n ⟨[], p, true, true⟩ (l ++ [34]) = .ok ⟨[], p ++ l, true, true⟩ [] := by
  induction l with
  | nil =>
    intro n p hn
    cases n with
    | zero => omega
    | succ n => rw [List.append_nil]; rfl
  | cons c l ih =>
    intro n p hn
    cases n with
    | zero => omega
    | succ n =>
      have hc := h c (by simp)
      rw [List.cons_append, dloop, if_neg hc.1, piece_plain rec _ _ c _ _ hc]
      show dloop rec fl n (Ga.add ⟨[], p, true, true⟩ [c] true) (l ++ [34]) = _
      have e : Ga.add ⟨[], p, true, true⟩ [c] true = ⟨[], p ++ [c], true, true⟩ := rfl
      rw [e, ih (fun x hx => h x (by simp [hx])) n (p ++ [c]) (by simp at hn; omega)]
      simp
theorem stands_other (c d : UInt8) (t : Bs) (h : c ≠ d) : stands [d] (c :: t) = false := by
  show (d == c && _) = false
  have : (d == c) = false := by simpa using fun e : d = c => h e.symm
  rw [this]; rfl
/-- A text in double quotes. -/
theorem scan_double (l : Bs) (h : ∀ x ∈ l, plainD x) : scan (34 :: (l ++ [34])) = .ok [litP true l] [] := by
  cases l with
  | nil => rfl
  | cons c l =>
    have hc := h c (by simp)
    have hs : step (recN 16) .empty false (34 :: (c :: l ++ [34])) = .ok ⟨[], c :: l, true, true⟩ [] := by
      show double (recN 16) .empty (c :: l ++ [34]) = _
      unfold double
      rw [List.cons_append, stands_other c 34 _ hc.1, if_neg (by decide)]
      have e : dloop (recN 16) ((c :: (l ++ [34])).length + 1) ((c :: (l ++ [34])).length + 1) .empty (c :: (l ++ [34])) = dloop (recN 16) ((c :: (l ++ [34])).length + 1) (c :: (l ++ [34])).length ⟨[], [c], true, true⟩ (l ++ [34]) := by
        rw [dloop, if_neg hc.1, piece_plain (recN 16) _ _ c _ _ hc]
        rfl
      rw [e, dloop_plain _ _ l (fun x hx => h x (by simp [hx])) _ [c] (by simp; omega)]
      rfl
    rw [scan_one 34 _ _ (by rfl) hs]
    rfl
theorem letter_not {c : UInt8} (h : letter c = true) : c ≠ 123 ∧ c ≠ 40 ∧ digit c = false := by
  refine ⟨fun e => by rw [e] at h; exact absurd h (by decide), fun e => by rw [e] at h; exact absurd h (by decide), ?_⟩
  unfold letter at h
  unfold digit
  simp only [Bool.or_eq_true, Bool.and_eq_true, decide_eq_true_eq, beq_iff_eq, Bool.and_eq_false_iff, decide_eq_false_iff_not, UInt8.le_iff_toNat_le, ← UInt8.toNat_inj] at h ⊢
  simp only [show (97 : UInt8).toNat = 97 from rfl, show (122 : UInt8).toNat = 122 from rfl, show (65 : UInt8).toNat = 65 from rfl, show (90 : UInt8).toNat = 90 from rfl, show (95 : UInt8).toNat = 95 from rfl, show (48 : UInt8).toNat = 48 from rfl, show (57 : UInt8).toNat = 57 from rfl] at h ⊢
  omega
/-- A name behind a dollar. -/
theorem scan_name (l : Bs) (h : isName l = true) : scan (36 :: l) = .ok [.mk 2 false l [] []] [] := by
  unfold isName at h
  cases l with
  | nil => cases h
  | cons c t =>
    simp only [List.isEmpty_cons, Bool.not_false, Bool.true_and, Bool.and_eq_true, decide_eq_true_eq] at h
    obtain ⟨⟨h1, h2⟩, h3⟩ := h
    obtain ⟨n1, n2, n3⟩ := letter_not h2
    have hl : paramLen (c :: t) = (c :: t).length := by
      show (if letter c then leading named (c :: t) else _) = _
      rw [if_pos h2, h3]
    have hst : paramStands (c :: t) = true := by
      show (named c || _) = true
      unfold named; rw [h2]; rfl
    have hs40 : stands [40, 40] (c :: t) = false := by
      show (40 == c && _) = false
      have : ((40 : UInt8) == c) = false := by simpa using fun e : 40 = c => n2 e.symm
      rw [this]; rfl
    have hp : param (c :: t) = .ok (c :: t) [] := by
      unfold param
      rw [if_pos hst, hl, if_pos h1, List.take_length, List.drop_length]
    have hs : step (recN 16) .empty false (36 :: c :: t) = .ok (Ga.empty.put (.mk 2 false (c :: t) [] [])) [] := by
      have hd : dollarP (recN 16) false (c :: t) = some (.ok (.mk 2 false (c :: t) [] []) []) := by
        unfold dollarP
        rw [stands_other c 123 t n1, stands_other c 40 t n2, hs40, hst, hp]
        show (if digit c = true then _ else _) = _
        rw [n3]
        rfl
      rw [step_dollar]
      unfold dollar
      rw [hd]
      rfl
    rw [scan_one 36 _ _ (by rfl) hs]
    rfl
/-- The chapter's example. -/
theorem scan_example : scan [97, 39, 98, 32, 99, 39, 34, 36, 120, 34, 36, 123, 121, 58, 45, 122, 125, 59] = .ok [litP false [97], litP true [98, 32, 99], .mk 2 true [120] [] [], .mk 2 false [121] [58, 45] [litP false [122]]] [59] := by rfl
/-- Which parts are the same. -/
def sameL : List PT → List PT → Bool
  | [], [] => true
  | .mk k q t o w :: a, .mk k' q' t' o' w' :: b => k == k' && q == q' && t == t' && o == o' && sameL w w' && sameL a b
  | _, _ => false

end WdM
