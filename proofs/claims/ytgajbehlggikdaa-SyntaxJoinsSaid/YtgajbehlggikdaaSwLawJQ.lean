/- DERIVED. The law SyntaxJoins. -/
import Derived.Test.YtgajbehlggikdaaSwGk
import Derived.Test.YtgajbehlggikdaaSyGc
import Derived.Deep.AppendLies
namespace Go.Proofs.Ytgajbehlggikdaa.Sw
open Go.RowKit Go.Sort
open PathM WdM SyM
open Go.Proofs.Ytgajbehlggikdaa.Wd
set_option linter.unusedVariables false

theorem lsJ_below {d : Nat} {S : Nat → Prop} {w w' : World} {v : Value} {x : List LiT} (hb : Below w.heap.size w w') (h : LsIn d w S v x) : LsIn d w' S v x := good_below (LsIn.good d) hb h
theorem lsJ_any {d : Nat} {W : World} {S : Nat → Prop} {v : Value} {x : List LiT} (h : LsIn d W S v x) : LsIn d W (fun _ => True) v x := LsIn.good d _ _ _ _ _ _ (fun k _ _ => ⟨trivial, rfl⟩) h
/-- Cells of lists, and what they stand for. -/
def Cl (d : Nat) (w : World) (vss : List (List Value)) (l : List LiT) : Prop := vss.length = l.length ∧ ∀ i (h : i < vss.length) (h' : i < l.length), (vss[i]).length = 2 ∧ RLi (LsIn d) w (fun _ => True) vss[i] l[i]
theorem Cl.below {d : Nat} {w w' : World} {vss : List (List Value)} {l : List LiT} (h : Cl d w vss l) (hb : Below w.heap.size w w') : Cl d w' vss l :=
  ⟨h.1, fun i h1 h2 => ⟨(h.2 i h1 h2).1, RLi.good (LsIn.good d) w w' _ _ _ _ (fun k h3 h4 => ⟨h4, hb.block k h3⟩) (h.2 i h1 h2).2⟩⟩
theorem Cl.app {d : Nat} {w : World} {v1 v2 : List (List Value)} {l1 l2 : List LiT} (h1 : Cl d w v1 l1) (h2 : Cl d w v2 l2) : Cl d w (v1 ++ v2) (l1 ++ l2) := by
  refine ⟨by simp [h1.1, h2.1], fun i hi hi' => ?_⟩
  by_cases e : i < v1.length
  · have e2 : i < l1.length := by have := h1.1; omega
    rw [List.getElem_append_left e, List.getElem_append_left e2]
    exact h1.2 i e e2
  · have e2 : ¬ i < l1.length := by have := h1.1; omega
    rw [List.getElem_append_right (by omega), List.getElem_append_right (by omega)]
    have h3 := h2.2 (i - v1.length) (by simp at hi; omega) (by have := h1.1; simp at hi'; omega)
    have e3 : i - l1.length = i - v1.length := by rw [h1.1]
    simp only [e3]
    exact h3
theorem Cl.size {d : Nat} {w : World} {vss : List (List Value)} {l : List LiT} (h : Cl d w vss l) : vss.flatten.length = l.length * 2 := by
  have key : ∀ (v : List (List Value)), (∀ x ∈ v, x.length = 2) → v.flatten.length = v.length * 2 := by
    intro v
    induction v with
    | nil => intro _; rfl
    | cons a v ih => intro hv; rw [List.flatten_cons, List.length_append, ih (fun x hx => hv x (List.mem_cons_of_mem _ hx)), hv a (List.mem_cons_self), List.length_cons]; omega
  rw [key vss (fun x hx => by
    obtain ⟨i, hi, rfl⟩ := List.mem_iff_getElem.1 hx
    exact (h.2 i hi (by have := h.1; omega)).1), h.1]
theorem Cl.one {d : Nat} {w : World} {vss : List (List Value)} {l : List LiT} (h : Cl d w vss l) : ∀ u ∈ vss.flatten, u.oneCell' = true := by
  intro u hu
  obtain ⟨vs, hvs, hu⟩ := List.mem_flatten.1 hu
  obtain ⟨i, hi, rfl⟩ := List.mem_iff_getElem.1 hvs
  have h2 := (h.2 i hi (by have := h.1; omega)).2
  revert h2 hu
  generalize vss[i] = vs
  generalize l[i]'(by have := h.1; omega) = x
  intro hu h2
  obtain ⟨ps, os⟩ := x
  obtain ⟨pv, ov, rfl, hp, ho⟩ := h2
  obtain ⟨P, n, c, rfl⟩ := hp.form
  obtain ⟨O, m, e, rfl⟩ := ho.form
  simp only [List.mem_cons, List.not_mem_nil, or_false] at hu
  rcases hu with rfl | rfl <;> rfl
/-- The cells of a slice of lists. -/
theorem ls_cells {d : Nat} {w : World} {S : Nat → Prop} {v : Value} {l : List LiT} (h : LsIn (d + 1) w S v l) : ∃ vss, Cl d w vss l ∧ ∃ A c, v = .slice A l.length c ∧ l.length ≤ 281474976710656 ∧ (l ≠ [] → ∃ b off, A = some ⟨b, off, none⟩ ∧ ∀ j u, vss.flatten[j]? = some u → w.cell? ⟨b, off + j, none⟩ = some u) := by
  have h : Sl 2 (RLi (LsIn d)) w S v l := h
  obtain ⟨⟨A, c, rfl⟩, hlen⟩ := h.len
  by_cases h0 : l = []
  · subst h0
    exact ⟨[], ⟨rfl, fun i hi => (by cases hi)⟩, A, c, rfl, hlen, fun hne => absurd rfl hne⟩
  · obtain ⟨b, off, rfl, _, hb, hc⟩ := h.at_ h0
    have hch : ∀ i : Fin l.length, ∃ vs, vs.length = 2 ∧ (∀ j u, vs[j]? = some u → w.cell? ⟨b, off + i.1 * 2 + j, none⟩ = some u) ∧ RLi (LsIn d) w S vs l[i.1] := fun i => hc i.1 i.2
    obtain ⟨f, hf⟩ := Classical.axiomOfChoice hch
    refine ⟨List.ofFn f, ⟨by simp, fun i hi hi' => ?_⟩, _, c, rfl, hlen, fun _ => ⟨b, off, rfl, fun j u hj => ?_⟩⟩
    · rw [List.getElem_ofFn]
      exact ⟨(hf ⟨i, hi'⟩).1, RLi.good (LsIn.good d) w w S _ _ _ (fun k _ _ => ⟨trivial, rfl⟩) (hf ⟨i, hi'⟩).2.2⟩
    · have hl2 : ∀ x ∈ List.ofFn f, x.length = 2 := fun x hx => by
        obtain ⟨i, rfl⟩ := List.mem_ofFn.1 hx
        exact (hf i).1
      have hj2 : ∃ i : Fin l.length, ∃ k, k < 2 ∧ j = i.1 * 2 + k ∧ (f i)[k]? = some u := by
        have key : ∀ (v : List (List Value)) (j : Nat) (u : Value), (∀ x ∈ v, x.length = 2) → v.flatten[j]? = some u → ∃ i k, ∃ (hi : i < v.length), k < 2 ∧ j = i * 2 + k ∧ (v[i])[k]? = some u := by
          intro v
          induction v with
          | nil => intro j u _ hx; simp at hx
          | cons a v ih =>
            intro j u hv hx
            rw [List.flatten_cons] at hx
            by_cases hja : j < a.length
            · rw [List.getElem?_append_left hja] at hx
              have ha := hv a (List.mem_cons_self)
              exact ⟨0, j, by simp, by omega, by omega, hx⟩
            · rw [List.getElem?_append_right (by omega)] at hx
              obtain ⟨i, k, hi, hk, he, hx⟩ := ih (j - a.length) u (fun x hx => hv x (List.mem_cons_of_mem _ hx)) hx
              have ha := hv a (List.mem_cons_self)
              exact ⟨i + 1, k, by simpa using hi, hk, by omega, by simpa using hx⟩
        obtain ⟨i, k, hi, hk, he, hx⟩ := key _ j u hl2 hj
        have hi2 : i < l.length := by simpa using hi
        exact ⟨⟨i, hi2⟩, k, hk, he, by rw [List.getElem_ofFn] at hx; exact hx⟩
      obtain ⟨i, k, hk, rfl, hx⟩ := hj2
      have := (hf i).2.1 k u hx
      rw [← Nat.add_assoc]
      exact this
theorem ls_of_row {d base n : Nat} {W : World} {v : Value} {l : List LiT} {vss : List (List Value)} (h1 : W.ownsRow base 33 2 v n vss.flatten) (hc : Cl d W vss l) (hn : n = l.length) (hm : l.length ≤ 281474976710656) : LsIn (d + 1) W (fun _ => True) v l := by
  subst hn
  obtain ⟨a, cap, rfl⟩ := row_len h1
  show Sl 2 (RLi (LsIn d)) W (fun _ => True) _ l
  refine ⟨a, cap, rfl, hm, fun hne => ?_⟩
  rcases h1.2 with ⟨_, h0⟩ | ⟨g, cap', cur, hv, hb, hg, _⟩
  · exact absurd (List.length_eq_zero_iff.1 h0) hne
  · injection hv with hv1 hv2 hv3
    subst hv1
    refine ⟨g, 0, rfl, trivial, fin_at hg, fun i x hx => ?_⟩
    obtain ⟨hi, hx⟩ := List.getElem?_eq_some_iff.1 hx
    have hi2 : i < vss.length := by have := hc.1; omega
    refine ⟨vss[i], (hc.2 i hi2 hi).1, fun j u hu => ?_, hx ▸ (hc.2 i hi2 hi).2⟩
    rw [Nat.zero_add]
    exact (row_cell h1 _ u (flat_get vss i j u hi2 (fun i h => (hc.2 i h (by have := hc.1; omega)).1) hu)).1
theorem run_append_e {P : Program} {w : World} (t ty e : TypeId) (i : TypeInfo) (size : Nat) (ht : P.underlying t = some (.slice e)) (hi : P.info? e = some i) (hsz : i.size = size) (base n : Nat) (v : Value) (xs : List Value) (hown : w.ownsRow base e size v n xs) (A : Option Addr) (c : Nat) :
    (Builtin.append_ #[t, t] ty #[v, .slice A 0 c]).run P w = .ok v w := by
  rcases hown.2 with ⟨e1, e2⟩ | ⟨ge, cape, cur, e1, e2, e3, e4, _⟩
  · subst e1
    cases A with
    | none => simp [Builtin.append_, run_underlying ht, sizeOf, typeInfo, hi, Builtin.lenOf, Builtin.firstCells]
    | some ad => simp [Builtin.append_, run_underlying ht, sizeOf, typeInfo, hi, Builtin.lenOf, Builtin.firstCells, loadCells, loadCellsFrom]
  · subst e1
    cases A with
    | none => simp [Builtin.append_, run_underlying ht, sizeOf, typeInfo, hi, Builtin.lenOf, Builtin.firstCells, storeCells, e4]
    | some ad => simp [Builtin.append_, run_underlying ht, sizeOf, typeInfo, hi, Builtin.lenOf, Builtin.firstCells, loadCells, loadCellsFrom, storeCells, e4]
theorem wpList_wanted {P : Program} {ops : Array Oper} {rest : List Oper} {o : Oper} {a : Act} {w : World} {Q : Exit → Act → World → Prop} (hw : Region.wanted o (yielded ops a.tmps) = true) (h : ∀ K : Act → World → Prop, (∀ a w, wpList P ops Q rest a w → K a w) → o.wp P a w K Q) : wpList P ops Q (o :: rest) a w :=
  wpList_step fun K hK => by rw [if_pos hw]; exact h K hK
/-- Lists appended, from wherever, behind a row of the call's own. -/
theorem wpList_app_ls {w : World} {ops : Array Oper} {rest : List Oper} {o : Oper} {a : Act} {Q : Exit → Act → World → Prop} (s x : Operand)
    (ho : o.op = .call { callee := .builtin .append, args := #[s, x], argTypes := #[23, 23] }) (base n : Nat) (v : Value) (xs : List Value) (hs : a.eval s = v) (hown : w.ownsRow base 33 2 v n xs) (hbase : base ≤ w.heap.size)
    (A : Option Addr) (c m : Nat) (hx : a.eval x = .slice A m c) (d : Nat) (vss : List (List Value)) (l : List LiT) (hm : m = l.length) (hc : Cl d w vss l) (hcell : l ≠ [] → ∃ b off, A = some ⟨b, off, none⟩ ∧ ∀ j u, vss.flatten[j]? = some u → w.cell? ⟨b, off + j, none⟩ = some u) (hlen : n + m ≤ 1000000)
    (hw : Region.wanted o (yielded ops a.tmps) = true)
    (h : ∀ v' w', w'.ownsRow base 33 2 v' (n + m) (xs ++ vss.flatten) → w.grownBy w' v.ownBlock → wpList Try.prog ops Q rest (a.put o.dst v') w') : wpList Try.prog ops Q (o :: rest) a w := by
  obtain ⟨i0, hi, hz0, hz1, hz2⟩ := info_parts listInfo
  refine wpList_wanted hw fun K hK => ?_
  by_cases hne : l = []
  · subst hne
    subst hm
    have hv0 : vss = [] := List.length_eq_zero_iff.1 hc.1
    subst hv0
    have hrun := run_append_e (P := Try.prog) (w := w) 23 o.type 33 i0 2 Try.underlying23 hi hz1 base n v xs hown A c
    unfold Oper.wp
    simp [execOp, ho, resolve, invoke, builtin, hs, hx, hrun, Result.andThen]
    exact hK _ _ (h _ _ (by simpa using hown) ((World.grownBy.refl _ _).but _))
  · obtain ⟨b, off, hA, h6⟩ := hcell hne
    subst hA
    refine wp_append_own w s x 23 ho base 33 i0 (.agg #[.slice none 0 0, .slice none 0 0]) 2 48 Try.underlying23 hi hz0 hz1 hz2 rfl (by decide) v n xs hs hown ⟨b, off, none⟩ m c vss.flatten hx (by rw [hm]; exact hc.size) (fun j u hu => ?_) hc.one (maxLen_ok (by omega)) (by omega) hbase (fun v' w' g1 g2 _ => hK _ _ (h v' w' g1 g2))
    have hadd : (⟨b, off, none⟩ : Addr).add j = ⟨b, off + j, none⟩ := by simp [Addr.add]
    rw [hadd]
    exact h6 j u hu

end Go.Proofs.Ytgajbehlggikdaa.Sw
