/- DERIVED. Numbers appended, from wherever, behind a row of the call's own; an empty row. -/
import Derived.Test.YtpicgkoclbpjpaaGreatDoorVnRNode
namespace Go.Proofs.YtpicgkoclbpjpaaGreatDoor
open Go.RowKit Go.Sort Go.Lib Go.Shelf
open PathM TreeM VtM
set_option linter.unusedVariables false
/-- A number as a value. -/
def encI (x : Int) : Value := .int .i64 x
theorem wpList_app_ints {w : World} {ops : Array Oper} {rest : List Oper} {o : Oper} {a : Act} {Q : Exit → Act → World → Prop} (hgd : o.guard = none) (s x : Operand)
    (ho : o.op = .call { callee := .builtin .append, args := #[s, x], argTypes := #[55, 55] }) (base : Nat) (v : Value) (l1 l2 : List Int) (n1 : Nat) (hn1 : n1 = l1.length) (hs : a.eval s = v) (hown : w.ownsRow base 3 1 v n1 (l1.map encI)) (hbase : base ≤ w.heap.size)
    (lv : Value) (B : Nat) (hx : a.eval x = lv) (hE : IntsIn w B lv l2) (hlen : (l1.length + l2.length) * 8 ≤ 140737488355328)
    (h : ∀ v' w', w'.ownsRow base 3 1 v' (l1 ++ l2).length ((l1 ++ l2).map encI) → w.grownBy w' v.ownBlock → wpList Tryz.prog ops Q rest (a.put o.dst v') w') : wpList Tryz.prog ops Q (o :: rest) a w := by
  subst hn1
  obtain ⟨i0, hi, hz0, hz1, hz2⟩ := info_parts infoI
  by_cases hne : l2 = []
  · subst hne
    obtain ⟨A, c, rfl⟩ := hE.len
    refine wpList_plain hgd fun K hK => ?_
    have hrun : (Builtin.append_ #[55, 55] o.type #[v, .slice A 0 c]).run Tryz.prog w = .ok v w := by
      rcases hown.2 with ⟨e1, e2⟩ | ⟨ge, cape, cur, e1, e2, e3, e4, _⟩
      · rw [e1]; exact run_append_nil_empty 55 o.type 3 i0 1 Tryz.underlying55 hi A c
      · rw [e1]; exact run_append_own_empty 55 o.type 3 i0 Tryz.underlying55 hi ge _ _ e4 A c
    unfold Oper.wp
    simp [execOp, ho, resolve, invoke, builtin, hs, hx, hrun, Result.andThen]
    exact hK _ _ (h _ _ (by rw [List.append_nil]; exact hown) ((World.grownBy.refl _ _).but _))
  · obtain ⟨b, off, c, rfl, h3, h4, h5, h6⟩ := hE.cases hne
    refine wpList_append_own _ hgd s x 55 ho base 3 i0 (.int .i64 0) 1 8 Tryz.underlying55 hi hz0 hz1 hz2 rfl (by decide) _ _ _ hs hown ⟨b, off, none⟩ l2.length c (l2.map encI) hx (by simp) ?_ ?_ (maxLen_ok (by omega)) hlen hbase ?_
    · intro j u hj
      rw [List.getElem?_map] at hj
      cases e : l2[j]? with
      | none => rw [e] at hj; cases hj
      | some x =>
        rw [e] at hj
        have hjl := lt_of_get e
        have := h6 j hjl
        rw [List.getD_eq_getElem?_getD, e] at this
        simp at hj
        rw [← hj]
        have hadd : (⟨b, off, none⟩ : Addr).add j = ⟨b, off + j, none⟩ := by simp [Addr.add]
        rw [hadd]
        exact this
    · intro u hu
      obtain ⟨x, _, rfl⟩ := List.mem_map.1 hu
      rfl
    · intro v' w' g1 g2 _
      exact h v' w' (by rw [List.length_append, List.map_append]; exact g1) g2
theorem own_empty (W : World) (t : TypeId) {base : Nat} (h : base ≤ W.heap.size) : (W.alloc (.cells #[] t)).ownsRow base t 1 (.slice (some ⟨W.heap.size, 0, none⟩) 0 0) 0 [] :=
  ⟨rfl, .inr ⟨W.heap.size, 0, #[], rfl, h, heap_alloc_new W _, Nat.le_refl _, by simp [maxLen], rfl, rfl⟩⟩
theorem ints_lit (W : World) (x : Int) : IntsIn (W.alloc (.cells #[.int .i64 x] 3)) (W.alloc (.cells #[.int .i64 x] 3)).heap.size (.slice (some ⟨W.heap.size, 0, none⟩) 1 1) [x] :=
  ⟨_, _, rfl, by simp, fun _ => ⟨W.heap.size, 0, rfl, by simp, OfType.of (heap_alloc_new W _), fun j hj => by
    have hj0 : j = 0 := by simp at hj; exact hj
    subst hj0
    exact (cell_blk (heap_alloc_new W (.cells #[.int .i64 x] 3)) 0).trans rfl⟩⟩
theorem IntsIn.cutI {w : World} {B : Nat} {A : Option Addr} {n c : Nat} {l : List Int} (h : IntsIn w B (.slice A n c) l) {m : Nat} (hm : m ≤ l.length) : IntsIn w B (.slice A m c) (l.take m) := by
  obtain ⟨A', c', e, h1, h2⟩ := h
  cases e
  have hl : (l.take m).length = m := by rw [List.length_take]; omega
  refine ⟨A, c, by rw [hl], by omega, fun hne => ?_⟩
  obtain ⟨b, off, h3, h4, h5, h6⟩ := h2 (fun e => hne (by rw [e]; simp))
  refine ⟨b, off, h3, h4, h5, fun k hk => ?_⟩
  rw [hl] at hk
  rw [getD_take hk]
  exact h6 k (by omega)
end Go.Proofs.YtpicgkoclbpjpaaGreatDoor
