/- DERIVED. Entries appended to a row of the call's own; slices.Clone at entries; Bound. -/
import Derived.Test.YtkmnbbocahjmaaaGreatDoorVtDisk
namespace Go.Proofs.YtkmnbbocahjmaaaGreatDoor
open Go.RowKit Go.Sort Go.Lib
open PathM TreeM VtM
set_option linter.unusedVariables false

theorem run_append_own_empty {P : Program} {w : World} (t ty e : TypeId) (i : TypeInfo) (ht : P.underlying t = some (.slice e)) (hi : P.info? e = some i) (g n cap : Nat) (hn : n ≤ cap) (A : Option Addr) (c : Nat) :
    (Builtin.append_ #[t, t] ty #[.slice (some ⟨g, 0, none⟩) n cap, .slice A 0 c]).run P w = .ok (.slice (some ⟨g, 0, none⟩) n cap) w := by
  cases A with
  | none => simp [Builtin.append_, run_underlying ht, sizeOf, typeInfo, hi, Builtin.lenOf, Builtin.firstCells, storeCells, hn]
  | some ad => simp [Builtin.append_, run_underlying ht, sizeOf, typeInfo, hi, Builtin.lenOf, Builtin.firstCells, loadCells, loadCellsFrom, storeCells, hn]

/-- Entries, from wherever, behind a row of the call's own. -/
theorem wpList_app_ents {w : World} {ops : Array Oper} {rest : List Oper} {o : Oper} {a : Act} {Q : Exit → Act → World → Prop} (hgd : o.guard = none) (s x : Operand)
    (ho : o.op = .call { callee := .builtin .append, args := #[s, x], argTypes := #[62, 62] }) (base : Nat) (v : Value) (es1 es : List Ent) (hs : a.eval s = v) (hown : w.ownsRow base 75 2 v es1.length (es1.flatMap entC)) (hbase : base ≤ w.heap.size)
    (ev : Value) (B : Nat) (hx : a.eval x = ev) (hE : EntsIn w B ev es) (hlen : (es1.length + es.length) * 24 ≤ 140737488355328)
    (h : ∀ v' w', w'.ownsRow base 75 2 v' (es1 ++ es).length ((es1 ++ es).flatMap entC) → w.grownBy w' v.ownBlock → wpList Tryz.prog ops Q rest (a.put o.dst v') w') : wpList Tryz.prog ops Q (o :: rest) a w := by
  obtain ⟨i0, hi, hz0, hz1, hz2⟩ := info_parts info59
  obtain ⟨h1, h2, ⟨A, c, rfl, rfl⟩ | ⟨b, off, c, rfl, h3, h4, h5, h6⟩⟩ := hE.cases
  · refine wpList_plain hgd fun K hK => ?_
    have hrun : (Builtin.append_ #[62, 62] o.type #[v, .slice A 0 c]).run Tryz.prog w = .ok v w := by
      rcases hown.2 with ⟨e1, e2⟩ | ⟨ge, cape, cur, e1, e2, e3, e4, _⟩
      · rw [e1]; exact run_append_nil_empty 62 o.type 75 i0 2 Tryz.underlying62 hi A c
      · rw [e1]; exact run_append_own_empty 62 o.type 75 i0 Tryz.underlying62 hi ge _ _ e4 A c
    unfold Oper.wp
    simp [execOp, ho, resolve, invoke, builtin, hs, hx, hrun, Result.andThen]
    exact hK _ _ (h _ _ (by rw [List.append_nil]; exact hown) ((World.grownBy.refl _ _).but _))
  · refine wpList_append_own _ hgd s x 62 ho base 75 i0 (.agg #[.string ByteArray.empty, .int .i64 0]) 2 24 Tryz.underlying62 hi hz0 hz1 hz2 rfl (by decide) _ _ _ hs hown ⟨b, off, none⟩ es.length c (es.flatMap entC) hx (ent_len es) ?_ ?_ (maxLen_ok (by omega)) hlen hbase ?_
    · intro j u hj
      have hjl : j < es.length * 2 := by have := lt_of_get hj; rwa [ent_len] at this
      obtain ⟨e1, e2⟩ := ent_cells es (j / 2) (by omega)
      obtain ⟨g1, g2⟩ := h6 (j / 2) (by omega)
      have hadd : (⟨b, off, none⟩ : Addr).add j = ⟨b, off + j, none⟩ := by simp [Addr.add]
      rw [hadd]
      rcases Nat.mod_two_eq_zero_or_one j with hm | hm
      · rw [show j / 2 * 2 = j from by omega] at e1 g1
        rw [hj] at e1; cases e1; exact g1
      · rw [show j / 2 * 2 + 1 = j from by omega] at e2
        rw [show off + j / 2 * 2 + 1 = off + j from by omega] at g2
        rw [hj] at e2; cases e2; exact g2
    · intro u hu
      obtain ⟨x, _, hx⟩ := List.mem_flatMap.1 hu
      simp [entC] at hx
      rcases hx with rfl | rfl <;> rfl
    · intro v' w' g1 g2 _
      exact h v' w' (by rw [List.length_append, List.flatMap_append]; exact g1) g2
theorem EntsIn.bounds {w : World} {B : Nat} {v : Value} {es : List Ent} (h : EntsIn w B v es) : es.length * 24 ≤ 140737488351232 ∧ (∀ x ∈ es, x.key.length ≤ 140737488351232 ∧ -9223372036854775808 ≤ x.to ∧ x.to ≤ 9223372036854775807) := by
  obtain ⟨A, c, _, _, h3, h4, _⟩ := h; exact ⟨h3, h4⟩
theorem ownsRow_newE (w : World) : (w.alloc (.cells #[] 75)).ownsRow w.heap.size 75 2 (.slice (some ⟨w.heap.size, 0, none⟩) 0 0) 0 [] :=
  ⟨rfl, .inr ⟨w.heap.size, 0, #[], rfl, Nat.le_refl _, heap_alloc_new w _, Nat.le_refl _, by simp [maxLen], rfl, rfl⟩⟩

theorem own_ge {B g : Nat} (h : B ≤ g) (n c : Nat) : ∀ j, (Value.slice (some ⟨g, 0, none⟩) n c).ownBlock = some j → B ≤ j := fun j hj => by
  simp [Value.ownBlock] at hj; omega
/-- What slices.Clone answers at entries: a row of the call's own (or nil). -/
def ClonePost (es : List Ent) (w : World) (e : Ending) (w' : World) : Prop := ∃ v', e = .returned v' ∧ w'.ownsRow w.heap.size 75 2 v' es.length (es.flatMap entC) ∧ Below w.heap.size w w'
set_option maxRecDepth 100000 in
set_option maxHeartbeats 1000000 in
theorem clone_any (ev : Value) (es : List Ent) (w : World) (hE : EntsIn w w.heap.size ev es) :
    Calls Tryz.prog 57 #[ev] w (ClonePost es w) := by
  unfold ClonePost
  have hB := hE.bounds
  obtain ⟨A, c, rfl, hc, _, _, hne⟩ := id hE
  cases A with
  | none =>
    have hes : es = [] := by
      by_cases e : es = []
      · exact e
      · obtain ⟨_, _, h, _⟩ := hne e; cases h
    subst hes
    have q := fun wx => Lib.run_eql_slice_nil (P := Tryz.prog) wx 62 75 none 0 c 0 0 Tryz.underlying62
    clear hE hne hc hB
    show Calls Tryz.prog 57 #[.slice none 0 c] w _
    go_enter Tryz.func57, Tryz.ntmps57
    go_wp2
    go_ret
    exact ⟨_, rfl, World.ownsRow_nil _ _ _ _, Below.refl _ _⟩
  | some ad =>
    have q := fun wx => Lib.run_eql_slice_nil (P := Tryz.prog) wx 62 75 (some ad) es.length c 0 0 Tryz.underlying62
    have hb := (Below.refl w.heap.size w).alloc (Nat.le_refl _) (.cells #[] 75)
    have HE := Lib.hid (hE.below hb)
    have hb1 : (([] : List Ent).length + es.length) * 24 ≤ 140737488355328 := by have := hB.1; simp; omega
    have HL := Lib.hid hb1
    have HB := Lib.hid hb
    clear hE hne hB hb hb1
    go_enter Tryz.func57, Tryz.ntmps57
    go_wp2_with (at_builtin; go_loud (refine wpList_app_ents rfl _ _ rfl w.heap.size _ [] es rfl (ownsRow_newE w) (Nat.le_of_lt (alloc_lt _ _)) (.slice (some ad) es.length c) w.heap.size rfl HE.out HL.out ?_; intro v4 w4 hown4 hg4; have hb4 := (HB.out.grown hg4 HB.out.size (own_ge (Nat.le_refl _) _ _)); obtain ⟨ve, vce, rfl⟩ := ownsRow_len3 hown4))
    go_ret
    exact ⟨_, rfl, by simpa using hown4, hb4⟩
end Go.Proofs.YtkmnbbocahjmaaaGreatDoor
