/- DERIVED. Pieces for the law TreeCanon: other numbers, entries copied behind an empty row. -/
import Derived.Test.YtgcoioejcnileaaDoorTreeSame2
import Derived.Test.YtgcoioejcnileaaDoorTreeMath6
namespace Go.Proofs.YtgcoioejcnileaaDoor
open Go.RowKit Go.Sort
open PathM TreeM
set_option linter.unusedVariables false

theorem moved_any (id : Int) (b : Nat) (w : World) (h1 : 1 ≤ id) (h2 : id ≤ 1000) (hb : b ≤ 255) : Calls Tryd.prog 34 #[.int .i64 id, .int .u8 (b : Int)] w fun e w' => e = .returned (.int .i64 (movedI b id)) ∧ w' = w := by
  unfold movedI
  by_cases he : id = 1
  · rw [if_pos he]
    subst he
    go_enter Tryd.func34, Tryd.ntmps34
    go_wp2
    go_ret
    exact ⟨rfl, rfl⟩
  · rw [if_neg he]
    have q : (id == 1) = false := by simpa using he
    have hb0 : (b : Int) ≤ 255 := by omega
    clear he
    go_enter Tryd.func34, Tryd.ntmps34
    go_wp2
    go_ret
    exact ⟨rfl, rfl⟩

theorem canon_ids {t : Tr} (h : checkB t = true) {i : Nat} (hi : i < t.nodes.length) : (ndAt (canonT t).nodes i).id = (i : Int) + 1 := by
  have hwl : (way t.nodes).length = t.nodes.length := by simpa [reachedB] using (check_parts h).2.2.2.2
  show (ndAt (canonN t.nodes (way t.nodes)) i).id = _
  rw [canon_at (by omega)]
  rfl
theorem canon_count {t : Tr} (h : checkB t = true) : (canonT t).nodes.length = t.nodes.length := by
  have hwl : (way t.nodes).length = t.nodes.length := by simpa [reachedB] using (check_parts h).2.2.2.2
  show (canonN t.nodes (way t.nodes)).length = _
  rw [canon_len, hwl]
theorem canon_tos {t : Tr} (h : checkB t = true) {i : Nat} (hi : i < t.nodes.length) : ∀ x ∈ (ndAt (canonT t).nodes i).es, 1 ≤ x.to ∧ x.to ≤ t.nodes.length := by
  intro x hx
  have hc := canon_check h
  have hn := canon_count h
  have hp := (led_mem (check_parts hc).2.2.2.1 (flat_mem.2 ⟨i, by rw [hn]; exact hi, hx⟩)).1
  have hid := place_id hp
  rw [hn] at hp
  rw [canon_ids h hp] at hid
  omega
theorem canonR_canon {t : Tr} (h : checkB t = true) : canonR (canonT t) = canonT t := by
  unfold canonR
  rw [if_pos (canon_check h), canon_canon h]
theorem canonR_of {t : Tr} (h : checkB t = true) : canonR t = canonT t := by unfold canonR; rw [if_pos h]
theorem sameB_canon {t : Tr} (h : checkB t = true) : sameB (canonT t) t = true := by
  unfold sameB
  rw [canon_check h, h, canonR_canon h, canonR_of h]
  simp
theorem far_all {t : Tr} (h : checkB t = true) (b : Nat) (last : Int) (hl : ∀ i, i < t.nodes.length → movedI b (ndAt (canonT t).nodes i).id ≤ last) :
    checkI ⟨farN (canonT t).nodes b, last, t.rn, t.rb⟩ = 0 ∧ sameB ⟨farN (canonT t).nodes b, last, t.rn, t.rb⟩ t = true := by
  obtain ⟨h1, h2⟩ := far_check (t := canonT t) (b := b) (last := last) (rn := t.rn) (rb := t.rb) (canon_check h) (by rw [canon_count h]; exact hl)
  refine ⟨by unfold checkI; rw [if_pos h1], ?_⟩
  unfold sameB
  rw [h1, h, canonR_of h1, canonR_of h]
  show (true && true && decide (canonN (farN (canonT t).nodes b) (way (farN (canonT t).nodes b)) = (canonT t).nodes)) = true
  have h3 : canonN (canonT t).nodes (way (canonT t).nodes) = (canonT t).nodes := congrArg Tr.nodes (canon_canon h)
  rw [h2, h3]
  simp
theorem farN_range (nds : List Nd) (b : Nat) : farN nds b = (List.range nds.length).map (fun j => reN (movedI b) (ndAt nds j)) := by
  unfold farN
  apply List.ext_getElem
  · simp
  · intro i h1 h2
    have hi : i < nds.length := by simpa using h1
    simp [ndAt, hi]

theorem run_append_empty {P : Program} {w : World} (t ty e : TypeId) (i : TypeInfo) (size : Nat) (ht : P.underlying t = some (.slice e)) (hi : P.info? e = some i) (g : Nat) (A : Option Addr) (c : Nat) :
    (Builtin.append_ #[t, t] ty #[.slice (some ⟨g, 0, none⟩) 0 0, .slice A 0 c]).run P w = .ok (.slice (some ⟨g, 0, none⟩) 0 0) w := by
  cases A with
  | none => simp [Builtin.append_, run_underlying ht, sizeOf, typeInfo, hi, Builtin.lenOf, Builtin.firstCells, storeCells]
  | some ad => simp [Builtin.append_, run_underlying ht, sizeOf, typeInfo, hi, Builtin.lenOf, Builtin.firstCells, loadCells, loadCellsFrom, storeCells]

/-- Entries copied behind an empty row. -/
theorem wpList_copy_ents2 {w : World} {ops : Array Oper} {rest : List Oper} {o : Oper} {a : Act} {Q : Exit → Act → World → Prop} (hgd : o.guard = none) (s x : Operand)
    (ho : o.op = .call { callee := .builtin .append, args := #[s, x], argTypes := #[35, 35] }) (g base : Nat) (hs : a.eval s = .slice (some ⟨g, 0, none⟩) 0 0) (hg : base ≤ g) (hbase : base ≤ w.heap.size) (hblk : w.heap[g]? = some (.cells #[] 59 (0, 0))) (ev : Value) (es : List Ent) (B : Nat) (hx : a.eval x = ev) (hE : EntsIn w B ev es)
    (h : ∀ v' w', w'.ownsRow base 59 2 v' es.length (es.flatMap entC) → w.grownBy w' (some g) → wpList Tryd.prog ops Q rest (a.put o.dst v') w') : wpList Tryd.prog ops Q (o :: rest) a w := by
  obtain ⟨i0, hi, hz0, hz1, hz2⟩ := info_parts info59
  have hown : w.ownsRow base 59 2 (.slice (some ⟨g, 0, none⟩) 0 0) 0 [] := ⟨rfl, .inr ⟨g, 0, #[], rfl, hg, hblk, Nat.le_refl _, by simp [maxLen], rfl, rfl⟩⟩
  obtain ⟨h1, h2, ⟨A, c, rfl, rfl⟩ | ⟨b, off, c, rfl, h3, h4, h5, h6⟩⟩ := hE.cases
  · refine wpList_plain hgd fun K hK => ?_
    have hrun := run_append_empty (P := Tryd.prog) (w := w) 35 o.type 59 i0 2 Tryd.underlying35 hi g A c
    unfold Oper.wp
    simp [execOp, ho, resolve, invoke, builtin, hs, hx, hrun, Result.andThen]
    exact hK _ _ (h _ _ hown (World.grownBy.refl _ _))
  · refine wpList_append_own _ hgd s x 35 ho base 59 i0 (.agg #[.string ByteArray.empty, .int .i64 0]) 2 24 Tryd.underlying35 hi hz0 hz1 hz2 rfl (by decide) _ 0 [] hs hown ⟨b, off, none⟩ es.length c (es.flatMap entC) hx (ent_len es) ?_ ?_ (maxLen_ok (by omega)) (by omega) hbase ?_
    · intro j u hj
      have hjl : j < es.length * 2 := by have := lt_of_get hj; rwa [ent_len] at this
      obtain ⟨e1, e2⟩ := ent_cells es (j / 2) (by omega)
      obtain ⟨g1, g2⟩ := h6 (j / 2) (by omega)
      have hadd : (⟨b, off, none⟩ : Addr).add j = ⟨b, off + j, none⟩ := by simp [Addr.add]
      rw [hadd]
      rcases Nat.mod_two_eq_zero_or_one j with hm | hm
      · rw [show j / 2 * 2 = j from by omega] at e1 g1
        rw [hj] at e1; cases e1; exact g1
      · rw [show j / 2 * 2 + 1 = j from by omega] at e2
        rw [show off + j / 2 * 2 + 1 = off + j from by omega] at g2
        rw [hj] at e2; cases e2; exact g2
    · intro u hu
      obtain ⟨x, _, hx⟩ := List.mem_flatMap.1 hu
      simp [entC] at hx
      rcases hx with rfl | rfl <;> rfl
    · intro v' w' g1 g2 _
      rw [Nat.zero_add, List.nil_append] at g1
      exact h v' w' g1 (by simpa [Value.ownBlock] using g2)

end Go.Proofs.YtgcoioejcnileaaDoor
