/- DERIVED. Pieces for the walk of Canon of package tree: entries copied into a row of their own, rows of nodes. -/
import Derived.Test.YtkmnbbocahjmaaaGreatDoorTreePath
import Derived.Test.YtkmnbbocahjmaaaGreatDoorTreeMath3
import Derived.Laws.OwnMore
import Derived.Laws.AppendOwnNone
namespace Go.Proofs.YtkmnbbocahjmaaaGreatDoor
open Go.RowKit Go.Sort
open PathM TreeM
set_option linter.unusedVariables false

def entC (x : Ent) : List Value := [.string (nm x.key), .int .i64 x.to]
theorem ent_cells (es : List Ent) : ∀ k, k < es.length → (es.flatMap entC)[k * 2]? = some (.string (nm (entAt es k).key)) ∧ (es.flatMap entC)[k * 2 + 1]? = some (.int .i64 (entAt es k).to) := by
  induction es with
  | nil => intro k h; simp at h
  | cons a l ih =>
    intro k h
    rw [List.flatMap_cons]
    cases k with
    | zero => simp [entC, entAt]
    | succ k =>
      have := ih k (by simpa using h)
      rw [show (k + 1) * 2 = k * 2 + 2 from by omega]
      simp only [entC, entAt] at this ⊢
      simpa using this
theorem ent_len (es : List Ent) : (es.flatMap entC).length = es.length * 2 := by
  induction es with
  | nil => rfl
  | cons a l ih => rw [List.flatMap_cons, List.length_append, ih]; simp [entC]; omega
theorem info59 : (Tryz.prog.info? 75).map (fun i => (i.zero, i.size, i.bytes)) = some (some (.agg #[.string ByteArray.empty, .int .i64 0]), 2, 24) := by kernel_rfl
theorem info37 : (Tryz.prog.info? 64).map (fun i => (i.zero, i.size, i.bytes)) = some (some (.agg #[.int .i64 0, .int .i64 0, .int .i64 0, .int .i64 0, .int .i64 0, .string ByteArray.empty, .slice none 0 0]), 7, 80) := by kernel_rfl

theorem run_append_nil_empty {P : Program} {w : World} (t ty e : TypeId) (i : TypeInfo) (size : Nat) (ht : P.underlying t = some (.slice e)) (hi : P.info? e = some i) (A : Option Addr) (c : Nat) :
    (Builtin.append_ #[t, t] ty #[.slice none 0 0, .slice A 0 c]).run P w = .ok (.slice none 0 0) w := by
  cases A with
  | none => simp [Builtin.append_, run_underlying ht, sizeOf, typeInfo, hi, Builtin.lenOf, Builtin.firstCells]
  | some ad => simp [Builtin.append_, run_underlying ht, sizeOf, typeInfo, hi, Builtin.lenOf, Builtin.firstCells, loadCells, loadCellsFrom]

theorem wpList_copy_ents {w : World} {ops : Array Oper} {rest : List Oper} {o : Oper} {a : Act} {Q : Exit → Act → World → Prop} (hgd : o.guard = none) (s x : Operand)
    (ho : o.op = .call { callee := .builtin .append, args := #[s, x], argTypes := #[62, 62] }) (hs : a.eval s = .slice none 0 0) (ev : Value) (es : List Ent) (B : Nat) (hx : a.eval x = ev) (hE : EntsIn w B ev es)
    (h : ∀ v' w', w'.ownsRow w.heap.size 75 2 v' es.length (es.flatMap entC) → w.grownBy w' none → wpList Tryz.prog ops Q rest (a.put o.dst v') w') : wpList Tryz.prog ops Q (o :: rest) a w := by
  obtain ⟨i0, hi, hz0, hz1, hz2⟩ := info_parts info59
  obtain ⟨h1, h2, ⟨A, c, rfl, rfl⟩ | ⟨b, off, c, rfl, h3, h4, h5, h6⟩⟩ := hE.cases
  · refine wpList_plain hgd fun K hK => ?_
    have hrun := run_append_nil_empty (P := Tryz.prog) (w := w) 62 o.type 75 i0 2 Tryz.underlying62 hi A c
    unfold Oper.wp
    simp [execOp, ho, resolve, invoke, builtin, hs, hx, hrun, Result.andThen]
    exact hK _ _ (h _ _ (World.ownsRow_nil _ _ _ _) (World.grownBy.refl _ _))
  · refine wpList_append_own _ hgd s x 62 ho w.heap.size 75 i0 (.agg #[.string ByteArray.empty, .int .i64 0]) 2 24 Tryz.underlying62 hi hz0 hz1 hz2 rfl (by decide) _ 0 [] hs (World.ownsRow_nil _ _ _ _) ⟨b, off, none⟩ es.length c (es.flatMap entC) hx (ent_len es) ?_ ?_ (maxLen_ok (by omega)) (by omega) (Nat.le_refl _) ?_
    · intro j u hj
      have hjl : j < es.length * 2 := by have := lt_of_get hj; rwa [ent_len] at this
      obtain ⟨e1, e2⟩ := ent_cells es (j / 2) (by omega)
      obtain ⟨g1, g2⟩ := h6 (j / 2) (by omega)
      have hadd : (⟨b, off, none⟩ : Addr).add j = ⟨b, off + j, none⟩ := by simp [Addr.add]
      rw [hadd]
      rcases Nat.mod_two_eq_zero_or_one j with hm | hm
      · rw [show j / 2 * 2 = j from by omega] at e1 g1
        rw [hj] at e1; cases e1; exact g1
      · rw [show j / 2 * 2 + 1 = j from by omega] at e2
        rw [show off + j / 2 * 2 + 1 = off + j from by omega] at g2
        rw [hj] at e2; cases e2; exact g2
    · intro u hu
      obtain ⟨x, _, hx⟩ := List.mem_flatMap.1 hu
      simp [entC] at hx
      rcases hx with rfl | rfl <;> rfl
    · intro v' w' g1 g2 _
      rw [Nat.zero_add, List.nil_append] at g1
      exact h v' w' g1 (by simpa [Value.ownBlock] using g2)

theorem ent_set (es : List Ent) (ρ : Int → Int) (k : Nat) (h : k < es.length) :
    (((es.take k).map (reE ρ) ++ es.drop k).flatMap entC).set (k * 2 + 1) (.int .i64 (ρ (entAt es k).to)) = ((es.take (k + 1)).map (reE ρ) ++ es.drop (k + 1)).flatMap entC := by
  have hd : es.drop k = entAt es k :: es.drop (k + 1) := by
    rw [List.drop_eq_getElem_cons h]; simp [entAt, h]
  have ht : es.take (k + 1) = es.take k ++ [entAt es k] := by
    rw [List.take_succ_eq_append_getElem h]; simp [entAt, h]
  have hl : ((es.take k).map (reE ρ) |>.flatMap entC).length = k * 2 := by rw [ent_len]; simp; omega
  rw [hd, ht, List.flatMap_append, List.flatMap_cons, List.map_append, List.flatMap_append, List.flatMap_append, List.set_append_right _ _ (by omega), hl, Nat.add_sub_cancel_left]
  simp [entC, reE]

/-- A row of nodes, each with its entries. -/
def ndC (p : Nd × Value) : List Value := [.int .i64 p.1.id, .int .i64 p.1.kind, .int .i64 p.1.mode, .int .i64 p.1.owner, .int .i64 p.1.time, .string (nm p.1.data), p.2]
def Rowed (w : World) (base : Nat) (nv : Value) (l : List Nd) : Prop :=
  ∃ ps : List (Nd × Value), ps.map Prod.fst = l ∧ w.ownsRow base 64 7 nv l.length (ps.flatMap ndC) ∧ ∀ p ∈ ps, w.ownsRow base 75 2 p.2 p.1.es.length (p.1.es.flatMap entC)
theorem nd_cells (ps : List (Nd × Value)) : ∀ k (h : k < ps.length), ∀ j, j < 7 → (ps.flatMap ndC)[k * 7 + j]? = (ndC ps[k])[j]? := by
  induction ps with
  | nil => intro k h; simp at h
  | cons a l ih =>
    intro k h j hj
    rw [List.flatMap_cons]
    have hl : (ndC a).length = 7 := rfl
    cases k with
    | zero => rw [Nat.zero_mul, Nat.zero_add, List.getElem?_append_left (by omega)]; rfl
    | succ k =>
      rw [List.getElem?_append_right (by omega), hl, show (k + 1) * 7 + j - 7 = k * 7 + j from by omega, ih k (by simpa using h) j hj]
      rfl
theorem Rowed.nil (w : World) (base : Nat) : Rowed w base (.slice none 0 0) [] := ⟨[], rfl, World.ownsRow_nil _ _ _ _, by simp⟩
theorem rows_apart {w : World} {b1 b2 : Nat} {e1 e2 : TypeId} {s1 s2 n1 n2 : Nat} {v1 v2 : Value} {xs1 xs2 : List Value} (hne : e1 ≠ e2) (h1 : w.ownsRow b1 e1 s1 v1 n1 xs1) (h2 : w.ownsRow b2 e2 s2 v2 n2 xs2) : v1.ownBlock = none ∨ v1.ownBlock ≠ v2.ownBlock := by
  rcases h1.2 with ⟨rfl, _⟩ | ⟨g, cap, cur, rfl, _, hh, _⟩
  · exact .inl rfl
  · rcases h2.2 with ⟨rfl, _⟩ | ⟨g2, cap2, cur2, rfl, _, hh2, _⟩
    · right; simp [Value.ownBlock]
    · right
      intro e
      obtain rfl : g = g2 := by simpa [Value.ownBlock] using e
      rw [hh] at hh2
      have := Option.some.inj hh2
      injection this with _ h _
      exact hne h
theorem grownBy_set (W : World) (a : Addr) (u : Value) : W.grownBy (W.setCell a u) (some a.block) :=
  ⟨rfl, rfl, rfl, by simp, fun k _ hk => heap_setCell_other W a k u (fun e => hk (by rw [e]))⟩
theorem row_grown {W W' : World} {base : Nat} {e : TypeId} {size : Nat} {v : Value} {k : Nat} {xs : List Value} {r : Option Nat} (h : W.ownsRow base e size v k xs) (hg : W.grownBy W' r) (hr : ∀ j, r = some j → v.ownBlock ≠ some j) : W'.ownsRow base e size v k xs := by
  refine h.kept hg ?_
  cases r with
  | none => cases hv : v.ownBlock with
    | none => exact .inl rfl
    | some j => right; simp
  | some j => exact .inr (hr j rfl)

theorem cellsL (W : World) (cs : List Value) (t : TypeId) : ∀ (j : Nat) (u : Value), cs[j]? = some u → (W.alloc (.cells cs.toArray t)).cell? ((⟨W.heap.size, 0, none⟩ : Addr).add j) = some u := by
  intro j u hj
  cases j with
  | zero => simpa [Addr.add] using hj
  | succ j => simpa [Addr.add] using hj
theorem one7 (a b c d e : Int) (s : ByteArray) (A : Option Addr) (n k : Nat) : ∀ u ∈ [Value.int .i64 a, .int .i64 b, .int .i64 c, .int .i64 d, .int .i64 e, .string s, .slice A n k], u.oneCell' = true := by
  intro u hu
  simp at hu
  rcases hu with rfl | rfl | rfl | rfl | rfl | rfl | rfl <;> rfl
theorem ent_here (es : List Ent) (ρ : Int → Int) (k : Nat) (h : k < es.length) : k < ((es.take k).map (reE ρ) ++ es.drop k).length ∧ entAt ((es.take k).map (reE ρ) ++ es.drop k) k = entAt es k := by
  have hl : ((es.take k).map (reE ρ)).length = k := by simp; omega
  refine ⟨by simp; omega, ?_⟩
  unfold entAt
  rw [List.getD_eq_getElem?_getD, List.getElem?_append_right (by omega), hl, Nat.sub_self, List.getElem?_drop, Nat.add_zero, ← List.getD_eq_getElem?_getD]

/-- One node more. -/
theorem Rowed.next {wr wM w7 : World} {base bc i : Nat} {nv v v' : Value} {ps : List (Nd × Value)} {n : Nd} {tmp : Obj} (h1 : wr.ownsRow base 64 7 nv i (ps.flatMap ndC)) (h2 : ∀ p ∈ ps, wr.ownsRow base 75 2 p.2 p.1.es.length (p.1.es.flatMap entC)) (hi : ps.length = i)
    (hbc : bc < base) (hbase : base ≤ wr.heap.size) (hM : Below wr.heap.size wr wM) (hv : wM.ownsRow wr.heap.size 75 2 v n.es.length (n.es.flatMap entC))
    (hg : (wM.alloc tmp).grownBy w7 nv.ownBlock) (h17 : w7.ownsRow base 64 7 v' (i + 1) (ps.flatMap ndC ++ ndC (n, v))) : Rowed (w7.setCell ⟨bc, 0, none⟩ v') base v' (ps.map Prod.fst ++ [n]) := by
  have h1M := row_below h1 hM
  have hs := grownBy_set w7 ⟨bc, 0, none⟩ v'
  have hblk : ∀ {e : TypeId} {size k : Nat} {u : Value} {xs : List Value} {W : World}, W.ownsRow base e size u k xs → ∀ j, some bc = some j → u.ownBlock ≠ some j := by
    intro e size k u xs W hu j hj he
    cases hj
    have := (hu.lt _ he).1
    omega
  refine ⟨ps ++ [(n, v)], by simp, ?_, ?_⟩
  · have := row_grown h17 hs (hblk h17)
    simpa [hi] using this
  · have hne : 75 ≠ 64 := by decide
    have key : ∀ (u : Value) (k : Nat) (xs : List Value), wM.ownsRow base 75 2 u k xs → (w7.setCell ⟨bc, 0, none⟩ v').ownsRow base 75 2 u k xs := by
      intro u k xs hu
      have a1 := hu.alloc tmp
      have a2 := a1.kept hg (rows_apart hne hu h1M)
      exact row_grown a2 hs (hblk a2)
    intro p hp
    rcases List.mem_append.1 hp with hp | hp
    · exact key _ _ _ (row_below (h2 p hp) hM)
    · obtain rfl := List.mem_singleton.1 hp
      exact key _ _ _ (ownsRow_base hv hbase)

theorem Rowed.nodes {w : World} {base : Nat} {nv : Value} {l : List Nd} (h : Rowed w base nv l) (hl : l.length ≤ 140737488351232) (hd : ∀ n ∈ l, n.data.length ≤ 140737488351232 ∧ n.es.length * 24 ≤ 140737488351232 ∧ ∀ x ∈ n.es, x.key.length ≤ 140737488351232 ∧ -9223372036854775808 ≤ x.to ∧ x.to ≤ 9223372036854775807) : NodesIn w w.heap.size nv l := by
  obtain ⟨ps, rfl, h1, h2⟩ := h
  have hrow : ∀ g cap, nv = .slice (some ⟨g, 0, none⟩) (ps.map Prod.fst).length cap → ∀ i, i < (ps.map Prod.fst).length → NodeIn w w.heap.size g (0 + i * 7) (ndAt (ps.map Prod.fst) i) := by
    rintro g cap rfl i hi
    have hil : i < ps.length := by simpa using hi
    have hmem : ps[i] ∈ ps := List.getElem_mem hil
    have hn : ndAt (ps.map Prod.fst) i = ps[i].1 := by simp [ndAt, hil]
    have hc : ∀ j u, j < 7 → (ndC ps[i])[j]? = some u → w.cell? ⟨g, i * 7 + j, none⟩ = some u := fun j u hj hu => row_cells h1 _ _ ((nd_cells ps i hil j hj).trans hu)
    obtain ⟨d1, d2, d3⟩ := hd ps[i].1 (List.mem_map_of_mem hmem)
    rw [hn, Nat.zero_add]
    refine ⟨hc 0 _ (by decide) rfl, hc 1 _ (by decide) rfl, hc 2 _ (by decide) rfl, hc 3 _ (by decide) rfl, hc 4 _ (by decide) rfl, hc 5 _ (by decide) rfl, d1, ps[i].2, hc 6 _ (by decide) rfl, ?_⟩
    have he := h2 _ hmem
    rcases he.2 with ⟨e1, e2⟩ | ⟨ge, cape, cur, e1, e2, e3, e4, _⟩
    · exact ⟨none, 0, by rw [e1, e2], by omega, d2, d3, fun hne => absurd (List.length_eq_zero_iff.1 e2) hne⟩
    · refine ⟨_, _, e1, e4, d2, d3, fun _ => ⟨ge, 0, rfl, (Array.getElem?_eq_some_iff.1 e3).1, fun k hk => ?_⟩⟩
      rw [e1] at he
      obtain ⟨c1, c2⟩ := ent_cells ps[i].1.es k hk
      rw [Nat.zero_add]
      exact ⟨row_cells he _ _ c1, row_cells he _ _ c2⟩
  rcases h1.2 with ⟨e1, e2⟩ | ⟨g, cap, cur, e1, e2, e3, e4, _⟩
  · exact ⟨none, 0, by rw [e1, e2], by omega, hl, fun hne => absurd (List.length_eq_zero_iff.1 e2) hne⟩
  · exact ⟨_, _, e1, e4, hl, fun _ => ⟨g, 0, rfl, (Array.getElem?_eq_some_iff.1 e3).1, fun i hi => by have := hrow g cap e1 i hi; exact this⟩⟩

end Go.Proofs.YtkmnbbocahjmaaaGreatDoor
