/- DERIVED. How parts, and what is gathered, lie in memory; the law of an append to a row of the call's own, inside a region that draws. -/
import Derived.Test.YtgajbehlggikdaaWdArith
import Derived.Deep.RegionLawGrows
import Derived.Laws.BytesArg
import Derived.Laws.IdiomStrings
import Derived.Lib.AppendStr
import Derived.OwnWalk
import Derived.RangeFuncBox
namespace Go
theorem step_append_own {P : Program} {ops : Array Oper} {o : Oper} {a : Act} {w : World} {K : Act → World → Prop} {Q : Exit → Act → World → Prop} {E : Prop}
    (hg : o.guard = none) (s x : Operand) (t : TypeId) (hop : o.op = Op.call { callee := Callee.builtin Builtin.append, args := #[s, x], argTypes := #[t, t] }) (base : Nat)
    (e : TypeId) (i : TypeInfo) (z : Value) (size bytes : Nat) (h1 : P.underlying t = some (.slice e)) (h2 : P.info? e = some i) (h3 : i.zero = some z) (h4 : i.size = size) (h5 : i.bytes = bytes) (h6 : z.cells.size = size) (h7 : 0 < size)
    (v : Value) (n : Nat) (xs : List Value) (hs : a.eval s = v) (hown : w.ownsRow base e size v n xs)
    (ad : Addr) (m c : Nat) (news : List Value) (hx : a.eval x = .slice (some ad) m c) (hn : news.length = m * size) (hc : ∀ j u, news[j]? = some u → w.cell? (ad.add j) = some u) (h1c : ∀ u ∈ news, u.oneCell' = true)
    (b1 : n + m ≤ maxLen) (b2 : (n + m) * bytes ≤ 140737488355328) (hb : base ≤ w.heap.size)
    (hK : ∀ v' w', w'.ownsRow base e size v' (n + m) (xs ++ news) → w.grownBy w' v.ownBlock → K (a.put o.dst v') w') :
    if Region.wanted o (yielded ops a.tmps) = true then Oper.wp P o a w K Q else E := by
  have hw : Region.wanted o (yielded ops a.tmps) = true := by simp [Region.wanted, hg]
  rw [if_pos hw]
  obtain ⟨v', w', hrun, r1, r2, _⟩ := run_append_own (P := P) w base t o.type e i z size bytes h1 h2 h3 h4 h5 h6 h7 v n xs hown ad m c news hn hc h1c b1 b2 hb
  unfold Oper.wp
  simp [execOp, hop, resolve, invoke, builtin, hs, hx, hrun, Result.andThen]
  exact hK v' w' r1 r2
end Go
namespace Go.Proofs.Ytgajbehlggikdaa.Wd
open Go.RowKit
open PathM WdM
set_option linter.unusedVariables false

def ptC (p : PT × Value) : List Value := [.int .i64 p.1.kind, .bool p.1.quoted, .string (nm p.1.text), .string (nm p.1.op), p.2]
def u8C (l : Bs) : List Value := l.map fun b => Value.int .u8 b.toNat
theorem ptC_len (ps : List (PT × Value)) : (ps.flatMap ptC).length = ps.length * 5 := by
  induction ps with
  | nil => rfl
  | cons p ps ih => rw [List.flatMap_cons, List.length_append, ih]; simp [ptC]; omega
def zeroPT : PT := .mk 0 false [] [] []
def ptAt (ps : List (PT × Value)) (i : Nat) : PT × Value := ps.getD i (zeroPT, .slice none 0 0)
/-- A slice of parts, of which the words of the words .. are so deep; S: the blocks in which all of it lies. -/
def PIn : Nat → World → (Nat → Prop) → Value → List PT → Prop
  | 0, _, _, v, l => l = [] ∧ ∃ A c, v = .slice A 0 c
  | d + 1, w, S, v, l => ∃ (A : Option Addr) (c : Nat) (ps : List (PT × Value)), v = .slice A l.length c ∧ l = ps.map Prod.fst ∧ (l.length ≤ 1954687338211 ∧ l.length ≤ c) ∧
      (l ≠ [] → ∃ b off, A = some ⟨b, off, none⟩ ∧ S b ∧ ∀ i, i < ps.length →
        w.cell? ⟨b, off + i * 5, none⟩ = some (.int .i64 (ptAt ps i).1.kind) ∧ w.cell? ⟨b, off + i * 5 + 1, none⟩ = some (.bool (ptAt ps i).1.quoted) ∧
        w.cell? ⟨b, off + i * 5 + 2, none⟩ = some (.string (nm (ptAt ps i).1.text)) ∧ w.cell? ⟨b, off + i * 5 + 3, none⟩ = some (.string (nm (ptAt ps i).1.op)) ∧
        w.cell? ⟨b, off + i * 5 + 4, none⟩ = some (ptAt ps i).2 ∧ PIn d w S (ptAt ps i).2 (ptAt ps i).1.word)
theorem PIn.keep {w w' : World} {S : Nat → Prop} (hk : ∀ k, S k → w'.heap[k]? = w.heap[k]?) : ∀ (d : Nat) (v : Value) (l : List PT), PIn d w S v l → PIn d w' S v l
  | 0, v, l, h => h
  | d + 1, v, l, ⟨A, c, ps, h1, h2, h3, h4⟩ => ⟨A, c, ps, h1, h2, h3, fun hne => by
      obtain ⟨b, off, h5, h6, h7⟩ := h4 hne
      refine ⟨b, off, h5, h6, fun i hi => ?_⟩
      obtain ⟨a0, a1, a2, a3, a4, a5⟩ := h7 i hi
      have e : ∀ j, w'.cell? ⟨b, j, none⟩ = w.cell? ⟨b, j, none⟩ := fun j => World.cell?_of_block (hk b h6)
      exact ⟨(e _).trans a0, (e _).trans a1, (e _).trans a2, (e _).trans a3, (e _).trans a4, PIn.keep hk d _ _ a5⟩⟩
theorem PIn.mono {w : World} {S S' : Nat → Prop} (hk : ∀ k, k < w.heap.size → S k → S' k) : ∀ (d : Nat) (v : Value) (l : List PT), PIn d w S v l → PIn d w S' v l
  | 0, v, l, h => h
  | d + 1, v, l, ⟨A, c, ps, h1, h2, h3, h4⟩ => ⟨A, c, ps, h1, h2, h3, fun hne => by
      obtain ⟨b, off, h5, h6, h7⟩ := h4 hne
      have hp : 0 < ps.length := by rw [h2] at hne; cases ps with | nil => exact absurd rfl hne | cons => simp
      refine ⟨b, off, h5, hk b (World.block_lt_of_cell? _ _ (h7 0 hp).1) h6, fun i hi => ?_⟩
      obtain ⟨a0, a1, a2, a3, a4, a5⟩ := h7 i hi
      exact ⟨a0, a1, a2, a3, a4, PIn.mono hk d _ _ a5⟩⟩
theorem PIn.nil (d : Nat) (w : World) (S : Nat → Prop) (A : Option Addr) (c : Nat) : PIn d w S (.slice A 0 c) [] := by
  cases d with
  | zero => exact ⟨rfl, A, c, rfl⟩
  | succ d => exact ⟨A, c, [], rfl, rfl, by simp, fun h => absurd rfl h⟩

/-- The blocks of what is gathered in gb that are not its own two rows. -/
def PTy (w : World) (k : Nat) : Prop := ∃ cs fr, w.heap[k]? = some (.cells cs 64 fr)
theorem PTy.at {w w' : World} {k : Nat} (h : PTy w k) (hk : w'.heap[k]? = w.heap[k]?) : PTy w' k := by obtain ⟨cs, fr, h⟩ := h; exact ⟨cs, fr, hk.trans h⟩
def Sub (w : World) (gb : Nat) (pv tv : Value) (k : Nat) : Prop := gb < k ∧ k < w.heap.size ∧ pv.ownBlock ≠ some k ∧ tv.ownBlock ≠ some k ∧ PTy w k
/-- What is gathered. -/
structure GIn (d : Nat) (w : World) (gb : Nat) (g : Ga) (pv tv : Value) (ps : List (PT × Value)) : Prop where
  box : w.heap[gb]? = some (.cells #[pv, tv, .bool g.op, .bool g.q] 88 (0, 0))
  parts : g.ps = ps.map Prod.fst
  prow : w.ownsRow (gb + 1) 64 5 pv ps.length (ps.flatMap ptC)
  trow : w.ownsRow (gb + 1) 5 1 tv g.tx.length (u8C g.tx)
  apart : ∀ k, pv.ownBlock = some k → tv.ownBlock ≠ some k
  subs : ∀ p ∈ ps, PIn d w (Sub w gb pv tv) p.2 p.1.word
def GaIn (d : Nat) (w : World) (gb : Nat) (g : Ga) : Prop := ∃ pv tv ps, GIn d w gb g pv tv ps
theorem GIn.kept {d : Nat} {w w' : World} {gb : Nat} {g : Ga} {pv tv : Value} {ps : List (PT × Value)} {S : Nat → Prop} (h : GIn d w gb g pv tv ps) (hk : Kept S w w') (hs : ∀ k, S k → k < gb ∨ w.heap.size ≤ k) : GIn d w' gb g pv tv ps := by
  have hlt := fin_at h.box
  have hg : ∀ k, gb ≤ k → k < w.heap.size → w'.heap[k]? = w.heap[k]? := fun k h1 h2 => hk.block k h2 (fun hh => by have := hs k hh; omega)
  have hrow : ∀ {e : TypeId} {size n : Nat} {v : Value} {xs : List Value}, w.ownsRow (gb + 1) e size v n xs → w'.ownsRow (gb + 1) e size v n xs := by
    intro e size n v xs hr
    refine ⟨hr.1, ?_⟩
    rcases hr.2 with hn | ⟨b, cap, cur, rfl, hb, hgg, rest⟩
    · exact .inl hn
    · exact .inr ⟨b, cap, cur, rfl, hb, (hg b (by omega) (fin_at hgg)).trans hgg, rest⟩
  exact ⟨(hg gb (Nat.le_refl _) hlt).trans h.box, h.parts, hrow h.prow, hrow h.trow, h.apart, fun p hp =>
    PIn.mono (fun k _ hk3 => ⟨hk3.1, Nat.lt_of_lt_of_le hk3.2.1 hk.size, hk3.2.2.1, hk3.2.2.2.1, hk3.2.2.2.2.at (hg k (Nat.le_of_lt hk3.1) hk3.2.1)⟩) d _ _ (PIn.keep (fun k hk2 => hg k (Nat.le_of_lt hk2.1) hk2.2.1) d _ _ (h.subs p hp))⟩
theorem row_setL {W : World} {base g n cap j : Nat} {e : TypeId} {size : Nat} {xs : List Value} (h : W.ownsRow base e size (.slice (some ⟨g, 0, none⟩) n cap) n xs) (u : Value) (hj : j < xs.length) : (W.setCell ⟨g, j, none⟩ u).ownsRow base e size (.slice (some ⟨g, 0, none⟩) n cap) n (xs.set j u) := by
  obtain ⟨h1, h2⟩ := h
  rcases h2 with ⟨h2, _⟩ | ⟨g', cap', cur, h2, h3, h4, h5, h6, h7, h8⟩
  · cases h2
  · cases h2
    refine ⟨by rw [List.length_set]; exact h1, .inr ⟨g, cap, cur.setIfInBounds j u, rfl, h3, set_blk h4 u, h5, h6, by rw [Array.size_setIfInBounds]; exact h7, ?_⟩⟩
    rw [Array.toList_setIfInBounds, List.take_set, h8]
theorem row_five {W : World} {base g n cap : Nat} {e : TypeId} {xs : List Value} {z0 z1 z2 z3 z4 : Value} (h : W.ownsRow base e 5 (.slice (some ⟨g, 0, none⟩) (n + 1) cap) (n + 1) (xs ++ [z0, z1, z2, z3, z4])) (hx : xs.length = n * 5) (y0 y1 y2 y3 y4 : Value) :
    (((((W.setCell ⟨g, n * 5, none⟩ y0).setCell ⟨g, n * 5 + 1, none⟩ y1).setCell ⟨g, n * 5 + 2, none⟩ y2).setCell ⟨g, n * 5 + 3, none⟩ y3).setCell ⟨g, n * 5 + 4, none⟩ y4).ownsRow base e 5 (.slice (some ⟨g, 0, none⟩) (n + 1) cap) (n + 1) (xs ++ [y0, y1, y2, y3, y4]) := by
  have hs : ∀ (k : Nat) (l : List Value) (u : Value), (xs ++ l).set (n * 5 + k) u = xs ++ l.set k u := fun k l u => by
    rw [List.set_append_right _ _ (by omega), hx]; congr 2; omega
  have h0 := row_setL h y0 (j := n * 5) (by simp; omega)
  rw [show n * 5 = n * 5 + 0 from rfl, hs] at h0
  have h1 := row_setL h0 y1 (j := n * 5 + 1) (by simp; omega)
  rw [hs] at h1
  have h2 := row_setL h1 y2 (j := n * 5 + 2) (by simp; omega)
  rw [hs] at h2
  have h3 := row_setL h2 y3 (j := n * 5 + 3) (by simp; omega)
  rw [hs] at h3
  have h4 := row_setL h3 y4 (j := n * 5 + 4) (by simp; omega)
  rw [hs] at h4
  exact h4
theorem row_cell {W : World} {base : Nat} {e : TypeId} {size g n cap : Nat} {xs : List Value} (h : W.ownsRow base e size (.slice (some ⟨g, 0, none⟩) n cap) n xs) (j : Nat) (u : Value) (hj : xs[j]? = some u) : W.cell? ⟨g, j, none⟩ = some u ∧ W.frozen? ⟨g, j, none⟩ = false := by
  have h1 := h.cells (g := g) rfl j u hj
  have hadd : (⟨g, 0, none⟩ : Addr).add j = ⟨g, j, none⟩ := by unfold Addr.add; split <;> simp_all
  rw [hadd] at h1
  obtain ⟨_, h2⟩ := h
  rcases h2 with ⟨h2, _⟩ | ⟨g', cap', cur, h2, h3, h4, _⟩
  · cases h2
  · cases h2
    exact ⟨h1, froz_blk h4 j⟩
theorem cellsL (W : World) (cs : List Value) (t : TypeId) : ∀ (j : Nat) (u : Value), cs[j]? = some u → (W.alloc (.cells cs.toArray t)).cell? ((⟨W.heap.size, 0, none⟩ : Addr).add j) = some u := by
  intro j u hj
  have hadd : (⟨W.heap.size, 0, none⟩ : Addr).add j = ⟨W.heap.size, j, none⟩ := by unfold Addr.add; split <;> simp_all
  rw [hadd]
  have h1 : (W.alloc (.cells cs.toArray t)).heap[W.heap.size]? = some (.cells cs.toArray t) := heap_alloc_new W _
  rw [cell_blk h1 j]
  simpa using hj
theorem partInfo : (Try.prog.info? 64).map (fun i => (i.zero, i.size, i.bytes)) = some (some (.agg #[.int .i64 0, .bool false, .string ⟨#[]⟩, .string ⟨#[]⟩, .slice none 0 0]), 5, 72) := by kernel_rfl
theorem u8Info : (Try.prog.info? 5).map (fun i => (i.zero, i.size, i.bytes)) = some (some (.int .u8 0), 1, 1) := by kernel_rfl
/-- A text's row as a text. -/
theorem conv_row {W : World} {base : Nat} {tv : Value} {l : Bs} (h : W.ownsRow base 5 1 tv l.length (u8C l)) : (convert 44 9 tv).run Try.prog W = .ok (.string (nm l)) W := by
  rcases h.2 with ⟨rfl, h0⟩ | ⟨g, cap, cur, rfl, _⟩
  · have : l = [] := List.length_eq_zero_iff.1 h0
    subst this
    exact run_convert_bytes_nil W _ _ Try.underlying44 Try.underlying5 0 0 _ Try.underlying9
  · refine run_convert_bytes_back W _ _ _ ⟨g, 0, none⟩ cap l Try.underlying44 Try.underlying5 Try.underlying9 fun j hj => h.cells (g := g) rfl j _ ?_
    unfold u8C
    rw [List.getElem?_map, List.getElem?_eq_getElem hj]
    rfl

end Go.Proofs.Ytgajbehlggikdaa.Wd
