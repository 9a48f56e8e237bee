/- DERIVED. The law VtreeBinds: entries in which a name leads to another node, or to none. -/
import Derived.Test.YtpicgkoclbpjpaaGreatDoorVnG12
import Derived.Test.YtpicgkoclbpjpaaGreatDoorVnG7
import Derived.Test.YtpicgkoclbpjpaaGreatDoorVnG5
import Derived.Test.YtpicgkoclbpjpaaGreatDoorVnG4
import Derived.Lib.QuietBelow
import Derived.Deep.LoopGhost
namespace Go.Proofs.YtpicgkoclbpjpaaGreatDoor
open Go.RowKit Go.Sort Go.Lib Go.Shelf
open PathM TreeM VtM
set_option linter.unusedVariables false
attribute [local go_sem] cell_rg
theorem ents_at {w : World} {B n c : Nat} {A : Option Addr} {es : List Ent} (h : EntsIn w B (.slice A n c) es) {k : Nat} (hk : k < es.length) :
    ∃ b off, A = some ⟨b, off, none⟩ ∧ b < B ∧ w.cell? ⟨b, off + k * 2, none⟩ = some (.string (nm (entAt es k).key)) ∧ w.cell? ⟨b, off + k * 2 + 1, none⟩ = some (.int .i64 (entAt es k).to) := by
  obtain ⟨A', c', e, _, _, _, h5⟩ := h
  cases e
  obtain ⟨b, off, h6, h7, h8⟩ := h5 (by rintro rfl; simp at hk)
  exact ⟨b, off, h6, h7, h8 k hk⟩
/-- The tree's box and what was there before. -/
def CB (w : World) (tv : Array Value) (W : World) : Prop := W.heap[w.heap.size]? = some (.cells tv 26 (0, 0)) ∧ Below w.heap.size w W
theorem CB.next {w W W' : World} {tv : Array Value} (h : CB w tv W) (hb : Below W.heap.size W W') : CB w tv W' := ⟨(hb.block _ (fin_at h.1)).trans h.1, h.2.trans (hb.mono h.2.size)⟩
theorem CB.cells {w W : World} {t0 t1 t2 t3 : Value} (h : CB w #[t0, t1, t2, t3] W) : W.cell? ⟨w.heap.size, 0, none⟩ = some t0 ∧ W.cell? ⟨w.heap.size, 1, none⟩ = some t1 ∧ W.cell? ⟨w.heap.size, 2, none⟩ = some t2 ∧ W.cell? ⟨w.heap.size, 3, none⟩ = some t3 := by
  refine ⟨?_, ?_, ?_, ?_⟩ <;> (rw [cell_blk h.1]; rfl)
/-- What the law holds in its loops. -/
structure BD (w : World) (bn : Nat) (nv : Array Value) (ev lv : Value) (es l : List Ent) (W : World) : Prop where
  node : W.heap[bn]? = some (.cells nv 64 (0, 0))
  below : Below w.heap.size w W
  es : EntsIn W W.heap.size ev es
  l : EntsIn W W.heap.size lv l
theorem BD.next {w W W' : World} {bn : Nat} {nv : Array Value} {ev lv : Value} {es l : List Ent} (h : BD w bn nv ev lv es l W) (hb : Below W.heap.size W W') : BD w bn nv ev lv es l W' :=
  ⟨(hb.block _ (fin_at h.node)).trans h.node, h.below.trans (hb.mono h.below.size), (h.es.below hb).more hb.size, (h.l.below hb).more hb.size⟩
theorem small_ents {t : Tr} (h : smallB t = true) (hl : t.nodes.length ≤ 512) {r : Nat} (hr : r < t.nodes.length) : (ndAt t.nodes r).es.length ≤ 200 := by
  unfold smallB at h
  simp only [Bool.and_eq_true, Bool.or_eq_true, decide_eq_true_eq] at h
  obtain ⟨_, h1, h2⟩ := h
  have h3 : t.nodes.length ≤ 60 := by omega
  have := allTo_iff.1 h1 r (by omega)
  simp [okSm] at this
  exact this.1
end Go.Proofs.YtpicgkoclbpjpaaGreatDoor
