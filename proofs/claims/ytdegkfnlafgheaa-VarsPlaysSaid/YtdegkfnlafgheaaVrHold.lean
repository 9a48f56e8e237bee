/- DERIVED. What lies where, behind writing elsewhere; both tables side by side. -/
import Derived.Test.YtdegkfnlafgheaaVrRNew
namespace Go.Proofs.Ytdegkfnlafgheaa.Vr
open Go.RowKit
open PathM WdM VrM
open Go.Proofs.Ytdegkfnlafgheaa.Wd
set_option linter.unusedVariables false
theorem VsIn.kept {S : Nat → Prop} {W W' : World} {v : Value} {vs : Vs} (h : VsIn W v vs) (hk : Kept S W W') (hs : ∀ b, v.ownBlock = some b → b < W.heap.size → ¬ S b) : VsIn W' v vs := by
  obtain ⟨A, c, hv, hl, h⟩ := h
  refine ⟨A, c, hv, hl, fun hne => ?_⟩
  obtain ⟨b, off, hA, hlt, hc⟩ := h hne
  have e := hk.block b hlt (hs b (by rw [hv, hA]; rfl) hlt)
  exact ⟨b, off, hA, Nat.lt_of_lt_of_le hlt hk.size, fun i hi => ⟨(World.cell?_of_block e).trans (hc i hi).1, (World.cell?_of_block e).trans (hc i hi).2⟩⟩
theorem ArIn.own {W : World} {v : Value} {ps : List Bs} (h : ArIn W v ps) (hne : ps ≠ []) {b : Nat} (hb : v.ownBlock = some b) : b < W.heap.size := by
  obtain ⟨A, c, rfl, _, h⟩ := h
  obtain ⟨b', off, rfl, hlt, _⟩ := h hne
  obtain rfl : b' = b := by simpa [Value.ownBlock] using hb
  exact hlt
theorem ArIn.kept {S : Nat → Prop} {W W' : World} {v : Value} {ps : List Bs} (h : ArIn W v ps) (hk : Kept S W W') (hs : ps ≠ [] → ∀ b, v.ownBlock = some b → b < W.heap.size → ¬ S b) : ArIn W' v ps := by
  obtain ⟨A, c, hv, hl, h⟩ := h
  refine ⟨A, c, hv, hl, fun hne => ?_⟩
  obtain ⟨b, off, hA, hlt, hc⟩ := h hne
  have e := hk.block b hlt (hs hne b (by rw [hv, hA]; rfl) hlt)
  exact ⟨b, off, hA, Nat.lt_of_lt_of_le hlt hk.size, fun i hi => (World.cell?_of_block e).trans (hc i hi)⟩
theorem TbX.kept {S : Nat → Prop} {base tb : Nat} {st : Int} {vs : Vs} {vv av : Value} {ps : List Bs} {w w' : World} (h : TbX base w tb st vs vv ps av) (hk : Kept S w w') (h1 : ¬ S tb) (h2 : ∀ b, vv.ownBlock = some b → ¬ S b) (h3 : ∀ b, av.ownBlock = some b → ¬ S b) : TbX base w' tb st vs vv ps av :=
  ⟨hk.at h.box h1, row_kept h.row hk h2, row_kept h.arow hk h3, h.ap1, h.ap2, h.ap3, h.hb, h.len, h.srt, h.vlen, h.plen, h.plens⟩
theorem TbX.stat {base tb : Nat} {st : Int} {vs : Vs} {vv av : Value} {ps : List Bs} {w : World} (h : TbX base w tb st vs vv ps av) (st' : Int) : TbX base (w.setCell ⟨tb, 0, none⟩ (.int .i64 st')) tb st' vs vv ps av :=
  ⟨set_blk (j := 0) h.box _, ownsRow_setCell_other h.row (a := ⟨tb, 0, none⟩) h.ap1 _, ownsRow_setCell_other h.arow (a := ⟨tb, 0, none⟩) h.ap2 _, h.ap1, h.ap2, h.ap3, h.hb, h.len, h.srt, h.vlen, h.plen, h.plens⟩
/-- The status is written in both tables. -/
theorem both_stat {base tb : Nat} {vs : Vs} {vv av vv2 a : Value} {qs qs2 : List Bs} {w W : World} (st : Int) (h : TbX base W tb 0 vs vv qs av) (hv : VsIn W vv2 vs) (ha : ArIn W a qs2) (p1 : vv2.ownBlock ≠ some tb) (p2 : qs2 ≠ [] → a.ownBlock ≠ some tb) (hb : Below w.heap.size w W) (hw : w.heap.size ≤ tb) (W4 : World)
    (hW : W4 = (W.setCell ⟨tb, 0, none⟩ (.int .i64 st)).alloc (.cells #[vv2, a, .int .i64 st] 36)) :
    TbX base W4 tb st vs vv qs av ∧ VsIn W4 vv2 vs ∧ ArIn W4 a qs2 ∧ Below w.heap.size w W4 ∧ W4.heap[W.heap.size]? = some (.cells #[vv2, a, .int .i64 st] 36 (0, 0)) := by
  subst hW
  have hk : Kept (fun k => k = tb) W (W.setCell ⟨tb, 0, none⟩ (.int .i64 st)) := Kept.setCell (S := fun k => k = tb) ⟨tb, 0, none⟩ _ rfl
  have ha1 := one_below (W.setCell ⟨tb, 0, none⟩ (.int .i64 st)) (.cells #[vv2, a, .int .i64 st] 36)
  have hsz : (W.setCell ⟨tb, 0, none⟩ (.int .i64 st)).heap.size = W.heap.size := by simp
  refine ⟨(h.stat st).below ha1, (hv.kept hk (fun b e hlt e2 => ?_)).below ha1, (ha.kept hk (fun hne b e hlt e2 => ?_)).below ha1, ?_, ?_⟩
  · subst e2; exact p1 e
  · subst e2; exact p2 hne e
  · have hb2 : Below w.heap.size w (W.setCell ⟨tb, 0, none⟩ (.int .i64 st)) := set1_below hb hw
    exact hb2.trans (ha1.mono hb2.size)
  · have := heap_alloc_new (W.setCell ⟨tb, 0, none⟩ (.int .i64 st)) (.cells #[vv2, a, .int .i64 st] 36)
    rw [hsz] at this
    exact this
end Go.Proofs.Ytdegkfnlafgheaa.Vr
