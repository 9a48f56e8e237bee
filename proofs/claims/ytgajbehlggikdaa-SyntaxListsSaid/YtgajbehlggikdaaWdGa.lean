/- DERIVED. Walks over what gathers parts: close, put, add. -/
import Derived.Test.YtgajbehlggikdaaWdMem
import Derived.Deep.AppendLies
import Derived.Deep.RegionHeld3
namespace Go.Proofs.Ytgajbehlggikdaa.Wd
open Go.RowKit
open PathM WdM
set_option linter.unusedVariables false
theorem zc_one : ∀ u ∈ [Value.int .i64 0, Value.bool false, Value.string ⟨#[]⟩, Value.string ⟨#[]⟩, Value.slice none 0 0], u.oneCell' = true := by
  intro u hu
  simp at hu
  rcases hu with rfl | rfl | rfl | rfl <;> rfl
theorem row_len {W : World} {base : Nat} {e : TypeId} {size : Nat} {v : Value} {k : Nat} {xs : List Value} (h : W.ownsRow base e size v k xs) : ∃ a cap, v = .slice a k cap := by
  rcases h.2 with ⟨rfl, rfl⟩ | ⟨g, cap, _, rfl, _⟩
  · exact ⟨_, _, rfl⟩
  · exact ⟨_, _, rfl⟩
theorem zc_at {ps : List (PT × Value)} {n : Nat} (hn : ps.length = n) (j : Nat) (u : Value) (l : List Value) (h : l[j]? = some u) : (ps.flatMap ptC ++ l)[n * 5 + j]? = some u := by
  rw [List.getElem?_append_right (by rw [ptC_len, hn]; omega), ptC_len, hn]
  rw [show n * 5 + j - n * 5 = j from by omega]
  exact h
theorem row_tail {W : World} {base g n cap : Nat} {e : TypeId} {ps : List (PT × Value)} {z0 z1 z2 z3 z4 : Value} (h : W.ownsRow base e 5 (.slice (some ⟨g, 0, none⟩) (ps.length + 1) cap) (ps.length + 1) (ps.flatMap ptC ++ [z0, z1, z2, z3, z4])) (hn : ps.length = n) :
    (W.cell? ⟨g, n * 5, none⟩ = some z0 ∧ W.cell? ⟨g, n * 5 + 1, none⟩ = some z1 ∧ W.cell? ⟨g, n * 5 + 2, none⟩ = some z2 ∧ W.cell? ⟨g, n * 5 + 3, none⟩ = some z3 ∧ W.cell? ⟨g, n * 5 + 4, none⟩ = some z4) ∧
    (W.frozen? ⟨g, n * 5, none⟩ = false ∧ W.frozen? ⟨g, n * 5 + 1, none⟩ = false ∧ W.frozen? ⟨g, n * 5 + 2, none⟩ = false ∧ W.frozen? ⟨g, n * 5 + 3, none⟩ = false ∧ W.frozen? ⟨g, n * 5 + 4, none⟩ = false) := by
  have a0 := row_cell h (n * 5 + 0) z0 (zc_at hn 0 z0 _ rfl)
  have a1 := row_cell h (n * 5 + 1) z1 (zc_at hn 1 z1 _ rfl)
  have a2 := row_cell h (n * 5 + 2) z2 (zc_at hn 2 z2 _ rfl)
  have a3 := row_cell h (n * 5 + 3) z3 (zc_at hn 3 z3 _ rfl)
  have a4 := row_cell h (n * 5 + 4) z4 (zc_at hn 4 z4 _ rfl)
  exact ⟨⟨a0.1, a1.1, a2.1, a3.1, a4.1⟩, a0.2, a1.2, a2.2, a3.2, a4.2⟩
theorem box_grown {W w7 : World} {gb n : Nat} {e : TypeId} {size : Nat} {v : Value} {xs : List Value} {o : Obj} {cs : Array Value} {t : TypeId} (hb : W.heap[gb]? = some (.cells cs t (0, 0))) (hr : W.ownsRow (gb + 1) e size v n xs) (hg : (W.drew.alloc o).grownBy w7 v.ownBlock) : w7.heap[gb]? = some (.cells cs t (0, 0)) :=
  (hg.block gb (by have := fin_at hb; simp; omega) (fun e => by have := (hr.lt gb e.symm).1; omega)).trans ((Below.heap_alloc W.drew o gb (fin_at hb)).trans hb)

/-- What a region that closes what is gathered reads: the text's slice, and its mark; and the text's row. -/
structure Hold (gb : Nat) (tv : Value) (tx : Bs) (q : Bool) (W : World) : Prop where
  c1 : W.cell? ⟨gb, 1, none⟩ = some tv
  c3 : W.cell? ⟨gb, 3, none⟩ = some (.bool q)
  row : W.ownsRow (gb + 1) 5 1 tv tx.length (u8C tx)
theorem Hold.all {gb : Nat} {tv : Value} {tx : Bs} {q : Bool} {W : World} (h : Hold gb tv tx q W) : W.cell? ⟨gb, 1, none⟩ = some tv ∧ W.cell? ⟨gb, 3, none⟩ = some (.bool q) ∧ (convert 44 9 tv).run Try.prog W = .ok (.string (nm tx)) W := ⟨h.c1, h.c3, conv_row h.row⟩
theorem Hold.set {gb : Nat} {tv : Value} {tx : Bs} {q : Bool} {W : World} (h : Hold gb tv tx q W) (a : Addr) (u : Value) (ha : a = ⟨gb, 0, none⟩ ∨ (gb < a.block ∧ tv.ownBlock ≠ some a.block)) : Hold gb tv tx q (W.setCell a u) := by
  have hr : tv.ownBlock = none ∨ tv.ownBlock ≠ some a.block := by
    rcases ha with rfl | h1
    · refine .inr fun e => ?_
      have := (h.row.lt _ e).1
      simp only at this
      omega
    · exact .inr h1.2
  have hc : ∀ j, j ≠ 0 → (W.setCell a u).cell? ⟨gb, j, none⟩ = W.cell? ⟨gb, j, none⟩ := fun j hj => by
    rcases ha with rfl | h1
    · exact cell_off W _ 0 j u (fun e => hj e.symm)
    · exact World.cell?_of_block (Below.heap_setCell W a u gb (by omega))
  exact ⟨(hc 1 (by decide)).trans h.c1, (hc 3 (by decide)).trans h.c3, h.row.kept (row := some a.block) ⟨rfl, rfl, rfl, by simp, fun k hk hne => Below.heap_setCell _ _ _ _ (fun e => hne (by rw [e]))⟩ hr⟩

theorem Hold.five {gb g7 n : Nat} {tv : Value} {tx : Bs} {q : Bool} {W : World} (h : Hold gb tv tx q W) (hg : gb < g7) (ht : tv.ownBlock ≠ some g7) (y0 y1 y2 y3 y4 : Value) :
    Hold gb tv tx q (((((W.setCell ⟨g7, n * 5, none⟩ y0).setCell ⟨g7, n * 5 + 1, none⟩ y1).setCell ⟨g7, n * 5 + 2, none⟩ y2).setCell ⟨g7, n * 5 + 3, none⟩ y3).setCell ⟨g7, n * 5 + 4, none⟩ y4) :=
  ((((h.set _ _ (.inr ⟨hg, ht⟩)).set _ _ (.inr ⟨hg, ht⟩)).set _ _ (.inr ⟨hg, ht⟩)).set _ _ (.inr ⟨hg, ht⟩)).set _ _ (.inr ⟨hg, ht⟩)
theorem Hold.of {d gb : Nat} {g : Ga} {pv tv : Value} {ps : List (PT × Value)} {w : World} (h : GIn d w gb g pv tv ps) : Hold gb tv g.tx g.q w := ⟨cell_blk h.box 1, cell_blk h.box 3, h.trow⟩
/-- What an append of a part leaves. -/
structure App (d gb : Nat) (g : Ga) (pv tv : Value) (ps : List (PT × Value)) (w w7 : World) (g7 c7 : Nat) : Prop where
  gt : gb < g7
  lt : g7 < w7.heap.size
  box : w7.heap[gb]? = some (.cells #[pv, tv, .bool g.op, .bool g.q] 88 (0, 0))
  row : w7.ownsRow (gb + 1) 64 5 (.slice (some ⟨g7, 0, none⟩) (ps.length + 1) c7) (ps.length + 1) (ps.flatMap ptC ++ [.int .i64 0, .bool false, .string ⟨#[]⟩, .string ⟨#[]⟩, .slice none 0 0])
  other : tv.ownBlock ≠ some g7
  hold : Hold gb tv g.tx g.q w7
  sub : ∀ k, Sub w gb pv tv k → k ≠ g7 ∧ w7.heap[k]? = w.heap[k]?
  kept : Kept (fun k => pv.ownBlock = some k) w w7
  new : pv.ownBlock = some g7 ∨ w.heap.size ≤ g7
theorem app_of {d gb : Nat} {g : Ga} {pv tv : Value} {ps : List (PT × Value)} {w w7 : World} {g7 c7 H : Nat} {o : Obj} (h : GIn d w gb g pv tv ps) (hH : w.heap.size < H)
    (hown : w7.ownsRow (gb + 1) 64 5 (.slice (some ⟨g7, 0, none⟩) (ps.length + 1) c7) (ps.length + 1) (ps.flatMap ptC ++ [.int .i64 0, .bool false, .string ⟨#[]⟩, .string ⟨#[]⟩, .slice none 0 0]))
    (hg : (w.drew.alloc o).grownBy w7 pv.ownBlock) (hat : pv.ownBlock = some g7 ∨ g7 = H) (hlt : g7 < w7.heap.size) : App d gb g pv tv ps w w7 g7 c7 := by
  have hsz : (w.drew.alloc o).heap.size = w.heap.size + 1 := by simp
  have hbox := box_grown h.box h.prow hg
  have hne : tv.ownBlock ≠ some g7 := by
    rcases hat with h1 | h1
    · exact h.apart _ h1
    · intro e; have := (h.trow.lt _ e).2; omega
  have hblk : ∀ k, k < w.heap.size → pv.ownBlock ≠ some k → w7.heap[k]? = w.heap[k]? := fun k h1 h2 =>
    (hg.block k (by omega) (fun e => h2 e.symm)).trans (Below.heap_alloc w.drew o k h1)
  have htr : w7.ownsRow (gb + 1) 5 1 tv g.tx.length (u8C g.tx) := by
    refine (World.ownsRow.alloc (w := w.drew) h.trow o).kept hg ?_
    cases hv : tv.ownBlock with
    | none => exact .inl rfl
    | some k => exact .inr fun e => h.apart k e.symm hv
  refine ⟨(hown.lt g7 rfl).1, hlt, hbox, hown, hne, ⟨cell_blk hbox 1, cell_blk hbox 3, htr⟩, fun k hk => ?_, ?_, ?_⟩
  · refine ⟨fun e => ?_, hblk k hk.2.1 hk.2.2.1⟩
    rcases hat with h1 | h1
    · exact hk.2.2.1 (by rw [e]; exact h1)
    · have := hk.2.1; omega
  · exact ⟨hg.os, hg.tape, hg.output, by have := hg.size; omega, fun k h1 h2 => hblk k h1 h2⟩
  · rcases hat with h1 | h1
    · exact .inl h1
    · exact .inr (by omega)
theorem app_done {d gb : Nat} {g : Ga} {pv tv : Value} {ps : List (PT × Value)} {w w7 W8 : World} {g7 c7 : Nat} (h : GIn d w gb g pv tv ps) (ha : App d gb g pv tv ps w w7 g7 c7) (p : PT) (v : Value)
    (hv : PIn d w (Sub w gb pv tv) v p.word)
    (hb : W8.heap[gb]? = some (.cells #[.slice (some ⟨g7, 0, none⟩) (ps.length + 1) c7, tv, .bool g.op, .bool g.q] 88 (0, 0)))
    (hr : W8.ownsRow (gb + 1) 64 5 (.slice (some ⟨g7, 0, none⟩) (ps.length + 1) c7) (ps.length + 1) (ps.flatMap ptC ++ ptC (p, v)))
    (hk : Kept (fun k => k = gb ∨ k = g7) w7 W8) : GIn d W8 gb { g with ps := g.ps ++ [p] } (.slice (some ⟨g7, 0, none⟩) (ps.length + 1) c7) tv (ps ++ [(p, v)]) ∧ Kept (fun k => k = gb ∨ pv.ownBlock = some k) w W8 := by
  have hsub : ∀ k, Sub w gb pv tv k → W8.heap[k]? = w.heap[k]? := fun k h1 =>
    (hk.block k (Nat.lt_of_lt_of_le h1.2.1 ha.kept.size) (fun e => by
      rcases e with e | e
      · have := h1.1; omega
      · exact (ha.sub k h1).1 e)).trans (ha.sub k h1).2
  have hsub2 : ∀ k, Sub w gb pv tv k → Sub W8 gb (.slice (some ⟨g7, 0, none⟩) (ps.length + 1) c7) tv k := fun k h1 =>
    ⟨h1.1, Nat.lt_of_lt_of_le h1.2.1 (Nat.le_trans ha.kept.size hk.size), fun e => (ha.sub k h1).1 (by injection e with e; exact e.symm), h1.2.2.2.1, h1.2.2.2.2.at (hsub k h1)⟩
  have hP : ∀ (u : Value) (l : List PT), PIn d w (Sub w gb pv tv) u l → PIn d W8 (Sub W8 gb (.slice (some ⟨g7, 0, none⟩) (ps.length + 1) c7) tv) u l := fun u l h1 =>
    PIn.mono (fun k _ => hsub2 k) d u l (PIn.keep hsub d u l h1)
  refine ⟨⟨hb, by rw [List.map_append, ← h.parts]; rfl, ?_, ?_, ?_, ?_⟩, (ha.kept.mono fun k e => .inr e).then hk fun k h1 e => ?_⟩
  · rw [List.length_append, List.flatMap_append]
    simpa using hr
  · have htr := ha.hold.row
    refine ⟨htr.1, ?_⟩
    rcases htr.2 with hn | ⟨b, cap, cur, he, hb2, hgg, rest⟩
    · exact .inl hn
    · refine .inr ⟨b, cap, cur, he, hb2, (hk.block b (fin_at hgg) (fun e => ?_)).trans hgg, rest⟩
      rcases e with e | e
      · omega
      · exact ha.other (by rw [he, ← e]; rfl)
  · intro k hk2
    injection hk2 with hk2
    rw [← hk2]; exact ha.other
  · intro q hq
    rcases List.mem_append.1 hq with h1 | h1
    · exact hP _ _ (h.subs q h1)
    · rw [List.mem_singleton.1 h1]; exact hP _ _ hv
  · rcases e with e | rfl
    · exact .inl e
    · rcases ha.new with h2 | h2
      · exact .inr h2
      · omega

theorem GIn.reset {d gb : Nat} {g : Ga} {pv tv : Value} {ps : List (PT × Value)} {w : World} (h : GIn d w gb g pv tv ps) (tv' : Value) (op q : Bool) (tx : Bs) (ho : tv'.ownBlock = tv.ownBlock) (hr : w.ownsRow (gb + 1) 5 1 tv' tx.length (u8C tx)) {W : World}
    (hb : W.heap[gb]? = some (.cells #[pv, tv', .bool op, .bool q] 88 (0, 0))) (hk : Kept (· = gb) w W) : GIn d W gb ⟨g.ps, tx, op, q⟩ pv tv' ps := by
  have hrow : ∀ {e : TypeId} {size n : Nat} {v : Value} {xs : List Value}, w.ownsRow (gb + 1) e size v n xs → W.ownsRow (gb + 1) e size v n xs := by
    intro e size n v xs hr
    refine ⟨hr.1, ?_⟩
    rcases hr.2 with hn | ⟨b, cap, cur, rfl, hb, hgg, rest⟩
    · exact .inl hn
    · exact .inr ⟨b, cap, cur, rfl, hb, (hk.block b (fin_at hgg) (by omega)).trans hgg, rest⟩
  refine ⟨hb, h.parts, hrow h.prow, hrow hr, fun k hk2 => by rw [ho]; exact h.apart k hk2, fun p hp => ?_⟩
  refine PIn.mono (fun k _ hk3 => ?_) d _ _ (PIn.keep (fun k hk2 => hk.block k hk2.2.1 (by have := hk2.1; omega)) d _ _ (h.subs p hp))
  exact ⟨hk3.1, Nat.lt_of_lt_of_le hk3.2.1 hk.size, hk3.2.2.1, by rw [ho]; exact hk3.2.2.2.1, hk3.2.2.2.2.at (hk.block k hk3.2.1 (by have := hk3.1; omega))⟩

/-- What is gathered, in rows that were its own, or that w had not. -/
def GaFrom (d : Nat) (w w' : World) (gb : Nat) (g : Ga) (pv tv : Value) : Prop :=
  ∃ pv' tv' ps, GIn d w' gb g pv' tv' ps ∧ (∀ k, k < w.heap.size → pv'.ownBlock = some k → pv.ownBlock = some k) ∧ (∀ k, k < w.heap.size → tv'.ownBlock = some k → tv.ownBlock = some k)
theorem GaFrom.in_ {d : Nat} {w w' : World} {gb : Nat} {g : Ga} {pv tv : Value} (h : GaFrom d w w' gb g pv tv) : GaIn d w' gb g := by obtain ⟨a, b, c, h, _⟩ := h; exact ⟨a, b, c, h⟩
theorem app_fresh {d gb : Nat} {g : Ga} {pv tv : Value} {ps : List (PT × Value)} {w w7 : World} {g7 c7 n : Nat} (ha : App d gb g pv tv ps w w7 g7 c7) : ∀ k, k < w.heap.size → (Value.slice (some ⟨g7, 0, none⟩) n c7).ownBlock = some k → pv.ownBlock = some k := by
  intro k hk e
  injection e with e
  rcases ha.new with h | h
  · rw [h, ← e]
  · simp only at e; omega

end Go.Proofs.Ytgajbehlggikdaa.Wd
