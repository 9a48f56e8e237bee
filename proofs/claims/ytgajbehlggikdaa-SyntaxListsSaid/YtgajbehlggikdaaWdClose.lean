/- DERIVED. The walks over gather's close. -/
import Derived.Test.YtgajbehlggikdaaWdGa
namespace Go.Proofs.Ytgajbehlggikdaa.Wd
open Go.RowKit
open PathM WdM
set_option linter.unusedVariables false
theorem Hold.drew {gb : Nat} {tv : Value} {tx : Bs} {q : Bool} {W : World} (h : Hold gb tv tx q W) : Hold gb tv tx q W.drew := ⟨h.c1, h.c3, h.row⟩
theorem Hold.alloc {gb : Nat} {tv : Value} {tx : Bs} {q : Bool} {W : World} (h : Hold gb tv tx q W) (o : Obj) : Hold gb tv tx q (W.alloc o) := by
  have hlt : gb < W.heap.size := World.block_lt_of_cell? _ _ h.c1
  exact ⟨(World.cell?_of_block (Below.heap_alloc W o gb hlt)).trans h.c1, (World.cell?_of_block (Below.heap_alloc W o gb hlt)).trans h.c3, h.row.alloc o⟩
theorem row_form {W : World} {base : Nat} {e : TypeId} {size n : Nat} {v : Value} {xs : List Value} (h : W.ownsRow base e size v n xs) : (v = .slice none 0 0 ∧ n = 0) ∨ ∃ g cap, v = .slice (some ⟨g, 0, none⟩) n cap := by
  rcases h.2 with h1 | ⟨g, cap, _, rfl, _⟩
  · exact .inl h1
  · exact .inr ⟨g, cap, rfl⟩
theorem row_none {W : World} {base : Nat} {e : TypeId} {g n cap size : Nat} {xs : List Value} (h : W.ownsRow base e size (.slice (some ⟨g, 0, none⟩) n cap) n xs) : W.ownsRow base e size (.slice (some ⟨g, 0, none⟩) 0 cap) 0 [] := by
  obtain ⟨h1, h2⟩ := h
  rcases h2 with ⟨h2, _⟩ | ⟨g', cap', cur, h2, h3, h4, h5, h6, h7, h8⟩
  · cases h2
  · cases h2
    exact ⟨by simp, .inr ⟨g, cap, cur, rfl, h3, h4, by omega, h6, h7, by simp⟩⟩

theorem set_far {W : World} {b c j : Nat} {cs : Array Value} {t : TypeId} (h : W.heap[b]? = some (.cells cs t (0, 0))) (hne : b ≠ c) (u : Value) : (W.setCell ⟨c, j, none⟩ u).heap[b]? = some (.cells cs t (0, 0)) := (Below.heap_setCell W ⟨c, j, none⟩ u b hne).trans h
theorem fives_kept {S : Nat → Prop} (W : World) {b : Nat} (hb : S b) (n : Nat) (y0 y1 y2 y3 y4 : Value) :
    Kept S W (((((W.setCell ⟨b, n * 5, none⟩ y0).setCell ⟨b, n * 5 + 1, none⟩ y1).setCell ⟨b, n * 5 + 2, none⟩ y2).setCell ⟨b, n * 5 + 3, none⟩ y3).setCell ⟨b, n * 5 + 4, none⟩ y4) :=
  ((((Kept.setCell _ y0 hb).trans (Kept.setCell _ y1 hb)).trans (Kept.setCell _ y2 hb)).trans (Kept.setCell _ y3 hb)).trans (Kept.setCell _ y4 hb)
section
variable {d gb : Nat} {g : Ga} {pv tv : Value} {ps : List (PT × Value)} {w w7 : World} {g7 c7 : Nat}
theorem app_A (h : GIn d w gb g pv tv ps) (ha : App d gb g pv tv ps w w7 g7 c7) (p : PT) (v : Value) (hv : PIn d w (Sub w gb pv tv) v p.word) :
    GIn d ((((((w7.setCell ⟨g7, ps.length * 5, none⟩ (.int .i64 p.kind)).setCell ⟨g7, ps.length * 5 + 1, none⟩ (.bool p.quoted)).setCell ⟨g7, ps.length * 5 + 2, none⟩ (.string (nm p.text))).setCell ⟨g7, ps.length * 5 + 3, none⟩ (.string (nm p.op))).setCell ⟨g7, ps.length * 5 + 4, none⟩ v).setCell ⟨gb, 0, none⟩ (.slice (some ⟨g7, 0, none⟩) (ps.length + 1) c7)) gb { g with ps := g.ps ++ [p] } (.slice (some ⟨g7, 0, none⟩) (ps.length + 1) c7) tv (ps ++ [(p, v)]) ∧
    Kept (fun k => k = gb ∨ pv.ownBlock = some k) w ((((((w7.setCell ⟨g7, ps.length * 5, none⟩ (.int .i64 p.kind)).setCell ⟨g7, ps.length * 5 + 1, none⟩ (.bool p.quoted)).setCell ⟨g7, ps.length * 5 + 2, none⟩ (.string (nm p.text))).setCell ⟨g7, ps.length * 5 + 3, none⟩ (.string (nm p.op))).setCell ⟨g7, ps.length * 5 + 4, none⟩ v).setCell ⟨gb, 0, none⟩ (.slice (some ⟨g7, 0, none⟩) (ps.length + 1) c7)) := by
  have hk := fives_kept (S := (· = g7)) w7 rfl ps.length (.int .i64 p.kind) (.bool p.quoted) (.string (nm p.text)) (.string (nm p.op)) v
  have hr := row_five ha.row (ptC_len ps) (.int .i64 p.kind) (.bool p.quoted) (.string (nm p.text)) (.string (nm p.op)) v
  have hb := hk.at ha.box (by have := ha.gt; omega)
  refine app_done h ha p v hv ?_ ?_ ?_
  · exact set_blk (j := 0) hb _
  · exact ownsRow_setCell_below hr (a := ⟨gb, 0, none⟩) (Nat.lt_succ_self gb) _
  · exact (hk.mono fun k e => .inr e).trans (Kept.setCell _ _ (.inl rfl))
theorem app_B (h : GIn d w gb g pv tv ps) (ha : App d gb g pv tv ps w w7 g7 c7) (p : PT) (v : Value) (hv : PIn d w (Sub w gb pv tv) v p.word) :
    GIn d ((((((w7.setCell ⟨gb, 0, none⟩ (.slice (some ⟨g7, 0, none⟩) (ps.length + 1) c7)).setCell ⟨g7, ps.length * 5, none⟩ (.int .i64 p.kind)).setCell ⟨g7, ps.length * 5 + 1, none⟩ (.bool p.quoted)).setCell ⟨g7, ps.length * 5 + 2, none⟩ (.string (nm p.text))).setCell ⟨g7, ps.length * 5 + 3, none⟩ (.string (nm p.op))).setCell ⟨g7, ps.length * 5 + 4, none⟩ v) gb { g with ps := g.ps ++ [p] } (.slice (some ⟨g7, 0, none⟩) (ps.length + 1) c7) tv (ps ++ [(p, v)]) ∧
    Kept (fun k => k = gb ∨ pv.ownBlock = some k) w ((((((w7.setCell ⟨gb, 0, none⟩ (.slice (some ⟨g7, 0, none⟩) (ps.length + 1) c7)).setCell ⟨g7, ps.length * 5, none⟩ (.int .i64 p.kind)).setCell ⟨g7, ps.length * 5 + 1, none⟩ (.bool p.quoted)).setCell ⟨g7, ps.length * 5 + 2, none⟩ (.string (nm p.text))).setCell ⟨g7, ps.length * 5 + 3, none⟩ (.string (nm p.op))).setCell ⟨g7, ps.length * 5 + 4, none⟩ v) := by
  have hk := fives_kept (S := (· = g7)) (w7.setCell ⟨gb, 0, none⟩ (.slice (some ⟨g7, 0, none⟩) (ps.length + 1) c7)) rfl ps.length (.int .i64 p.kind) (.bool p.quoted) (.string (nm p.text)) (.string (nm p.op)) v
  have hr := row_five (ownsRow_setCell_below ha.row (a := ⟨gb, 0, none⟩) (Nat.lt_succ_self gb) (.slice (some ⟨g7, 0, none⟩) (ps.length + 1) c7)) (ptC_len ps) (.int .i64 p.kind) (.bool p.quoted) (.string (nm p.text)) (.string (nm p.op)) v
  have hb := hk.at (set_blk (j := 0) ha.box (.slice (some ⟨g7, 0, none⟩) (ps.length + 1) c7)) (by have := ha.gt; omega)
  refine app_done h ha p v hv ?_ hr ?_
  · exact hb
  · exact (Kept.setCell (S := fun k => k = gb ∨ k = g7) _ _ (.inl rfl)).trans (hk.mono fun k e => .inr e)
end
section
variable {d gb : Nat} {g : Ga} {pv tv : Value} {ps : List (PT × Value)} {w w7 : World} {g7 c7 : Nat}
theorem lit_A (h : GIn d w gb g pv tv ps) (ha : App d gb g pv tv ps w w7 g7 c7) : GIn d ((((((w7.setCell ⟨g7, ps.length * 5, none⟩ (.int .i64 1)).setCell ⟨g7, ps.length * 5 + 1, none⟩ (.bool g.q)).setCell ⟨g7, ps.length * 5 + 2, none⟩ (.string (nm g.tx))).setCell ⟨g7, ps.length * 5 + 3, none⟩ (.string ⟨#[]⟩)).setCell ⟨g7, ps.length * 5 + 4, none⟩ (.slice none 0 0)).setCell ⟨gb, 0, none⟩ (.slice (some ⟨g7, 0, none⟩) (ps.length + 1) c7)) gb { g with ps := g.ps ++ [litP g.q g.tx] } (.slice (some ⟨g7, 0, none⟩) (ps.length + 1) c7) tv (ps ++ [(litP g.q g.tx, .slice none 0 0)]) ∧ Kept (fun k => k = gb ∨ pv.ownBlock = some k) w ((((((w7.setCell ⟨g7, ps.length * 5, none⟩ (.int .i64 1)).setCell ⟨g7, ps.length * 5 + 1, none⟩ (.bool g.q)).setCell ⟨g7, ps.length * 5 + 2, none⟩ (.string (nm g.tx))).setCell ⟨g7, ps.length * 5 + 3, none⟩ (.string ⟨#[]⟩)).setCell ⟨g7, ps.length * 5 + 4, none⟩ (.slice none 0 0)).setCell ⟨gb, 0, none⟩ (.slice (some ⟨g7, 0, none⟩) (ps.length + 1) c7)) :=
  app_A h ha (litP g.q g.tx) (.slice none 0 0) (PIn.nil _ _ _ _ _)
theorem lit_B (h : GIn d w gb g pv tv ps) (ha : App d gb g pv tv ps w w7 g7 c7) : GIn d ((((((w7.setCell ⟨gb, 0, none⟩ (.slice (some ⟨g7, 0, none⟩) (ps.length + 1) c7)).setCell ⟨g7, ps.length * 5, none⟩ (.int .i64 1)).setCell ⟨g7, ps.length * 5 + 1, none⟩ (.bool g.q)).setCell ⟨g7, ps.length * 5 + 2, none⟩ (.string (nm g.tx))).setCell ⟨g7, ps.length * 5 + 3, none⟩ (.string ⟨#[]⟩)).setCell ⟨g7, ps.length * 5 + 4, none⟩ (.slice none 0 0)) gb { g with ps := g.ps ++ [litP g.q g.tx] } (.slice (some ⟨g7, 0, none⟩) (ps.length + 1) c7) tv (ps ++ [(litP g.q g.tx, .slice none 0 0)]) ∧ Kept (fun k => k = gb ∨ pv.ownBlock = some k) w ((((((w7.setCell ⟨gb, 0, none⟩ (.slice (some ⟨g7, 0, none⟩) (ps.length + 1) c7)).setCell ⟨g7, ps.length * 5, none⟩ (.int .i64 1)).setCell ⟨g7, ps.length * 5 + 1, none⟩ (.bool g.q)).setCell ⟨g7, ps.length * 5 + 2, none⟩ (.string (nm g.tx))).setCell ⟨g7, ps.length * 5 + 3, none⟩ (.string ⟨#[]⟩)).setCell ⟨g7, ps.length * 5 + 4, none⟩ (.slice none 0 0)) :=
  app_B h ha (litP g.q g.tx) (.slice none 0 0) (PIn.nil _ _ _ _ _)
end
theorem close_end {d gb : Nat} {g : Ga} {pv tv tv' : Value} {ps : List (PT × Value)} {W8 : World} (ho : g.op = true) (h : GIn d W8 gb { g with ps := g.ps ++ [litP g.q g.tx] } pv tv ps) (hb : tv'.ownBlock = tv.ownBlock) (hr : W8.ownsRow (gb + 1) 5 1 tv' 0 []) :
    GIn d ((W8.setCell ⟨gb, 1, none⟩ tv').setCell ⟨gb, 2, none⟩ (.bool false)) gb g.close pv tv' ps := by
  have e : g.close = ⟨g.ps ++ [litP g.q g.tx], [], false, g.q⟩ := by unfold Ga.close; rw [ho]; rfl
  rw [e]
  exact h.reset tv' false g.q [] hb hr (set_blk (j := 2) (set_blk (j := 1) h.box tv') (.bool false)) ((Kept.setCell (S := (· = gb)) ⟨gb, 1, none⟩ tv' rfl).trans (Kept.setCell ⟨gb, 2, none⟩ _ rfl))
set_option maxRecDepth 100000 in
set_option maxHeartbeats 6400000 in
theorem close_open (d gb : Nat) (g : Ga) (pv tv : Value) (ps : List (PT × Value)) (w : World) (h : GIn d w gb g pv tv ps) (ho : g.op = true) (hp : g.ps.length ≤ 100000) (ht : g.tx.length ≤ 100000) :
    Calls Try.prog 49 #[.pointer (some ⟨gb, 0, none⟩)] w fun e w' => e = .returned (.tuple #[]) ∧ GaFrom d w w' gb g.close pv tv ∧ Kept (fun k => k = gb ∨ pv.ownBlock = some k) w w' := by
  obtain ⟨pa, pc, rfl⟩ := row_len h.prow
  have hbox := h.box
  rw [ho] at hbox
  have r0 := cell_blk hbox 0
  have r2 := cell_blk hbox 2
  simp at r0 r2
  have hz := fin_at hbox
  have H := Lib.hid h
  have hpl : ps.length ≤ 100000 := by rw [h.parts, List.length_map] at hp; exact hp
  obtain ⟨i0, hi, hz0, hz1, hz2⟩ := info_parts partInfo
  have HI := Lib.hid hi; have HZ0 := Lib.hid hz0; have HZ1 := Lib.hid hz1; have HZ2 := Lib.hid hz2
  have HOW := Lib.hid (World.ownsRow.alloc (w := w.drew) h.prow (.cells #[.int .i64 0, .bool false, .string ⟨#[]⟩, .string ⟨#[]⟩, .slice none 0 0] 64))
  have HNEW := Lib.hid (cellsL w.drew [.int .i64 0, .bool false, .string ⟨#[]⟩, .string ⟨#[]⟩, .slice none 0 0] 64)
  have HBS : Hid (gb + 1 ≤ (w.drew.alloc (.cells #[.int .i64 0, .bool false, .string ⟨#[]⟩, .string ⟨#[]⟩, .slice none 0 0] 64)).heap.size) := Lib.hid (by simp; omega)
  have HSZ : Hid ((w.drew.alloc (.cells #[.int .i64 0, .bool false, .string ⟨#[]⟩, .string ⟨#[]⟩, .slice none 0 0] 64)).heap.size = w.heap.size + 1) := Lib.hid (by simp)
  have K0 := Lib.hid (Hold.of h).drew
  have K1 := Lib.hid ((Hold.of h).alloc (.cells #[.int .i64 0, .bool false, .string ⟨#[]⟩, .string ⟨#[]⟩, .slice none 0 0] 64)).drew
  have hn1 : (ps.length : Int) < (ps.length : Int) + 1 := by omega
  have hn2 : (0 : Int) ≤ (ps.length : Int) := by omega
  clear hi hz0 hz1 hz2 hbox h
  go_enter Try.func49, Try.ntmps49
  go_wp2_with fail
  refine wp_region_noPanic ?_
  refine wp_region_held_drew (S := fun W => W.cell? ⟨gb, 1, none⟩ = some tv ∧ W.cell? ⟨gb, 3, none⟩ = some (.bool g.q) ∧ (convert 44 9 tv).run Try.prog W = .ok (.string (nm g.tx)) W) (by kernel_rfl) K0.out.all (fun hHeld => ?_)
  refine wpAnyH_take (i := 0) (v := ?_) rfl (by kernel_rfl) (by kernel_rfl) (by kernel_rfl) (fun _ _ _ h => h) (Or.inl ⟨by rfl, ?_⟩) (by assumption) ?_
  rotate_left
  · (intro w hSw; (try dsimp only at hSw); go_simp; try with_reducible rfl)
  try simp only [List.getElem_toArray, List.getElem_cons_zero, Act.put, List.setIfInBounds_toArray, List.set_cons_zero, List.set_cons_succ]
  refine wpAnyH_take (i := 1) (v := ?_) rfl (by kernel_rfl) (by kernel_rfl) (by kernel_rfl) (fun _ _ _ h => h) (Or.inl ⟨by rfl, ?_⟩) (by assumption) ?_
  rotate_left
  · (intro w hSw; (try dsimp only at hSw); go_simp; try with_reducible rfl)
  try simp only [List.getElem_toArray, List.getElem_cons_zero, List.getElem_cons_succ, Act.put, List.setIfInBounds_toArray, List.set_cons_zero, List.set_cons_succ]
  refine wpAnyH_take (i := 2) (v := ?_) rfl (by kernel_rfl) (by kernel_rfl) (by kernel_rfl) (fun _ _ _ h => h) (Or.inl ⟨by rfl, ?_⟩) (by assumption) ?_
  rotate_left
  · (intro w hSw; (try dsimp only at hSw); go_simp; try with_reducible rfl)
  try simp only [List.getElem_toArray, List.getElem_cons_zero, List.getElem_cons_succ, Act.put, List.setIfInBounds_toArray, List.set_cons_zero, List.set_cons_succ]
  refine wpAnyH_take (i := 4) (v := ?_) rfl (by kernel_rfl) (by kernel_rfl) (by kernel_rfl) (fun _ _ _ h => h) (Or.inl ⟨by rfl, ?_⟩) (by assumption) ?_
  rotate_left
  · (intro w hSw; (try dsimp only at hSw); go_simp; try with_reducible rfl)
  try simp only [List.getElem_toArray, List.getElem_cons_zero, List.getElem_cons_succ, Act.put, List.setIfInBounds_toArray, List.set_cons_zero, List.set_cons_succ]
  refine wpAnyH_take (i := 5) (v := ?_) rfl (by kernel_rfl) (by kernel_rfl) (by kernel_rfl) (fun _ _ _ h => h) (Or.inl ⟨by rfl, ?_⟩) (by assumption) ?_
  rotate_left
  · (intro w hSw; (try dsimp only at hSw); go_simp; try with_reducible rfl)
  try simp only [List.getElem_toArray, List.getElem_cons_zero, List.getElem_cons_succ, Act.put, List.setIfInBounds_toArray, List.set_cons_zero, List.set_cons_succ]
  refine wpAnyH_take (i := 6) (v := ?_) rfl (by kernel_rfl) (by kernel_rfl) (by kernel_rfl) (fun _ _ _ h => h) (Or.inl ⟨by rfl, ?_⟩) (by assumption) ?_
  rotate_left
  · (intro w hSw; (try dsimp only at hSw); go_simp; try with_reducible rfl)
  try simp only [List.getElem_toArray, List.getElem_cons_zero, List.getElem_cons_succ, Act.put, List.setIfInBounds_toArray, List.set_cons_zero, List.set_cons_succ]
  refine wpAnyH_take (i := 7) (v := ?_) rfl (by kernel_rfl) (by kernel_rfl) (by kernel_rfl) (fun _ _ _ h => h) (Or.inl ⟨by rfl, ?_⟩) (by assumption) ?_
  rotate_left
  · (intro w hSw; (try dsimp only at hSw); go_simp; try with_reducible rfl)
  try simp only [List.getElem_toArray, List.getElem_cons_zero, List.getElem_cons_succ, Act.put, List.setIfInBounds_toArray, List.set_cons_zero, List.set_cons_succ]
  refine wpAnyH_take (i := 8) (v := ?_) rfl (by kernel_rfl) (by kernel_rfl) (by kernel_rfl) (fun _ _ _ h => h) (Or.inl ⟨by rfl, ?_⟩) (by assumption) ?_
  rotate_left
  · (intro w hSw; (try dsimp only at hSw); go_simp; try with_reducible rfl)
  try simp only [List.getElem_toArray, List.getElem_cons_zero, List.getElem_cons_succ, Act.put, List.setIfInBounds_toArray, List.set_cons_zero, List.set_cons_succ]
  refine wpAnyH_take (i := 9) (v := ?_) rfl (by kernel_rfl) (by kernel_rfl) (by kernel_rfl) (fun _ _ _ h => h) (Or.inl ⟨by rfl, ?_⟩) (by assumption) ?_
  rotate_left
  · (intro w hSw; (try dsimp only at hSw); go_simp; try with_reducible rfl)
  try simp only [List.getElem_toArray, List.getElem_cons_zero, List.getElem_cons_succ, Act.put, List.setIfInBounds_toArray, List.set_cons_zero, List.set_cons_succ]
  refine wpAnyH_take (i := 10) (v := ?_) rfl (by kernel_rfl) (by kernel_rfl) (by kernel_rfl) (fun _ _ _ h => h) (Or.inl ⟨by rfl, ?_⟩) (by assumption) ?_
  rotate_left
  · (intro w hSw; (try dsimp only at hSw); go_simp; try with_reducible rfl)
  try simp only [List.getElem_toArray, List.getElem_cons_zero, List.getElem_cons_succ, Act.put, List.setIfInBounds_toArray, List.set_cons_zero, List.set_cons_succ]
  refine wpAnyH_take (i := 11) (v := ?_) rfl (by kernel_rfl) (by kernel_rfl) (by kernel_rfl) (fun _ _ _ h => h) (Or.inl ⟨by rfl, ?_⟩) (by assumption) ?_
  rotate_left
  · (intro w hSw; (try dsimp only at hSw); go_simp; try with_reducible rfl)
  try simp only [List.getElem_toArray, List.getElem_cons_zero, List.getElem_cons_succ, Act.put, List.setIfInBounds_toArray, List.set_cons_zero, List.set_cons_succ]
  refine wpAnyH_take (i := 12) (v := ?_) rfl (by kernel_rfl) (by kernel_rfl) (by kernel_rfl) (fun _ _ _ h => h) (Or.inl ⟨by rfl, ?_⟩) (by assumption) ?_
  rotate_left
  · (intro w hSw; (try dsimp only at hSw); go_simp; try with_reducible rfl)
  try simp only [List.getElem_toArray, List.getElem_cons_zero, List.getElem_cons_succ, Act.put, List.setIfInBounds_toArray, List.set_cons_zero, List.set_cons_succ]
  refine wpAnyH_take (i := 13) (v := ?_) rfl (by kernel_rfl) (by kernel_rfl) (by kernel_rfl) (fun _ _ _ h => h) (Or.inl ⟨by rfl, ?_⟩) (by assumption) ?_
  rotate_left
  · (intro w hSw; (try dsimp only at hSw); go_simp; try with_reducible rfl)
  try simp only [List.getElem_toArray, List.getElem_cons_zero, List.getElem_cons_succ, Act.put, List.setIfInBounds_toArray, List.set_cons_zero, List.set_cons_succ]
  refine wpAnyH_ready (rs := [3, 15]) (by kernel_rfl) (by simp) ?_
  refine AllReadyH.cons rfl (fun K hK => ?_) ?_
  · go_simp
    refine hK.out _ _ (K0.out.all) (fun hHeld => ?_)
    clear hK K
    try simp only [List.getElem_toArray, List.getElem_cons_zero, List.getElem_cons_succ, Act.put, List.setIfInBounds_toArray, List.set_cons_zero, List.set_cons_succ]
    refine wpAnyH_take (i := 14) (v := ?_) rfl (by kernel_rfl) (by kernel_rfl) (by kernel_rfl) (fun _ _ _ h => h) (Or.inl ⟨by rfl, ?_⟩) (by assumption) ?_
    rotate_left
    · (intro w hSw; (try dsimp only at hSw); go_simp; try with_reducible rfl)
    try simp only [List.getElem_toArray, List.getElem_cons_zero, List.getElem_cons_succ, Act.put, List.setIfInBounds_toArray, List.set_cons_zero, List.set_cons_succ]
    refine wpAnyH_ready (rs := [15]) (by kernel_rfl) (by simp) ?_
    refine AllReadyH.cons rfl (fun K hK => ?_) AllReadyH.nil
    go_simp
    refine hK.out _ _ (K1.out.all) (fun hHeld => ?_)
    clear hK K
    try simp only [List.getElem_toArray, List.getElem_cons_zero, List.getElem_cons_succ, Act.put, List.setIfInBounds_toArray, List.set_cons_zero, List.set_cons_succ]
    refine wpAnyH_ready (rs := [16]) (by kernel_rfl) (by simp) ?_
    refine AllReadyH.cons rfl (fun K hK => ?_) AllReadyH.nil
    refine step_append_lies _ rfl (.tmp 9) (.tmp 21) 54 rfl (gb + 1) 64 i0 (.agg #[.int .i64 0, .bool false, .string ⟨#[]⟩, .string ⟨#[]⟩, .slice none 0 0]) 5 72 Try.underlying54 HI.out HZ0.out HZ1.out HZ2.out rfl (by decide) (.slice pa ps.length pc) ps.length (ps.flatMap ptC) (by simp [Act.eval]) HOW.out ⟨w.heap.size, 0, none⟩ 1 1 [.int .i64 0, .bool false, .string ⟨#[]⟩, .string ⟨#[]⟩, .slice none 0 0] (by simp [Act.eval]) rfl HNEW.out zc_one (by decide) (maxLen_ok (by omega)) (by omega) HBS.out (w.heap.size + 1) HSZ.out ?_; intro g7 c7 w7 hown7 hg7 hat hlt7; have HA := Lib.hid (app_of (w := w) (o := (.cells #[.int .i64 0, .bool false, .string ⟨#[]⟩, .string ⟨#[]⟩, .slice none 0 0] 64)) H.out (Nat.lt_succ_self _) hown7 hg7 hat hlt7); obtain ⟨⟨y0, y1, y2, y3, y4⟩, j0, j1, j2, j3, j4⟩ := row_tail HA.out.row rfl; have x0 := cell_blk HA.out.box 0; have k0 := froz_blk HA.out.box 0; simp at x0; have hgt := HA.out.gt; have hgb7 := fin_at HA.out.box; have hne1 : ¬ g7 = gb := (by omega); have hne2 : ¬ gb = g7 := (by omega); have K7 := Lib.hid HA.out.hold; have K5 := Lib.hid (HA.out.hold.five (n := ps.length) HA.out.gt HA.out.other (.int .i64 1) (.bool g.q) (.string (nm g.tx)) (.string ⟨#[]⟩) (.slice none 0 0)); have K6 := Lib.hid (K5.out.set ⟨gb, 0, none⟩ (.slice (some ⟨g7, 0, none⟩) (ps.length + 1) c7) (.inl rfl)); have K8 := Lib.hid (HA.out.hold.set ⟨gb, 0, none⟩ (.slice (some ⟨g7, 0, none⟩) (ps.length + 1) c7) (.inl rfl)); have K9 := Lib.hid (K8.out.five (n := ps.length) HA.out.gt HA.out.other (.int .i64 1) (.bool g.q) (.string (nm g.tx)) (.string ⟨#[]⟩) (.slice none 0 0)); clear hown7 hg7 hat hlt7
    refine hK.out _ _ (K7.out.all) (fun hHeld => ?_)
    clear hK K
    try simp only [List.getElem_toArray, List.getElem_cons_zero, List.getElem_cons_succ, Act.put, List.setIfInBounds_toArray, List.set_cons_zero, List.set_cons_succ]
    refine wpAnyH_take (i := 17) (v := ?_) rfl (by kernel_rfl) (by kernel_rfl) (by kernel_rfl) (fun _ _ _ h => h) (Or.inl ⟨by rfl, ?_⟩) (by assumption) ?_
    rotate_left
    · (intro w hSw; (try dsimp only at hSw); go_simp; try with_reducible rfl)
    try simp only [List.getElem_toArray, List.getElem_cons_zero, List.getElem_cons_succ, Act.put, List.setIfInBounds_toArray, List.set_cons_zero, List.set_cons_succ]
    refine wpAnyH_take (i := 19) (v := ?_) rfl (by kernel_rfl) (by kernel_rfl) (by kernel_rfl) (fun _ _ _ h => h) (Or.inl ⟨by rfl, ?_⟩) (by assumption) ?_
    rotate_left
    · (intro w hSw; (try dsimp only at hSw); go_simp; try with_reducible rfl)
    try simp only [List.getElem_toArray, List.getElem_cons_zero, List.getElem_cons_succ, Act.put, List.setIfInBounds_toArray, List.set_cons_zero, List.set_cons_succ]
    refine wpAnyH_take (i := 20) (v := ?_) rfl (by kernel_rfl) (by kernel_rfl) (by kernel_rfl) (fun _ _ _ h => h) (Or.inl ⟨by rfl, ?_⟩) (by assumption) ?_
    rotate_left
    · (intro w hSw; (try dsimp only at hSw); go_simp; try with_reducible rfl)
    try simp only [List.getElem_toArray, List.getElem_cons_zero, List.getElem_cons_succ, Act.put, List.setIfInBounds_toArray, List.set_cons_zero, List.set_cons_succ]
    refine wpAnyH_ready (rs := [18, 21]) (by kernel_rfl) (by simp) ?_
    refine AllReadyH.cons rfl (fun K hK => ?_) ?_
    · go_simp
      refine hK.out _ _ (K5.out.all) (fun hHeld => ?_)
      clear hK K
      try simp only [List.getElem_toArray, List.getElem_cons_zero, List.getElem_cons_succ, Act.put, List.setIfInBounds_toArray, List.set_cons_zero, List.set_cons_succ]
      refine wpAnyH_ready (rs := [21]) (by kernel_rfl) (by simp) ?_
      refine AllReadyH.cons rfl (fun K hK => ?_) AllReadyH.nil
      go_simp
      refine hK.out _ _ (K6.out.all) (fun hHeld => ?_)
      clear hK K
      try simp only [List.getElem_toArray, List.getElem_cons_zero, List.getElem_cons_succ, Act.put, List.setIfInBounds_toArray, List.set_cons_zero, List.set_cons_succ]
      refine wpAnyH_done (by kernel_rfl) ?_ _
      refine NoPanic.normal ?_
      have hG := lit_A H.out HA.out
      obtain ⟨W8, hW8⟩ : ∃ W8, ((((((w7.setCell ⟨g7, ps.length * 5, none⟩ (.int .i64 1)).setCell ⟨g7, ps.length * 5 + 1, none⟩ (.bool g.q)).setCell ⟨g7, ps.length * 5 + 2, none⟩ (.string (nm g.tx))).setCell ⟨g7, ps.length * 5 + 3, none⟩ (.string ⟨#[]⟩)).setCell ⟨g7, ps.length * 5 + 4, none⟩ (.slice none 0 0)).setCell ⟨gb, 0, none⟩ (.slice (some ⟨g7, 0, none⟩) (ps.length + 1) c7)) = W8 := ⟨_, rfl⟩
      rw [hW8] at hG ⊢
      have HG := Lib.hid hG
      clear hG hW8 r0 r2 x0 k0 y0 y1 y2 y3 y4 j0 j1 j2 j3 j4 K5 K6 K7 K8 K9 K0 K1 HOW HNEW HBS HSZ
      rcases row_form H.out.trow with ⟨rfl, h0⟩ | ⟨tg, tc, rfl⟩
      · have hb8 := HG.out.1.box
        have r1 := cell_blk hb8 1
        have f1 := froz_blk hb8 1
        have r2 := cell_blk hb8 2
        have f2 := froz_blk hb8 2
        simp at r1 r2
        clear h0 hb8
        go_wp2
        go_end0
        exact ⟨rfl, ⟨_, _, _, close_end ho HG.out.1 rfl (World.ownsRow_nil _ _ _ _), app_fresh HA.out, fun k _ e => e⟩, HG.out.2.trans ((Kept.setCell (S := fun k => k = gb ∨ (Value.slice pa ps.length pc).ownBlock = some k) ⟨gb, 1, none⟩ _ (.inl rfl)).trans (Kept.setCell ⟨gb, 2, none⟩ _ (.inl rfl)))⟩
      · have hb8 := HG.out.1.box
        have r1 := cell_blk hb8 1
        have f1 := froz_blk hb8 1
        have r2 := cell_blk hb8 2
        have f2 := froz_blk hb8 2
        simp at r1 r2
        clear hb8
        go_wp2
        go_end0
        exact ⟨rfl, ⟨_, _, _, close_end ho HG.out.1 rfl (row_none HG.out.1.trow), app_fresh HA.out, fun k _ e => e⟩, HG.out.2.trans ((Kept.setCell (S := fun k => k = gb ∨ (Value.slice pa ps.length pc).ownBlock = some k) ⟨gb, 1, none⟩ _ (.inl rfl)).trans (Kept.setCell ⟨gb, 2, none⟩ _ (.inl rfl)))⟩
    refine AllReadyH.cons rfl (fun K hK => ?_) AllReadyH.nil
    go_simp
    refine hK.out _ _ (K8.out.all) (fun hHeld => ?_)
    clear hK K
    try simp only [List.getElem_toArray, List.getElem_cons_zero, List.getElem_cons_succ, Act.put, List.setIfInBounds_toArray, List.set_cons_zero, List.set_cons_succ]
    refine wpAnyH_ready (rs := [18]) (by kernel_rfl) (by simp) ?_
    refine AllReadyH.cons rfl (fun K hK => ?_) AllReadyH.nil
    go_simp
    refine hK.out _ _ (K9.out.all) (fun hHeld => ?_)
    clear hK K
    try simp only [List.getElem_toArray, List.getElem_cons_zero, List.getElem_cons_succ, Act.put, List.setIfInBounds_toArray, List.set_cons_zero, List.set_cons_succ]
    refine wpAnyH_done (by kernel_rfl) ?_ _
    refine NoPanic.normal ?_
    have hG := lit_B H.out HA.out
    obtain ⟨W8, hW8⟩ : ∃ W8, ((((((w7.setCell ⟨gb, 0, none⟩ (.slice (some ⟨g7, 0, none⟩) (ps.length + 1) c7)).setCell ⟨g7, ps.length * 5, none⟩ (.int .i64 1)).setCell ⟨g7, ps.length * 5 + 1, none⟩ (.bool g.q)).setCell ⟨g7, ps.length * 5 + 2, none⟩ (.string (nm g.tx))).setCell ⟨g7, ps.length * 5 + 3, none⟩ (.string ⟨#[]⟩)).setCell ⟨g7, ps.length * 5 + 4, none⟩ (.slice none 0 0)) = W8 := ⟨_, rfl⟩
    rw [hW8] at hG ⊢
    have HG := Lib.hid hG
    clear hG hW8 r0 r2 x0 k0 y0 y1 y2 y3 y4 j0 j1 j2 j3 j4 K5 K6 K7 K8 K9 K0 K1 HOW HNEW HBS HSZ
    rcases row_form H.out.trow with ⟨rfl, h0⟩ | ⟨tg, tc, rfl⟩
    · have hb8 := HG.out.1.box
      have r1 := cell_blk hb8 1
      have f1 := froz_blk hb8 1
      have r2 := cell_blk hb8 2
      have f2 := froz_blk hb8 2
      simp at r1 r2
      clear h0 hb8
      go_wp2
      go_end0
      exact ⟨rfl, ⟨_, _, _, close_end ho HG.out.1 rfl (World.ownsRow_nil _ _ _ _), app_fresh HA.out, fun k _ e => e⟩, HG.out.2.trans ((Kept.setCell (S := fun k => k = gb ∨ (Value.slice pa ps.length pc).ownBlock = some k) ⟨gb, 1, none⟩ _ (.inl rfl)).trans (Kept.setCell ⟨gb, 2, none⟩ _ (.inl rfl)))⟩
    · have hb8 := HG.out.1.box
      have r1 := cell_blk hb8 1
      have f1 := froz_blk hb8 1
      have r2 := cell_blk hb8 2
      have f2 := froz_blk hb8 2
      simp at r1 r2
      clear hb8
      go_wp2
      go_end0
      exact ⟨rfl, ⟨_, _, _, close_end ho HG.out.1 rfl (row_none HG.out.1.trow), app_fresh HA.out, fun k _ e => e⟩, HG.out.2.trans ((Kept.setCell (S := fun k => k = gb ∨ (Value.slice pa ps.length pc).ownBlock = some k) ⟨gb, 1, none⟩ _ (.inl rfl)).trans (Kept.setCell ⟨gb, 2, none⟩ _ (.inl rfl)))⟩
  refine AllReadyH.cons rfl (fun K hK => ?_) AllReadyH.nil
  go_simp
  refine hK.out _ _ (K1.out.all) (fun hHeld => ?_)
  clear hK K
  try simp only [List.getElem_toArray, List.getElem_cons_zero, List.getElem_cons_succ, Act.put, List.setIfInBounds_toArray, List.set_cons_zero, List.set_cons_succ]
  refine wpAnyH_ready (rs := [3]) (by kernel_rfl) (by simp) ?_
  refine AllReadyH.cons rfl (fun K hK => ?_) AllReadyH.nil
  go_simp
  refine hK.out _ _ (K1.out.all) (fun hHeld => ?_)
  clear hK K
  try simp only [List.getElem_toArray, List.getElem_cons_zero, List.getElem_cons_succ, Act.put, List.setIfInBounds_toArray, List.set_cons_zero, List.set_cons_succ]
  refine wpAnyH_take (i := 14) (v := ?_) rfl (by kernel_rfl) (by kernel_rfl) (by kernel_rfl) (fun _ _ _ h => h) (Or.inl ⟨by rfl, ?_⟩) (by assumption) ?_
  rotate_left
  · (intro w hSw; (try dsimp only at hSw); go_simp; try with_reducible rfl)
  try simp only [List.getElem_toArray, List.getElem_cons_zero, List.getElem_cons_succ, Act.put, List.setIfInBounds_toArray, List.set_cons_zero, List.set_cons_succ]
  refine wpAnyH_ready (rs := [16]) (by kernel_rfl) (by simp) ?_
  refine AllReadyH.cons rfl (fun K hK => ?_) AllReadyH.nil
  refine step_append_lies _ rfl (.tmp 9) (.tmp 21) 54 rfl (gb + 1) 64 i0 (.agg #[.int .i64 0, .bool false, .string ⟨#[]⟩, .string ⟨#[]⟩, .slice none 0 0]) 5 72 Try.underlying54 HI.out HZ0.out HZ1.out HZ2.out rfl (by decide) (.slice pa ps.length pc) ps.length (ps.flatMap ptC) (by simp [Act.eval]) HOW.out ⟨w.heap.size, 0, none⟩ 1 1 [.int .i64 0, .bool false, .string ⟨#[]⟩, .string ⟨#[]⟩, .slice none 0 0] (by simp [Act.eval]) rfl HNEW.out zc_one (by decide) (maxLen_ok (by omega)) (by omega) HBS.out (w.heap.size + 1) HSZ.out ?_; intro g7 c7 w7 hown7 hg7 hat hlt7; have HA := Lib.hid (app_of (w := w) (o := (.cells #[.int .i64 0, .bool false, .string ⟨#[]⟩, .string ⟨#[]⟩, .slice none 0 0] 64)) H.out (Nat.lt_succ_self _) hown7 hg7 hat hlt7); obtain ⟨⟨y0, y1, y2, y3, y4⟩, j0, j1, j2, j3, j4⟩ := row_tail HA.out.row rfl; have x0 := cell_blk HA.out.box 0; have k0 := froz_blk HA.out.box 0; simp at x0; have hgt := HA.out.gt; have hgb7 := fin_at HA.out.box; have hne1 : ¬ g7 = gb := (by omega); have hne2 : ¬ gb = g7 := (by omega); have K7 := Lib.hid HA.out.hold; have K5 := Lib.hid (HA.out.hold.five (n := ps.length) HA.out.gt HA.out.other (.int .i64 1) (.bool g.q) (.string (nm g.tx)) (.string ⟨#[]⟩) (.slice none 0 0)); have K6 := Lib.hid (K5.out.set ⟨gb, 0, none⟩ (.slice (some ⟨g7, 0, none⟩) (ps.length + 1) c7) (.inl rfl)); have K8 := Lib.hid (HA.out.hold.set ⟨gb, 0, none⟩ (.slice (some ⟨g7, 0, none⟩) (ps.length + 1) c7) (.inl rfl)); have K9 := Lib.hid (K8.out.five (n := ps.length) HA.out.gt HA.out.other (.int .i64 1) (.bool g.q) (.string (nm g.tx)) (.string ⟨#[]⟩) (.slice none 0 0)); clear hown7 hg7 hat hlt7
  refine hK.out _ _ (K7.out.all) (fun hHeld => ?_)
  clear hK K
  try simp only [List.getElem_toArray, List.getElem_cons_zero, List.getElem_cons_succ, Act.put, List.setIfInBounds_toArray, List.set_cons_zero, List.set_cons_succ]
  refine wpAnyH_take (i := 17) (v := ?_) rfl (by kernel_rfl) (by kernel_rfl) (by kernel_rfl) (fun _ _ _ h => h) (Or.inl ⟨by rfl, ?_⟩) (by assumption) ?_
  rotate_left
  · (intro w hSw; (try dsimp only at hSw); go_simp; try with_reducible rfl)
  try simp only [List.getElem_toArray, List.getElem_cons_zero, List.getElem_cons_succ, Act.put, List.setIfInBounds_toArray, List.set_cons_zero, List.set_cons_succ]
  refine wpAnyH_take (i := 19) (v := ?_) rfl (by kernel_rfl) (by kernel_rfl) (by kernel_rfl) (fun _ _ _ h => h) (Or.inl ⟨by rfl, ?_⟩) (by assumption) ?_
  rotate_left
  · (intro w hSw; (try dsimp only at hSw); go_simp; try with_reducible rfl)
  try simp only [List.getElem_toArray, List.getElem_cons_zero, List.getElem_cons_succ, Act.put, List.setIfInBounds_toArray, List.set_cons_zero, List.set_cons_succ]
  refine wpAnyH_take (i := 20) (v := ?_) rfl (by kernel_rfl) (by kernel_rfl) (by kernel_rfl) (fun _ _ _ h => h) (Or.inl ⟨by rfl, ?_⟩) (by assumption) ?_
  rotate_left
  · (intro w hSw; (try dsimp only at hSw); go_simp; try with_reducible rfl)
  try simp only [List.getElem_toArray, List.getElem_cons_zero, List.getElem_cons_succ, Act.put, List.setIfInBounds_toArray, List.set_cons_zero, List.set_cons_succ]
  refine wpAnyH_ready (rs := [18, 21]) (by kernel_rfl) (by simp) ?_
  refine AllReadyH.cons rfl (fun K hK => ?_) ?_
  · go_simp
    refine hK.out _ _ (K5.out.all) (fun hHeld => ?_)
    clear hK K
    try simp only [List.getElem_toArray, List.getElem_cons_zero, List.getElem_cons_succ, Act.put, List.setIfInBounds_toArray, List.set_cons_zero, List.set_cons_succ]
    refine wpAnyH_ready (rs := [21]) (by kernel_rfl) (by simp) ?_
    refine AllReadyH.cons rfl (fun K hK => ?_) AllReadyH.nil
    go_simp
    refine hK.out _ _ (K6.out.all) (fun hHeld => ?_)
    clear hK K
    try simp only [List.getElem_toArray, List.getElem_cons_zero, List.getElem_cons_succ, Act.put, List.setIfInBounds_toArray, List.set_cons_zero, List.set_cons_succ]
    refine wpAnyH_done (by kernel_rfl) ?_ _
    refine NoPanic.normal ?_
    have hG := lit_A H.out HA.out
    obtain ⟨W8, hW8⟩ : ∃ W8, ((((((w7.setCell ⟨g7, ps.length * 5, none⟩ (.int .i64 1)).setCell ⟨g7, ps.length * 5 + 1, none⟩ (.bool g.q)).setCell ⟨g7, ps.length * 5 + 2, none⟩ (.string (nm g.tx))).setCell ⟨g7, ps.length * 5 + 3, none⟩ (.string ⟨#[]⟩)).setCell ⟨g7, ps.length * 5 + 4, none⟩ (.slice none 0 0)).setCell ⟨gb, 0, none⟩ (.slice (some ⟨g7, 0, none⟩) (ps.length + 1) c7)) = W8 := ⟨_, rfl⟩
    rw [hW8] at hG ⊢
    have HG := Lib.hid hG
    clear hG hW8 r0 r2 x0 k0 y0 y1 y2 y3 y4 j0 j1 j2 j3 j4 K5 K6 K7 K8 K9 K0 K1 HOW HNEW HBS HSZ
    rcases row_form H.out.trow with ⟨rfl, h0⟩ | ⟨tg, tc, rfl⟩
    · have hb8 := HG.out.1.box
      have r1 := cell_blk hb8 1
      have f1 := froz_blk hb8 1
      have r2 := cell_blk hb8 2
      have f2 := froz_blk hb8 2
      simp at r1 r2
      clear h0 hb8
      go_wp2
      go_end0
      exact ⟨rfl, ⟨_, _, _, close_end ho HG.out.1 rfl (World.ownsRow_nil _ _ _ _), app_fresh HA.out, fun k _ e => e⟩, HG.out.2.trans ((Kept.setCell (S := fun k => k = gb ∨ (Value.slice pa ps.length pc).ownBlock = some k) ⟨gb, 1, none⟩ _ (.inl rfl)).trans (Kept.setCell ⟨gb, 2, none⟩ _ (.inl rfl)))⟩
    · have hb8 := HG.out.1.box
      have r1 := cell_blk hb8 1
      have f1 := froz_blk hb8 1
      have r2 := cell_blk hb8 2
      have f2 := froz_blk hb8 2
      simp at r1 r2
      clear hb8
      go_wp2
      go_end0
      exact ⟨rfl, ⟨_, _, _, close_end ho HG.out.1 rfl (row_none HG.out.1.trow), app_fresh HA.out, fun k _ e => e⟩, HG.out.2.trans ((Kept.setCell (S := fun k => k = gb ∨ (Value.slice pa ps.length pc).ownBlock = some k) ⟨gb, 1, none⟩ _ (.inl rfl)).trans (Kept.setCell ⟨gb, 2, none⟩ _ (.inl rfl)))⟩
  refine AllReadyH.cons rfl (fun K hK => ?_) AllReadyH.nil
  go_simp
  refine hK.out _ _ (K8.out.all) (fun hHeld => ?_)
  clear hK K
  try simp only [List.getElem_toArray, List.getElem_cons_zero, List.getElem_cons_succ, Act.put, List.setIfInBounds_toArray, List.set_cons_zero, List.set_cons_succ]
  refine wpAnyH_ready (rs := [18]) (by kernel_rfl) (by simp) ?_
  refine AllReadyH.cons rfl (fun K hK => ?_) AllReadyH.nil
  go_simp
  refine hK.out _ _ (K9.out.all) (fun hHeld => ?_)
  clear hK K
  try simp only [List.getElem_toArray, List.getElem_cons_zero, List.getElem_cons_succ, Act.put, List.setIfInBounds_toArray, List.set_cons_zero, List.set_cons_succ]
  refine wpAnyH_done (by kernel_rfl) ?_ _
  refine NoPanic.normal ?_
  have hG := lit_B H.out HA.out
  obtain ⟨W8, hW8⟩ : ∃ W8, ((((((w7.setCell ⟨gb, 0, none⟩ (.slice (some ⟨g7, 0, none⟩) (ps.length + 1) c7)).setCell ⟨g7, ps.length * 5, none⟩ (.int .i64 1)).setCell ⟨g7, ps.length * 5 + 1, none⟩ (.bool g.q)).setCell ⟨g7, ps.length * 5 + 2, none⟩ (.string (nm g.tx))).setCell ⟨g7, ps.length * 5 + 3, none⟩ (.string ⟨#[]⟩)).setCell ⟨g7, ps.length * 5 + 4, none⟩ (.slice none 0 0)) = W8 := ⟨_, rfl⟩
  rw [hW8] at hG ⊢
  have HG := Lib.hid hG
  clear hG hW8 r0 r2 x0 k0 y0 y1 y2 y3 y4 j0 j1 j2 j3 j4 K5 K6 K7 K8 K9 K0 K1 HOW HNEW HBS HSZ
  rcases row_form H.out.trow with ⟨rfl, h0⟩ | ⟨tg, tc, rfl⟩
  · have hb8 := HG.out.1.box
    have r1 := cell_blk hb8 1
    have f1 := froz_blk hb8 1
    have r2 := cell_blk hb8 2
    have f2 := froz_blk hb8 2
    simp at r1 r2
    clear h0 hb8
    go_wp2
    go_end0
    exact ⟨rfl, ⟨_, _, _, close_end ho HG.out.1 rfl (World.ownsRow_nil _ _ _ _), app_fresh HA.out, fun k _ e => e⟩, HG.out.2.trans ((Kept.setCell (S := fun k => k = gb ∨ (Value.slice pa ps.length pc).ownBlock = some k) ⟨gb, 1, none⟩ _ (.inl rfl)).trans (Kept.setCell ⟨gb, 2, none⟩ _ (.inl rfl)))⟩
  · have hb8 := HG.out.1.box
    have r1 := cell_blk hb8 1
    have f1 := froz_blk hb8 1
    have r2 := cell_blk hb8 2
    have f2 := froz_blk hb8 2
    simp at r1 r2
    clear hb8
    go_wp2
    go_end0
    exact ⟨rfl, ⟨_, _, _, close_end ho HG.out.1 rfl (row_none HG.out.1.trow), app_fresh HA.out, fun k _ e => e⟩, HG.out.2.trans ((Kept.setCell (S := fun k => k = gb ∨ (Value.slice pa ps.length pc).ownBlock = some k) ⟨gb, 1, none⟩ _ (.inl rfl)).trans (Kept.setCell ⟨gb, 2, none⟩ _ (.inl rfl)))⟩
set_option maxHeartbeats 1600000 in
theorem close_shut (d gb : Nat) (g : Ga) (pv tv : Value) (ps : List (PT × Value)) (w : World) (h : GIn d w gb g pv tv ps) (ho : g.op = false) :
    Calls Try.prog 49 #[.pointer (some ⟨gb, 0, none⟩)] w fun e w' => e = .returned (.tuple #[]) ∧ GaFrom d w w' gb g.close pv tv ∧ Kept (fun k => k = gb ∨ pv.ownBlock = some k) w w' := by
  have e : g.close = ⟨g.ps, [], false, g.q⟩ := by unfold Ga.close; rw [ho]; rfl
  rw [e]
  have H := Lib.hid h
  have hbox := h.box
  rw [ho] at hbox
  rcases row_form h.trow with ⟨rfl, h0⟩ | ⟨tg, tc, rfl⟩
  · have r1 := cell_blk hbox 1
    have f1 := froz_blk hbox 1
    have r2 := cell_blk hbox 2
    have f2 := froz_blk hbox 2
    have hz := fin_at hbox
    simp at r1 r2
    clear h hbox e h0
    go_enter Try.func49, Try.ntmps49
    go_wp2
    go_end0
    exact ⟨rfl, ⟨pv, (.slice none 0 0), ps, H.out.reset (.slice none 0 0) false g.q [] rfl (World.ownsRow_nil _ _ _ _) (set_blk (j := 2) (set_blk (j := 1) H.out.box _) (.bool false)) ((Kept.setCell (S := (· = gb)) ⟨gb, 1, none⟩ _ rfl).trans (Kept.setCell ⟨gb, 2, none⟩ _ rfl)), fun k _ e => e, fun k _ e => e⟩, (Kept.setCell (S := fun k => k = gb ∨ pv.ownBlock = some k) ⟨gb, 1, none⟩ _ (.inl rfl)).trans (Kept.setCell ⟨gb, 2, none⟩ _ (.inl rfl))⟩
  · have r1 := cell_blk hbox 1
    have f1 := froz_blk hbox 1
    have r2 := cell_blk hbox 2
    have f2 := froz_blk hbox 2
    have hz := fin_at hbox
    simp at r1 r2
    clear h hbox e
    go_enter Try.func49, Try.ntmps49
    go_wp2
    go_end0
    exact ⟨rfl, ⟨pv, (.slice (some ⟨tg, 0, none⟩) 0 tc), ps, H.out.reset (.slice (some ⟨tg, 0, none⟩) 0 tc) false g.q [] rfl (row_none H.out.trow) (set_blk (j := 2) (set_blk (j := 1) H.out.box _) (.bool false)) ((Kept.setCell (S := (· = gb)) ⟨gb, 1, none⟩ _ rfl).trans (Kept.setCell ⟨gb, 2, none⟩ _ rfl)), fun k _ e => e, fun k _ e => e⟩, (Kept.setCell (S := fun k => k = gb ∨ pv.ownBlock = some k) ⟨gb, 1, none⟩ _ (.inl rfl)).trans (Kept.setCell ⟨gb, 2, none⟩ _ (.inl rfl))⟩
theorem close_any (d gb : Nat) (g : Ga) (pv tv : Value) (ps : List (PT × Value)) (w : World) (h : GIn d w gb g pv tv ps) (hp : g.ps.length ≤ 100000) (ht : g.tx.length ≤ 100000) :
    Calls Try.prog 49 #[.pointer (some ⟨gb, 0, none⟩)] w fun e w' => e = .returned (.tuple #[]) ∧ GaFrom d w w' gb g.close pv tv ∧ Kept (fun k => k = gb ∨ pv.ownBlock = some k) w w' := by
  cases ho : g.op with
  | true => exact close_open d gb g pv tv ps w h ho hp ht
  | false => exact close_shut d gb g pv tv ps w h ho

end Go.Proofs.Ytgajbehlggikdaa.Wd
