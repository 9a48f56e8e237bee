/- DERIVED. The walk over gather's put. -/
import Derived.Test.YtgajbehlggikdaaWdClose
namespace Go.Proofs.Ytgajbehlggikdaa.Wd
open Go.RowKit
open PathM WdM
set_option linter.unusedVariables false
/-- A part in a box. -/
def BoxP (b : Nat) (p : PT) (v : Value) (W : World) : Prop := W.heap[b]? = some (.cells #[.int .i64 p.kind, .bool p.quoted, .string (nm p.text), .string (nm p.op), v] 64 (0, 0))
theorem BoxP.all {b : Nat} {p : PT} {v : Value} {W : World} (h : BoxP b p v W) : W.cell? ⟨b, 0, none⟩ = some (.int .i64 p.kind) ∧ W.cell? ⟨b, 1, none⟩ = some (.bool p.quoted) ∧ W.cell? ⟨b, 2, none⟩ = some (.string (nm p.text)) ∧ W.cell? ⟨b, 3, none⟩ = some (.string (nm p.op)) ∧ W.cell? ⟨b, 4, none⟩ = some v :=
  ⟨cell_blk h 0, cell_blk h 1, cell_blk h 2, cell_blk h 3, cell_blk h 4⟩
theorem BoxP.drew {b : Nat} {p : PT} {v : Value} {W : World} (h : BoxP b p v W) : BoxP b p v W.drew := h
theorem BoxP.alloc {b : Nat} {p : PT} {v : Value} {W : World} (h : BoxP b p v W) (o : Obj) : BoxP b p v (W.alloc o) := (Below.heap_alloc W o b (fin_at h)).trans h
theorem BoxP.kept {S : Nat → Prop} {b : Nat} {p : PT} {v : Value} {W W' : World} (h : BoxP b p v W) (hk : Kept S W W') (hs : ¬ S b) : BoxP b p v W' := hk.at h hs
theorem PIn.form {d : Nat} {w : World} {S : Nat → Prop} {v : Value} {l : List PT} (h : PIn d w S v l) : ∃ A n c, v = .slice A n c := by
  cases d with
  | zero => obtain ⟨_, A, c, rfl⟩ := h; exact ⟨_, _, _, rfl⟩
  | succ d => obtain ⟨A, c, ps, rfl, _⟩ := h; exact ⟨_, _, _, rfl⟩
theorem Sub.from {d : Nat} {w w2 : World} {gb : Nat} {pv tv pv2 tv2 : Value} (f1 : ∀ k, k < w.heap.size → pv2.ownBlock = some k → pv.ownBlock = some k) (f2 : ∀ k, k < w.heap.size → tv2.ownBlock = some k → tv.ownBlock = some k)
    (hk : Kept (fun k => k = gb ∨ pv.ownBlock = some k) w w2) {v : Value} {l : List PT} (hv : PIn d w (Sub w gb pv tv) v l) : PIn d w2 (Sub w2 gb pv2 tv2) v l := by
  have hb : ∀ k, Sub w gb pv tv k → w2.heap[k]? = w.heap[k]? := fun k h => hk.block k h.2.1 (fun e => by
    rcases e with e | e
    · have := h.1; omega
    · exact h.2.2.1 e)
  refine PIn.mono (fun k _ h => ?_) d _ _ (PIn.keep hb d _ _ hv)
  exact ⟨h.1, Nat.lt_of_lt_of_le h.2.1 hk.size, fun e => h.2.2.1 (f1 k h.2.1 e), fun e => h.2.2.2.1 (f2 k h.2.1 e), h.2.2.2.2.at (hb k h)⟩
theorem PIn.alloc {d : Nat} {w : World} {gb : Nat} {pv tv : Value} {v : Value} {l : List PT} (hv : PIn d w (Sub w gb pv tv) v l) (o : Obj) : PIn d (w.alloc o) (Sub (w.alloc o) gb pv tv) v l := by
  have hb : ∀ k, Sub w gb pv tv k → (w.alloc o).heap[k]? = w.heap[k]? := fun k h => Below.heap_alloc w o k h.2.1
  refine PIn.mono (fun k _ h => ?_) d _ _ (PIn.keep hb d _ _ hv)
  exact ⟨h.1, by have := h.2.1; simp; omega, h.2.2.1, h.2.2.2.1, h.2.2.2.2.at (hb k h)⟩
theorem ne_of_app {d gb pb : Nat} {g : Ga} {pv tv : Value} {ps : List (PT × Value)} {w w7 : World} {g7 c7 : Nat} (hp : pb < w.heap.size) (hn : ¬ pv.ownBlock = some pb) (ha : App d gb g pv tv ps w w7 g7 c7) : ¬ pb = g7 := by
  intro e
  rcases ha.new with h | h
  · exact hn (by rw [e]; exact h)
  · omega
theorem close_len (g : Ga) : g.close.ps.length ≤ g.ps.length + 1 ∧ g.close.tx = [] := by
  unfold Ga.close
  cases g.op <;> simp
set_option maxRecDepth 100000 in
set_option maxHeartbeats 6400000 in
theorem put_any (d gb : Nat) (g : Ga) (pv tv : Value) (ps : List (PT × Value)) (p : PT) (v : Value) (w : World) (h : GIn d w gb g pv tv ps) (hv : PIn d w (Sub w gb pv tv) v p.word) (hp : g.ps.length ≤ 50000) (ht : g.tx.length ≤ 50000) :
    Calls Try.prog 83 #[.pointer (some ⟨gb, 0, none⟩), ptV p v] w fun e w' => e = .returned (.tuple #[]) ∧ GaIn d w' gb (g.put p) ∧ Kept (fun k => gb ≤ k) w w' := by
  obtain ⟨va, vn, vc, rfl⟩ := hv.form
  have hgb := fin_at h.box
  have hpl := h.prow.lt
  have htl := h.trow.lt
  obtain ⟨ob, hob⟩ : ∃ ob : Obj, ob = .cells #[.int .i64 p.kind, .bool p.quoted, .string (nm p.text), .string (nm p.op), .slice va vn vc] 64 := ⟨_, rfl⟩
  have h1 : GIn d (w.alloc ob) gb g pv tv ps := h.kept (S := fun _ => False) (kept_alloc w ob) (fun k hk => hk.elim)
  have hc := close_any d gb g pv tv ps (w.alloc ob) h1 (by omega) (by omega)
  have hbx1 : BoxP w.heap.size p (.slice va vn vc) (w.alloc ob) := by rw [hob]; exact heap_alloc_new w _
  have hv1 := hv.alloc ob
  subst hob
  have HC := Lib.hid hc
  have H := Lib.hid h
  have HV1 := Lib.hid hv1
  have HBX1 := Lib.hid hbx1
  have HPL := Lib.hid hpl
  have HTL := Lib.hid htl
  obtain ⟨i0, hi, hz0, hz1, hz2⟩ := info_parts partInfo
  have HI := Lib.hid hi; have HZ0 := Lib.hid hz0; have HZ1 := Lib.hid hz1; have HZ2 := Lib.hid hz2
  clear hc h h1 hv hv1 hbx1 hpl htl hi hz0 hz1 hz2
  unfold ptV
  go_enter Try.func83, Try.ntmps83
  go_wp2_with (go_at_call 49; refine (HC.out).mono ?_; rintro e w2 h9; obtain ⟨rfl, h9⟩ := h9; have H9 := Lib.hid h9; clear h9)
  obtain ⟨pv2, tv2, ps2, hg2, f1, f2⟩ := H9.out.1
  have hv2 := Sub.from f1 f2 H9.out.2 HV1.out
  obtain ⟨pa, pc, rfl⟩ := row_len hg2.prow
  have hlen2 : ps2.length ≤ 50001 := by have := (close_len g).1; rw [hg2.parts, List.length_map] at this; omega
  have hpb : w.heap.size < w2.heap.size := by have := H9.out.2.size; simp at this; omega
  have hbx2 := HBX1.out.kept H9.out.2 (fun e => by
    rcases e with e | e
    · omega
    · have := HPL.out _ e; omega)
  have hnp : ¬ (Value.slice pa ps2.length pc).ownBlock = some w.heap.size := fun e => by have := HPL.out _ (f1 _ (by simp) e); omega
  have HPG : Hid (¬ w.heap.size = gb) := Lib.hid (by omega)
  have HK2 := Lib.hid ((kept_alloc (S := fun k => gb ≤ k) w _).trans (H9.out.2.mono (S' := fun k => gb ≤ k) (fun k e => by
    rcases e with e | e
    · omega
    · have := (HPL.out _ e).1; omega)))
  generalize w.heap.size = pb at *
  have HNP := Lib.hid hnp
  have HNE := Lib.hid (fun (w7 : World) (g7 c7 : Nat) (ha : App d gb g.close (.slice pa ps2.length pc) tv2 ps2 w2 w7 g7 c7) => ne_of_app hpb hnp ha)
  have HBX2 := Lib.hid hbx2
  have HG2 := Lib.hid hg2
  have HV2 := Lib.hid hv2
  have r0 := cell_blk hg2.box 0
  simp at r0
  have hz := fin_at hg2.box
  have HOW := Lib.hid (World.ownsRow.alloc (w := w2.drew) hg2.prow (.cells #[.int .i64 0, .bool false, .string ⟨#[]⟩, .string ⟨#[]⟩, .slice none 0 0] 64))
  have HNEW := Lib.hid (cellsL w2.drew [.int .i64 0, .bool false, .string ⟨#[]⟩, .string ⟨#[]⟩, .slice none 0 0] 64)
  have HBS : Hid (gb + 1 ≤ (w2.drew.alloc (.cells #[.int .i64 0, .bool false, .string ⟨#[]⟩, .string ⟨#[]⟩, .slice none 0 0] 64)).heap.size) := Lib.hid (by simp; omega)
  have HSZ : Hid ((w2.drew.alloc (.cells #[.int .i64 0, .bool false, .string ⟨#[]⟩, .string ⟨#[]⟩, .slice none 0 0] 64)).heap.size = w2.heap.size + 1) := Lib.hid (by simp)
  have K0 := Lib.hid (HBX2.out).drew
  have K1 := Lib.hid ((HBX2.out).alloc (.cells #[.int .i64 0, .bool false, .string ⟨#[]⟩, .string ⟨#[]⟩, .slice none 0 0] 64)).drew
  have hn1 : (ps2.length : Int) < (ps2.length : Int) + 1 := by omega
  have hn2 : (0 : Int) ≤ (ps2.length : Int) := by omega
  clear hg2 hv2 hbx2 hnp f1 f2
  refine wp_region_noPanic ?_
  refine wp_region_held_drew (S := fun W => W.cell? ⟨pb, 0, none⟩ = some (.int .i64 p.kind) ∧ W.cell? ⟨pb, 1, none⟩ = some (.bool p.quoted) ∧ W.cell? ⟨pb, 2, none⟩ = some (.string (nm p.text)) ∧ W.cell? ⟨pb, 3, none⟩ = some (.string (nm p.op)) ∧ W.cell? ⟨pb, 4, none⟩ = some (.slice va vn vc)) (by kernel_rfl) K0.out.all (fun hHeld => ?_)
  refine wpAnyH_take (i := 0) (v := ?_) rfl (by kernel_rfl) (by kernel_rfl) (by kernel_rfl) (fun _ _ _ h => h) (Or.inl ⟨by rfl, ?_⟩) (by assumption) ?_
  rotate_left
  · (intro w hSw; (try dsimp only at hSw); go_simp; try with_reducible rfl)
  try simp only [List.getElem_toArray, List.getElem_cons_zero, Act.put, List.setIfInBounds_toArray, List.set_cons_zero, List.set_cons_succ]
  refine wpAnyH_take (i := 1) (v := ?_) rfl (by kernel_rfl) (by kernel_rfl) (by kernel_rfl) (fun _ _ _ h => h) (Or.inl ⟨by rfl, ?_⟩) (by assumption) ?_
  rotate_left
  · (intro w hSw; (try dsimp only at hSw); go_simp; try with_reducible rfl)
  try simp only [List.getElem_toArray, List.getElem_cons_zero, List.getElem_cons_succ, Act.put, List.setIfInBounds_toArray, List.set_cons_zero, List.set_cons_succ]
  refine wpAnyH_take (i := 2) (v := ?_) rfl (by kernel_rfl) (by kernel_rfl) (by kernel_rfl) (fun _ _ _ h => h) (Or.inl ⟨by rfl, ?_⟩) (by assumption) ?_
  rotate_left
  · (intro w hSw; (try dsimp only at hSw); go_simp; try with_reducible rfl)
  try simp only [List.getElem_toArray, List.getElem_cons_zero, List.getElem_cons_succ, Act.put, List.setIfInBounds_toArray, List.set_cons_zero, List.set_cons_succ]
  refine wpAnyH_take (i := 4) (v := ?_) rfl (by kernel_rfl) (by kernel_rfl) (by kernel_rfl) (fun _ _ _ h => h) (Or.inl ⟨by rfl, ?_⟩) (by assumption) ?_
  rotate_left
  · (intro w hSw; (try dsimp only at hSw); go_simp; try with_reducible rfl)
  try simp only [List.getElem_toArray, List.getElem_cons_zero, List.getElem_cons_succ, Act.put, List.setIfInBounds_toArray, List.set_cons_zero, List.set_cons_succ]
  refine wpAnyH_ready (rs := [3, 6]) (by kernel_rfl) (by simp) ?_
  refine AllReadyH.cons rfl (fun K hK => ?_) ?_
  · go_simp
    refine hK.out _ _ (K0.out.all) (fun hHeld => ?_)
    clear hK K
    try simp only [List.getElem_toArray, List.getElem_cons_zero, List.getElem_cons_succ, Act.put, List.setIfInBounds_toArray, List.set_cons_zero, List.set_cons_succ]
    refine wpAnyH_take (i := 5) (v := ?_) rfl (by kernel_rfl) (by kernel_rfl) (by kernel_rfl) (fun _ _ _ h => h) (Or.inl ⟨by rfl, ?_⟩) (by assumption) ?_
    rotate_left
    · (intro w hSw; (try dsimp only at hSw); go_simp; try with_reducible rfl)
    try simp only [List.getElem_toArray, List.getElem_cons_zero, List.getElem_cons_succ, Act.put, List.setIfInBounds_toArray, List.set_cons_zero, List.set_cons_succ]
    refine wpAnyH_ready (rs := [6]) (by kernel_rfl) (by simp) ?_
    refine AllReadyH.cons rfl (fun K hK => ?_) AllReadyH.nil
    go_simp
    refine hK.out _ _ (K1.out.all) (fun hHeld => ?_)
    clear hK K
    try simp only [List.getElem_toArray, List.getElem_cons_zero, List.getElem_cons_succ, Act.put, List.setIfInBounds_toArray, List.set_cons_zero, List.set_cons_succ]
    refine wpAnyH_ready (rs := [7]) (by kernel_rfl) (by simp) ?_
    refine AllReadyH.cons rfl (fun K hK => ?_) AllReadyH.nil
    refine step_append_lies _ rfl (.tmp 9) (.tmp 12) 54 rfl (gb + 1) 64 i0 (.agg #[.int .i64 0, .bool false, .string ⟨#[]⟩, .string ⟨#[]⟩, .slice none 0 0]) 5 72 Try.underlying54 HI.out HZ0.out HZ1.out HZ2.out rfl (by decide) (.slice pa ps2.length pc) ps2.length (ps2.flatMap ptC) (by simp [Act.eval]) HOW.out ⟨w2.heap.size, 0, none⟩ 1 1 [.int .i64 0, .bool false, .string ⟨#[]⟩, .string ⟨#[]⟩, .slice none 0 0] (by simp [Act.eval]) rfl HNEW.out zc_one (by decide) (maxLen_ok (by omega)) (by omega) HBS.out (w2.heap.size + 1) HSZ.out ?_; intro g7 c7 w7 hown7 hg7 hat hlt7; have HA := Lib.hid (app_of (w := w2) (o := (.cells #[.int .i64 0, .bool false, .string ⟨#[]⟩, .string ⟨#[]⟩, .slice none 0 0] 64)) HG2.out (Nat.lt_succ_self _) hown7 hg7 hat hlt7); obtain ⟨⟨y0, y1, y2, y3, y4⟩, j0, j1, j2, j3, j4⟩ := row_tail HA.out.row rfl; have x0 := cell_blk HA.out.box 0; have k0 := froz_blk HA.out.box 0; simp at x0; have hgt := HA.out.gt; have hgb7 := fin_at HA.out.box; have hne1 : ¬ g7 = gb := (by omega); have hne2 : ¬ gb = g7 := (by omega); have hne3 : ¬ pb = g7 := HNE.out _ _ _ HA.out; have K7 := Lib.hid (HBX2.out.kept HA.out.kept HNP.out); have K5 := Lib.hid (K7.out.kept (fives_kept (S := (· = g7)) w7 rfl ps2.length (.int .i64 p.kind) (.bool p.quoted) (.string (nm p.text)) (.string (nm p.op)) (.slice va vn vc)) hne3); have K6 := Lib.hid (K5.out.kept (Kept.setCell (S := (· = gb)) ⟨gb, 0, none⟩ (.slice (some ⟨g7, 0, none⟩) (ps2.length + 1) c7) rfl) HPG.out); have K8 := Lib.hid (K7.out.kept (Kept.setCell (S := (· = gb)) ⟨gb, 0, none⟩ (.slice (some ⟨g7, 0, none⟩) (ps2.length + 1) c7) rfl) HPG.out); have K9 := Lib.hid (K8.out.kept (fives_kept (S := (· = g7)) _ rfl ps2.length (.int .i64 p.kind) (.bool p.quoted) (.string (nm p.text)) (.string (nm p.op)) (.slice va vn vc)) hne3); clear hown7 hg7 hat hlt7
    refine hK.out _ _ (K7.out.all) (fun hHeld => ?_)
    clear hK K
    try simp only [List.getElem_toArray, List.getElem_cons_zero, List.getElem_cons_succ, Act.put, List.setIfInBounds_toArray, List.set_cons_zero, List.set_cons_succ]
    refine wpAnyH_take (i := 8) (v := ?_) rfl (by kernel_rfl) (by kernel_rfl) (by kernel_rfl) (fun _ _ _ h => h) (Or.inl ⟨by rfl, ?_⟩) (by assumption) ?_
    rotate_left
    · (intro w hSw; (try dsimp only at hSw); go_simp; try with_reducible rfl)
    try simp only [List.getElem_toArray, List.getElem_cons_zero, List.getElem_cons_succ, Act.put, List.setIfInBounds_toArray, List.set_cons_zero, List.set_cons_succ]
    refine wpAnyH_take (i := 10) (v := ?_) rfl (by kernel_rfl) (by kernel_rfl) (by kernel_rfl) (fun _ _ _ h => h) (Or.inl ⟨by rfl, ?_⟩) (by assumption) ?_
    rotate_left
    · (intro w hSw; (try dsimp only at hSw); go_simp; try with_reducible rfl)
    try simp only [List.getElem_toArray, List.getElem_cons_zero, List.getElem_cons_succ, Act.put, List.setIfInBounds_toArray, List.set_cons_zero, List.set_cons_succ]
    refine wpAnyH_take (i := 11) (v := ?_) rfl (by kernel_rfl) (by kernel_rfl) (by kernel_rfl) (fun _ _ _ h => h) (Or.inl ⟨by rfl, ?_⟩) (by assumption) ?_
    rotate_left
    · (intro w hSw; (try dsimp only at hSw); go_simp; try with_reducible rfl)
    try simp only [List.getElem_toArray, List.getElem_cons_zero, List.getElem_cons_succ, Act.put, List.setIfInBounds_toArray, List.set_cons_zero, List.set_cons_succ]
    refine wpAnyH_ready (rs := [9, 12]) (by kernel_rfl) (by simp) ?_
    refine AllReadyH.cons rfl (fun K hK => ?_) ?_
    · go_simp
      refine hK.out _ _ (K5.out.all) (fun hHeld => ?_)
      clear hK K
      try simp only [List.getElem_toArray, List.getElem_cons_zero, List.getElem_cons_succ, Act.put, List.setIfInBounds_toArray, List.set_cons_zero, List.set_cons_succ]
      refine wpAnyH_ready (rs := [12]) (by kernel_rfl) (by simp) ?_
      refine AllReadyH.cons rfl (fun K hK => ?_) AllReadyH.nil
      go_simp
      refine hK.out _ _ (K6.out.all) (fun hHeld => ?_)
      clear hK K
      try simp only [List.getElem_toArray, List.getElem_cons_zero, List.getElem_cons_succ, Act.put, List.setIfInBounds_toArray, List.set_cons_zero, List.set_cons_succ]
      refine wpAnyH_done (by kernel_rfl) ?_ _
      refine NoPanic.normal ?_
      go_wp2
      go_end0
      have hG := app_A HG2.out HA.out p (.slice va vn vc) HV2.out
      exact ⟨rfl, ⟨_, _, _, hG.1⟩, HK2.out.trans (hG.2.mono fun k e => by
        rcases e with e | e
        · omega
        · have := (HG2.out.prow.lt k e).1; omega)⟩
    refine AllReadyH.cons rfl (fun K hK => ?_) AllReadyH.nil
    go_simp
    refine hK.out _ _ (K8.out.all) (fun hHeld => ?_)
    clear hK K
    try simp only [List.getElem_toArray, List.getElem_cons_zero, List.getElem_cons_succ, Act.put, List.setIfInBounds_toArray, List.set_cons_zero, List.set_cons_succ]
    refine wpAnyH_ready (rs := [9]) (by kernel_rfl) (by simp) ?_
    refine AllReadyH.cons rfl (fun K hK => ?_) AllReadyH.nil
    go_simp
    refine hK.out _ _ (K9.out.all) (fun hHeld => ?_)
    clear hK K
    try simp only [List.getElem_toArray, List.getElem_cons_zero, List.getElem_cons_succ, Act.put, List.setIfInBounds_toArray, List.set_cons_zero, List.set_cons_succ]
    refine wpAnyH_done (by kernel_rfl) ?_ _
    refine NoPanic.normal ?_
    go_wp2
    go_end0
    have hG := app_B HG2.out HA.out p (.slice va vn vc) HV2.out
    exact ⟨rfl, ⟨_, _, _, hG.1⟩, HK2.out.trans (hG.2.mono fun k e => by
      rcases e with e | e
      · omega
      · have := (HG2.out.prow.lt k e).1; omega)⟩
  refine AllReadyH.cons rfl (fun K hK => ?_) AllReadyH.nil
  go_simp
  refine hK.out _ _ (K1.out.all) (fun hHeld => ?_)
  clear hK K
  try simp only [List.getElem_toArray, List.getElem_cons_zero, List.getElem_cons_succ, Act.put, List.setIfInBounds_toArray, List.set_cons_zero, List.set_cons_succ]
  refine wpAnyH_ready (rs := [3]) (by kernel_rfl) (by simp) ?_
  refine AllReadyH.cons rfl (fun K hK => ?_) AllReadyH.nil
  go_simp
  refine hK.out _ _ (K1.out.all) (fun hHeld => ?_)
  clear hK K
  try simp only [List.getElem_toArray, List.getElem_cons_zero, List.getElem_cons_succ, Act.put, List.setIfInBounds_toArray, List.set_cons_zero, List.set_cons_succ]
  refine wpAnyH_take (i := 5) (v := ?_) rfl (by kernel_rfl) (by kernel_rfl) (by kernel_rfl) (fun _ _ _ h => h) (Or.inl ⟨by rfl, ?_⟩) (by assumption) ?_
  rotate_left
  · (intro w hSw; (try dsimp only at hSw); go_simp; try with_reducible rfl)
  try simp only [List.getElem_toArray, List.getElem_cons_zero, List.getElem_cons_succ, Act.put, List.setIfInBounds_toArray, List.set_cons_zero, List.set_cons_succ]
  refine wpAnyH_ready (rs := [7]) (by kernel_rfl) (by simp) ?_
  refine AllReadyH.cons rfl (fun K hK => ?_) AllReadyH.nil
  refine step_append_lies _ rfl (.tmp 9) (.tmp 12) 54 rfl (gb + 1) 64 i0 (.agg #[.int .i64 0, .bool false, .string ⟨#[]⟩, .string ⟨#[]⟩, .slice none 0 0]) 5 72 Try.underlying54 HI.out HZ0.out HZ1.out HZ2.out rfl (by decide) (.slice pa ps2.length pc) ps2.length (ps2.flatMap ptC) (by simp [Act.eval]) HOW.out ⟨w2.heap.size, 0, none⟩ 1 1 [.int .i64 0, .bool false, .string ⟨#[]⟩, .string ⟨#[]⟩, .slice none 0 0] (by simp [Act.eval]) rfl HNEW.out zc_one (by decide) (maxLen_ok (by omega)) (by omega) HBS.out (w2.heap.size + 1) HSZ.out ?_; intro g7 c7 w7 hown7 hg7 hat hlt7; have HA := Lib.hid (app_of (w := w2) (o := (.cells #[.int .i64 0, .bool false, .string ⟨#[]⟩, .string ⟨#[]⟩, .slice none 0 0] 64)) HG2.out (Nat.lt_succ_self _) hown7 hg7 hat hlt7); obtain ⟨⟨y0, y1, y2, y3, y4⟩, j0, j1, j2, j3, j4⟩ := row_tail HA.out.row rfl; have x0 := cell_blk HA.out.box 0; have k0 := froz_blk HA.out.box 0; simp at x0; have hgt := HA.out.gt; have hgb7 := fin_at HA.out.box; have hne1 : ¬ g7 = gb := (by omega); have hne2 : ¬ gb = g7 := (by omega); have hne3 : ¬ pb = g7 := HNE.out _ _ _ HA.out; have K7 := Lib.hid (HBX2.out.kept HA.out.kept HNP.out); have K5 := Lib.hid (K7.out.kept (fives_kept (S := (· = g7)) w7 rfl ps2.length (.int .i64 p.kind) (.bool p.quoted) (.string (nm p.text)) (.string (nm p.op)) (.slice va vn vc)) hne3); have K6 := Lib.hid (K5.out.kept (Kept.setCell (S := (· = gb)) ⟨gb, 0, none⟩ (.slice (some ⟨g7, 0, none⟩) (ps2.length + 1) c7) rfl) HPG.out); have K8 := Lib.hid (K7.out.kept (Kept.setCell (S := (· = gb)) ⟨gb, 0, none⟩ (.slice (some ⟨g7, 0, none⟩) (ps2.length + 1) c7) rfl) HPG.out); have K9 := Lib.hid (K8.out.kept (fives_kept (S := (· = g7)) _ rfl ps2.length (.int .i64 p.kind) (.bool p.quoted) (.string (nm p.text)) (.string (nm p.op)) (.slice va vn vc)) hne3); clear hown7 hg7 hat hlt7
  refine hK.out _ _ (K7.out.all) (fun hHeld => ?_)
  clear hK K
  try simp only [List.getElem_toArray, List.getElem_cons_zero, List.getElem_cons_succ, Act.put, List.setIfInBounds_toArray, List.set_cons_zero, List.set_cons_succ]
  refine wpAnyH_take (i := 8) (v := ?_) rfl (by kernel_rfl) (by kernel_rfl) (by kernel_rfl) (fun _ _ _ h => h) (Or.inl ⟨by rfl, ?_⟩) (by assumption) ?_
  rotate_left
  · (intro w hSw; (try dsimp only at hSw); go_simp; try with_reducible rfl)
  try simp only [List.getElem_toArray, List.getElem_cons_zero, List.getElem_cons_succ, Act.put, List.setIfInBounds_toArray, List.set_cons_zero, List.set_cons_succ]
  refine wpAnyH_take (i := 10) (v := ?_) rfl (by kernel_rfl) (by kernel_rfl) (by kernel_rfl) (fun _ _ _ h => h) (Or.inl ⟨by rfl, ?_⟩) (by assumption) ?_
  rotate_left
  · (intro w hSw; (try dsimp only at hSw); go_simp; try with_reducible rfl)
  try simp only [List.getElem_toArray, List.getElem_cons_zero, List.getElem_cons_succ, Act.put, List.setIfInBounds_toArray, List.set_cons_zero, List.set_cons_succ]
  refine wpAnyH_take (i := 11) (v := ?_) rfl (by kernel_rfl) (by kernel_rfl) (by kernel_rfl) (fun _ _ _ h => h) (Or.inl ⟨by rfl, ?_⟩) (by assumption) ?_
  rotate_left
  · (intro w hSw; (try dsimp only at hSw); go_simp; try with_reducible rfl)
  try simp only [List.getElem_toArray, List.getElem_cons_zero, List.getElem_cons_succ, Act.put, List.setIfInBounds_toArray, List.set_cons_zero, List.set_cons_succ]
  refine wpAnyH_ready (rs := [9, 12]) (by kernel_rfl) (by simp) ?_
  refine AllReadyH.cons rfl (fun K hK => ?_) ?_
  · go_simp
    refine hK.out _ _ (K5.out.all) (fun hHeld => ?_)
    clear hK K
    try simp only [List.getElem_toArray, List.getElem_cons_zero, List.getElem_cons_succ, Act.put, List.setIfInBounds_toArray, List.set_cons_zero, List.set_cons_succ]
    refine wpAnyH_ready (rs := [12]) (by kernel_rfl) (by simp) ?_
    refine AllReadyH.cons rfl (fun K hK => ?_) AllReadyH.nil
    go_simp
    refine hK.out _ _ (K6.out.all) (fun hHeld => ?_)
    clear hK K
    try simp only [List.getElem_toArray, List.getElem_cons_zero, List.getElem_cons_succ, Act.put, List.setIfInBounds_toArray, List.set_cons_zero, List.set_cons_succ]
    refine wpAnyH_done (by kernel_rfl) ?_ _
    refine NoPanic.normal ?_
    go_wp2
    go_end0
    have hG := app_A HG2.out HA.out p (.slice va vn vc) HV2.out
    exact ⟨rfl, ⟨_, _, _, hG.1⟩, HK2.out.trans (hG.2.mono fun k e => by
      rcases e with e | e
      · omega
      · have := (HG2.out.prow.lt k e).1; omega)⟩
  refine AllReadyH.cons rfl (fun K hK => ?_) AllReadyH.nil
  go_simp
  refine hK.out _ _ (K8.out.all) (fun hHeld => ?_)
  clear hK K
  try simp only [List.getElem_toArray, List.getElem_cons_zero, List.getElem_cons_succ, Act.put, List.setIfInBounds_toArray, List.set_cons_zero, List.set_cons_succ]
  refine wpAnyH_ready (rs := [9]) (by kernel_rfl) (by simp) ?_
  refine AllReadyH.cons rfl (fun K hK => ?_) AllReadyH.nil
  go_simp
  refine hK.out _ _ (K9.out.all) (fun hHeld => ?_)
  clear hK K
  try simp only [List.getElem_toArray, List.getElem_cons_zero, List.getElem_cons_succ, Act.put, List.setIfInBounds_toArray, List.set_cons_zero, List.set_cons_succ]
  refine wpAnyH_done (by kernel_rfl) ?_ _
  refine NoPanic.normal ?_
  go_wp2
  go_end0
  have hG := app_B HG2.out HA.out p (.slice va vn vc) HV2.out
  exact ⟨rfl, ⟨_, _, _, hG.1⟩, HK2.out.trans (hG.2.mono fun k e => by
    rcases e with e | e
    · omega
    · have := (HG2.out.prow.lt k e).1; omega)⟩

end Go.Proofs.Ytgajbehlggikdaa.Wd
