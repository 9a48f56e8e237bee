/- DERIVED. The walks of a disk's calls that write, and Entries. -/
import Derived.Test.YtkmnbbocahjmaaaGreatDoorVtBound
import Derived.StillTailTactics
namespace Go.Proofs.YtkmnbbocahjmaaaGreatDoor
open Go.RowKit Go.Sort Go.Lib
open PathM TreeM VtM
set_option linter.unusedVariables false

set_option maxRecDepth 100000 in
set_option maxHeartbeats 1000000 in
theorem entries_any (db mb : Nat) (t : Tr) (ev : Int → Value) (id : Int) (w : World) (h : DiskIn w db mb t ev) (hid : i64 id) (hl : (nod t.nodes id).es.length ≤ 100000000) :
    Calls Tryz.prog 197 #[.pointer (some ⟨db, 0, none⟩), .int .i64 id] w (EntsPost (nod t.nodes id).es w) := by
  have hn := node_any db mb t ev id w h hid
  unfold NodePost at hn
  unfold EntsPost
  generalize nod t.nodes id = nd at hn hl ⊢
  have HN := Lib.hid hn
  clear hn h
  unfold ndV at HN
  have hf := fieldN6
  go_enter Tryz.func197, Tryz.ntmps197
  go_wp2_with (first | (go_at_call 206; refine HN.out.mono ?_; rintro e w1 ⟨xv, rfl, hE, hb⟩; have HBD := Lib.hid hE.bounds.2; obtain ⟨Ae, ce, rfl, _⟩ := ents_len hE; have HE := Lib.hid hE; have HB := Lib.hid hb; clear hE hb) | (go_at_call 57; refine (clone_any _ _ _ HE.out).mono ?_; rintro e w2 ⟨v2, rfl, hown, hb2⟩; have HB2 := Lib.hid (HB.out.trans (hb2.mono HB.out.size)); have HE2 := Lib.hid (row_ents hown (Nat.le_trans hl (by omega)) HBD.out); obtain ⟨A2, c2, rfl⟩ := ownsRow_len3 hown; clear hb2 hown))
  go_ret
  exact ⟨_, rfl, HE2.out, HB2.out⟩

theorem cells_noStr {w : World} {b : Nat} {cs : Array Value} {t : TypeId} (h : w.heap[b]? = some (.cells cs t (0, 0))) (hc : ∀ (i : Nat) (s : ByteArray), cs[i]? ≠ some (Value.string s)) : ∀ (i : Nat) (s : ByteArray), w.cell? ⟨b, i, none⟩ ≠ some (Value.string s) := fun i s e => by
  rw [cell_blk h] at e; exact hc i s e
theorem DiskIn.noStr {w : World} {db mb : Nat} {t : Tr} {ev : Int → Value} (h : DiskIn w db mb t ev) : ∀ b, (b = db ∨ b = mb) → ∀ (i : Nat) (s : ByteArray), w.cell? ⟨b, i, none⟩ ≠ some (Value.string s) := by
  intro b hb i s
  rcases hb with rfl | rfl
  · refine cells_noStr h.disk (fun i s e => ?_) i s
    match i, e with
    | 0, e => simp at e
    | 1, e => simp at e
    | 2, e => simp at e
    | 3, e => simp at e
    | n + 4, e => simp at e
  · exact h.map.noStr i _
/-- The disk's two blocks. -/
def Own2 (db mb : Nat) (k : Nat) : Prop := k = db ∨ k = mb
theorem DiskIn.ne {w : World} {db mb : Nat} {t : Tr} {ev : Int → Value} (h : DiskIn w db mb t ev) : db ≠ mb := by
  obtain ⟨es, c, hm⟩ := h.map.block
  exact blk_ne h.disk hm (fun e => by cases e)
/-- A disk behind a store of its map and a change of its last number. -/
theorem DiskIn.turn {w w1 : World} {db mb : Nat} {t : Tr} {ev ev' : Int → Value} {l' : List Nd} (h : DiskIn w db mb t ev) (hm : MapN w1 mb l' ev') (hk : Kept (Own2 db mb) w w1) (hd : w1.heap[db]? = w.heap[db]?)
    (he : ∀ nd ∈ l', EntsIn w w.heap.size (ev' nd.id) nd.es) : DiskIn w1 db mb { t with nodes := l' } ev' :=
  ⟨hd.trans h.disk, hm, fun nd hnd => ((he nd hnd).keepBut (Own2 db mb) (fun b hb => h.noStr b hb) (fun b hb hs => hk.block b hb hs)).more hk.size⟩
theorem putN_ents {w : World} {B : Nat} {l : List Nd} {ev : Int → Value} (h : ∀ nd ∈ l, EntsIn w B (ev nd.id) nd.es) (hr : Rise l) {nd : Nd} {e : Value} (he : EntsIn w B e nd.es) : ∀ m ∈ putN nd l, EntsIn w B (if m.id = nd.id then e else ev m.id) m.es := by
  intro m hm
  have hl := look_of_mem (rise_put nd hr) hm
  rw [look_put nd hr] at hl
  by_cases e1 : m.id = nd.id
  · rw [if_pos e1] at hl ⊢
    injection hl with hl
    rw [← hl]; exact he
  · rw [if_neg e1] at hl ⊢
    exact h m (look_mem hl).1

theorem DiskIn.drew {w : World} {db mb : Nat} {t : Tr} {ev : Int → Value} (h : DiskIn w db mb t ev) : DiskIn w.drew db mb t ev := h.below (Below.refl _ _).drew
theorem Kept.drew {S : Nat → Prop} {a b : World} (h : Kept S a b) : Kept S a b.drew := h.trans (kept_of_below (Below.refl _ _).drew)
/-- 'm[n.ID] = n' at the operation. -/
theorem wpList_putN {w : World} {ops : Array Oper} {rest : List Oper} {o : Oper} {a : Act} {Q : Exit → Act → World → Prop} (hg : o.guard = none) (m x v : Operand) (hop : o.op = Op.mapUpdate 108 m x v) (mb : Nat) (l : List Nd) (ev : Int → Value)
    (hm : a.eval m = .map (some mb)) (h : MapN w mb l ev) (hr : Rise l) (hlen : l.length < 1000000) (nd : Nd) (e : Value) (hx : a.eval x = .int .i64 nd.id) (hv : a.eval v = ndV e nd) (hid : i64 nd.id)
    (hK : ∀ w', MapN w' mb (putN nd l) (fun j => if j = nd.id then e else ev j) → w.mapTurned w' mb → wpList Tryz.prog ops Q rest (a.put o.dst undef) w') : wpList Tryz.prog ops Q (o :: rest) a w := by
  refine wpList_plain hg fun K' hK' => ?_
  obtain ⟨w', hrun, r1, r2⟩ := h.put hr hlen nd e hid
  unfold Oper.wp
  simp [execOp, hop, hm, hx, hv, hrun, Result.andThen]
  exact hK' _ _ (hK w' r1 r2)
/-- 'delete(m, id)' at the operation. -/
theorem wpList_delN {w : World} {ops : Array Oper} {rest : List Oper} {o : Oper} {a : Act} {Q : Exit → Act → World → Prop} (hg : o.guard = none) (m x : Operand) (hop : o.op = Op.call { callee := Callee.builtin Builtin.delete, args := #[m, x], argTypes := #[108, 3] }) (mb : Nat) (l : List Nd) (ev : Int → Value)
    (hm : a.eval m = .map (some mb)) (h : MapN w mb l ev) (hr : Rise l) (id : Int) (hx : a.eval x = .int .i64 id) (hid : i64 id)
    (hK : ∀ w', MapN w' mb (delN id l) ev → w.mapTurned w' mb → wpList Tryz.prog ops Q rest (a.put o.dst (.tuple #[])) w') : wpList Tryz.prog ops Q (o :: rest) a w := by
  refine wpList_plain hg fun K' hK' => ?_
  obtain ⟨w', hrun, r1, r2⟩ := h.del hr id hid o.type
  unfold Oper.wp
  simp [execOp, hop, resolve, invoke, builtin, hm, hx, hrun, Result.andThen]
  exact hK' _ _ (hK w' r1 r2)
/-- Behind a store of its map, and of its last number. -/
theorem DiskIn.put_end {w W3 : World} {db mb : Nat} {t : Tr} {ev : Int → Value} {W2 : World} {nd : Nd} {e : Value} (h : DiskIn w db mb t ev) (hr : Rise t.nodes) (hb : Below w.heap.size w W2) (hm : MapN W3 mb (putN nd t.nodes) (fun j => if j = nd.id then e else ev j)) (ht : W2.mapTurned W3 mb) (he : EntsIn w w.heap.size e nd.es) :
    (∀ u : Int, DiskIn (W3.setCell ⟨db, 1, none⟩ (.int .i64 u)) db mb { t with nodes := putN nd t.nodes, last := u } (fun j => if j = nd.id then e else ev j)) ∧ (∀ u, Kept (Own2 db mb) w (W3.setCell ⟨db, 1, none⟩ u)) ∧ W3.heap[db]? = w.heap[db]? := by
  have hne := h.ne
  have hg := ht.grown
  have k2 : Kept (Own2 db mb) w W2 := kept_of_below hb
  have k3 : Kept (Own2 db mb) W2 W3 := Kept.turned ht (.inr rfl)
  have hdb : W3.heap[db]? = w.heap[db]? := (hg.block db (Nat.lt_of_lt_of_le (blk_lt h.disk) hb.size) (by simp; exact hne)).trans (hb.block db (blk_lt h.disk))
  have hD3 := h.turn hm (k2.trans k3) hdb (putN_ents h.ents hr he)
  refine ⟨fun u => ⟨?_, hD3.map.at (Below.heap_setCell _ _ _ _ (fun e => hne e.symm)), fun m hm' => ?_⟩, fun u => (k2.trans k3).trans (Kept.setCell _ _ (.inl rfl)), hdb⟩
  · have := set_blk (j := 1) hD3.disk (.int .i64 u)
    simpa using this
  · refine ((hD3.ents m hm').keepBut (Own2 db mb) (fun b hb => hD3.noStr b hb) (fun b hb hs => Below.heap_setCell _ _ _ _ (fun e => hs (.inl e)))).more (by simp)
set_option maxRecDepth 100000 in
set_option maxHeartbeats 8000000 in
theorem put_any (db mb : Nat) (t : Tr) (ev : Int → Value) (nd : Nd) (A0 : Option Addr) (n0 c0' : Nat) (w : World) (h : DiskIn w db mb t ev) (hr : Rise t.nodes) (hid : i64 nd.id) (hlen : t.nodes.length < 1000000) :
    Calls Tryz.prog 203 #[.pointer (some ⟨db, 0, none⟩), ndV (.slice A0 n0 c0') nd] w fun e w' => e = .returned (.tuple #[]) ∧ (∃ ev', DiskIn w' db mb (putT t nd) ev') ∧ Kept (Own2 db mb) w w' := by
  have hb1 := (Below.refl w.heap.size w).alloc (Nat.le_refl _) (.cells #[.int .i64 nd.id, .int .i64 nd.kind, .int .i64 nd.mode, .int .i64 nd.owner, .int .i64 nd.time, .string (nm nd.data), .slice A0 n0 c0'] 64)
  have hE := h.node nd.id
  have hl0 := fun W (hW : Below w.heap.size w W) => (h.below hW).map.seek nd.id hid
  generalize (if (VtM.seek t.nodes nd.id).isSome = true then ev nd.id else .slice none 0 0 : Value) = xv at hl0 hE
  obtain ⟨Ae, ce, rfl, _⟩ := ents_len hE
  have HE := Lib.hid hE
  have HD := Lib.hid h
  have HL := Lib.hid hl0
  have HB1 := Lib.hid hb1
  have c0 := (h.below hb1).c0
  have RB := heap_alloc_new w (.cells #[.int .i64 nd.id, .int .i64 nd.kind, .int .i64 nd.mode, .int .i64 nd.owner, .int .i64 nd.time, .string (nm nd.data), .slice A0 n0 c0'] 64)
  have hdl := blk_lt (h.below hb1).disk
  have hbl := blk_lt RB
  have hml : mb < w.heap.size := h.map.lt
  have HR := Lib.hid hr; have HLEN := Lib.hid hlen; have HID := Lib.hid hid
  clear h hE hl0 hb1
  go_enter Tryz.func203, Tryz.ntmps203
  go_wp2_with (go_at_call 56; refine (dnone_any db mb _ c0).mono ?_; rintro e w' ⟨rfl, rfl⟩)
  generalize w.alloc (.cells #[.int .i64 nd.id, .int .i64 nd.kind, .int .i64 nd.mode, .int .i64 nd.owner, .int .i64 nd.time, .string (nm nd.data), .slice A0 n0 c0'] 64) = W1 at *
  have s0 := cell_blk RB 0
  have s6 := cell_blk RB 6
  have f6 := froz_blk RB 6
  simp at s0 s6
  have hl := HL.out W1.drew HB1.out.drew
  unfold ndV at hl
  have hf := fieldN6
  refine wp_region_still_tail 9 (by kernel_rfl) (by kernel_rfl) ?_
  simp only [List.take_succ_cons, List.take_zero, List.drop_succ_cons, List.drop_zero]
  repeat still_step
  refine wpStill_nil ?_
  change wpList _ _ _ _ _ W1.drew
  clear hl
  go_wp2
  have RB2 : ((W1.setCell ⟨w.heap.size, 6, none⟩ (.slice Ae (nod t.nodes nd.id).es.length ce)).drew).heap[w.heap.size]? = _ := set_blk (j := 6) RB (.slice Ae (nod t.nodes nd.id).es.length ce)
  have hb2 := ((HB1.out).setCell (p := ⟨w.heap.size, 6, none⟩) (Nat.le_refl _) (.slice Ae (nod t.nodes nd.id).es.length ce)).drew
  simp only [List.setIfInBounds_toArray, List.set] at RB2
  generalize (W1.setCell ⟨w.heap.size, 6, none⟩ (.slice Ae (nod t.nodes nd.id).es.length ce)).drew = W2 at *
  clear RB s0 s6 f6 c0 hdl
  have HB2 := Lib.hid hb2
  clear hb2
  have c0 := (HD.out.below HB2.out).c0
  have s0 := cell_blk RB2 0
  have s1 := cell_blk RB2 1
  have s2 := cell_blk RB2 2
  have s3 := cell_blk RB2 3
  have s4 := cell_blk RB2 4
  have s5 := cell_blk RB2 5
  have s6 := cell_blk RB2 6
  simp at s0 s1 s2 s3 s4 s5 s6
  refine wp_region_still_tail 7 (by kernel_rfl) (by kernel_rfl) ?_
  simp only [List.take_succ_cons, List.take_zero, List.drop_succ_cons, List.drop_zero]
  repeat still_step
  refine wpStill_nil ?_
  change wpList _ _ _ _ _ W2.drew
  go_wp2_with (at_mapUpdate; refine wpList_putN rfl _ _ _ rfl mb t.nodes ev rfl (HD.out.below HB2.out.drew).map HR.out HLEN.out { nd with es := (nod t.nodes nd.id).es } (.slice Ae (nod t.nodes nd.id).es.length ce) rfl rfl HID.out ?_; intro W3 hm3 ht3)
  have RB3 := (ht3.grown.block w.heap.size (blk_lt (show W2.drew.heap[w.heap.size]? = _ from RB2)) (by simp; omega)).trans (show W2.drew.heap[w.heap.size]? = _ from RB2)
  have E3 := DiskIn.put_end HD.out HR.out HB2.out.drew hm3 ht3 HE.out
  have HE3 := Lib.hid E3
  have c1 := (cell_blk (HE3.out.2.2.trans HD.out.disk) 1)
  have f1 := (froz_blk (HE3.out.2.2.trans HD.out.disk) 1)
  have t0 := cell_blk RB3 0
  simp at c1 t0
  clear hm3 ht3 RB2 RB3 E3 s0 s1 s2 s3 s4 s5 s6 c0
  go_wp2
  refine wp_region_still_tail 10 (by kernel_rfl) (by kernel_rfl) ?_
  simp only [List.take_succ_cons, List.take_zero, List.drop_succ_cons, List.drop_zero]
  repeat still_step
  refine wpStill_nil ?_
  change wpList _ _ _ _ _ W3.drew
  go_wp2
  go_end0
  exact ⟨rfl, ⟨_, (HE3.out.1 _).drew⟩, (HE3.out.2.1 _).drew⟩

/-- Behind a store of its map alone. -/
theorem DiskIn.bind_end {w W2 W3 : World} {db mb : Nat} {t : Tr} {ev : Int → Value} {nd : Nd} {e : Value} (h : DiskIn w db mb t ev) (hr : Rise t.nodes) (hb : Below w.heap.size w W2) (hm : MapN W3 mb (putN nd t.nodes) (fun j => if j = nd.id then e else ev j)) (ht : W2.mapTurned W3 mb) (he : EntsIn W2 W2.heap.size e nd.es) :
    DiskIn W3 db mb { t with nodes := putN nd t.nodes } (fun j => if j = nd.id then e else ev j) ∧ Kept (Own2 db mb) w W3 := by
  have hne := h.ne
  have hg := ht.grown
  have hD2 := h.below hb
  have k2 : Kept (Own2 db mb) w W2 := kept_of_below hb
  have k3 : Kept (Own2 db mb) W2 W3 := Kept.turned ht (.inr rfl)
  exact ⟨hD2.turn hm k3 (hg.block db (blk_lt hD2.disk) (by simp; exact hne)) (putN_ents hD2.ents hr he), k2.trans k3⟩
set_option maxRecDepth 100000 in
set_option maxHeartbeats 8000000 in
theorem bind_any (db mb : Nat) (t : Tr) (ev : Int → Value) (dir : Int) (key : ByteArray) (id : Int) (w : World) (h : DiskIn w db mb t ev) (hr : Rise t.nodes) (hdir : i64 dir) (hid : i64 id) (hk : key.data.toList.length ≤ 140737488351232) (hlen : t.nodes.length < 1000000)
    (hs : Sorted (nod t.nodes dir).es) (hel : (nod t.nodes dir).es.length ≤ 100000000) :
    Calls Tryz.prog 195 #[.pointer (some ⟨db, 0, none⟩), .int .i64 dir, .string key, .int .i64 id] w fun e w' => e = .returned (.tuple #[]) ∧ (∃ ev', DiskIn w' db mb (bindT t dir key.data.toList id) ev') ∧ Kept (Own2 db mb) w w' := by
  have c0 := h.c0
  have hl := h.map.look_ok dir hdir
  have hE := h.node dir
  have HD := Lib.hid h; have HR := Lib.hid hr; have HLEN := Lib.hid hlen; have HDI := Lib.hid hdir
  unfold bindT
  cases hlook : VtM.seek t.nodes dir with
  | none =>
    rw [hlook] at hl
    simp only [Option.isSome_none, Bool.false_eq_true, if_false] at hl
    have hz : nod t.nodes dir = zeroN := by unfold nod; rw [hlook]; rfl
    rw [hz] at hl
    clear h hE hs hel hlook hz
    unfold ndV zeroN at hl
    go_enter Tryz.func195, Tryz.ntmps195
    go_wp2_with (go_at_call 56; refine (dnone_any db mb _ c0).mono ?_; rintro e w' ⟨rfl, rfl⟩)
    go_end0
    have hb := (Below.refl w.heap.size w).alloc (Nat.le_refl _) (.cells #[.int .i64 0, .int .i64 0, .int .i64 0, .int .i64 0, .int .i64 0, .string (nm []), .slice none 0 0] 64)
    exact ⟨rfl, ⟨_, HD.out.below hb⟩, kept_of_below hb⟩
  | some nd =>
    have hnd : nod t.nodes dir = nd := by unfold nod; rw [hlook]; rfl
    obtain ⟨hmem, rfl⟩ := look_mem hlook
    rw [hlook, hnd] at hl
    simp only [Option.isSome_some, if_true] at hl
    rw [hlook, hnd] at hE
    simp only [Option.isSome_some, if_true] at hE
    rw [hnd] at hs hel
    have hbd := fun W (hW : Below w.heap.size w W) => bound_any (ev nd.id) nd.es key id W ((hE.below hW).more hW.size) hs hk hid hel
    unfold EntsPost at hbd
    obtain ⟨Ae, ce, hev, _⟩ := ents_len hE
    rw [hev] at hl hbd
    have HB := Lib.hid hbd
    clear h hE hs hel hlook hnd hmem hbd hev
    unfold ndV at hl
    have RB := heap_alloc_new w (.cells #[.int .i64 nd.id, .int .i64 nd.kind, .int .i64 nd.mode, .int .i64 nd.owner, .int .i64 nd.time, .string (nm nd.data), .slice Ae nd.es.length ce] 64)
    have hb1 := (Below.refl w.heap.size w).alloc (Nat.le_refl _) (.cells #[.int .i64 nd.id, .int .i64 nd.kind, .int .i64 nd.mode, .int .i64 nd.owner, .int .i64 nd.time, .string (nm nd.data), .slice Ae nd.es.length ce] 64)
    have HB1 := Lib.hid hb1
    have HRB := Lib.hid RB
    clear hb1 RB
    go_enter Tryz.func195, Tryz.ntmps195
    go_wp2_with (first | (go_at_call 56; refine (dnone_any db mb _ c0).mono ?_; rintro e w' ⟨rfl, rfl⟩) | (go_at_call 33; refine (HB.out _ HB1.out).mono ?_; rintro e w2 ⟨v2, rfl, hE2, hb2⟩; have HB2 := Lib.hid (HB1.out.trans (hb2.mono (by simp))); have RB2 := (hb2.block w.heap.size (by simp)).trans HRB.out; have f6 := froz_blk RB2 6; have s6 := cell_blk RB2 6; simp at s6; have HRB2 := Lib.hid RB2; have HEK := Lib.hid hE2; obtain ⟨A2, c2, rfl, _⟩ := ents_len hE2; clear hE2 hb2 RB2))
    have RB4 := set_blk (j := 6) HRB2.out (.slice A2 (boundE nd.es key.data.toList id).length c2)
    have hb4 := HB2.out.setCell (p := ⟨w.heap.size, 6, none⟩) (Nat.le_refl _) (.slice A2 (boundE nd.es key.data.toList id).length c2)
    have hE4 : EntsIn (w2.setCell ⟨w.heap.size, 6, none⟩ (.slice A2 (boundE nd.es key.data.toList id).length c2)) w2.heap.size (.slice A2 (boundE nd.es key.data.toList id).length c2) (boundE nd.es key.data.toList id) := HEK.out.keepBut2 (fun k => k = w.heap.size) (fun b hb => by rw [hb]; exact box_noEnt HRB2.out (by simp) (by simp) (by simp) (by simp) (by simp)) (fun b hb hs => Below.heap_setCell _ _ _ _ (fun e => hs e))
    simp only [List.setIfInBounds_toArray, List.set] at RB4
    have hsz : w2.heap.size ≤ (w2.setCell ⟨w.heap.size, 6, none⟩ (.slice A2 (boundE nd.es key.data.toList id).length c2)).heap.size := by simp
    generalize w2.setCell ⟨w.heap.size, 6, none⟩ (.slice A2 (boundE nd.es key.data.toList id).length c2) = W4 at *
    have HB4 := Lib.hid hb4
    have HE4 := Lib.hid (hE4.more hsz)
    clear hb4 hE4 hsz f6 s6 c0
    have c0 := (HD.out.below HB4.out).c0
    have s0 := cell_blk RB4 0
    have s1 := cell_blk RB4 1
    have s2 := cell_blk RB4 2
    have s3 := cell_blk RB4 3
    have s4 := cell_blk RB4 4
    have s5 := cell_blk RB4 5
    have s6 := cell_blk RB4 6
    simp at s0 s1 s2 s3 s4 s5 s6
    refine wp_region_still_tail 6 (by kernel_rfl) (by kernel_rfl) ?_
    simp only [List.take_succ_cons, List.take_zero, List.drop_succ_cons, List.drop_zero]
    repeat still_step
    refine wpStill_nil ?_
    change wpList _ _ _ _ _ W4.drew
    go_wp2_with (at_mapUpdate; refine wpList_putN rfl _ _ _ rfl mb t.nodes ev rfl (HD.out.below HB4.out.drew).map HR.out HLEN.out { nd with es := boundE nd.es key.data.toList id } (.slice A2 (boundE nd.es key.data.toList id).length c2) rfl rfl HDI.out ?_; intro W3 hm3 ht3)
    go_end0
    have E := DiskIn.bind_end HD.out HR.out HB4.out.drew hm3 ht3 (HE4.out)
    exact ⟨rfl, ⟨_, E.1⟩, E.2⟩
set_option maxRecDepth 100000 in
set_option maxHeartbeats 2000000 in
theorem drop_any (db mb : Nat) (t : Tr) (ev : Int → Value) (id : Int) (w : World) (h : DiskIn w db mb t ev) (hr : Rise t.nodes) (hid : i64 id) :
    Calls Tryz.prog 196 #[.pointer (some ⟨db, 0, none⟩), .int .i64 id] w fun e w' => e = .returned (.tuple #[]) ∧ (∃ ev', DiskIn w' db mb (dropT t id) ev') ∧ Kept (Own2 db mb) w w' := by
  have c0 := h.c0
  have hdel := fun ty => h.map.del hr id hid ty
  have HD := Lib.hid h
  have HDEL := Lib.hid hdel
  clear h hdel
  go_enter Tryz.func196, Tryz.ntmps196
  go_wp2_with (first | (go_at_call 56; refine (dnone_any db mb _ c0).mono ?_; rintro e w' ⟨rfl, rfl⟩) | (at_delete; refine wpList_delN rfl _ _ rfl mb t.nodes ev rfl HD.out.map hr id rfl hid ?_; intro W3 hm3 ht3))
  go_end0
  have hne := HD.out.ne
  have hg := ht3.grown
  have k3 : Kept (Own2 db mb) w W3 := Kept.turned ht3 (.inr rfl)
  exact ⟨rfl, ⟨ev, HD.out.turn hm3 k3 (hg.block db (blk_lt HD.out.disk) (by simp; exact hne)) (fun nd hnd => HD.out.ents nd (del_mem.1 hnd).1)⟩, k3⟩
end Go.Proofs.YtkmnbbocahjmaaaGreatDoor
