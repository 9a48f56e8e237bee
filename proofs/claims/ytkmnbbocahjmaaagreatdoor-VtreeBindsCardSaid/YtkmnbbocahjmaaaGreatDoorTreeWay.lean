/- DERIVED. The walk of way of package tree: the closure that goes through a tree, and its caller. -/
import Derived.Test.YtkmnbbocahjmaaaGreatDoorTreeLed
namespace Go.Proofs.YtkmnbbocahjmaaaGreatDoor
open Go.RowKit Go.Sort
open PathM TreeM
set_option linter.unusedVariables false

def itCells (it : TreeM.Item) : List Value := [.int .i64 it.node, .int .i64 it.fr, .string (nm it.name)]
def metF (l : List TreeM.Item) (id : Int) : Option Int := if met l id = true then some (metAt l id : Int) else none
theorem metAt_snoc {l : List TreeM.Item} {it : TreeM.Item} (h : met l it.id = false) (j : Int) : metAt (l ++ [it]) j = if met l j = true then metAt l j else if j = it.id then l.length else l.length + 1 := by
  unfold metAt
  rw [List.findIdx_append]
  by_cases hj : met l j = true
  · have := metAt_lt hj
    unfold metAt at this
    rw [if_pos this, if_pos hj]
  · have hge : ¬ (List.findIdx (fun m => m.id == j) l < l.length) := by
      intro hlt
      apply hj
      rw [met_iff]
      exact ⟨l[List.findIdx (fun m => m.id == j) l], List.getElem_mem _, eq_of_beq (List.findIdx_getElem (w := hlt))⟩
    rw [if_neg hge, if_neg hj]
    by_cases e : j = it.id
    · rw [if_pos e]; simp [List.findIdx_cons, e]
    · have e2 : (it.id == j) = false := by simpa using fun h => e h.symm
      rw [if_neg e]; simp only [List.findIdx_cons, e2, List.findIdx_nil, cond_false]; omega
theorem metF_snoc {l : List TreeM.Item} {it : TreeM.Item} (h : met l it.id = false) (j : Int) : (if j = it.id then some (l.length : Int) else metF l j) = metF (l ++ [it]) j := by
  unfold metF
  rw [metAt_snoc h, met_append]
  by_cases e : j = it.id
  · subst e
    have h1 : met [it] it.id = true := by simp [met]
    rw [if_pos rfl, h, h1]; simp
  · have e2 : (it.id == j) = false := by simpa using fun h => e h.symm
    have h1 : met [it] j = false := by unfold met; simp only [List.any_cons, List.any_nil, e2, Bool.or_false]
    rw [if_neg e, h1, Bool.or_false]
    by_cases hj : met l j = true
    · simp only [hj, if_true]
    · simp only [hj]; rfl

/-- What the way holds at every step. -/
structure WI (nodes : List Nd) (W1 : World) (B0 bl mb bm bf : Nat) (fv : Value) (l : List TreeM.Item) (W : World) : Prop where
  wy : Wy nodes l
  bel : Below B0 W1 W
  lbox : ∃ v, Boxed W bl 197 v ∧ W.ownsRow B0 207 3 v l.length (l.flatMap itCells)
  mbox : Boxed W bm 195 (.map (some mb))
  fbox : Boxed W bf 205 fv
  map : MapI W mb l.length (metF l)
theorem WI.alloc {nodes : List Nd} {W1 : World} {B0 bl mb bm bf : Nat} {fv : Value} {l : List TreeM.Item} {W : World} (h : WI nodes W1 B0 bl mb bm bf fv l W) (hB : B0 ≤ W.heap.size) (o : Obj) : WI nodes W1 B0 bl mb bm bf fv l (W.alloc o) := by
  obtain ⟨h1, h2, ⟨v, h3, h4⟩, h5, h6, h7⟩ := h
  exact ⟨h1, h2.alloc hB o, ⟨v, h3.alloc o, h4.alloc o⟩, h5.alloc o, h6.alloc o, h7.alloc o⟩
theorem WI.below {nodes : List Nd} {W1 : World} {B0 bl mb bm bf : Nat} {fv : Value} {l : List TreeM.Item} {W W' : World} (h : WI nodes W1 B0 bl mb bm bf fv l W) (hB : B0 ≤ W.heap.size) (hb : Below W.heap.size W W') : WI nodes W1 B0 bl mb bm bf fv l W' := by
  obtain ⟨h1, h2, ⟨v, h3, h4⟩, h5, h6, h7⟩ := h
  have hbox : ∀ {B t u}, Boxed W B t u → Boxed W' B t u := fun h => (hb.block _ h.lt).trans h
  refine ⟨h1, h2.trans (hb.mono hB), ⟨v, hbox h3, ?_⟩, hbox h5, hbox h6, h7.below hb h7.lt⟩
  obtain ⟨g1, g2⟩ := h4
  refine ⟨g1, g2.imp id ?_⟩
  rintro ⟨g, cap, cur, hv, hg, hh, hr⟩
  exact ⟨g, cap, cur, hv, hg, (hb.block g (Array.getElem?_eq_some_iff.1 hh).1).trans hh, hr⟩
theorem ownsRow_len3 {W : World} {base : Nat} {e : TypeId} {size : Nat} {v : Value} {k : Nat} {xs : List Value} (h : W.ownsRow base e size v k xs) : ∃ a cap, v = .slice a k cap := by
  rcases h.2 with ⟨rfl, rfl⟩ | ⟨g, cap, cur, rfl, _⟩
  · exact ⟨_, _, rfl⟩
  · exact ⟨_, _, rfl⟩
theorem info83 : (Tryz.prog.info? 207).map (fun i => (i.zero, i.size, i.bytes)) = some (some (.agg #[.int .i64 0, .int .i64 0, .string ByteArray.empty]), 3, 32) := by kernel_rfl

theorem cells3 (W : World) (t : TypeId) (a b c : Value) : ∀ (j : Nat) (u : Value), [a, b, c][j]? = some u → (W.alloc (.cells #[a, b, c] t)).cell? ((⟨W.heap.size, 0, none⟩ : Addr).add j) = some u := by
  intro j u hj
  match j, hj with
  | 0, hj => simp at hj; subst hj; simp [Addr.add]
  | 1, hj => simp at hj; subst hj; simp [Addr.add]
  | 2, hj => simp at hj; subst hj; simp [Addr.add]

theorem box_ne_map {W : World} {B mb n : Nat} {t : TypeId} {u : Value} {f : Int → Option Int} (h : Boxed W B t u) (hm : MapI W mb n f) : some B ≠ some mb := by
  intro e
  cases e
  obtain ⟨o, ho, hc⟩ := hm.notCells _ rfl
  have : W.heap[B]? = _ := h
  rw [this] at ho; cases ho; cases hc
theorem row_ne_map {W : World} {base : Nat} {e : TypeId} {size : Nat} {v : Value} {k mb n : Nat} {xs : List Value} {f : Int → Option Int} (h : W.ownsRow base e size v k xs) (hm : MapI W mb n f) : v.ownBlock ≠ some mb := by
  rcases h.2 with ⟨rfl, _⟩ | ⟨g, cap, cur, rfl, _, hh, _⟩
  · simp [Value.ownBlock]
  · intro e'
    obtain rfl : g = mb := by simpa [Value.ownBlock] using e'
    obtain ⟨o, ho, hc⟩ := hm.notCells _ rfl
    rw [hh] at ho; cases ho; cases hc


theorem one3 (a b : Int) (s : ByteArray) : ∀ u ∈ [Value.int .i64 a, Value.int .i64 b, Value.string s], u.oneCell' = true := by
  intro u hu
  simp at hu
  rcases hu with rfl | rfl | rfl <;> rfl
theorem alloc_lt (w : World) (o : Obj) : w.heap.size < (w.alloc o).heap.size := by simp
theorem maxLen_ok {n : Nat} (h : n ≤ 9223372036854775807) : n ≤ maxLen := by unfold maxLen; exact h

theorem way_next {nodes : List Nd} {W1 w2 w3 : World} {B0 bl mb bm bf : Nat} {fv v v' : Value} {l l1 : List TreeM.Item} {id : Int} {news : List Value} {tmp : Obj} (hl1 : l1.length = l.length + 1) (hcs : l1.flatMap itCells = l.flatMap itCells ++ news)
    (hmf : ∀ j, (if j = id then some (l.length : Int) else metF l j) = metF l1 j) (hwy : Wy nodes l1) (hlm : bm ≠ bl) (hlf : bf ≠ bl) (hbel : Below B0 W1 w2) (hmb : Boxed w2 bm 195 (.map (some mb))) (hf : Boxed w2 bf 205 fv)
    (hm : MapI w2 mb (l.length + 1) (fun j => if j = id then some (l.length : Int) else metF l j)) (hrow : w2.ownsRow B0 207 3 v l.length (l.flatMap itCells))
    (hgrow : (w2.alloc tmp).grownBy w3 v.ownBlock) (hv3 : Boxed w3 bl 197 v) (hv4 : Boxed (w3.setCell ⟨bl, 0, none⟩ v') bl 197 v') (hr4 : (w3.setCell ⟨bl, 0, none⟩ v').ownsRow B0 207 3 v' (l.length + 1) (l.flatMap itCells ++ news))
    (hb4 : Below B0 w2 (w3.setCell ⟨bl, 0, none⟩ v')) : WI nodes W1 B0 bl mb bm bf fv l1 (w3.setCell ⟨bl, 0, none⟩ v') := by
  refine ⟨hwy, hbel.trans hb4, ⟨v', hv4, by rw [hl1, hcs]; exact hr4⟩, ?_, ?_, ?_⟩
  · exact ((hmb.alloc tmp).kept hgrow (hmb.not_row (by decide) hrow)).other hlm _
  · exact ((hf.alloc tmp).kept hgrow (hf.not_row (by decide) hrow)).other hlf _
  · rw [hl1]
    have h1 : MapI w3 mb (l.length + 1) (metF l1) := ((hm.alloc tmp).kept hgrow (row_ne_map hrow hm).symm).congr hmf
    exact h1.setCell (fun e => box_ne_map hv3 h1 (congrArg some e.symm)) _

set_option maxRecDepth 100000 in
set_option maxHeartbeats 8000000 in
theorem meet_any (nv : Value) (t : Tr) (B0 bt bl mb bm bf : Nat) (W1 : World) (hN : NodesIn W1 B0 nv t.nodes) (hri : Rising t.nodes) (hn : t.nodes.length ≤ 512) (hled : ∀ x ∈ flat t.nodes, place t.nodes x.to < t.nodes.length)
    (t0 : W1.cell? ⟨bt, 0, none⟩ = some nv) (t1 : W1.cell? ⟨bt, 1, none⟩ = some (.int .i64 t.last)) (t2 : W1.cell? ⟨bt, 2, none⟩ = some (.int .i64 t.rn)) (t3 : W1.cell? ⟨bt, 3, none⟩ = some (.int .i64 t.rb))
    (hB0 : B0 ≤ W1.heap.size) (hbt : bt < B0) (hbl : B0 ≤ bl) (hmb : B0 ≤ mb) (hlm : bm ≠ bl) (hlf : bf ≠ bl) :
    ∀ (f : Nat) (l : List TreeM.Item) (id : Int) (fr : Nat) (name path : Bs) (W : World), unmet t.nodes l ≤ f → place t.nodes id < t.nodes.length → (-9223372036854775808 ≤ id ∧ id ≤ 9223372036854775807) →
      WI t.nodes W1 B0 bl mb bm bf (.func (.func 158) #[] #[.pointer (some ⟨bm, 0, none⟩), .pointer (some ⟨bt, 0, none⟩), .pointer (some ⟨bl, 0, none⟩), .pointer (some ⟨bf, 0, none⟩)]) l W →
      Calls Tryz.prog 158 #[.int .i64 id, .int .i64 fr, .string (nm name), .pointer (some ⟨bm, 0, none⟩), .pointer (some ⟨bt, 0, none⟩), .pointer (some ⟨bl, 0, none⟩), .pointer (some ⟨bf, 0, none⟩)] W fun e W' =>
        e = .returned (.tuple #[]) ∧ WI t.nodes W1 B0 bl mb bm bf (.func (.func 158) #[] #[.pointer (some ⟨bm, 0, none⟩), .pointer (some ⟨bt, 0, none⟩), .pointer (some ⟨bl, 0, none⟩), .pointer (some ⟨bf, 0, none⟩)]) (dfs t.nodes f id fr name path l) W' := by
  intro f
  have again : ∀ (f : Nat) (l : List TreeM.Item) (id : Int) (fr : Nat) (name path : Bs) (W : World), met l id = true → (-9223372036854775808 ≤ id ∧ id ≤ 9223372036854775807) →
      WI t.nodes W1 B0 bl mb bm bf (.func (.func 158) #[] #[.pointer (some ⟨bm, 0, none⟩), .pointer (some ⟨bt, 0, none⟩), .pointer (some ⟨bl, 0, none⟩), .pointer (some ⟨bf, 0, none⟩)]) l W →
      Calls Tryz.prog 158 #[.int .i64 id, .int .i64 fr, .string (nm name), .pointer (some ⟨bm, 0, none⟩), .pointer (some ⟨bt, 0, none⟩), .pointer (some ⟨bl, 0, none⟩), .pointer (some ⟨bf, 0, none⟩)] W fun e W' =>
        e = .returned (.tuple #[]) ∧ WI t.nodes W1 B0 bl mb bm bf (.func (.func 158) #[] #[.pointer (some ⟨bm, 0, none⟩), .pointer (some ⟨bt, 0, none⟩), .pointer (some ⟨bl, 0, none⟩), .pointer (some ⟨bf, 0, none⟩)]) (dfs t.nodes f id fr name path l) W' := by
    intro f l id fr name path W hm hid hW
    rw [dfs_met hm]
    have hlk := hW.map.look_ok id hid
    have hmf : metF l id = some (metAt l id : Int) := by unfold metF; rw [if_pos hm]
    rw [hmf, Option.getD_some, Option.isSome_some] at hlk
    have c0 := hW.mbox.cell
    have HW := Lib.hid hW
    clear hW hm hmf hN hled t0 t1 t2 t3
    generalize nm name = nam
    generalize metAt l id = ma at *
    go_enter Tryz.func158, Tryz.ntmps158
    go_wp2
    refine bodyPost_ret (results_none rfl _ _ _) rfl ?_
    exact ⟨rfl, HW.out⟩
  induction f with
  | zero =>
    intro l id fr name path W hu hp hid hW
    exact again 0 l id fr name path W (unmet_zero (by omega) hp) hid hW
  | succ f ih =>
    intro l id fr name path W hu hp hid hW
    cases hm : met l id with
    | true => exact again (f + 1) l id fr name path W hm hid hW
    | false =>
      clear again
      rw [dfs_new hm hp]
      have hub := unmet_add (it := ⟨place t.nodes id, fr, name, id, path⟩) hm hp
      have hwy := hW.wy.add (it := ⟨place t.nodes id, fr, name, id, path⟩) hm hp rfl
      have hlen := hwy.len
      have hmfs := metF_snoc (it := ⟨place t.nodes id, fr, name, id, path⟩) hm
      have hcs : (l ++ [(⟨place t.nodes id, fr, name, id, path⟩ : TreeM.Item)]).flatMap itCells = l.flatMap itCells ++ [.int .i64 (place t.nodes id), .int .i64 fr, .string (nm name)] := by simp [itCells]
      have hlen1 : (l ++ [(⟨place t.nodes id, fr, name, id, path⟩ : TreeM.Item)]).length = l.length + 1 := by simp
      have hmf : metF l id = none := by unfold metF; rw [hm]; rfl
      have hlk := hW.map.look_ok id hid
      rw [hmf, Option.getD_none, Option.isSome_none] at hlk
      simp only at hmfs hub
      generalize hl1 : (l ++ [(⟨place t.nodes id, fr, name, id, path⟩ : TreeM.Item)]) = l1 at *
      have hll : l.length < 512 := by omega
      have hbel := hW.bel
      have hB1 : B0 ≤ W.heap.size := by have h1 := hbel.size; omega
      have s0 : W.cell? ⟨bt, 0, none⟩ = some nv := (hbel.cell (p := ⟨bt, 0, none⟩) hbt).trans t0
      have s1 : W.cell? ⟨bt, 1, none⟩ = some (.int .i64 t.last) := (hbel.cell (p := ⟨bt, 1, none⟩) hbt).trans t1
      have s2 : W.cell? ⟨bt, 2, none⟩ = some (.int .i64 t.rn) := (hbel.cell (p := ⟨bt, 2, none⟩) hbt).trans t2
      have s3 : W.cell? ⟨bt, 3, none⟩ = some (.int .i64 t.rb) := (hbel.cell (p := ⟨bt, 3, none⟩) hbt).trans t3
      have hfind := find_yes nv t id B0 W (hN.below hbel) hB1 hri hp
      obtain ⟨_, ⟨A, c, rfl, h0⟩ | ⟨b, off, c, rfl, hcap, hb, hpos, hcells⟩⟩ := hN.cases
      · rw [h0] at hp; simp [place] at hp
      obtain ⟨ev, n6, hE⟩ := (hcells _ hp).2.2.2.2.2.2.2
      have hpl : (place t.nodes id : Int) < (t.nodes.length : Int) := by omega
      have hflat : ∀ x ∈ (ndAt t.nodes (place t.nodes id)).es, place t.nodes x.to < t.nodes.length := fun x hx => hled x (flat_mem.2 ⟨_, hp, hx⟩)
      have c0 := hW.mbox.cell
      generalize place t.nodes id = p at *
      generalize ndAt t.nodes p = nd at *
      have HW := Lib.hid hW; have HFIND := Lib.hid hfind
      have HMFS := Lib.hid hmfs; have HCS := Lib.hid hcs; have HL1 := Lib.hid hlen1; have HWY := Lib.hid hwy; have HUB := Lib.hid hub
      have IH := Lib.hid ih; have HFL := Lib.hid hflat; have HB := Lib.hid hbel
      clear hW hfind hmfs hcs hlen1 hl1 hwy hub hm hmf hp ih hled hri hcells hN hflat hbel
      obtain ⟨i0, hi, hz0, hz1, hz2⟩ := info_parts info83
      have HI := Lib.hid hi; have HZ0 := Lib.hid hz0; have HZ1 := Lib.hid hz1; have HZ2 := Lib.hid hz2
      clear hi hz0 hz1 hz2
      unfold trV at HFIND
      generalize t.nodes.length = n at *
      generalize t.last = la at *
      generalize t.rn = rn at *
      generalize t.rb = rb at *
      obtain ⟨hml, hxr, ⟨Ae, ce, rfl, he0⟩ | ⟨eb, eo, ce, rfl, hecap, heb, hepos, hec⟩⟩ := hE.cases
      · rw [he0]
        clear hE hxr hml he0
        go_enter Tryz.func158, Tryz.ntmps158
        go_wp2_with fail
        refine HFIND.out.mono ?_
        rintro e w1 ⟨rfl, hb1⟩
        obtain ⟨_, hbl1, ⟨v, hv, hrow⟩, hmb1, hf1, hmap1⟩ := HW.out.below hB1 hb1
        obtain ⟨va, vc, rfl⟩ := ownsRow_len3 hrow
        have c1 := hmb1.cell
        have lc1 := hv.cell
        have hB2 : B0 ≤ w1.heap.size := by have := hb1.size; omega
        have HV := Lib.hid hv; have HROW := Lib.hid hrow; have HMB := Lib.hid hmb1; have HF := Lib.hid hf1; have HMAP := Lib.hid hmap1; have HBL := Lib.hid hbl1
        clear hv hrow hmb1 hf1 hmap1 hbl1 hb1
        go_wp2_with (first | (at_mapUpdate; refine wpList_put _ rfl _ _ _ rfl mb l.length (metF l) rfl HMAP.out (by unfold maxLen; omega) id (l.length : Int) rfl rfl hid (by omega) ?_; intro w2 hm2 hg2; have HV2 := Lib.hid (HV.out.kept hg2 (box_ne_map HV.out HMAP.out)); have HR2 := Lib.hid (HROW.out.kept hg2 (.inr (row_ne_map HROW.out HMAP.out))); have HMB2 := Lib.hid (HMB.out.kept hg2 (box_ne_map HMB.out HMAP.out)); have HF2 := Lib.hid (HF.out.kept hg2 (box_ne_map HF.out HMAP.out)); have HBL2 := Lib.hid (HBL.out.grown hg2 hB2 (fun j hj => by cases hj; exact hmb)); have HM2 := Lib.hid hm2; have lc2 := HV2.out.cell; have hB3 : B0 ≤ w2.heap.size := Nat.le_trans hB2 hg2.size; clear hm2 hg2) | (at_builtin; refine wpList_append_own _ rfl _ _ 197 rfl B0 207 i0 (.agg #[.int .i64 0, .int .i64 0, .string ByteArray.empty]) 3 32 Tryz.underlying197 HI.out HZ0.out HZ1.out HZ2.out rfl (by decide) _ _ _ rfl (HR2.out.alloc _) ⟨w2.heap.size, 0, none⟩ 1 1 [.int .i64 p, .int .i64 fr, .string (nm name)] rfl rfl (cells3 _ _ _ _ _) (one3 _ _ _) (maxLen_ok (by omega)) (by omega) (Nat.le_trans hB3 (Nat.le_of_lt (alloc_lt _ _))) ?_; intro v' w3 hown' hgrow _; obtain ⟨g', cap', rfl⟩ := ownsRow_succ hown'; obtain ⟨hv3, hv4, hr4, hk4, hb4⟩ := HV2.out.appended (by decide) HR2.out hB3 hbl hown' hgrow; have hc3 := hv3.cell; have hf3 := hv3.frozen; have HW4 := Lib.hid (way_next HL1.out HCS.out HMFS.out HWY.out hlm hlf HBL2.out HMB2.out HF2.out HM2.out HR2.out hgrow hv3 hv4 hr4 hb4); have z0 := (HW4.out.bel.cell (p := ⟨bt, 0, none⟩) hbt).trans t0; have z6 := (HW4.out.bel.cell (p := ⟨b, off + p * 7 + 6, none⟩) hb).trans n6; clear hown' hgrow hv3 hv4 hr4 hk4 hb4))
        refine wp_loop_rounds 1 ?_
        rw [rounds_succ]
        go_wp2
        go_end0
        exact ⟨rfl, HW4.out⟩
      · have hmlen : nd.es.length = nd.es.length := rfl
        have htk : nd.es.take nd.es.length = nd.es := List.take_length
        have hstep : ∀ q, q < nd.es.length → dfsL t.nodes f l.length path (nd.es.take (q + 1)) l1 = dfs t.nodes f (entAt nd.es q).to l.length (entAt nd.es q).key (joinL path (entAt nd.es q).key) (dfsL t.nodes f l.length path (nd.es.take q) l1) := fun q hq => dfsL_take hq
        have hmem : ∀ q, q < nd.es.length → entAt nd.es q ∈ nd.es := fun q hq => entAt_mem hq
        generalize hm : nd.es.length = m at *
        have HTK := Lib.hid htk; have HST := Lib.hid hstep; have HMEM := Lib.hid hmem; have HXR := Lib.hid hxr; have HEC := Lib.hid hec; have HMM := Lib.hid hm
        clear htk hstep hmem hxr hec hm hE hmlen
        go_enter Tryz.func158, Tryz.ntmps158
        go_wp2_with fail
        refine HFIND.out.mono ?_
        rintro e w1 ⟨rfl, hb1⟩
        obtain ⟨_, hbl1, ⟨v, hv, hrow⟩, hmb1, hf1, hmap1⟩ := HW.out.below hB1 hb1
        obtain ⟨va, vc, rfl⟩ := ownsRow_len3 hrow
        have c1 := hmb1.cell
        have lc1 := hv.cell
        have hB2 : B0 ≤ w1.heap.size := by have := hb1.size; omega
        have HV := Lib.hid hv; have HROW := Lib.hid hrow; have HMB := Lib.hid hmb1; have HF := Lib.hid hf1; have HMAP := Lib.hid hmap1; have HBL := Lib.hid hbl1
        clear hv hrow hmb1 hf1 hmap1 hbl1 hb1
        go_wp2_with (first | (at_mapUpdate; refine wpList_put _ rfl _ _ _ rfl mb l.length (metF l) rfl HMAP.out (by unfold maxLen; omega) id (l.length : Int) rfl rfl hid (by omega) ?_; intro w2 hm2 hg2; have HV2 := Lib.hid (HV.out.kept hg2 (box_ne_map HV.out HMAP.out)); have HR2 := Lib.hid (HROW.out.kept hg2 (.inr (row_ne_map HROW.out HMAP.out))); have HMB2 := Lib.hid (HMB.out.kept hg2 (box_ne_map HMB.out HMAP.out)); have HF2 := Lib.hid (HF.out.kept hg2 (box_ne_map HF.out HMAP.out)); have HBL2 := Lib.hid (HBL.out.grown hg2 hB2 (fun j hj => by cases hj; exact hmb)); have HM2 := Lib.hid hm2; have lc2 := HV2.out.cell; have hB3 : B0 ≤ w2.heap.size := Nat.le_trans hB2 hg2.size; clear hm2 hg2) | (at_builtin; refine wpList_append_own _ rfl _ _ 197 rfl B0 207 i0 (.agg #[.int .i64 0, .int .i64 0, .string ByteArray.empty]) 3 32 Tryz.underlying197 HI.out HZ0.out HZ1.out HZ2.out rfl (by decide) _ _ _ rfl (HR2.out.alloc _) ⟨w2.heap.size, 0, none⟩ 1 1 [.int .i64 p, .int .i64 fr, .string (nm name)] rfl rfl (cells3 _ _ _ _ _) (one3 _ _ _) (maxLen_ok (by omega)) (by omega) (Nat.le_trans hB3 (Nat.le_of_lt (alloc_lt _ _))) ?_; intro v' w3 hown' hgrow _; obtain ⟨g', cap', rfl⟩ := ownsRow_succ hown'; obtain ⟨hv3, hv4, hr4, hk4, hb4⟩ := HV2.out.appended (by decide) HR2.out hB3 hbl hown' hgrow; have hc3 := hv3.cell; have hf3 := hv3.frozen; have HW4 := Lib.hid (way_next HL1.out HCS.out HMFS.out HWY.out hlm hlf HBL2.out HMB2.out HF2.out HM2.out HR2.out hgrow hv3 hv4 hr4 hb4); have z0 := (HW4.out.bel.cell (p := ⟨bt, 0, none⟩) hbt).trans t0; have z6 := (HW4.out.bel.cell (p := ⟨b, off + p * 7 + 6, none⟩) hb).trans n6; clear hown' hgrow hv3 hv4 hr4 hk4 hb4))
        go_loopw [49] (fun i wr => ∃ q : Nat, q ≤ m ∧ i = .int .i64 q ∧ WI t.nodes W1 B0 bl mb bm bf (.func (.func 158) #[] #[.pointer (some ⟨bm, 0, none⟩), .pointer (some ⟨bt, 0, none⟩), .pointer (some ⟨bl, 0, none⟩), .pointer (some ⟨bf, 0, none⟩)]) (dfsL t.nodes f l.length path (nd.es.take q) l1) wr) (fun i _ => m - (intOf i).toNat)
        case atStart => exact ⟨0, by omega, rfl, HW4.out⟩
        case round =>
          obtain ⟨q, hq, rfl, hwi⟩ := hrel
          have hbr := hwi.bel
          have hBr : B0 ≤ wr.heap.size := by have := hbr.size; omega
          have fc := hwi.fbox.cell
          have hbfs := hwi.fbox.lt
          have HWI := Lib.hid hwi
          by_cases hqt : q < m
          · obtain ⟨ec0, ec1⟩ := HEC.out q hqt
            have d0 : wr.cell? ⟨eb, eo + q * 2, none⟩ = some (.string (nm (entAt nd.es q).key)) := (hbr.cell (p := ⟨eb, eo + q * 2, none⟩) heb).trans ec0
            have d1 : wr.cell? ⟨eb, eo + q * 2 + 1, none⟩ = some (.int .i64 (entAt nd.es q).to) := (hbr.cell (p := ⟨eb, eo + q * 2 + 1, none⟩) heb).trans ec1
            have hqq : (q : Int) < (m : Int) := by omega
            have HS1 := Lib.hid (HST.out q hqt)
            have hun : unmet t.nodes (dfsL t.nodes f l.length path (nd.es.take q) l1) ≤ f := Nat.le_trans (unmet_mono _ (dfsL_prefix _ _ _ _ _ _)) (by have := HUB.out; omega)
            have hxm := HMEM.out q hqt
            have hplx := HFL.out _ hxm
            have hran := (HXR.out _ hxm).2
            have HIH := Lib.hid (fun W hW => IH.out (dfsL t.nodes f l.length path (nd.es.take q) l1) (entAt nd.es q).to l.length (entAt nd.es q).key (joinL path (entAt nd.es q).key) W hun hplx hran hW)
            clear hwi hbr ec0 ec1 hun hxm hplx hran
            generalize entAt nd.es q = x at *
            go_wp2_with fail
            refine (HIH.out _ (HWI.out.alloc hBr _)).mono ?_
            rintro e w5 ⟨rfl, hw5⟩
            go_wp2
            go_roundw
            case rel => exact ⟨q + 1, by omega, by go_num, by rw [HS1.out]; exact hw5⟩
            case measure => simp [intOf]; omega
          · have hqm : q = m := by omega
            have HO : Hid (dfsL t.nodes f l.length path (nd.es.take q) l1 = dfsL t.nodes f l.length path nd.es l1) := Lib.hid (by rw [hqm, HTK.out])
            clear hqm hwi hbr
            go_wp2
            go_end0
            exact ⟨rfl, by rw [← HO.out]; exact HWI.out⟩

end Go.Proofs.YtkmnbbocahjmaaaGreatDoor
