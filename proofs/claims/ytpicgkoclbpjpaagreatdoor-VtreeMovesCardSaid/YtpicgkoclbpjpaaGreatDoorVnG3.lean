/- DERIVED. Stage 5, several texts in one: TreeWay TreeWay2 TreeRef2 TreeRWay. -/
import Derived.Test.YtpicgkoclbpjpaaGreatDoorVnG2
import Derived.Laws.EntriesVeiled
import Derived.Maps.AppendAt
import Derived.StillTailTactics
section
namespace Go.Proofs.YtpicgkoclbpjpaaGreatDoor
open Go.RowKit Go.Sort
open PathM TreeM
set_option linter.unusedVariables false

def itCells (it : TreeM.Item) : List Value := [.int .i64 it.node, .int .i64 it.fr, .string (nm it.name)]
def metF (l : List TreeM.Item) (id : Int) : Option Int := if met l id = true then some (metAt l id : Int) else none
theorem metAt_snoc {l : List TreeM.Item} {it : TreeM.Item} (h : met l it.id = false) (j : Int) : metAt (l ++ [it]) j = if met l j = true then metAt l j else if j = it.id then l.length else l.length + 1 := by
  unfold metAt
  rw [List.findIdx_append]
  by_cases hj : met l j = true
  · have := metAt_lt hj
    unfold metAt at this
    rw [if_pos this, if_pos hj]
  · have hge : ¬ (List.findIdx (fun m => m.id == j) l < l.length) := by
      intro hlt
      apply hj
      rw [met_iff]
      exact ⟨l[List.findIdx (fun m => m.id == j) l], List.getElem_mem _, eq_of_beq (List.findIdx_getElem (w := hlt))⟩
    rw [if_neg hge, if_neg hj]
    by_cases e : j = it.id
    · rw [if_pos e]; simp [List.findIdx_cons, e]
    · have e2 : (it.id == j) = false := by simpa using fun h => e h.symm
      rw [if_neg e]; simp only [List.findIdx_cons, e2, List.findIdx_nil, cond_false]; omega
theorem metF_snoc {l : List TreeM.Item} {it : TreeM.Item} (h : met l it.id = false) (j : Int) : (if j = it.id then some (l.length : Int) else metF l j) = metF (l ++ [it]) j := by
  unfold metF
  rw [metAt_snoc h, met_append]
  by_cases e : j = it.id
  · subst e
    have h1 : met [it] it.id = true := by simp [met]
    rw [if_pos rfl, h, h1]; simp
  · have e2 : (it.id == j) = false := by simpa using fun h => e h.symm
    have h1 : met [it] j = false := by unfold met; simp only [List.any_cons, List.any_nil, e2, Bool.or_false]
    rw [if_neg e, h1, Bool.or_false]
    by_cases hj : met l j = true
    · simp only [hj, if_true]
    · simp only [hj]; rfl

/-- What the way holds at every step. -/
structure WI (nodes : List Nd) (W1 : World) (B0 bl mb bm bf : Nat) (fv : Value) (l : List TreeM.Item) (W : World) : Prop where
  wy : Wy nodes l
  bel : Below B0 W1 W
  lbox : ∃ v, Boxed W bl 197 v ∧ W.ownsRow B0 207 3 v l.length (l.flatMap itCells)
  mbox : Boxed W bm 195 (.map (some mb))
  fbox : Boxed W bf 205 fv
  map : MapI W mb l.length (metF l)
theorem WI.alloc {nodes : List Nd} {W1 : World} {B0 bl mb bm bf : Nat} {fv : Value} {l : List TreeM.Item} {W : World} (h : WI nodes W1 B0 bl mb bm bf fv l W) (hB : B0 ≤ W.heap.size) (o : Obj) : WI nodes W1 B0 bl mb bm bf fv l (W.alloc o) := by
  obtain ⟨h1, h2, ⟨v, h3, h4⟩, h5, h6, h7⟩ := h
  exact ⟨h1, h2.alloc hB o, ⟨v, h3.alloc o, h4.alloc o⟩, h5.alloc o, h6.alloc o, h7.alloc o⟩
theorem WI.below {nodes : List Nd} {W1 : World} {B0 bl mb bm bf : Nat} {fv : Value} {l : List TreeM.Item} {W W' : World} (h : WI nodes W1 B0 bl mb bm bf fv l W) (hB : B0 ≤ W.heap.size) (hb : Below W.heap.size W W') : WI nodes W1 B0 bl mb bm bf fv l W' := by
  obtain ⟨h1, h2, ⟨v, h3, h4⟩, h5, h6, h7⟩ := h
  have hbox : ∀ {B t u}, Boxed W B t u → Boxed W' B t u := fun h => (hb.block _ h.lt).trans h
  refine ⟨h1, h2.trans (hb.mono hB), ⟨v, hbox h3, ?_⟩, hbox h5, hbox h6, h7.below hb h7.lt⟩
  obtain ⟨g1, g2⟩ := h4
  refine ⟨g1, g2.imp id ?_⟩
  rintro ⟨g, cap, cur, hv, hg, hh, hr⟩
  exact ⟨g, cap, cur, hv, hg, (hb.block g (Array.getElem?_eq_some_iff.1 hh).1).trans hh, hr⟩
theorem ownsRow_len3 {W : World} {base : Nat} {e : TypeId} {size : Nat} {v : Value} {k : Nat} {xs : List Value} (h : W.ownsRow base e size v k xs) : ∃ a cap, v = .slice a k cap := by
  rcases h.2 with ⟨rfl, rfl⟩ | ⟨g, cap, cur, rfl, _⟩
  · exact ⟨_, _, rfl⟩
  · exact ⟨_, _, rfl⟩
theorem info83 : (Tryz.prog.info? 207).map (fun i => (i.zero, i.size, i.bytes)) = some (some (.agg #[.int .i64 0, .int .i64 0, .string ByteArray.empty]), 3, 32) := by kernel_rfl

theorem cells3 (W : World) (t : TypeId) (a b c : Value) : ∀ (j : Nat) (u : Value), [a, b, c][j]? = some u → (W.alloc (.cells #[a, b, c] t)).cell? ((⟨W.heap.size, 0, none⟩ : Addr).add j) = some u := by
  intro j u hj
  match j, hj with
  | 0, hj => simp at hj; subst hj; simp [Addr.add]
  | 1, hj => simp at hj; subst hj; simp [Addr.add]
  | 2, hj => simp at hj; subst hj; simp [Addr.add]

theorem box_ne_map {W : World} {B mb n : Nat} {t : TypeId} {u : Value} {f : Int → Option Int} (h : Boxed W B t u) (hm : MapI W mb n f) : some B ≠ some mb := by
  intro e
  cases e
  obtain ⟨o, ho, hc⟩ := hm.notCells _ rfl
  have : W.heap[B]? = _ := h
  rw [this] at ho; cases ho; cases hc
theorem row_ne_map {W : World} {base : Nat} {e : TypeId} {size : Nat} {v : Value} {k mb n : Nat} {xs : List Value} {f : Int → Option Int} (h : W.ownsRow base e size v k xs) (hm : MapI W mb n f) : v.ownBlock ≠ some mb := by
  rcases h.2 with ⟨rfl, _⟩ | ⟨g, cap, cur, rfl, _, hh, _⟩
  · simp [Value.ownBlock]
  · intro e'
    obtain rfl : g = mb := by simpa [Value.ownBlock] using e'
    obtain ⟨o, ho, hc⟩ := hm.notCells _ rfl
    rw [hh] at ho; cases ho; cases hc


theorem one3 (a b : Int) (s : ByteArray) : ∀ u ∈ [Value.int .i64 a, Value.int .i64 b, Value.string s], u.oneCell' = true := by
  intro u hu
  simp at hu
  rcases hu with rfl | rfl | rfl <;> rfl
theorem alloc_lt (w : World) (o : Obj) : w.heap.size < (w.alloc o).heap.size := by simp
theorem maxLen_ok {n : Nat} (h : n ≤ 9223372036854775807) : n ≤ maxLen := by unfold maxLen; exact h

theorem way_next {nodes : List Nd} {W1 w2 w3 : World} {B0 bl mb bm bf : Nat} {fv v v' : Value} {l l1 : List TreeM.Item} {id : Int} {news : List Value} {tmp : Obj} (hl1 : l1.length = l.length + 1) (hcs : l1.flatMap itCells = l.flatMap itCells ++ news)
    (hmf : ∀ j, (if j = id then some (l.length : Int) else metF l j) = metF l1 j) (hwy : Wy nodes l1) (hlm : bm ≠ bl) (hlf : bf ≠ bl) (hbel : Below B0 W1 w2) (hmb : Boxed w2 bm 195 (.map (some mb))) (hf : Boxed w2 bf 205 fv)
    (hm : MapI w2 mb (l.length + 1) (fun j => if j = id then some (l.length : Int) else metF l j)) (hrow : w2.ownsRow B0 207 3 v l.length (l.flatMap itCells))
    (hgrow : (w2.alloc tmp).grownBy w3 v.ownBlock) (hv3 : Boxed w3 bl 197 v) (hv4 : Boxed (w3.setCell ⟨bl, 0, none⟩ v') bl 197 v') (hr4 : (w3.setCell ⟨bl, 0, none⟩ v').ownsRow B0 207 3 v' (l.length + 1) (l.flatMap itCells ++ news))
    (hb4 : Below B0 w2 (w3.setCell ⟨bl, 0, none⟩ v')) : WI nodes W1 B0 bl mb bm bf fv l1 (w3.setCell ⟨bl, 0, none⟩ v') := by
  refine ⟨hwy, hbel.trans hb4, ⟨v', hv4, by rw [hl1, hcs]; exact hr4⟩, ?_, ?_, ?_⟩
  · exact ((hmb.alloc tmp).kept hgrow (hmb.not_row (by decide) hrow)).other hlm _
  · exact ((hf.alloc tmp).kept hgrow (hf.not_row (by decide) hrow)).other hlf _
  · rw [hl1]
    have h1 : MapI w3 mb (l.length + 1) (metF l1) := ((hm.alloc tmp).kept hgrow (row_ne_map hrow hm).symm).congr hmf
    exact h1.setCell (fun e => box_ne_map hv3 h1 (congrArg some e.symm)) _

set_option maxRecDepth 100000 in
set_option maxHeartbeats 8000000 in
theorem meet_any (nv : Value) (t : Tr) (B0 bt bl mb bm bf : Nat) (W1 : World) (hN : NodesIn W1 B0 nv t.nodes) (hri : Rising t.nodes) (hn : t.nodes.length ≤ 512) (hled : ∀ x ∈ flat t.nodes, place t.nodes x.to < t.nodes.length)
    (t0 : W1.cell? ⟨bt, 0, none⟩ = some nv) (t1 : W1.cell? ⟨bt, 1, none⟩ = some (.int .i64 t.last)) (t2 : W1.cell? ⟨bt, 2, none⟩ = some (.int .i64 t.rn)) (t3 : W1.cell? ⟨bt, 3, none⟩ = some (.int .i64 t.rb))
    (hB0 : B0 ≤ W1.heap.size) (hbt : bt < B0) (hbl : B0 ≤ bl) (hmb : B0 ≤ mb) (hlm : bm ≠ bl) (hlf : bf ≠ bl) :
    ∀ (f : Nat) (l : List TreeM.Item) (id : Int) (fr : Nat) (name path : Bs) (W : World), unmet t.nodes l ≤ f → place t.nodes id < t.nodes.length → (-9223372036854775808 ≤ id ∧ id ≤ 9223372036854775807) →
      WI t.nodes W1 B0 bl mb bm bf (.func (.func 158) #[] #[.pointer (some ⟨bm, 0, none⟩), .pointer (some ⟨bt, 0, none⟩), .pointer (some ⟨bl, 0, none⟩), .pointer (some ⟨bf, 0, none⟩)]) l W →
      Calls Tryz.prog 158 #[.int .i64 id, .int .i64 fr, .string (nm name), .pointer (some ⟨bm, 0, none⟩), .pointer (some ⟨bt, 0, none⟩), .pointer (some ⟨bl, 0, none⟩), .pointer (some ⟨bf, 0, none⟩)] W fun e W' =>
        e = .returned (.tuple #[]) ∧ WI t.nodes W1 B0 bl mb bm bf (.func (.func 158) #[] #[.pointer (some ⟨bm, 0, none⟩), .pointer (some ⟨bt, 0, none⟩), .pointer (some ⟨bl, 0, none⟩), .pointer (some ⟨bf, 0, none⟩)]) (dfs t.nodes f id fr name path l) W' := by
  intro f
  have again : ∀ (f : Nat) (l : List TreeM.Item) (id : Int) (fr : Nat) (name path : Bs) (W : World), met l id = true → (-9223372036854775808 ≤ id ∧ id ≤ 9223372036854775807) →
      WI t.nodes W1 B0 bl mb bm bf (.func (.func 158) #[] #[.pointer (some ⟨bm, 0, none⟩), .pointer (some ⟨bt, 0, none⟩), .pointer (some ⟨bl, 0, none⟩), .pointer (some ⟨bf, 0, none⟩)]) l W →
      Calls Tryz.prog 158 #[.int .i64 id, .int .i64 fr, .string (nm name), .pointer (some ⟨bm, 0, none⟩), .pointer (some ⟨bt, 0, none⟩), .pointer (some ⟨bl, 0, none⟩), .pointer (some ⟨bf, 0, none⟩)] W fun e W' =>
        e = .returned (.tuple #[]) ∧ WI t.nodes W1 B0 bl mb bm bf (.func (.func 158) #[] #[.pointer (some ⟨bm, 0, none⟩), .pointer (some ⟨bt, 0, none⟩), .pointer (some ⟨bl, 0, none⟩), .pointer (some ⟨bf, 0, none⟩)]) (dfs t.nodes f id fr name path l) W' := by
    intro f l id fr name path W hm hid hW
    rw [dfs_met hm]
    have hlk := hW.map.look_ok id hid
    have hmf : metF l id = some (metAt l id : Int) := by unfold metF; rw [if_pos hm]
    rw [hmf, Option.getD_some, Option.isSome_some] at hlk
    have c0 := hW.mbox.cell
    have HW := Lib.hid hW
    clear hW hm hmf hN hled t0 t1 t2 t3
    generalize nm name = nam
    generalize metAt l id = ma at *
    go_enter Tryz.func158, Tryz.ntmps158
    go_wp2
    refine bodyPost_ret (results_none rfl _ _ _) rfl ?_
    exact ⟨rfl, HW.out⟩
  induction f with
  | zero =>
    intro l id fr name path W hu hp hid hW
    exact again 0 l id fr name path W (unmet_zero (by omega) hp) hid hW
  | succ f ih =>
    intro l id fr name path W hu hp hid hW
    cases hm : met l id with
    | true => exact again (f + 1) l id fr name path W hm hid hW
    | false =>
      clear again
      rw [dfs_new hm hp]
      have hub := unmet_add (it := ⟨place t.nodes id, fr, name, id, path⟩) hm hp
      have hwy := hW.wy.add (it := ⟨place t.nodes id, fr, name, id, path⟩) hm hp rfl
      have hlen := hwy.len
      have hmfs := metF_snoc (it := ⟨place t.nodes id, fr, name, id, path⟩) hm
      have hcs : (l ++ [(⟨place t.nodes id, fr, name, id, path⟩ : TreeM.Item)]).flatMap itCells = l.flatMap itCells ++ [.int .i64 (place t.nodes id), .int .i64 fr, .string (nm name)] := by simp [itCells]
      have hlen1 : (l ++ [(⟨place t.nodes id, fr, name, id, path⟩ : TreeM.Item)]).length = l.length + 1 := by simp
      have hmf : metF l id = none := by unfold metF; rw [hm]; rfl
      have hlk := hW.map.look_ok id hid
      rw [hmf, Option.getD_none, Option.isSome_none] at hlk
      simp only at hmfs hub
      generalize hl1 : (l ++ [(⟨place t.nodes id, fr, name, id, path⟩ : TreeM.Item)]) = l1 at *
      have hll : l.length < 512 := by omega
      have hbel := hW.bel
      have hB1 : B0 ≤ W.heap.size := by have h1 := hbel.size; omega
      have s0 : W.cell? ⟨bt, 0, none⟩ = some nv := (hbel.cell (p := ⟨bt, 0, none⟩) hbt).trans t0
      have s1 : W.cell? ⟨bt, 1, none⟩ = some (.int .i64 t.last) := (hbel.cell (p := ⟨bt, 1, none⟩) hbt).trans t1
      have s2 : W.cell? ⟨bt, 2, none⟩ = some (.int .i64 t.rn) := (hbel.cell (p := ⟨bt, 2, none⟩) hbt).trans t2
      have s3 : W.cell? ⟨bt, 3, none⟩ = some (.int .i64 t.rb) := (hbel.cell (p := ⟨bt, 3, none⟩) hbt).trans t3
      have hfind := find_yes nv t id B0 W (hN.below hbel) hB1 hri hp
      obtain ⟨_, ⟨A, c, rfl, h0⟩ | ⟨b, off, c, rfl, hcap, hb, hpos, hcells⟩⟩ := hN.cases
      · rw [h0] at hp; simp [place] at hp
      obtain ⟨ev, n6, hE⟩ := (hcells _ hp).2.2.2.2.2.2.2
      have hpl : (place t.nodes id : Int) < (t.nodes.length : Int) := by omega
      have hflat : ∀ x ∈ (ndAt t.nodes (place t.nodes id)).es, place t.nodes x.to < t.nodes.length := fun x hx => hled x (flat_mem.2 ⟨_, hp, hx⟩)
      have c0 := hW.mbox.cell
      generalize place t.nodes id = p at *
      generalize ndAt t.nodes p = nd at *
      have HW := Lib.hid hW; have HFIND := Lib.hid hfind
      have HMFS := Lib.hid hmfs; have HCS := Lib.hid hcs; have HL1 := Lib.hid hlen1; have HWY := Lib.hid hwy; have HUB := Lib.hid hub
      have IH := Lib.hid ih; have HFL := Lib.hid hflat; have HB := Lib.hid hbel
      clear hW hfind hmfs hcs hlen1 hl1 hwy hub hm hmf hp ih hled hri hcells hN hflat hbel
      obtain ⟨i0, hi, hz0, hz1, hz2⟩ := info_parts info83
      have HI := Lib.hid hi; have HZ0 := Lib.hid hz0; have HZ1 := Lib.hid hz1; have HZ2 := Lib.hid hz2
      clear hi hz0 hz1 hz2
      unfold trV at HFIND
      generalize t.nodes.length = n at *
      generalize t.last = la at *
      generalize t.rn = rn at *
      generalize t.rb = rb at *
      obtain ⟨hml, hxr, ⟨Ae, ce, rfl, he0⟩ | ⟨eb, eo, ce, rfl, hecap, heb, hepos, hec⟩⟩ := hE.cases
      · rw [he0]
        clear hE hxr hml he0
        go_enter Tryz.func158, Tryz.ntmps158
        go_wp2_with fail
        refine HFIND.out.mono ?_
        rintro e w1 ⟨rfl, hb1⟩
        obtain ⟨_, hbl1, ⟨v, hv, hrow⟩, hmb1, hf1, hmap1⟩ := HW.out.below hB1 hb1
        obtain ⟨va, vc, rfl⟩ := ownsRow_len3 hrow
        have c1 := hmb1.cell
        have lc1 := hv.cell
        have hB2 : B0 ≤ w1.heap.size := by have := hb1.size; omega
        have HV := Lib.hid hv; have HROW := Lib.hid hrow; have HMB := Lib.hid hmb1; have HF := Lib.hid hf1; have HMAP := Lib.hid hmap1; have HBL := Lib.hid hbl1
        clear hv hrow hmb1 hf1 hmap1 hbl1 hb1
        go_wp2_with (first | (at_mapUpdate; refine wpList_put _ rfl _ _ _ rfl mb l.length (metF l) rfl HMAP.out (by unfold maxLen; omega) id (l.length : Int) rfl rfl hid (by omega) ?_; intro w2 hm2 hg2; have HV2 := Lib.hid (HV.out.kept hg2 (box_ne_map HV.out HMAP.out)); have HR2 := Lib.hid (HROW.out.kept hg2 (.inr (row_ne_map HROW.out HMAP.out))); have HMB2 := Lib.hid (HMB.out.kept hg2 (box_ne_map HMB.out HMAP.out)); have HF2 := Lib.hid (HF.out.kept hg2 (box_ne_map HF.out HMAP.out)); have HBL2 := Lib.hid (HBL.out.grown hg2 hB2 (fun j hj => by cases hj; exact hmb)); have HM2 := Lib.hid hm2; have lc2 := HV2.out.cell; have hB3 : B0 ≤ w2.heap.size := Nat.le_trans hB2 hg2.size; clear hm2 hg2) | (at_builtin; refine wpList_append_own _ rfl _ _ 197 rfl B0 207 i0 (.agg #[.int .i64 0, .int .i64 0, .string ByteArray.empty]) 3 32 Tryz.underlying197 HI.out HZ0.out HZ1.out HZ2.out rfl (by decide) _ _ _ rfl (HR2.out.alloc _) ⟨w2.heap.size, 0, none⟩ 1 1 [.int .i64 p, .int .i64 fr, .string (nm name)] rfl rfl (cells3 _ _ _ _ _) (one3 _ _ _) (maxLen_ok (by omega)) (by omega) (Nat.le_trans hB3 (Nat.le_of_lt (alloc_lt _ _))) ?_; intro v' w3 hown' hgrow _; obtain ⟨g', cap', rfl⟩ := ownsRow_succ hown'; obtain ⟨hv3, hv4, hr4, hk4, hb4⟩ := HV2.out.appended (by decide) HR2.out hB3 hbl hown' hgrow; have hc3 := hv3.cell; have hf3 := hv3.frozen; have HW4 := Lib.hid (way_next HL1.out HCS.out HMFS.out HWY.out hlm hlf HBL2.out HMB2.out HF2.out HM2.out HR2.out hgrow hv3 hv4 hr4 hb4); have z0 := (HW4.out.bel.cell (p := ⟨bt, 0, none⟩) hbt).trans t0; have z6 := (HW4.out.bel.cell (p := ⟨b, off + p * 7 + 6, none⟩) hb).trans n6; clear hown' hgrow hv3 hv4 hr4 hk4 hb4))
        refine wp_loop_rounds 1 ?_
        rw [rounds_succ]
        go_wp2
        go_end0
        exact ⟨rfl, HW4.out⟩
      · have hmlen : nd.es.length = nd.es.length := rfl
        have htk : nd.es.take nd.es.length = nd.es := List.take_length
        have hstep : ∀ q, q < nd.es.length → dfsL t.nodes f l.length path (nd.es.take (q + 1)) l1 = dfs t.nodes f (entAt nd.es q).to l.length (entAt nd.es q).key (joinL path (entAt nd.es q).key) (dfsL t.nodes f l.length path (nd.es.take q) l1) := fun q hq => dfsL_take hq
        have hmem : ∀ q, q < nd.es.length → entAt nd.es q ∈ nd.es := fun q hq => entAt_mem hq
        generalize hm : nd.es.length = m at *
        have HTK := Lib.hid htk; have HST := Lib.hid hstep; have HMEM := Lib.hid hmem; have HXR := Lib.hid hxr; have HEC := Lib.hid hec; have HMM := Lib.hid hm
        clear htk hstep hmem hxr hec hm hE hmlen
        go_enter Tryz.func158, Tryz.ntmps158
        go_wp2_with fail
        refine HFIND.out.mono ?_
        rintro e w1 ⟨rfl, hb1⟩
        obtain ⟨_, hbl1, ⟨v, hv, hrow⟩, hmb1, hf1, hmap1⟩ := HW.out.below hB1 hb1
        obtain ⟨va, vc, rfl⟩ := ownsRow_len3 hrow
        have c1 := hmb1.cell
        have lc1 := hv.cell
        have hB2 : B0 ≤ w1.heap.size := by have := hb1.size; omega
        have HV := Lib.hid hv; have HROW := Lib.hid hrow; have HMB := Lib.hid hmb1; have HF := Lib.hid hf1; have HMAP := Lib.hid hmap1; have HBL := Lib.hid hbl1
        clear hv hrow hmb1 hf1 hmap1 hbl1 hb1
        go_wp2_with (first | (at_mapUpdate; refine wpList_put _ rfl _ _ _ rfl mb l.length (metF l) rfl HMAP.out (by unfold maxLen; omega) id (l.length : Int) rfl rfl hid (by omega) ?_; intro w2 hm2 hg2; have HV2 := Lib.hid (HV.out.kept hg2 (box_ne_map HV.out HMAP.out)); have HR2 := Lib.hid (HROW.out.kept hg2 (.inr (row_ne_map HROW.out HMAP.out))); have HMB2 := Lib.hid (HMB.out.kept hg2 (box_ne_map HMB.out HMAP.out)); have HF2 := Lib.hid (HF.out.kept hg2 (box_ne_map HF.out HMAP.out)); have HBL2 := Lib.hid (HBL.out.grown hg2 hB2 (fun j hj => by cases hj; exact hmb)); have HM2 := Lib.hid hm2; have lc2 := HV2.out.cell; have hB3 : B0 ≤ w2.heap.size := Nat.le_trans hB2 hg2.size; clear hm2 hg2) | (at_builtin; refine wpList_append_own _ rfl _ _ 197 rfl B0 207 i0 (.agg #[.int .i64 0, .int .i64 0, .string ByteArray.empty]) 3 32 Tryz.underlying197 HI.out HZ0.out HZ1.out HZ2.out rfl (by decide) _ _ _ rfl (HR2.out.alloc _) ⟨w2.heap.size, 0, none⟩ 1 1 [.int .i64 p, .int .i64 fr, .string (nm name)] rfl rfl (cells3 _ _ _ _ _) (one3 _ _ _) (maxLen_ok (by omega)) (by omega) (Nat.le_trans hB3 (Nat.le_of_lt (alloc_lt _ _))) ?_; intro v' w3 hown' hgrow _; obtain ⟨g', cap', rfl⟩ := ownsRow_succ hown'; obtain ⟨hv3, hv4, hr4, hk4, hb4⟩ := HV2.out.appended (by decide) HR2.out hB3 hbl hown' hgrow; have hc3 := hv3.cell; have hf3 := hv3.frozen; have HW4 := Lib.hid (way_next HL1.out HCS.out HMFS.out HWY.out hlm hlf HBL2.out HMB2.out HF2.out HM2.out HR2.out hgrow hv3 hv4 hr4 hb4); have z0 := (HW4.out.bel.cell (p := ⟨bt, 0, none⟩) hbt).trans t0; have z6 := (HW4.out.bel.cell (p := ⟨b, off + p * 7 + 6, none⟩) hb).trans n6; clear hown' hgrow hv3 hv4 hr4 hk4 hb4))
        go_loopw [49] (fun i wr => ∃ q : Nat, q ≤ m ∧ i = .int .i64 q ∧ WI t.nodes W1 B0 bl mb bm bf (.func (.func 158) #[] #[.pointer (some ⟨bm, 0, none⟩), .pointer (some ⟨bt, 0, none⟩), .pointer (some ⟨bl, 0, none⟩), .pointer (some ⟨bf, 0, none⟩)]) (dfsL t.nodes f l.length path (nd.es.take q) l1) wr) (fun i _ => m - (intOf i).toNat)
        case atStart => exact ⟨0, by omega, rfl, HW4.out⟩
        case round =>
          obtain ⟨q, hq, rfl, hwi⟩ := hrel
          have hbr := hwi.bel
          have hBr : B0 ≤ wr.heap.size := by have := hbr.size; omega
          have fc := hwi.fbox.cell
          have hbfs := hwi.fbox.lt
          have HWI := Lib.hid hwi
          by_cases hqt : q < m
          · obtain ⟨ec0, ec1⟩ := HEC.out q hqt
            have d0 : wr.cell? ⟨eb, eo + q * 2, none⟩ = some (.string (nm (entAt nd.es q).key)) := (hbr.cell (p := ⟨eb, eo + q * 2, none⟩) heb).trans ec0
            have d1 : wr.cell? ⟨eb, eo + q * 2 + 1, none⟩ = some (.int .i64 (entAt nd.es q).to) := (hbr.cell (p := ⟨eb, eo + q * 2 + 1, none⟩) heb).trans ec1
            have hqq : (q : Int) < (m : Int) := by omega
            have HS1 := Lib.hid (HST.out q hqt)
            have hun : unmet t.nodes (dfsL t.nodes f l.length path (nd.es.take q) l1) ≤ f := Nat.le_trans (unmet_mono _ (dfsL_prefix _ _ _ _ _ _)) (by have := HUB.out; omega)
            have hxm := HMEM.out q hqt
            have hplx := HFL.out _ hxm
            have hran := (HXR.out _ hxm).2
            have HIH := Lib.hid (fun W hW => IH.out (dfsL t.nodes f l.length path (nd.es.take q) l1) (entAt nd.es q).to l.length (entAt nd.es q).key (joinL path (entAt nd.es q).key) W hun hplx hran hW)
            clear hwi hbr ec0 ec1 hun hxm hplx hran
            generalize entAt nd.es q = x at *
            go_wp2_with fail
            refine (HIH.out _ (HWI.out.alloc hBr _)).mono ?_
            rintro e w5 ⟨rfl, hw5⟩
            go_wp2
            go_roundw
            case rel => exact ⟨q + 1, by omega, by go_num, by rw [HS1.out]; exact hw5⟩
            case measure => simp [intOf]; omega
          · have hqm : q = m := by omega
            have HO : Hid (dfsL t.nodes f l.length path (nd.es.take q) l1 = dfsL t.nodes f l.length path nd.es l1) := Lib.hid (by rw [hqm, HTK.out])
            clear hqm hwi hbr
            go_wp2
            go_end0
            exact ⟨rfl, by rw [← HO.out]; exact HWI.out⟩

end Go.Proofs.YtpicgkoclbpjpaaGreatDoor
end

section
namespace Go.Proofs.YtpicgkoclbpjpaaGreatDoor
open Go.RowKit Go.Sort
open PathM TreeM
set_option linter.unusedVariables false

/-- What way answers: the meetings in a row of its own, the map of where each number was met. -/
def WayPost (l : List TreeM.Item) (w : World) (e : Ending) (w' : World) : Prop :=
  ∃ v mb, e = .returned (.tuple #[v, .map (some mb)]) ∧ w'.ownsRow w.heap.size 207 3 v l.length (l.flatMap itCells) ∧ MapI w' mb l.length (metF l) ∧ w.heap.size ≤ mb ∧ Below w.heap.size w w'

theorem ownsRow_base {W : World} {b b' : Nat} {e : TypeId} {size : Nat} {v : Value} {n : Nat} {xs : List Value} (h : W.ownsRow b e size v n xs) (hb : b' ≤ b) : W.ownsRow b' e size v n xs :=
  ⟨h.1, h.2.imp id fun ⟨g, cap, cur, h1, h2, h3⟩ => ⟨g, cap, cur, h1, by omega, h3⟩⟩

set_option maxHeartbeats 4000000 in
theorem way_any (nv : Value) (t : Tr) (B : Nat) (w : World) (hN : NodesIn w B nv t.nodes) (hB : B ≤ w.heap.size) (hri : Rising t.nodes) (hn : t.nodes.length ≤ 512) (hp1 : place t.nodes 1 < t.nodes.length) (hled : ∀ x ∈ flat t.nodes, place t.nodes x.to < t.nodes.length) :
    Calls Tryz.prog 149 #[trV nv t] w (WayPost (way t.nodes) w) := by
  obtain ⟨A, c, rfl, _⟩ : ∃ A c, nv = .slice A t.nodes.length c ∧ True := by obtain ⟨A, c, h, _⟩ := hN; exact ⟨A, c, h, trivial⟩
  have hmm := @run_makeMap Tryz.prog
  have hmf : ∀ (fn : Fn) (first cap : Array Value) (w : World), (Instr.makeFunc fn first cap).run Tryz.prog w = .ok (.func fn first cap) w := fun _ _ _ _ => rfl
  have hN1 : NodesIn (w.alloc (.cells #[.slice A t.nodes.length c, .int .i64 t.last, .int .i64 t.rn, .int .i64 t.rb] 26)) (w.heap.size + 1) (.slice A t.nodes.length c) t.nodes :=
    (hN.keep (fun p hp => World.cell?_alloc_lt w _ p (by omega))).more (by omega)
  have HME := Lib.hid (fun W hW => meet_any (.slice A t.nodes.length c) t (w.heap.size + 1) w.heap.size (w.heap.size + 1) (w.heap.size + 1 + 1) (w.heap.size + 1 + 1 + 1) (w.heap.size + 1 + 1 + 1 + 1) (w.alloc (.cells #[.slice A t.nodes.length c, .int .i64 t.last, .int .i64 t.rn, .int .i64 t.rb] 26)) hN1 hri hn hled
    (by simp) (by simp) (by simp) (by simp) (by simp) (by omega) (by omega) (by omega) (by omega) (by omega) t.nodes.length [] 1 0 [] [47] W (by rw [unmet_nil]; exact Nat.le_refl _) hp1 (by omega) hW)
  unfold WayPost trV
  clear hN hN1 hled hri
  go_enter Tryz.func149, Tryz.ntmps149
  go_wp2_with fail
  refine (HME.out _ ?wi).mono ?_
  case wi =>
    refine ⟨⟨by simp, by simp⟩, ?_, ⟨_, ?_, World.ownsRow_nil _ _ _ _⟩, ?_, ?_, ?_⟩
    · exact ((((Below.refl _ _).alloc (by simp) _).alloc (by simp) _).alloc (by simp) _).alloc (by simp) _
    · have := (((Boxed.new (w.alloc (.cells #[.slice A t.nodes.length c, .int .i64 t.last, .int .i64 t.rn, .int .i64 t.rb] 26)) 197 (.slice none 0 0)).alloc (.map #[] 0)).alloc (.cells #[.map (some (w.heap.size + 1 + 1))] 195)).alloc (.cells #[.func (.func 158) #[] #[.pointer (some ⟨w.heap.size + 1 + 1 + 1, 0, none⟩), .pointer (some ⟨w.heap.size, 0, none⟩), .pointer (some ⟨w.heap.size + 1, 0, none⟩), .pointer (some ⟨w.heap.size + 1 + 1 + 1 + 1, 0, none⟩)]] 205)
      simpa using this
    · have := (Boxed.new (((w.alloc (.cells #[.slice A t.nodes.length c, .int .i64 t.last, .int .i64 t.rn, .int .i64 t.rb] 26)).alloc (.cells #[.slice none 0 0] 197)).alloc (.map #[] 0)) 195 (.map (some (w.heap.size + 1 + 1)))).alloc (.cells #[.func (.func 158) #[] #[.pointer (some ⟨w.heap.size + 1 + 1 + 1, 0, none⟩), .pointer (some ⟨w.heap.size, 0, none⟩), .pointer (some ⟨w.heap.size + 1, 0, none⟩), .pointer (some ⟨w.heap.size + 1 + 1 + 1 + 1, 0, none⟩)]] 205)
      simpa using this
    · have := Boxed.new ((((w.alloc (.cells #[.slice A t.nodes.length c, .int .i64 t.last, .int .i64 t.rn, .int .i64 t.rb] 26)).alloc (.cells #[.slice none 0 0] 197)).alloc (.map #[] 0)).alloc (.cells #[.map (some (w.heap.size + 1 + 1))] 195)) 205 (.func (.func 158) #[] #[.pointer (some ⟨w.heap.size + 1 + 1 + 1, 0, none⟩), .pointer (some ⟨w.heap.size, 0, none⟩), .pointer (some ⟨w.heap.size + 1, 0, none⟩), .pointer (some ⟨w.heap.size + 1 + 1 + 1 + 1, 0, none⟩)])
      simpa using this
    · have := ((MapI.made ((w.alloc (.cells #[.slice A t.nodes.length c, .int .i64 t.last, .int .i64 t.rn, .int .i64 t.rb] 26)).alloc (.cells #[.slice none 0 0] 197))).alloc (.cells #[.map (some (w.heap.size + 1 + 1))] 195)).alloc (.cells #[.func (.func 158) #[] #[.pointer (some ⟨w.heap.size + 1 + 1 + 1, 0, none⟩), .pointer (some ⟨w.heap.size, 0, none⟩), .pointer (some ⟨w.heap.size + 1, 0, none⟩), .pointer (some ⟨w.heap.size + 1 + 1 + 1 + 1, 0, none⟩)]] 205)
      have h2 := this.congr (g := metF []) (fun _ => rfl)
      simpa using h2
  rintro e w' ⟨rfl, hwi⟩
  obtain ⟨h1, h2, ⟨v, h3, h4⟩, h5, h6, h7⟩ := hwi
  obtain ⟨va, vc, rfl⟩ := ownsRow_len3 h4
  have l1 := h3.cell
  have m1 := h5.cell
  have H2 := Lib.hid h2; have H4 := Lib.hid h4; have H7 := Lib.hid h7
  clear h1 h2 h3 h4 h5 h6 h7
  go_wp2
  go_quiet (fail)
  go_wp2
  go_ret2
  exact ⟨_, _, rfl, ownsRow_drewN (ownsRow_base H4.out (by omega)) _, H7.out.drewN _, by omega, below_drewN' (((Below.refl _ _).alloc (Nat.le_refl _) _).trans (H2.out.mono (by omega))) _⟩

/-- The pointer behind a tree's nodes in their box, and how long they are. -/
theorem nodes_len {w : World} {B : Nat} {v : Value} {l : List Nd} (h : NodesIn w B v l) : ∃ A c, v = .slice A l.length c := by
  obtain ⟨A, c, h, _⟩ := h; exact ⟨A, c, h⟩

set_option maxHeartbeats 2000000 in
theorem reached_any (nv : Value) (t : Tr) (B : Nat) (w : World) (hN : NodesIn w B nv t.nodes) (hB : B ≤ w.heap.size) (hri : Rising t.nodes) (hn : t.nodes.length ≤ 512) (hp1 : place t.nodes 1 < t.nodes.length) (hled : ∀ x ∈ flat t.nodes, place t.nodes x.to < t.nodes.length) :
    Calls Tryz.prog 127 #[trV nv t] w (BelowB (reachedB t.nodes) w) := by
  have hw := fun W (hW : Below w.heap.size w W) => way_any nv t w.heap.size W ((hN.more hB).below hW) hW.size hri hn hp1 hled
  obtain ⟨A, c, rfl⟩ := nodes_len hN
  have hr : reachedB t.nodes = ((way t.nodes).length == t.nodes.length) := rfl
  rw [hr]
  have HW := Lib.hid hw
  clear hw hr hN hled hri
  unfold BelowB
  unfold trV at *
  generalize way t.nodes = l at *
  generalize t.nodes.length = n at *
  go_enter Tryz.func127, Tryz.ntmps127
  go_wp2_with fail
  refine (HW.out _ ((Below.refl _ _).alloc (Nat.le_refl _) _)).mono ?_
  rintro e w' ⟨v, mb, rfl, hrow, hm, hmb, hb⟩
  obtain ⟨va, vc, rfl⟩ := ownsRow_len3 hrow
  have c0 : w'.cell? ⟨w.heap.size, 0, none⟩ = some (.slice A n c) := (hb.cell (p := ⟨w.heap.size, 0, none⟩) (by simp)).trans (by simp)
  have HB := Lib.hid hb
  clear hrow hm hmb hb
  go_wp2
  go_ret
  exact ⟨ret_bool (by rw [Bool.eq_iff_iff]; simp; omega), ((Below.refl _ _).alloc (Nat.le_refl _) _).trans (HB.out.mono (by simp))⟩

theorem flat_len {w : World} {B : Nat} {v : Value} {l : List Nd} (h : NodesIn w B v l) (hn : l.length ≤ 512) : (flat l).length ≤ 4611686018427387904 := by
  obtain ⟨_, ⟨A, c, _, h0⟩ | ⟨b, off, c, _, _, _, _, hc⟩⟩ := h.cases
  · rw [h0]; simp [flat]
  · suffices H : ∀ k, k ≤ l.length → (flat (l.take k)).length ≤ k * 5864062014635 by
      have := H l.length (Nat.le_refl _)
      rw [flat_all l _ (Nat.le_refl _)] at this
      omega
    intro k
    induction k with
    | zero => intro _; simp [flat]
    | succ k ih =>
      intro hk
      obtain ⟨ev, _, hE⟩ := (hc k (by omega)).2.2.2.2.2.2.2
      obtain ⟨_, _, _, hel⟩ := ents_len hE
      rw [flat_take_succ l k (by omega), List.length_append]
      have := ih (by omega)
      omega

/-- What Check answers. -/
def checkI (t : Tr) : Int := if checkB t = true then 0 else 80

set_option maxHeartbeats 4000000 in
theorem check_any (nv : Value) (t : Tr) (B : Nat) (w : World) (hN : NodesIn w B nv t.nodes) (hB : B ≤ w.heap.size) :
    Calls Tryz.prog 93 #[trV nv t] w fun e w' => e = .returned (.int .i64 (checkI t)) ∧ Below w.heap.size w w' := by
  have hN0 := hN.more hB
  have h1 := fun W (hW : Below w.heap.size w W) => numbered_any nv t w.heap.size W (hN0.below hW) hW.size
  have h2 := fun W (hW : Below w.heap.size w W) => nodesMay_any nv t.nodes w.heap.size W (hN0.below hW) hW.size
  obtain ⟨r, hr⟩ : ∃ r, checkI t = r := ⟨_, rfl⟩
  rw [hr]
  have hall : checkB t = (numB t && nodesB t.nodes && ledB t.nodes && reachedB t.nodes) := rfl
  have hfl := fun hn => flat_len hN hn
  have hled := fun (hn : numB t = true) W (hW : Below w.heap.size w W) => led_any nv t w.heap.size W (hN0.below hW) hW.size
  have hrea := fun W (hW : Below w.heap.size w W) => reached_any nv t w.heap.size W (hN0.below hW) hW.size
  have hnum : numB t = true → Rising t.nodes ∧ t.nodes.length ≤ 512 ∧ 0 < t.nodes.length ∧ place t.nodes 1 < t.nodes.length := by
    intro h
    simp only [numB, Bool.and_eq_true] at h
    have hh := h.1
    simp at hh
    have hri := rising_of_ok h.2
    refine ⟨hri, hh.2.1, by omega, ?_⟩
    exact place_lt (i := 0) (by omega) hh.2.2.1
  obtain ⟨A, c, rfl⟩ := nodes_len hN
  have hno : (numB t && nodesB t.nodes && ledB t.nodes && reachedB t.nodes) = false → (80 : Int) = r := fun h => by rw [← hr, checkI, hall, h]; rfl
  have hyes : (numB t && nodesB t.nodes && ledB t.nodes && reachedB t.nodes) = true → (0 : Int) = r := fun h => by rw [← hr, checkI, hall, h]; rfl
  have HNO := Lib.hid hno; have HYES := Lib.hid hyes; have H1 := Lib.hid h1; have H2 := Lib.hid h2
  clear hno hyes hall hr h1 h2 hN hN0
  unfold trV at *
  cases b1 : numB t with
  | false =>
    rw [b1] at HNO H1
    have HO := Lib.hid (HNO.out rfl)
    clear hnum hled hrea hfl b1
    go_enter Tryz.func93, Tryz.ntmps93
    go_wp2_with (go_at_call 124; refine (H1.out _ ((Below.refl _ _).alloc (Nat.le_refl _) _)).mono ?_; rintro e w' ⟨rfl, hb⟩)
    go_ret
    exact ⟨ret_i64 HO.out, ((Below.refl _ _).alloc (Nat.le_refl _) _).trans (hb.mono (by simp))⟩
  | true =>
    rw [b1] at HNO HYES H1
    obtain ⟨hri, hn, hpos, hp1⟩ := hnum b1
    have h3 := fun W hW => hled b1 W hW hri hpos (hfl hn)
    have HREA := Lib.hid (fun hx W hW => hrea W hW hri hn hp1 hx)
    have H3 := Lib.hid h3
    clear hled hrea hnum hfl hp1 h3 hri
    cases b2 : nodesB t.nodes with
    | false =>
      rw [b2] at HNO H2
      have HO := Lib.hid (HNO.out rfl)
      clear b1 b2 HREA H3
      go_enter Tryz.func93, Tryz.ntmps93
      go_wp2_with fail
      refine (H1.out _ ((Below.refl _ _).alloc (Nat.le_refl _) _)).mono ?_
      rintro e w1 ⟨rfl, hb⟩
      have q0 : w1.cell? ⟨w.heap.size, 0, none⟩ = some (.slice A t.nodes.length c) := (hb.cell (p := ⟨w.heap.size, 0, none⟩) (by simp)).trans (by simp)
      have q1 : w1.cell? ⟨w.heap.size, 1, none⟩ = some (.int .i64 t.last) := (hb.cell (p := ⟨w.heap.size, 1, none⟩) (by simp)).trans (by simp)
      have q2 : w1.cell? ⟨w.heap.size, 2, none⟩ = some (.int .i64 t.rn) := (hb.cell (p := ⟨w.heap.size, 2, none⟩) (by simp)).trans (by simp)
      have q3 : w1.cell? ⟨w.heap.size, 3, none⟩ = some (.int .i64 t.rb) := (hb.cell (p := ⟨w.heap.size, 3, none⟩) (by simp)).trans (by simp)
      have hz1 : w.heap.size < w1.heap.size := by have := hb.size; simp at this; omega
      have hb1 := Lib.hid (((Below.refl w.heap.size w).alloc (Nat.le_refl _) (.cells #[.slice A t.nodes.length c, .int .i64 t.last, .int .i64 t.rn, .int .i64 t.rb] 26)).trans (hb.mono (by simp)))
      clear hb
      go_wp2_with fail
      refine (H2.out _ hb1.out).mono ?_
      rintro e w2 ⟨rfl, hb⟩
      go_wp2_with fail
      go_ret
      exact ⟨ret_i64 HO.out, hb1.out.trans (hb.mono hb1.out.size)⟩
    | true =>
      rw [b2] at HNO HYES H2
      cases b3 : ledB t.nodes with
      | false =>
        rw [b3] at HNO H3
        have HO := Lib.hid (HNO.out rfl)
        clear b1 b2 b3 HREA
        go_enter Tryz.func93, Tryz.ntmps93
        go_wp2_with fail
        refine (H1.out _ ((Below.refl _ _).alloc (Nat.le_refl _) _)).mono ?_
        rintro e w1 ⟨rfl, hb⟩
        have q0 : w1.cell? ⟨w.heap.size, 0, none⟩ = some (.slice A t.nodes.length c) := (hb.cell (p := ⟨w.heap.size, 0, none⟩) (by simp)).trans (by simp)
        have q1 : w1.cell? ⟨w.heap.size, 1, none⟩ = some (.int .i64 t.last) := (hb.cell (p := ⟨w.heap.size, 1, none⟩) (by simp)).trans (by simp)
        have q2 : w1.cell? ⟨w.heap.size, 2, none⟩ = some (.int .i64 t.rn) := (hb.cell (p := ⟨w.heap.size, 2, none⟩) (by simp)).trans (by simp)
        have q3 : w1.cell? ⟨w.heap.size, 3, none⟩ = some (.int .i64 t.rb) := (hb.cell (p := ⟨w.heap.size, 3, none⟩) (by simp)).trans (by simp)
        have hz1 : w.heap.size < w1.heap.size := by have := hb.size; simp at this; omega
        have hb1 := Lib.hid (((Below.refl w.heap.size w).alloc (Nat.le_refl _) (.cells #[.slice A t.nodes.length c, .int .i64 t.last, .int .i64 t.rn, .int .i64 t.rb] 26)).trans (hb.mono (by simp)))
        clear hb
        go_wp2_with fail
        refine (H2.out _ hb1.out).mono ?_
        rintro e w2 ⟨rfl, hb⟩
        have r0 := (hb.cell (p := ⟨w.heap.size, 0, none⟩) hz1).trans q0
        have r1 := (hb.cell (p := ⟨w.heap.size, 1, none⟩) hz1).trans q1
        have r2 := (hb.cell (p := ⟨w.heap.size, 2, none⟩) hz1).trans q2
        have r3 := (hb.cell (p := ⟨w.heap.size, 3, none⟩) hz1).trans q3
        have hz2 : w.heap.size < w2.heap.size := by have := hb.size; omega
        have hb2 := Lib.hid (hb1.out.trans (hb.mono hb1.out.size))
        clear hb
        go_wp2_with fail
        refine (H3.out _ hb2.out).mono ?_
        rintro e w3 ⟨rfl, hb⟩
        go_wp2_with fail
        go_ret
        exact ⟨ret_i64 HO.out, hb2.out.trans (hb.mono hb2.out.size)⟩
      | true =>
        rw [b3] at HNO HYES H3
        have H4 := Lib.hid (HREA.out (fun x hx => (led_mem b3 hx).1))
        cases b4 : reachedB t.nodes with
        | false =>
          rw [b4] at HNO H4
          have HO := Lib.hid (HNO.out rfl)
          clear b1 b2 b3 b4 HREA
          go_enter Tryz.func93, Tryz.ntmps93
          go_wp2_with fail
          refine (H1.out _ ((Below.refl _ _).alloc (Nat.le_refl _) _)).mono ?_
          rintro e w1 ⟨rfl, hb⟩
          have q0 : w1.cell? ⟨w.heap.size, 0, none⟩ = some (.slice A t.nodes.length c) := (hb.cell (p := ⟨w.heap.size, 0, none⟩) (by simp)).trans (by simp)
          have q1 : w1.cell? ⟨w.heap.size, 1, none⟩ = some (.int .i64 t.last) := (hb.cell (p := ⟨w.heap.size, 1, none⟩) (by simp)).trans (by simp)
          have q2 : w1.cell? ⟨w.heap.size, 2, none⟩ = some (.int .i64 t.rn) := (hb.cell (p := ⟨w.heap.size, 2, none⟩) (by simp)).trans (by simp)
          have q3 : w1.cell? ⟨w.heap.size, 3, none⟩ = some (.int .i64 t.rb) := (hb.cell (p := ⟨w.heap.size, 3, none⟩) (by simp)).trans (by simp)
          have hz1 : w.heap.size < w1.heap.size := by have := hb.size; simp at this; omega
          have hb1 := Lib.hid (((Below.refl w.heap.size w).alloc (Nat.le_refl _) (.cells #[.slice A t.nodes.length c, .int .i64 t.last, .int .i64 t.rn, .int .i64 t.rb] 26)).trans (hb.mono (by simp)))
          clear hb
          go_wp2_with fail
          refine (H2.out _ hb1.out).mono ?_
          rintro e w2 ⟨rfl, hb⟩
          have r0 := (hb.cell (p := ⟨w.heap.size, 0, none⟩) hz1).trans q0
          have r1 := (hb.cell (p := ⟨w.heap.size, 1, none⟩) hz1).trans q1
          have r2 := (hb.cell (p := ⟨w.heap.size, 2, none⟩) hz1).trans q2
          have r3 := (hb.cell (p := ⟨w.heap.size, 3, none⟩) hz1).trans q3
          have hz2 : w.heap.size < w2.heap.size := by have := hb.size; omega
          have hb2 := Lib.hid (hb1.out.trans (hb.mono hb1.out.size))
          clear hb
          go_wp2_with fail
          refine (H3.out _ hb2.out).mono ?_
          rintro e w3 ⟨rfl, hb⟩
          have s0 := (hb.cell (p := ⟨w.heap.size, 0, none⟩) hz2).trans r0
          have s1 := (hb.cell (p := ⟨w.heap.size, 1, none⟩) hz2).trans r1
          have s2 := (hb.cell (p := ⟨w.heap.size, 2, none⟩) hz2).trans r2
          have s3 := (hb.cell (p := ⟨w.heap.size, 3, none⟩) hz2).trans r3
          have hb3 := Lib.hid (hb2.out.trans (hb.mono hb2.out.size))
          clear hb
          go_wp2_with fail
          refine (H4.out _ hb3.out).mono ?_
          rintro e w4 ⟨rfl, hb⟩
          go_wp2_with fail
          go_ret
          exact ⟨ret_i64 HO.out, hb3.out.trans (hb.mono hb3.out.size)⟩
        | true =>
          rw [b4] at HYES H4
          have HO := Lib.hid (HYES.out rfl)
          clear b1 b2 b3 b4 HREA
          go_enter Tryz.func93, Tryz.ntmps93
          go_wp2_with fail
          refine (H1.out _ ((Below.refl _ _).alloc (Nat.le_refl _) _)).mono ?_
          rintro e w1 ⟨rfl, hb⟩
          have q0 : w1.cell? ⟨w.heap.size, 0, none⟩ = some (.slice A t.nodes.length c) := (hb.cell (p := ⟨w.heap.size, 0, none⟩) (by simp)).trans (by simp)
          have q1 : w1.cell? ⟨w.heap.size, 1, none⟩ = some (.int .i64 t.last) := (hb.cell (p := ⟨w.heap.size, 1, none⟩) (by simp)).trans (by simp)
          have q2 : w1.cell? ⟨w.heap.size, 2, none⟩ = some (.int .i64 t.rn) := (hb.cell (p := ⟨w.heap.size, 2, none⟩) (by simp)).trans (by simp)
          have q3 : w1.cell? ⟨w.heap.size, 3, none⟩ = some (.int .i64 t.rb) := (hb.cell (p := ⟨w.heap.size, 3, none⟩) (by simp)).trans (by simp)
          have hz1 : w.heap.size < w1.heap.size := by have := hb.size; simp at this; omega
          have hb1 := Lib.hid (((Below.refl w.heap.size w).alloc (Nat.le_refl _) (.cells #[.slice A t.nodes.length c, .int .i64 t.last, .int .i64 t.rn, .int .i64 t.rb] 26)).trans (hb.mono (by simp)))
          clear hb
          go_wp2_with fail
          refine (H2.out _ hb1.out).mono ?_
          rintro e w2 ⟨rfl, hb⟩
          have r0 := (hb.cell (p := ⟨w.heap.size, 0, none⟩) hz1).trans q0
          have r1 := (hb.cell (p := ⟨w.heap.size, 1, none⟩) hz1).trans q1
          have r2 := (hb.cell (p := ⟨w.heap.size, 2, none⟩) hz1).trans q2
          have r3 := (hb.cell (p := ⟨w.heap.size, 3, none⟩) hz1).trans q3
          have hz2 : w.heap.size < w2.heap.size := by have := hb.size; omega
          have hb2 := Lib.hid (hb1.out.trans (hb.mono hb1.out.size))
          clear hb
          go_wp2_with fail
          refine (H3.out _ hb2.out).mono ?_
          rintro e w3 ⟨rfl, hb⟩
          have s0 := (hb.cell (p := ⟨w.heap.size, 0, none⟩) hz2).trans r0
          have s1 := (hb.cell (p := ⟨w.heap.size, 1, none⟩) hz2).trans r1
          have s2 := (hb.cell (p := ⟨w.heap.size, 2, none⟩) hz2).trans r2
          have s3 := (hb.cell (p := ⟨w.heap.size, 3, none⟩) hz2).trans r3
          have hb3 := Lib.hid (hb2.out.trans (hb.mono hb2.out.size))
          clear hb
          go_wp2_with fail
          refine (H4.out _ hb3.out).mono ?_
          rintro e w4 ⟨rfl, hb⟩
          go_wp2_with fail
          go_ret
          exact ⟨ret_i64 HO.out, hb3.out.trans (hb.mono hb3.out.size)⟩

end Go.Proofs.YtpicgkoclbpjpaaGreatDoor
end

section
namespace Go.Proofs.YtpicgkoclbpjpaaGreatDoor
open Go.RowKit Go.Sort
open PathM TreeM
set_option linter.unusedVariables false

attribute [local go_sem] cell_rg

set_option maxHeartbeats 2000000 in
theorem rents_any (v : Value) (es : List Ent) (B : Nat) (w : World) (hE : EntsIn w B v es) (hB : B ≤ w.heap.size) :
    Calls Tryz.prog 91 #[v] w fun e w' => e = .returned (.bool (entsB es)) ∧ Below w.heap.size w w' := by
  obtain ⟨hlen, hkeys, ⟨A, c, rfl, h0⟩ | ⟨b, off, c, rfl, hcap, hb, hpos, hcells⟩⟩ := hE.cases
  · subst h0
    go_enter Tryz.func91, Tryz.ntmps91
    go_wp2
    refine wp_loop_rounds 1 ?_
    rw [rounds_succ]
    go_wp2
    go_ret
    exact ⟨rfl, Below.refl _ _⟩
  obtain ⟨r, hr⟩ : ∃ r, entsB es = r := ⟨_, rfl⟩
  rw [hr]
  have hfail : ∀ k, k < es.length → okEnt es k = false → r = false := fun k hk h => by rw [← hr]; exact allTo_not hk h
  have hall : allTo (okEnt es) es.length = true → r = true := fun h => by rw [← hr]; exact h
  have hok : ∀ k, okEnt es k = (nameB (entAt es k).key && (k == 0 || decide ((entAt es (k - 1)).key < (entAt es k).key))) := fun k => rfl
  have hkl : ∀ k, k < es.length → (entAt es k).key.length ≤ 140737488351232 := fun k hk => (hkeys _ (entAt_mem hk)).1
  clear hkeys hE
  generalize hn : es.length = n at *
  have HN := Lib.hid hn; have HR := Lib.hid hr; have HF := Lib.hid hfail; have HA := Lib.hid hall; have HK := Lib.hid hok; have HL := Lib.hid hkl; have HC := Lib.hid hcells
  clear hn hr hfail hall hok hkl hcells
  go_enter Tryz.func91, Tryz.ntmps91
  go_wp2
  go_loopw [3] (fun i wr => ∃ k : Nat, k ≤ n ∧ i = .int .i64 k ∧ allTo (okEnt es) k = true ∧ Below w.heap.size w wr) (fun i _ => n - (intOf i).toNat)
  case atStart => exact ⟨0, by omega, rfl, rfl, Below.refl _ _⟩
  case round =>
    obtain ⟨k, hk, rfl, hto, hbel⟩ := hrel
    have HT := Lib.hid hto; clear hto
    by_cases hlt : k < n
    · obtain ⟨cc0, cc1⟩ := HC.out k hlt
      have hbw : b < wr.heap.size := by have := hbel.size; omega
      have c0 : wr.cell? ⟨b, off + k * 2, none⟩ = some (.string (nm (entAt es k).key)) := (hbel.cell (p := ⟨b, off + k * 2, none⟩) (show b < w.heap.size by omega)).trans cc0
      have hkk : (k : Int) < (n : Int) := by omega
      have hwr : w.heap.size ≤ wr.heap.size := hbel.size
      have hNM : ∀ W, Calls Tryz.prog 16 #[.string (nm (entAt es k).key)] W fun e w' => e = .returned (.bool (nameB (entAt es k).key)) ∧ Below W.heap.size W w' := fun W =>
        (rname_any (nm (entAt es k).key) W (by rw [nm_size]; unfold maxLen; have := HL.out k hlt; omega)).mono fun _ _ ⟨h1, h2⟩ => ⟨h1, by subst h2; exact Below.refl _ _⟩
      have hok1 := HK.out k
      have HBE := Lib.hid hbel
      clear hbel
      cases hnb : nameB (entAt es k).key with
      | false =>
        rw [hnb] at hNM hok1
        have HO := Lib.hid (HF.out k hlt (by rw [hok1]; rfl))
        have HNM := Lib.hid hNM
        clear hNM hok1 hnb cc0 cc1
        go_wp2
        refine wp_region_quiet_below (by kernel_rfl) (by kernel_rfl) ?_
        repeat (first | go_big_quiet_step ((go_at_call 16; exact Calls.regrown_of (HNM.out _))) | quiet_step ((go_at_call 16; exact Calls.regrown_of (HNM.out _))))
        refine wpQuiet_nil ?_
        intro _ hw'
        obtain ⟨⟨dq, osq⟩, hw''⟩ := hw'
        subst hw''
        go_wp2
        go_ret
        exact ⟨ret_bool HO.out.symm, HBE.out.trans ((below_regrown _ dq osq).mono hwr)⟩
      | true =>
        rw [hnb] at hNM hok1
        have HNM := Lib.hid hNM
        by_cases hk0 : k = 0
        · have HO := Lib.hid (allTo_succ HT.out (by rw [hok1, hk0]; rfl))
          have hd : decide ((0 : Int) < (k : Int)) = false := by simp; omega
          have hd2 : decide (0 < k) = false := by simp; omega
          clear hNM hok1 hnb cc0 cc1 hk0
          go_wp2
          refine wp_region_quiet_below (by kernel_rfl) (by kernel_rfl) ?_
          repeat (first | go_big_quiet_step ((go_at_call 16; exact Calls.regrown_of (HNM.out _))) | quiet_step ((go_at_call 16; exact Calls.regrown_of (HNM.out _))))
          refine wpQuiet_nil ?_
          intro _ hw'
          obtain ⟨⟨dq, osq⟩, hw''⟩ := hw'
          subst hw''
          go_wp2
          go_roundw
          case rel => exact ⟨k + 1, by omega, by go_num, HO.out, HBE.out.trans ((below_regrown _ dq osq).mono hwr)⟩
          case measure => simp [intOf]; omega
        · have hd : decide ((0 : Int) < (k : Int)) = true := by simp; omega
          have hd2 : decide (0 < k) = true := by simp; omega
          obtain ⟨pc0, _⟩ := HC.out (k - 1) (by omega)
          have p0 : wr.cell? ⟨b, off + (k - 1) * 2, none⟩ = some (.string (nm (entAt es (k - 1)).key)) := (HBE.out.cell (p := ⟨b, off + (k - 1) * 2, none⟩) (show b < w.heap.size by omega)).trans pc0
          have hk1 : (0 : Int) ≤ (k : Int) - 1 := by omega
          have hk2 : (k : Int) - 1 < (n : Int) := by omega
          have hk3 : ((k : Int) - 1).toNat = k - 1 := by omega
          by_cases hord : (entAt es (k - 1)).key < (entAt es k).key
          · have hle := le_false hord
            have HO := Lib.hid (allTo_succ HT.out (by rw [hok1]; simp [hord]))
            clear hNM hok1 hnb cc0 cc1 hk0 hord pc0
            go_wp2
            refine wp_region_quiet_below (by kernel_rfl) (by kernel_rfl) ?_
            repeat (first | go_big_quiet_step ((go_at_call 16; exact Calls.regrown_of (HNM.out _))) | quiet_step ((go_at_call 16; exact Calls.regrown_of (HNM.out _))))
            refine wpQuiet_nil ?_
            intro _ hw'
            obtain ⟨⟨dq, osq⟩, hw''⟩ := hw'
            subst hw''
            go_wp2
            go_roundw
            case rel => exact ⟨k + 1, by omega, by go_num, HO.out, HBE.out.trans ((below_regrown _ dq osq).mono hwr)⟩
            case measure => simp [intOf]; omega
          · have hle := le_true hord
            have HO := Lib.hid (HF.out k hlt (by rw [hok1]; simp [hord, hk0]))
            clear hNM hok1 hnb cc0 cc1 hk0 hord pc0
            go_wp2
            refine wp_region_quiet_below (by kernel_rfl) (by kernel_rfl) ?_
            repeat (first | go_big_quiet_step ((go_at_call 16; exact Calls.regrown_of (HNM.out _))) | quiet_step ((go_at_call 16; exact Calls.regrown_of (HNM.out _))))
            refine wpQuiet_nil ?_
            intro _ hw'
            obtain ⟨⟨dq, osq⟩, hw''⟩ := hw'
            subst hw''
            go_wp2
            go_ret
            exact ⟨ret_bool HO.out.symm, HBE.out.trans ((below_regrown _ dq osq).mono hwr)⟩
    · have hkn : k = n := by omega
      have HO := Lib.hid (HA.out (by rw [← hkn]; exact HT.out))
      clear hkn
      go_wp2
      go_ret
      exact ⟨ret_bool HO.out.symm, hbel⟩

theorem nozero_step (l : Bs) (k : Nat) (h : k < l.length) : (l.take (k + 1)).contains 0 = ((l.take k).contains 0 || l[k] == 0) := contains_take_snoc l 0 k h

set_option maxHeartbeats 4000000 in
theorem rplain_any (ev : Value) (nd : Nd) (B : Nat) (w : World) (hE : EntsIn w B ev nd.es) (hB : B ≤ w.heap.size) (hD : nd.data.length ≤ 140737488351232) :
    Calls Tryz.prog 69 #[ndV ev nd] w fun e w' => e = .returned (.bool (plainB nd)) ∧ Below w.heap.size w w' := by
  have hent : ∀ W, Below w.heap.size w W → Calls Tryz.prog 91 #[ev] W fun e w' => e = .returned (.bool (entsB nd.es)) ∧ Below W.heap.size W w' :=
    fun W hW => rents_any ev nd.es w.heap.size W ((hE.more hB).below hW) hW.size
  obtain ⟨A, c, rfl, hlen⟩ := ents_len hE
  rw [plain_holds]
  unfold holdsB ndV
  rw [nil_len]
  obtain ⟨id, kind, mode, owner, time, data, es⟩ := nd
  simp only at *
  have hsz : (nm data).size = data.length := nm_size _
  generalize es.length = m at *
  generalize entsB es = eb at *
  obtain ⟨r, hr⟩ : ∃ r, (decide (0 ≤ mode ∧ mode ≤ 511 ∧ 0 ≤ owner ∧ owner ≤ 65535 ∧ 0 ≤ time ∧ time ≤ 1099511627776) && if kind = 1 then decide (data = []) && eb else if kind = 2 then decide (data.length ≤ 4096) && decide (m = 0) else if kind = 3 then decide (data ≠ []) && decide (data.length ≤ 256) && !data.contains 0 && decide (m = 0) else false) = r := ⟨_, rfl⟩
  rw [hr]
  have hBA : Below w.heap.size w (w.alloc (.cells #[.int .i64 id, .int .i64 kind, .int .i64 mode, .int .i64 owner, .int .i64 time, .string (nm data), .slice A m c] 64)) := (Below.refl _ _).alloc (Nat.le_refl _) _
  have HBA := Lib.hid hBA
  have HSZ := Lib.hid hsz
  have HENT := Lib.hid hent
  clear hent hBA hE
  by_cases hrange : 0 ≤ mode ∧ mode ≤ 511 ∧ 0 ≤ owner ∧ owner ≤ 65535 ∧ 0 ≤ time ∧ time ≤ 1099511627776
  · obtain ⟨g1, g2, g3, g4, g5, g6⟩ := hrange
    have e1 : decide (mode < 0) = false := by simp; omega
    have e2 : decide (511 < mode) = false := by simp; omega
    have e3 : decide (owner < 0) = false := by simp; omega
    have e4 : decide (65535 < owner) = false := by simp; omega
    have e5 : decide (time < 0) = false := by simp; omega
    have e6 : decide (1099511627776 < time) = false := by simp; omega
    rw [decide_eq_true ⟨g1, g2, g3, g4, g5, g6⟩, Bool.true_and] at hr
    by_cases k1 : kind = 1
    · rw [if_pos k1] at hr
      have q1 : (kind == 1) = true := by simp [k1]
      by_cases hd : data = []
      · have e1' := emp_yes (b := nm data) (by rw [nm_data]; exact hd)
        have HR : Hid (eb = r) := Lib.hid (by rw [← hr]; simp [hd])
        clear hr hd k1 hsz
        go_enter Tryz.func69, Tryz.ntmps69
        go_wp2_with (go_at_call 91; refine (HENT.out _ HBA.out).mono ?_; rintro e w' ⟨rfl, hb⟩)
        go_ret
        exact ⟨ret_bool HR.out, HBA.out.trans (hb.mono HBA.out.size)⟩
      · have e1' := emp_no (b := nm data) (by rw [nm_data]; exact hd)
        have HR : Hid (false = r) := Lib.hid (by rw [← hr]; simp [hd])
        clear hr hd k1 hsz
        go_enter Tryz.func69, Tryz.ntmps69
        go_wp2
        go_ret
        exact ⟨ret_bool HR.out, HBA.out⟩
    · rw [if_neg k1] at hr
      have q1 : (kind == 1) = false := by simp [k1]
      by_cases hm : 0 < m
      · have hmi : (0 : Int) < (m : Int) := by omega
        have HR : Hid (false = r) := Lib.hid (by
          rw [← hr]
          have : ¬ m = 0 := by omega
          split <;> simp [this])
        clear hr k1 hsz
        go_enter Tryz.func69, Tryz.ntmps69
        go_wp2
        go_ret
        exact ⟨ret_bool HR.out, HBA.out⟩
      · have hm0 : m = 0 := by omega
        subst hm0
        rw [decide_eq_true (show (0 : Nat) = 0 from rfl)] at hr
        by_cases k3 : kind = 3
        · have q3 : (kind == 3) = true := by simp [k3]
          have q2 : (kind == 2) = false := by simp [k3]
          rw [if_neg (by omega), if_pos k3] at hr
          have HRE := Lib.hid hr
          clear hr k1 k3
          go_enter Tryz.func69, Tryz.ntmps69
          go_wp2
          go_loop [3] (fun i => ∃ k : Nat, k ≤ data.length ∧ i = .int .i64 k ∧ Hid ((data.take k).contains 0 = false)) (fun i => data.length - (intOf i).toNat)
          case atStart => exact ⟨0, by omega, rfl, rfl⟩
          case round =>
            obtain ⟨k, hk, rfl, HT⟩ := hrel
            by_cases hlt : k < data.length
            · have hks : k < (nm data).size := by omega
              have hki : (k : Int) < ((nm data).size : Int) := by omega
              have hbyte : (nm data)[k] = data[k] := rfl
              have hst := nozero_step data k hlt
              rw [HT.out, Bool.false_or] at hst
              by_cases hz : data[k] = 0
              · have HR : Hid (false = r) := Lib.hid (by
                  have hc : data.contains 0 = true := by rw [List.contains_iff_mem]; exact hz ▸ List.getElem_mem hlt
                  rw [← HRE.out, hc]; simp)
                have q5 : ((((nm data)[k]).toNat : Int) == 0) = true := by rw [hbyte, hz]; rfl
                clear hst hz hbyte hsz
                go_wp2
                go_ret
                exact ⟨ret_bool HR.out, HBA.out⟩
              · have q5 : ((((nm data)[k]).toNat : Int) == 0) = false := by
                  rw [hbyte]; refine beq_eq_false_iff_ne.2 (fun h => hz (UInt8.toNat_inj.1 ?_))
                  have : (0 : UInt8).toNat = 0 := rfl
                  omega
                have HO : Hid ((data.take (k + 1)).contains 0 = false) := Lib.hid (by rw [hst]; exact beq_eq_false_iff_ne.2 hz)
                clear hst hz hbyte hsz
                go_wp2
                go_round
                case rel => exact ⟨k + 1, by omega, by go_num, HO⟩
                case measure => simp [intOf]; omega
            · have hkn : k = data.length := by omega
              have hnz : data.contains 0 = false := by have := HT.out; rwa [hkn, List.take_length] at this
              have hki : ¬ (k : Int) < ((nm data).size : Int) := by omega
              have hki2 : decide ((k : Int) < ((nm data).size : Int)) = false := by simp; omega
              have hki3 : decide (k < (nm data).size) = false := by simp; omega
              have hre := HRE.out
              rw [hnz] at hre
              by_cases hd : data = []
              · have HR : Hid (false = r) := Lib.hid (by rw [← hre]; simp [hd])
                have h0 : (nm data).size = 0 := by rw [hsz, hd]; rfl
                have h1 : ¬ 1 ≤ (nm data).size := by omega
                have h2 : decide (1 ≤ ((nm data).size : Int)) = false := by rw [h0]; rfl
                have h3 : decide (1 ≤ (nm data).size) = false := by rw [h0]; rfl
                have h4 : decide (0 < (nm data).size) = false := by rw [h0]; rfl
                have H0 := Lib.hid h0
                clear h0
                clear hre hnz hkn hd hsz
                go_wp2
                go_ret
                exact ⟨ret_bool (by simp; exact HR.out.symm), HBA.out⟩
              · have hpos : 1 ≤ (nm data).size := by rw [hsz]; exact List.length_pos_iff.2 hd
                have h2 : decide (1 ≤ ((nm data).size : Int)) = true := by simp; omega
                have h3 : decide (1 ≤ (nm data).size) = true := by simp; omega
                have h4 : decide (0 < (nm data).size) = true := by simp; omega
                have HR : Hid (decide ((nm data).size ≤ 256) = r) := Lib.hid (by rw [← hre, hsz]; simp [hd])
                clear hre hnz hkn hd hsz
                go_wp2
                go_ret
                exact ⟨ret_bool (by rw [← HR.out]; rw [Bool.eq_iff_iff]; simp; omega), HBA.out⟩
        · have q3 : (kind == 3) = false := by simp [k3]
          rw [if_neg k3] at hr
          by_cases k2 : kind = 2
          · have q2 : (kind == 2) = true := by simp [k2]
            rw [if_pos k2] at hr
            have HR : Hid (decide ((nm data).size ≤ 4096) = r) := Lib.hid (by rw [← hr, hsz]; simp)
            clear hr k1 k2 k3 hsz
            generalize nm data = D at *
            by_cases h4096 : D.size ≤ 4096
            · have h1 : decide ((D.size : Int) ≤ 4096) = true := by simp; omega
              have H9 : Hid (true = r) := Lib.hid (by rw [← HR.out]; simp [h4096])
              by_cases h0 : 0 < D.size
              · have h2 : decide ((0 : Int) < (D.size : Int)) = true := by simp; omega
                have h3 : decide (0 < D.size) = true := by simp; omega
                go_enter Tryz.func69, Tryz.ntmps69
                go_wp2
                refine wp_loop_rounds 1 ?_
                rw [rounds_succ]
                go_wp2
                go_ret
                exact ⟨ret_bool H9.out, HBA.out⟩
              · have h2 : decide ((0 : Int) < (D.size : Int)) = false := decide_eq_false (by omega)
                have h3 : decide (0 < D.size) = false := decide_eq_false h0
                go_enter Tryz.func69, Tryz.ntmps69
                go_wp2
                refine wp_loop_rounds 1 ?_
                rw [rounds_succ]
                go_wp2
                go_ret
                exact ⟨ret_bool H9.out, HBA.out⟩
            · have h1 : decide ((D.size : Int) ≤ 4096) = false := by simp; omega
              have H9 : Hid (false = r) := Lib.hid (by rw [← HR.out]; simp [h4096])
              have h0 : 0 < D.size := by omega
              have h2 : decide ((0 : Int) < (D.size : Int)) = true := by simp; omega
              have h3 : decide (0 < D.size) = true := by simp; omega
              go_enter Tryz.func69, Tryz.ntmps69
              go_wp2
              refine wp_loop_rounds 1 ?_
              rw [rounds_succ]
              go_wp2
              go_ret
              exact ⟨ret_bool H9.out, HBA.out⟩
          · have q2 : (kind == 2) = false := by simp [k2]
            rw [if_neg k2] at hr
            have H9 : Hid (false = r) := Lib.hid hr
            clear hr k1 k2 k3 hsz
            generalize nm data = D at *
            by_cases h0 : 0 < D.size
            · have h2 : decide ((0 : Int) < (D.size : Int)) = true := by simp; omega
              have h3 : decide (0 < D.size) = true := by simp; omega
              go_enter Tryz.func69, Tryz.ntmps69
              go_wp2
              refine wp_loop_rounds 1 ?_
              rw [rounds_succ]
              go_wp2
              go_ret
              exact ⟨ret_bool H9.out, HBA.out⟩
            · have h2 : decide ((0 : Int) < (D.size : Int)) = false := decide_eq_false (by omega)
              have h3 : decide (0 < D.size) = false := decide_eq_false h0
              go_enter Tryz.func69, Tryz.ntmps69
              go_wp2
              refine wp_loop_rounds 1 ?_
              rw [rounds_succ]
              go_wp2
              go_ret
              exact ⟨ret_bool H9.out, HBA.out⟩
  · have HR : Hid (false = r) := Lib.hid (by rw [← hr, decide_eq_false hrange]; rfl)
    clear hr hsz
    generalize nm data = D at *
    by_cases x1 : mode < 0
    · have e1 : decide (mode < 0) = true := by simpa using x1
      clear hrange
      go_enter Tryz.func69, Tryz.ntmps69
      go_wp2
      go_ret
      exact ⟨ret_bool HR.out, HBA.out⟩
    have e1 : decide (mode < 0) = false := by simpa using x1
    by_cases x2 : 511 < mode
    · have e2 : decide (511 < mode) = true := by simpa using x2
      clear hrange
      go_enter Tryz.func69, Tryz.ntmps69
      go_wp2
      go_ret
      exact ⟨ret_bool HR.out, HBA.out⟩
    have e2 : decide (511 < mode) = false := by simpa using x2
    by_cases x3 : owner < 0
    · have e3 : decide (owner < 0) = true := by simpa using x3
      clear hrange
      go_enter Tryz.func69, Tryz.ntmps69
      go_wp2
      go_ret
      exact ⟨ret_bool HR.out, HBA.out⟩
    have e3 : decide (owner < 0) = false := by simpa using x3
    by_cases x4 : 65535 < owner
    · have e4 : decide (65535 < owner) = true := by simpa using x4
      clear hrange
      go_enter Tryz.func69, Tryz.ntmps69
      go_wp2
      go_ret
      exact ⟨ret_bool HR.out, HBA.out⟩
    have e4 : decide (65535 < owner) = false := by simpa using x4
    by_cases x5 : time < 0
    · have e5 : decide (time < 0) = true := by simpa using x5
      clear hrange
      go_enter Tryz.func69, Tryz.ntmps69
      go_wp2
      go_ret
      exact ⟨ret_bool HR.out, HBA.out⟩
    have e5 : decide (time < 0) = false := by simpa using x5
    by_cases x6 : 1099511627776 < time
    · have e6 : decide (1099511627776 < time) = true := by simpa using x6
      clear hrange
      go_enter Tryz.func69, Tryz.ntmps69
      go_wp2
      go_ret
      exact ⟨ret_bool HR.out, HBA.out⟩
    exact absurd (by omega) hrange

end Go.Proofs.YtpicgkoclbpjpaaGreatDoor
end

section
namespace Go.Proofs.YtpicgkoclbpjpaaGreatDoor
open Go.RowKit Go.Sort
open PathM TreeM
set_option linter.unusedVariables false

def metCells (it : TreeM.Item) : List Value := [.int .i64 it.id, .string (nm it.path)]
theorem met_cells (l : List TreeM.Item) : ∀ k, k < l.length → (l.flatMap metCells)[k * 2]? = some (.int .i64 (itAt l k).id) ∧ (l.flatMap metCells)[k * 2 + 1]? = some (.string (nm (itAt l k).path)) := by
  induction l with
  | nil => intro k h; simp at h
  | cons a l ih =>
    intro k h
    rw [List.flatMap_cons]
    cases k with
    | zero => simp [metCells, itAt]
    | succ k =>
      have := ih k (by simpa using h)
      rw [show (k + 1) * 2 = k * 2 + 2 from by omega]
      simp only [metCells, itAt] at this ⊢
      simpa using this
theorem row_below {W W' : World} {base : Nat} {e : TypeId} {size : Nat} {v : Value} {k : Nat} {xs : List Value} (h : W.ownsRow base e size v k xs) (hb : Below W.heap.size W W') : W'.ownsRow base e size v k xs := by
  obtain ⟨g1, g2⟩ := h
  refine ⟨g1, g2.imp id ?_⟩
  rintro ⟨g, cap, cur, hv, hg, hh, hr⟩
  exact ⟨g, cap, cur, hv, hg, (hb.block g (Array.getElem?_eq_some_iff.1 hh).1).trans hh, hr⟩
theorem row_cells {W : World} {base : Nat} {e : TypeId} {size g n cap : Nat} {xs : List Value} (h : W.ownsRow base e size (.slice (some ⟨g, 0, none⟩) n cap) n xs) (j : Nat) (u : Value) (hj : xs[j]? = some u) : W.cell? ⟨g, j, none⟩ = some u := by
  rcases h.2 with ⟨h0, _⟩ | ⟨g', cap', cur, hv, _, hh, _, _, _, hx⟩
  · cases h0
  · cases hv
    have hc : cur[j]? = some u := by
      rw [← hx] at hj
      rw [List.getElem?_take] at hj
      split at hj
      · simpa using hj
      · cases hj
    simp [World.cell?, hh, hc]
theorem row_lt {W : World} {base : Nat} {e : TypeId} {size : Nat} {v : Value} {k : Nat} {xs : List Value} (h : W.ownsRow base e size v k xs) {b : Nat} (hb : v.ownBlock = some b) : b < W.heap.size ∧ base ≤ b := by
  rcases h.2 with ⟨rfl, _⟩ | ⟨g, cap, cur, rfl, hg, hh, _⟩
  · cases hb
  · obtain rfl : g = b := by simpa [Value.ownBlock] using hb
    exact ⟨(Array.getElem?_eq_some_iff.1 hh).1, hg⟩

/-- A slice that was appended to, again and again. -/
def Grew (W W' : World) (v v' : Value) : Prop := W.grownBy W' v.ownBlock ∧ (v'.ownBlock = v.ownBlock ∨ ∀ b, v'.ownBlock = some b → W.heap.size ≤ b)
theorem Grew.refl (W : World) (v : Value) : Grew W W v v := ⟨World.grownBy.refl W _, .inl rfl⟩
theorem grown_trans {W W1 W2 : World} {r : Option Nat} (h : W.grownBy W1 r) (h2 : W1.grownBy W2 r) : W.grownBy W2 r :=
  ⟨h2.os.trans h.os, h2.tape.trans h.tape, h2.output.trans h.output, Nat.le_trans h.size h2.size, fun k hk hr => (h2.block k (Nat.lt_of_lt_of_le hk h.size) hr).trans (h.block k hk hr)⟩
theorem Grew.trans {W W1 W2 : World} {v v1 v2 : Value} (h : Grew W W1 v v1) (h2 : Grew W1 W2 v1 v2) : Grew W W2 v v2 := by
  obtain ⟨g1, g2⟩ := h
  obtain ⟨k1, k2⟩ := h2
  refine ⟨⟨k1.os.trans g1.os, k1.tape.trans g1.tape, k1.output.trans g1.output, Nat.le_trans g1.size k1.size, fun k hk hr => (k1.block k (Nat.lt_of_lt_of_le hk g1.size) (fun e => ?_)).trans (g1.block k hk hr)⟩, ?_⟩
  · rcases g2 with g2 | g2
    · exact hr (e.trans g2)
    · have := g2 k e.symm; omega
  · rcases k2 with k2 | k2
    · rcases g2 with g2 | g2
      · exact .inl (k2.trans g2)
      · exact .inr (fun b hb => g2 b (k2 ▸ hb))
    · exact .inr (fun b hb => Nat.le_trans g1.size (k2 b hb))
theorem Grew.of_below {W W' : World} (v : Value) (h : Below W.heap.size W W') : Grew W W' v v := ⟨⟨h.os, h.tape, h.output, h.size, fun k hk _ => h.block k hk⟩, .inl rfl⟩
theorem Grew.below {W W' : World} {v v' : Value} {B : Nat} (h : Grew W W' v v') (hB : B ≤ W.heap.size) (hv : ∀ b, v.ownBlock = some b → B ≤ b) : Below B W W' :=
  ⟨h.1.os, h.1.tape, h.1.output, h.1.size, fun k hk => h.1.block k (by omega) (fun e => by have := hv k e.symm; omega)⟩
theorem Grew.cell {W W' : World} {v v' : Value} (h : Grew W W' v v') {p : Addr} {u : Value} (hc : W.cell? p = some u) (hv : ∀ b, v.ownBlock = some b → b ≠ p.block) : W'.cell? p = some u :=
  h.1.cell hc (fun e => hv _ e.symm rfl)

/-- What Way answers. -/
def RWPost (l' : List TreeM.Item) (base : Nat) (v : Value) (W : World) (e : Ending) (W' : World) : Prop :=
  ∃ v', e = .returned v' ∧ W'.ownsRow base 144 2 v' l'.length (l'.flatMap metCells) ∧ Grew W W' v v'
theorem info81 : (Tryz.prog.info? 144).map (fun i => (i.zero, i.size, i.bytes)) = some (some (.agg #[.int .i64 0, .string ByteArray.empty]), 2, 24) := by kernel_rfl
theorem cells2 (W : World) (t : TypeId) (a b : Value) : ∀ (j : Nat) (u : Value), [a, b][j]? = some u → (W.alloc (.cells #[a, b] t)).cell? ((⟨W.heap.size, 0, none⟩ : Addr).add j) = some u := by
  intro j u hj
  match j, hj with
  | 0, hj => simp at hj; subst hj; simp [Addr.add]
  | 1, hj => simp at hj; subst hj; simp [Addr.add]
theorem one2 (a : Int) (s : ByteArray) : ∀ u ∈ [Value.int .i64 a, Value.string s], u.oneCell' = true := by
  intro u hu
  simp at hu
  rcases hu with rfl | rfl <;> rfl
theorem met_scan {l : List TreeM.Item} {id : Int} (hm : met l id = true) : ∀ k, k < l.length → (∀ j, j < k → (itAt l j).id ≠ id) → (itAt l k).id ≠ id → k < metAt l id := by
  intro k hk hb he
  rcases Nat.lt_trichotomy k (metAt l id) with h | h | h
  · exact h
  · exact absurd (by rw [h]; exact metAt_id hm) he
  · exact absurd (metAt_id hm) (hb _ h)
theorem not_met {l : List TreeM.Item} {id : Int} (h : met l id = false) (k : Nat) (hk : k < l.length) : (itAt l k).id ≠ id := by
  intro e
  have := met_iff.2 ⟨_, itAt_mem hk, e⟩
  rw [h] at this; cases this

theorem grew_append {W w1 w3 : World} {v v' : Value} {tmp : Obj} (hb : Below W.heap.size W w1) (hg : (w1.alloc tmp).grownBy w3 v.ownBlock) (hloc : v'.ownBlock = v.ownBlock ∨ v'.ownBlock = some (w1.alloc tmp).heap.size) : Grew W w3 v v' := by
  refine (Grew.of_below v hb).trans ⟨?_, ?_⟩
  · exact grown_trans (World.grownBy_alloc w1 tmp _) hg
  · rcases hloc with h | h
    · exact .inl h
    · exact .inr (fun b hb => by rw [h] at hb; cases hb; exact Nat.le_of_lt (alloc_lt _ _))
theorem row_next {w3 : World} {base : Nat} {v : Value} {l l1 : List TreeM.Item} {news : List Value} (h1 : l1.length = l.length + 1) (h2 : l1.flatMap metCells = l.flatMap metCells ++ news) (h : w3.ownsRow base 144 2 v (l.length + 1) (l.flatMap metCells ++ news)) :
    w3.ownsRow base 144 2 v l1.length (l1.flatMap metCells) := by rw [h1, h2]; exact h
theorem box_kept {W w1 w3 : World} {B : Nat} {v : Value} {tmp o : Obj} {i : Nat} {u : Value} (hb : Below (W.alloc o).heap.size (W.alloc o) w1) (hg : (w1.alloc tmp).grownBy w3 v.ownBlock) (hv : ∀ b, v.ownBlock = some b → b < W.heap.size ∧ B ≤ b) (h : (W.alloc o).cell? ⟨W.heap.size, i, none⟩ = some u) : w3.cell? ⟨W.heap.size, i, none⟩ = some u :=
  hg.cell (cell_alloc_lt ((hb.cell (p := ⟨W.heap.size, i, none⟩) (alloc_lt _ _)).trans h)) (fun e => by have := (hv _ e.symm).1; simp at this)
theorem block_next {W w1 : World} {B : Nat} {v v' : Value} {tmp : Obj} (hloc : v'.ownBlock = v.ownBlock ∨ v'.ownBlock = some (w1.alloc tmp).heap.size) (hb : Below W.heap.size W w1) (hv : ∀ b, v.ownBlock = some b → b < W.heap.size ∧ B ≤ b) : ∀ b, v'.ownBlock = some b → b ≠ W.heap.size := by
  intro b hbb
  rcases hloc with h | h
  · have := (hv b (h ▸ hbb)).1; omega
  · rw [h] at hbb; cases hbb
    have h1 := hb.size
    have h2 := alloc_lt w1 tmp
    omega

set_option maxRecDepth 100000 in
set_option maxHeartbeats 8000000 in
theorem rway_any (nv : Value) (t : Tr) (B0 : Nat) (W1 : World) (hN : NodesIn W1 B0 nv t.nodes) (hn : t.nodes.length ≤ 512) (hnames : ∀ x ∈ flat t.nodes, x.key.length ≤ 64) :
    ∀ (f : Nat) (l : List TreeM.Item) (id : Int) (fr : Nat) (name path : Bs) (v : Value) (W : World), unmet t.nodes l ≤ f → path.length + f * 65 ≤ 40000 → Below B0 W1 W → B0 ≤ W.heap.size → Wy t.nodes l →
      W.ownsRow B0 144 2 v l.length (l.flatMap metCells) →
      Calls Tryz.prog 70 #[trV nv t, .int .i64 id, .string (nm path), v] W (RWPost (dfs t.nodes f id fr name path l) B0 v W) := by
  intro f
  have early : ∀ (l : List TreeM.Item) (id : Int) (path : Bs) (v : Value) (W : World), (met l id = true ∨ ¬ place t.nodes id < t.nodes.length) → l.length ≤ 512 → Below B0 W1 W → B0 ≤ W.heap.size →
      W.ownsRow B0 144 2 v l.length (l.flatMap metCells) →
      Calls Tryz.prog 70 #[trV nv t, .int .i64 id, .string (nm path), v] W (RWPost l B0 v W) := by
    intro l id path v W hwhy hll hbel hB0 hrow
    have hpl := fun W' (hW : Below W.heap.size W W') => rplace_any nv t id W.heap.size W' (((hN.below hbel).more hB0).below hW) hW.size
    obtain ⟨A, c, rfl⟩ := nodes_len hN
    obtain ⟨va, vc, rfl⟩ := ownsRow_len3 hrow
    have hpi : ¬ place t.nodes id < t.nodes.length → placeI t.nodes id = -1 := fun h => by unfold placeI; rw [if_neg h]
    have HPL := Lib.hid hpl; have HROW := Lib.hid hrow; have HB := Lib.hid hbel; have HW := Lib.hid hwhy; have HPI := Lib.hid hpi
    clear hpl hbel hwhy hpi hnames
    unfold trV RWPost at *
    generalize t.nodes.length = n at *
    generalize t.last = la at *
    generalize t.rn = rn at *
    generalize t.rb = rb at *
    generalize nm path = P at *
    by_cases hl0 : l = []
    · have hno : ¬ place t.nodes id < n := by
        rcases HW.out with h | h
        · rw [hl0] at h; simp [met] at h
        · exact h
      have hpim := HPI.out hno
      have hlt : placeI t.nodes id < 0 := by omega
      have hz : l.length = 0 := by rw [hl0]; rfl
      have HZ := Lib.hid hz
      clear hl0 hno hpim hrow hN
      generalize placeI t.nodes id = pi at *
      have hln : l.length ≤ 0 := by omega
      clear hz
      generalize hlen : l.length = ln at *
      obtain rfl : ln = 0 := by omega
      clear hlen HZ
      go_enter Tryz.func70, Tryz.ntmps70
      go_wp2_with fail
      refine (HPL.out _ ((Below.refl _ _).alloc (Nat.le_refl _) _)).mono ?_
      rintro e w1 ⟨rfl, hb1⟩
      have HB1 := Lib.hid hb1
      have HGW := Lib.hid (((Below.refl W.heap.size W).alloc (Nat.le_refl _) _).trans (hb1.mono (Nat.le_of_lt (alloc_lt _ _))))
      have HR1 := Lib.hid (row_below HROW.out HGW.out)
      clear hb1
      go_wp2
      refine wp_loop_rounds 1 ?_
      rw [rounds_succ]
      go_wp2
      go_ret
      exact ⟨_, rfl, HR1.out, Grew.of_below _ HGW.out⟩
    · have hlpos : 0 < l.length := List.length_pos_iff.2 hl0
      obtain ⟨g, rfl⟩ : ∃ g, va = some ⟨g, 0, none⟩ := by
        rcases hrow.2 with ⟨_, h⟩ | ⟨g, cap, cur, hv, _⟩
        · omega
        · cases hv; exact ⟨g, rfl⟩
      have hmc := met_cells l
      have hsc := fun hm => met_scan (l := l) (id := id) hm
      have hat := fun (hm : met l id = true) => metAt_lt hm
      have hid := fun (hm : met l id = true) => metAt_id hm
      have HMC := Lib.hid hmc; have HSC := Lib.hid hsc; have HAT := Lib.hid hat; have HID := Lib.hid hid
      clear hmc hsc hat hid hl0 hrow hN
      generalize placeI t.nodes id = pi at *
      generalize hlen : l.length = ln at *
      have HLEN := Lib.hid hlen
      clear hlen
      go_enter Tryz.func70, Tryz.ntmps70
      go_wp2_with fail
      refine (HPL.out _ ((Below.refl _ _).alloc (Nat.le_refl _) _)).mono ?_
      rintro e w1 ⟨rfl, hb1⟩
      have HB1 := Lib.hid hb1
      have HGW := Lib.hid (((Below.refl W.heap.size W).alloc (Nat.le_refl _) _).trans (hb1.mono (Nat.le_of_lt (alloc_lt _ _))))
      have HR1 := Lib.hid (row_below HROW.out HGW.out)
      clear hb1
      go_wp2
      go_loop [10] (fun i => ∃ k : Nat, k ≤ ln ∧ i = .int .i64 k ∧ Hid (∀ j, j < k → (itAt l j).id ≠ id)) (fun i => ln - (intOf i).toNat)
      case atStart => exact ⟨0, by omega, rfl, Lib.hid (fun j hj => absurd hj (Nat.not_lt_zero _))⟩
      case round =>
        obtain ⟨k, hk, rfl, HT⟩ := hrel
        by_cases hlt : k < ln
        · have m0 : w1.cell? ⟨g, k * 2, none⟩ = some (.int .i64 (itAt l k).id) := row_cells HR1.out _ _ (HMC.out k hlt).1
          have hki : (k : Int) < (ln : Int) := by omega
          by_cases he : (itAt l k).id = id
          · have q1 : ((itAt l k).id == id) = true := by simpa using he
            clear he
            generalize (itAt l k).id = x at *
            go_wp2
            go_ret
            exact ⟨_, rfl, HR1.out, Grew.of_below _ HGW.out⟩
          · have q1 : ((itAt l k).id == id) = false := by simpa using he
            have HO : Hid (∀ j, j < k + 1 → (itAt l j).id ≠ id) := Lib.hid (fun j hj => by
              by_cases e : j = k
              · subst e; exact he
              · exact HT.out j (by omega))
            clear he
            generalize (itAt l k).id = x at m0 q1
            go_wp2
            go_round
            case rel => exact ⟨k + 1, by omega, by go_num, HO⟩
            case measure => simp [intOf]; omega
        · have hnm : ¬ met l id = true := fun h => HT.out _ (by have := HAT.out h; omega) (HID.out h)
          have hpim := HPI.out (HW.out.resolve_left hnm)
          have hlt2 : pi < 0 := by omega
          clear hnm hpim
          go_wp2
          go_ret
          exact ⟨_, rfl, HR1.out, Grew.of_below _ HGW.out⟩
  induction f with
  | zero =>
    intro l id fr name path v W hu hpa hbel hB0 hwy hrow
    have hll : l.length ≤ 512 := by have := hwy.len; omega
    refine early l id path v W ?_ hll hbel hB0 hrow
    by_cases hp : place t.nodes id < t.nodes.length
    · exact .inl (unmet_zero (by omega) hp)
    · exact .inr hp
  | succ f ih =>
    intro l id fr name path v W hu hpa hbel hB0 hwy hrow
    have hll : l.length ≤ 512 := by have := hwy.len; omega
    cases hm : met l id with
    | true => rw [dfs_met hm]; exact early l id path v W (.inl hm) hll hbel hB0 hrow
    | false =>
      by_cases hp : place t.nodes id < t.nodes.length
      · clear early
        rw [dfs_new hm hp]
        have hub := unmet_add (it := ⟨place t.nodes id, fr, name, id, path⟩) hm hp
        have hwy1 := hwy.add (it := ⟨place t.nodes id, fr, name, id, path⟩) hm hp rfl
        have hlen1 := hwy1.len
        have hcs : (l ++ [(⟨place t.nodes id, fr, name, id, path⟩ : TreeM.Item)]).flatMap metCells = l.flatMap metCells ++ [.int .i64 id, .string (nm path)] := by simp [metCells]
        have hll1 : (l ++ [(⟨place t.nodes id, fr, name, id, path⟩ : TreeM.Item)]).length = l.length + 1 := by simp
        generalize (l ++ [(⟨place t.nodes id, fr, name, id, path⟩ : TreeM.Item)]) = l1 at *
        have hpl := fun W' (hW : Below W.heap.size W W') => rplace_any nv t id W.heap.size W' (((hN.below hbel).more hB0).below hW) hW.size
        have hpi : placeI t.nodes id = (place t.nodes id : Int) := by unfold placeI; rw [if_pos hp]
        rw [hpi] at hpl
        obtain ⟨_, ⟨A, c, rfl, h0⟩ | ⟨b, off, c, rfl, hcap, hb, hpos, hcells⟩⟩ := hN.cases
        · rw [h0] at hp; simp [place] at hp
        obtain ⟨ev, n6, hE⟩ := (hcells _ hp).2.2.2.2.2.2.2
        have hkeys : ∀ x ∈ (ndAt t.nodes (place t.nodes id)).es, x.key.length ≤ 64 := fun x hx => hnames x (flat_mem.2 ⟨_, hp, hx⟩)
        have hpi2 : (place t.nodes id : Int) < (t.nodes.length : Int) := by omega
        obtain ⟨va, vc, rfl⟩ := ownsRow_len3 hrow
        have hvb := fun b hb => row_lt hrow (b := b) hb
        have hnm := not_met hm
        generalize place t.nodes id = p at *
        generalize ndAt t.nodes p = nd at *
        have HPL := Lib.hid hpl; have HROW := Lib.hid hrow; have HB := Lib.hid hbel; have HCS := Lib.hid hcs; have HLL1 := Lib.hid hll1; have HUB := Lib.hid hub; have HWY1 := Lib.hid hwy1; have IH := Lib.hid ih; have HK := Lib.hid hkeys; have HVB := Lib.hid hvb; have HNM := Lib.hid hnm
        clear hpl hrow hbel hcs hll1 hub hwy1 ih hkeys hvb hnm hnames hpi hN hcells hm hwy
        unfold trV RWPost at *
        generalize t.nodes.length = n at *
        generalize t.last = la at *
        generalize t.rn = rn at *
        generalize t.rb = rb at *
        obtain ⟨i0, hi, hz0, hz1, hz2⟩ := info_parts info81
        have HI := Lib.hid hi; have HZ0 := Lib.hid hz0; have HZ1 := Lib.hid hz1; have HZ2 := Lib.hid hz2
        clear hi hz0 hz1 hz2
        obtain ⟨hml, hxr, ⟨Ae, ce, rfl, he0⟩ | ⟨eb, eo, ce, rfl, hecap, heb, hepos, hec⟩⟩ := hE.cases
        · rw [he0]
          clear hE hxr hml he0 IH HK
          by_cases hl0 : l = []
          · have hz : l.length = 0 := by rw [hl0]; rfl
            have hln : l.length ≤ 0 := by omega
            have HZL := Lib.hid hz
            clear hl0 hz
            go_enter Tryz.func70, Tryz.ntmps70
            go_wp2_with fail
            refine (HPL.out _ ((Below.refl _ _).alloc (Nat.le_refl _) _)).mono ?_
            rintro e w1 ⟨rfl, hb1⟩
            have HB1 := Lib.hid hb1
            have HGW := Lib.hid (((Below.refl W.heap.size W).alloc (Nat.le_refl _) _).trans (hb1.mono (Nat.le_of_lt (alloc_lt _ _))))
            have HR1 := Lib.hid (row_below HROW.out HGW.out)
            clear hb1
            go_wp2
            have hB1 : B0 ≤ w1.heap.size := by have := HGW.out.size; omega
            refine wp_loop_rounds 1 ?_
            rw [rounds_succ]
            go_wp2_with (at_builtin; refine wpList_append_own_at _ rfl _ _ 123 rfl B0 144 i0 (.agg #[.int .i64 0, .string ByteArray.empty]) 2 24 Tryz.underlying123 HI.out HZ0.out HZ1.out HZ2.out rfl (by decide) _ _ _ rfl (HR1.out.alloc _) ⟨w1.heap.size, 0, none⟩ 1 1 [.int .i64 id, .string (nm path)] rfl rfl (cells2 _ _ _ _) (one2 _ _) (maxLen_ok (by omega)) (by omega) (Nat.le_trans hB1 (Nat.le_of_lt (alloc_lt _ _))) ?_; intro v' w3 hown' hgrow _ hloc; obtain ⟨g', cap', rfl⟩ := ownsRow_succ hown'; have HG3 := Lib.hid (grew_append HGW.out hgrow hloc); have HR3 := Lib.hid (row_next HLL1.out HCS.out hown'); have z0 : w3.cell? ⟨W.heap.size, 0, none⟩ = some (.slice (some ⟨b, off, none⟩) n c) := box_kept HB1.out hgrow HVB.out (i := 0) (by simp); have z1 : w3.cell? ⟨W.heap.size, 1, none⟩ = some (.int .i64 la) := box_kept HB1.out hgrow HVB.out (i := 1) (by simp); have z2 : w3.cell? ⟨W.heap.size, 2, none⟩ = some (.int .i64 rn) := box_kept HB1.out hgrow HVB.out (i := 2) (by simp); have z3 : w3.cell? ⟨W.heap.size, 3, none⟩ = some (.int .i64 rb) := box_kept HB1.out hgrow HVB.out (i := 3) (by simp); have HV3 := Lib.hid (block_next hloc HGW.out HVB.out); have HB3 := Lib.hid (HB.out.trans (HG3.out.below hB0 (fun b hb => (HVB.out b hb).2))); have z6 := (HB3.out.cell (p := ⟨b, off + p * 7 + 6, none⟩) hb).trans n6; clear hown' hgrow hloc)
            refine wp_loop_rounds 1 ?_
            rw [rounds_succ]
            go_wp2
            go_ret
            exact ⟨_, rfl, HR3.out, HG3.out⟩
          · have hlpos : 0 < l.length := List.length_pos_iff.2 hl0
            obtain ⟨g, rfl⟩ : ∃ g, va = some ⟨g, 0, none⟩ := by
              rcases HROW.out.2 with ⟨_, h⟩ | ⟨g, cap, cur, hv, _⟩
              · omega
              · cases hv; exact ⟨g, rfl⟩
            have HMC := Lib.hid (met_cells l)
            clear hl0
            go_enter Tryz.func70, Tryz.ntmps70
            go_wp2_with fail
            refine (HPL.out _ ((Below.refl _ _).alloc (Nat.le_refl _) _)).mono ?_
            rintro e w1 ⟨rfl, hb1⟩
            have HB1 := Lib.hid hb1
            have HGW := Lib.hid (((Below.refl W.heap.size W).alloc (Nat.le_refl _) _).trans (hb1.mono (Nat.le_of_lt (alloc_lt _ _))))
            have HR1 := Lib.hid (row_below HROW.out HGW.out)
            clear hb1
            go_wp2
            have hB1 : B0 ≤ w1.heap.size := by have := HGW.out.size; omega
            go_loop [10] (fun i => ∃ k : Nat, k ≤ l.length ∧ i = .int .i64 k) (fun i => l.length - (intOf i).toNat)
            case atStart => exact ⟨0, by omega, rfl⟩
            case round =>
              obtain ⟨k, hk, rfl⟩ := hrel
              by_cases hlt : k < l.length
              · have m0 : w1.cell? ⟨g, k * 2, none⟩ = some (.int .i64 (itAt l k).id) := row_cells HR1.out _ _ (HMC.out k hlt).1
                have hki : (k : Int) < (l.length : Int) := by omega
                have q1 : ((itAt l k).id == id) = false := beq_eq_false_iff_ne.2 (HNM.out k hlt)
                generalize (itAt l k).id = x at m0 q1
                go_wp2
                go_round
                case rel => exact ⟨k + 1, by omega, by go_num⟩
                case measure => simp [intOf]; omega
              · go_wp2_with (at_builtin; refine wpList_append_own_at _ rfl _ _ 123 rfl B0 144 i0 (.agg #[.int .i64 0, .string ByteArray.empty]) 2 24 Tryz.underlying123 HI.out HZ0.out HZ1.out HZ2.out rfl (by decide) _ _ _ rfl (HR1.out.alloc _) ⟨w1.heap.size, 0, none⟩ 1 1 [.int .i64 id, .string (nm path)] rfl rfl (cells2 _ _ _ _) (one2 _ _) (maxLen_ok (by omega)) (by omega) (Nat.le_trans hB1 (Nat.le_of_lt (alloc_lt _ _))) ?_; intro v' w3 hown' hgrow _ hloc; obtain ⟨g', cap', rfl⟩ := ownsRow_succ hown'; have HG3 := Lib.hid (grew_append HGW.out hgrow hloc); have HR3 := Lib.hid (row_next HLL1.out HCS.out hown'); have z0 : w3.cell? ⟨W.heap.size, 0, none⟩ = some (.slice (some ⟨b, off, none⟩) n c) := box_kept HB1.out hgrow HVB.out (i := 0) (by simp); have z1 : w3.cell? ⟨W.heap.size, 1, none⟩ = some (.int .i64 la) := box_kept HB1.out hgrow HVB.out (i := 1) (by simp); have z2 : w3.cell? ⟨W.heap.size, 2, none⟩ = some (.int .i64 rn) := box_kept HB1.out hgrow HVB.out (i := 2) (by simp); have z3 : w3.cell? ⟨W.heap.size, 3, none⟩ = some (.int .i64 rb) := box_kept HB1.out hgrow HVB.out (i := 3) (by simp); have HV3 := Lib.hid (block_next hloc HGW.out HVB.out); have HB3 := Lib.hid (HB.out.trans (HG3.out.below hB0 (fun b hb => (HVB.out b hb).2))); have z6 := (HB3.out.cell (p := ⟨b, off + p * 7 + 6, none⟩) hb).trans n6; clear hown' hgrow hloc)
                refine wp_loop_rounds 1 ?_
                rw [rounds_succ]
                go_wp2
                go_ret
                exact ⟨_, rfl, HR3.out, HG3.out⟩
        · have hmem : ∀ q, q < nd.es.length → entAt nd.es q ∈ nd.es := fun q hq => entAt_mem hq
          have htk : nd.es.take nd.es.length = nd.es := List.take_length
          have hstep : ∀ q, q < nd.es.length → dfsL t.nodes f l.length path (nd.es.take (q + 1)) l1 = dfs t.nodes f (entAt nd.es q).to l.length (entAt nd.es q).key (joinL path (entAt nd.es q).key) (dfsL t.nodes f l.length path (nd.es.take q) l1) := fun q hq => dfsL_take hq
          generalize hm : nd.es.length = m at *
          have HTK := Lib.hid htk; have HST := Lib.hid hstep; have HMEM := Lib.hid hmem; have HEC := Lib.hid hec
          clear htk hstep hmem hxr hec hm hE
          by_cases hl0 : l = []
          · have hz : l.length = 0 := by rw [hl0]; rfl
            have hln : l.length ≤ 0 := by omega
            have HZL := Lib.hid hz
            clear hl0 hz
            go_enter Tryz.func70, Tryz.ntmps70
            go_wp2_with fail
            refine (HPL.out _ ((Below.refl _ _).alloc (Nat.le_refl _) _)).mono ?_
            rintro e w1 ⟨rfl, hb1⟩
            have HB1 := Lib.hid hb1
            have HGW := Lib.hid (((Below.refl W.heap.size W).alloc (Nat.le_refl _) _).trans (hb1.mono (Nat.le_of_lt (alloc_lt _ _))))
            have HR1 := Lib.hid (row_below HROW.out HGW.out)
            clear hb1
            go_wp2
            have hB1 : B0 ≤ w1.heap.size := by have := HGW.out.size; omega
            refine wp_loop_rounds 1 ?_
            rw [rounds_succ]
            go_wp2_with (at_builtin; refine wpList_append_own_at _ rfl _ _ 123 rfl B0 144 i0 (.agg #[.int .i64 0, .string ByteArray.empty]) 2 24 Tryz.underlying123 HI.out HZ0.out HZ1.out HZ2.out rfl (by decide) _ _ _ rfl (HR1.out.alloc _) ⟨w1.heap.size, 0, none⟩ 1 1 [.int .i64 id, .string (nm path)] rfl rfl (cells2 _ _ _ _) (one2 _ _) (maxLen_ok (by omega)) (by omega) (Nat.le_trans hB1 (Nat.le_of_lt (alloc_lt _ _))) ?_; intro v' w3 hown' hgrow _ hloc; obtain ⟨g', cap', rfl⟩ := ownsRow_succ hown'; have HG3 := Lib.hid (grew_append HGW.out hgrow hloc); have HR3 := Lib.hid (row_next HLL1.out HCS.out hown'); have z0 : w3.cell? ⟨W.heap.size, 0, none⟩ = some (.slice (some ⟨b, off, none⟩) n c) := box_kept HB1.out hgrow HVB.out (i := 0) (by simp); have z1 : w3.cell? ⟨W.heap.size, 1, none⟩ = some (.int .i64 la) := box_kept HB1.out hgrow HVB.out (i := 1) (by simp); have z2 : w3.cell? ⟨W.heap.size, 2, none⟩ = some (.int .i64 rn) := box_kept HB1.out hgrow HVB.out (i := 2) (by simp); have z3 : w3.cell? ⟨W.heap.size, 3, none⟩ = some (.int .i64 rb) := box_kept HB1.out hgrow HVB.out (i := 3) (by simp); have HV3 := Lib.hid (block_next hloc HGW.out HVB.out); have HB3 := Lib.hid (HB.out.trans (HG3.out.below hB0 (fun b hb => (HVB.out b hb).2))); have z6 := (HB3.out.cell (p := ⟨b, off + p * 7 + 6, none⟩) hb).trans n6; clear hown' hgrow hloc)
            go_loopw [3, 11] (fun v5 i wr => ∃ q : Nat, q ≤ m ∧ i = .int .i64 q ∧ wr.ownsRow B0 144 2 v5 (dfsL t.nodes f l.length path (nd.es.take q) l1).length ((dfsL t.nodes f l.length path (nd.es.take q) l1).flatMap metCells) ∧ Grew w3 wr (.slice (some ⟨g', 0, none⟩) (l.length + 1) cap') v5) (fun _ i _ => m - (intOf i).toNat)
            case atStart => exact ⟨0, by omega, rfl, HR3.out, Grew.refl _ _⟩
            case round =>
              obtain ⟨q, hq, rfl, hrw, hgr⟩ := hrel
              obtain ⟨va5, vc5, rfl⟩ := ownsRow_len3 hrw
              have y0 := hgr.cell z0 HV3.out
              have y1 := hgr.cell z1 HV3.out
              have y2 := hgr.cell z2 HV3.out
              have y3 := hgr.cell z3 HV3.out
              have hb5 := HB3.out.trans (hgr.below (B := B0) (Nat.le_trans hB0 HG3.out.1.size) (fun b hb => (row_lt HR3.out hb).2))
              have y6 := (hb5.cell (p := ⟨b, off + p * 7 + 6, none⟩) hb).trans n6
              have hB5 : B0 ≤ wr.heap.size := Nat.le_trans hB0 (Nat.le_trans HG3.out.1.size hgr.1.size)
              have HRW := Lib.hid hrw; have HGR := Lib.hid hgr; have HB5 := Lib.hid hb5
              clear hrw hgr hb5
              by_cases hqt : q < m
              · obtain ⟨ec0, ec1⟩ := HEC.out q hqt
                have d0 : wr.cell? ⟨eb, eo + q * 2, none⟩ = some (.string (nm (entAt nd.es q).key)) := (HB5.out.cell (p := ⟨eb, eo + q * 2, none⟩) heb).trans ec0
                have d1 : wr.cell? ⟨eb, eo + q * 2 + 1, none⟩ = some (.int .i64 (entAt nd.es q).to) := (HB5.out.cell (p := ⟨eb, eo + q * 2 + 1, none⟩) heb).trans ec1
                have hqq : (q : Int) < (m : Int) := by omega
                have HS1 := Lib.hid (HST.out q hqt)
                have hun : unmet t.nodes (dfsL t.nodes f l.length path (nd.es.take q) l1) ≤ f := Nat.le_trans (unmet_mono _ (dfsL_prefix _ _ _ _ _ _)) (by have := HUB.out; omega)
                have hwy5 : Wy t.nodes (dfsL t.nodes f l.length path (nd.es.take q) l1) := dfsL_keeps (fun a b => Wy t.nodes a → Wy t.nodes b) (fun _ h => h) (fun _ _ _ h1 h2 h => h2 (h1 h)) (fun l it hm hp hn h => h.add hm hp hn) f l.length path _ l1 HWY1.out
                have hkl := HK.out _ (HMEM.out q hqt)
                have hjl : (joinL path (entAt nd.es q).key).length ≤ path.length + 65 := by
                  unfold joinL
                  have := bare_len path
                  simp only [List.length_append, List.length_cons]
                  omega
                have HIH := Lib.hid (fun W v hW hBW hr => IH.out (dfsL t.nodes f l.length path (nd.es.take q) l1) (entAt nd.es q).to l.length (entAt nd.es q).key (joinL path (entAt nd.es q).key) v W hun (by omega) hW hBW hwy5 hr)
                have HJ : Hid (∀ W, Calls Tryz.prog 92 #[.string (nm path), .string (nm (entAt nd.es q).key)] W fun e w' => e = .returned (.string (nm (joinL path (entAt nd.es q).key))) ∧ w' = W) :=
                  Lib.hid (fun W => (rjoin_any (nm path) (nm (entAt nd.es q).key) W (by rw [nm_size, nm_size]; unfold maxLen; omega)).mono fun _ _ ⟨h1, h2⟩ => ⟨h1, h2.symm⟩)
                clear ec0 ec1 hun hwy5 hkl hjl
                generalize joinL path (entAt nd.es q).key = J at *
                generalize entAt nd.es q = x at *
                go_wp2
                refine wp_region_still_tail 24 (by kernel_rfl) (by kernel_rfl) ?_
                simp only [List.take_succ_cons, List.take_zero, List.drop_succ_cons, List.drop_zero]
                repeat still_step
                still_call (HJ.out _)
                repeat still_step
                refine wpStill_nil ?_
                change wpList _ _ _ _ _ wr.drew
                go_wp2_with fail
                refine (HIH.out _ _ HB5.out.drew hB5 HRW.out.drew).mono ?_
                rintro e w5 ⟨v5, rfl, hr5, hg5⟩
                go_wp2
                go_roundw
                case rel => exact ⟨q + 1, by omega, by go_num, by rw [HS1.out]; exact hr5, HGR.out.trans ((Grew.of_below _ ((Below.refl _ _).drew)).trans hg5)⟩
                case measure => simp [intOf]; omega
              · have hqm : q = m := by omega
                have HO : Hid (dfsL t.nodes f l.length path (nd.es.take q) l1 = dfsL t.nodes f l.length path nd.es l1) := Lib.hid (by rw [hqm, HTK.out])
                clear hqm
                go_wp2
                go_ret
                exact ⟨_, rfl, by rw [← HO.out]; exact HRW.out, HG3.out.trans HGR.out⟩
          · have hlpos : 0 < l.length := List.length_pos_iff.2 hl0
            obtain ⟨g, rfl⟩ : ∃ g, va = some ⟨g, 0, none⟩ := by
              rcases HROW.out.2 with ⟨_, h⟩ | ⟨g, cap, cur, hv, _⟩
              · omega
              · cases hv; exact ⟨g, rfl⟩
            have HMC := Lib.hid (met_cells l)
            clear hl0
            go_enter Tryz.func70, Tryz.ntmps70
            go_wp2_with fail
            refine (HPL.out _ ((Below.refl _ _).alloc (Nat.le_refl _) _)).mono ?_
            rintro e w1 ⟨rfl, hb1⟩
            have HB1 := Lib.hid hb1
            have HGW := Lib.hid (((Below.refl W.heap.size W).alloc (Nat.le_refl _) _).trans (hb1.mono (Nat.le_of_lt (alloc_lt _ _))))
            have HR1 := Lib.hid (row_below HROW.out HGW.out)
            clear hb1
            go_wp2
            have hB1 : B0 ≤ w1.heap.size := by have := HGW.out.size; omega
            go_loop [10] (fun i => ∃ k : Nat, k ≤ l.length ∧ i = .int .i64 k) (fun i => l.length - (intOf i).toNat)
            case atStart => exact ⟨0, by omega, rfl⟩
            case round =>
              obtain ⟨k, hk, rfl⟩ := hrel
              by_cases hlt : k < l.length
              · have m0 : w1.cell? ⟨g, k * 2, none⟩ = some (.int .i64 (itAt l k).id) := row_cells HR1.out _ _ (HMC.out k hlt).1
                have hki : (k : Int) < (l.length : Int) := by omega
                have q1 : ((itAt l k).id == id) = false := beq_eq_false_iff_ne.2 (HNM.out k hlt)
                generalize (itAt l k).id = x at m0 q1
                go_wp2
                go_round
                case rel => exact ⟨k + 1, by omega, by go_num⟩
                case measure => simp [intOf]; omega
              · go_wp2_with (at_builtin; refine wpList_append_own_at _ rfl _ _ 123 rfl B0 144 i0 (.agg #[.int .i64 0, .string ByteArray.empty]) 2 24 Tryz.underlying123 HI.out HZ0.out HZ1.out HZ2.out rfl (by decide) _ _ _ rfl (HR1.out.alloc _) ⟨w1.heap.size, 0, none⟩ 1 1 [.int .i64 id, .string (nm path)] rfl rfl (cells2 _ _ _ _) (one2 _ _) (maxLen_ok (by omega)) (by omega) (Nat.le_trans hB1 (Nat.le_of_lt (alloc_lt _ _))) ?_; intro v' w3 hown' hgrow _ hloc; obtain ⟨g', cap', rfl⟩ := ownsRow_succ hown'; have HG3 := Lib.hid (grew_append HGW.out hgrow hloc); have HR3 := Lib.hid (row_next HLL1.out HCS.out hown'); have z0 : w3.cell? ⟨W.heap.size, 0, none⟩ = some (.slice (some ⟨b, off, none⟩) n c) := box_kept HB1.out hgrow HVB.out (i := 0) (by simp); have z1 : w3.cell? ⟨W.heap.size, 1, none⟩ = some (.int .i64 la) := box_kept HB1.out hgrow HVB.out (i := 1) (by simp); have z2 : w3.cell? ⟨W.heap.size, 2, none⟩ = some (.int .i64 rn) := box_kept HB1.out hgrow HVB.out (i := 2) (by simp); have z3 : w3.cell? ⟨W.heap.size, 3, none⟩ = some (.int .i64 rb) := box_kept HB1.out hgrow HVB.out (i := 3) (by simp); have HV3 := Lib.hid (block_next hloc HGW.out HVB.out); have HB3 := Lib.hid (HB.out.trans (HG3.out.below hB0 (fun b hb => (HVB.out b hb).2))); have z6 := (HB3.out.cell (p := ⟨b, off + p * 7 + 6, none⟩) hb).trans n6; clear hown' hgrow hloc)
                go_loopw [3, 11] (fun v5 i wr => ∃ q : Nat, q ≤ m ∧ i = .int .i64 q ∧ wr.ownsRow B0 144 2 v5 (dfsL t.nodes f l.length path (nd.es.take q) l1).length ((dfsL t.nodes f l.length path (nd.es.take q) l1).flatMap metCells) ∧ Grew w3 wr (.slice (some ⟨g', 0, none⟩) (l.length + 1) cap') v5) (fun _ i _ => m - (intOf i).toNat)
                case atStart => exact ⟨0, by omega, rfl, HR3.out, Grew.refl _ _⟩
                case round =>
                  obtain ⟨q, hq, rfl, hrw, hgr⟩ := hrel
                  obtain ⟨va5, vc5, rfl⟩ := ownsRow_len3 hrw
                  have y0 := hgr.cell z0 HV3.out
                  have y1 := hgr.cell z1 HV3.out
                  have y2 := hgr.cell z2 HV3.out
                  have y3 := hgr.cell z3 HV3.out
                  have hb5 := HB3.out.trans (hgr.below (B := B0) (Nat.le_trans hB0 HG3.out.1.size) (fun b hb => (row_lt HR3.out hb).2))
                  have y6 := (hb5.cell (p := ⟨b, off + p * 7 + 6, none⟩) hb).trans n6
                  have hB5 : B0 ≤ wr.heap.size := Nat.le_trans hB0 (Nat.le_trans HG3.out.1.size hgr.1.size)
                  have HRW := Lib.hid hrw; have HGR := Lib.hid hgr; have HB5 := Lib.hid hb5
                  clear hrw hgr hb5
                  by_cases hqt : q < m
                  · obtain ⟨ec0, ec1⟩ := HEC.out q hqt
                    have d0 : wr.cell? ⟨eb, eo + q * 2, none⟩ = some (.string (nm (entAt nd.es q).key)) := (HB5.out.cell (p := ⟨eb, eo + q * 2, none⟩) heb).trans ec0
                    have d1 : wr.cell? ⟨eb, eo + q * 2 + 1, none⟩ = some (.int .i64 (entAt nd.es q).to) := (HB5.out.cell (p := ⟨eb, eo + q * 2 + 1, none⟩) heb).trans ec1
                    have hqq : (q : Int) < (m : Int) := by omega
                    have HS1 := Lib.hid (HST.out q hqt)
                    have hun : unmet t.nodes (dfsL t.nodes f l.length path (nd.es.take q) l1) ≤ f := Nat.le_trans (unmet_mono _ (dfsL_prefix _ _ _ _ _ _)) (by have := HUB.out; omega)
                    have hwy5 : Wy t.nodes (dfsL t.nodes f l.length path (nd.es.take q) l1) := dfsL_keeps (fun a b => Wy t.nodes a → Wy t.nodes b) (fun _ h => h) (fun _ _ _ h1 h2 h => h2 (h1 h)) (fun l it hm hp hn h => h.add hm hp hn) f l.length path _ l1 HWY1.out
                    have hkl := HK.out _ (HMEM.out q hqt)
                    have hjl : (joinL path (entAt nd.es q).key).length ≤ path.length + 65 := by
                      unfold joinL
                      have := bare_len path
                      simp only [List.length_append, List.length_cons]
                      omega
                    have HIH := Lib.hid (fun W v hW hBW hr => IH.out (dfsL t.nodes f l.length path (nd.es.take q) l1) (entAt nd.es q).to l.length (entAt nd.es q).key (joinL path (entAt nd.es q).key) v W hun (by omega) hW hBW hwy5 hr)
                    have HJ : Hid (∀ W, Calls Tryz.prog 92 #[.string (nm path), .string (nm (entAt nd.es q).key)] W fun e w' => e = .returned (.string (nm (joinL path (entAt nd.es q).key))) ∧ w' = W) :=
                      Lib.hid (fun W => (rjoin_any (nm path) (nm (entAt nd.es q).key) W (by rw [nm_size, nm_size]; unfold maxLen; omega)).mono fun _ _ ⟨h1, h2⟩ => ⟨h1, h2.symm⟩)
                    clear ec0 ec1 hun hwy5 hkl hjl
                    generalize joinL path (entAt nd.es q).key = J at *
                    generalize entAt nd.es q = x at *
                    go_wp2
                    refine wp_region_still_tail 24 (by kernel_rfl) (by kernel_rfl) ?_
                    simp only [List.take_succ_cons, List.take_zero, List.drop_succ_cons, List.drop_zero]
                    repeat still_step
                    still_call (HJ.out _)
                    repeat still_step
                    refine wpStill_nil ?_
                    change wpList _ _ _ _ _ wr.drew
                    go_wp2_with fail
                    refine (HIH.out _ _ HB5.out.drew hB5 HRW.out.drew).mono ?_
                    rintro e w5 ⟨v5, rfl, hr5, hg5⟩
                    go_wp2
                    go_roundw
                    case rel => exact ⟨q + 1, by omega, by go_num, by rw [HS1.out]; exact hr5, HGR.out.trans ((Grew.of_below _ ((Below.refl _ _).drew)).trans hg5)⟩
                    case measure => simp [intOf]; omega
                  · have hqm : q = m := by omega
                    have HO : Hid (dfsL t.nodes f l.length path (nd.es.take q) l1 = dfsL t.nodes f l.length path nd.es l1) := Lib.hid (by rw [hqm, HTK.out])
                    clear hqm
                    go_wp2
                    go_ret
                    exact ⟨_, rfl, by rw [← HO.out]; exact HRW.out, HG3.out.trans HGR.out⟩
      · rw [dfs_out (by omega)]; exact early l id path v W (.inr hp) hll hbel hB0 hrow

end Go.Proofs.YtpicgkoclbpjpaaGreatDoor
end
