/- DERIVED. The walk of the document's own Way. -/
import Derived.Test.YtkmnbbocahjmaaaGreatDoorTreeWay2
import Derived.Test.YtkmnbbocahjmaaaGreatDoorTreeRef2
import Derived.Maps.AppendAt
import Derived.StillTailTactics
namespace Go.Proofs.YtkmnbbocahjmaaaGreatDoor
open Go.RowKit Go.Sort
open PathM TreeM
set_option linter.unusedVariables false

def metCells (it : TreeM.Item) : List Value := [.int .i64 it.id, .string (nm it.path)]
theorem met_cells (l : List TreeM.Item) : ∀ k, k < l.length → (l.flatMap metCells)[k * 2]? = some (.int .i64 (itAt l k).id) ∧ (l.flatMap metCells)[k * 2 + 1]? = some (.string (nm (itAt l k).path)) := by
  induction l with
  | nil => intro k h; simp at h
  | cons a l ih =>
    intro k h
    rw [List.flatMap_cons]
    cases k with
    | zero => simp [metCells, itAt]
    | succ k =>
      have := ih k (by simpa using h)
      rw [show (k + 1) * 2 = k * 2 + 2 from by omega]
      simp only [metCells, itAt] at this ⊢
      simpa using this
theorem row_below {W W' : World} {base : Nat} {e : TypeId} {size : Nat} {v : Value} {k : Nat} {xs : List Value} (h : W.ownsRow base e size v k xs) (hb : Below W.heap.size W W') : W'.ownsRow base e size v k xs := by
  obtain ⟨g1, g2⟩ := h
  refine ⟨g1, g2.imp id ?_⟩
  rintro ⟨g, cap, cur, hv, hg, hh, hr⟩
  exact ⟨g, cap, cur, hv, hg, (hb.block g (Array.getElem?_eq_some_iff.1 hh).1).trans hh, hr⟩
theorem row_cells {W : World} {base : Nat} {e : TypeId} {size g n cap : Nat} {xs : List Value} (h : W.ownsRow base e size (.slice (some ⟨g, 0, none⟩) n cap) n xs) (j : Nat) (u : Value) (hj : xs[j]? = some u) : W.cell? ⟨g, j, none⟩ = some u := by
  rcases h.2 with ⟨h0, _⟩ | ⟨g', cap', cur, hv, _, hh, _, _, _, hx⟩
  · cases h0
  · cases hv
    have hc : cur[j]? = some u := by
      rw [← hx] at hj
      rw [List.getElem?_take] at hj
      split at hj
      · simpa using hj
      · cases hj
    simp [World.cell?, hh, hc]
theorem row_lt {W : World} {base : Nat} {e : TypeId} {size : Nat} {v : Value} {k : Nat} {xs : List Value} (h : W.ownsRow base e size v k xs) {b : Nat} (hb : v.ownBlock = some b) : b < W.heap.size ∧ base ≤ b := by
  rcases h.2 with ⟨rfl, _⟩ | ⟨g, cap, cur, rfl, hg, hh, _⟩
  · cases hb
  · obtain rfl : g = b := by simpa [Value.ownBlock] using hb
    exact ⟨(Array.getElem?_eq_some_iff.1 hh).1, hg⟩

/-- A slice that was appended to, again and again. -/
def Grew (W W' : World) (v v' : Value) : Prop := W.grownBy W' v.ownBlock ∧ (v'.ownBlock = v.ownBlock ∨ ∀ b, v'.ownBlock = some b → W.heap.size ≤ b)
theorem Grew.refl (W : World) (v : Value) : Grew W W v v := ⟨World.grownBy.refl W _, .inl rfl⟩
theorem grown_trans {W W1 W2 : World} {r : Option Nat} (h : W.grownBy W1 r) (h2 : W1.grownBy W2 r) : W.grownBy W2 r :=
  ⟨h2.os.trans h.os, h2.tape.trans h.tape, h2.output.trans h.output, Nat.le_trans h.size h2.size, fun k hk hr => (h2.block k (Nat.lt_of_lt_of_le hk h.size) hr).trans (h.block k hk hr)⟩
theorem Grew.trans {W W1 W2 : World} {v v1 v2 : Value} (h : Grew W W1 v v1) (h2 : Grew W1 W2 v1 v2) : Grew W W2 v v2 := by
  obtain ⟨g1, g2⟩ := h
  obtain ⟨k1, k2⟩ := h2
  refine ⟨⟨k1.os.trans g1.os, k1.tape.trans g1.tape, k1.output.trans g1.output, Nat.le_trans g1.size k1.size, fun k hk hr => (k1.block k (Nat.lt_of_lt_of_le hk g1.size) (fun e => ?_)).trans (g1.block k hk hr)⟩, ?_⟩
  · rcases g2 with g2 | g2
    · exact hr (e.trans g2)
    · have := g2 k e.symm; omega
  · rcases k2 with k2 | k2
    · rcases g2 with g2 | g2
      · exact .inl (k2.trans g2)
      · exact .inr (fun b hb => g2 b (k2 ▸ hb))
    · exact .inr (fun b hb => Nat.le_trans g1.size (k2 b hb))
theorem Grew.of_below {W W' : World} (v : Value) (h : Below W.heap.size W W') : Grew W W' v v := ⟨⟨h.os, h.tape, h.output, h.size, fun k hk _ => h.block k hk⟩, .inl rfl⟩
theorem Grew.below {W W' : World} {v v' : Value} {B : Nat} (h : Grew W W' v v') (hB : B ≤ W.heap.size) (hv : ∀ b, v.ownBlock = some b → B ≤ b) : Below B W W' :=
  ⟨h.1.os, h.1.tape, h.1.output, h.1.size, fun k hk => h.1.block k (by omega) (fun e => by have := hv k e.symm; omega)⟩
theorem Grew.cell {W W' : World} {v v' : Value} (h : Grew W W' v v') {p : Addr} {u : Value} (hc : W.cell? p = some u) (hv : ∀ b, v.ownBlock = some b → b ≠ p.block) : W'.cell? p = some u :=
  h.1.cell hc (fun e => hv _ e.symm rfl)

/-- What Way answers. -/
def RWPost (l' : List TreeM.Item) (base : Nat) (v : Value) (W : World) (e : Ending) (W' : World) : Prop :=
  ∃ v', e = .returned v' ∧ W'.ownsRow base 144 2 v' l'.length (l'.flatMap metCells) ∧ Grew W W' v v'
theorem info81 : (Tryz.prog.info? 144).map (fun i => (i.zero, i.size, i.bytes)) = some (some (.agg #[.int .i64 0, .string ByteArray.empty]), 2, 24) := by kernel_rfl
theorem cells2 (W : World) (t : TypeId) (a b : Value) : ∀ (j : Nat) (u : Value), [a, b][j]? = some u → (W.alloc (.cells #[a, b] t)).cell? ((⟨W.heap.size, 0, none⟩ : Addr).add j) = some u := by
  intro j u hj
  match j, hj with
  | 0, hj => simp at hj; subst hj; simp [Addr.add]
  | 1, hj => simp at hj; subst hj; simp [Addr.add]
theorem one2 (a : Int) (s : ByteArray) : ∀ u ∈ [Value.int .i64 a, Value.string s], u.oneCell' = true := by
  intro u hu
  simp at hu
  rcases hu with rfl | rfl <;> rfl
theorem met_scan {l : List TreeM.Item} {id : Int} (hm : met l id = true) : ∀ k, k < l.length → (∀ j, j < k → (itAt l j).id ≠ id) → (itAt l k).id ≠ id → k < metAt l id := by
  intro k hk hb he
  rcases Nat.lt_trichotomy k (metAt l id) with h | h | h
  · exact h
  · exact absurd (by rw [h]; exact metAt_id hm) he
  · exact absurd (metAt_id hm) (hb _ h)
theorem not_met {l : List TreeM.Item} {id : Int} (h : met l id = false) (k : Nat) (hk : k < l.length) : (itAt l k).id ≠ id := by
  intro e
  have := met_iff.2 ⟨_, itAt_mem hk, e⟩
  rw [h] at this; cases this

theorem grew_append {W w1 w3 : World} {v v' : Value} {tmp : Obj} (hb : Below W.heap.size W w1) (hg : (w1.alloc tmp).grownBy w3 v.ownBlock) (hloc : v'.ownBlock = v.ownBlock ∨ v'.ownBlock = some (w1.alloc tmp).heap.size) : Grew W w3 v v' := by
  refine (Grew.of_below v hb).trans ⟨?_, ?_⟩
  · exact grown_trans (World.grownBy_alloc w1 tmp _) hg
  · rcases hloc with h | h
    · exact .inl h
    · exact .inr (fun b hb => by rw [h] at hb; cases hb; exact Nat.le_of_lt (alloc_lt _ _))
theorem row_next {w3 : World} {base : Nat} {v : Value} {l l1 : List TreeM.Item} {news : List Value} (h1 : l1.length = l.length + 1) (h2 : l1.flatMap metCells = l.flatMap metCells ++ news) (h : w3.ownsRow base 144 2 v (l.length + 1) (l.flatMap metCells ++ news)) :
    w3.ownsRow base 144 2 v l1.length (l1.flatMap metCells) := by rw [h1, h2]; exact h
theorem box_kept {W w1 w3 : World} {B : Nat} {v : Value} {tmp o : Obj} {i : Nat} {u : Value} (hb : Below (W.alloc o).heap.size (W.alloc o) w1) (hg : (w1.alloc tmp).grownBy w3 v.ownBlock) (hv : ∀ b, v.ownBlock = some b → b < W.heap.size ∧ B ≤ b) (h : (W.alloc o).cell? ⟨W.heap.size, i, none⟩ = some u) : w3.cell? ⟨W.heap.size, i, none⟩ = some u :=
  hg.cell (cell_alloc_lt ((hb.cell (p := ⟨W.heap.size, i, none⟩) (alloc_lt _ _)).trans h)) (fun e => by have := (hv _ e.symm).1; simp at this)
theorem block_next {W w1 : World} {B : Nat} {v v' : Value} {tmp : Obj} (hloc : v'.ownBlock = v.ownBlock ∨ v'.ownBlock = some (w1.alloc tmp).heap.size) (hb : Below W.heap.size W w1) (hv : ∀ b, v.ownBlock = some b → b < W.heap.size ∧ B ≤ b) : ∀ b, v'.ownBlock = some b → b ≠ W.heap.size := by
  intro b hbb
  rcases hloc with h | h
  · have := (hv b (h ▸ hbb)).1; omega
  · rw [h] at hbb; cases hbb
    have h1 := hb.size
    have h2 := alloc_lt w1 tmp
    omega

set_option maxRecDepth 100000 in
set_option maxHeartbeats 8000000 in
theorem rway_any (nv : Value) (t : Tr) (B0 : Nat) (W1 : World) (hN : NodesIn W1 B0 nv t.nodes) (hn : t.nodes.length ≤ 512) (hnames : ∀ x ∈ flat t.nodes, x.key.length ≤ 64) :
    ∀ (f : Nat) (l : List TreeM.Item) (id : Int) (fr : Nat) (name path : Bs) (v : Value) (W : World), unmet t.nodes l ≤ f → path.length + f * 65 ≤ 40000 → Below B0 W1 W → B0 ≤ W.heap.size → Wy t.nodes l →
      W.ownsRow B0 144 2 v l.length (l.flatMap metCells) →
      Calls Tryz.prog 70 #[trV nv t, .int .i64 id, .string (nm path), v] W (RWPost (dfs t.nodes f id fr name path l) B0 v W) := by
  intro f
  have early : ∀ (l : List TreeM.Item) (id : Int) (path : Bs) (v : Value) (W : World), (met l id = true ∨ ¬ place t.nodes id < t.nodes.length) → l.length ≤ 512 → Below B0 W1 W → B0 ≤ W.heap.size →
      W.ownsRow B0 144 2 v l.length (l.flatMap metCells) →
      Calls Tryz.prog 70 #[trV nv t, .int .i64 id, .string (nm path), v] W (RWPost l B0 v W) := by
    intro l id path v W hwhy hll hbel hB0 hrow
    have hpl := fun W' (hW : Below W.heap.size W W') => rplace_any nv t id W.heap.size W' (((hN.below hbel).more hB0).below hW) hW.size
    obtain ⟨A, c, rfl⟩ := nodes_len hN
    obtain ⟨va, vc, rfl⟩ := ownsRow_len3 hrow
    have hpi : ¬ place t.nodes id < t.nodes.length → placeI t.nodes id = -1 := fun h => by unfold placeI; rw [if_neg h]
    have HPL := Lib.hid hpl; have HROW := Lib.hid hrow; have HB := Lib.hid hbel; have HW := Lib.hid hwhy; have HPI := Lib.hid hpi
    clear hpl hbel hwhy hpi hnames
    unfold trV RWPost at *
    generalize t.nodes.length = n at *
    generalize t.last = la at *
    generalize t.rn = rn at *
    generalize t.rb = rb at *
    generalize nm path = P at *
    by_cases hl0 : l = []
    · have hno : ¬ place t.nodes id < n := by
        rcases HW.out with h | h
        · rw [hl0] at h; simp [met] at h
        · exact h
      have hpim := HPI.out hno
      have hlt : placeI t.nodes id < 0 := by omega
      have hz : l.length = 0 := by rw [hl0]; rfl
      have HZ := Lib.hid hz
      clear hl0 hno hpim hrow hN
      generalize placeI t.nodes id = pi at *
      have hln : l.length ≤ 0 := by omega
      clear hz
      generalize hlen : l.length = ln at *
      obtain rfl : ln = 0 := by omega
      clear hlen HZ
      go_enter Tryz.func70, Tryz.ntmps70
      go_wp2_with fail
      refine (HPL.out _ ((Below.refl _ _).alloc (Nat.le_refl _) _)).mono ?_
      rintro e w1 ⟨rfl, hb1⟩
      have HB1 := Lib.hid hb1
      have HGW := Lib.hid (((Below.refl W.heap.size W).alloc (Nat.le_refl _) _).trans (hb1.mono (Nat.le_of_lt (alloc_lt _ _))))
      have HR1 := Lib.hid (row_below HROW.out HGW.out)
      clear hb1
      go_wp2
      refine wp_loop_rounds 1 ?_
      rw [rounds_succ]
      go_wp2
      go_ret
      exact ⟨_, rfl, HR1.out, Grew.of_below _ HGW.out⟩
    · have hlpos : 0 < l.length := List.length_pos_iff.2 hl0
      obtain ⟨g, rfl⟩ : ∃ g, va = some ⟨g, 0, none⟩ := by
        rcases hrow.2 with ⟨_, h⟩ | ⟨g, cap, cur, hv, _⟩
        · omega
        · cases hv; exact ⟨g, rfl⟩
      have hmc := met_cells l
      have hsc := fun hm => met_scan (l := l) (id := id) hm
      have hat := fun (hm : met l id = true) => metAt_lt hm
      have hid := fun (hm : met l id = true) => metAt_id hm
      have HMC := Lib.hid hmc; have HSC := Lib.hid hsc; have HAT := Lib.hid hat; have HID := Lib.hid hid
      clear hmc hsc hat hid hl0 hrow hN
      generalize placeI t.nodes id = pi at *
      generalize hlen : l.length = ln at *
      have HLEN := Lib.hid hlen
      clear hlen
      go_enter Tryz.func70, Tryz.ntmps70
      go_wp2_with fail
      refine (HPL.out _ ((Below.refl _ _).alloc (Nat.le_refl _) _)).mono ?_
      rintro e w1 ⟨rfl, hb1⟩
      have HB1 := Lib.hid hb1
      have HGW := Lib.hid (((Below.refl W.heap.size W).alloc (Nat.le_refl _) _).trans (hb1.mono (Nat.le_of_lt (alloc_lt _ _))))
      have HR1 := Lib.hid (row_below HROW.out HGW.out)
      clear hb1
      go_wp2
      go_loop [10] (fun i => ∃ k : Nat, k ≤ ln ∧ i = .int .i64 k ∧ Hid (∀ j, j < k → (itAt l j).id ≠ id)) (fun i => ln - (intOf i).toNat)
      case atStart => exact ⟨0, by omega, rfl, Lib.hid (fun j hj => absurd hj (Nat.not_lt_zero _))⟩
      case round =>
        obtain ⟨k, hk, rfl, HT⟩ := hrel
        by_cases hlt : k < ln
        · have m0 : w1.cell? ⟨g, k * 2, none⟩ = some (.int .i64 (itAt l k).id) := row_cells HR1.out _ _ (HMC.out k hlt).1
          have hki : (k : Int) < (ln : Int) := by omega
          by_cases he : (itAt l k).id = id
          · have q1 : ((itAt l k).id == id) = true := by simpa using he
            clear he
            generalize (itAt l k).id = x at *
            go_wp2
            go_ret
            exact ⟨_, rfl, HR1.out, Grew.of_below _ HGW.out⟩
          · have q1 : ((itAt l k).id == id) = false := by simpa using he
            have HO : Hid (∀ j, j < k + 1 → (itAt l j).id ≠ id) := Lib.hid (fun j hj => by
              by_cases e : j = k
              · subst e; exact he
              · exact HT.out j (by omega))
            clear he
            generalize (itAt l k).id = x at m0 q1
            go_wp2
            go_round
            case rel => exact ⟨k + 1, by omega, by go_num, HO⟩
            case measure => simp [intOf]; omega
        · have hnm : ¬ met l id = true := fun h => HT.out _ (by have := HAT.out h; omega) (HID.out h)
          have hpim := HPI.out (HW.out.resolve_left hnm)
          have hlt2 : pi < 0 := by omega
          clear hnm hpim
          go_wp2
          go_ret
          exact ⟨_, rfl, HR1.out, Grew.of_below _ HGW.out⟩
  induction f with
  | zero =>
    intro l id fr name path v W hu hpa hbel hB0 hwy hrow
    have hll : l.length ≤ 512 := by have := hwy.len; omega
    refine early l id path v W ?_ hll hbel hB0 hrow
    by_cases hp : place t.nodes id < t.nodes.length
    · exact .inl (unmet_zero (by omega) hp)
    · exact .inr hp
  | succ f ih =>
    intro l id fr name path v W hu hpa hbel hB0 hwy hrow
    have hll : l.length ≤ 512 := by have := hwy.len; omega
    cases hm : met l id with
    | true => rw [dfs_met hm]; exact early l id path v W (.inl hm) hll hbel hB0 hrow
    | false =>
      by_cases hp : place t.nodes id < t.nodes.length
      · clear early
        rw [dfs_new hm hp]
        have hub := unmet_add (it := ⟨place t.nodes id, fr, name, id, path⟩) hm hp
        have hwy1 := hwy.add (it := ⟨place t.nodes id, fr, name, id, path⟩) hm hp rfl
        have hlen1 := hwy1.len
        have hcs : (l ++ [(⟨place t.nodes id, fr, name, id, path⟩ : TreeM.Item)]).flatMap metCells = l.flatMap metCells ++ [.int .i64 id, .string (nm path)] := by simp [metCells]
        have hll1 : (l ++ [(⟨place t.nodes id, fr, name, id, path⟩ : TreeM.Item)]).length = l.length + 1 := by simp
        generalize (l ++ [(⟨place t.nodes id, fr, name, id, path⟩ : TreeM.Item)]) = l1 at *
        have hpl := fun W' (hW : Below W.heap.size W W') => rplace_any nv t id W.heap.size W' (((hN.below hbel).more hB0).below hW) hW.size
        have hpi : placeI t.nodes id = (place t.nodes id : Int) := by unfold placeI; rw [if_pos hp]
        rw [hpi] at hpl
        obtain ⟨_, ⟨A, c, rfl, h0⟩ | ⟨b, off, c, rfl, hcap, hb, hpos, hcells⟩⟩ := hN.cases
        · rw [h0] at hp; simp [place] at hp
        obtain ⟨ev, n6, hE⟩ := (hcells _ hp).2.2.2.2.2.2.2
        have hkeys : ∀ x ∈ (ndAt t.nodes (place t.nodes id)).es, x.key.length ≤ 64 := fun x hx => hnames x (flat_mem.2 ⟨_, hp, hx⟩)
        have hpi2 : (place t.nodes id : Int) < (t.nodes.length : Int) := by omega
        obtain ⟨va, vc, rfl⟩ := ownsRow_len3 hrow
        have hvb := fun b hb => row_lt hrow (b := b) hb
        have hnm := not_met hm
        generalize place t.nodes id = p at *
        generalize ndAt t.nodes p = nd at *
        have HPL := Lib.hid hpl; have HROW := Lib.hid hrow; have HB := Lib.hid hbel; have HCS := Lib.hid hcs; have HLL1 := Lib.hid hll1; have HUB := Lib.hid hub; have HWY1 := Lib.hid hwy1; have IH := Lib.hid ih; have HK := Lib.hid hkeys; have HVB := Lib.hid hvb; have HNM := Lib.hid hnm
        clear hpl hrow hbel hcs hll1 hub hwy1 ih hkeys hvb hnm hnames hpi hN hcells hm hwy
        unfold trV RWPost at *
        generalize t.nodes.length = n at *
        generalize t.last = la at *
        generalize t.rn = rn at *
        generalize t.rb = rb at *
        obtain ⟨i0, hi, hz0, hz1, hz2⟩ := info_parts info81
        have HI := Lib.hid hi; have HZ0 := Lib.hid hz0; have HZ1 := Lib.hid hz1; have HZ2 := Lib.hid hz2
        clear hi hz0 hz1 hz2
        obtain ⟨hml, hxr, ⟨Ae, ce, rfl, he0⟩ | ⟨eb, eo, ce, rfl, hecap, heb, hepos, hec⟩⟩ := hE.cases
        · rw [he0]
          clear hE hxr hml he0 IH HK
          by_cases hl0 : l = []
          · have hz : l.length = 0 := by rw [hl0]; rfl
            have hln : l.length ≤ 0 := by omega
            have HZL := Lib.hid hz
            clear hl0 hz
            go_enter Tryz.func70, Tryz.ntmps70
            go_wp2_with fail
            refine (HPL.out _ ((Below.refl _ _).alloc (Nat.le_refl _) _)).mono ?_
            rintro e w1 ⟨rfl, hb1⟩
            have HB1 := Lib.hid hb1
            have HGW := Lib.hid (((Below.refl W.heap.size W).alloc (Nat.le_refl _) _).trans (hb1.mono (Nat.le_of_lt (alloc_lt _ _))))
            have HR1 := Lib.hid (row_below HROW.out HGW.out)
            clear hb1
            go_wp2
            have hB1 : B0 ≤ w1.heap.size := by have := HGW.out.size; omega
            refine wp_loop_rounds 1 ?_
            rw [rounds_succ]
            go_wp2_with (at_builtin; refine wpList_append_own_at _ rfl _ _ 123 rfl B0 144 i0 (.agg #[.int .i64 0, .string ByteArray.empty]) 2 24 Tryz.underlying123 HI.out HZ0.out HZ1.out HZ2.out rfl (by decide) _ _ _ rfl (HR1.out.alloc _) ⟨w1.heap.size, 0, none⟩ 1 1 [.int .i64 id, .string (nm path)] rfl rfl (cells2 _ _ _ _) (one2 _ _) (maxLen_ok (by omega)) (by omega) (Nat.le_trans hB1 (Nat.le_of_lt (alloc_lt _ _))) ?_; intro v' w3 hown' hgrow _ hloc; obtain ⟨g', cap', rfl⟩ := ownsRow_succ hown'; have HG3 := Lib.hid (grew_append HGW.out hgrow hloc); have HR3 := Lib.hid (row_next HLL1.out HCS.out hown'); have z0 : w3.cell? ⟨W.heap.size, 0, none⟩ = some (.slice (some ⟨b, off, none⟩) n c) := box_kept HB1.out hgrow HVB.out (i := 0) (by simp); have z1 : w3.cell? ⟨W.heap.size, 1, none⟩ = some (.int .i64 la) := box_kept HB1.out hgrow HVB.out (i := 1) (by simp); have z2 : w3.cell? ⟨W.heap.size, 2, none⟩ = some (.int .i64 rn) := box_kept HB1.out hgrow HVB.out (i := 2) (by simp); have z3 : w3.cell? ⟨W.heap.size, 3, none⟩ = some (.int .i64 rb) := box_kept HB1.out hgrow HVB.out (i := 3) (by simp); have HV3 := Lib.hid (block_next hloc HGW.out HVB.out); have HB3 := Lib.hid (HB.out.trans (HG3.out.below hB0 (fun b hb => (HVB.out b hb).2))); have z6 := (HB3.out.cell (p := ⟨b, off + p * 7 + 6, none⟩) hb).trans n6; clear hown' hgrow hloc)
            refine wp_loop_rounds 1 ?_
            rw [rounds_succ]
            go_wp2
            go_ret
            exact ⟨_, rfl, HR3.out, HG3.out⟩
          · have hlpos : 0 < l.length := List.length_pos_iff.2 hl0
            obtain ⟨g, rfl⟩ : ∃ g, va = some ⟨g, 0, none⟩ := by
              rcases HROW.out.2 with ⟨_, h⟩ | ⟨g, cap, cur, hv, _⟩
              · omega
              · cases hv; exact ⟨g, rfl⟩
            have HMC := Lib.hid (met_cells l)
            clear hl0
            go_enter Tryz.func70, Tryz.ntmps70
            go_wp2_with fail
            refine (HPL.out _ ((Below.refl _ _).alloc (Nat.le_refl _) _)).mono ?_
            rintro e w1 ⟨rfl, hb1⟩
            have HB1 := Lib.hid hb1
            have HGW := Lib.hid (((Below.refl W.heap.size W).alloc (Nat.le_refl _) _).trans (hb1.mono (Nat.le_of_lt (alloc_lt _ _))))
            have HR1 := Lib.hid (row_below HROW.out HGW.out)
            clear hb1
            go_wp2
            have hB1 : B0 ≤ w1.heap.size := by have := HGW.out.size; omega
            go_loop [10] (fun i => ∃ k : Nat, k ≤ l.length ∧ i = .int .i64 k) (fun i => l.length - (intOf i).toNat)
            case atStart => exact ⟨0, by omega, rfl⟩
            case round =>
              obtain ⟨k, hk, rfl⟩ := hrel
              by_cases hlt : k < l.length
              · have m0 : w1.cell? ⟨g, k * 2, none⟩ = some (.int .i64 (itAt l k).id) := row_cells HR1.out _ _ (HMC.out k hlt).1
                have hki : (k : Int) < (l.length : Int) := by omega
                have q1 : ((itAt l k).id == id) = false := beq_eq_false_iff_ne.2 (HNM.out k hlt)
                generalize (itAt l k).id = x at m0 q1
                go_wp2
                go_round
                case rel => exact ⟨k + 1, by omega, by go_num⟩
                case measure => simp [intOf]; omega
              · go_wp2_with (at_builtin; refine wpList_append_own_at _ rfl _ _ 123 rfl B0 144 i0 (.agg #[.int .i64 0, .string ByteArray.empty]) 2 24 Tryz.underlying123 HI.out HZ0.out HZ1.out HZ2.out rfl (by decide) _ _ _ rfl (HR1.out.alloc _) ⟨w1.heap.size, 0, none⟩ 1 1 [.int .i64 id, .string (nm path)] rfl rfl (cells2 _ _ _ _) (one2 _ _) (maxLen_ok (by omega)) (by omega) (Nat.le_trans hB1 (Nat.le_of_lt (alloc_lt _ _))) ?_; intro v' w3 hown' hgrow _ hloc; obtain ⟨g', cap', rfl⟩ := ownsRow_succ hown'; have HG3 := Lib.hid (grew_append HGW.out hgrow hloc); have HR3 := Lib.hid (row_next HLL1.out HCS.out hown'); have z0 : w3.cell? ⟨W.heap.size, 0, none⟩ = some (.slice (some ⟨b, off, none⟩) n c) := box_kept HB1.out hgrow HVB.out (i := 0) (by simp); have z1 : w3.cell? ⟨W.heap.size, 1, none⟩ = some (.int .i64 la) := box_kept HB1.out hgrow HVB.out (i := 1) (by simp); have z2 : w3.cell? ⟨W.heap.size, 2, none⟩ = some (.int .i64 rn) := box_kept HB1.out hgrow HVB.out (i := 2) (by simp); have z3 : w3.cell? ⟨W.heap.size, 3, none⟩ = some (.int .i64 rb) := box_kept HB1.out hgrow HVB.out (i := 3) (by simp); have HV3 := Lib.hid (block_next hloc HGW.out HVB.out); have HB3 := Lib.hid (HB.out.trans (HG3.out.below hB0 (fun b hb => (HVB.out b hb).2))); have z6 := (HB3.out.cell (p := ⟨b, off + p * 7 + 6, none⟩) hb).trans n6; clear hown' hgrow hloc)
                refine wp_loop_rounds 1 ?_
                rw [rounds_succ]
                go_wp2
                go_ret
                exact ⟨_, rfl, HR3.out, HG3.out⟩
        · have hmem : ∀ q, q < nd.es.length → entAt nd.es q ∈ nd.es := fun q hq => entAt_mem hq
          have htk : nd.es.take nd.es.length = nd.es := List.take_length
          have hstep : ∀ q, q < nd.es.length → dfsL t.nodes f l.length path (nd.es.take (q + 1)) l1 = dfs t.nodes f (entAt nd.es q).to l.length (entAt nd.es q).key (joinL path (entAt nd.es q).key) (dfsL t.nodes f l.length path (nd.es.take q) l1) := fun q hq => dfsL_take hq
          generalize hm : nd.es.length = m at *
          have HTK := Lib.hid htk; have HST := Lib.hid hstep; have HMEM := Lib.hid hmem; have HEC := Lib.hid hec
          clear htk hstep hmem hxr hec hm hE
          by_cases hl0 : l = []
          · have hz : l.length = 0 := by rw [hl0]; rfl
            have hln : l.length ≤ 0 := by omega
            have HZL := Lib.hid hz
            clear hl0 hz
            go_enter Tryz.func70, Tryz.ntmps70
            go_wp2_with fail
            refine (HPL.out _ ((Below.refl _ _).alloc (Nat.le_refl _) _)).mono ?_
            rintro e w1 ⟨rfl, hb1⟩
            have HB1 := Lib.hid hb1
            have HGW := Lib.hid (((Below.refl W.heap.size W).alloc (Nat.le_refl _) _).trans (hb1.mono (Nat.le_of_lt (alloc_lt _ _))))
            have HR1 := Lib.hid (row_below HROW.out HGW.out)
            clear hb1
            go_wp2
            have hB1 : B0 ≤ w1.heap.size := by have := HGW.out.size; omega
            refine wp_loop_rounds 1 ?_
            rw [rounds_succ]
            go_wp2_with (at_builtin; refine wpList_append_own_at _ rfl _ _ 123 rfl B0 144 i0 (.agg #[.int .i64 0, .string ByteArray.empty]) 2 24 Tryz.underlying123 HI.out HZ0.out HZ1.out HZ2.out rfl (by decide) _ _ _ rfl (HR1.out.alloc _) ⟨w1.heap.size, 0, none⟩ 1 1 [.int .i64 id, .string (nm path)] rfl rfl (cells2 _ _ _ _) (one2 _ _) (maxLen_ok (by omega)) (by omega) (Nat.le_trans hB1 (Nat.le_of_lt (alloc_lt _ _))) ?_; intro v' w3 hown' hgrow _ hloc; obtain ⟨g', cap', rfl⟩ := ownsRow_succ hown'; have HG3 := Lib.hid (grew_append HGW.out hgrow hloc); have HR3 := Lib.hid (row_next HLL1.out HCS.out hown'); have z0 : w3.cell? ⟨W.heap.size, 0, none⟩ = some (.slice (some ⟨b, off, none⟩) n c) := box_kept HB1.out hgrow HVB.out (i := 0) (by simp); have z1 : w3.cell? ⟨W.heap.size, 1, none⟩ = some (.int .i64 la) := box_kept HB1.out hgrow HVB.out (i := 1) (by simp); have z2 : w3.cell? ⟨W.heap.size, 2, none⟩ = some (.int .i64 rn) := box_kept HB1.out hgrow HVB.out (i := 2) (by simp); have z3 : w3.cell? ⟨W.heap.size, 3, none⟩ = some (.int .i64 rb) := box_kept HB1.out hgrow HVB.out (i := 3) (by simp); have HV3 := Lib.hid (block_next hloc HGW.out HVB.out); have HB3 := Lib.hid (HB.out.trans (HG3.out.below hB0 (fun b hb => (HVB.out b hb).2))); have z6 := (HB3.out.cell (p := ⟨b, off + p * 7 + 6, none⟩) hb).trans n6; clear hown' hgrow hloc)
            go_loopw [3, 11] (fun v5 i wr => ∃ q : Nat, q ≤ m ∧ i = .int .i64 q ∧ wr.ownsRow B0 144 2 v5 (dfsL t.nodes f l.length path (nd.es.take q) l1).length ((dfsL t.nodes f l.length path (nd.es.take q) l1).flatMap metCells) ∧ Grew w3 wr (.slice (some ⟨g', 0, none⟩) (l.length + 1) cap') v5) (fun _ i _ => m - (intOf i).toNat)
            case atStart => exact ⟨0, by omega, rfl, HR3.out, Grew.refl _ _⟩
            case round =>
              obtain ⟨q, hq, rfl, hrw, hgr⟩ := hrel
              obtain ⟨va5, vc5, rfl⟩ := ownsRow_len3 hrw
              have y0 := hgr.cell z0 HV3.out
              have y1 := hgr.cell z1 HV3.out
              have y2 := hgr.cell z2 HV3.out
              have y3 := hgr.cell z3 HV3.out
              have hb5 := HB3.out.trans (hgr.below (B := B0) (Nat.le_trans hB0 HG3.out.1.size) (fun b hb => (row_lt HR3.out hb).2))
              have y6 := (hb5.cell (p := ⟨b, off + p * 7 + 6, none⟩) hb).trans n6
              have hB5 : B0 ≤ wr.heap.size := Nat.le_trans hB0 (Nat.le_trans HG3.out.1.size hgr.1.size)
              have HRW := Lib.hid hrw; have HGR := Lib.hid hgr; have HB5 := Lib.hid hb5
              clear hrw hgr hb5
              by_cases hqt : q < m
              · obtain ⟨ec0, ec1⟩ := HEC.out q hqt
                have d0 : wr.cell? ⟨eb, eo + q * 2, none⟩ = some (.string (nm (entAt nd.es q).key)) := (HB5.out.cell (p := ⟨eb, eo + q * 2, none⟩) heb).trans ec0
                have d1 : wr.cell? ⟨eb, eo + q * 2 + 1, none⟩ = some (.int .i64 (entAt nd.es q).to) := (HB5.out.cell (p := ⟨eb, eo + q * 2 + 1, none⟩) heb).trans ec1
                have hqq : (q : Int) < (m : Int) := by omega
                have HS1 := Lib.hid (HST.out q hqt)
                have hun : unmet t.nodes (dfsL t.nodes f l.length path (nd.es.take q) l1) ≤ f := Nat.le_trans (unmet_mono _ (dfsL_prefix _ _ _ _ _ _)) (by have := HUB.out; omega)
                have hwy5 : Wy t.nodes (dfsL t.nodes f l.length path (nd.es.take q) l1) := dfsL_keeps (fun a b => Wy t.nodes a → Wy t.nodes b) (fun _ h => h) (fun _ _ _ h1 h2 h => h2 (h1 h)) (fun l it hm hp hn h => h.add hm hp hn) f l.length path _ l1 HWY1.out
                have hkl := HK.out _ (HMEM.out q hqt)
                have hjl : (joinL path (entAt nd.es q).key).length ≤ path.length + 65 := by
                  unfold joinL
                  have := bare_len path
                  simp only [List.length_append, List.length_cons]
                  omega
                have HIH := Lib.hid (fun W v hW hBW hr => IH.out (dfsL t.nodes f l.length path (nd.es.take q) l1) (entAt nd.es q).to l.length (entAt nd.es q).key (joinL path (entAt nd.es q).key) v W hun (by omega) hW hBW hwy5 hr)
                have HJ : Hid (∀ W, Calls Tryz.prog 92 #[.string (nm path), .string (nm (entAt nd.es q).key)] W fun e w' => e = .returned (.string (nm (joinL path (entAt nd.es q).key))) ∧ w' = W) :=
                  Lib.hid (fun W => (rjoin_any (nm path) (nm (entAt nd.es q).key) W (by rw [nm_size, nm_size]; unfold maxLen; omega)).mono fun _ _ ⟨h1, h2⟩ => ⟨h1, h2.symm⟩)
                clear ec0 ec1 hun hwy5 hkl hjl
                generalize joinL path (entAt nd.es q).key = J at *
                generalize entAt nd.es q = x at *
                go_wp2
                refine wp_region_still_tail 24 (by kernel_rfl) (by kernel_rfl) ?_
                simp only [List.take_succ_cons, List.take_zero, List.drop_succ_cons, List.drop_zero]
                repeat still_step
                still_call (HJ.out _)
                repeat still_step
                refine wpStill_nil ?_
                change wpList _ _ _ _ _ wr.drew
                go_wp2_with fail
                refine (HIH.out _ _ HB5.out.drew hB5 HRW.out.drew).mono ?_
                rintro e w5 ⟨v5, rfl, hr5, hg5⟩
                go_wp2
                go_roundw
                case rel => exact ⟨q + 1, by omega, by go_num, by rw [HS1.out]; exact hr5, HGR.out.trans ((Grew.of_below _ ((Below.refl _ _).drew)).trans hg5)⟩
                case measure => simp [intOf]; omega
              · have hqm : q = m := by omega
                have HO : Hid (dfsL t.nodes f l.length path (nd.es.take q) l1 = dfsL t.nodes f l.length path nd.es l1) := Lib.hid (by rw [hqm, HTK.out])
                clear hqm
                go_wp2
                go_ret
                exact ⟨_, rfl, by rw [← HO.out]; exact HRW.out, HG3.out.trans HGR.out⟩
          · have hlpos : 0 < l.length := List.length_pos_iff.2 hl0
            obtain ⟨g, rfl⟩ : ∃ g, va = some ⟨g, 0, none⟩ := by
              rcases HROW.out.2 with ⟨_, h⟩ | ⟨g, cap, cur, hv, _⟩
              · omega
              · cases hv; exact ⟨g, rfl⟩
            have HMC := Lib.hid (met_cells l)
            clear hl0
            go_enter Tryz.func70, Tryz.ntmps70
            go_wp2_with fail
            refine (HPL.out _ ((Below.refl _ _).alloc (Nat.le_refl _) _)).mono ?_
            rintro e w1 ⟨rfl, hb1⟩
            have HB1 := Lib.hid hb1
            have HGW := Lib.hid (((Below.refl W.heap.size W).alloc (Nat.le_refl _) _).trans (hb1.mono (Nat.le_of_lt (alloc_lt _ _))))
            have HR1 := Lib.hid (row_below HROW.out HGW.out)
            clear hb1
            go_wp2
            have hB1 : B0 ≤ w1.heap.size := by have := HGW.out.size; omega
            go_loop [10] (fun i => ∃ k : Nat, k ≤ l.length ∧ i = .int .i64 k) (fun i => l.length - (intOf i).toNat)
            case atStart => exact ⟨0, by omega, rfl⟩
            case round =>
              obtain ⟨k, hk, rfl⟩ := hrel
              by_cases hlt : k < l.length
              · have m0 : w1.cell? ⟨g, k * 2, none⟩ = some (.int .i64 (itAt l k).id) := row_cells HR1.out _ _ (HMC.out k hlt).1
                have hki : (k : Int) < (l.length : Int) := by omega
                have q1 : ((itAt l k).id == id) = false := beq_eq_false_iff_ne.2 (HNM.out k hlt)
                generalize (itAt l k).id = x at m0 q1
                go_wp2
                go_round
                case rel => exact ⟨k + 1, by omega, by go_num⟩
                case measure => simp [intOf]; omega
              · go_wp2_with (at_builtin; refine wpList_append_own_at _ rfl _ _ 123 rfl B0 144 i0 (.agg #[.int .i64 0, .string ByteArray.empty]) 2 24 Tryz.underlying123 HI.out HZ0.out HZ1.out HZ2.out rfl (by decide) _ _ _ rfl (HR1.out.alloc _) ⟨w1.heap.size, 0, none⟩ 1 1 [.int .i64 id, .string (nm path)] rfl rfl (cells2 _ _ _ _) (one2 _ _) (maxLen_ok (by omega)) (by omega) (Nat.le_trans hB1 (Nat.le_of_lt (alloc_lt _ _))) ?_; intro v' w3 hown' hgrow _ hloc; obtain ⟨g', cap', rfl⟩ := ownsRow_succ hown'; have HG3 := Lib.hid (grew_append HGW.out hgrow hloc); have HR3 := Lib.hid (row_next HLL1.out HCS.out hown'); have z0 : w3.cell? ⟨W.heap.size, 0, none⟩ = some (.slice (some ⟨b, off, none⟩) n c) := box_kept HB1.out hgrow HVB.out (i := 0) (by simp); have z1 : w3.cell? ⟨W.heap.size, 1, none⟩ = some (.int .i64 la) := box_kept HB1.out hgrow HVB.out (i := 1) (by simp); have z2 : w3.cell? ⟨W.heap.size, 2, none⟩ = some (.int .i64 rn) := box_kept HB1.out hgrow HVB.out (i := 2) (by simp); have z3 : w3.cell? ⟨W.heap.size, 3, none⟩ = some (.int .i64 rb) := box_kept HB1.out hgrow HVB.out (i := 3) (by simp); have HV3 := Lib.hid (block_next hloc HGW.out HVB.out); have HB3 := Lib.hid (HB.out.trans (HG3.out.below hB0 (fun b hb => (HVB.out b hb).2))); have z6 := (HB3.out.cell (p := ⟨b, off + p * 7 + 6, none⟩) hb).trans n6; clear hown' hgrow hloc)
                go_loopw [3, 11] (fun v5 i wr => ∃ q : Nat, q ≤ m ∧ i = .int .i64 q ∧ wr.ownsRow B0 144 2 v5 (dfsL t.nodes f l.length path (nd.es.take q) l1).length ((dfsL t.nodes f l.length path (nd.es.take q) l1).flatMap metCells) ∧ Grew w3 wr (.slice (some ⟨g', 0, none⟩) (l.length + 1) cap') v5) (fun _ i _ => m - (intOf i).toNat)
                case atStart => exact ⟨0, by omega, rfl, HR3.out, Grew.refl _ _⟩
                case round =>
                  obtain ⟨q, hq, rfl, hrw, hgr⟩ := hrel
                  obtain ⟨va5, vc5, rfl⟩ := ownsRow_len3 hrw
                  have y0 := hgr.cell z0 HV3.out
                  have y1 := hgr.cell z1 HV3.out
                  have y2 := hgr.cell z2 HV3.out
                  have y3 := hgr.cell z3 HV3.out
                  have hb5 := HB3.out.trans (hgr.below (B := B0) (Nat.le_trans hB0 HG3.out.1.size) (fun b hb => (row_lt HR3.out hb).2))
                  have y6 := (hb5.cell (p := ⟨b, off + p * 7 + 6, none⟩) hb).trans n6
                  have hB5 : B0 ≤ wr.heap.size := Nat.le_trans hB0 (Nat.le_trans HG3.out.1.size hgr.1.size)
                  have HRW := Lib.hid hrw; have HGR := Lib.hid hgr; have HB5 := Lib.hid hb5
                  clear hrw hgr hb5
                  by_cases hqt : q < m
                  · obtain ⟨ec0, ec1⟩ := HEC.out q hqt
                    have d0 : wr.cell? ⟨eb, eo + q * 2, none⟩ = some (.string (nm (entAt nd.es q).key)) := (HB5.out.cell (p := ⟨eb, eo + q * 2, none⟩) heb).trans ec0
                    have d1 : wr.cell? ⟨eb, eo + q * 2 + 1, none⟩ = some (.int .i64 (entAt nd.es q).to) := (HB5.out.cell (p := ⟨eb, eo + q * 2 + 1, none⟩) heb).trans ec1
                    have hqq : (q : Int) < (m : Int) := by omega
                    have HS1 := Lib.hid (HST.out q hqt)
                    have hun : unmet t.nodes (dfsL t.nodes f l.length path (nd.es.take q) l1) ≤ f := Nat.le_trans (unmet_mono _ (dfsL_prefix _ _ _ _ _ _)) (by have := HUB.out; omega)
                    have hwy5 : Wy t.nodes (dfsL t.nodes f l.length path (nd.es.take q) l1) := dfsL_keeps (fun a b => Wy t.nodes a → Wy t.nodes b) (fun _ h => h) (fun _ _ _ h1 h2 h => h2 (h1 h)) (fun l it hm hp hn h => h.add hm hp hn) f l.length path _ l1 HWY1.out
                    have hkl := HK.out _ (HMEM.out q hqt)
                    have hjl : (joinL path (entAt nd.es q).key).length ≤ path.length + 65 := by
                      unfold joinL
                      have := bare_len path
                      simp only [List.length_append, List.length_cons]
                      omega
                    have HIH := Lib.hid (fun W v hW hBW hr => IH.out (dfsL t.nodes f l.length path (nd.es.take q) l1) (entAt nd.es q).to l.length (entAt nd.es q).key (joinL path (entAt nd.es q).key) v W hun (by omega) hW hBW hwy5 hr)
                    have HJ : Hid (∀ W, Calls Tryz.prog 92 #[.string (nm path), .string (nm (entAt nd.es q).key)] W fun e w' => e = .returned (.string (nm (joinL path (entAt nd.es q).key))) ∧ w' = W) :=
                      Lib.hid (fun W => (rjoin_any (nm path) (nm (entAt nd.es q).key) W (by rw [nm_size, nm_size]; unfold maxLen; omega)).mono fun _ _ ⟨h1, h2⟩ => ⟨h1, h2.symm⟩)
                    clear ec0 ec1 hun hwy5 hkl hjl
                    generalize joinL path (entAt nd.es q).key = J at *
                    generalize entAt nd.es q = x at *
                    go_wp2
                    refine wp_region_still_tail 24 (by kernel_rfl) (by kernel_rfl) ?_
                    simp only [List.take_succ_cons, List.take_zero, List.drop_succ_cons, List.drop_zero]
                    repeat still_step
                    still_call (HJ.out _)
                    repeat still_step
                    refine wpStill_nil ?_
                    change wpList _ _ _ _ _ wr.drew
                    go_wp2_with fail
                    refine (HIH.out _ _ HB5.out.drew hB5 HRW.out.drew).mono ?_
                    rintro e w5 ⟨v5, rfl, hr5, hg5⟩
                    go_wp2
                    go_roundw
                    case rel => exact ⟨q + 1, by omega, by go_num, by rw [HS1.out]; exact hr5, HGR.out.trans ((Grew.of_below _ ((Below.refl _ _).drew)).trans hg5)⟩
                    case measure => simp [intOf]; omega
                  · have hqm : q = m := by omega
                    have HO : Hid (dfsL t.nodes f l.length path (nd.es.take q) l1 = dfsL t.nodes f l.length path nd.es l1) := Lib.hid (by rw [hqm, HTK.out])
                    clear hqm
                    go_wp2
                    go_ret
                    exact ⟨_, rfl, by rw [← HO.out]; exact HRW.out, HG3.out.trans HGR.out⟩
      · rw [dfs_out (by omega)]; exact early l id path v W (.inr hp) hll hbel hB0 hrow

end Go.Proofs.YtkmnbbocahjmaaaGreatDoor
