/- DERIVED. The walk of led of package tree. -/
import Derived.Test.YtkmnbbocahjmaaaGreatDoorTreeMap
import Derived.RangeFuncBox
import Derived.RangeFuncNested
namespace Go.Proofs.YtkmnbbocahjmaaaGreatDoor
open Go.RowKit Go.Sort
open PathM TreeM
set_option linter.unusedVariables false

/-- The entries of all nodes below k, and of the next one's the first q. -/
def preE (l : List Nd) (k q : Nat) : List Ent := flat (l.take k) ++ (ndAt l k).es.take q
theorem pre_cnt (l : List Nd) (id : Int) (k q : Nat) : (preE l k q).countP (fun x => x.to == id) = cntTo l id k q := rfl
theorem pre_step {l : List Nd} {k q : Nat} (h : q < (ndAt l k).es.length) : preE l k (q + 1) = preE l k q ++ [entAt (ndAt l k).es q] := by
  have e : entAt (ndAt l k).es q = (ndAt l k).es[q] := by simp [entAt, h]
  unfold preE
  rw [List.take_succ_eq_append_getElem h, ← List.append_assoc, e]
theorem pre_next {l : List Nd} {k : Nat} (h : k < l.length) : preE l (k + 1) 0 = preE l k (ndAt l k).es.length := by
  unfold preE; rw [flat_take_succ l k h]; simp
theorem pre_end (l : List Nd) : preE l l.length 0 = flat l := by unfold preE; rw [List.take_length]; simp
theorem pre_len {l : List Nd} {k q : Nat} (hk : k < l.length) : (preE l k q).length ≤ (flat l).length := by
  unfold preE
  have h1 : flat l = flat (l.take (k + 1)) ++ flat (l.drop (k + 1)) := by unfold flat; rw [← List.flatMap_append, List.take_append_drop]
  rw [h1, flat_take_succ l k hk]
  simp only [List.length_append, List.length_take]
  omega
def OkP (l : List Nd) (P : List Ent) : Prop := ∀ y ∈ P, place l y.to < l.length ∧ y.to ≠ 1 ∧ ((ndAt l (place l y.to)).kind = 1 → P.countP (fun z => z.to == y.to) ≤ 1)
theorem OkP.snoc {l : List Nd} {P : List Ent} {x : Ent} (h : OkP l P) (h1 : place l x.to < l.length) (h2 : x.to ≠ 1) (h3 : (ndAt l (place l x.to)).kind = 1 → (P ++ [x]).countP (fun z => z.to == x.to) ≤ 1) : OkP l (P ++ [x]) := by
  intro y hy
  rcases List.mem_append.1 hy with hy | hy
  · obtain ⟨g1, g2, g3⟩ := h y hy
    refine ⟨g1, g2, fun hk => ?_⟩
    by_cases e : y.to = x.to
    · rw [e] at hk ⊢; exact h3 hk
    · have : (x.to == y.to) = false := by simpa using fun h => e h.symm
      rw [List.countP_append]; simp [this]; exact g3 hk
  · obtain rfl := List.mem_singleton.1 hy
    exact ⟨h1, h2, h3⟩
theorem OkP.all {l : List Nd} (h : OkP l (flat l)) : ledB l = true := by
  refine List.all_eq_true.2 (fun x hx => ?_)
  obtain ⟨h1, h2, h3⟩ := h x hx
  simp only [okLed, Bool.and_eq_true, decide_eq_true_eq, bne_iff_ne, Bool.or_eq_true]
  refine ⟨⟨h1, h2⟩, ?_⟩
  by_cases e : (ndAt l (place l x.to)).kind = 1
  · exact .inr (h3 e)
  · exact .inl e
theorem led_fail {l : List Nd} {x : Ent} (hx : x ∈ flat l) (h : ¬ (place l x.to < l.length ∧ x.to ≠ 1 ∧ ((ndAt l (place l x.to)).kind = 1 → links l x.to ≤ 1))) : ledB l = false := by
  cases e : ledB l with
  | false => rfl
  | true => exact absurd (led_mem e hx) h
theorem cnt_links {l : List Nd} {id : Int} {k q : Nat} (hk : k < l.length) : cntTo l id k q ≤ links l id := by
  have h1 : flat l = flat (l.take (k + 1)) ++ flat (l.drop (k + 1)) := by unfold flat; rw [← List.flatMap_append, List.take_append_drop]
  unfold cntTo links
  rw [h1, flat_take_succ l k hk, List.countP_append, List.countP_append, List.countP_append]
  have : ((ndAt l k).es.take q).countP (fun x => x.to == id) ≤ (ndAt l k).es.countP (fun x => x.to == id) := (List.take_sublist _ _).countP_le
  omega

/-- What the map holds: how often each number came. -/
def cntF (l : List Nd) (k q : Nat) (id : Int) : Option Int := if cntTo l id k q = 0 then none else some (cntTo l id k q : Int)
theorem cntF_get (l : List Nd) (k q : Nat) (id : Int) : (cntF l k q id).getD 0 = (cntTo l id k q : Int) := by
  unfold cntF; split
  · rename_i h; rw [h]; rfl
  · rfl
theorem cntF_zero (l : List Nd) (id : Int) : cntF l 0 0 id = none := rfl
theorem cntF_step {l : List Nd} {k q : Nat} (h : q < (ndAt l k).es.length) (id : Int) :
    (if id = (entAt (ndAt l k).es q).to then some ((cntTo l (entAt (ndAt l k).es q).to k q : Int) + 1) else cntF l k q id) = cntF l k (q + 1) id := by
  unfold cntF
  rw [cnt_step h]
  by_cases e : id = (entAt (ndAt l k).es q).to
  · subst e; simp
  · have : ¬ (entAt (ndAt l k).es q).to = id := fun h => e h.symm
    simp [e, this]
theorem cntF_next {l : List Nd} {k : Nat} (h : k < l.length) (id : Int) : cntF l (k + 1) 0 id = cntF l k (ndAt l k).es.length id := by unfold cntF; rw [cnt_next h]

theorem MapI.notCells {W : World} {mb n : Nat} {f : Int → Option Int} (h : MapI W mb n f) : ∀ r, some mb = some r → ∃ o : Obj, W.heap[r]? = some o ∧ o.isCells = false := by
  obtain ⟨D, ⟨es, clock, h1, _⟩, _⟩ := h
  intro r e; cases e; exact ⟨_, h1, rfl⟩


theorem cell_alloc_lt {W : World} {a : Addr} {v : Value} {o : Obj} (h : W.cell? a = some v) : (W.alloc o).cell? a = some v := (World.cell?_alloc_lt W o a (World.block_lt_of_cell? _ _ h)).trans h

set_option maxHeartbeats 8000000 in
theorem led_any (nv : Value) (t : Tr) (B : Nat) (w : World) (hN : NodesIn w B nv t.nodes) (hB : B ≤ w.heap.size) (hri : Rising t.nodes) (hne : 0 < t.nodes.length) (hfl : (flat t.nodes).length ≤ 4611686018427387904) :
    Calls Tryz.prog 126 #[trV nv t] w fun e w' => e = .returned (.bool (ledB t.nodes)) ∧ Below w.heap.size w w' := by
  have hFY := fun (id : Int) W (hW : Below w.heap.size w W) (hp : place t.nodes id < t.nodes.length) => find_yes nv t id w.heap.size W ((hN.more hB).below hW) hW.size hri hp
  have hFN := fun (id : Int) W (hW : Below w.heap.size w W) (hp : ¬ place t.nodes id < t.nodes.length) => find_no nv t id w.heap.size W ((hN.more hB).below hW) hW.size hri hne hp
  obtain ⟨hlen, ⟨A, c, rfl, h0⟩ | ⟨b, off, c, rfl, hcap, hb, hpos, hcells⟩⟩ := hN.cases
  · rw [h0] at hne; simp at hne
  unfold trV at hFY hFN ⊢
  obtain ⟨r, hr⟩ : ∃ r, ledB t.nodes = r := ⟨_, rfl⟩
  rw [hr]
  obtain ⟨l, la, rn, rb⟩ := t
  simp only at *
  have hend : OkP l (preE l l.length 0) → r = true := fun h => by rw [← hr]; rw [pre_end] at h; exact h.all
  have hle : ∀ k q, k < l.length → (preE l k q).length ≤ 4611686018427387904 := fun k q hk => Nat.le_trans (pre_len hk) hfl
  have hnx : ∀ k, k < l.length → preE l (k + 1) 0 = preE l k (ndAt l k).es.length := fun k hk => pre_next hk
  have hnf : ∀ k, k < l.length → ∀ id, cntF l (k + 1) 0 id = cntF l k (ndAt l k).es.length id := fun k hk id => cntF_next hk id
  have hbad : ∀ k, k < l.length → ∀ x ∈ (ndAt l k).es, ¬ (place l x.to < l.length ∧ x.to ≠ 1 ∧ ((ndAt l (place l x.to)).kind = 1 → links l x.to ≤ 1)) → r = false := fun k hk x hx h => by
    rw [← hr]; exact led_fail (flat_mem.2 ⟨k, hk, hx⟩) h
  have hcl : ∀ k q id, k < l.length → cntTo l id k q ≤ links l id := fun k q id hk => cnt_links hk
  have hbw : b < w.heap.size := by omega
  generalize hn : l.length = n at *
  have HL := Lib.hid hle; have HX := Lib.hid hnx; have HE := Lib.hid hend; have HC := Lib.hid hcells; have HN := Lib.hid hn; have HNF := Lib.hid hnf; have HBAD := Lib.hid hbad; have HCL := Lib.hid hcl; have HFY := Lib.hid hFY; have HFN := Lib.hid hFN; have HR := Lib.hid hr; have HRI := Lib.hid hri
  clear hle hend hcells hn hN hnx hfl hnf hbad hcl hFY hFN hr hri
  have hmm := @run_makeMap Tryz.prog
  go_enter Tryz.func126, Tryz.ntmps126
  go_wp2
  go_loopw [14] (fun i wr => ∃ k : Nat, k ≤ n ∧ i = .int .i64 k ∧ Hid (OkP l (preE l k 0)) ∧ MapI wr (w.heap.size + 1) (preE l k 0).length (cntF l k 0) ∧ Below (w.heap.size + 1) (w.alloc (.cells #[.slice (some ⟨b, off, none⟩) n c, .int .i64 la, .int .i64 rn, .int .i64 rb] 26)) wr) (fun i _ => n - (intOf i).toNat)
  case atStart =>
    refine ⟨0, by omega, rfl, Lib.hid (fun y hy => by simp [preE, flat] at hy), ?_, (Below.refl _ _).alloc (by simp) _⟩
    have := MapI.made (w.alloc (.cells #[.slice (some ⟨b, off, none⟩) n c, .int .i64 la, .int .i64 rn, .int .i64 rb] 26))
    have h2 := this.congr (g := cntF l 0 0) (fun id => (cntF_zero l id).symm)
    rw [show (preE l 0 0).length = 0 from rfl]
    simpa using h2
  case round =>
    obtain ⟨k, hk, rfl, HOK, hmap, hbel⟩ := hrel
    have HM0 := Lib.hid hmap; have HB0 := Lib.hid hbel
    have t0 : wr.cell? ⟨w.heap.size, 0, none⟩ = some (.slice (some ⟨b, off, none⟩) n c) := (hbel.cell (p := ⟨w.heap.size, 0, none⟩) (by simp)).trans (by simp)
    have hwr : w.heap.size + 1 ≤ wr.heap.size := by have := hbel.size; simpa using this
    have hws : w.heap.size < wr.heap.size := by omega
    have HB2 := Lib.hid (((Below.refl w.heap.size w).alloc (Nat.le_refl _) (.cells #[.slice (some ⟨b, off, none⟩) n c, .int .i64 la, .int .i64 rn, .int .i64 rb] 26)).trans (hbel.mono (by omega)))
    clear hmap hbel
    by_cases hlt : k < n
    · obtain ⟨c0, c1, c2, c3, c4, c5, hdl, ev, c6, hE⟩ : NodeIn wr w.heap.size b (off + k * 7) (ndAt l k) := ((HC.out k hlt).more (B' := w.heap.size) hB).below (by omega) HB2.out
      have hkk : (k : Int) < (n : Int) := by omega
      have hst : ∀ j, j < (ndAt l k).es.length → preE l k (j + 1) = preE l k j ++ [entAt (ndAt l k).es j] := fun j hj => pre_step hj
      have hfs : ∀ j, j < (ndAt l k).es.length → ∀ id, (if id = (entAt (ndAt l k).es j).to then some ((cntTo l (entAt (ndAt l k).es j).to k j : Int) + 1) else cntF l k j id) = cntF l k (j + 1) id := fun j hj id => cntF_step hj id
      have hcs : ∀ j, j < (ndAt l k).es.length → cntTo l (entAt (ndAt l k).es j).to k (j + 1) = cntTo l (entAt (ndAt l k).es j).to k j + 1 := fun j hj => by rw [cnt_step hj, if_pos rfl]
      have HST := Lib.hid hst; have HFS := Lib.hid hfs; have HCS := Lib.hid hcs
      have HX1 := Lib.hid (HX.out k hlt); have HNF1 := Lib.hid (HNF.out k hlt); have HBAD1 := Lib.hid (HBAD.out k hlt)
      clear hst hfs hcs hdl
      generalize hnd : ndAt l k = nd at *
      have HND := Lib.hid hnd
      clear hnd
      obtain ⟨hml, hxr0, ⟨Ae, ce, rfl, he0⟩ | ⟨eb, eo, ce, rfl, hecap, heb, hepos, hec⟩⟩ := hE.cases
      · have hm0 : nd.es.length = 0 := by rw [he0]; rfl
        have HMM := Lib.hid hm0
        clear hE he0 hm0 hxr0
        go_wp2
        refine wp_loop_rounds 1 ?_
        rw [rounds_succ]
        go_wp2
        go_roundw
        case rel => exact ⟨k + 1, by omega, by go_num, Lib.hid (by rw [HX1.out, HMM.out]; exact HOK.out), by rw [HX1.out, HMM.out]; exact (HM0.out.alloc _).congr (fun id => by rw [HNF1.out id, HMM.out]), HB0.out.alloc (by omega) _⟩
        case measure => simp [intOf]; omega
      · have HXR := Lib.hid hxr0
        generalize hm : nd.es.length = m at *
        have HMM := Lib.hid hm
        have HEC : Hid (∀ q, q < m → w.cell? ⟨eb, eo + q * 2, none⟩ = some (.string (nm (entAt nd.es q).key)) ∧ w.cell? ⟨eb, eo + q * 2 + 1, none⟩ = some (.int .i64 (entAt nd.es q).to)) :=
          Lib.hid (fun q hq => ⟨(HB2.out.cell (p := ⟨eb, eo + q * 2, none⟩) heb).symm.trans (hec q hq).1, (HB2.out.cell (p := ⟨eb, eo + q * 2 + 1, none⟩) heb).symm.trans (hec q hq).2⟩)
        clear hm hec hE hxr0
        go_wp2
        obtain ⟨wo, hwo⟩ : ∃ wo, wo = wr := ⟨_, rfl⟩
        go_loopw [21] (fun j w2 => ∃ q : Nat, q ≤ m ∧ j = .int .i64 q ∧ Hid (OkP l (preE l k q)) ∧ MapI w2 (w.heap.size + 1) (preE l k q).length (cntF l k q) ∧ Below (w.heap.size + 1) (w.alloc (.cells #[.slice (some ⟨b, off, none⟩) n c, .int .i64 la, .int .i64 rn, .int .i64 rb] 26)) w2) (fun j _ => m - (intOf j).toNat)
        case atStart => exact ⟨0, by omega, rfl, HOK, HM0.out.alloc _, HB0.out.alloc (by omega) _⟩
        case round =>
          obtain ⟨q, hq, rfl, HOQ, hmap, hbel⟩ := hrel
          clear t0 hwr hws HB2 c0 c1 c2 c3 c4 c5 c6 HM0 HB0
          clear hwo
          have HM := Lib.hid hmap; have HB := Lib.hid hbel
          have t0 : wr.cell? ⟨w.heap.size, 0, none⟩ = some (.slice (some ⟨b, off, none⟩) n c) := (hbel.cell (p := ⟨w.heap.size, 0, none⟩) (by simp)).trans (by simp)
          have t1 : wr.cell? ⟨w.heap.size, 1, none⟩ = some (.int .i64 la) := (hbel.cell (p := ⟨w.heap.size, 1, none⟩) (by simp)).trans (by simp)
          have t2 : wr.cell? ⟨w.heap.size, 2, none⟩ = some (.int .i64 rn) := (hbel.cell (p := ⟨w.heap.size, 2, none⟩) (by simp)).trans (by simp)
          have t3 : wr.cell? ⟨w.heap.size, 3, none⟩ = some (.int .i64 rb) := (hbel.cell (p := ⟨w.heap.size, 3, none⟩) (by simp)).trans (by simp)
          have hwr : w.heap.size + 1 ≤ wr.heap.size := by have := hbel.size; simpa using this
          have hws : w.heap.size < wr.heap.size := by omega
          have hmlt := hmap.lt
          have HB2 := Lib.hid (((Below.refl w.heap.size w).alloc (Nat.le_refl _) (.cells #[.slice (some ⟨b, off, none⟩) n c, .int .i64 la, .int .i64 rn, .int .i64 rb] 26)).trans (hbel.mono (by omega)))
          clear hmap hbel
          by_cases hqt : q < m
          · obtain ⟨ec0, ec1⟩ := HEC.out q hqt
            have d0 : wr.cell? ⟨eb, eo + q * 2, none⟩ = some (.string (nm (entAt nd.es q).key)) := (HB2.out.cell (p := ⟨eb, eo + q * 2, none⟩) heb).trans ec0
            have d1 : wr.cell? ⟨eb, eo + q * 2 + 1, none⟩ = some (.int .i64 (entAt nd.es q).to) := (HB2.out.cell (p := ⟨eb, eo + q * 2 + 1, none⟩) heb).trans ec1
            have hqq : (q : Int) < (m : Int) := by omega
            have hst1 := HST.out q (by omega)
            have hfs1 := HFS.out q (by omega)
            have hcs1 := HCS.out q (by omega)
            have hxm : entAt nd.es q ∈ nd.es := entAt_mem (by rw [HMM.out]; exact hqt)
            have hbad1 := HBAD1.out _ hxm
            have hxr : -9223372036854775808 ≤ (entAt nd.es q).to ∧ (entAt nd.es q).to ≤ 9223372036854775807 := (HXR.out _ hxm).2
            have hlN := HL.out k q hlt
            have hle1 : cntTo l (entAt nd.es q).to k q ≤ (preE l k q).length := List.countP_le_length
            have hcl := HCL.out k (q + 1) (entAt nd.es q).to hlt
            rw [hcs1] at hcl
            have hcp : (preE l k q ++ [entAt nd.es q]).countP (fun z => z.to == (entAt nd.es q).to) = cntTo l (entAt nd.es q).to k q + 1 := by rw [← hst1]; exact hcs1
            have hok2 : place l (entAt nd.es q).to < n → (entAt nd.es q).to ≠ 1 → ((ndAt l (place l (entAt nd.es q).to)).kind = 1 → cntTo l (entAt nd.es q).to k q + 1 ≤ 1) → OkP l (preE l k (q + 1)) := fun g1 g2 g3 => by
              rw [hst1]; exact HOQ.out.snoc (by rw [HN.out]; exact g1) g2 (fun g => by rw [hcp]; exact g3 g)
            have hlen2 : (preE l k (q + 1)).length = (preE l k q).length + 1 := by rw [hst1]; simp
            have HL2 := Lib.hid hlen2; have HF2 := Lib.hid hfs1
            have hy := HFY.out (entAt nd.es q).to; have hno := HFN.out (entAt nd.es q).to
            clear hst1 hfs1 hcs1 hxm hcp hlen2 ec0 ec1
            generalize hN0 : (preE l k q).length = N0 at *
            generalize hcnt : cntTo l (entAt nd.es q).to k q = cnt at *
            generalize entAt nd.es q = x at *
            have HY := Lib.hid hy; have HNo := Lib.hid hno; have HCN := Lib.hid hcnt; have HN0 := Lib.hid hN0
            clear hN0 hy hno hcnt
            have hAl := Lib.hid (HB2.out.alloc (o := .cells #[.string (nm x.key), .int .i64 x.to] 75) (by omega))
            by_cases hp : place l x.to < n
            · have HYY := Lib.hid (fun W hW => HY.out W hW hp)
              have kc0 := (HC.out _ hp).2.1
              have kc : wr.cell? ⟨b, off + place l x.to * 7 + 1, none⟩ = some (.int .i64 (ndAt l (place l x.to)).kind) := (HB2.out.cell (p := ⟨b, off + place l x.to * 7 + 1, none⟩) (show b < w.heap.size by omega)).trans kc0
              clear kc0
              generalize hkd : (ndAt l (place l x.to)).kind = kd at *
              generalize hpl : place l x.to = p at *
              have hpp : (p : Int) < (n : Int) := by omega
              clear hkd hpl HY HNo
              by_cases h1 : x.to = 1
              · have HO := Lib.hid (hbad1 (fun h => h.2.1 h1))
                have q1 : (x.to == 1) = true := by simpa using h1
                clear hbad1 hok2 h1 hcl
                go_wp2_with fail
                refine (HYY.out _ hAl.out).mono ?_
                rintro e w1 ⟨rfl, hb1⟩; have hm1 := (HM.out.alloc (.cells #[.string (nm x.key), .int .i64 x.to] 75)).below hb1 (by simp; omega); have hlk := hm1.look x.to hxr; rw [cntF_get, HCN.out] at hlk; have x1 : w1.cell? ⟨wr.heap.size, 1, none⟩ = some (.int .i64 x.to) := (hb1.cell (p := ⟨wr.heap.size, 1, none⟩) (by simp)).trans (by simp); have v0 : w1.cell? ⟨w.heap.size, 0, none⟩ = some (.slice (some ⟨b, off, none⟩) n c) := (hb1.cell (p := ⟨w.heap.size, 0, none⟩) (by simp; omega)).trans (cell_alloc_lt t0); have HM1 := Lib.hid hm1; have HB1 := Lib.hid hb1; clear hm1; have kc1 : w1.cell? ⟨b, off + p * 7 + 1, none⟩ = some (.int .i64 kd) := (hb1.cell (p := ⟨b, off + p * 7 + 1, none⟩) (by simp; omega)).trans (cell_alloc_lt kc)
                go_wp2_with (at_mapUpdate; refine wpList_put _ rfl _ _ _ rfl (w.heap.size + 1) N0 (cntF l k q) rfl HM1.out (by unfold maxLen; omega) x.to ((cnt : Int) + 1) rfl rfl hxr (by omega) ?_; intro w2 hm2 hg2; have y1 := cell_kept x1 hg2 HM1.out.notCells; have u0 := cell_kept v0 hg2 HM1.out.notCells; have hlk2 := hm2.look x.to hxr; rw [if_pos rfl, Option.getD_some] at hlk2; have HM2 := Lib.hid hm2; have HG2 := Lib.hid hg2; have HBB := Lib.hid (((HB2.out.alloc (by omega) (.cells #[.string (nm x.key), .int .i64 x.to] 75)).trans (HB1.out.mono (by simp; omega))).grown hg2 (by have := HB1.out.size; simp at this; omega) (fun j hj => by cases hj; omega)); have HBC := Lib.hid (((HB.out.alloc (by omega) (.cells #[.string (nm x.key), .int .i64 x.to] 75)).trans (HB1.out.mono (by simp; omega))).grown hg2 (by have := HB1.out.size; simp at this; omega) (fun j hj => by cases hj; omega)); clear hm2 hg2; have kc2 := cell_kept kc1 HG2.out HM1.out.notCells)
                go_ret
                exact ⟨ret_bool HO.out.symm, HBB.out⟩
              · have q1 : (x.to == 1) = false := by simpa using h1
                by_cases hk1 : kd = 1
                · have q2 : (kd == 1) = true := by simpa using hk1
                  by_cases hc : cnt + 1 ≤ 1
                  · have HO := Lib.hid (hok2 hp h1 (fun _ => hc))
                    have g1 : decide ((1 : Int) < (cnt : Int) + 1) = false := by simp; omega
                    have g2 : decide ((0 : Int) < (cnt : Int)) = false := by simp; omega
                    have g3 : decide (0 < cnt) = false := by simp; omega
                    clear hbad1 hok2 h1 hcl hc hk1
                    go_wp2_with fail
                    refine (HYY.out _ hAl.out).mono ?_
                    rintro e w1 ⟨rfl, hb1⟩; have hm1 := (HM.out.alloc (.cells #[.string (nm x.key), .int .i64 x.to] 75)).below hb1 (by simp; omega); have hlk := hm1.look x.to hxr; rw [cntF_get, HCN.out] at hlk; have x1 : w1.cell? ⟨wr.heap.size, 1, none⟩ = some (.int .i64 x.to) := (hb1.cell (p := ⟨wr.heap.size, 1, none⟩) (by simp)).trans (by simp); have v0 : w1.cell? ⟨w.heap.size, 0, none⟩ = some (.slice (some ⟨b, off, none⟩) n c) := (hb1.cell (p := ⟨w.heap.size, 0, none⟩) (by simp; omega)).trans (cell_alloc_lt t0); have HM1 := Lib.hid hm1; have HB1 := Lib.hid hb1; clear hm1; have kc1 : w1.cell? ⟨b, off + p * 7 + 1, none⟩ = some (.int .i64 kd) := (hb1.cell (p := ⟨b, off + p * 7 + 1, none⟩) (by simp; omega)).trans (cell_alloc_lt kc)
                    go_wp2_with (at_mapUpdate; refine wpList_put _ rfl _ _ _ rfl (w.heap.size + 1) N0 (cntF l k q) rfl HM1.out (by unfold maxLen; omega) x.to ((cnt : Int) + 1) rfl rfl hxr (by omega) ?_; intro w2 hm2 hg2; have y1 := cell_kept x1 hg2 HM1.out.notCells; have u0 := cell_kept v0 hg2 HM1.out.notCells; have hlk2 := hm2.look x.to hxr; rw [if_pos rfl, Option.getD_some] at hlk2; have HM2 := Lib.hid hm2; have HG2 := Lib.hid hg2; have HBB := Lib.hid (((HB2.out.alloc (by omega) (.cells #[.string (nm x.key), .int .i64 x.to] 75)).trans (HB1.out.mono (by simp; omega))).grown hg2 (by have := HB1.out.size; simp at this; omega) (fun j hj => by cases hj; omega)); have HBC := Lib.hid (((HB.out.alloc (by omega) (.cells #[.string (nm x.key), .int .i64 x.to] 75)).trans (HB1.out.mono (by simp; omega))).grown hg2 (by have := HB1.out.size; simp at this; omega) (fun j hj => by cases hj; omega)); clear hm2 hg2; have kc2 := cell_kept kc1 HG2.out HM1.out.notCells)
                    go_roundw
                    case rel => exact ⟨q + 1, by omega, by go_num, HO, by rw [HL2.out]; exact HM2.out.congr HF2.out, HBC.out⟩
                    case measure => simp [intOf]; omega
                  · have HO := Lib.hid (hbad1 (fun h => hc (Nat.le_trans hcl (h.2.2 hk1))))
                    have g1 : decide ((1 : Int) < (cnt : Int) + 1) = true := by simp; omega
                    have g2 : decide ((0 : Int) < (cnt : Int)) = true := by simp; omega
                    have g3 : decide (0 < cnt) = true := by simp; omega
                    clear hbad1 hok2 h1 hcl hc hk1
                    go_wp2_with fail
                    refine (HYY.out _ hAl.out).mono ?_
                    rintro e w1 ⟨rfl, hb1⟩; have hm1 := (HM.out.alloc (.cells #[.string (nm x.key), .int .i64 x.to] 75)).below hb1 (by simp; omega); have hlk := hm1.look x.to hxr; rw [cntF_get, HCN.out] at hlk; have x1 : w1.cell? ⟨wr.heap.size, 1, none⟩ = some (.int .i64 x.to) := (hb1.cell (p := ⟨wr.heap.size, 1, none⟩) (by simp)).trans (by simp); have v0 : w1.cell? ⟨w.heap.size, 0, none⟩ = some (.slice (some ⟨b, off, none⟩) n c) := (hb1.cell (p := ⟨w.heap.size, 0, none⟩) (by simp; omega)).trans (cell_alloc_lt t0); have HM1 := Lib.hid hm1; have HB1 := Lib.hid hb1; clear hm1; have kc1 : w1.cell? ⟨b, off + p * 7 + 1, none⟩ = some (.int .i64 kd) := (hb1.cell (p := ⟨b, off + p * 7 + 1, none⟩) (by simp; omega)).trans (cell_alloc_lt kc)
                    go_wp2_with (at_mapUpdate; refine wpList_put _ rfl _ _ _ rfl (w.heap.size + 1) N0 (cntF l k q) rfl HM1.out (by unfold maxLen; omega) x.to ((cnt : Int) + 1) rfl rfl hxr (by omega) ?_; intro w2 hm2 hg2; have y1 := cell_kept x1 hg2 HM1.out.notCells; have u0 := cell_kept v0 hg2 HM1.out.notCells; have hlk2 := hm2.look x.to hxr; rw [if_pos rfl, Option.getD_some] at hlk2; have HM2 := Lib.hid hm2; have HG2 := Lib.hid hg2; have HBB := Lib.hid (((HB2.out.alloc (by omega) (.cells #[.string (nm x.key), .int .i64 x.to] 75)).trans (HB1.out.mono (by simp; omega))).grown hg2 (by have := HB1.out.size; simp at this; omega) (fun j hj => by cases hj; omega)); have HBC := Lib.hid (((HB.out.alloc (by omega) (.cells #[.string (nm x.key), .int .i64 x.to] 75)).trans (HB1.out.mono (by simp; omega))).grown hg2 (by have := HB1.out.size; simp at this; omega) (fun j hj => by cases hj; omega)); clear hm2 hg2; have kc2 := cell_kept kc1 HG2.out HM1.out.notCells)
                    go_ret
                    exact ⟨ret_bool HO.out.symm, HBB.out⟩
                · have q2 : (kd == 1) = false := by simpa using hk1
                  have HO := Lib.hid (hok2 hp h1 (fun h => absurd h hk1))
                  clear hbad1 hok2 h1 hcl hk1
                  go_wp2_with fail
                  refine (HYY.out _ hAl.out).mono ?_
                  rintro e w1 ⟨rfl, hb1⟩; have hm1 := (HM.out.alloc (.cells #[.string (nm x.key), .int .i64 x.to] 75)).below hb1 (by simp; omega); have hlk := hm1.look x.to hxr; rw [cntF_get, HCN.out] at hlk; have x1 : w1.cell? ⟨wr.heap.size, 1, none⟩ = some (.int .i64 x.to) := (hb1.cell (p := ⟨wr.heap.size, 1, none⟩) (by simp)).trans (by simp); have v0 : w1.cell? ⟨w.heap.size, 0, none⟩ = some (.slice (some ⟨b, off, none⟩) n c) := (hb1.cell (p := ⟨w.heap.size, 0, none⟩) (by simp; omega)).trans (cell_alloc_lt t0); have HM1 := Lib.hid hm1; have HB1 := Lib.hid hb1; clear hm1; have kc1 : w1.cell? ⟨b, off + p * 7 + 1, none⟩ = some (.int .i64 kd) := (hb1.cell (p := ⟨b, off + p * 7 + 1, none⟩) (by simp; omega)).trans (cell_alloc_lt kc)
                  go_wp2_with (at_mapUpdate; refine wpList_put _ rfl _ _ _ rfl (w.heap.size + 1) N0 (cntF l k q) rfl HM1.out (by unfold maxLen; omega) x.to ((cnt : Int) + 1) rfl rfl hxr (by omega) ?_; intro w2 hm2 hg2; have y1 := cell_kept x1 hg2 HM1.out.notCells; have u0 := cell_kept v0 hg2 HM1.out.notCells; have hlk2 := hm2.look x.to hxr; rw [if_pos rfl, Option.getD_some] at hlk2; have HM2 := Lib.hid hm2; have HG2 := Lib.hid hg2; have HBB := Lib.hid (((HB2.out.alloc (by omega) (.cells #[.string (nm x.key), .int .i64 x.to] 75)).trans (HB1.out.mono (by simp; omega))).grown hg2 (by have := HB1.out.size; simp at this; omega) (fun j hj => by cases hj; omega)); have HBC := Lib.hid (((HB.out.alloc (by omega) (.cells #[.string (nm x.key), .int .i64 x.to] 75)).trans (HB1.out.mono (by simp; omega))).grown hg2 (by have := HB1.out.size; simp at this; omega) (fun j hj => by cases hj; omega)); clear hm2 hg2; have kc2 := cell_kept kc1 HG2.out HM1.out.notCells)
                  go_roundw
                  case rel => exact ⟨q + 1, by omega, by go_num, HO, by rw [HL2.out]; exact HM2.out.congr HF2.out, HBC.out⟩
                  case measure => simp [intOf]; omega
            · have HYY := Lib.hid (fun W hW => HNo.out W hW hp)
              have HO := Lib.hid (hbad1 (fun h => hp h.1))
              clear hbad1 hok2 hcl HY HNo hp
              generalize low l x.to = lw at *
              go_wp2_with fail
              refine (HYY.out _ hAl.out).mono ?_
              rintro e w1 ⟨rfl, hb1⟩; have hm1 := (HM.out.alloc (.cells #[.string (nm x.key), .int .i64 x.to] 75)).below hb1 (by simp; omega); have hlk := hm1.look x.to hxr; rw [cntF_get, HCN.out] at hlk; have x1 : w1.cell? ⟨wr.heap.size, 1, none⟩ = some (.int .i64 x.to) := (hb1.cell (p := ⟨wr.heap.size, 1, none⟩) (by simp)).trans (by simp); have v0 : w1.cell? ⟨w.heap.size, 0, none⟩ = some (.slice (some ⟨b, off, none⟩) n c) := (hb1.cell (p := ⟨w.heap.size, 0, none⟩) (by simp; omega)).trans (cell_alloc_lt t0); have HM1 := Lib.hid hm1; have HB1 := Lib.hid hb1; clear hm1
              go_wp2_with (at_mapUpdate; refine wpList_put _ rfl _ _ _ rfl (w.heap.size + 1) N0 (cntF l k q) rfl HM1.out (by unfold maxLen; omega) x.to ((cnt : Int) + 1) rfl rfl hxr (by omega) ?_; intro w2 hm2 hg2; have y1 := cell_kept x1 hg2 HM1.out.notCells; have u0 := cell_kept v0 hg2 HM1.out.notCells; have hlk2 := hm2.look x.to hxr; rw [if_pos rfl, Option.getD_some] at hlk2; have HM2 := Lib.hid hm2; have HG2 := Lib.hid hg2; have HBB := Lib.hid (((HB2.out.alloc (by omega) (.cells #[.string (nm x.key), .int .i64 x.to] 75)).trans (HB1.out.mono (by simp; omega))).grown hg2 (by have := HB1.out.size; simp at this; omega) (fun j hj => by cases hj; omega)); have HBC := Lib.hid (((HB.out.alloc (by omega) (.cells #[.string (nm x.key), .int .i64 x.to] 75)).trans (HB1.out.mono (by simp; omega))).grown hg2 (by have := HB1.out.size; simp at this; omega) (fun j hj => by cases hj; omega)); clear hm2 hg2)
              go_ret
              exact ⟨ret_bool HO.out.symm, HBB.out⟩
          · have hqm : q = m := by omega
            have H1 : Hid (preE l (k + 1) 0 = preE l k q) := Lib.hid (by rw [hqm]; exact HX1.out)
            have H2 : Hid (∀ id, cntF l (k + 1) 0 id = cntF l k q id) := Lib.hid (fun id => by rw [hqm]; exact HNF1.out id)
            clear hqm
            go_wp2
            go_roundw
            case rel => exact ⟨k + 1, by omega, by go_num, Lib.hid (by rw [H1.out]; exact HOQ.out), by rw [H1.out]; exact HM.out.congr (fun id => (H2.out id).symm), HB.out⟩
            case measure => simp [intOf]; omega
    · have hkn : k = n := by omega
      have HO := Lib.hid (HE.out (by rw [← hkn]; exact HOK.out))
      clear hkn
      go_wp2
      go_ret
      exact ⟨ret_bool HO.out.symm, HB2.out⟩

end Go.Proofs.YtkmnbbocahjmaaaGreatDoor
