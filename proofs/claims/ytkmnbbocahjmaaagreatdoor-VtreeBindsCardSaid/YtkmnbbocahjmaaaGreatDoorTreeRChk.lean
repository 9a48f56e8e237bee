/- DERIVED. The walk of the document's own Check. -/
import Derived.Test.YtkmnbbocahjmaaaGreatDoorTreeRWay
import Derived.Deep.RegionHeld3
namespace Go.Proofs.YtkmnbbocahjmaaaGreatDoor
open Go.RowKit Go.Sort
open PathM TreeM
set_option linter.unusedVariables false

attribute [local go_sem] cell_rg

/-- What the first loop has seen of a node: all but its entries. -/
def okFst (t : Tr) (i : Nat) : Bool := plainB (ndAt t.nodes i) && okNum t.nodes t.last i
def okEnts (l : List Nd) (i q : Nat) : Bool := ((ndAt l i).es.take q).all fun x => decide (place l x.to < l.length)
theorem okRef_cut (t : Tr) (i : Nat) : okRef t i = (okFst t i && okEnts t.nodes i (ndAt t.nodes i).es.length) := by
  unfold okRef okFst okEnts; rw [List.take_length]
theorem okEnts_step {l : List Nd} {i q : Nat} (h : q < (ndAt l i).es.length) : okEnts l i (q + 1) = (okEnts l i q && decide (place l (entAt (ndAt l i).es q).to < l.length)) := by
  have e : entAt (ndAt l i).es q = (ndAt l i).es[q] := by simp [entAt, h]
  unfold okEnts
  rw [List.take_succ_eq_append_getElem h, List.all_append, e]
  simp
theorem okEnts_fail {l : List Nd} {i : Nat} {x : Ent} (hx : x ∈ (ndAt l i).es) (h : ¬ place l x.to < l.length) : okEnts l i (ndAt l i).es.length = false := by
  unfold okEnts
  rw [List.take_length]
  rw [List.all_eq_false]
  exact ⟨x, hx, by simpa using h⟩
def refI (t : Tr) : Int := if refB t = true then 0 else 80
theorem refI_eq (t : Tr) : refI t = checkI t := by unfold refI checkI; rw [check_eq]
theorem placeI_neg {l : List Nd} {id : Int} (h : ¬ place l id < l.length) : placeI l id = -1 := by unfold placeI; rw [if_neg h]
theorem placeI_pos {l : List Nd} {id : Int} (h : place l id < l.length) : placeI l id = (place l id : Int) := by unfold placeI; rw [if_pos h]
theorem plain_names {t : Tr} {w : World} {B : Nat} {nv : Value} (h : allTo (okRef t) t.nodes.length = true) : ∀ x ∈ flat t.nodes, x.key.length ≤ 64 := by
  intro x hx
  obtain ⟨i, hi, hxi⟩ := flat_mem.1 hx
  have := allTo_iff.1 h i hi
  simp only [okRef, Bool.and_eq_true] at this
  exact (nameB_parts (name_of_ents (plain_ents this.1.1) hxi)).2.2

set_option maxRecDepth 100000 in
set_option maxHeartbeats 8000000 in
theorem rcheck_any (nv : Value) (t : Tr) (B : Nat) (w : World) (hN : NodesIn w B nv t.nodes) (hB : B ≤ w.heap.size) :
    Calls Tryz.prog 32 #[trV nv t] w fun e w' => e = .returned (.int .i64 (checkI t)) ∧ Below w.heap.size w w' := by
  have hN0 := hN.more hB
  rw [← refI_eq]
  obtain ⟨hlen, ⟨A, c, rfl, h0⟩ | ⟨b, off, c, rfl, hcap, hb, hpos, hcells⟩⟩ := hN.cases
  · have hr : refI t = 80 := by simp [refI, refB, headB, h0]
    rw [hr]
    unfold trV
    clear hr hN h0 hN0
    go_enter Tryz.func32, Tryz.ntmps32
    go_wp2
    go_ret
    exact ⟨rfl, (Below.refl _ _).alloc (Nat.le_refl _) _⟩
  obtain ⟨r, hr⟩ : ∃ r, refI t = r := ⟨_, rfl⟩
  rw [hr]
  have href : refI t = if (headB t && allTo (okRef t) t.nodes.length && allTo (okLinks t.nodes) t.nodes.length && reachedB t.nodes) = true then 0 else 80 := rfl
  rw [hr] at href
  have hbw : b < w.heap.size := by omega
  have hN1 := hcells 0 hpos
  rw [show off + 0 * 7 = off by omega] at hN1
  obtain ⟨d0, d1, _⟩ := hN1
  have hpl := fun id W (hW : Below w.heap.size w W) => rplace_any (.slice (some ⟨b, off, none⟩) t.nodes.length c) t id w.heap.size W (hN0.below hW) hW.size
  have hlk := fun id W (hW : Below w.heap.size w W) (hf : (flat t.nodes).length ≤ 4611686018427387904) => rlinks_any (.slice (some ⟨b, off, none⟩) t.nodes.length c) t id w.heap.size W (hN0.below hW) hW.size hf
  have hwy := fun W (hW : Below w.heap.size w W) (hn : t.nodes.length ≤ 512) hnames => rway_any (.slice (some ⟨b, off, none⟩) t.nodes.length c) t w.heap.size W (hN0.below hW) hn hnames t.nodes.length [] 1 0 [] [47] (.slice none 0 0) W (by rw [unmet_nil]; exact Nat.le_refl _) (by simp; omega) (Below.refl _ _) hW.size ⟨by simp, by simp⟩ (World.ownsRow_nil _ _ _ _)
  unfold trV at *
  have hno : headB t = false → (80 : Int) = r := fun h => by rw [href, h]; rfl
  have hhead : headB t = decide (1 ≤ t.nodes.length ∧ t.nodes.length ≤ 512 ∧ (ndAt t.nodes 0).id = 1 ∧ (ndAt t.nodes 0).kind = 1) := rfl
  by_cases hbig : t.nodes.length ≤ 512
  · by_cases hid : (ndAt t.nodes 0).id = 1
    · by_cases hki : (ndAt t.nodes 0).kind = 1
      · have hh : headB t = true := by rw [hhead]; simp [hid, hki, hbig]; omega
        rw [hh] at href
        have hA : ∀ k, k < t.nodes.length → okRef t k = false → (80 : Int) = r := fun k hk h => by rw [href, allTo_not hk h]; rfl
        have hE1 : ∀ k, k < t.nodes.length → ∀ x ∈ (ndAt t.nodes k).es, ¬ place t.nodes x.to < t.nodes.length → (80 : Int) = r := fun k hk x hx h => hA k hk (by rw [okRef_cut, okEnts_fail hx h, Bool.and_false])
        have hL1 : allTo (okRef t) t.nodes.length = true → ∀ k, k < t.nodes.length → okLinks t.nodes k = false → (80 : Int) = r := fun h1 k hk h => by rw [href, h1, allTo_not hk h]; rfl
        have hR1 : allTo (okRef t) t.nodes.length = true → allTo (okLinks t.nodes) t.nodes.length = true → ((way t.nodes).length == t.nodes.length) = false → (80 : Int) = r := fun h1 h2 h => by rw [href, h1, h2]; show _ = if (true && true && true && ((way t.nodes).length == t.nodes.length)) = true then _ else _; rw [h]; rfl
        have hR2 : allTo (okRef t) t.nodes.length = true → allTo (okLinks t.nodes) t.nodes.length = true → ((way t.nodes).length == t.nodes.length) = true → (0 : Int) = r := fun h1 h2 h => by rw [href, h1, h2]; show _ = if (true && true && true && ((way t.nodes).length == t.nodes.length)) = true then _ else _; rw [h]; rfl
        have hfl := flat_len hN0 hbig
        have hnames := fun h => plain_names (w := w) (B := B) (nv := .slice (some ⟨b, off, none⟩) t.nodes.length c) (t := t) h
        have hcut := okRef_cut t
        have HA := Lib.hid hA; have HE1 := Lib.hid hE1; have HL1 := Lib.hid hL1; have HR1 := Lib.hid hR1; have HR2 := Lib.hid hR2; have HNAMES := Lib.hid hnames; have HCUT := Lib.hid hcut; have HC := Lib.hid hcells
        have HPLC := Lib.hid hpl; have HLKC := Lib.hid (fun id W hW => hlk id W hW hfl); have HWYC := Lib.hid (fun W hW hn2 => hwy W hW hbig hn2)
        rw [hid] at d0
        rw [hki] at d1
        clear hA hE1 hL1 hR1 hR2 hnames hcut hcells hpl hlk hwy hfl hN hN0 hno hhead href hh hid hki hr
        have hfst : ∀ k, okFst t k = (plainB (ndAt t.nodes k) && (decide ((ndAt t.nodes k).id ≤ t.last) && (k == 0 || decide ((ndAt t.nodes (k - 1)).id < (ndAt t.nodes k).id)))) := fun _ => rfl
        have hlks : ∀ k, okLinks t.nodes k = (!(k == 0 && decide (0 < links t.nodes (ndAt t.nodes k).id)) && !(decide (0 < k) && links t.nodes (ndAt t.nodes k).id == 0) && !((ndAt t.nodes k).kind == 1 && decide (1 < links t.nodes (ndAt t.nodes k).id))) := fun _ => rfl
        have HFST := Lib.hid hfst; have HLKS := Lib.hid hlks
        clear hfst hlks
        generalize hn : t.nodes.length = n at *
        have HN := Lib.hid hn
        clear hn
        generalize t.last = la at *
        generalize t.rn = rn at *
        generalize t.rb = rb at *
        go_enter Tryz.func32, Tryz.ntmps32
        go_wp2
        go_loopw [3] (fun i wr => ∃ k : Nat, k ≤ n ∧ i = .int .i64 k ∧ Hid (allTo (okRef t) k = true) ∧ Below (w.heap.size + 1) (w.alloc (.cells #[.slice (some ⟨b, off, none⟩) n c, .int .i64 la, .int .i64 rn, .int .i64 rb] 26)) wr) (fun i _ => n - (intOf i).toNat)
        case atStart => exact ⟨0, by omega, rfl, rfl, Below.refl _ _⟩
        case round =>
          obtain ⟨k, hk, rfl, HT, hbel⟩ := hrel
          have hwr : w.heap.size + 1 ≤ wr.heap.size := by have := hbel.size; simpa using this
          have hws : w.heap.size < wr.heap.size := by omega
          have hbw2 : b < wr.heap.size := by omega
          have HB2 := Lib.hid (((Below.refl w.heap.size w).alloc (Nat.le_refl _) (.cells #[.slice (some ⟨b, off, none⟩) n c, .int .i64 la, .int .i64 rn, .int .i64 rb] 26)).trans (hbel.mono (by omega)))
          have t0 : wr.cell? ⟨w.heap.size, 0, none⟩ = some (.slice (some ⟨b, off, none⟩) n c) := (hbel.cell (p := ⟨w.heap.size, 0, none⟩) (by simp)).trans (by simp)
          have t1 : wr.cell? ⟨w.heap.size, 1, none⟩ = some (.int .i64 la) := (hbel.cell (p := ⟨w.heap.size, 1, none⟩) (by simp)).trans (by simp)
          have t2 : wr.cell? ⟨w.heap.size, 2, none⟩ = some (.int .i64 rn) := (hbel.cell (p := ⟨w.heap.size, 2, none⟩) (by simp)).trans (by simp)
          have t3 : wr.cell? ⟨w.heap.size, 3, none⟩ = some (.int .i64 rb) := (hbel.cell (p := ⟨w.heap.size, 3, none⟩) (by simp)).trans (by simp)
          have HB := Lib.hid hbel
          clear hbel
          by_cases hlt : k < n
          · have hNd : NodeIn wr wr.heap.size b (off + k * 7) (ndAt t.nodes k) := ((HC.out k hlt).more (B' := w.heap.size) hB |>.below (by omega) HB2.out).more (by omega)
            have hkk : (k : Int) < (n : Int) := by omega
            have hws1 : w.heap.size < wr.heap.size + 1 := by omega
            have hbw3 : b < wr.heap.size + 1 := by omega
            have hA := HA.out k hlt
            have hfst := HFST.out k
            have hcut := HCUT.out k
            have hE1 := HE1.out k hlt
            have hOE : ∀ q, q < (ndAt t.nodes k).es.length → okEnts t.nodes k (q + 1) = (okEnts t.nodes k q && decide (place t.nodes (entAt (ndAt t.nodes k).es q).to < t.nodes.length)) := fun q hq => okEnts_step hq
            have hmem : ∀ q, q < (ndAt t.nodes k).es.length → entAt (ndAt t.nodes k).es q ∈ (ndAt t.nodes k).es := fun q hq => entAt_mem hq
            rw [HN.out] at hOE
            have hprev : 0 < k → wr.cell? ⟨b, off + (k - 1) * 7, none⟩ = some (.int .i64 (ndAt t.nodes (k - 1)).id) := fun h0 => (HB2.out.cell (p := ⟨b, off + (k - 1) * 7, none⟩) hbw).trans (HC.out (k - 1) (by omega)).1
            generalize ndAt t.nodes k = nd at *
            generalize ndAt t.nodes (k - 1) = pd at *
            obtain ⟨c0, c1, c2, c3, c4, c5, hdl, ev, c6, hE⟩ := hNd
            have hPLN : ∀ W, Below wr.heap.size wr W → Calls Tryz.prog 69 #[ndV ev nd] W fun e w' => e = .returned (.bool (plainB nd)) ∧ Below W.heap.size W w' := fun W h => rplain_any ev nd wr.heap.size W (hE.below h) h.size hdl
            have hEC := hE.cases
            obtain ⟨Ae, ce, rfl, hml⟩ := ents_len hE
            unfold ndV at hPLN
            have HPLN := Lib.hid hPLN; have HOE := Lib.hid hOE; have HMEM := Lib.hid hmem; have HE2 := Lib.hid hE1
            clear hPLN hOE hmem hE1 hdl hE
            cases hpb : plainB nd with
            | false =>
              have HO := Lib.hid (hA (by rw [hcut, hfst, hpb]; rfl))
              rw [hpb] at HPLN
              clear hA hfst hcut hpb hEC hprev
              go_wp2
              refine wp_region_quiet_below (by kernel_rfl) (by kernel_rfl) ?_
              repeat (first | go_big_quiet_step ((go_at_call 69; exact Calls.regrown_of (HPLN.out _ (((Below.refl _ _).alloc (Nat.le_refl _) _).trans ((below_regrown _ _ _).mono (Nat.le_of_lt (alloc_lt _ _))))))) | quiet_step ((go_at_call 69; exact Calls.regrown_of (HPLN.out _ (((Below.refl _ _).alloc (Nat.le_refl _) _).trans ((below_regrown _ _ _).mono (Nat.le_of_lt (alloc_lt _ _))))))))
              refine wpQuiet_nil ?_
              intro _ hw'
              obtain ⟨⟨dq, osq⟩, hw''⟩ := hw'
              subst hw''
              go_wp2
              go_ret
              exact ⟨ret_i64 HO.out, (HB2.out.alloc (by omega) _).trans ((below_regrown _ dq osq).mono (by simp; omega))⟩
            | true =>
              rw [hpb] at HPLN hfst
              rw [Bool.true_and] at hfst
              by_cases hla : nd.id ≤ la
              · have g1 : decide (la < nd.id) = false := by simp; omega
                rw [decide_eq_true hla, Bool.true_and] at hfst
                by_cases hk0 : k = 0
                · have hd : decide ((0 : Int) < (k : Int)) = false := by simp; omega
                  have hd2 : decide (0 < k) = false := by simp; omega
                  have hf : okFst t k = true := by rw [hfst, hk0]; rfl
                  rw [hf, Bool.true_and] at hcut
                  have HCT := Lib.hid hcut; have HEC := Lib.hid hEC
                  clear hA hfst hcut hpb hEC hprev hla hk0 hf
                  go_wp2
                  refine wp_region_quiet_below (by kernel_rfl) (by kernel_rfl) ?_
                  repeat (first | go_big_quiet_step ((go_at_call 69; exact Calls.regrown_of (HPLN.out _ (((Below.refl _ _).alloc (Nat.le_refl _) _).trans ((below_regrown _ _ _).mono (Nat.le_of_lt (alloc_lt _ _))))))) | quiet_step ((go_at_call 69; exact Calls.regrown_of (HPLN.out _ (((Below.refl _ _).alloc (Nat.le_refl _) _).trans ((below_regrown _ _ _).mono (Nat.le_of_lt (alloc_lt _ _))))))))
                  refine wpQuiet_nil ?_
                  intro _ hw'
                  obtain ⟨⟨dq, osq⟩, hw''⟩ := hw'
                  subst hw''
                  have hb3 := below_regrown (wr.alloc (.cells #[.int .i64 nd.id, .int .i64 nd.kind, .int .i64 nd.mode, .int .i64 nd.owner, .int .i64 nd.time, .string (nm nd.data), .slice Ae nd.es.length ce] 64)) dq osq
                  generalize grow (redrawn (wr.alloc (.cells #[.int .i64 nd.id, .int .i64 nd.kind, .int .i64 nd.mode, .int .i64 nd.owner, .int .i64 nd.time, .string (nm nd.data), .slice Ae nd.es.length ce] 64)) dq) osq = W3 at hb3 ⊢
                  have HB3 := Lib.hid hb3
                  have s6 : W3.cell? ⟨wr.heap.size, 6, none⟩ = some (.slice Ae nd.es.length ce) := (hb3.cell (p := ⟨wr.heap.size, 6, none⟩) (alloc_lt _ _)).trans (by simp)
                  clear hb3
                  obtain ⟨_, hxr, ⟨Ax, cx, hevx, he0⟩ | ⟨eb, eo, cx, hevx, hecap, heb, hepos, hec⟩⟩ := HEC.out
                  · have hm0 : nd.es.length = 0 := by rw [he0]; rfl
                    have HO := Lib.hid (allTo_succ HT.out (show okRef t k = true by rw [HCT.out, hm0]; rfl))
                    clear hevx he0 hxr
                    generalize nd.es.length = m at *
                    subst hm0
                    go_wp2
                    refine wp_loop_rounds 1 ?_
                    rw [rounds_succ]
                    go_wp2
                    go_roundw
                    case rel => exact ⟨k + 1, by omega, by go_num, HO, (HB.out.alloc (by omega) _).trans (HB3.out.mono (by simp; omega))⟩
                    case measure => simp [intOf]; omega
                  · cases hevx
                    have HECL := Lib.hid hec
                    clear hec hxr
                    generalize hm : nd.es.length = m at *
                    have HM := Lib.hid hm
                    clear hm
                    go_wp2
                    obtain ⟨wo, hwo⟩ : ∃ wo, wo = wr := ⟨_, rfl⟩
                    go_loopw [5] (fun i w2 => ∃ q : Nat, q ≤ m ∧ i = .int .i64 q ∧ Hid (okEnts t.nodes k q = true) ∧ Below (wo.heap.size + 1) W3 w2) (fun i _ => m - (intOf i).toNat)
                    case atStart => exact ⟨0, by omega, rfl, rfl, Below.refl _ _⟩
                    case round =>
                      obtain ⟨q, hq, rfl, HOQ, hbe⟩ := hrel
                      subst hwo
                      have hW3 : wo.heap.size + 1 ≤ W3.heap.size := by have := HB3.out.size; simpa using this
                      have hws2 : wo.heap.size + 1 ≤ wr.heap.size := by have := hbe.size; omega
                      have x6 := (hbe.cell (p := ⟨wo.heap.size, 6, none⟩) (by simp)).trans s6
                      have y0 : wr.cell? ⟨w.heap.size, 0, none⟩ = some (.slice (some ⟨b, off, none⟩) n c) := (hbe.cell (p := ⟨w.heap.size, 0, none⟩) (by simp; omega)).trans ((HB3.out.cell (p := ⟨w.heap.size, 0, none⟩) (by simp; omega)).trans (cell_alloc_lt t0))
                      have y1 : wr.cell? ⟨w.heap.size, 1, none⟩ = some (.int .i64 la) := (hbe.cell (p := ⟨w.heap.size, 1, none⟩) (by simp; omega)).trans ((HB3.out.cell (p := ⟨w.heap.size, 1, none⟩) (by simp; omega)).trans (cell_alloc_lt t1))
                      have y2 : wr.cell? ⟨w.heap.size, 2, none⟩ = some (.int .i64 rn) := (hbe.cell (p := ⟨w.heap.size, 2, none⟩) (by simp; omega)).trans ((HB3.out.cell (p := ⟨w.heap.size, 2, none⟩) (by simp; omega)).trans (cell_alloc_lt t2))
                      have y3 : wr.cell? ⟨w.heap.size, 3, none⟩ = some (.int .i64 rb) := (hbe.cell (p := ⟨w.heap.size, 3, none⟩) (by simp; omega)).trans ((HB3.out.cell (p := ⟨w.heap.size, 3, none⟩) (by simp; omega)).trans (cell_alloc_lt t3))
                      have hbo := HB2.out.trans ((((Below.refl _ _).alloc (Nat.le_refl _) _).trans (HB3.out.mono (Nat.le_of_lt (alloc_lt _ _)))).mono (by omega)) |>.trans (hbe.mono (by omega))
                      have hbo1 := HB.out.trans ((((Below.refl _ _).alloc (Nat.le_refl _) _).trans (HB3.out.mono (Nat.le_of_lt (alloc_lt _ _)))).mono (by omega)) |>.trans (hbe.mono (by omega))
                      have HBO := Lib.hid hbo; have HBO1 := Lib.hid hbo1; have HBE := Lib.hid hbe
                      clear hbo hbo1 hbe t0 t1 t2 t3 s6
                      have hw1 : w.heap.size < wr.heap.size := by omega
                      have hw2 : wo.heap.size < wr.heap.size := by omega
                      have hw4 : eb < wr.heap.size := by omega
                      by_cases hqt : q < m
                      · have d1 : wr.cell? ⟨eb, eo + q * 2 + 1, none⟩ = some (.int .i64 (entAt nd.es q).to) := (((HBE.out.cell (p := ⟨eb, eo + q * 2 + 1, none⟩) (by simp; omega)).trans ((HB3.out.cell (p := ⟨eb, eo + q * 2 + 1, none⟩) (by simp; omega)).trans (World.cell?_alloc_lt wo _ ⟨eb, eo + q * 2 + 1, none⟩ heb))).trans (HECL.out q hqt).2)
                        have hqq : (q : Int) < (m : Int) := by omega
                        have hoe := HOE.out q hqt
                        have he2 := HE2.out _ (HMEM.out q hqt)
                        have HPC := Lib.hid (HPLC.out (entAt nd.es q).to)
                        generalize entAt nd.es q = x at *
                        by_cases hp : place t.nodes x.to < n
                        · have HO : Hid (okEnts t.nodes k (q + 1) = true) := Lib.hid (by rw [hoe, HOQ.out]; simpa using hp)
                          rw [placeI_pos (by rw [HN.out]; exact hp)] at HPC
                          clear hoe he2 hp
                          generalize place t.nodes x.to = p at *
                          have hpn : ¬ (p : Int) < 0 := by omega
                          go_wp2
                          refine wp_region_quiet_below (by kernel_rfl) (by kernel_rfl) ?_
                          repeat (first | go_big_quiet_step ((go_at_call 68; exact Calls.regrown_of (HPC.out _ (HBO.out.trans ((below_regrown _ _ _).mono (by omega)))))) | quiet_step ((go_at_call 68; exact Calls.regrown_of (HPC.out _ (HBO.out.trans ((below_regrown _ _ _).mono (by omega)))))))
                          refine wpQuiet_nil ?_
                          intro _ hw'
                          obtain ⟨⟨dq2, osq2⟩, hw''⟩ := hw'
                          subst hw''
                          go_wp2
                          go_roundw
                          case rel => exact ⟨q + 1, by omega, by go_num, HO, HBE.out.trans ((below_regrown _ _ _).mono (by omega))⟩
                          case measure => simp [intOf]; omega
                        · have HO := Lib.hid (he2 hp)
                          rw [placeI_neg (by rw [HN.out]; exact hp)] at HPC
                          clear hoe he2 hp
                          go_wp2
                          refine wp_region_quiet_below (by kernel_rfl) (by kernel_rfl) ?_
                          repeat (first | go_big_quiet_step ((go_at_call 68; exact Calls.regrown_of (HPC.out _ (HBO.out.trans ((below_regrown _ _ _).mono (by omega)))))) | quiet_step ((go_at_call 68; exact Calls.regrown_of (HPC.out _ (HBO.out.trans ((below_regrown _ _ _).mono (by omega)))))))
                          refine wpQuiet_nil ?_
                          intro _ hw'
                          obtain ⟨⟨dq2, osq2⟩, hw''⟩ := hw'
                          subst hw''
                          go_wp2
                          go_ret
                          exact ⟨ret_i64 HO.out, HBO.out.trans ((below_regrown _ _ _).mono (by omega))⟩
                      · have hqm : q = m := by omega
                        have HO := Lib.hid (allTo_succ HT.out (show okRef t k = true by rw [HCT.out, ← hqm]; exact HOQ.out))
                        clear hqm
                        go_wp2
                        go_roundw
                        case rel => exact ⟨k + 1, by omega, by go_num, HO, HBO1.out⟩
                        case measure => simp [intOf]; omega
                · have hd : decide ((0 : Int) < (k : Int)) = true := by simp; omega
                  have hd2 : decide (0 < k) = true := by simp; omega
                  have p0 := hprev (by omega)
                  have hk1 : (0 : Int) ≤ (k : Int) - 1 := by omega
                  have hk2 : (k : Int) - 1 < (n : Int) := by omega
                  have hk3 : ((k : Int) - 1).toNat = k - 1 := by omega
                  by_cases hord : pd.id < nd.id
                  · have g2 : decide (nd.id ≤ pd.id) = false := by simp; omega
                    have hf : okFst t k = true := by rw [hfst]; simp [hord]
                    rw [hf, Bool.true_and] at hcut
                    have HCT := Lib.hid hcut; have HEC := Lib.hid hEC
                    clear hA hfst hcut hpb hEC hprev hla hk0 hf hord
                    go_wp2
                    refine wp_region_quiet_below (by kernel_rfl) (by kernel_rfl) ?_
                    repeat (first | go_big_quiet_step ((go_at_call 69; exact Calls.regrown_of (HPLN.out _ (((Below.refl _ _).alloc (Nat.le_refl _) _).trans ((below_regrown _ _ _).mono (Nat.le_of_lt (alloc_lt _ _))))))) | quiet_step ((go_at_call 69; exact Calls.regrown_of (HPLN.out _ (((Below.refl _ _).alloc (Nat.le_refl _) _).trans ((below_regrown _ _ _).mono (Nat.le_of_lt (alloc_lt _ _))))))))
                    refine wpQuiet_nil ?_
                    intro _ hw'
                    obtain ⟨⟨dq, osq⟩, hw''⟩ := hw'
                    subst hw''
                    have hb3 := below_regrown (wr.alloc (.cells #[.int .i64 nd.id, .int .i64 nd.kind, .int .i64 nd.mode, .int .i64 nd.owner, .int .i64 nd.time, .string (nm nd.data), .slice Ae nd.es.length ce] 64)) dq osq
                    generalize grow (redrawn (wr.alloc (.cells #[.int .i64 nd.id, .int .i64 nd.kind, .int .i64 nd.mode, .int .i64 nd.owner, .int .i64 nd.time, .string (nm nd.data), .slice Ae nd.es.length ce] 64)) dq) osq = W3 at hb3 ⊢
                    have HB3 := Lib.hid hb3
                    have s6 : W3.cell? ⟨wr.heap.size, 6, none⟩ = some (.slice Ae nd.es.length ce) := (hb3.cell (p := ⟨wr.heap.size, 6, none⟩) (alloc_lt _ _)).trans (by simp)
                    clear hb3
                    obtain ⟨_, hxr, ⟨Ax, cx, hevx, he0⟩ | ⟨eb, eo, cx, hevx, hecap, heb, hepos, hec⟩⟩ := HEC.out
                    · have hm0 : nd.es.length = 0 := by rw [he0]; rfl
                      have HO := Lib.hid (allTo_succ HT.out (show okRef t k = true by rw [HCT.out, hm0]; rfl))
                      clear hevx he0 hxr
                      generalize nd.es.length = m at *
                      subst hm0
                      go_wp2
                      refine wp_loop_rounds 1 ?_
                      rw [rounds_succ]
                      go_wp2
                      go_roundw
                      case rel => exact ⟨k + 1, by omega, by go_num, HO, (HB.out.alloc (by omega) _).trans (HB3.out.mono (by simp; omega))⟩
                      case measure => simp [intOf]; omega
                    · cases hevx
                      have HECL := Lib.hid hec
                      clear hec hxr
                      generalize hm : nd.es.length = m at *
                      have HM := Lib.hid hm
                      clear hm
                      go_wp2
                      obtain ⟨wo, hwo⟩ : ∃ wo, wo = wr := ⟨_, rfl⟩
                      go_loopw [5] (fun i w2 => ∃ q : Nat, q ≤ m ∧ i = .int .i64 q ∧ Hid (okEnts t.nodes k q = true) ∧ Below (wo.heap.size + 1) W3 w2) (fun i _ => m - (intOf i).toNat)
                      case atStart => exact ⟨0, by omega, rfl, rfl, Below.refl _ _⟩
                      case round =>
                        obtain ⟨q, hq, rfl, HOQ, hbe⟩ := hrel
                        subst hwo
                        have hW3 : wo.heap.size + 1 ≤ W3.heap.size := by have := HB3.out.size; simpa using this
                        have hws2 : wo.heap.size + 1 ≤ wr.heap.size := by have := hbe.size; omega
                        have x6 := (hbe.cell (p := ⟨wo.heap.size, 6, none⟩) (by simp)).trans s6
                        have y0 : wr.cell? ⟨w.heap.size, 0, none⟩ = some (.slice (some ⟨b, off, none⟩) n c) := (hbe.cell (p := ⟨w.heap.size, 0, none⟩) (by simp; omega)).trans ((HB3.out.cell (p := ⟨w.heap.size, 0, none⟩) (by simp; omega)).trans (cell_alloc_lt t0))
                        have y1 : wr.cell? ⟨w.heap.size, 1, none⟩ = some (.int .i64 la) := (hbe.cell (p := ⟨w.heap.size, 1, none⟩) (by simp; omega)).trans ((HB3.out.cell (p := ⟨w.heap.size, 1, none⟩) (by simp; omega)).trans (cell_alloc_lt t1))
                        have y2 : wr.cell? ⟨w.heap.size, 2, none⟩ = some (.int .i64 rn) := (hbe.cell (p := ⟨w.heap.size, 2, none⟩) (by simp; omega)).trans ((HB3.out.cell (p := ⟨w.heap.size, 2, none⟩) (by simp; omega)).trans (cell_alloc_lt t2))
                        have y3 : wr.cell? ⟨w.heap.size, 3, none⟩ = some (.int .i64 rb) := (hbe.cell (p := ⟨w.heap.size, 3, none⟩) (by simp; omega)).trans ((HB3.out.cell (p := ⟨w.heap.size, 3, none⟩) (by simp; omega)).trans (cell_alloc_lt t3))
                        have hbo := HB2.out.trans ((((Below.refl _ _).alloc (Nat.le_refl _) _).trans (HB3.out.mono (Nat.le_of_lt (alloc_lt _ _)))).mono (by omega)) |>.trans (hbe.mono (by omega))
                        have hbo1 := HB.out.trans ((((Below.refl _ _).alloc (Nat.le_refl _) _).trans (HB3.out.mono (Nat.le_of_lt (alloc_lt _ _)))).mono (by omega)) |>.trans (hbe.mono (by omega))
                        have HBO := Lib.hid hbo; have HBO1 := Lib.hid hbo1; have HBE := Lib.hid hbe
                        clear hbo hbo1 hbe t0 t1 t2 t3 s6
                        have hw1 : w.heap.size < wr.heap.size := by omega
                        have hw2 : wo.heap.size < wr.heap.size := by omega
                        have hw4 : eb < wr.heap.size := by omega
                        by_cases hqt : q < m
                        · have d1 : wr.cell? ⟨eb, eo + q * 2 + 1, none⟩ = some (.int .i64 (entAt nd.es q).to) := (((HBE.out.cell (p := ⟨eb, eo + q * 2 + 1, none⟩) (by simp; omega)).trans ((HB3.out.cell (p := ⟨eb, eo + q * 2 + 1, none⟩) (by simp; omega)).trans (World.cell?_alloc_lt wo _ ⟨eb, eo + q * 2 + 1, none⟩ heb))).trans (HECL.out q hqt).2)
                          have hqq : (q : Int) < (m : Int) := by omega
                          have hoe := HOE.out q hqt
                          have he2 := HE2.out _ (HMEM.out q hqt)
                          have HPC := Lib.hid (HPLC.out (entAt nd.es q).to)
                          generalize entAt nd.es q = x at *
                          by_cases hp : place t.nodes x.to < n
                          · have HO : Hid (okEnts t.nodes k (q + 1) = true) := Lib.hid (by rw [hoe, HOQ.out]; simpa using hp)
                            rw [placeI_pos (by rw [HN.out]; exact hp)] at HPC
                            clear hoe he2 hp
                            generalize place t.nodes x.to = p at *
                            have hpn : ¬ (p : Int) < 0 := by omega
                            go_wp2
                            refine wp_region_quiet_below (by kernel_rfl) (by kernel_rfl) ?_
                            repeat (first | go_big_quiet_step ((go_at_call 68; exact Calls.regrown_of (HPC.out _ (HBO.out.trans ((below_regrown _ _ _).mono (by omega)))))) | quiet_step ((go_at_call 68; exact Calls.regrown_of (HPC.out _ (HBO.out.trans ((below_regrown _ _ _).mono (by omega)))))))
                            refine wpQuiet_nil ?_
                            intro _ hw'
                            obtain ⟨⟨dq2, osq2⟩, hw''⟩ := hw'
                            subst hw''
                            go_wp2
                            go_roundw
                            case rel => exact ⟨q + 1, by omega, by go_num, HO, HBE.out.trans ((below_regrown _ _ _).mono (by omega))⟩
                            case measure => simp [intOf]; omega
                          · have HO := Lib.hid (he2 hp)
                            rw [placeI_neg (by rw [HN.out]; exact hp)] at HPC
                            clear hoe he2 hp
                            go_wp2
                            refine wp_region_quiet_below (by kernel_rfl) (by kernel_rfl) ?_
                            repeat (first | go_big_quiet_step ((go_at_call 68; exact Calls.regrown_of (HPC.out _ (HBO.out.trans ((below_regrown _ _ _).mono (by omega)))))) | quiet_step ((go_at_call 68; exact Calls.regrown_of (HPC.out _ (HBO.out.trans ((below_regrown _ _ _).mono (by omega)))))))
                            refine wpQuiet_nil ?_
                            intro _ hw'
                            obtain ⟨⟨dq2, osq2⟩, hw''⟩ := hw'
                            subst hw''
                            go_wp2
                            go_ret
                            exact ⟨ret_i64 HO.out, HBO.out.trans ((below_regrown _ _ _).mono (by omega))⟩
                        · have hqm : q = m := by omega
                          have HO := Lib.hid (allTo_succ HT.out (show okRef t k = true by rw [HCT.out, ← hqm]; exact HOQ.out))
                          clear hqm
                          go_wp2
                          go_roundw
                          case rel => exact ⟨k + 1, by omega, by go_num, HO, HBO1.out⟩
                          case measure => simp [intOf]; omega
                  · have g2 : decide (nd.id ≤ pd.id) = true := by simp; omega
                    have HO := Lib.hid (hA (by rw [hcut, hfst]; simp [hord, hk0]))
                    clear hA hfst hcut hpb hEC hprev hla hk0 hord
                    go_wp2
                    refine wp_region_quiet_below (by kernel_rfl) (by kernel_rfl) ?_
                    repeat (first | go_big_quiet_step ((go_at_call 69; exact Calls.regrown_of (HPLN.out _ (((Below.refl _ _).alloc (Nat.le_refl _) _).trans ((below_regrown _ _ _).mono (Nat.le_of_lt (alloc_lt _ _))))))) | quiet_step ((go_at_call 69; exact Calls.regrown_of (HPLN.out _ (((Below.refl _ _).alloc (Nat.le_refl _) _).trans ((below_regrown _ _ _).mono (Nat.le_of_lt (alloc_lt _ _))))))))
                    refine wpQuiet_nil ?_
                    intro _ hw'
                    obtain ⟨⟨dq, osq⟩, hw''⟩ := hw'
                    subst hw''
                    go_wp2
                    go_ret
                    exact ⟨ret_i64 HO.out, (HB2.out.alloc (by omega) _).trans ((below_regrown _ dq osq).mono (by simp; omega))⟩
              · have g1 : decide (la < nd.id) = true := by simp; omega
                have HO := Lib.hid (hA (by rw [hcut, hfst, decide_eq_false hla]; rfl))
                clear hA hfst hcut hpb hEC hprev hla
                go_wp2
                refine wp_region_quiet_below (by kernel_rfl) (by kernel_rfl) ?_
                repeat (first | go_big_quiet_step ((go_at_call 69; exact Calls.regrown_of (HPLN.out _ (((Below.refl _ _).alloc (Nat.le_refl _) _).trans ((below_regrown _ _ _).mono (Nat.le_of_lt (alloc_lt _ _))))))) | quiet_step ((go_at_call 69; exact Calls.regrown_of (HPLN.out _ (((Below.refl _ _).alloc (Nat.le_refl _) _).trans ((below_regrown _ _ _).mono (Nat.le_of_lt (alloc_lt _ _))))))))
                refine wpQuiet_nil ?_
                intro _ hw'
                obtain ⟨⟨dq, osq⟩, hw''⟩ := hw'
                subst hw''
                go_wp2
                go_ret
                exact ⟨ret_i64 HO.out, (HB2.out.alloc (by omega) _).trans ((below_regrown _ dq osq).mono (by simp; omega))⟩
          · have hkn : k = n := by omega
            have HOK : Hid (allTo (okRef t) n = true) := Lib.hid (by rw [← hkn]; exact HT.out)
            clear hkn
            obtain ⟨wz, hwz⟩ : ∃ wz, wz = wr := ⟨_, rfl⟩
            go_wp2
            go_loopw [6] (fun i wr => ∃ k : Nat, k ≤ n ∧ i = .int .i64 k ∧ Hid (allTo (okLinks t.nodes) k = true) ∧ Below (w.heap.size + 1) (w.alloc (.cells #[.slice (some ⟨b, off, none⟩) n c, .int .i64 la, .int .i64 rn, .int .i64 rb] 26)) wr) (fun i _ => n - (intOf i).toNat)
            case atStart => exact ⟨0, by omega, rfl, rfl, HB.out⟩
            case round =>
              obtain ⟨k, hk, rfl, HT2, hbel⟩ := hrel
              clear hwr hws hbw2 HB2 t0 t1 t2 t3 HB hwz
              have hwr : w.heap.size + 1 ≤ wr.heap.size := by have := hbel.size; simpa using this
              have hws : w.heap.size < wr.heap.size := by omega
              have hbw2 : b < wr.heap.size := by omega
              have HB2 := Lib.hid (((Below.refl w.heap.size w).alloc (Nat.le_refl _) (.cells #[.slice (some ⟨b, off, none⟩) n c, .int .i64 la, .int .i64 rn, .int .i64 rb] 26)).trans (hbel.mono (by omega)))
              have t0 : wr.cell? ⟨w.heap.size, 0, none⟩ = some (.slice (some ⟨b, off, none⟩) n c) := (hbel.cell (p := ⟨w.heap.size, 0, none⟩) (by simp)).trans (by simp)
              have t1 : wr.cell? ⟨w.heap.size, 1, none⟩ = some (.int .i64 la) := (hbel.cell (p := ⟨w.heap.size, 1, none⟩) (by simp)).trans (by simp)
              have t2 : wr.cell? ⟨w.heap.size, 2, none⟩ = some (.int .i64 rn) := (hbel.cell (p := ⟨w.heap.size, 2, none⟩) (by simp)).trans (by simp)
              have t3 : wr.cell? ⟨w.heap.size, 3, none⟩ = some (.int .i64 rb) := (hbel.cell (p := ⟨w.heap.size, 3, none⟩) (by simp)).trans (by simp)
              have HB := Lib.hid hbel
              clear hbel
              by_cases hlt : k < n
              · have hkk : (k : Int) < (n : Int) := by omega
                have hl1 := HL1.out HOK.out k hlt
                have hlks := HLKS.out k
                obtain ⟨c0, c1, _⟩ : NodeIn wr wr.heap.size b (off + k * 7) (ndAt t.nodes k) := ((HC.out k hlt).more (B' := w.heap.size) hB |>.below (by omega) HB2.out).more (by omega)
                have HLC := Lib.hid (HLKC.out (ndAt t.nodes k).id)
                generalize links t.nodes (ndAt t.nodes k).id = lk at *
                generalize (ndAt t.nodes k).id = idk at *
                generalize (ndAt t.nodes k).kind = kd at *
                by_cases hk0 : k = 0
                · have i1 : ((k : Int) == 0) = true := by simp; omega
                  have i2 : decide ((0 : Int) < (k : Int)) = false := by simp; omega
                  have i3 : decide (0 < k) = false := by simp; omega
                  by_cases hlk : 0 < lk
                  · have j1 : decide ((0 : Int) < (lk : Int)) = true := by simp; omega
                    have j2 : decide (0 < lk) = true := by simp; omega
                    have HO := Lib.hid (hl1 (by rw [hlks, hk0, j2]; rfl))
                    clear hl1 hlks hk0 hlk
                    go_wp2
                    refine wp_region_quiet_below (by kernel_rfl) (by kernel_rfl) ?_
                    repeat (first | go_big_quiet_step ((go_at_call 31; exact Calls.regrown_of (HLC.out _ (HB2.out.trans ((below_regrown _ _ _).mono (by omega)))))) | quiet_step ((go_at_call 31; exact Calls.regrown_of (HLC.out _ (HB2.out.trans ((below_regrown _ _ _).mono (by omega)))))))
                    refine wpQuiet_nil ?_
                    intro _ hw'
                    obtain ⟨⟨dq, osq⟩, hw''⟩ := hw'
                    subst hw''
                    go_wp2
                    go_ret
                    exact ⟨ret_i64 HO.out, HB2.out.trans ((below_regrown _ dq osq).mono (by omega))⟩
                  · have hz : lk = 0 := by omega
                    have j1 : decide ((0 : Int) < (lk : Int)) = false := by simp; omega
                    have j2 : decide (0 < lk) = false := by simp; omega
                    have j3 : decide ((1 : Int) < (lk : Int)) = false := by simp; omega
                    have j4 : decide (1 < lk) = false := by simp; omega
                    have HO := Lib.hid (allTo_succ HT2.out (show okLinks t.nodes k = true by rw [hlks, j2, i3, j4]; simp))
                    clear hl1 hlks hk0 hlk hz
                    by_cases hkd : kd = 1
                    · have k1 : (kd == 1) = true := by simpa using hkd
                      clear hkd
                      go_wp2
                      refine wp_region_quiet_below (by kernel_rfl) (by kernel_rfl) ?_
                      repeat (first | go_big_quiet_step ((go_at_call 31; exact Calls.regrown_of (HLC.out _ (HB2.out.trans ((below_regrown _ _ _).mono (by omega)))))) | quiet_step ((go_at_call 31; exact Calls.regrown_of (HLC.out _ (HB2.out.trans ((below_regrown _ _ _).mono (by omega)))))))
                      refine wpQuiet_nil ?_
                      intro _ hw'
                      obtain ⟨⟨dq, osq⟩, hw''⟩ := hw'
                      subst hw''
                      go_wp2
                      go_roundw
                      case rel => exact ⟨k + 1, by omega, by go_num, HO, HB.out.trans ((below_regrown _ dq osq).mono (by omega))⟩
                      case measure => simp [intOf]; omega
                    · have k1 : (kd == 1) = false := by simpa using hkd
                      clear hkd
                      go_wp2
                      refine wp_region_quiet_below (by kernel_rfl) (by kernel_rfl) ?_
                      repeat (first | go_big_quiet_step ((go_at_call 31; exact Calls.regrown_of (HLC.out _ (HB2.out.trans ((below_regrown _ _ _).mono (by omega)))))) | quiet_step ((go_at_call 31; exact Calls.regrown_of (HLC.out _ (HB2.out.trans ((below_regrown _ _ _).mono (by omega)))))))
                      refine wpQuiet_nil ?_
                      intro _ hw'
                      obtain ⟨⟨dq, osq⟩, hw''⟩ := hw'
                      subst hw''
                      go_wp2
                      go_roundw
                      case rel => exact ⟨k + 1, by omega, by go_num, HO, HB.out.trans ((below_regrown _ dq osq).mono (by omega))⟩
                      case measure => simp [intOf]; omega
                · have i1 : ((k : Int) == 0) = false := by simp; omega
                  have i2 : decide ((0 : Int) < (k : Int)) = true := by simp; omega
                  have i3 : decide (0 < k) = true := by simp; omega
                  have i4 : (k == 0) = false := by simp; omega
                  by_cases hlk : lk = 0
                  · have j1 : ((lk : Int) == 0) = true := by simp; omega
                    have HO := Lib.hid (hl1 (by rw [hlks, i3, hlk]; simp))
                    clear hl1 hlks hk0 hlk
                    go_wp2
                    refine wp_region_quiet_below (by kernel_rfl) (by kernel_rfl) ?_
                    repeat (first | go_big_quiet_step ((go_at_call 31; exact Calls.regrown_of (HLC.out _ (HB2.out.trans ((below_regrown _ _ _).mono (by omega)))))) | quiet_step ((go_at_call 31; exact Calls.regrown_of (HLC.out _ (HB2.out.trans ((below_regrown _ _ _).mono (by omega)))))))
                    refine wpQuiet_nil ?_
                    intro _ hw'
                    obtain ⟨⟨dq, osq⟩, hw''⟩ := hw'
                    subst hw''
                    go_wp2
                    go_ret
                    exact ⟨ret_i64 HO.out, HB2.out.trans ((below_regrown _ dq osq).mono (by omega))⟩
                  · have j1 : ((lk : Int) == 0) = false := by simp; omega
                    have j0 : (lk == 0) = false := by simp; omega
                    by_cases hkd : kd = 1
                    · have k1 : (kd == 1) = true := by simpa using hkd
                      by_cases h2 : 1 < lk
                      · have j3 : decide ((1 : Int) < (lk : Int)) = true := by simp; omega
                        have j4 : decide (1 < lk) = true := by simp; omega
                        have HO := Lib.hid (hl1 (by rw [hlks, k1, j4]; simp))
                        clear hl1 hlks hk0 hlk hkd h2
                        go_wp2
                        refine wp_region_quiet_below (by kernel_rfl) (by kernel_rfl) ?_
                        repeat (first | go_big_quiet_step ((go_at_call 31; exact Calls.regrown_of (HLC.out _ (HB2.out.trans ((below_regrown _ _ _).mono (by omega)))))) | quiet_step ((go_at_call 31; exact Calls.regrown_of (HLC.out _ (HB2.out.trans ((below_regrown _ _ _).mono (by omega)))))))
                        refine wpQuiet_nil ?_
                        intro _ hw'
                        obtain ⟨⟨dq, osq⟩, hw''⟩ := hw'
                        subst hw''
                        go_wp2
                        go_ret
                        exact ⟨ret_i64 HO.out, HB2.out.trans ((below_regrown _ dq osq).mono (by omega))⟩
                      · have j3 : decide ((1 : Int) < (lk : Int)) = false := by simp; omega
                        have j4 : decide (1 < lk) = false := by simp; omega
                        have HO := Lib.hid (allTo_succ HT2.out (show okLinks t.nodes k = true by rw [hlks, i4, j0, j4]; simp))
                        clear hl1 hlks hk0 hlk hkd h2
                        go_wp2
                        refine wp_region_quiet_below (by kernel_rfl) (by kernel_rfl) ?_
                        repeat (first | go_big_quiet_step ((go_at_call 31; exact Calls.regrown_of (HLC.out _ (HB2.out.trans ((below_regrown _ _ _).mono (by omega)))))) | quiet_step ((go_at_call 31; exact Calls.regrown_of (HLC.out _ (HB2.out.trans ((below_regrown _ _ _).mono (by omega)))))))
                        refine wpQuiet_nil ?_
                        intro _ hw'
                        obtain ⟨⟨dq, osq⟩, hw''⟩ := hw'
                        subst hw''
                        go_wp2
                        go_roundw
                        case rel => exact ⟨k + 1, by omega, by go_num, HO, HB.out.trans ((below_regrown _ dq osq).mono (by omega))⟩
                        case measure => simp [intOf]; omega
                    · have k1 : (kd == 1) = false := by simpa using hkd
                      have HO := Lib.hid (allTo_succ HT2.out (show okLinks t.nodes k = true by rw [hlks, i4, j0, k1]; simp))
                      clear hl1 hlks hk0 hlk hkd
                      go_wp2
                      refine wp_region_quiet_below (by kernel_rfl) (by kernel_rfl) ?_
                      repeat (first | go_big_quiet_step ((go_at_call 31; exact Calls.regrown_of (HLC.out _ (HB2.out.trans ((below_regrown _ _ _).mono (by omega)))))) | quiet_step ((go_at_call 31; exact Calls.regrown_of (HLC.out _ (HB2.out.trans ((below_regrown _ _ _).mono (by omega)))))))
                      refine wpQuiet_nil ?_
                      intro _ hw'
                      obtain ⟨⟨dq, osq⟩, hw''⟩ := hw'
                      subst hw''
                      go_wp2
                      go_roundw
                      case rel => exact ⟨k + 1, by omega, by go_num, HO, HB.out.trans ((below_regrown _ dq osq).mono (by omega))⟩
                      case measure => simp [intOf]; omega
              · have hkn : k = n := by omega
                have HOK2 : Hid (allTo (okLinks t.nodes) n = true) := Lib.hid (by rw [← hkn]; exact HT2.out)
                have hwy := fun W hW => HWYC.out W hW (HNAMES.out HOK.out)
                have HNO := Lib.hid (HR1.out HOK.out HOK2.out); have HYES := Lib.hid (HR2.out HOK.out HOK2.out)
                have hdfs : TreeM.dfs t.nodes t.nodes.length 1 0 [] [47] [] = way t.nodes := rfl
                rw [HN.out] at hdfs
                rw [hdfs] at hwy
                have HWY := Lib.hid hwy
                clear hkn hwy hdfs
                generalize way t.nodes = wl at *
                go_wp2
                go_region_held3 (fun w' => w'.cell? ⟨w.heap.size, 0, none⟩ = some (.slice (some ⟨b, off, none⟩) n c) ∧ w'.cell? ⟨w.heap.size, 1, none⟩ = some (.int .i64 la) ∧ w'.cell? ⟨w.heap.size, 2, none⟩ = some (.int .i64 rn) ∧ w'.cell? ⟨w.heap.size, 3, none⟩ = some (.int .i64 rb) ∧ Below w.heap.size w w')
                  (first | exact ⟨t0, t1, t2, t3, HB2.out.drew⟩ | exact ⟨(hb5.cell (p := ⟨w.heap.size, 0, none⟩) hws).trans t0, (hb5.cell (p := ⟨w.heap.size, 1, none⟩) hws).trans t1, (hb5.cell (p := ⟨w.heap.size, 2, none⟩) hws).trans t2, (hb5.cell (p := ⟨w.heap.size, 3, none⟩) hws).trans t3, HB2.out.drew.trans (hb5.mono (by omega))⟩)
                  (first | (go_at_call 70; refine (HWY.out wr.drew HB2.out.drew).mono ?_; rintro e w5 ⟨v5, rfl, hr5, hg5⟩; obtain ⟨va5, vc5, rfl⟩ := ownsRow_len3 hr5; have hb5 : Below wr.heap.size wr.drew w5 := hg5.below (Nat.le_refl _) (fun b hb => by simp [Value.ownBlock] at hb); clear hr5 hg5))
                cases hlw : (wl.length == n) with
                | false =>
                  have HO := Lib.hid (HNO.out hlw)
                  have q1 : ((wl.length : Int) != (n : Int)) = true := by simp at hlw ⊢; omega
                  clear hlw
                  go_wp2
                  go_ret
                  exact ⟨ret_i64 HO.out, HB2.out.drew.trans (hb5.mono (by omega))⟩
                | true =>
                  have HO := Lib.hid (HYES.out hlw)
                  have q1 : ((wl.length : Int) != (n : Int)) = false := by simp at hlw ⊢; omega
                  clear hlw
                  go_wp2
                  go_ret
                  exact ⟨ret_i64 HO.out, HB2.out.drew.trans (hb5.mono (by omega))⟩
      · have HO := Lib.hid (hno (by rw [hhead]; simp [hki]))
        have q1 : ((ndAt t.nodes 0).kind != 1) = true := by simpa using hki
        rw [hid] at d0
        clear hno hhead href hcells hN hN0 hpl hlk hwy hki hid hr
        generalize (ndAt t.nodes 0).kind = kd at *
        go_enter Tryz.func32, Tryz.ntmps32
        go_wp2
        go_ret
        exact ⟨ret_i64 HO.out, (Below.refl _ _).alloc (Nat.le_refl _) _⟩
    · have HO := Lib.hid (hno (by rw [hhead]; simp [hid]))
      have q1 : ((ndAt t.nodes 0).id != 1) = true := by simpa using hid
      clear hno hhead href hcells hN hN0 hpl hlk hwy hid hr d1
      generalize (ndAt t.nodes 0).id = kd at *
      go_enter Tryz.func32, Tryz.ntmps32
      go_wp2
      go_ret
      exact ⟨ret_i64 HO.out, (Below.refl _ _).alloc (Nat.le_refl _) _⟩
  · have HO := Lib.hid (hno (by rw [hhead]; simp [hbig]))
    clear hno hhead href hcells hN hN0 hpl hlk hwy hr d0 d1
    go_enter Tryz.func32, Tryz.ntmps32
    go_wp2
    go_ret
    exact ⟨ret_i64 HO.out, (Below.refl _ _).alloc (Nat.le_refl _) _⟩

end Go.Proofs.YtkmnbbocahjmaaaGreatDoor
