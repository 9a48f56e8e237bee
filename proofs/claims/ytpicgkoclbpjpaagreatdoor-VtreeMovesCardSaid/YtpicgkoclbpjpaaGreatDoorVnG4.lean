/- DERIVED. Stage 5, several texts in one: TreeRChk TreeNames TreePath TreeMath3 TreeCan1 TreeCan TreeAwk TreeRSame TreeRSame2. -/
import Derived.Test.YtpicgkoclbpjpaaGreatDoorVnG3
import Derived.Deep.RegionHeld3
import Derived.Test.YtpicgkoclbpjpaaGreatDoorShelf2
import Derived.Test.YtpicgkoclbpjpaaGreatDoorVnG1
import Derived.Laws.OwnMore
import Derived.Laws.AppendOwnNone
import Derived.Laws.ResultCell
import Derived.Laws.Rows
import Derived.Lib.QuietBelow
section
namespace Go.Proofs.YtpicgkoclbpjpaaGreatDoor
open Go.RowKit Go.Sort
open PathM TreeM
set_option linter.unusedVariables false

attribute [local go_sem] cell_rg

/-- What the first loop has seen of a node: all but its entries. -/
def okFst (t : Tr) (i : Nat) : Bool := plainB (ndAt t.nodes i) && okNum t.nodes t.last i
def okEnts (l : List Nd) (i q : Nat) : Bool := ((ndAt l i).es.take q).all fun x => decide (place l x.to < l.length)
theorem okRef_cut (t : Tr) (i : Nat) : okRef t i = (okFst t i && okEnts t.nodes i (ndAt t.nodes i).es.length) := by
  unfold okRef okFst okEnts; rw [List.take_length]
theorem okEnts_step {l : List Nd} {i q : Nat} (h : q < (ndAt l i).es.length) : okEnts l i (q + 1) = (okEnts l i q && decide (place l (entAt (ndAt l i).es q).to < l.length)) := by
  have e : entAt (ndAt l i).es q = (ndAt l i).es[q] := by simp [entAt, h]
  unfold okEnts
  rw [List.take_succ_eq_append_getElem h, List.all_append, e]
  simp
theorem okEnts_fail {l : List Nd} {i : Nat} {x : Ent} (hx : x ∈ (ndAt l i).es) (h : ¬ place l x.to < l.length) : okEnts l i (ndAt l i).es.length = false := by
  unfold okEnts
  rw [List.take_length]
  rw [List.all_eq_false]
  exact ⟨x, hx, by simpa using h⟩
def refI (t : Tr) : Int := if refB t = true then 0 else 80
theorem refI_eq (t : Tr) : refI t = checkI t := by unfold refI checkI; rw [check_eq]
theorem placeI_neg {l : List Nd} {id : Int} (h : ¬ place l id < l.length) : placeI l id = -1 := by unfold placeI; rw [if_neg h]
theorem placeI_pos {l : List Nd} {id : Int} (h : place l id < l.length) : placeI l id = (place l id : Int) := by unfold placeI; rw [if_pos h]
theorem plain_names {t : Tr} {w : World} {B : Nat} {nv : Value} (h : allTo (okRef t) t.nodes.length = true) : ∀ x ∈ flat t.nodes, x.key.length ≤ 64 := by
  intro x hx
  obtain ⟨i, hi, hxi⟩ := flat_mem.1 hx
  have := allTo_iff.1 h i hi
  simp only [okRef, Bool.and_eq_true] at this
  exact (nameB_parts (name_of_ents (plain_ents this.1.1) hxi)).2.2

set_option maxRecDepth 100000 in
set_option maxHeartbeats 8000000 in
theorem rcheck_any (nv : Value) (t : Tr) (B : Nat) (w : World) (hN : NodesIn w B nv t.nodes) (hB : B ≤ w.heap.size) :
    Calls Tryz.prog 32 #[trV nv t] w fun e w' => e = .returned (.int .i64 (checkI t)) ∧ Below w.heap.size w w' := by
  have hN0 := hN.more hB
  rw [← refI_eq]
  obtain ⟨hlen, ⟨A, c, rfl, h0⟩ | ⟨b, off, c, rfl, hcap, hb, hpos, hcells⟩⟩ := hN.cases
  · have hr : refI t = 80 := by simp [refI, refB, headB, h0]
    rw [hr]
    unfold trV
    clear hr hN h0 hN0
    go_enter Tryz.func32, Tryz.ntmps32
    go_wp2
    go_ret
    exact ⟨rfl, (Below.refl _ _).alloc (Nat.le_refl _) _⟩
  obtain ⟨r, hr⟩ : ∃ r, refI t = r := ⟨_, rfl⟩
  rw [hr]
  have href : refI t = if (headB t && allTo (okRef t) t.nodes.length && allTo (okLinks t.nodes) t.nodes.length && reachedB t.nodes) = true then 0 else 80 := rfl
  rw [hr] at href
  have hbw : b < w.heap.size := by omega
  have hN1 := hcells 0 hpos
  rw [show off + 0 * 7 = off by omega] at hN1
  obtain ⟨d0, d1, _⟩ := hN1
  have hpl := fun id W (hW : Below w.heap.size w W) => rplace_any (.slice (some ⟨b, off, none⟩) t.nodes.length c) t id w.heap.size W (hN0.below hW) hW.size
  have hlk := fun id W (hW : Below w.heap.size w W) (hf : (flat t.nodes).length ≤ 4611686018427387904) => rlinks_any (.slice (some ⟨b, off, none⟩) t.nodes.length c) t id w.heap.size W (hN0.below hW) hW.size hf
  have hwy := fun W (hW : Below w.heap.size w W) (hn : t.nodes.length ≤ 512) hnames => rway_any (.slice (some ⟨b, off, none⟩) t.nodes.length c) t w.heap.size W (hN0.below hW) hn hnames t.nodes.length [] 1 0 [] [47] (.slice none 0 0) W (by rw [unmet_nil]; exact Nat.le_refl _) (by simp; omega) (Below.refl _ _) hW.size ⟨by simp, by simp⟩ (World.ownsRow_nil _ _ _ _)
  unfold trV at *
  have hno : headB t = false → (80 : Int) = r := fun h => by rw [href, h]; rfl
  have hhead : headB t = decide (1 ≤ t.nodes.length ∧ t.nodes.length ≤ 512 ∧ (ndAt t.nodes 0).id = 1 ∧ (ndAt t.nodes 0).kind = 1) := rfl
  by_cases hbig : t.nodes.length ≤ 512
  · by_cases hid : (ndAt t.nodes 0).id = 1
    · by_cases hki : (ndAt t.nodes 0).kind = 1
      · have hh : headB t = true := by rw [hhead]; simp [hid, hki, hbig]; omega
        rw [hh] at href
        have hA : ∀ k, k < t.nodes.length → okRef t k = false → (80 : Int) = r := fun k hk h => by rw [href, allTo_not hk h]; rfl
        have hE1 : ∀ k, k < t.nodes.length → ∀ x ∈ (ndAt t.nodes k).es, ¬ place t.nodes x.to < t.nodes.length → (80 : Int) = r := fun k hk x hx h => hA k hk (by rw [okRef_cut, okEnts_fail hx h, Bool.and_false])
        have hL1 : allTo (okRef t) t.nodes.length = true → ∀ k, k < t.nodes.length → okLinks t.nodes k = false → (80 : Int) = r := fun h1 k hk h => by rw [href, h1, allTo_not hk h]; rfl
        have hR1 : allTo (okRef t) t.nodes.length = true → allTo (okLinks t.nodes) t.nodes.length = true → ((way t.nodes).length == t.nodes.length) = false → (80 : Int) = r := fun h1 h2 h => by rw [href, h1, h2]; show _ = if (true && true && true && ((way t.nodes).length == t.nodes.length)) = true then _ else _; rw [h]; rfl
        have hR2 : allTo (okRef t) t.nodes.length = true → allTo (okLinks t.nodes) t.nodes.length = true → ((way t.nodes).length == t.nodes.length) = true → (0 : Int) = r := fun h1 h2 h => by rw [href, h1, h2]; show _ = if (true && true && true && ((way t.nodes).length == t.nodes.length)) = true then _ else _; rw [h]; rfl
        have hfl := flat_len hN0 hbig
        have hnames := fun h => plain_names (w := w) (B := B) (nv := .slice (some ⟨b, off, none⟩) t.nodes.length c) (t := t) h
        have hcut := okRef_cut t
        have HA := Lib.hid hA; have HE1 := Lib.hid hE1; have HL1 := Lib.hid hL1; have HR1 := Lib.hid hR1; have HR2 := Lib.hid hR2; have HNAMES := Lib.hid hnames; have HCUT := Lib.hid hcut; have HC := Lib.hid hcells
        have HPLC := Lib.hid hpl; have HLKC := Lib.hid (fun id W hW => hlk id W hW hfl); have HWYC := Lib.hid (fun W hW hn2 => hwy W hW hbig hn2)
        rw [hid] at d0
        rw [hki] at d1
        clear hA hE1 hL1 hR1 hR2 hnames hcut hcells hpl hlk hwy hfl hN hN0 hno hhead href hh hid hki hr
        have hfst : ∀ k, okFst t k = (plainB (ndAt t.nodes k) && (decide ((ndAt t.nodes k).id ≤ t.last) && (k == 0 || decide ((ndAt t.nodes (k - 1)).id < (ndAt t.nodes k).id)))) := fun _ => rfl
        have hlks : ∀ k, okLinks t.nodes k = (!(k == 0 && decide (0 < links t.nodes (ndAt t.nodes k).id)) && !(decide (0 < k) && links t.nodes (ndAt t.nodes k).id == 0) && !((ndAt t.nodes k).kind == 1 && decide (1 < links t.nodes (ndAt t.nodes k).id))) := fun _ => rfl
        have HFST := Lib.hid hfst; have HLKS := Lib.hid hlks
        clear hfst hlks
        generalize hn : t.nodes.length = n at *
        have HN := Lib.hid hn
        clear hn
        generalize t.last = la at *
        generalize t.rn = rn at *
        generalize t.rb = rb at *
        go_enter Tryz.func32, Tryz.ntmps32
        go_wp2
        go_loopw [3] (fun i wr => ∃ k : Nat, k ≤ n ∧ i = .int .i64 k ∧ Hid (allTo (okRef t) k = true) ∧ Below (w.heap.size + 1) (w.alloc (.cells #[.slice (some ⟨b, off, none⟩) n c, .int .i64 la, .int .i64 rn, .int .i64 rb] 26)) wr) (fun i _ => n - (intOf i).toNat)
        case atStart => exact ⟨0, by omega, rfl, rfl, Below.refl _ _⟩
        case round =>
          obtain ⟨k, hk, rfl, HT, hbel⟩ := hrel
          have hwr : w.heap.size + 1 ≤ wr.heap.size := by have := hbel.size; simpa using this
          have hws : w.heap.size < wr.heap.size := by omega
          have hbw2 : b < wr.heap.size := by omega
          have HB2 := Lib.hid (((Below.refl w.heap.size w).alloc (Nat.le_refl _) (.cells #[.slice (some ⟨b, off, none⟩) n c, .int .i64 la, .int .i64 rn, .int .i64 rb] 26)).trans (hbel.mono (by omega)))
          have t0 : wr.cell? ⟨w.heap.size, 0, none⟩ = some (.slice (some ⟨b, off, none⟩) n c) := (hbel.cell (p := ⟨w.heap.size, 0, none⟩) (by simp)).trans (by simp)
          have t1 : wr.cell? ⟨w.heap.size, 1, none⟩ = some (.int .i64 la) := (hbel.cell (p := ⟨w.heap.size, 1, none⟩) (by simp)).trans (by simp)
          have t2 : wr.cell? ⟨w.heap.size, 2, none⟩ = some (.int .i64 rn) := (hbel.cell (p := ⟨w.heap.size, 2, none⟩) (by simp)).trans (by simp)
          have t3 : wr.cell? ⟨w.heap.size, 3, none⟩ = some (.int .i64 rb) := (hbel.cell (p := ⟨w.heap.size, 3, none⟩) (by simp)).trans (by simp)
          have HB := Lib.hid hbel
          clear hbel
          by_cases hlt : k < n
          · have hNd : NodeIn wr wr.heap.size b (off + k * 7) (ndAt t.nodes k) := ((HC.out k hlt).more (B' := w.heap.size) hB |>.below (by omega) HB2.out).more (by omega)
            have hkk : (k : Int) < (n : Int) := by omega
            have hws1 : w.heap.size < wr.heap.size + 1 := by omega
            have hbw3 : b < wr.heap.size + 1 := by omega
            have hA := HA.out k hlt
            have hfst := HFST.out k
            have hcut := HCUT.out k
            have hE1 := HE1.out k hlt
            have hOE : ∀ q, q < (ndAt t.nodes k).es.length → okEnts t.nodes k (q + 1) = (okEnts t.nodes k q && decide (place t.nodes (entAt (ndAt t.nodes k).es q).to < t.nodes.length)) := fun q hq => okEnts_step hq
            have hmem : ∀ q, q < (ndAt t.nodes k).es.length → entAt (ndAt t.nodes k).es q ∈ (ndAt t.nodes k).es := fun q hq => entAt_mem hq
            rw [HN.out] at hOE
            have hprev : 0 < k → wr.cell? ⟨b, off + (k - 1) * 7, none⟩ = some (.int .i64 (ndAt t.nodes (k - 1)).id) := fun h0 => (HB2.out.cell (p := ⟨b, off + (k - 1) * 7, none⟩) hbw).trans (HC.out (k - 1) (by omega)).1
            generalize ndAt t.nodes k = nd at *
            generalize ndAt t.nodes (k - 1) = pd at *
            obtain ⟨c0, c1, c2, c3, c4, c5, hdl, ev, c6, hE⟩ := hNd
            have hPLN : ∀ W, Below wr.heap.size wr W → Calls Tryz.prog 69 #[ndV ev nd] W fun e w' => e = .returned (.bool (plainB nd)) ∧ Below W.heap.size W w' := fun W h => rplain_any ev nd wr.heap.size W (hE.below h) h.size hdl
            have hEC := hE.cases
            obtain ⟨Ae, ce, rfl, hml⟩ := ents_len hE
            unfold ndV at hPLN
            have HPLN := Lib.hid hPLN; have HOE := Lib.hid hOE; have HMEM := Lib.hid hmem; have HE2 := Lib.hid hE1
            clear hPLN hOE hmem hE1 hdl hE
            cases hpb : plainB nd with
            | false =>
              have HO := Lib.hid (hA (by rw [hcut, hfst, hpb]; rfl))
              rw [hpb] at HPLN
              clear hA hfst hcut hpb hEC hprev
              go_wp2
              refine wp_region_quiet_below (by kernel_rfl) (by kernel_rfl) ?_
              repeat (first | go_big_quiet_step ((go_at_call 69; exact Calls.regrown_of (HPLN.out _ (((Below.refl _ _).alloc (Nat.le_refl _) _).trans ((below_regrown _ _ _).mono (Nat.le_of_lt (alloc_lt _ _))))))) | quiet_step ((go_at_call 69; exact Calls.regrown_of (HPLN.out _ (((Below.refl _ _).alloc (Nat.le_refl _) _).trans ((below_regrown _ _ _).mono (Nat.le_of_lt (alloc_lt _ _))))))))
              refine wpQuiet_nil ?_
              intro _ hw'
              obtain ⟨⟨dq, osq⟩, hw''⟩ := hw'
              subst hw''
              go_wp2
              go_ret
              exact ⟨ret_i64 HO.out, (HB2.out.alloc (by omega) _).trans ((below_regrown _ dq osq).mono (by simp; omega))⟩
            | true =>
              rw [hpb] at HPLN hfst
              rw [Bool.true_and] at hfst
              by_cases hla : nd.id ≤ la
              · have g1 : decide (la < nd.id) = false := by simp; omega
                rw [decide_eq_true hla, Bool.true_and] at hfst
                by_cases hk0 : k = 0
                · have hd : decide ((0 : Int) < (k : Int)) = false := by simp; omega
                  have hd2 : decide (0 < k) = false := by simp; omega
                  have hf : okFst t k = true := by rw [hfst, hk0]; rfl
                  rw [hf, Bool.true_and] at hcut
                  have HCT := Lib.hid hcut; have HEC := Lib.hid hEC
                  clear hA hfst hcut hpb hEC hprev hla hk0 hf
                  go_wp2
                  refine wp_region_quiet_below (by kernel_rfl) (by kernel_rfl) ?_
                  repeat (first | go_big_quiet_step ((go_at_call 69; exact Calls.regrown_of (HPLN.out _ (((Below.refl _ _).alloc (Nat.le_refl _) _).trans ((below_regrown _ _ _).mono (Nat.le_of_lt (alloc_lt _ _))))))) | quiet_step ((go_at_call 69; exact Calls.regrown_of (HPLN.out _ (((Below.refl _ _).alloc (Nat.le_refl _) _).trans ((below_regrown _ _ _).mono (Nat.le_of_lt (alloc_lt _ _))))))))
                  refine wpQuiet_nil ?_
                  intro _ hw'
                  obtain ⟨⟨dq, osq⟩, hw''⟩ := hw'
                  subst hw''
                  have hb3 := below_regrown (wr.alloc (.cells #[.int .i64 nd.id, .int .i64 nd.kind, .int .i64 nd.mode, .int .i64 nd.owner, .int .i64 nd.time, .string (nm nd.data), .slice Ae nd.es.length ce] 64)) dq osq
                  generalize grow (redrawn (wr.alloc (.cells #[.int .i64 nd.id, .int .i64 nd.kind, .int .i64 nd.mode, .int .i64 nd.owner, .int .i64 nd.time, .string (nm nd.data), .slice Ae nd.es.length ce] 64)) dq) osq = W3 at hb3 ⊢
                  have HB3 := Lib.hid hb3
                  have s6 : W3.cell? ⟨wr.heap.size, 6, none⟩ = some (.slice Ae nd.es.length ce) := (hb3.cell (p := ⟨wr.heap.size, 6, none⟩) (alloc_lt _ _)).trans (by simp)
                  clear hb3
                  obtain ⟨_, hxr, ⟨Ax, cx, hevx, he0⟩ | ⟨eb, eo, cx, hevx, hecap, heb, hepos, hec⟩⟩ := HEC.out
                  · have hm0 : nd.es.length = 0 := by rw [he0]; rfl
                    have HO := Lib.hid (allTo_succ HT.out (show okRef t k = true by rw [HCT.out, hm0]; rfl))
                    clear hevx he0 hxr
                    generalize nd.es.length = m at *
                    subst hm0
                    go_wp2
                    refine wp_loop_rounds 1 ?_
                    rw [rounds_succ]
                    go_wp2
                    go_roundw
                    case rel => exact ⟨k + 1, by omega, by go_num, HO, (HB.out.alloc (by omega) _).trans (HB3.out.mono (by simp; omega))⟩
                    case measure => simp [intOf]; omega
                  · cases hevx
                    have HECL := Lib.hid hec
                    clear hec hxr
                    generalize hm : nd.es.length = m at *
                    have HM := Lib.hid hm
                    clear hm
                    go_wp2
                    obtain ⟨wo, hwo⟩ : ∃ wo, wo = wr := ⟨_, rfl⟩
                    go_loopw [5] (fun i w2 => ∃ q : Nat, q ≤ m ∧ i = .int .i64 q ∧ Hid (okEnts t.nodes k q = true) ∧ Below (wo.heap.size + 1) W3 w2) (fun i _ => m - (intOf i).toNat)
                    case atStart => exact ⟨0, by omega, rfl, rfl, Below.refl _ _⟩
                    case round =>
                      obtain ⟨q, hq, rfl, HOQ, hbe⟩ := hrel
                      subst hwo
                      have hW3 : wo.heap.size + 1 ≤ W3.heap.size := by have := HB3.out.size; simpa using this
                      have hws2 : wo.heap.size + 1 ≤ wr.heap.size := by have := hbe.size; omega
                      have x6 := (hbe.cell (p := ⟨wo.heap.size, 6, none⟩) (by simp)).trans s6
                      have y0 : wr.cell? ⟨w.heap.size, 0, none⟩ = some (.slice (some ⟨b, off, none⟩) n c) := (hbe.cell (p := ⟨w.heap.size, 0, none⟩) (by simp; omega)).trans ((HB3.out.cell (p := ⟨w.heap.size, 0, none⟩) (by simp; omega)).trans (cell_alloc_lt t0))
                      have y1 : wr.cell? ⟨w.heap.size, 1, none⟩ = some (.int .i64 la) := (hbe.cell (p := ⟨w.heap.size, 1, none⟩) (by simp; omega)).trans ((HB3.out.cell (p := ⟨w.heap.size, 1, none⟩) (by simp; omega)).trans (cell_alloc_lt t1))
                      have y2 : wr.cell? ⟨w.heap.size, 2, none⟩ = some (.int .i64 rn) := (hbe.cell (p := ⟨w.heap.size, 2, none⟩) (by simp; omega)).trans ((HB3.out.cell (p := ⟨w.heap.size, 2, none⟩) (by simp; omega)).trans (cell_alloc_lt t2))
                      have y3 : wr.cell? ⟨w.heap.size, 3, none⟩ = some (.int .i64 rb) := (hbe.cell (p := ⟨w.heap.size, 3, none⟩) (by simp; omega)).trans ((HB3.out.cell (p := ⟨w.heap.size, 3, none⟩) (by simp; omega)).trans (cell_alloc_lt t3))
                      have hbo := HB2.out.trans ((((Below.refl _ _).alloc (Nat.le_refl _) _).trans (HB3.out.mono (Nat.le_of_lt (alloc_lt _ _)))).mono (by omega)) |>.trans (hbe.mono (by omega))
                      have hbo1 := HB.out.trans ((((Below.refl _ _).alloc (Nat.le_refl _) _).trans (HB3.out.mono (Nat.le_of_lt (alloc_lt _ _)))).mono (by omega)) |>.trans (hbe.mono (by omega))
                      have HBO := Lib.hid hbo; have HBO1 := Lib.hid hbo1; have HBE := Lib.hid hbe
                      clear hbo hbo1 hbe t0 t1 t2 t3 s6
                      have hw1 : w.heap.size < wr.heap.size := by omega
                      have hw2 : wo.heap.size < wr.heap.size := by omega
                      have hw4 : eb < wr.heap.size := by omega
                      by_cases hqt : q < m
                      · have d1 : wr.cell? ⟨eb, eo + q * 2 + 1, none⟩ = some (.int .i64 (entAt nd.es q).to) := (((HBE.out.cell (p := ⟨eb, eo + q * 2 + 1, none⟩) (by simp; omega)).trans ((HB3.out.cell (p := ⟨eb, eo + q * 2 + 1, none⟩) (by simp; omega)).trans (World.cell?_alloc_lt wo _ ⟨eb, eo + q * 2 + 1, none⟩ heb))).trans (HECL.out q hqt).2)
                        have hqq : (q : Int) < (m : Int) := by omega
                        have hoe := HOE.out q hqt
                        have he2 := HE2.out _ (HMEM.out q hqt)
                        have HPC := Lib.hid (HPLC.out (entAt nd.es q).to)
                        generalize entAt nd.es q = x at *
                        by_cases hp : place t.nodes x.to < n
                        · have HO : Hid (okEnts t.nodes k (q + 1) = true) := Lib.hid (by rw [hoe, HOQ.out]; simpa using hp)
                          rw [placeI_pos (by rw [HN.out]; exact hp)] at HPC
                          clear hoe he2 hp
                          generalize place t.nodes x.to = p at *
                          have hpn : ¬ (p : Int) < 0 := by omega
                          go_wp2
                          refine wp_region_quiet_below (by kernel_rfl) (by kernel_rfl) ?_
                          repeat (first | go_big_quiet_step ((go_at_call 68; exact Calls.regrown_of (HPC.out _ (HBO.out.trans ((below_regrown _ _ _).mono (by omega)))))) | quiet_step ((go_at_call 68; exact Calls.regrown_of (HPC.out _ (HBO.out.trans ((below_regrown _ _ _).mono (by omega)))))))
                          refine wpQuiet_nil ?_
                          intro _ hw'
                          obtain ⟨⟨dq2, osq2⟩, hw''⟩ := hw'
                          subst hw''
                          go_wp2
                          go_roundw
                          case rel => exact ⟨q + 1, by omega, by go_num, HO, HBE.out.trans ((below_regrown _ _ _).mono (by omega))⟩
                          case measure => simp [intOf]; omega
                        · have HO := Lib.hid (he2 hp)
                          rw [placeI_neg (by rw [HN.out]; exact hp)] at HPC
                          clear hoe he2 hp
                          go_wp2
                          refine wp_region_quiet_below (by kernel_rfl) (by kernel_rfl) ?_
                          repeat (first | go_big_quiet_step ((go_at_call 68; exact Calls.regrown_of (HPC.out _ (HBO.out.trans ((below_regrown _ _ _).mono (by omega)))))) | quiet_step ((go_at_call 68; exact Calls.regrown_of (HPC.out _ (HBO.out.trans ((below_regrown _ _ _).mono (by omega)))))))
                          refine wpQuiet_nil ?_
                          intro _ hw'
                          obtain ⟨⟨dq2, osq2⟩, hw''⟩ := hw'
                          subst hw''
                          go_wp2
                          go_ret
                          exact ⟨ret_i64 HO.out, HBO.out.trans ((below_regrown _ _ _).mono (by omega))⟩
                      · have hqm : q = m := by omega
                        have HO := Lib.hid (allTo_succ HT.out (show okRef t k = true by rw [HCT.out, ← hqm]; exact HOQ.out))
                        clear hqm
                        go_wp2
                        go_roundw
                        case rel => exact ⟨k + 1, by omega, by go_num, HO, HBO1.out⟩
                        case measure => simp [intOf]; omega
                · have hd : decide ((0 : Int) < (k : Int)) = true := by simp; omega
                  have hd2 : decide (0 < k) = true := by simp; omega
                  have p0 := hprev (by omega)
                  have hk1 : (0 : Int) ≤ (k : Int) - 1 := by omega
                  have hk2 : (k : Int) - 1 < (n : Int) := by omega
                  have hk3 : ((k : Int) - 1).toNat = k - 1 := by omega
                  by_cases hord : pd.id < nd.id
                  · have g2 : decide (nd.id ≤ pd.id) = false := by simp; omega
                    have hf : okFst t k = true := by rw [hfst]; simp [hord]
                    rw [hf, Bool.true_and] at hcut
                    have HCT := Lib.hid hcut; have HEC := Lib.hid hEC
                    clear hA hfst hcut hpb hEC hprev hla hk0 hf hord
                    go_wp2
                    refine wp_region_quiet_below (by kernel_rfl) (by kernel_rfl) ?_
                    repeat (first | go_big_quiet_step ((go_at_call 69; exact Calls.regrown_of (HPLN.out _ (((Below.refl _ _).alloc (Nat.le_refl _) _).trans ((below_regrown _ _ _).mono (Nat.le_of_lt (alloc_lt _ _))))))) | quiet_step ((go_at_call 69; exact Calls.regrown_of (HPLN.out _ (((Below.refl _ _).alloc (Nat.le_refl _) _).trans ((below_regrown _ _ _).mono (Nat.le_of_lt (alloc_lt _ _))))))))
                    refine wpQuiet_nil ?_
                    intro _ hw'
                    obtain ⟨⟨dq, osq⟩, hw''⟩ := hw'
                    subst hw''
                    have hb3 := below_regrown (wr.alloc (.cells #[.int .i64 nd.id, .int .i64 nd.kind, .int .i64 nd.mode, .int .i64 nd.owner, .int .i64 nd.time, .string (nm nd.data), .slice Ae nd.es.length ce] 64)) dq osq
                    generalize grow (redrawn (wr.alloc (.cells #[.int .i64 nd.id, .int .i64 nd.kind, .int .i64 nd.mode, .int .i64 nd.owner, .int .i64 nd.time, .string (nm nd.data), .slice Ae nd.es.length ce] 64)) dq) osq = W3 at hb3 ⊢
                    have HB3 := Lib.hid hb3
                    have s6 : W3.cell? ⟨wr.heap.size, 6, none⟩ = some (.slice Ae nd.es.length ce) := (hb3.cell (p := ⟨wr.heap.size, 6, none⟩) (alloc_lt _ _)).trans (by simp)
                    clear hb3
                    obtain ⟨_, hxr, ⟨Ax, cx, hevx, he0⟩ | ⟨eb, eo, cx, hevx, hecap, heb, hepos, hec⟩⟩ := HEC.out
                    · have hm0 : nd.es.length = 0 := by rw [he0]; rfl
                      have HO := Lib.hid (allTo_succ HT.out (show okRef t k = true by rw [HCT.out, hm0]; rfl))
                      clear hevx he0 hxr
                      generalize nd.es.length = m at *
                      subst hm0
                      go_wp2
                      refine wp_loop_rounds 1 ?_
                      rw [rounds_succ]
                      go_wp2
                      go_roundw
                      case rel => exact ⟨k + 1, by omega, by go_num, HO, (HB.out.alloc (by omega) _).trans (HB3.out.mono (by simp; omega))⟩
                      case measure => simp [intOf]; omega
                    · cases hevx
                      have HECL := Lib.hid hec
                      clear hec hxr
                      generalize hm : nd.es.length = m at *
                      have HM := Lib.hid hm
                      clear hm
                      go_wp2
                      obtain ⟨wo, hwo⟩ : ∃ wo, wo = wr := ⟨_, rfl⟩
                      go_loopw [5] (fun i w2 => ∃ q : Nat, q ≤ m ∧ i = .int .i64 q ∧ Hid (okEnts t.nodes k q = true) ∧ Below (wo.heap.size + 1) W3 w2) (fun i _ => m - (intOf i).toNat)
                      case atStart => exact ⟨0, by omega, rfl, rfl, Below.refl _ _⟩
                      case round =>
                        obtain ⟨q, hq, rfl, HOQ, hbe⟩ := hrel
                        subst hwo
                        have hW3 : wo.heap.size + 1 ≤ W3.heap.size := by have := HB3.out.size; simpa using this
                        have hws2 : wo.heap.size + 1 ≤ wr.heap.size := by have := hbe.size; omega
                        have x6 := (hbe.cell (p := ⟨wo.heap.size, 6, none⟩) (by simp)).trans s6
                        have y0 : wr.cell? ⟨w.heap.size, 0, none⟩ = some (.slice (some ⟨b, off, none⟩) n c) := (hbe.cell (p := ⟨w.heap.size, 0, none⟩) (by simp; omega)).trans ((HB3.out.cell (p := ⟨w.heap.size, 0, none⟩) (by simp; omega)).trans (cell_alloc_lt t0))
                        have y1 : wr.cell? ⟨w.heap.size, 1, none⟩ = some (.int .i64 la) := (hbe.cell (p := ⟨w.heap.size, 1, none⟩) (by simp; omega)).trans ((HB3.out.cell (p := ⟨w.heap.size, 1, none⟩) (by simp; omega)).trans (cell_alloc_lt t1))
                        have y2 : wr.cell? ⟨w.heap.size, 2, none⟩ = some (.int .i64 rn) := (hbe.cell (p := ⟨w.heap.size, 2, none⟩) (by simp; omega)).trans ((HB3.out.cell (p := ⟨w.heap.size, 2, none⟩) (by simp; omega)).trans (cell_alloc_lt t2))
                        have y3 : wr.cell? ⟨w.heap.size, 3, none⟩ = some (.int .i64 rb) := (hbe.cell (p := ⟨w.heap.size, 3, none⟩) (by simp; omega)).trans ((HB3.out.cell (p := ⟨w.heap.size, 3, none⟩) (by simp; omega)).trans (cell_alloc_lt t3))
                        have hbo := HB2.out.trans ((((Below.refl _ _).alloc (Nat.le_refl _) _).trans (HB3.out.mono (Nat.le_of_lt (alloc_lt _ _)))).mono (by omega)) |>.trans (hbe.mono (by omega))
                        have hbo1 := HB.out.trans ((((Below.refl _ _).alloc (Nat.le_refl _) _).trans (HB3.out.mono (Nat.le_of_lt (alloc_lt _ _)))).mono (by omega)) |>.trans (hbe.mono (by omega))
                        have HBO := Lib.hid hbo; have HBO1 := Lib.hid hbo1; have HBE := Lib.hid hbe
                        clear hbo hbo1 hbe t0 t1 t2 t3 s6
                        have hw1 : w.heap.size < wr.heap.size := by omega
                        have hw2 : wo.heap.size < wr.heap.size := by omega
                        have hw4 : eb < wr.heap.size := by omega
                        by_cases hqt : q < m
                        · have d1 : wr.cell? ⟨eb, eo + q * 2 + 1, none⟩ = some (.int .i64 (entAt nd.es q).to) := (((HBE.out.cell (p := ⟨eb, eo + q * 2 + 1, none⟩) (by simp; omega)).trans ((HB3.out.cell (p := ⟨eb, eo + q * 2 + 1, none⟩) (by simp; omega)).trans (World.cell?_alloc_lt wo _ ⟨eb, eo + q * 2 + 1, none⟩ heb))).trans (HECL.out q hqt).2)
                          have hqq : (q : Int) < (m : Int) := by omega
                          have hoe := HOE.out q hqt
                          have he2 := HE2.out _ (HMEM.out q hqt)
                          have HPC := Lib.hid (HPLC.out (entAt nd.es q).to)
                          generalize entAt nd.es q = x at *
                          by_cases hp : place t.nodes x.to < n
                          · have HO : Hid (okEnts t.nodes k (q + 1) = true) := Lib.hid (by rw [hoe, HOQ.out]; simpa using hp)
                            rw [placeI_pos (by rw [HN.out]; exact hp)] at HPC
                            clear hoe he2 hp
                            generalize place t.nodes x.to = p at *
                            have hpn : ¬ (p : Int) < 0 := by omega
                            go_wp2
                            refine wp_region_quiet_below (by kernel_rfl) (by kernel_rfl) ?_
                            repeat (first | go_big_quiet_step ((go_at_call 68; exact Calls.regrown_of (HPC.out _ (HBO.out.trans ((below_regrown _ _ _).mono (by omega)))))) | quiet_step ((go_at_call 68; exact Calls.regrown_of (HPC.out _ (HBO.out.trans ((below_regrown _ _ _).mono (by omega)))))))
                            refine wpQuiet_nil ?_
                            intro _ hw'
                            obtain ⟨⟨dq2, osq2⟩, hw''⟩ := hw'
                            subst hw''
                            go_wp2
                            go_roundw
                            case rel => exact ⟨q + 1, by omega, by go_num, HO, HBE.out.trans ((below_regrown _ _ _).mono (by omega))⟩
                            case measure => simp [intOf]; omega
                          · have HO := Lib.hid (he2 hp)
                            rw [placeI_neg (by rw [HN.out]; exact hp)] at HPC
                            clear hoe he2 hp
                            go_wp2
                            refine wp_region_quiet_below (by kernel_rfl) (by kernel_rfl) ?_
                            repeat (first | go_big_quiet_step ((go_at_call 68; exact Calls.regrown_of (HPC.out _ (HBO.out.trans ((below_regrown _ _ _).mono (by omega)))))) | quiet_step ((go_at_call 68; exact Calls.regrown_of (HPC.out _ (HBO.out.trans ((below_regrown _ _ _).mono (by omega)))))))
                            refine wpQuiet_nil ?_
                            intro _ hw'
                            obtain ⟨⟨dq2, osq2⟩, hw''⟩ := hw'
                            subst hw''
                            go_wp2
                            go_ret
                            exact ⟨ret_i64 HO.out, HBO.out.trans ((below_regrown _ _ _).mono (by omega))⟩
                        · have hqm : q = m := by omega
                          have HO := Lib.hid (allTo_succ HT.out (show okRef t k = true by rw [HCT.out, ← hqm]; exact HOQ.out))
                          clear hqm
                          go_wp2
                          go_roundw
                          case rel => exact ⟨k + 1, by omega, by go_num, HO, HBO1.out⟩
                          case measure => simp [intOf]; omega
                  · have g2 : decide (nd.id ≤ pd.id) = true := by simp; omega
                    have HO := Lib.hid (hA (by rw [hcut, hfst]; simp [hord, hk0]))
                    clear hA hfst hcut hpb hEC hprev hla hk0 hord
                    go_wp2
                    refine wp_region_quiet_below (by kernel_rfl) (by kernel_rfl) ?_
                    repeat (first | go_big_quiet_step ((go_at_call 69; exact Calls.regrown_of (HPLN.out _ (((Below.refl _ _).alloc (Nat.le_refl _) _).trans ((below_regrown _ _ _).mono (Nat.le_of_lt (alloc_lt _ _))))))) | quiet_step ((go_at_call 69; exact Calls.regrown_of (HPLN.out _ (((Below.refl _ _).alloc (Nat.le_refl _) _).trans ((below_regrown _ _ _).mono (Nat.le_of_lt (alloc_lt _ _))))))))
                    refine wpQuiet_nil ?_
                    intro _ hw'
                    obtain ⟨⟨dq, osq⟩, hw''⟩ := hw'
                    subst hw''
                    go_wp2
                    go_ret
                    exact ⟨ret_i64 HO.out, (HB2.out.alloc (by omega) _).trans ((below_regrown _ dq osq).mono (by simp; omega))⟩
              · have g1 : decide (la < nd.id) = true := by simp; omega
                have HO := Lib.hid (hA (by rw [hcut, hfst, decide_eq_false hla]; rfl))
                clear hA hfst hcut hpb hEC hprev hla
                go_wp2
                refine wp_region_quiet_below (by kernel_rfl) (by kernel_rfl) ?_
                repeat (first | go_big_quiet_step ((go_at_call 69; exact Calls.regrown_of (HPLN.out _ (((Below.refl _ _).alloc (Nat.le_refl _) _).trans ((below_regrown _ _ _).mono (Nat.le_of_lt (alloc_lt _ _))))))) | quiet_step ((go_at_call 69; exact Calls.regrown_of (HPLN.out _ (((Below.refl _ _).alloc (Nat.le_refl _) _).trans ((below_regrown _ _ _).mono (Nat.le_of_lt (alloc_lt _ _))))))))
                refine wpQuiet_nil ?_
                intro _ hw'
                obtain ⟨⟨dq, osq⟩, hw''⟩ := hw'
                subst hw''
                go_wp2
                go_ret
                exact ⟨ret_i64 HO.out, (HB2.out.alloc (by omega) _).trans ((below_regrown _ dq osq).mono (by simp; omega))⟩
          · have hkn : k = n := by omega
            have HOK : Hid (allTo (okRef t) n = true) := Lib.hid (by rw [← hkn]; exact HT.out)
            clear hkn
            obtain ⟨wz, hwz⟩ : ∃ wz, wz = wr := ⟨_, rfl⟩
            go_wp2
            go_loopw [6] (fun i wr => ∃ k : Nat, k ≤ n ∧ i = .int .i64 k ∧ Hid (allTo (okLinks t.nodes) k = true) ∧ Below (w.heap.size + 1) (w.alloc (.cells #[.slice (some ⟨b, off, none⟩) n c, .int .i64 la, .int .i64 rn, .int .i64 rb] 26)) wr) (fun i _ => n - (intOf i).toNat)
            case atStart => exact ⟨0, by omega, rfl, rfl, HB.out⟩
            case round =>
              obtain ⟨k, hk, rfl, HT2, hbel⟩ := hrel
              clear hwr hws hbw2 HB2 t0 t1 t2 t3 HB hwz
              have hwr : w.heap.size + 1 ≤ wr.heap.size := by have := hbel.size; simpa using this
              have hws : w.heap.size < wr.heap.size := by omega
              have hbw2 : b < wr.heap.size := by omega
              have HB2 := Lib.hid (((Below.refl w.heap.size w).alloc (Nat.le_refl _) (.cells #[.slice (some ⟨b, off, none⟩) n c, .int .i64 la, .int .i64 rn, .int .i64 rb] 26)).trans (hbel.mono (by omega)))
              have t0 : wr.cell? ⟨w.heap.size, 0, none⟩ = some (.slice (some ⟨b, off, none⟩) n c) := (hbel.cell (p := ⟨w.heap.size, 0, none⟩) (by simp)).trans (by simp)
              have t1 : wr.cell? ⟨w.heap.size, 1, none⟩ = some (.int .i64 la) := (hbel.cell (p := ⟨w.heap.size, 1, none⟩) (by simp)).trans (by simp)
              have t2 : wr.cell? ⟨w.heap.size, 2, none⟩ = some (.int .i64 rn) := (hbel.cell (p := ⟨w.heap.size, 2, none⟩) (by simp)).trans (by simp)
              have t3 : wr.cell? ⟨w.heap.size, 3, none⟩ = some (.int .i64 rb) := (hbel.cell (p := ⟨w.heap.size, 3, none⟩) (by simp)).trans (by simp)
              have HB := Lib.hid hbel
              clear hbel
              by_cases hlt : k < n
              · have hkk : (k : Int) < (n : Int) := by omega
                have hl1 := HL1.out HOK.out k hlt
                have hlks := HLKS.out k
                obtain ⟨c0, c1, _⟩ : NodeIn wr wr.heap.size b (off + k * 7) (ndAt t.nodes k) := ((HC.out k hlt).more (B' := w.heap.size) hB |>.below (by omega) HB2.out).more (by omega)
                have HLC := Lib.hid (HLKC.out (ndAt t.nodes k).id)
                generalize links t.nodes (ndAt t.nodes k).id = lk at *
                generalize (ndAt t.nodes k).id = idk at *
                generalize (ndAt t.nodes k).kind = kd at *
                by_cases hk0 : k = 0
                · have i1 : ((k : Int) == 0) = true := by simp; omega
                  have i2 : decide ((0 : Int) < (k : Int)) = false := by simp; omega
                  have i3 : decide (0 < k) = false := by simp; omega
                  by_cases hlk : 0 < lk
                  · have j1 : decide ((0 : Int) < (lk : Int)) = true := by simp; omega
                    have j2 : decide (0 < lk) = true := by simp; omega
                    have HO := Lib.hid (hl1 (by rw [hlks, hk0, j2]; rfl))
                    clear hl1 hlks hk0 hlk
                    go_wp2
                    refine wp_region_quiet_below (by kernel_rfl) (by kernel_rfl) ?_
                    repeat (first | go_big_quiet_step ((go_at_call 31; exact Calls.regrown_of (HLC.out _ (HB2.out.trans ((below_regrown _ _ _).mono (by omega)))))) | quiet_step ((go_at_call 31; exact Calls.regrown_of (HLC.out _ (HB2.out.trans ((below_regrown _ _ _).mono (by omega)))))))
                    refine wpQuiet_nil ?_
                    intro _ hw'
                    obtain ⟨⟨dq, osq⟩, hw''⟩ := hw'
                    subst hw''
                    go_wp2
                    go_ret
                    exact ⟨ret_i64 HO.out, HB2.out.trans ((below_regrown _ dq osq).mono (by omega))⟩
                  · have hz : lk = 0 := by omega
                    have j1 : decide ((0 : Int) < (lk : Int)) = false := by simp; omega
                    have j2 : decide (0 < lk) = false := by simp; omega
                    have j3 : decide ((1 : Int) < (lk : Int)) = false := by simp; omega
                    have j4 : decide (1 < lk) = false := by simp; omega
                    have HO := Lib.hid (allTo_succ HT2.out (show okLinks t.nodes k = true by rw [hlks, j2, i3, j4]; simp))
                    clear hl1 hlks hk0 hlk hz
                    by_cases hkd : kd = 1
                    · have k1 : (kd == 1) = true := by simpa using hkd
                      clear hkd
                      go_wp2
                      refine wp_region_quiet_below (by kernel_rfl) (by kernel_rfl) ?_
                      repeat (first | go_big_quiet_step ((go_at_call 31; exact Calls.regrown_of (HLC.out _ (HB2.out.trans ((below_regrown _ _ _).mono (by omega)))))) | quiet_step ((go_at_call 31; exact Calls.regrown_of (HLC.out _ (HB2.out.trans ((below_regrown _ _ _).mono (by omega)))))))
                      refine wpQuiet_nil ?_
                      intro _ hw'
                      obtain ⟨⟨dq, osq⟩, hw''⟩ := hw'
                      subst hw''
                      go_wp2
                      go_roundw
                      case rel => exact ⟨k + 1, by omega, by go_num, HO, HB.out.trans ((below_regrown _ dq osq).mono (by omega))⟩
                      case measure => simp [intOf]; omega
                    · have k1 : (kd == 1) = false := by simpa using hkd
                      clear hkd
                      go_wp2
                      refine wp_region_quiet_below (by kernel_rfl) (by kernel_rfl) ?_
                      repeat (first | go_big_quiet_step ((go_at_call 31; exact Calls.regrown_of (HLC.out _ (HB2.out.trans ((below_regrown _ _ _).mono (by omega)))))) | quiet_step ((go_at_call 31; exact Calls.regrown_of (HLC.out _ (HB2.out.trans ((below_regrown _ _ _).mono (by omega)))))))
                      refine wpQuiet_nil ?_
                      intro _ hw'
                      obtain ⟨⟨dq, osq⟩, hw''⟩ := hw'
                      subst hw''
                      go_wp2
                      go_roundw
                      case rel => exact ⟨k + 1, by omega, by go_num, HO, HB.out.trans ((below_regrown _ dq osq).mono (by omega))⟩
                      case measure => simp [intOf]; omega
                · have i1 : ((k : Int) == 0) = false := by simp; omega
                  have i2 : decide ((0 : Int) < (k : Int)) = true := by simp; omega
                  have i3 : decide (0 < k) = true := by simp; omega
                  have i4 : (k == 0) = false := by simp; omega
                  by_cases hlk : lk = 0
                  · have j1 : ((lk : Int) == 0) = true := by simp; omega
                    have HO := Lib.hid (hl1 (by rw [hlks, i3, hlk]; simp))
                    clear hl1 hlks hk0 hlk
                    go_wp2
                    refine wp_region_quiet_below (by kernel_rfl) (by kernel_rfl) ?_
                    repeat (first | go_big_quiet_step ((go_at_call 31; exact Calls.regrown_of (HLC.out _ (HB2.out.trans ((below_regrown _ _ _).mono (by omega)))))) | quiet_step ((go_at_call 31; exact Calls.regrown_of (HLC.out _ (HB2.out.trans ((below_regrown _ _ _).mono (by omega)))))))
                    refine wpQuiet_nil ?_
                    intro _ hw'
                    obtain ⟨⟨dq, osq⟩, hw''⟩ := hw'
                    subst hw''
                    go_wp2
                    go_ret
                    exact ⟨ret_i64 HO.out, HB2.out.trans ((below_regrown _ dq osq).mono (by omega))⟩
                  · have j1 : ((lk : Int) == 0) = false := by simp; omega
                    have j0 : (lk == 0) = false := by simp; omega
                    by_cases hkd : kd = 1
                    · have k1 : (kd == 1) = true := by simpa using hkd
                      by_cases h2 : 1 < lk
                      · have j3 : decide ((1 : Int) < (lk : Int)) = true := by simp; omega
                        have j4 : decide (1 < lk) = true := by simp; omega
                        have HO := Lib.hid (hl1 (by rw [hlks, k1, j4]; simp))
                        clear hl1 hlks hk0 hlk hkd h2
                        go_wp2
                        refine wp_region_quiet_below (by kernel_rfl) (by kernel_rfl) ?_
                        repeat (first | go_big_quiet_step ((go_at_call 31; exact Calls.regrown_of (HLC.out _ (HB2.out.trans ((below_regrown _ _ _).mono (by omega)))))) | quiet_step ((go_at_call 31; exact Calls.regrown_of (HLC.out _ (HB2.out.trans ((below_regrown _ _ _).mono (by omega)))))))
                        refine wpQuiet_nil ?_
                        intro _ hw'
                        obtain ⟨⟨dq, osq⟩, hw''⟩ := hw'
                        subst hw''
                        go_wp2
                        go_ret
                        exact ⟨ret_i64 HO.out, HB2.out.trans ((below_regrown _ dq osq).mono (by omega))⟩
                      · have j3 : decide ((1 : Int) < (lk : Int)) = false := by simp; omega
                        have j4 : decide (1 < lk) = false := by simp; omega
                        have HO := Lib.hid (allTo_succ HT2.out (show okLinks t.nodes k = true by rw [hlks, i4, j0, j4]; simp))
                        clear hl1 hlks hk0 hlk hkd h2
                        go_wp2
                        refine wp_region_quiet_below (by kernel_rfl) (by kernel_rfl) ?_
                        repeat (first | go_big_quiet_step ((go_at_call 31; exact Calls.regrown_of (HLC.out _ (HB2.out.trans ((below_regrown _ _ _).mono (by omega)))))) | quiet_step ((go_at_call 31; exact Calls.regrown_of (HLC.out _ (HB2.out.trans ((below_regrown _ _ _).mono (by omega)))))))
                        refine wpQuiet_nil ?_
                        intro _ hw'
                        obtain ⟨⟨dq, osq⟩, hw''⟩ := hw'
                        subst hw''
                        go_wp2
                        go_roundw
                        case rel => exact ⟨k + 1, by omega, by go_num, HO, HB.out.trans ((below_regrown _ dq osq).mono (by omega))⟩
                        case measure => simp [intOf]; omega
                    · have k1 : (kd == 1) = false := by simpa using hkd
                      have HO := Lib.hid (allTo_succ HT2.out (show okLinks t.nodes k = true by rw [hlks, i4, j0, k1]; simp))
                      clear hl1 hlks hk0 hlk hkd
                      go_wp2
                      refine wp_region_quiet_below (by kernel_rfl) (by kernel_rfl) ?_
                      repeat (first | go_big_quiet_step ((go_at_call 31; exact Calls.regrown_of (HLC.out _ (HB2.out.trans ((below_regrown _ _ _).mono (by omega)))))) | quiet_step ((go_at_call 31; exact Calls.regrown_of (HLC.out _ (HB2.out.trans ((below_regrown _ _ _).mono (by omega)))))))
                      refine wpQuiet_nil ?_
                      intro _ hw'
                      obtain ⟨⟨dq, osq⟩, hw''⟩ := hw'
                      subst hw''
                      go_wp2
                      go_roundw
                      case rel => exact ⟨k + 1, by omega, by go_num, HO, HB.out.trans ((below_regrown _ dq osq).mono (by omega))⟩
                      case measure => simp [intOf]; omega
              · have hkn : k = n := by omega
                have HOK2 : Hid (allTo (okLinks t.nodes) n = true) := Lib.hid (by rw [← hkn]; exact HT2.out)
                have hwy := fun W hW => HWYC.out W hW (HNAMES.out HOK.out)
                have HNO := Lib.hid (HR1.out HOK.out HOK2.out); have HYES := Lib.hid (HR2.out HOK.out HOK2.out)
                have hdfs : TreeM.dfs t.nodes t.nodes.length 1 0 [] [47] [] = way t.nodes := rfl
                rw [HN.out] at hdfs
                rw [hdfs] at hwy
                have HWY := Lib.hid hwy
                clear hkn hwy hdfs
                generalize way t.nodes = wl at *
                go_wp2
                go_region_held3 (fun w' => w'.cell? ⟨w.heap.size, 0, none⟩ = some (.slice (some ⟨b, off, none⟩) n c) ∧ w'.cell? ⟨w.heap.size, 1, none⟩ = some (.int .i64 la) ∧ w'.cell? ⟨w.heap.size, 2, none⟩ = some (.int .i64 rn) ∧ w'.cell? ⟨w.heap.size, 3, none⟩ = some (.int .i64 rb) ∧ Below w.heap.size w w')
                  (first | exact ⟨t0, t1, t2, t3, HB2.out.drew⟩ | exact ⟨(hb5.cell (p := ⟨w.heap.size, 0, none⟩) hws).trans t0, (hb5.cell (p := ⟨w.heap.size, 1, none⟩) hws).trans t1, (hb5.cell (p := ⟨w.heap.size, 2, none⟩) hws).trans t2, (hb5.cell (p := ⟨w.heap.size, 3, none⟩) hws).trans t3, HB2.out.drew.trans (hb5.mono (by omega))⟩)
                  (first | (go_at_call 70; refine (HWY.out wr.drew HB2.out.drew).mono ?_; rintro e w5 ⟨v5, rfl, hr5, hg5⟩; obtain ⟨va5, vc5, rfl⟩ := ownsRow_len3 hr5; have hb5 : Below wr.heap.size wr.drew w5 := hg5.below (Nat.le_refl _) (fun b hb => by simp [Value.ownBlock] at hb); clear hr5 hg5))
                cases hlw : (wl.length == n) with
                | false =>
                  have HO := Lib.hid (HNO.out hlw)
                  have q1 : ((wl.length : Int) != (n : Int)) = true := by simp at hlw ⊢; omega
                  clear hlw
                  go_wp2
                  go_ret
                  exact ⟨ret_i64 HO.out, HB2.out.drew.trans (hb5.mono (by omega))⟩
                | true =>
                  have HO := Lib.hid (HYES.out hlw)
                  have q1 : ((wl.length : Int) != (n : Int)) = false := by simp at hlw ⊢; omega
                  clear hlw
                  go_wp2
                  go_ret
                  exact ⟨ret_i64 HO.out, HB2.out.drew.trans (hb5.mono (by omega))⟩
      · have HO := Lib.hid (hno (by rw [hhead]; simp [hki]))
        have q1 : ((ndAt t.nodes 0).kind != 1) = true := by simpa using hki
        rw [hid] at d0
        clear hno hhead href hcells hN hN0 hpl hlk hwy hki hid hr
        generalize (ndAt t.nodes 0).kind = kd at *
        go_enter Tryz.func32, Tryz.ntmps32
        go_wp2
        go_ret
        exact ⟨ret_i64 HO.out, (Below.refl _ _).alloc (Nat.le_refl _) _⟩
    · have HO := Lib.hid (hno (by rw [hhead]; simp [hid]))
      have q1 : ((ndAt t.nodes 0).id != 1) = true := by simpa using hid
      clear hno hhead href hcells hN hN0 hpl hlk hwy hid hr d1
      generalize (ndAt t.nodes 0).id = kd at *
      go_enter Tryz.func32, Tryz.ntmps32
      go_wp2
      go_ret
      exact ⟨ret_i64 HO.out, (Below.refl _ _).alloc (Nat.le_refl _) _⟩
  · have HO := Lib.hid (hno (by rw [hhead]; simp [hbig]))
    clear hno hhead href hcells hN hN0 hpl hlk hwy hr d0 d1
    go_enter Tryz.func32, Tryz.ntmps32
    go_wp2
    go_ret
    exact ⟨ret_i64 HO.out, (Below.refl _ _).alloc (Nat.le_refl _) _⟩

end Go.Proofs.YtpicgkoclbpjpaaGreatDoor
end

section
namespace Go.Proofs.YtpicgkoclbpjpaaGreatDoor
open Go.RowKit Go.Sort
open PathM TreeM
set_option linter.unusedVariables false

theorem pathOf_rootJ (ns : List Bs) : pathOf ns = rootJ ns := by
  unfold pathOf rootJ flatS; rfl
theorem join_pathOf (ns : List Bs) : joinL [47] (Lib.join ns [47]) = pathOf ns := by
  rw [pathOf_rootJ, ← rootJ_join]; simp [joinL, bare, Go.Lib.trimRightB]
theorem info9 : (Tryz.prog.info? 9).map (fun i => (i.zero, i.size, i.bytes)) = some (some (.string ByteArray.empty), 1, 16) := by kernel_rfl
def enc (x : Bs) : Value := .string (nm x)
theorem enc_snoc (l : List Bs) (x : Bs) : (l ++ [x]).map enc = l.map enc ++ [.string (nm x)] := by simp [enc]
theorem back_step {l : List TreeM.Item} (h : ∀ j, 0 < j → j < l.length → (itAt l j).fr < j) {q : Nat} (h0 : 0 < q) (hq : q < l.length) : back l l.length q = (itAt l q).name :: back l l.length (itAt l q).fr := by
  have hf := h q h0 hq
  obtain ⟨n, hn⟩ : ∃ n, l.length = n + 1 := ⟨l.length - 1, by omega⟩
  have := back_any h n (n + 1) (itAt l q).fr (by omega) (by omega) (by omega)
  rw [hn, back, if_neg (by omega), this]
theorem it_cells (l : List TreeM.Item) : ∀ k, k < l.length → (l.flatMap itCells)[k * 3]? = some (.int .i64 (itAt l k).node) ∧ (l.flatMap itCells)[k * 3 + 1]? = some (.int .i64 (itAt l k).fr) ∧ (l.flatMap itCells)[k * 3 + 2]? = some (.string (nm (itAt l k).name)) := by
  induction l with
  | nil => intro k h; simp at h
  | cons a l ih =>
    intro k h
    rw [List.flatMap_cons]
    cases k with
    | zero => simp [itCells, itAt]
    | succ k =>
      have := ih k (by simpa using h)
      rw [show (k + 1) * 3 = k * 3 + 3 from by omega]
      simp only [itCells, itAt] at this ⊢
      simpa using this
/-- Names in a row of their own. -/
def NamesIn (w : World) (B : Nat) (v : Value) (ns : List Bs) : Prop :=
  (v = .slice none 0 0 ∧ ns = []) ∨ ∃ g cap, v = .slice (some ⟨g, 0, none⟩) ns.length cap ∧ ns.length ≤ cap ∧ g < w.heap.size ∧ B ≤ g ∧ ∀ j x, (ns.map nm)[j]? = some x → w.cell? ⟨g, 0 + j, none⟩ = some (.string x)
theorem reversed {w wr : World} {acc : List Bs} {g cap n : Nat} (hrow : wr.ownsRow w.heap.size 9 1 (.slice (some ⟨g, 0, none⟩) acc.length cap) acc.length (acc.map enc)) (hb : Below w.heap.size w wr) :
    NamesIn (putRow encStr (Sort.ahead wr n) g 0 acc.reverse.toArray) w.heap.size (.slice (some ⟨g, 0, none⟩) acc.length cap) acc.reverse ∧ Below w.heap.size w (putRow encStr (Sort.ahead wr n) g 0 acc.reverse.toArray) := by
  rcases hrow.2 with ⟨h, _⟩ | ⟨g', cap', cur, hv, hg, hh, hk, hm, hs, hx⟩
  · cases h
  · cases hv
    have hlt := (Array.getElem?_eq_some_iff.1 hh).1
    refine ⟨.inr ⟨g, cap, by simp, by simpa using hk, by simpa using hlt, hg, fun j x hj => ?_⟩, ?_⟩
    · have hjl : j < acc.reverse.length := by have := lt_of_get hj; simpa using this
      have hcl : acc.length ≤ cur.size := by omega
      have hj2 : j < acc.length := by simpa using hjl
      have hxe : x = nm (acc.reverse[j]) := by rw [List.getElem?_map, List.getElem?_eq_getElem hjl] at hj; simpa using hj.symm
      have hc : (putCells encStr 0 acc.reverse.toArray cur)[j]? = some (encStr acc.reverse.toArray[j]!) := by
        simp only [putCells, Array.getElem?_mapIdx]
        rw [Array.getElem?_eq_getElem (by omega)]
        simp [hj2]
      have hblk : (putRow encStr (Sort.ahead wr n) g 0 acc.reverse.toArray).heap[g]? = some (.cells (putCells encStr 0 acc.reverse.toArray cur) 9 (0, 0)) := by
        simp only [putRow, mapBlock, Array.getElem?_modify, heap_ahead, if_true, hh, Option.map_some, onCells]
      rw [Nat.zero_add]
      simp only [World.cell?, hblk, hc]
      rw [hxe, getElem!_pos _ j (by simpa using hj2)]
      simp [nm]
    · have h1 : Below w.heap.size wr (putRow encStr (Sort.ahead wr n) g 0 acc.reverse.toArray) :=
        ⟨rfl, rfl, rfl, by simp, fun k hk => by
          simp only [putRow, mapBlock, Array.getElem?_modify, heap_ahead]
          rw [if_neg (by omega)]⟩
      exact hb.trans h1
theorem holdsRow {wr : World} {base : Nat} {acc : List Bs} {g cap : Nat} (hrow : wr.ownsRow base 9 1 (.slice (some ⟨g, 0, none⟩) acc.length cap) acc.length (acc.map enc)) : Holds encStr wr g 0 acc.toArray := by
  intro j hj
  have hj2 : j < acc.length := by simpa using hj
  have h1 := row_cells hrow j (enc acc[j]) (by rw [List.getElem?_map, List.getElem?_eq_getElem hj2]; rfl)
  rcases hrow.2 with ⟨h, _⟩ | ⟨g', cap', cur, hv, hg, hh, hk, hm, hs, hx⟩
  · cases h
  · cases hv
    rw [Nat.zero_add]
    refine ⟨?_, ?_⟩
    · rw [h1, getElem!_pos _ j hj]; simp [enc, nm]
    · simp [World.frozen?, hh]

/-- What names answers. -/
def NamesPost (ns : List Bs) (w : World) (e : Ending) (w' : World) : Prop := ∃ v', e = .returned v' ∧ NamesIn w' w.heap.size v' ns ∧ Below w.heap.size w w'

end Go.Proofs.YtpicgkoclbpjpaaGreatDoor
end

section
namespace Go.Proofs.YtpicgkoclbpjpaaGreatDoor
open Go.RowKit Go.Sort
open PathM TreeM
set_option linter.unusedVariables false

/-- What a tree that may be has. -/
theorem check_facts {t : Tr} (h : checkB t = true) : Rising t.nodes ∧ t.nodes.length ≤ 512 ∧ 0 < t.nodes.length ∧ place t.nodes 1 < t.nodes.length ∧ (∀ x ∈ flat t.nodes, place t.nodes x.to < t.nodes.length) ∧
    (way t.nodes).length = t.nodes.length ∧ (∀ i, i < t.nodes.length → entsB (ndAt t.nodes i).es = true) := by
  obtain ⟨hh, hn, hp, hl, hr⟩ := check_parts h
  obtain ⟨k1, k2, k3, k4⟩ := head_parts hh
  exact ⟨check_rising h, k2, by omega, place_lt (i := 0) (by omega) k3, fun x hx => (led_mem hl hx).1, by simpa [reachedB] using hr, fun i hi => check_ents h hi⟩
theorem way_fr (nodes : List Nd) : ∀ j, 0 < j → j < (way nodes).length → (itAt (way nodes) j).fr < j := fun j h0 hj => (way_ln nodes).fr h0 hj
theorem flatS_bound : ∀ (ns : List Bs), (∀ n ∈ ns, n.length ≤ 64) → (flatS ns).length ≤ ns.length * 65 := by
  intro ns
  induction ns with
  | nil => intro _; simp [flatS]
  | cons a l ih =>
    intro h
    have := ih (fun n hn => h n (by simp [hn]))
    have ha := h a (by simp)
    simp only [flatS, List.map_cons, List.flatten_cons, List.length_append, List.length_cons] at this ⊢
    omega
theorem names_fit {nodes : List Nd} (hn : ∀ i, i < nodes.length → entsB (ndAt nodes i).es = true) (hl : (way nodes).length ≤ 512) {k : Nat} (hk : k < (way nodes).length) :
    (back (way nodes) (way nodes).length k).reverse.length ≤ 512 ∧ (Lib.join (back (way nodes) (way nodes).length k).reverse [47]).length ≤ 33280 ∧ (itAt (way nodes) k).path = pathOf (back (way nodes) (way nodes).length k).reverse ∧ (itAt (way nodes) k).path.length ≤ 33281 := by
  obtain ⟨h1, h2⟩ := back_names (way_wy nodes) (way_ln nodes) hn (way nodes).length k (by omega) hk
  have h3 := back_len (l := way nodes) (way nodes).length k
  have h4 := flatS_bound (back (way nodes) (way nodes).length k).reverse (fun n hm => (nameB_parts (h1 n (List.mem_reverse.1 hm))).2.2)
  rw [List.length_reverse] at h4
  have h5 := rootJ_join (back (way nodes) (way nodes).length k).reverse
  have h6 : (rootJ (back (way nodes) (way nodes).length k).reverse).length ≤ 33281 := by
    unfold rootJ; split
    · simp
    · omega
  refine ⟨by rw [List.length_reverse]; omega, ?_, h2, ?_⟩
  · have := congrArg List.length h5
    simp only [List.length_cons] at this
    omega
  · rw [h2, pathOf_rootJ]; exact h6

/-- The first path to a node. -/
def pathI (t : Tr) (id : Int) : Bs × Bool :=
  if checkB t = true then (if met (way t.nodes) id = true then ((itAt (way t.nodes) (metAt (way t.nodes) id)).path, true) else ([], false)) else ([], false)
theorem ret_sb {a b : ByteArray} {x y : Bool} (h : a = b) (h2 : x = y) : Ending.returned (.tuple #[.string a, .bool x]) = .returned (.tuple #[.string b, .bool y]) := by rw [h, h2]

end Go.Proofs.YtpicgkoclbpjpaaGreatDoor
end

section
namespace TreeM
open PathM
set_option linter.unusedVariables false

def reE (ρ : Int → Int) (x : Ent) : Ent := ⟨x.key, ρ x.to⟩
def reN (ρ : Int → Int) (n : Nd) : Nd := { n with id := ρ n.id, es := n.es.map (reE ρ) }
/-- The nodes numbered anew, as they are met. -/
def canonAt (nodes : List Nd) (l : List Item) (i : Nat) : Nd := { ndAt nodes (itAt l i).node with id := (i : Int) + 1, es := (ndAt nodes (itAt l i).node).es.map (reE fun id => (metAt l id : Int) + 1) }
def canonN (nodes : List Nd) (l : List Item) : List Nd := (List.range l.length).map (canonAt nodes l)
def canonT (t : Tr) : Tr := ⟨canonN t.nodes (way t.nodes), (way t.nodes).length, t.rn, t.rb⟩
theorem canon_len (nodes : List Nd) (l : List Item) : (canonN nodes l).length = l.length := by simp [canonN]
theorem canon_at {nodes : List Nd} {l : List Item} {i : Nat} (h : i < l.length) : ndAt (canonN nodes l) i = canonAt nodes l i := by simp [canonN, ndAt, h]

/-- B is A with other numbers, its nodes in another order. -/
structure Iso (A B : List Nd) (ρ : Int → Int) (τ : Nat → Nat) : Prop where
  len : B.length = A.length
  rise : Rising B
  lt : ∀ i, i < A.length → τ i < A.length
  inj : ∀ i j, i < A.length → j < A.length → ρ (ndAt A i).id = ρ (ndAt A j).id → (ndAt A i).id = (ndAt A j).id
  led : ∀ x ∈ flat A, place A x.to < A.length
  at_ : ∀ i, i < A.length → ndAt B (τ i) = reN ρ (ndAt A i)
section
variable {A B : List Nd} {ρ : Int → Int} {τ : Nat → Nat}
theorem Iso.place (h : Iso A B ρ τ) {id : Int} (hp : place A id < A.length) : place B (ρ id) = τ (place A id) := by
  have h1 := h.at_ _ hp
  have h2 : (ndAt B (τ (TreeM.place A id))).id = ρ id := by rw [h1]; show ρ (ndAt A (TreeM.place A id)).id = ρ id; rw [place_id hp]
  have h3 := h.rise.place (i := τ (TreeM.place A id)) (by rw [h.len]; exact h.lt _ hp)
  rw [h2] at h3; exact h3
theorem Iso.placed (h : Iso A B ρ τ) {id : Int} (hp : TreeM.place A id < A.length) : TreeM.place B (ρ id) < B.length := by rw [h.place hp, h.len]; exact h.lt _ hp
theorem Iso.inj' (h : Iso A B ρ τ) {a b : Int} (ha : TreeM.place A a < A.length) (hb : TreeM.place A b < A.length) (e : ρ a = ρ b) : a = b := by
  have := h.inj _ _ ha hb (by rw [place_id ha, place_id hb]; exact e)
  rwa [place_id ha, place_id hb] at this
def reI (ρ : Int → Int) (τ : Nat → Nat) (m : Item) : Item := ⟨τ m.node, m.fr, m.name, ρ m.id, m.path⟩
theorem Iso.met (h : Iso A B ρ τ) {l : List Item} (hl : ∀ m ∈ l, TreeM.place A m.id < A.length) {id : Int} (hp : TreeM.place A id < A.length) : TreeM.met (l.map (reI ρ τ)) (ρ id) = TreeM.met l id := by
  rw [Bool.eq_iff_iff, met_iff, met_iff]
  constructor
  · rintro ⟨m, hm, he⟩
    obtain ⟨m', hm', rfl⟩ := List.mem_map.1 hm
    exact ⟨m', hm', h.inj' (hl m' hm') hp he⟩
  · rintro ⟨m, hm, rfl⟩
    exact ⟨reI ρ τ m, List.mem_map_of_mem hm, rfl⟩
theorem dfs_placed (nodes : List Nd) (f : Nat) (id : Int) (fr : Nat) (name path : Bs) (l : List Item) (h : ∀ m ∈ l, place nodes m.id < nodes.length) : ∀ m ∈ dfs nodes f id fr name path l, place nodes m.id < nodes.length :=
  dfs_keeps (fun a b => (∀ m ∈ a, place nodes m.id < nodes.length) → ∀ m ∈ b, place nodes m.id < nodes.length) (fun _ h => h) (fun _ _ _ h1 h2 h => h2 (h1 h)) (fun l it hm hp hn h m hmem => by
    rcases List.mem_append.1 hmem with h1 | h1
    · exact h m h1
    · obtain rfl := List.mem_singleton.1 h1; exact hp) f id fr name path l h
theorem Iso.dfs (h : Iso A B ρ τ) : ∀ f id fr name path l, (∀ m ∈ l, TreeM.place A m.id < A.length) → TreeM.place A id < A.length → TreeM.dfs B f (ρ id) fr name path (l.map (reI ρ τ)) = (TreeM.dfs A f id fr name path l).map (reI ρ τ) := by
  intro f
  induction f with
  | zero => intro id fr name path l _ _; rfl
  | succ f ih =>
    intro id fr name path l hl hp
    cases hm : TreeM.met l id with
    | true => rw [dfs_met hm, dfs_met (by rw [h.met hl hp]; exact hm)]
    | false =>
      rw [dfs_new hm hp, dfs_new (by rw [h.met hl hp]; exact hm) (h.placed hp)]
      have hes : (ndAt B (TreeM.place B (ρ id))).es = (ndAt A (TreeM.place A id)).es.map (reE ρ) := by rw [h.place hp, h.at_ _ hp]; rfl
      have hit : l.map (reI ρ τ) ++ [(⟨TreeM.place B (ρ id), fr, name, ρ id, path⟩ : Item)] = (l ++ [(⟨TreeM.place A id, fr, name, id, path⟩ : Item)]).map (reI ρ τ) := by rw [h.place hp]; simp [reI]
      rw [hes, hit]
      have hl1 : ∀ m ∈ l ++ [(⟨TreeM.place A id, fr, name, id, path⟩ : Item)], TreeM.place A m.id < A.length := fun m hmem => by
        rcases List.mem_append.1 hmem with h1 | h1
        · exact hl m h1
        · obtain rfl := List.mem_singleton.1 h1; exact hp
      have hled : ∀ x ∈ (ndAt A (TreeM.place A id)).es, TreeM.place A x.to < A.length := fun x hx => h.led x (flat_mem.2 ⟨_, hp, hx⟩)
      rw [List.length_map]
      generalize (l ++ [(⟨TreeM.place A id, fr, name, id, path⟩ : Item)]) = l1 at hl1
      generalize (ndAt A (TreeM.place A id)).es = es at hled
      generalize l.length = here
      clear hes hit hm hl
      induction es generalizing l1 with
      | nil => rfl
      | cons x es ihe =>
        rw [List.map_cons, dfsL_cons, dfsL_cons]
        have hx := hled x (by simp)
        have := ih x.to here x.key (joinL path x.key) l1 hl1 hx
        show dfsL B f here path (es.map (reE ρ)) (TreeM.dfs B f (ρ x.to) here x.key (joinL path x.key) (l1.map (reI ρ τ))) = _
        rw [this]
        exact ihe _ (dfs_placed A f _ _ _ _ l1 hl1) (fun y hy => hled y (List.mem_cons_of_mem x hy))
theorem Iso.way (h : Iso A B ρ τ) (h1 : ρ 1 = 1) (hp : TreeM.place A 1 < A.length) : TreeM.way B = (TreeM.way A).map (reI ρ τ) := by
  have := h.dfs A.length 1 0 [] [47] [] (by simp) hp
  unfold TreeM.way
  rw [h.len]
  rw [h1] at this
  exact this
theorem Iso.metAt (h : Iso A B ρ τ) {l : List Item} (hl : ∀ m ∈ l, TreeM.place A m.id < A.length) {id : Int} (hp : TreeM.place A id < A.length) : TreeM.metAt (l.map (reI ρ τ)) (ρ id) = TreeM.metAt l id := by
  unfold TreeM.metAt
  rw [List.findIdx_map]
  induction l with
  | nil => rfl
  | cons m l ih =>
    rw [List.findIdx_cons, List.findIdx_cons, ih (fun m hm => hl m (by simp [hm]))]
    have e : (((fun m => m.id == ρ id) ∘ reI ρ τ) m) = (m.id == id) := by
      show (ρ m.id == ρ id) = (m.id == id)
      rw [Bool.eq_iff_iff]
      simp only [beq_iff_eq]
      exact ⟨fun e => h.inj' (hl m (by simp)) hp e, fun e => by rw [e]⟩
    rw [e]
/-- Trees that are the same but for numbers are numbered anew alike. -/
theorem Iso.canon (h : Iso A B ρ τ) (h1 : ρ 1 = 1) (hp : TreeM.place A 1 < A.length) : canonN B (TreeM.way B) = canonN A (TreeM.way A) := by
  have hw := way_wy A
  have hway := h.way h1 hp
  unfold canonN
  rw [hway, List.length_map]
  refine List.map_congr_left (fun i hi => ?_)
  have hi : i < (TreeM.way A).length := by simpa using hi
  have hn := (hw.node hi).1
  have e1 : itAt ((TreeM.way A).map (reI ρ τ)) i = reI ρ τ (itAt (TreeM.way A) i) := by simp [itAt, hi]
  have hpl : ∀ m ∈ TreeM.way A, TreeM.place A m.id < A.length := fun m hm => (hw.at_ m hm).1
  unfold canonAt
  rw [e1]
  show ({ ndAt B (τ (itAt (TreeM.way A) i).node) with id := (i : Int) + 1, es := (ndAt B (τ (itAt (TreeM.way A) i).node)).es.map (reE fun id => (TreeM.metAt ((TreeM.way A).map (reI ρ τ)) id : Int) + 1) } : Nd) = _
  rw [h.at_ _ hn]
  have e2 : ((reN ρ (ndAt A (itAt (TreeM.way A) i).node)).es.map (reE fun id => (TreeM.metAt ((TreeM.way A).map (reI ρ τ)) id : Int) + 1)) = (ndAt A (itAt (TreeM.way A) i).node).es.map (reE fun id => (TreeM.metAt (TreeM.way A) id : Int) + 1) := by
    show ((ndAt A (itAt (TreeM.way A) i).node).es.map (reE ρ)).map _ = _
    rw [List.map_map]
    refine List.map_congr_left (fun x hx => ?_)
    show (⟨x.key, (TreeM.metAt ((TreeM.way A).map (reI ρ τ)) (ρ x.to) : Int) + 1⟩ : Ent) = ⟨x.key, (TreeM.metAt (TreeM.way A) x.to : Int) + 1⟩
    rw [h.metAt hpl (h.led x (flat_mem.2 ⟨_, hn, hx⟩))]
  rw [e2]
  rfl
end

theorem entsB_map (ρ : Int → Int) (es : List Ent) : entsB (es.map (reE ρ)) = entsB es := by
  unfold entsB
  rw [List.length_map]
  suffices H : ∀ k, k ≤ es.length → allTo (okEnt (es.map (reE ρ))) k = allTo (okEnt es) k from H _ (Nat.le_refl _)
  intro k
  induction k with
  | zero => intro _; rfl
  | succ k ih =>
    intro hk
    rw [allTo, allTo, ih (by omega)]
    congr 1
    have e : ∀ i, i < es.length → (entAt (es.map (reE ρ)) i).key = (entAt es i).key := fun i hi => by simp [entAt, hi, reE]
    unfold okEnt
    rw [e k (by omega), e (k - 1) (by omega)]
theorem plainB_re (ρ : Int → Int) (n : Nd) : plainB (reN ρ n) = plainB n := by
  unfold plainB reN
  simp only [entsB_map]
  congr 1
  simp

/-- A list of numbers below n, each once, n of them, has them all. -/
theorem range_perm : ∀ (n : Nat) (l : List Nat), l.Nodup → (∀ x ∈ l, x < n) → l.length = n → l.Perm (List.range n) := by
  intro n
  induction n with
  | zero => intro l _ _ h; rw [List.length_eq_zero_iff.1 h]; exact List.Perm.refl _
  | succ n ih =>
    intro l hd hlt hlen
    by_cases hm : n ∈ l
    · have hp := List.perm_cons_erase hm
      have hd2 : (l.erase n).Nodup := hd.erase n
      have h1 : ∀ x ∈ l.erase n, x < n := fun x hx => by
        have hx2 := (hd.mem_erase_iff).1 hx
        have := hlt x hx2.2
        omega
      have h2 := ih (l.erase n) hd2 h1 (by rw [List.length_erase_of_mem hm]; omega)
      rw [List.range_succ]
      exact hp.trans ((List.Perm.cons n h2).trans (List.perm_append_singleton n (List.range n)).symm)
    · exfalso
      have h1 : ∀ x ∈ l, x < n := fun x hx => by
        have := hlt x hx
        by_cases e : x = n
        · subst e; exact absurd hx hm
        · omega
      cases l with
      | nil => simp at hlen
      | cons a t =>
        have h3 := ih t (List.nodup_cons.1 hd).2 (fun x hx => h1 x (by simp [hx])) (by simpa using hlen)
        have ha : a ∈ List.range n := by simpa using h1 a (by simp)
        exact (List.nodup_cons.1 hd).1 (h3.symm.subset ha)

theorem flat_range (A : List Nd) : flat A = (List.range A.length).flatMap fun i => (ndAt A i).es := by
  have h : A = (List.range A.length).map (ndAt A) := by
    apply List.ext_getElem
    · simp
    · intro i h1 h2; simp [ndAt, h1]
  unfold flat
  conv => lhs; rw [h]
  rw [List.flatMap_map]

end TreeM
end

section
namespace Go.Proofs.YtpicgkoclbpjpaaGreatDoor
open Go.RowKit Go.Sort
open PathM TreeM
set_option linter.unusedVariables false

def entC (x : Ent) : List Value := [.string (nm x.key), .int .i64 x.to]
theorem ent_cells (es : List Ent) : ∀ k, k < es.length → (es.flatMap entC)[k * 2]? = some (.string (nm (entAt es k).key)) ∧ (es.flatMap entC)[k * 2 + 1]? = some (.int .i64 (entAt es k).to) := by
  induction es with
  | nil => intro k h; simp at h
  | cons a l ih =>
    intro k h
    rw [List.flatMap_cons]
    cases k with
    | zero => simp [entC, entAt]
    | succ k =>
      have := ih k (by simpa using h)
      rw [show (k + 1) * 2 = k * 2 + 2 from by omega]
      simp only [entC, entAt] at this ⊢
      simpa using this
theorem ent_len (es : List Ent) : (es.flatMap entC).length = es.length * 2 := by
  induction es with
  | nil => rfl
  | cons a l ih => rw [List.flatMap_cons, List.length_append, ih]; simp [entC]; omega
theorem info59 : (Tryz.prog.info? 75).map (fun i => (i.zero, i.size, i.bytes)) = some (some (.agg #[.string ByteArray.empty, .int .i64 0]), 2, 24) := by kernel_rfl
theorem info37 : (Tryz.prog.info? 64).map (fun i => (i.zero, i.size, i.bytes)) = some (some (.agg #[.int .i64 0, .int .i64 0, .int .i64 0, .int .i64 0, .int .i64 0, .string ByteArray.empty, .slice none 0 0]), 7, 80) := by kernel_rfl

theorem run_append_nil_empty {P : Program} {w : World} (t ty e : TypeId) (i : TypeInfo) (size : Nat) (ht : P.underlying t = some (.slice e)) (hi : P.info? e = some i) (A : Option Addr) (c : Nat) :
    (Builtin.append_ #[t, t] ty #[.slice none 0 0, .slice A 0 c]).run P w = .ok (.slice none 0 0) w := by
  cases A with
  | none => simp [Builtin.append_, run_underlying ht, sizeOf, typeInfo, hi, Builtin.lenOf, Builtin.firstCells]
  | some ad => simp [Builtin.append_, run_underlying ht, sizeOf, typeInfo, hi, Builtin.lenOf, Builtin.firstCells, loadCells, loadCellsFrom]

theorem wpList_copy_ents {w : World} {ops : Array Oper} {rest : List Oper} {o : Oper} {a : Act} {Q : Exit → Act → World → Prop} (hgd : o.guard = none) (s x : Operand)
    (ho : o.op = .call { callee := .builtin .append, args := #[s, x], argTypes := #[62, 62] }) (hs : a.eval s = .slice none 0 0) (ev : Value) (es : List Ent) (B : Nat) (hx : a.eval x = ev) (hE : EntsIn w B ev es)
    (h : ∀ v' w', w'.ownsRow w.heap.size 75 2 v' es.length (es.flatMap entC) → w.grownBy w' none → wpList Tryz.prog ops Q rest (a.put o.dst v') w') : wpList Tryz.prog ops Q (o :: rest) a w := by
  obtain ⟨i0, hi, hz0, hz1, hz2⟩ := info_parts info59
  obtain ⟨h1, h2, ⟨A, c, rfl, rfl⟩ | ⟨b, off, c, rfl, h3, h4, h5, h6⟩⟩ := hE.cases
  · refine wpList_plain hgd fun K hK => ?_
    have hrun := run_append_nil_empty (P := Tryz.prog) (w := w) 62 o.type 75 i0 2 Tryz.underlying62 hi A c
    unfold Oper.wp
    simp [execOp, ho, resolve, invoke, builtin, hs, hx, hrun, Result.andThen]
    exact hK _ _ (h _ _ (World.ownsRow_nil _ _ _ _) (World.grownBy.refl _ _))
  · refine wpList_append_own _ hgd s x 62 ho w.heap.size 75 i0 (.agg #[.string ByteArray.empty, .int .i64 0]) 2 24 Tryz.underlying62 hi hz0 hz1 hz2 rfl (by decide) _ 0 [] hs (World.ownsRow_nil _ _ _ _) ⟨b, off, none⟩ es.length c (es.flatMap entC) hx (ent_len es) ?_ ?_ (maxLen_ok (by omega)) (by omega) (Nat.le_refl _) ?_
    · intro j u hj
      have hjl : j < es.length * 2 := by have := lt_of_get hj; rwa [ent_len] at this
      obtain ⟨e1, e2⟩ := ent_cells es (j / 2) (by omega)
      obtain ⟨g1, g2⟩ := h6 (j / 2) (by omega)
      have hadd : (⟨b, off, none⟩ : Addr).add j = ⟨b, off + j, none⟩ := by simp [Addr.add]
      rw [hadd]
      rcases Nat.mod_two_eq_zero_or_one j with hm | hm
      · rw [show j / 2 * 2 = j from by omega] at e1 g1
        rw [hj] at e1; cases e1; exact g1
      · rw [show j / 2 * 2 + 1 = j from by omega] at e2
        rw [show off + j / 2 * 2 + 1 = off + j from by omega] at g2
        rw [hj] at e2; cases e2; exact g2
    · intro u hu
      obtain ⟨x, _, hx⟩ := List.mem_flatMap.1 hu
      simp [entC] at hx
      rcases hx with rfl | rfl <;> rfl
    · intro v' w' g1 g2 _
      rw [Nat.zero_add, List.nil_append] at g1
      exact h v' w' g1 (by simpa [Value.ownBlock] using g2)

theorem ent_set (es : List Ent) (ρ : Int → Int) (k : Nat) (h : k < es.length) :
    (((es.take k).map (reE ρ) ++ es.drop k).flatMap entC).set (k * 2 + 1) (.int .i64 (ρ (entAt es k).to)) = ((es.take (k + 1)).map (reE ρ) ++ es.drop (k + 1)).flatMap entC := by
  have hd : es.drop k = entAt es k :: es.drop (k + 1) := by
    rw [List.drop_eq_getElem_cons h]; simp [entAt, h]
  have ht : es.take (k + 1) = es.take k ++ [entAt es k] := by
    rw [List.take_succ_eq_append_getElem h]; simp [entAt, h]
  have hl : ((es.take k).map (reE ρ) |>.flatMap entC).length = k * 2 := by rw [ent_len]; simp; omega
  rw [hd, ht, List.flatMap_append, List.flatMap_cons, List.map_append, List.flatMap_append, List.flatMap_append, List.set_append_right _ _ (by omega), hl, Nat.add_sub_cancel_left]
  simp [entC, reE]

/-- A row of nodes, each with its entries. -/
def ndC (p : Nd × Value) : List Value := [.int .i64 p.1.id, .int .i64 p.1.kind, .int .i64 p.1.mode, .int .i64 p.1.owner, .int .i64 p.1.time, .string (nm p.1.data), p.2]
def Rowed (w : World) (base : Nat) (nv : Value) (l : List Nd) : Prop :=
  ∃ ps : List (Nd × Value), ps.map Prod.fst = l ∧ w.ownsRow base 64 7 nv l.length (ps.flatMap ndC) ∧ ∀ p ∈ ps, w.ownsRow base 75 2 p.2 p.1.es.length (p.1.es.flatMap entC)
theorem nd_cells (ps : List (Nd × Value)) : ∀ k (h : k < ps.length), ∀ j, j < 7 → (ps.flatMap ndC)[k * 7 + j]? = (ndC ps[k])[j]? := by
  induction ps with
  | nil => intro k h; simp at h
  | cons a l ih =>
    intro k h j hj
    rw [List.flatMap_cons]
    have hl : (ndC a).length = 7 := rfl
    cases k with
    | zero => rw [Nat.zero_mul, Nat.zero_add, List.getElem?_append_left (by omega)]; rfl
    | succ k =>
      rw [List.getElem?_append_right (by omega), hl, show (k + 1) * 7 + j - 7 = k * 7 + j from by omega, ih k (by simpa using h) j hj]
      rfl
theorem Rowed.nil (w : World) (base : Nat) : Rowed w base (.slice none 0 0) [] := ⟨[], rfl, World.ownsRow_nil _ _ _ _, by simp⟩
theorem rows_apart {w : World} {b1 b2 : Nat} {e1 e2 : TypeId} {s1 s2 n1 n2 : Nat} {v1 v2 : Value} {xs1 xs2 : List Value} (hne : e1 ≠ e2) (h1 : w.ownsRow b1 e1 s1 v1 n1 xs1) (h2 : w.ownsRow b2 e2 s2 v2 n2 xs2) : v1.ownBlock = none ∨ v1.ownBlock ≠ v2.ownBlock := by
  rcases h1.2 with ⟨rfl, _⟩ | ⟨g, cap, cur, rfl, _, hh, _⟩
  · exact .inl rfl
  · rcases h2.2 with ⟨rfl, _⟩ | ⟨g2, cap2, cur2, rfl, _, hh2, _⟩
    · right; simp [Value.ownBlock]
    · right
      intro e
      obtain rfl : g = g2 := by simpa [Value.ownBlock] using e
      rw [hh] at hh2
      have := Option.some.inj hh2
      injection this with _ h _
      exact hne h
theorem grownBy_set (W : World) (a : Addr) (u : Value) : W.grownBy (W.setCell a u) (some a.block) :=
  ⟨rfl, rfl, rfl, by simp, fun k _ hk => heap_setCell_other W a k u (fun e => hk (by rw [e]))⟩
theorem row_grown {W W' : World} {base : Nat} {e : TypeId} {size : Nat} {v : Value} {k : Nat} {xs : List Value} {r : Option Nat} (h : W.ownsRow base e size v k xs) (hg : W.grownBy W' r) (hr : ∀ j, r = some j → v.ownBlock ≠ some j) : W'.ownsRow base e size v k xs := by
  refine h.kept hg ?_
  cases r with
  | none => cases hv : v.ownBlock with
    | none => exact .inl rfl
    | some j => right; simp
  | some j => exact .inr (hr j rfl)

theorem cellsL (W : World) (cs : List Value) (t : TypeId) : ∀ (j : Nat) (u : Value), cs[j]? = some u → (W.alloc (.cells cs.toArray t)).cell? ((⟨W.heap.size, 0, none⟩ : Addr).add j) = some u := by
  intro j u hj
  cases j with
  | zero => simpa [Addr.add] using hj
  | succ j => simpa [Addr.add] using hj
theorem one7 (a b c d e : Int) (s : ByteArray) (A : Option Addr) (n k : Nat) : ∀ u ∈ [Value.int .i64 a, .int .i64 b, .int .i64 c, .int .i64 d, .int .i64 e, .string s, .slice A n k], u.oneCell' = true := by
  intro u hu
  simp at hu
  rcases hu with rfl | rfl | rfl | rfl | rfl | rfl | rfl <;> rfl
theorem ent_here (es : List Ent) (ρ : Int → Int) (k : Nat) (h : k < es.length) : k < ((es.take k).map (reE ρ) ++ es.drop k).length ∧ entAt ((es.take k).map (reE ρ) ++ es.drop k) k = entAt es k := by
  have hl : ((es.take k).map (reE ρ)).length = k := by simp; omega
  refine ⟨by simp; omega, ?_⟩
  unfold entAt
  rw [List.getD_eq_getElem?_getD, List.getElem?_append_right (by omega), hl, Nat.sub_self, List.getElem?_drop, Nat.add_zero, ← List.getD_eq_getElem?_getD]

/-- One node more. -/
theorem Rowed.next {wr wM w7 : World} {base bc i : Nat} {nv v v' : Value} {ps : List (Nd × Value)} {n : Nd} {tmp : Obj} (h1 : wr.ownsRow base 64 7 nv i (ps.flatMap ndC)) (h2 : ∀ p ∈ ps, wr.ownsRow base 75 2 p.2 p.1.es.length (p.1.es.flatMap entC)) (hi : ps.length = i)
    (hbc : bc < base) (hbase : base ≤ wr.heap.size) (hM : Below wr.heap.size wr wM) (hv : wM.ownsRow wr.heap.size 75 2 v n.es.length (n.es.flatMap entC))
    (hg : (wM.alloc tmp).grownBy w7 nv.ownBlock) (h17 : w7.ownsRow base 64 7 v' (i + 1) (ps.flatMap ndC ++ ndC (n, v))) : Rowed (w7.setCell ⟨bc, 0, none⟩ v') base v' (ps.map Prod.fst ++ [n]) := by
  have h1M := row_below h1 hM
  have hs := grownBy_set w7 ⟨bc, 0, none⟩ v'
  have hblk : ∀ {e : TypeId} {size k : Nat} {u : Value} {xs : List Value} {W : World}, W.ownsRow base e size u k xs → ∀ j, some bc = some j → u.ownBlock ≠ some j := by
    intro e size k u xs W hu j hj he
    cases hj
    have := (hu.lt _ he).1
    omega
  refine ⟨ps ++ [(n, v)], by simp, ?_, ?_⟩
  · have := row_grown h17 hs (hblk h17)
    simpa [hi] using this
  · have hne : 75 ≠ 64 := by decide
    have key : ∀ (u : Value) (k : Nat) (xs : List Value), wM.ownsRow base 75 2 u k xs → (w7.setCell ⟨bc, 0, none⟩ v').ownsRow base 75 2 u k xs := by
      intro u k xs hu
      have a1 := hu.alloc tmp
      have a2 := a1.kept hg (rows_apart hne hu h1M)
      exact row_grown a2 hs (hblk a2)
    intro p hp
    rcases List.mem_append.1 hp with hp | hp
    · exact key _ _ _ (row_below (h2 p hp) hM)
    · obtain rfl := List.mem_singleton.1 hp
      exact key _ _ _ (ownsRow_base hv hbase)

theorem Rowed.nodes {w : World} {base : Nat} {nv : Value} {l : List Nd} (h : Rowed w base nv l) (hl : l.length ≤ 140737488351232) (hd : ∀ n ∈ l, n.data.length ≤ 140737488351232 ∧ n.es.length * 24 ≤ 140737488351232 ∧ ∀ x ∈ n.es, x.key.length ≤ 140737488351232 ∧ -9223372036854775808 ≤ x.to ∧ x.to ≤ 9223372036854775807) : NodesIn w w.heap.size nv l := by
  obtain ⟨ps, rfl, h1, h2⟩ := h
  have hrow : ∀ g cap, nv = .slice (some ⟨g, 0, none⟩) (ps.map Prod.fst).length cap → ∀ i, i < (ps.map Prod.fst).length → NodeIn w w.heap.size g (0 + i * 7) (ndAt (ps.map Prod.fst) i) := by
    rintro g cap rfl i hi
    have hil : i < ps.length := by simpa using hi
    have hmem : ps[i] ∈ ps := List.getElem_mem hil
    have hn : ndAt (ps.map Prod.fst) i = ps[i].1 := by simp [ndAt, hil]
    have hc : ∀ j u, j < 7 → (ndC ps[i])[j]? = some u → w.cell? ⟨g, i * 7 + j, none⟩ = some u := fun j u hj hu => row_cells h1 _ _ ((nd_cells ps i hil j hj).trans hu)
    obtain ⟨d1, d2, d3⟩ := hd ps[i].1 (List.mem_map_of_mem hmem)
    rw [hn, Nat.zero_add]
    refine ⟨hc 0 _ (by decide) rfl, hc 1 _ (by decide) rfl, hc 2 _ (by decide) rfl, hc 3 _ (by decide) rfl, hc 4 _ (by decide) rfl, hc 5 _ (by decide) rfl, d1, ps[i].2, hc 6 _ (by decide) rfl, ?_⟩
    have he := h2 _ hmem
    rcases he.2 with ⟨e1, e2⟩ | ⟨ge, cape, cur, e1, e2, e3, e4, _⟩
    · exact ⟨none, 0, by rw [e1, e2], by omega, d2, d3, fun hne => absurd (List.length_eq_zero_iff.1 e2) hne⟩
    · refine ⟨_, _, e1, e4, d2, d3, fun _ => ⟨ge, 0, rfl, (Array.getElem?_eq_some_iff.1 e3).1, fun k hk => ?_⟩⟩
      rw [e1] at he
      obtain ⟨c1, c2⟩ := ent_cells ps[i].1.es k hk
      rw [Nat.zero_add]
      exact ⟨row_cells he _ _ c1, row_cells he _ _ c2⟩
  rcases h1.2 with ⟨e1, e2⟩ | ⟨g, cap, cur, e1, e2, e3, e4, _⟩
  · exact ⟨none, 0, by rw [e1, e2], by omega, hl, fun hne => absurd (List.length_eq_zero_iff.1 e2) hne⟩
  · exact ⟨_, _, e1, e4, hl, fun _ => ⟨g, 0, rfl, (Array.getElem?_eq_some_iff.1 e3).1, fun i hi => by have := hrow g cap e1 i hi; exact this⟩⟩

end Go.Proofs.YtpicgkoclbpjpaaGreatDoor
end

section
namespace Go.Proofs.YtpicgkoclbpjpaaGreatDoor
open Go.RowKit Go.Sort
open PathM TreeM
set_option linter.unusedVariables false

/-- What Canon answers. -/
def canonR (t : Tr) : Tr := if checkB t = true then canonT t else ⟨[], 0, 0, 0⟩
def CanonPost (t : Tr) (w : World) (e : Ending) (w' : World) : Prop :=
  ∃ nv', e = .returned (.tuple #[trV nv' (canonR t), .int .i64 (checkI t)]) ∧ NodesIn w' w'.heap.size nv' (canonR t).nodes ∧ Below w.heap.size w w'
theorem nodes_nil (w : World) (B : Nat) : NodesIn w B (.slice none 0 0) [] := ⟨none, 0, rfl, by simp, by simp, fun h => absurd rfl h⟩
theorem fin_at {n : Nat} {W : World} {o : Obj} (h : W.heap[n]? = some o) : n < W.heap.size := (Array.getElem?_eq_some_iff.1 h).1
theorem cell_blk {W : World} {b : Nat} {cs : Array Value} {t : TypeId} (h : W.heap[b]? = some (.cells cs t (0, 0))) (j : Nat) : W.cell? ⟨b, j, none⟩ = cs[j]? := by simp [World.cell?, h]
theorem froz_blk {W : World} {b : Nat} {cs : Array Value} {t : TypeId} (h : W.heap[b]? = some (.cells cs t (0, 0))) (j : Nat) : W.frozen? ⟨b, j, none⟩ = false := by simp [World.frozen?, h]
theorem set_blk {W : World} {b j : Nat} {cs : Array Value} {t : TypeId} (h : W.heap[b]? = some (.cells cs t (0, 0))) (u : Value) : (W.setCell ⟨b, j, none⟩ u).heap[b]? = some (.cells (cs.setIfInBounds j u) t (0, 0)) := heap_setCell_same W b j cs t u h

theorem results_cell2 {P : Program} {fn : Func} {p u : Tmp} {ty : TypeId} (h : fn.results = #[.cell p ty, .tmp u]) (tmps : Array Value) (w : World) (g : Nat) (t : TypeId) (cs : Array Value) (fr : Nat × Nat) (d : TypeDesc)
    (hp : tmps.getD p undef = .pointer (some ⟨g, 0, none⟩)) (hg : w.heap[g]? = some (.cells cs t fr))
    (hu : P.underlying ty = some d) (hd : (match d with | .struct _ | .array _ _ => true | _ => false) = true) (hi : (P.info? ty).map (·.size) = some cs.size) :
    (results fn tmps).run P w = .ok (.tuple #[.agg cs, tmps.getD u undef]) w := by
  rw [results_cell_tmp h, hp]
  simp [asAddr, Result.andThen, run_loadVar_row w g t ty cs fr d hg hu hd hi]
theorem Rowed.set {w : World} {base : Nat} {nv : Value} {l : List Nd} (h : Rowed w base nv l) {a : Addr} (ha : a.block < base) (u : Value) : Rowed (w.setCell a u) base nv l := by
  obtain ⟨ps, h1, h2, h3⟩ := h
  exact ⟨ps, h1, ownsRow_setCell_below h2 ha u, fun p hp => ownsRow_setCell_below (h3 p hp) ha u⟩
end Go.Proofs.YtpicgkoclbpjpaaGreatDoor
end

section
namespace Go.Proofs.YtpicgkoclbpjpaaGreatDoor
open Go.RowKit Go.Sort
open PathM TreeM
set_option linter.unusedVariables false

def twoT : Tr := ⟨[⟨1, 1, 0, 0, 0, [], [⟨[97], 5⟩, ⟨[98], 5⟩]⟩, ⟨5, 2, 0, 0, 0, [], []⟩], 9, 0, 0⟩
def newT (rn rb : Int) : Tr := ⟨[⟨1, 1, 493, 0, 0, [], []⟩], 1, rn, rb⟩
def TreePost (t : Tr) (w : World) (e : Ending) (w' : World) : Prop := ∃ nv, e = .returned (trV nv t) ∧ NodesIn w' w'.heap.size nv t.nodes ∧ Below w.heap.size w w'

theorem blk1 (w : World) (A B C : Obj) : (((w.alloc A).alloc B).alloc C).heap[w.heap.size]? = some A := (heap_alloc_old _ _ (by simp; omega)).trans (heap_alloc2_old w A B)
theorem blk2 (w : World) (A B C : Obj) : (((w.alloc A).alloc B).alloc C).heap[w.heap.size + 1]? = some B := (heap_alloc_old _ _ (by simp)).trans (heap_alloc2_new w A B)
theorem blk3 (w : World) (A B C : Obj) : (((w.alloc A).alloc B).alloc C).heap[w.heap.size + 1 + 1]? = some C := by
  have h := heap_alloc_new ((w.alloc A).alloc B) C
  have e : ((w.alloc A).alloc B).heap.size = w.heap.size + 1 + 1 := by simp
  rwa [e] at h
theorem b3 (w : World) (A B C : Obj) : Below w.heap.size w (((w.alloc A).alloc B).alloc C) := (((Below.refl w.heap.size w).alloc (by simp) _).alloc (by simp) _).alloc (by simp; omega) _
theorem ents_nil (w : World) (B : Nat) : EntsIn w B (.slice none 0 0) [] := ⟨none, 0, rfl, by simp, by simp, by simp, fun h => absurd rfl h⟩

theorem two_check : checkB twoT = true := by decide
theorem two_canon : canonT twoT = ⟨[⟨1, 1, 0, 0, 0, [], [⟨[97], 2⟩, ⟨[98], 2⟩]⟩, ⟨2, 2, 0, 0, 0, [], []⟩], 2, 0, 0⟩ := by decide
theorem two_path : pathI twoT 5 = ([47, 97], true) := by decide
end Go.Proofs.YtpicgkoclbpjpaaGreatDoor
end

section
namespace Go.Proofs.YtpicgkoclbpjpaaGreatDoor
open Go.RowKit Go.Sort
open PathM TreeM
set_option linter.unusedVariables false

set_option maxHeartbeats 8000000 in
theorem rsameNode_any (v u : Value) (a b : Nd) (B : Nat) (w : World) (hE : EntsIn w B v a.es) (hF : EntsIn w B u b.es) (hB : B ≤ w.heap.size) :
    Calls Tryz.prog 29 #[ndV v a, ndV u b] w (BelowB (decide (a = b)) w) := by
  unfold BelowB
  obtain ⟨A1, c1, rfl, _⟩ := ents_len hE
  obtain ⟨A2, c2, rfl, _⟩ := ents_len hF
  have HE := Lib.hid (hE.more hB); have HF := Lib.hid (hF.more hB)
  clear hE hF
  unfold ndV
  obtain ⟨i1, k1, m1, o1, t1, d1, e1⟩ := a
  obtain ⟨i2, k2, m2, o2, t2, d2, e2⟩ := b
  simp only at *
  have hdec : decide ((⟨i1, k1, m1, o1, t1, d1, e1⟩ : Nd) = ⟨i2, k2, m2, o2, t2, d2, e2⟩) = (decide (i1 = i2) && (decide (k1 = k2) && (decide (m1 = m2) && (decide (o1 = o2) && (decide (t1 = t2) && (decide (d1 = d2) && decide (e1 = e2))))))) := by
    rw [Bool.eq_iff_iff]; simp
  rw [hdec]
  clear hdec
  have hB1 : Below w.heap.size w ((w.alloc (.cells #[.int .i64 i1, .int .i64 k1, .int .i64 m1, .int .i64 o1, .int .i64 t1, .string (nm d1), .slice A1 e1.length c1] 64)).alloc (.cells #[.int .i64 i2, .int .i64 k2, .int .i64 m2, .int .i64 o2, .int .i64 t2, .string (nm d2), .slice A2 e2.length c2] 64)) :=
    ((Below.refl _ _).alloc (Nat.le_refl _) _).alloc (by simp) _
  have HB := Lib.hid hB1
  clear hB1
  by_cases h1 : i1 = i2
  · have q1 : (i1 != i2) = false := by simpa using h1
    rw [decide_eq_true h1]
    clear h1
    by_cases h2 : k1 = k2
    · have q2 : (k1 != k2) = false := by simpa using h2
      rw [decide_eq_true h2]
      clear h2
      by_cases h3 : m1 = m2
      · have q3 : (m1 != m2) = false := by simpa using h3
        rw [decide_eq_true h3]
        clear h3
        by_cases h4 : o1 = o2
        · have q4 : (o1 != o2) = false := by simpa using h4
          rw [decide_eq_true h4]
          clear h4
          by_cases h5 : t1 = t2
          · have q5 : (t1 != t2) = false := by simpa using h5
            rw [decide_eq_true h5]
            clear h5
            by_cases h6 : d1 = d2
            · have q6 : ((nm d1).toList == (nm d2).toList) = true := by rw [listD, listD]; show (d1 == d2) = true; simpa using h6
              rw [decide_eq_true h6]
              clear h6
              by_cases h7 : e1.length = e2.length
              · have q7 : ((e1.length : Int) != (e2.length : Int)) = false := by simp; omega
                rw [← ents_eq h7]
                obtain ⟨r, hr⟩ : ∃ r, allTo (fun i => decide (entAt e1 i = entAt e2 i)) e1.length = r := ⟨_, rfl⟩
                rw [hr]
                have hfail : ∀ k, k < e1.length → ¬ entAt e1 k = entAt e2 k → r = false := fun k hk h => by rw [← hr]; exact allTo_not hk (by simpa using h)
                rw [← h7] at HB q7 ⊢
                have hl2 := h7
                obtain ⟨hlen, _, hc1⟩ := (HE.out.below HB.out).cases
                obtain ⟨_, _, hc2⟩ := (HF.out.below HB.out).cases
                rw [← h7] at hc2
                have HFA := Lib.hid hfail; have HR := Lib.hid hr; have HC1 := Lib.hid hc1; have HC2 := Lib.hid hc2; have HL2 := Lib.hid hl2
                clear hfail hr hc1 hc2 hl2 h7 HE HF
                generalize hn : e1.length = n at *
                have HN := Lib.hid hn
                clear hn
                generalize nm d1 = D1 at *
                generalize nm d2 = D2 at *
                go_enter Tryz.func29, Tryz.ntmps29
                go_wp2
                generalize hA : (.cells #[.int .i64 i1, .int .i64 k1, .int .i64 m1, .int .i64 o1, .int .i64 t1, .string D1, .slice A1 n c1] 64 : Obj) = OA at *
                generalize hB2 : (.cells #[.int .i64 i2, .int .i64 k2, .int .i64 m2, .int .i64 o2, .int .i64 t2, .string D2, .slice A2 n c2] 64 : Obj) = OB at *
                have b1 := heap_alloc2_old w OA OB
                have b2 := heap_alloc2_new w OA OB
                generalize (w.alloc OA).alloc OB = W0 at *
                rw [← hA] at b1
                rw [← hB2] at b2
                have p6 := cell_blk b1 6
                have r6 := cell_blk b2 6
                simp at p6 r6
                clear b1 b2 hA hB2 q1 q2 q3 q4 q5 q6 q7
                go_loopw [5] (fun i wr => ∃ k q : Nat, k ≤ n ∧ i = .int .i64 k ∧ wr = W0.drewN q ∧ allTo (fun i => decide (entAt e1 i = entAt e2 i)) k = true) (fun i _ => n - (intOf i).toNat)
                case atStart => exact ⟨0, 0, by omega, rfl, rfl, rfl⟩
                case round =>
                  obtain ⟨k, q, hk, rfl, rfl, hto⟩ := hrel
                  have HT := Lib.hid hto
                  clear hto
                  by_cases hlt : k < n
                  · obtain ⟨b, off, cc, hA1, hcells⟩ : ∃ b off cc, Value.slice A1 n c1 = .slice (some ⟨b, off, none⟩) n cc ∧ ∀ k, k < n → W0.cell? ⟨b, off + k * 2, none⟩ = some (.string (nm (entAt e1 k).key)) ∧ W0.cell? ⟨b, off + k * 2 + 1, none⟩ = some (.int .i64 (entAt e1 k).to) := by
                      rcases HC1.out with ⟨_, _, _, h0⟩ | ⟨b, off, cc, h1, _, _, _, h2⟩
                      · rw [← HN.out, h0] at hlt; exact absurd hlt (by simp)
                      · exact ⟨b, off, cc, h1, h2⟩
                    obtain ⟨b', off', cc', hA2, hcells'⟩ : ∃ b off cc, Value.slice A2 n c2 = .slice (some ⟨b, off, none⟩) n cc ∧ ∀ k, k < n → W0.cell? ⟨b, off + k * 2, none⟩ = some (.string (nm (entAt e2 k).key)) ∧ W0.cell? ⟨b, off + k * 2 + 1, none⟩ = some (.int .i64 (entAt e2 k).to) := by
                      rcases HC2.out with ⟨_, _, _, h0⟩ | ⟨b, off, cc, h1, _, _, _, h2⟩
                      · have : e2.length = n := by rw [← HL2.out]
                        rw [h0] at this; simp at this; omega
                      · exact ⟨b, off, cc, h1, h2⟩
                    cases hA1; cases hA2
                    obtain ⟨x0, x1⟩ := hcells k hlt
                    obtain ⟨y0, y1⟩ := hcells' k hlt
                    have hkk : (k : Int) < (n : Int) := by omega
                    have hne := fun W => ent_neq (entAt e1 k) (entAt e2 k) W
                    clear hcells hcells'
                    by_cases he : entAt e1 k = entAt e2 k
                    · have HO := Lib.hid (allTo_succ HT.out (show decide (entAt e1 k = entAt e2 k) = true by simpa using he))
                      have hbb : (!decide (entAt e1 k = entAt e2 k)) = false := by simp [he]
                      rw [hbb] at hne
                      clear he hbb
                      generalize entAt e1 k = x at *
                      generalize entAt e2 k = y at *
                      go_wp2
                      go_quiet (fail)
                      go_wp2
                      go_roundw
                      case rel => exact ⟨k + 1, q + nq, by omega, by go_num, rfl, HO.out⟩
                      case measure => simp [intOf]; omega
                    · have HO := Lib.hid (HFA.out k hlt he)
                      have hbb : (!decide (entAt e1 k = entAt e2 k)) = true := by simp [he]
                      rw [hbb] at hne
                      clear he hbb
                      generalize entAt e1 k = x at *
                      generalize entAt e2 k = y at *
                      go_wp2
                      go_quiet (fail)
                      go_wp2
                      go_ret
                      exact ⟨ret_bool HO.out.symm, below_drewN' (below_drewN' HB.out _) _⟩
                  · have hkn : k = n := by omega
                    have HO : Hid (true = r) := Lib.hid (by rw [← HR.out, ← hkn]; exact HT.out.symm)
                    clear hkn
                    go_wp2
                    go_ret
                    exact ⟨ret_bool HO.out, below_drewN' HB.out _⟩
              · have q7 : ((e1.length : Int) != (e2.length : Int)) = true := by simp; omega
                rw [decide_eq_false (fun h => h7 (by rw [h]))]
                clear h7
                clear HE HF
                generalize e1.length = l1 at *
                generalize e2.length = l2 at *
                generalize nm d1 = D1 at *
                generalize nm d2 = D2 at *
                go_enter Tryz.func29, Tryz.ntmps29
                go_wp2
                go_ret
                exact ⟨rfl, HB.out⟩
            · have q6 : ((nm d1).toList == (nm d2).toList) = false := by rw [listD, listD]; exact beq_eq_false_iff_ne.2 h6
              rw [decide_eq_false h6]
              clear h6
              clear HE HF
              generalize e1.length = l1 at *
              generalize e2.length = l2 at *
              generalize nm d1 = D1 at *
              generalize nm d2 = D2 at *
              go_enter Tryz.func29, Tryz.ntmps29
              go_wp2
              go_ret
              exact ⟨rfl, HB.out⟩
          · have q5 : (t1 != t2) = true := by simpa using h5
            rw [decide_eq_false h5]
            clear h5
            clear HE HF
            generalize e1.length = l1 at *
            generalize e2.length = l2 at *
            generalize nm d1 = D1 at *
            generalize nm d2 = D2 at *
            go_enter Tryz.func29, Tryz.ntmps29
            go_wp2
            go_ret
            exact ⟨rfl, HB.out⟩
        · have q4 : (o1 != o2) = true := by simpa using h4
          rw [decide_eq_false h4]
          clear h4
          clear HE HF
          generalize e1.length = l1 at *
          generalize e2.length = l2 at *
          generalize nm d1 = D1 at *
          generalize nm d2 = D2 at *
          go_enter Tryz.func29, Tryz.ntmps29
          go_wp2
          go_ret
          exact ⟨rfl, HB.out⟩
      · have q3 : (m1 != m2) = true := by simpa using h3
        rw [decide_eq_false h3]
        clear h3
        clear HE HF
        generalize e1.length = l1 at *
        generalize e2.length = l2 at *
        generalize nm d1 = D1 at *
        generalize nm d2 = D2 at *
        go_enter Tryz.func29, Tryz.ntmps29
        go_wp2
        go_ret
        exact ⟨rfl, HB.out⟩
    · have q2 : (k1 != k2) = true := by simpa using h2
      rw [decide_eq_false h2]
      clear h2
      clear HE HF
      generalize e1.length = l1 at *
      generalize e2.length = l2 at *
      generalize nm d1 = D1 at *
      generalize nm d2 = D2 at *
      go_enter Tryz.func29, Tryz.ntmps29
      go_wp2
      go_ret
      exact ⟨rfl, HB.out⟩
  · have q1 : (i1 != i2) = true := by simpa using h1
    rw [decide_eq_false h1]
    clear h1
    clear HE HF
    generalize e1.length = l1 at *
    generalize e2.length = l2 at *
    generalize nm d1 = D1 at *
    generalize nm d2 = D2 at *
    go_enter Tryz.func29, Tryz.ntmps29
    go_wp2
    go_ret
    exact ⟨rfl, HB.out⟩

end Go.Proofs.YtpicgkoclbpjpaaGreatDoor
end

section
namespace Go.Proofs.YtpicgkoclbpjpaaGreatDoor
open Go.RowKit Go.Sort
open PathM TreeM
set_option linter.unusedVariables false
attribute [local go_sem] cell_rg

set_option maxHeartbeats 4000000 in
theorem rnodes_any (v u : Value) (l m : List Nd) (B : Nat) (w : World) (hN : NodesIn w B v l) (hM : NodesIn w B u m) (hB : B ≤ w.heap.size) :
    Calls Tryz.prog 64 #[v, u] w (BelowB (decide (l = m)) w) := by
  unfold BelowB
  by_cases hl : l.length = m.length
  · obtain ⟨hlen, hc1⟩ := (hN.more hB).cases
    obtain ⟨_, hc2⟩ := (hM.more hB).cases
    obtain ⟨A1, c1, rfl⟩ := nodes_len hN
    obtain ⟨A2, c2, rfl⟩ := nodes_len hM
    rw [← nds_eq hl]
    obtain ⟨r, hr⟩ : ∃ r, allTo (fun i => decide (ndAt l i = ndAt m i)) l.length = r := ⟨_, rfl⟩
    rw [hr]
    have hfail : ∀ k, k < l.length → ¬ ndAt l k = ndAt m k → r = false := fun k hk h => by rw [← hr]; exact allTo_not hk (by simpa using h)
    have hl2 := hl
    rw [← hl] at hc2 ⊢
    have HFA := Lib.hid hfail; have HR := Lib.hid hr; have HC1 := Lib.hid hc1; have HC2 := Lib.hid hc2; have HL2 := Lib.hid hl2
    clear hfail hr hc1 hc2 hl2 hl hN hM
    generalize hn : l.length = n at *
    have HN := Lib.hid hn
    clear hn
    go_enter Tryz.func64, Tryz.ntmps64
    go_wp2
    go_loopw [5] (fun i wr => ∃ k : Nat, k ≤ n ∧ i = .int .i64 k ∧ allTo (fun i => decide (ndAt l i = ndAt m i)) k = true ∧ Below w.heap.size w wr) (fun i _ => n - (intOf i).toNat)
    case atStart => exact ⟨0, by omega, rfl, rfl, Below.refl _ _⟩
    case round =>
      obtain ⟨k, hk, rfl, hto, hbe⟩ := hrel
      have HT := Lib.hid hto; have HBE := Lib.hid hbe
      have hwr : w.heap.size ≤ wr.heap.size := hbe.size
      by_cases hlt : k < n
      · obtain ⟨b, off, cc, hA1, hb1, hcells⟩ : ∃ b off cc, Value.slice A1 n c1 = .slice (some ⟨b, off, none⟩) n cc ∧ b < w.heap.size ∧ ∀ k, k < n → NodeIn w w.heap.size b (off + k * 7) (ndAt l k) := by
          rcases HC1.out with ⟨_, _, _, h0⟩ | ⟨b, off, cc, h1, _, h3, _, h2⟩
          · rw [← HN.out, h0] at hlt; exact absurd hlt (by simp)
          · exact ⟨b, off, cc, h1, h3, h2⟩
        obtain ⟨b', off', cc', hA2, hb2, hcells'⟩ : ∃ b off cc, Value.slice A2 n c2 = .slice (some ⟨b, off, none⟩) n cc ∧ b < w.heap.size ∧ ∀ k, k < n → NodeIn w w.heap.size b (off + k * 7) (ndAt m k) := by
          rcases HC2.out with ⟨_, _, _, h0⟩ | ⟨b, off, cc, h1, _, h3, _, h2⟩
          · have : m.length = n := by rw [← HL2.out]
            rw [h0] at this; simp at this; omega
          · exact ⟨b, off, cc, h1, h3, h2⟩
        cases hA1; cases hA2
        obtain ⟨x0, x1, x2, x3, x4, x5, _, ev, x6, hE⟩ := (hcells k hlt).below hb1 hbe
        obtain ⟨y0, y1, y2, y3, y4, y5, _, ev', y6, hF⟩ := (hcells' k hlt).below hb2 hbe
        have hsn := fun W (hW : Below wr.heap.size wr W) => rsameNode_any ev ev' (ndAt l k) (ndAt m k) wr.heap.size W ((hE.more hwr).below hW) ((hF.more hwr).below hW) hW.size
        obtain ⟨Ae, ce, rfl, _⟩ := ents_len hE
        obtain ⟨Af, cf, rfl, _⟩ := ents_len hF
        have hkk : (k : Int) < (n : Int) := by omega
        have hbw : b < wr.heap.size := by omega
        have hbw2 : b' < wr.heap.size := by omega
        clear hcells hcells' hE hF hbe hto
        by_cases he : ndAt l k = ndAt m k
        · have HO := Lib.hid (allTo_succ HT.out (show decide (ndAt l k = ndAt m k) = true by simpa using he))
          have hbb : decide (ndAt l k = ndAt m k) = true := by simp [he]
          rw [hbb] at hsn
          unfold BelowB at hsn
          unfold ndV at hsn
          have HSN := Lib.hid hsn
          clear he hbb hsn
          generalize ndAt l k = x at *
          generalize ndAt m k = y at *
          go_wp2
          refine wp_region_quiet_below (by kernel_rfl) (by kernel_rfl) ?_
          repeat (first | go_big_quiet_step ((go_at_call 29; exact Calls.regrown_of (HSN.out _ (below_regrown _ _ _)))) | quiet_step ((go_at_call 29; exact Calls.regrown_of (HSN.out _ (below_regrown _ _ _)))))
          refine wpQuiet_nil ?_
          intro _ hw'
          obtain ⟨⟨dq, osq⟩, hw''⟩ := hw'
          subst hw''
          go_wp2
          go_roundw
          case rel => exact ⟨k + 1, by omega, by go_num, HO.out, HBE.out.trans ((below_regrown _ dq osq).mono hwr)⟩
          case measure => simp [intOf]; omega
        · have HO := Lib.hid (HFA.out k hlt he)
          have hbb : decide (ndAt l k = ndAt m k) = false := by simp [he]
          rw [hbb] at hsn
          unfold BelowB at hsn
          unfold ndV at hsn
          have HSN := Lib.hid hsn
          clear he hbb hsn
          generalize ndAt l k = x at *
          generalize ndAt m k = y at *
          go_wp2
          refine wp_region_quiet_below (by kernel_rfl) (by kernel_rfl) ?_
          repeat (first | go_big_quiet_step ((go_at_call 29; exact Calls.regrown_of (HSN.out _ (below_regrown _ _ _)))) | quiet_step ((go_at_call 29; exact Calls.regrown_of (HSN.out _ (below_regrown _ _ _)))))
          refine wpQuiet_nil ?_
          intro _ hw'
          obtain ⟨⟨dq, osq⟩, hw''⟩ := hw'
          subst hw''
          go_wp2
          go_ret
          exact ⟨ret_bool HO.out.symm, HBE.out.trans ((below_regrown _ dq osq).mono hwr)⟩
      · have hkn : k = n := by omega
        have HO : Hid (true = r) := Lib.hid (by rw [← HR.out, ← hkn]; exact HT.out.symm)
        clear hkn
        go_wp2
        go_ret
        exact ⟨ret_bool HO.out, HBE.out⟩
  · have hr : decide (l = m) = false := by simp; intro h; exact hl (by rw [h])
    rw [hr]
    obtain ⟨A1, c1, rfl⟩ := nodes_len hN
    obtain ⟨A2, c2, rfl⟩ := nodes_len hM
    have q1 : ((l.length : Int) != (m.length : Int)) = true := by simp; omega
    clear hr hN hM hl
    generalize l.length = n at *
    generalize m.length = k at *
    go_enter Tryz.func64, Tryz.ntmps64
    go_wp2
    go_ret
    exact ⟨rfl, Below.refl _ _⟩

theorem eq24 (a b x y : Int) (w : World) : (Op.equalIn 10000 24 (.agg #[.int .i64 a, .int .i64 b]) (.agg #[.int .i64 x, .int .i64 y])).run Tryz.prog w = .ok (a == x && b == y) w := by
  have u3 := Tryz.underlying3
  have a3 := Tryz.isAgg3
  have z3 := Tryz.sizeOf3
  have hS : Tryz.prog.underlying 24 = some (.struct (Tryz.prog.fieldsOf 24)) := by kernel_rfl
  have hp : Tryz.prog.stoodInHeld 24 = false := by kernel_rfl
  rw [show (10000 : Nat) = 9999 + 1 from rfl, run_equalIn_agg w 9999 24 _ _ hS hp]
  simp only [Program.fieldsOf, Tryz.underlying24]
  go_simp
  by_cases h1 : a = x <;> by_cases h2 : b = y <;> simp [h1, h2]
theorem room_eql (a b x y : Int) (w : World) : (binOp .eql 24 (.agg #[.int .i64 a, .int .i64 b]) (.agg #[.int .i64 x, .int .i64 y])).run Tryz.prog w = .ok (.bool (a == x && b == y)) w := by
  rw [run_eql_struct, eq24]; rfl

end Go.Proofs.YtpicgkoclbpjpaaGreatDoor
end
