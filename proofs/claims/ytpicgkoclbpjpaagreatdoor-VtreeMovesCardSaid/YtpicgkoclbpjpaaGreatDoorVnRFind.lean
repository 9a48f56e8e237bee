/- DERIVED. The walk of the document's own Find of layer 5. -/
import Derived.Test.YtpicgkoclbpjpaaGreatDoorVnRApp
import Derived.Deep.CutRange
import Derived.Deep.LoopGhost
namespace Go.Proofs.YtpicgkoclbpjpaaGreatDoor
open Go.RowKit Go.Sort Go.Lib Go.Shelf
open PathM TreeM VtM
set_option linter.unusedVariables false
attribute [local go_sem] cell_rg
attribute [local go_sem] cell_off
attribute [local go_sem] cell_far
theorem field_kind (a0 a1 a2 a3 a4 a5 a6 : Value) (W : World) : (Instr.field 64 (.agg #[a0, a1, a2, a3, a4, a5, a6]) 1).run Tryz.prog W = .ok a1 W := by kernel_rfl
section
variable {t : Tr} {fw : Bool} {k : Nat} {f : Fs}
theorem stepO_dir {s : WS} {ds p1 : List Int} {x : Bs} {xs : List Bs} (hx : enterS t s = .ok ds) (hl : s.left = x :: xs) (hp : lookS t ds x = (p1, [], lastI p1)) (hk : (nod t.nodes (lastI p1)).kind = 1) : stepO t fw s = .ok ⟨p1, [], lastI p1, xs, s.slash, s.hops⟩ := by
  have ha : atLinkS t fw (lastI p1) xs s.slash = false := by
    unfold atLinkS
    rw [hk]
    simp
  unfold stepO
  simp only [hx, hl, List.headD_cons, List.tail_cons, hp, ha, Bool.false_eq_true, if_false]
theorem stepO_plain {s : WS} {ds : List Int} {x : Bs} {xs : List Bs} {N : Int} (hx : enterS t s = .ok ds) (hl : s.left = x :: xs) (hp : lookS t ds x = (ds, x, N)) (hk : atLinkS t fw N xs s.slash = false) : stepO t fw s = .ok ⟨ds, x, N, xs, s.slash, s.hops⟩ := by
  unfold stepO
  simp only [hx, hl, List.headD_cons, List.tail_cons, hp, hk, Bool.false_eq_true, if_false]
theorem stepO_link {s : WS} {ds : List Int} {x : Bs} {xs : List Bs} {N : Int} (hx : enterS t s = .ok ds) (hl : s.left = x :: xs) (hp : lookS t ds x = (ds, x, N)) (hk : atLinkS t fw N xs s.slash = true) : stepO t fw s = throughO t ds N xs s.slash s.hops := by
  unfold stepO
  simp only [hx, hl, List.headD_cons, List.tail_cons, hp, hk, if_true]
def endO (t : Tr) : Except Int WS → Except Int At
  | .error e => .error e
  | .ok s => doneS t s
theorem mu_pos {s : WS} (h : s.left ≠ []) : 0 < muS s := by
  have := List.length_pos_iff.2 h
  unfold muS; omega
theorem going (hf : FsOk k f) {s s' : WS} {n : Nat} {R : Except Int WS} (h : WsOk f.t s) (hu : Full s) (hw : VtM.Way f.t s.dirs) (hl : s.left ≠ []) (hr : runO f.t fw n s = R) (hm : muS s ≤ n) (he : stepO f.t fw s = .ok s') :
    ∃ m, WsOk f.t s' ∧ Full s' ∧ VtM.Way f.t s'.dirs ∧ runO f.t fw m s' = R ∧ muS s' ≤ m ∧ muS s' < muS s := by
  have hp := mu_pos hl
  obtain ⟨m, rfl⟩ : ∃ m, n = m + 1 := ⟨n - 1, by omega⟩
  obtain ⟨g1, g2, g3, g4⟩ := stepO_ok hf h hu hw hl he
  refine ⟨m, g1, g2, g3, ?_, by omega, g4⟩
  rw [← hr]
  show runO f.t fw m s' = if s.left = [] then Except.ok s else _
  rw [if_neg hl, he]
theorem gone_err {s : WS} {n : Nat} {R : Except Int WS} {x : Int} (hl : s.left ≠ []) (hr : runO t fw n s = R) (hm : muS s ≤ n) (he : stepO t fw s = .error x) : R = .error x := by
  have hp := mu_pos hl
  obtain ⟨m, rfl⟩ : ∃ m, n = m + 1 := ⟨n - 1, by omega⟩
  rw [← hr]
  show (if s.left = [] then Except.ok s else _) = _
  rw [if_neg hl, he]
theorem enterO_err {s : WS} {x : Int} (h : enterS t s = .error x) : stepO t fw s = .error x := by unfold stepO; rw [h]
end
/-- The files' box, the answer's. -/
structure RIn (w : World) (v0 v1 v2 v3 v4 : Value) (W : World) : Prop where
  below : Below w.heap.size w W
  files : W.heap[w.heap.size]? = some (.cells #[v0, v1, v2, v3, v4] 60 (0, 0))
  ans : W.heap[w.heap.size + 1]? = some (.cells #[.slice none 0 0, .string { data := #[] }, .int .i64 0, .bool false] 57 (0, 0))
theorem RIn.next {w W W' : World} {v0 v1 v2 v3 v4 : Value} (h : RIn w v0 v1 v2 v3 v4 W) (hb : Below W.heap.size W W') : RIn w v0 v1 v2 v3 v4 W' :=
  ⟨h.below.trans (hb.mono h.below.size), (hb.block _ (blk_lt h.files)).trans h.files, (hb.block _ (blk_lt h.ans)).trans h.ans⟩
theorem RIn.cells {w W : World} {v0 v1 v2 v3 v4 : Value} (h : RIn w v0 v1 v2 v3 v4 W) : W.cell? ⟨w.heap.size, 0, none⟩ = some v0 ∧ W.cell? ⟨w.heap.size, 1, none⟩ = some v1 ∧ W.cell? ⟨w.heap.size, 2, none⟩ = some v2 ∧ W.cell? ⟨w.heap.size, 3, none⟩ = some v3 ∧ W.cell? ⟨w.heap.size, 4, none⟩ = some v4 := by
  refine ⟨?_, ?_, ?_, ?_, ?_⟩ <;> (rw [cell_blk h.files]; rfl)
/-- What the loop holds. -/
def RG (f : Fs) (fw : Bool) (w : World) (v0 v1 v2 v3 v4 : Value) (R : Except Int WS) (g : Nat) (s8 s9 s11 s12 s13 s14 : Value) (wr : World) : Prop :=
  ∃ (s : WS) (n : Nat), g = muS s ∧ StrsIn wr wr.heap.size s8 s.left ∧ s9 = .bool s.slash ∧ IntsIn wr wr.heap.size s11 s.dirs ∧ s12 = .string (nm s.name) ∧ s13 = .int .i64 s.node ∧ s14 = .int .i64 (s.hops : Int) ∧
    WsOk f.t s ∧ Full s ∧ VtM.Way f.t s.dirs ∧ runO f.t fw n s = R ∧ muS s ≤ n ∧ RIn w v0 v1 v2 v3 v4 wr
theorem ints_four {W : World} {b : Nat} {a0 a1 a2 a3 v : Value} {l : List Int} (h : W.heap[b]? = some (.cells #[a0, a1, a2, a3] 57 (0, 0))) (hI : IntsIn W W.heap.size v l) (v0 v1 v2 v3 : Value) :
    IntsIn ((((W.setCell ⟨b, 0, none⟩ v0).setCell ⟨b, 1, none⟩ v1).setCell ⟨b, 2, none⟩ v2).setCell ⟨b, 3, none⟩ v3) ((((W.setCell ⟨b, 0, none⟩ v0).setCell ⟨b, 1, none⟩ v1).setCell ⟨b, 2, none⟩ v2).setCell ⟨b, 3, none⟩ v3).heap.size v l :=
  (hI.keep fun k hk ht => (four_kept W b v0 v1 v2 v3).block k hk (fun e => OfType.ne ht (OfType.of h) (by decide) e)).more (four_kept W b v0 v1 v2 v3).size
theorem nm_emp {l : Bs} (h : (nm l).toList.isEmpty = true) : l = [] := by
  rw [listD] at h
  simpa [nm, List.isEmpty_iff] using h
set_option maxRecDepth 100000 in
set_option maxHeartbeats 8000000 in
theorem rfind_any {k : Nat} {f : Fs} (hf : FsOk k f) (hlk : Lnk f.t) (nv : Value) (ck : Int) (p : ByteArray) (fw : Bool) (w : World) (hN : NodesIn w w.heap.size nv f.t.nodes) (hp : p.size ≤ maxLen) :
    Calls Tryz.prog 26 #[fsV nv f.t ck, .string p, .bool fw] w (GonePost (findO f.t p.data.toList fw) w) := by
  have hnd := fun id W (hW : Below w.heap.size w W) => rnode5_any nv f.t ck id W ((hN.below hW).more hW.size) hf.rise
  unfold fsV NdPost at hnd
  unfold fsV
  have hpt := fun W => rparts_any p W hp
  unfold PartsPost at hpt
  obtain ⟨A0, c0, rfl⟩ := nodes_len hN
  generalize f.t.nodes.length = nl at *
  obtain ⟨la, hla⟩ : ∃ la, f.t.last = la := ⟨_, rfl⟩
  obtain ⟨rn, hrn⟩ : ∃ rn, f.t.rn = rn := ⟨_, rfl⟩
  obtain ⟨rb, hrb⟩ : ∃ rb, f.t.rb = rb := ⟨_, rfl⟩
  rw [hla, hrn, hrb] at hnd ⊢
  have hb0 : Below w.heap.size w ((w.alloc (.cells #[.slice A0 nl c0, .int .i64 la, .int .i64 rn, .int .i64 rb, .int .i64 ck] 60)).alloc (.cells #[.slice none 0 0, .string { data := #[] }, .int .i64 0, .bool false] 57)) := ((Below.refl _ _).alloc (Nat.le_refl _) _).alloc (by simp) _
  have h1 := heap_alloc_new (w.alloc (.cells #[.slice A0 nl c0, .int .i64 la, .int .i64 rn, .int .i64 rb, .int .i64 ck] 60)) (.cells #[.slice none 0 0, .string { data := #[] }, .int .i64 0, .bool false] 57)
  rw [show (w.alloc (.cells #[.slice A0 nl c0, .int .i64 la, .int .i64 rn, .int .i64 rb, .int .i64 ck] 60)).heap.size = w.heap.size + 1 from by simp] at h1
  have HR0 : Hid (RIn w (.slice A0 nl c0) (.int .i64 la) (.int .i64 rn) (.int .i64 rb) (.int .i64 ck) _) := Lib.hid ⟨hb0, (heap_alloc_old _ (.cells #[.slice none 0 0, .string { data := #[] }, .int .i64 0, .bool false] 57) (by simp)).trans (heap_alloc_new w _), h1⟩
  have HND := Lib.hid hnd
  have HPT := Lib.hid hpt
  have HPE : Hid (∀ x, partsE p.data.toList = x → x ≠ 0 → findO f.t p.data.toList fw = .error x) := Lib.hid (fun x hx h0 => by unfold findO; rw [if_pos (by rw [hx]; exact h0), hx])
  have HPR : Hid (∀ R, partsE p.data.toList = 0 → runO f.t fw 40000 (startS p.data.toList) = R → findO f.t p.data.toList fw = endO f.t R) := Lib.hid (fun R h0 hR => by unfold findO endO; rw [if_neg (by rw [h0]; simp), hR]; cases R <;> rfl)
  have HST := Lib.hid (start_ok hf p.data.toList)
  clear hnd hpt hN hp hla hrn hrb hb0 h1
  obtain ⟨FR, hFR⟩ : ∃ FR, findO f.t p.data.toList fw = FR := ⟨_, rfl⟩
  rw [hFR] at HPE HPR ⊢
  clear hFR
  unfold startS at HST HPR
  generalize hpe : partsE p.data.toList = pe at *
  generalize partsL p.data.toList = L at *
  generalize partsB p.data.toList = B at *
  go_enter Tryz.func26, Tryz.ntmps26
  by_cases h0 : pe = 0
  · subst h0
    have HFR := Lib.hid (fun R h => HPR.out R rfl h)
    clear HPE HPR hpe
    go_wp2_with (go_at_call 65; (with_reducible refine (HPT.out _).mono ?_); rintro e w1 ⟨pv, rfl, hrow, hb1⟩; have HRI := Lib.hid (HR0.out.next hb1); have HPL := Lib.hid (strs_of_row rfl hrow); clear hb1 hrow)
    obtain ⟨R, hR⟩ : ∃ R, runO f.t fw 40000 ⟨[1], [], 1, L, B, 0⟩ = R := ⟨_, rfl⟩
    have HEND := Lib.hid (HFR.out R hR)
    go_loopg [8, 9, 11, 12, 13, 14] (muS ⟨[1], [], 1, L, B, 0⟩) (fun g s8 s9 s11 s12 s13 s14 wr => RG f fw w (.slice A0 nl c0) (.int .i64 la) (.int .i64 rn) (.int .i64 rb) (.int .i64 ck) R g s8 s9 s11 s12 s13 s14 wr)
    case atStart =>
      have hba := (Below.refl w1.heap.size w1).alloc (Nat.le_refl _) (.cells #[.int .i64 1] 3)
      exact ⟨_, 40000, rfl, (HPL.out.below hba).more hba.size, rfl, ints_lit w1 1, rfl, rfl, rfl, HST.out.1, HST.out.2.1, way_one f.t, hR, HST.out.2.2, HRI.out.next hba⟩
    case round =>
      obtain ⟨⟨sd, sn, si, sl, ssl, sh⟩, n, rfl, hS8, rfl, hS11, rfl, rfl, rfl, hok, hfu, hwy, hrun, hmu, hri⟩ := hrel
      clear hR HFR HST HPL HRI HR0
      have HRI := Lib.hid hri
      have HI := Lib.hid hS11
      have HS := Lib.hid hS8
      clear hri hS11 hS8
      obtain ⟨nd, hnd⟩ : ∃ nd, nod f.t.nodes si = nd := ⟨_, rfl⟩
      have HN0 := Lib.hid (fun W (hW : Below w.heap.size w W) => HND.out si W hW)
      rw [hnd] at HN0
      obtain ⟨bd, od, cd, hvd, hcd, -, -, hdc⟩ := HI.out.cases hok.ne
      subst hvd
      rcases sl with _ | ⟨x, xs⟩
      · have hRR : R = .ok ⟨sd, sn, si, [], ssl, sh⟩ := by rw [← hrun]; exact runO_end rfl n
        have HE2 : Hid (FR = doneS f.t ⟨sd, sn, si, [], ssl, sh⟩) := Lib.hid (by rw [HEND.out, hRR]; rfl)
        obtain ⟨A8, c8, hv8⟩ := HS.out.len
        subst hv8
        simp only [List.length_nil] at *
        clear hrun hRR HEND hfu hwy hmu hdc
        cases ssl with
        | false =>
          have HGOOD := Lib.hid (HE2.out.trans (show doneS f.t ⟨sd, sn, si, [], false, sh⟩ = .ok ⟨sd, sn, si, false⟩ from if_neg (by simp)))
          clear HE2 hnd hok
          have a0 := cell_blk HRI.out.ans 0; have a1 := cell_blk HRI.out.ans 1; have a2 := cell_blk HRI.out.ans 2; have a3 := cell_blk HRI.out.ans 3; simp at a0 a1 a2 a3; have z0 := froz_blk HRI.out.ans 0; have z1 := froz_blk HRI.out.ans 1; have z2 := froz_blk HRI.out.ans 2; have z3 := froz_blk HRI.out.ans 3
          go_wp2
          refine bodyPost_ret (results_cell2 rfl _ _ _ 57 _ (0, 0) _ rfl (four_set HRI.out.ans _ _ _ _) Tryz.underlying57 rfl (by kernel_rfl)) rfl ?_
          rw [HGOOD.out]
          exact ⟨_, rfl, ints_four HRI.out.ans HI.out _ _ _ _, four_below HRI.out.below (Nat.le_succ _) _ _ _ _⟩
        | true =>
          by_cases h0 : si = 0
          · have HGOOD := Lib.hid (HE2.out.trans (show doneS f.t ⟨sd, sn, si, [], true, sh⟩ = .ok ⟨sd, sn, si, true⟩ from if_neg (by simp [h0])))
            have q : (si != 0) = false := by simp [h0]
            clear HE2 hnd h0 hok
            have a0 := cell_blk HRI.out.ans 0; have a1 := cell_blk HRI.out.ans 1; have a2 := cell_blk HRI.out.ans 2; have a3 := cell_blk HRI.out.ans 3; simp at a0 a1 a2 a3; have z0 := froz_blk HRI.out.ans 0; have z1 := froz_blk HRI.out.ans 1; have z2 := froz_blk HRI.out.ans 2; have z3 := froz_blk HRI.out.ans 3
            go_wp2
            refine bodyPost_ret (results_cell2 rfl _ _ _ 57 _ (0, 0) _ rfl (four_set HRI.out.ans _ _ _ _) Tryz.underlying57 rfl (by kernel_rfl)) rfl ?_
            rw [HGOOD.out]
            exact ⟨_, rfl, ints_four HRI.out.ans HI.out _ _ _ _, four_below HRI.out.below (Nat.le_succ _) _ _ _ _⟩
          · have q : (si != 0) = true := by simp [h0]
            by_cases h1 : nd.kind = 1
            · have HGOOD := Lib.hid (HE2.out.trans (show doneS f.t ⟨sd, sn, si, [], true, sh⟩ = .ok ⟨sd, sn, si, true⟩ from if_neg (by simp [hnd, h1])))
              have q2 : (nd.kind != 1) = false := by simp [h1]
              have hfd := field_kind
              obtain ⟨f0, f1, f2, f3, f4⟩ := HRI.out.cells
              clear HE2 hnd h0 h1 hok
              go_wp2_with (go_at_call 66; (with_reducible refine (HN0.out _ HRI.out.below).mono ?_); rintro e w2 ⟨ev, rfl, hE, hb2⟩; unfold ndV; have HI := Lib.hid ((HI.out.below hb2).more hb2.size); have HS := Lib.hid ((HS.out.below hb2).more hb2.size); have HRI := Lib.hid (HRI.out.next hb2); clear hb2 hE; (try clear a0 a1 a2 a3 z0 z1 z2 z3); (try clear f0 f1 f2 f3 f4); have a0 := cell_blk HRI.out.ans 0; have a1 := cell_blk HRI.out.ans 1; have a2 := cell_blk HRI.out.ans 2; have a3 := cell_blk HRI.out.ans 3; simp at a0 a1 a2 a3; have z0 := froz_blk HRI.out.ans 0; have z1 := froz_blk HRI.out.ans 1; have z2 := froz_blk HRI.out.ans 2; have z3 := froz_blk HRI.out.ans 3)
              refine bodyPost_ret (results_cell2 rfl _ _ _ 57 _ (0, 0) _ rfl (four_set HRI.out.ans _ _ _ _) Tryz.underlying57 rfl (by kernel_rfl)) rfl ?_
              rw [HGOOD.out]
              exact ⟨_, rfl, ints_four HRI.out.ans HI.out _ _ _ _, four_below HRI.out.below (Nat.le_succ _) _ _ _ _⟩
            · have HBAD := Lib.hid (HE2.out.trans (show doneS f.t ⟨sd, sn, si, [], true, sh⟩ = .error 22 from if_pos ⟨rfl, h0, by show (nod f.t.nodes si).kind ≠ 1; rw [hnd]; exact h1⟩))
              have q2 : (nd.kind != 1) = true := by simp [h1]
              have HX0 : Hid ((22 : Int) ≠ 0) := Lib.hid (by decide)
              have hfd := field_kind
              obtain ⟨f0, f1, f2, f3, f4⟩ := HRI.out.cells
              clear HE2 hnd h0 h1 hok
              go_wp2_with (go_at_call 66; (with_reducible refine (HN0.out _ HRI.out.below).mono ?_); rintro e w2 ⟨ev, rfl, hE, hb2⟩; unfold ndV; have HI := Lib.hid ((HI.out.below hb2).more hb2.size); have HS := Lib.hid ((HS.out.below hb2).more hb2.size); have HRI := Lib.hid (HRI.out.next hb2); clear hb2 hE; (try clear a0 a1 a2 a3 z0 z1 z2 z3); (try clear f0 f1 f2 f3 f4); have a0 := cell_blk HRI.out.ans 0; have a1 := cell_blk HRI.out.ans 1; have a2 := cell_blk HRI.out.ans 2; have a3 := cell_blk HRI.out.ans 3; simp at a0 a1 a2 a3; have z0 := froz_blk HRI.out.ans 0; have z1 := froz_blk HRI.out.ans 1; have z2 := froz_blk HRI.out.ans 2; have z3 := froz_blk HRI.out.ans 3)
              refine bodyPost_ret (results_cell2 rfl _ _ _ 57 _ (0, 0) _ rfl (four_set HRI.out.ans _ _ _ _) Tryz.underlying57 rfl (by kernel_rfl)) rfl ?_
              rw [HBAD.out]
              exact ⟨rfl, HX0.out, four_below HRI.out.below (Nat.le_succ _) _ _ _ _⟩
      · have hl : (⟨sd, sn, si, x :: xs, ssl, sh⟩ : WS).left ≠ [] := by simp
        obtain ⟨bl, ol, cl, hvl, hcl, hbl, -, hlc⟩ := HS.out.cases (l := x :: xs) (by simp)
        subst hvl
        have x0 := hlc 0 (by simp)
        obtain ⟨m, hm⟩ : ∃ m, xs.length = m := ⟨_, rfl⟩
        rw [List.length_cons, hm] at hcl
        have HML := Lib.hid hm
        simp only [List.length_cons, hm, Nat.add_zero, List.getD_cons_zero] at HS x0 ⊢
        clear hdc hlc hm
        cases hen : enterS f.t ⟨sd, sn, si, x :: xs, ssl, sh⟩ with
        | error y =>
          have HBAD : Hid (FR = .error y) := Lib.hid (by rw [HEND.out, gone_err hl hrun hmu (enterO_err hen)]; rfl)
          by_cases h0 : si = 0
          · have q : (si == 0) = true := by simp [h0]
            obtain rfl : y = 20 := by
              unfold enterS at hen; rw [if_pos h0] at hen; injection hen with hen; exact hen.symm
            have HX0 : Hid ((20 : Int) ≠ 0) := Lib.hid (by decide)
            clear hen hrun hmu hok hfu hwy HEND hnd h0
            have a0 := cell_blk HRI.out.ans 0; have a1 := cell_blk HRI.out.ans 1; have a2 := cell_blk HRI.out.ans 2; have a3 := cell_blk HRI.out.ans 3; simp at a0 a1 a2 a3; have z0 := froz_blk HRI.out.ans 0; have z1 := froz_blk HRI.out.ans 1; have z2 := froz_blk HRI.out.ans 2; have z3 := froz_blk HRI.out.ans 3
            go_wp2
            refine bodyPost_ret (results_cell2 rfl _ _ _ 57 _ (0, 0) _ rfl (four_set HRI.out.ans _ _ _ _) Tryz.underlying57 rfl (by kernel_rfl)) rfl ?_
            rw [HBAD.out]
            exact ⟨rfl, HX0.out, four_below HRI.out.below (Nat.le_succ _) _ _ _ _⟩
          · have q : (si == 0) = false := by simp [h0]
            have h1 : nd.kind ≠ 1 ∧ y = 22 := by
              unfold enterS at hen; rw [if_neg h0] at hen
              split at hen
              · rename_i h1; injection hen with hen; exact ⟨by rw [← hnd]; exact h1, hen.symm⟩
              · split at hen <;> cases hen
            obtain ⟨h1, rfl⟩ := h1
            have q2 : (nd.kind != 1) = true := by simp [h1]
            have HX0 : Hid ((22 : Int) ≠ 0) := Lib.hid (by decide)
            have hfd := field_kind
            obtain ⟨f0, f1, f2, f3, f4⟩ := HRI.out.cells
            clear hen hrun hmu hok hfu hwy HEND hnd h0 h1
            go_wp2_with (go_at_call 66; (with_reducible refine (HN0.out _ HRI.out.below).mono ?_); rintro e w2 ⟨ev, rfl, hE, hb2⟩; unfold ndV; have HI := Lib.hid ((HI.out.below hb2).more hb2.size); have HS := Lib.hid ((HS.out.below hb2).more hb2.size); have HRI := Lib.hid (HRI.out.next hb2); clear hb2 hE; (try clear a0 a1 a2 a3 z0 z1 z2 z3); (try clear f0 f1 f2 f3 f4); have a0 := cell_blk HRI.out.ans 0; have a1 := cell_blk HRI.out.ans 1; have a2 := cell_blk HRI.out.ans 2; have a3 := cell_blk HRI.out.ans 3; simp at a0 a1 a2 a3; have z0 := froz_blk HRI.out.ans 0; have z1 := froz_blk HRI.out.ans 1; have z2 := froz_blk HRI.out.ans 2; have z3 := froz_blk HRI.out.ans 3)
            refine bodyPost_ret (results_cell2 rfl _ _ _ 57 _ (0, 0) _ rfl (four_set HRI.out.ans _ _ _ _) Tryz.underlying57 rfl (by kernel_rfl)) rfl ?_
            rw [HBAD.out]
            exact ⟨rfl, HX0.out, four_below HRI.out.below (Nat.le_succ _) _ _ _ _⟩
        | ok ds =>
          obtain ⟨e1, e2, e3, e4⟩ := enter_ok hok hen
          have hx : si ≠ 0 ∧ nd.kind = 1 ∧ (sn = [] → ds = sd) ∧ (sn ≠ [] → ds = sd ++ [si]) := by
            unfold enterS at hen
            split at hen
            · cases hen
            · rename_i h0
              split at hen
              · cases hen
              · rename_i h1
                refine ⟨h0, by rw [← hnd]; exact Decidable.not_not.1 h1, ?_⟩
                split at hen
                · rename_i h2
                  injection hen with hen
                  exact ⟨fun _ => hen.symm, fun h => absurd h2 h⟩
                · rename_i h2
                  injection hen with hen
                  exact ⟨fun h => absurd h h2, fun _ => hen.symm⟩
          obtain ⟨h0, h1, hds⟩ := hx
          have HDS := Lib.hid hds
          have q : (si == 0) = false := by simp [h0]
          have q2 : (nd.kind != 1) = false := by simp [h1]
          have hlen := hok.len
          have HLEN : Hid (sd.length ≤ 50000) := Lib.hid (by dsimp only at hlen; omega)
          have hdl : ds.length ≤ 50001 := by have := HLEN.out; dsimp only at e3; omega
          have HGO := Lib.hid (fun s' he => going (s' := s') hf hok hfu hwy hl hrun hmu he)
          have HGE := Lib.hid (fun y he => gone_err (x := y) hl hrun hmu he)
          have HEN := Lib.hid hen
          have HE1 := Lib.hid e1; have HE2 := Lib.hid e2
          have HHO : Hid (sh ≤ 8) := Lib.hid hok.hops
          have HMX : Hid (xs.length ≤ 50000) := Lib.hid (by dsimp only at hlen; unfold muS at hlen; simp only [List.length_cons] at hlen; omega)
          have hfd := field_kind
          obtain ⟨f0, f1, f2, f3, f4⟩ := HRI.out.cells
          clear hen hrun hmu hok hfu hwy hnd hds h0 h1 e1 e2 e3 e4 hlen hl
          obtain ⟨em, he⟩ : ∃ em, (nm sn).toList.isEmpty = em := ⟨_, rfl⟩
          have HEM : Hid ((em = true → ds = sd) ∧ (em = false → ds = sd ++ [si])) := Lib.hid ⟨fun h => HDS.out.1 (nm_emp (he.trans h)), fun h => HDS.out.2 (fun e => by rw [e, emp_yes (b := nm []) rfl] at he; rw [← he] at h; cases h)⟩
          clear HDS
          go_upto_if 46 with (go_at_call 66; (with_reducible refine (HN0.out _ HRI.out.below).mono ?_); rintro e w2 ⟨ev, rfl, hE, hb2⟩; unfold ndV; have HI := Lib.hid ((HI.out.below hb2).more hb2.size); have HS := Lib.hid ((HS.out.below hb2).more hb2.size); have HRI := Lib.hid (HRI.out.next hb2); have y0 := (hb2.cell (p := ⟨bl, ol, none⟩) hbl).trans x0; have hbl := Nat.lt_of_lt_of_le hbl hb2.size; clear x0 hb2 hE f0 f1 f2 f3 f4)
          clear he
          go_cut [11] from 47 to 52 (fun s11 wx => IntsIn wx wx.heap.size s11 ds ∧ Below w2.heap.size w2 wx)
          case first =>
            have hsl := HLEN.out
            cases em with
            | true =>
              obtain rfl : ds = sd := HEM.out.1 rfl
              clear HEM
              go_wp2
              go_meet
              exact ⟨HI.out, Below.refl _ _⟩
            | false =>
              obtain rfl : ds = sd ++ [si] := HEM.out.2 rfl
              clear HEM
              go_wp2_with (first | (at_builtin; refine wpList_app_ints rfl _ _ rfl w2.heap.size _ [] sd _ rfl rfl (own_empty w2 3 (Nat.le_refl _)) (by simp) _ w2.heap.size rfl (HI.out.below ((Below.refl _ _).alloc (Nat.le_refl _) _)) (by simp; omega) ?_; intro v3 w3 hown3 hg3; have hb3 := ((Below.refl w2.heap.size w2).alloc (Nat.le_refl _) (.cells #[] 3)).grown hg3 (by simp) (own_ge (Nat.le_refl _) _ _); rw [List.nil_append] at hown3; obtain ⟨A3, c3, rfl⟩ := ownsRow_len3 hown3; have HO3 := Lib.hid hown3; have HB3 := Lib.hid hb3; clear hown3 hb3 hg3) | (at_builtin; refine wpList_app_ints rfl _ _ rfl w2.heap.size _ sd [si] _ rfl rfl (HO3.out.alloc _) (by have := HB3.out.size; simp; omega) _ _ rfl (ints_lit w3 si) (by simp; omega) ?_; intro v4 w4 hown4 hg4; have hb4 := (HB3.out.alloc HB3.out.size _).grown hg4 (by have := HB3.out.size; simp; omega) (fun j e => (HO3.out.lt j e).1); have HO4 := Lib.hid hown4; have HB4 := Lib.hid hb4; clear hown4 hb4 hg4))
              go_meet
              exact ⟨ints_of_row rfl HO4.out, HB4.out⟩
          case rest =>
            obtain ⟨hI3, hB3⟩ := hcut
            obtain ⟨wa, rfl⟩ : ∃ wa : World, wa = wc := ⟨_, rfl⟩
            have HI3 := Lib.hid hI3
            have HRA := Lib.hid (HRI.out.next hB3)
            have HSA := Lib.hid ((HS.out.below hB3).more hB3.size)
            have x0 := (hB3.cell (p := ⟨bl, ol, none⟩) hbl).trans y0
            obtain ⟨b5, o5, c5, hv5, hc5, -, -, hdc5⟩ := hI3.cases HE1.out
            subst hv5
            clear hI3 hB3 HI HS HRI y0 hbl
            go_upto_region 15 with fail
            go_cut [8] from 56 to 57 (fun s8 wx => StrsIn wx wx.heap.size s8 xs ∧ wa = wx)
            case first =>
              by_cases hc1 : cl = 1
              · subst hc1
                obtain ⟨hm0, htl⟩ := StrsIn.tail0 (A' := some ⟨bl, ol, none⟩) HSA.out
                subst hm0
                have HTL := Lib.hid htl
                clear htl
                go_wp2
                go_meet
                exact ⟨HTL.out, rfl⟩
              · obtain ⟨c', rfl⟩ : ∃ c', cl = c' + 1 := ⟨cl - 1, by omega⟩
                have htl := StrsIn.tail HSA.out (by omega)
                rw [Nat.add_sub_cancel] at htl
                have hc2 : 0 < c' := by omega
                have HTL := Lib.hid htl
                have hmc : (m : Int) ≤ (c' : Int) := by omega
                clear htl hc1
                go_wp2
                go_meet
                exact ⟨HTL.out, rfl⟩
            case rest =>
              obtain ⟨hS5, rfl⟩ := hcut
              obtain ⟨A8, c8, rfl⟩ := hS5.len
              have HS5 := Lib.hid hS5
              clear hS5 x0 HSA
              simp only [HML.out] at HS5 ⊢
              have hlk0 := hlk
              have hlk := look_ok hf HE1.out HE2.out x
              obtain ⟨dn, hdn⟩ : ∃ dn, ds.length = dn + 1 := ⟨ds.length - 1, by have := List.length_pos_iff.2 HE1.out; omega⟩
              have yl := hdc5 dn (by omega)
              rw [show ds.getD dn 0 = lastI ds from by rw [lastI_getD HE1.out, hdn]; rfl] at yl
              by_cases hxd : x = [46, 46]
              · have q2 : ((nm x).toList == [46, 46]) = true := by rw [hxd, listD]; rfl
                have q1 : ((nm x).toList == [46]) = false := by rw [hxd, listD]; rfl
                have hlo : lookS f.t ds x = (ds.take (max dn 1), [], lastI (ds.take (max dn 1))) := by
                  unfold lookS; rw [if_neg (by rw [hxd]; decide), if_pos hxd, hdn]; rfl
                by_cases hd0 : dn = 0
                · have hgt : ¬ (1 : Int) < (dn : Int) + 1 := by omega
                  rw [show ds.take (max dn 1) = ds from List.take_of_length_le (by omega)] at hlo
                  have HIP := Lib.hid HI3.out
                  simp only [hdn] at HIP HI3 hdl hc5 ⊢
                  clear hdc5 hd0 hxd
                  rw [hlo] at hlk
                  dsimp only at hlk
                  have hst := stepO_dir (fw := fw) HEN.out rfl hlo (lastI_kind hlk.2.1 hlk.1)
                  have HG := Lib.hid (HGO.out _ hst)
                  clear hst hlk hlo
                  go_wp2
                  obtain ⟨n2, g1, g2, g3, g4, g5, g6⟩ := HG.out
                  go_roundg (muS ⟨ds, [], lastI ds, xs, ssl, sh⟩)
                  case measure => exact g6
                  case rel => exact ⟨⟨ds, [], lastI ds, xs, ssl, sh⟩, n2, rfl, HS5.out, rfl, HIP.out, rfl, rfl, rfl, g1, g2, g3, g4, g5, HRA.out⟩
                · obtain ⟨e, rfl⟩ : ∃ e, dn = e + 1 := ⟨dn - 1, by omega⟩
                  have hgt : (1 : Int) < (e : Int) + 1 + 1 := by omega
                  rw [show max (e + 1) 1 = e + 1 from by omega] at hlo
                  have yl := hdc5 e (by omega)
                  have hIP := IntsIn.cutI HI3.out (m := e + 1) (by omega)
                  have hpl : (ds.take (e + 1)).length = e + 1 := by rw [List.length_take]; omega
                  rw [show ds.getD e 0 = (ds.take (e + 1)).getD e 0 from (VtM.getD_take (by omega)).symm, show (ds.take (e + 1)).getD e 0 = lastI (ds.take (e + 1)) from by rw [lastI_getD (by intro h; rw [h] at hpl; cases hpl), hpl]; rfl] at yl
                  have hce : (e : Int) + 1 ≤ (c5 : Int) := by omega
                  have HIP := Lib.hid hIP
                  generalize ds.take (e + 1) = p1 at *
                  simp only [hdn] at HI3 hdl hc5 ⊢
                  clear hdc5 hd0 hxd hIP hpl
                  rw [hlo] at hlk
                  dsimp only at hlk
                  have hst := stepO_dir (fw := fw) HEN.out rfl hlo (lastI_kind hlk.2.1 hlk.1)
                  have HG := Lib.hid (HGO.out _ hst)
                  clear hst hlk hlo
                  go_wp2
                  obtain ⟨n2, g1, g2, g3, g4, g5, g6⟩ := HG.out
                  go_roundg (muS ⟨p1, [], lastI p1, xs, ssl, sh⟩)
                  case measure => exact g6
                  case rel => exact ⟨⟨p1, [], lastI p1, xs, ssl, sh⟩, n2, rfl, HS5.out, rfl, HIP.out, rfl, rfl, rfl, g1, g2, g3, g4, g5, HRA.out⟩
              · have q2 : ((nm x).toList == [46, 46]) = false := by rw [listD]; exact beq_eq_false_iff_ne.2 (by simpa [nm] using hxd)
                by_cases hxo : x = [46]
                · have q1 : ((nm x).toList == [46]) = true := by rw [hxo, listD]; rfl
                  have hlo : lookS f.t ds x = (ds, [], lastI ds) := by unfold lookS; rw [if_pos hxo]
                  have HIP := Lib.hid HI3.out
                  simp only [hdn] at HIP HI3 hdl hc5 ⊢
                  clear hdc5 hxd hxo
                  rw [hlo] at hlk
                  dsimp only at hlk
                  have hst := stepO_dir (fw := fw) HEN.out rfl hlo (lastI_kind hlk.2.1 hlk.1)
                  have HG := Lib.hid (HGO.out _ hst)
                  clear hst hlk hlo
                  go_wp2
                  obtain ⟨n2, g1, g2, g3, g4, g5, g6⟩ := HG.out
                  go_roundg (muS ⟨ds, [], lastI ds, xs, ssl, sh⟩)
                  case measure => exact g6
                  case rel => exact ⟨⟨ds, [], lastI ds, xs, ssl, sh⟩, n2, rfl, HS5.out, rfl, HIP.out, rfl, rfl, rfl, g1, g2, g3, g4, g5, HRA.out⟩
                · have q1 : ((nm x).toList == [46]) = false := by rw [listD]; exact beq_eq_false_iff_ne.2 (by simpa [nm] using hxo)
                  have hlo : lookS f.t ds x = (ds, x, entT f.t (lastI ds) x) := by unfold lookS; rw [if_neg hxo, if_neg hxd]
                  clear hxd hxo hdc5
                  simp only [hdn] at HI3 hdl hc5 ⊢
                  obtain ⟨N, hN⟩ : ∃ N, entT f.t (lastI ds) x = N := ⟨_, rfl⟩
                  obtain ⟨nd2, hnd2⟩ : ∃ nd2, nod f.t.nodes N = nd2 := ⟨_, rfl⟩
                  obtain ⟨nd1, hnd1⟩ : ∃ nd1, nod f.t.nodes (lastI ds) = nd1 := ⟨_, rfl⟩
                  rw [hN] at hlo
                  have HN1 := Lib.hid (fun W (hW : Below w.heap.size w W) => HND.out (lastI ds) W hW)
                  have HN2 := Lib.hid (fun W (hW : Below w.heap.size w W) => HND.out N W hW)
                  rw [hnd1] at HN1
                  rw [hnd2] at HN2
                  have hcg : ∀ ev W, EntsIn W W.heap.size ev nd1.es → Calls Tryz.prog 30 #[ndV ev nd1, .string (nm x)] W fun e w' => e = .returned (.int .i64 N) ∧ Below W.heap.size W w' := fun ev W hE => by
                    have := rchild_any ev nd1 (nm x) W.heap.size W hE (Nat.le_refl _)
                    rw [← hnd1, show (childO (nod f.t.nodes (lastI ds)).es (nm x).data.toList).getD 0 = N from hN, hnd1] at this
                    exact this
                  have HCG := Lib.hid hcg
                  obtain ⟨al, hal⟩ : ∃ al, atLinkS f.t fw N xs ssl = al := ⟨_, rfl⟩
                  have hal2 : al = ((decide (0 < m) || fw || ssl) && (nd2.kind == 3)) := by
                    rw [← hal]
                    unfold atLinkS
                    rw [HML.out, hnd2]
                    by_cases hk : nd2.kind = 3
                    · have h1 := nod_mem (l := f.t.nodes) (id := N) (by rw [hnd2, hk]; decide)
                      have h2 := hf.pos _ h1
                      rw [nod_id (by rw [hnd2, hk]; decide)] at h2
                      rw [show (N != 0) = true from bne_iff_ne.2 (by omega), Bool.true_and]
                    · rw [show (nd2.kind == 3) = false from beq_eq_false_iff_ne.2 hk, Bool.and_false, Bool.and_false]
                  have HAL2 := Lib.hid hal2
                  have HAL := Lib.hid hal
                  have HLO := Lib.hid hlo
                  have HN2E := Lib.hid hnd2
                  have HD2 : Hid (nd2.data.length ≤ 4096 ∧ (nd2.kind = 3 → nd2.data ≠ [])) := Lib.hid ⟨by rw [← hnd2]; exact hf.ndata N, fun h => by rw [← hnd2] at h ⊢; exact hlk0 N h⟩
                  obtain ⟨f0, f1, f2, f3, f4⟩ := HRA.out.cells
                  generalize lastI ds = ld at *
                  clear hcg hal hal2 hlo hN hnd1 hnd2 hlk
                  go_upto_region 23 with (first | (go_at_call 66; (with_reducible refine (HN1.out wa HRA.out.below).mono ?_); rintro e w3 ⟨ev1, rfl, hE, hb3⟩; have HCH := Lib.hid (HCG.out ev1 w3 hE); unfold ndV at HCH ⊢; have HI3 := Lib.hid ((HI3.out.below hb3).more hb3.size); have HS5 := Lib.hid ((HS5.out.below hb3).more hb3.size); have HRA := Lib.hid (HRA.out.next hb3); clear hb3 hE f0 f1 f2 f3 f4 yl) | (go_at_call 30; (with_reducible refine HCH.out.mono ?_); rintro e w4 ⟨rfl, hb4⟩; have HI3 := Lib.hid ((HI3.out.below hb4).more hb4.size); have HS5 := Lib.hid ((HS5.out.below hb4).more hb4.size); have HRA := Lib.hid (HRA.out.next hb4); clear hb4; obtain ⟨f0, f1, f2, f3, f4⟩ := HRA.out.cells) | (go_at_call 66; (with_reducible refine (HN2.out w4 HRA.out.below).mono ?_); rintro e w5 ⟨ev2, rfl, hE, hb5⟩; obtain ⟨Ae, ce, rfl, -⟩ := ents_len hE; unfold ndV; have hb6 := hb5.alloc hb5.size (.cells #[.int .i64 nd2.id, .int .i64 nd2.kind, .int .i64 nd2.mode, .int .i64 nd2.owner, .int .i64 nd2.time, .string (nm nd2.data), .slice Ae nd2.es.length ce] 64); have HI3 := Lib.hid ((HI3.out.below hb6).more hb6.size); have HS5 := Lib.hid ((HS5.out.below hb6).more hb6.size); have HRA := Lib.hid (HRA.out.next hb6); have hnb := heap_alloc_new w5 (.cells #[.int .i64 nd2.id, .int .i64 nd2.kind, .int .i64 nd2.mode, .int .i64 nd2.owner, .int .i64 nd2.time, .string (nm nd2.data), .slice Ae nd2.es.length ce] 64); have n1 := cell_blk hnb 1; have n5 := cell_blk hnb 5; simp at n1 n5; clear hb5 hb6 hE hnb f0 f1 f2 f3 f4))
                  go_cut [107] from 92 to 106 (fun c wx => c = .bool (!al) ∧ w5.alloc (.cells #[.int .i64 nd2.id, .int .i64 nd2.kind, .int .i64 nd2.mode, .int .i64 nd2.owner, .int .i64 nd2.time, .string (nm nd2.data), .slice Ae nd2.es.length ce] 64) = wx)
                  case first =>
                    by_cases hk : nd2.kind = 3
                    · have q3 : (nd2.kind != 3) = false := by simp [hk]
                      have hal3 : al = (decide (0 < m) || fw || ssl) := by rw [HAL2.out, show (nd2.kind == 3) = true from by simp [hk], Bool.and_true]
                      have HAL3 := Lib.hid hal3
                      clear hal3 hk
                      by_cases hm0 : m = 0
                      · have q4 : ((m : Int) == 0) = true := by simp [hm0]
                        have HA4 : Hid (al = (fw || ssl)) := Lib.hid (by rw [HAL3.out, hm0]; simp)
                        clear hm0
                        cases fw with
                        | true =>
                          obtain rfl : al = true := by rw [HA4.out]; rfl
                          go_wp2
                          go_meet
                          exact ⟨rfl, rfl⟩
                        | false =>
                          obtain rfl : al = ssl := by rw [HA4.out]; rfl
                          go_wp2
                          go_meet
                          exact ⟨rfl, rfl⟩
                      · have q4 : ((m : Int) == 0) = false := beq_eq_false_iff_ne.2 (by omega)
                        obtain rfl : al = true := by rw [HAL3.out, decide_eq_true (by omega), Bool.true_or, Bool.true_or]
                        clear hm0
                        go_wp2
                        go_meet
                        exact ⟨rfl, rfl⟩
                    · have q3 : (nd2.kind != 3) = true := by simp [hk]
                      obtain rfl : al = false := by rw [HAL2.out, show (nd2.kind == 3) = false from by simp [hk], Bool.and_false]
                      clear hk
                      go_wp2
                      go_meet
                      exact ⟨rfl, rfl⟩
                  case rest =>
                    obtain ⟨rfl, rfl⟩ := hcut
                    cases al with
                    | false =>
                      have hst := stepO_plain (fw := fw) HEN.out rfl HLO.out HAL.out
                      have HG := Lib.hid (HGO.out _ hst)
                      clear hst
                      go_wp2
                      obtain ⟨n2, g1, g2, g3, g4, g5, g6⟩ := HG.out
                      go_roundg (muS ⟨ds, x, N, xs, ssl, sh⟩)
                      case measure => exact g6
                      case rel => exact ⟨⟨ds, x, N, xs, ssl, sh⟩, n2, rfl, HS5.out, rfl, HI3.out, rfl, rfl, rfl, g1, g2, g3, g4, g5, HRA.out⟩
                    | true =>
                      have hk3 : nd2.kind = 3 := by
                        have h := HAL2.out
                        by_cases hk : nd2.kind = 3
                        · exact hk
                        · rw [show (nd2.kind == 3) = false from by simp [hk], Bool.and_false] at h; cases h
                      have HKD := Lib.hid (HD2.out.2 hk3)
                      have HD4 := Lib.hid HD2.out.1
                      have hto : stepO f.t fw ⟨sd, sn, si, x :: xs, ssl, sh⟩ = throughO f.t ds N xs ssl sh := stepO_link HEN.out rfl HLO.out HAL.out
                      unfold throughO at hto
                      dsimp only at hto
                      rw [HN2E.out] at hto
                      have hsh : (sh : Int) ≤ 8 := by have := HHO.out; omega
                      clear hk3 HD2 HAL2
                      by_cases h8 : 8 < sh + 1
                      · rw [if_pos h8] at hto
                        have HBAD : Hid (FR = .error 25) := Lib.hid (by rw [HEND.out, HGE.out _ hto]; rfl)
                        have HX0 : Hid ((25 : Int) ≠ 0) := Lib.hid (by decide)
                        have h8i : (8 : Int) < (sh : Int) + 1 := by omega
                        have HRI := HRA
                        clear hto h8
                        have a0 := cell_blk HRI.out.ans 0; have a1 := cell_blk HRI.out.ans 1; have a2 := cell_blk HRI.out.ans 2; have a3 := cell_blk HRI.out.ans 3; simp at a0 a1 a2 a3; have z0 := froz_blk HRI.out.ans 0; have z1 := froz_blk HRI.out.ans 1; have z2 := froz_blk HRI.out.ans 2; have z3 := froz_blk HRI.out.ans 3
                        go_wp2
                        refine bodyPost_ret (results_cell2 rfl _ _ _ 57 _ (0, 0) _ rfl (four_set HRI.out.ans _ _ _ _) Tryz.underlying57 rfl (by kernel_rfl)) rfl ?_
                        rw [HBAD.out]
                        exact ⟨rfl, HX0.out, four_below HRI.out.below (Nat.le_succ _) _ _ _ _⟩
                      · rw [if_neg h8] at hto
                        have h8i : ¬ (8 : Int) < (sh : Int) + 1 := by omega
                        have htar := fun W => target_any (nm nd2.data) W (by rw [sizeD]; exact Nat.le_trans HD4.out (by decide)) (by rw [sizeD]; exact List.length_pos_iff.2 HKD.out)
                        unfold TarPost at htar
                        rw [show (nm nd2.data).data.toList = nd2.data from rfl] at htar
                        by_cases hlg : longIn (btw nd2.data) = true
                        · rw [if_pos hlg] at hto
                          simp only [if_pos hlg] at htar
                          have HTA := Lib.hid htar
                          have HBAD : Hid (FR = .error 26) := Lib.hid (by rw [HEND.out, HGE.out _ hto]; rfl)
                          have HX0 : Hid ((26 : Int) ≠ 0) := Lib.hid (by decide)
                          clear hto h8 htar hlg
                          go_wp2_with (go_at_call 67; (with_reducible refine (HTA.out _).mono ?_); rintro e w6 ⟨rfl, hb6⟩; have HRI := Lib.hid (HRA.out.next hb6); clear hb6 n1 n5; have a0 := cell_blk HRI.out.ans 0; have a1 := cell_blk HRI.out.ans 1; have a2 := cell_blk HRI.out.ans 2; have a3 := cell_blk HRI.out.ans 3; simp at a0 a1 a2 a3; have z0 := froz_blk HRI.out.ans 0; have z1 := froz_blk HRI.out.ans 1; have z2 := froz_blk HRI.out.ans 2; have z3 := froz_blk HRI.out.ans 3)
                          refine bodyPost_ret (results_cell2 rfl _ _ _ 57 _ (0, 0) _ rfl (four_set HRI.out.ans _ _ _ _) Tryz.underlying57 rfl (by kernel_rfl)) rfl ?_
                          rw [HBAD.out]
                          exact ⟨rfl, HX0.out, four_below HRI.out.below (Nat.le_succ _) _ _ _ _⟩
                        · rw [if_neg hlg] at hto
                          simp only [if_neg hlg] at htar
                          obtain ⟨rt, hrt⟩ : ∃ rt, (nd2.data.head? == some 47) = rt := ⟨_, rfl⟩
                          obtain ⟨en, hen⟩ : ∃ en, (!(names nd2.data).isEmpty && nd2.data.getLast? == some 47) = en := ⟨_, rfl⟩
                          obtain ⟨ds2, hd2⟩ : ∃ ds2, (if nd2.data.head? = some 47 then [1] else ds) = ds2 := ⟨_, rfl⟩
                          rw [hrt, hen] at htar
                          rw [hd2, hen, HML.out] at hto
                          have HDT : Hid ((rt = true → ds2 = [1]) ∧ (rt = false → ds2 = ds)) := Lib.hid ⟨fun h => by rw [h] at hrt; rw [← hd2, if_pos (by simpa using hrt)], fun h => by rw [h] at hrt; rw [← hd2, if_neg (by simpa using hrt)]⟩
                          have HNL : Hid ((names nd2.data).length ≤ 4097) := Lib.hid (by have := names_len nd2.data; have := HD4.out; omega)
                          have HTA := Lib.hid htar
                          obtain ⟨res, hres⟩ : ∃ res, (ssl || (decide (m = 0) && en)) = res := ⟨_, rfl⟩
                          rw [hres] at hto
                          have HG := Lib.hid (HGO.out _ hto)
                          have HRS := Lib.hid hres
                          clear hto h8 htar hlg hrt hen hd2 hres
                          generalize names nd2.data = ND at *
                          by_cases hm0 : m = 0
                          · have q4 : ((m : Int) == 0) = true := by simp [hm0]
                            cases en with
                            | true =>
                              obtain rfl : res = true := by rw [← HRS.out, decide_eq_true hm0]; cases ssl <;> rfl
                              clear hm0
                              clear HRS
                              go_upto_if 131 with (go_at_call 67; (with_reducible refine (HTA.out _).mono ?_); rintro e w6 ⟨v6, rfl, hrow, hb6⟩; obtain ⟨A6, c6, rfl⟩ := ownsRow_len3 hrow; have HT6 := Lib.hid (strs_of_row rfl hrow); have HI3 := Lib.hid ((HI3.out.below hb6).more hb6.size); have HS5 := Lib.hid ((HS5.out.below hb6).more hb6.size); have HRA := Lib.hid (HRA.out.next hb6); clear hb6 hrow n1 n5)
                              go_cut [11] from 132 to 132 (fun s11 wx => IntsIn wx wx.heap.size s11 ds2 ∧ Below w6.heap.size w6 wx)
                              case first =>
                                cases rt with
                                | true =>
                                  obtain rfl : ds2 = [1] := HDT.out.1 rfl
                                  clear HDT
                                  go_wp2
                                  go_meet
                                  exact ⟨ints_lit w6 1, (Below.refl _ _).alloc (Nat.le_refl _) _⟩
                                | false =>
                                  obtain rfl : ds2 = ds := HDT.out.2 rfl
                                  clear HDT
                                  go_wp2
                                  go_meet
                                  exact ⟨HI3.out, Below.refl _ _⟩
                              case rest =>
                                obtain ⟨hI7, hB7⟩ := hcut
                                obtain ⟨w7, rfl⟩ : ∃ w7 : World, w7 = wc := ⟨_, rfl⟩
                                have HT7 := Lib.hid ((HT6.out.below hB7).more hB7.size)
                                have HS7 := Lib.hid ((HS5.out.below hB7).more hB7.size)
                                have HR7 := Lib.hid (HRA.out.next hB7)
                                obtain ⟨n2, g1, g2, g3, g4, g5, g6⟩ := HG.out
                                have HG2 := Lib.hid (show WsOk f.t _ ∧ Full _ ∧ VtM.Way f.t _ ∧ runO f.t fw n2 _ = R ∧ muS _ ≤ n2 ∧ muS _ < muS _ from ⟨g1, g2, g3, g4, g5, g6⟩)
                                obtain ⟨b7, o7, c7, hv7, hc7, hbl7, -, hdc7⟩ := hI7.cases g1.ne
                                subst hv7
                                obtain ⟨d7, hd7⟩ : ∃ d7, ds2.length = d7 + 1 := ⟨ds2.length - 1, by have := List.length_pos_iff.2 g1.ne; (try dsimp only at this); omega⟩
                                have y7 := hdc7 d7 (by (try dsimp only); omega)
                                rw [show ds2.getD d7 0 = lastI ds2 from by rw [lastI_getD (l := ds2) g1.ne, hd7]; rfl] at y7
                                have HI7 := Lib.hid hI7
                                have hdl7 : d7 ≤ 50000 := by have := g1.len; (try dsimp only at this); omega
                                simp only [hd7] at HI7 ⊢
                                clear g1 g2 g3 g4 g5 g6 hI7 hB7 hdc7 HG HT6 HS5 HRA hc7 HI3
                                go_upto_region 35 with (first | (at_builtin; refine wpList_app_strs rfl _ _ rfl w7.heap.size _ [] ND _ rfl rfl (own_empty w7 9 (Nat.le_refl _)) (by simp) _ w7.heap.size rfl (HT7.out.below ((Below.refl _ _).alloc (Nat.le_refl _) _)) (by have := HNL.out; simp; omega) ?_; intro v8 w8 hown8 hg8; have hb8 := ((Below.refl w7.heap.size w7).alloc (Nat.le_refl _) (.cells #[] 9)).grown hg8 (by simp) (own_ge (Nat.le_refl _) _ _); rw [List.nil_append] at hown8; obtain ⟨Ax, cx, rfl⟩ := ownsRow_len3 hown8; have HO8 := Lib.hid hown8; have HB8 := Lib.hid hb8; clear hown8 hb8 hg8) | (at_builtin; refine wpList_app_strs rfl _ _ rfl w7.heap.size _ ND xs _ rfl rfl HO8.out HB8.out.size _ w7.heap.size rfl (HS7.out.below HB8.out) (by have := HNL.out; have := HMX.out; omega) ?_; intro v9 w9 hown9 hg9; have hb9 := HB8.out.grown hg9 HB8.out.size (fun j e => (HO8.out.lt j e).1); have y9 := (hb9.cell (p := ⟨b7, o7 + d7, none⟩) hbl7).trans y7; have HO9 := Lib.hid hown9; have HB9 := Lib.hid hb9; clear hown9 hb9 hg9 y7))
                                go_quiet (fail)
                                go_wp2
                                obtain ⟨g1, g2, g3, g4, g5, g6⟩ := HG2.out
                                have hz := below_drewN' HB9.out nq
                                have hz2 := below_drewN' (Below.refl w9.heap.size w9) nq
                                go_roundg (muS ⟨ds2, [], lastI ds2, ND ++ xs, true, sh + 1⟩)
                                case measure => exact g6
                                case rel => exact ⟨⟨ds2, [], lastI ds2, ND ++ xs, true, sh + 1⟩, n2, rfl, ((strs_of_row rfl HO9.out).below hz2).more hz2.size, rfl, (HI7.out.below hz).more hz.size, rfl, rfl, by go_num, g1, g2, g3, g4, g5, HR7.out.next hz⟩
                            | false =>
                              obtain rfl : res = ssl := by rw [← HRS.out, Bool.and_false, Bool.or_false]
                              clear hm0
                              clear HRS
                              go_upto_if 131 with (go_at_call 67; (with_reducible refine (HTA.out _).mono ?_); rintro e w6 ⟨v6, rfl, hrow, hb6⟩; obtain ⟨A6, c6, rfl⟩ := ownsRow_len3 hrow; have HT6 := Lib.hid (strs_of_row rfl hrow); have HI3 := Lib.hid ((HI3.out.below hb6).more hb6.size); have HS5 := Lib.hid ((HS5.out.below hb6).more hb6.size); have HRA := Lib.hid (HRA.out.next hb6); clear hb6 hrow n1 n5)
                              go_cut [11] from 132 to 132 (fun s11 wx => IntsIn wx wx.heap.size s11 ds2 ∧ Below w6.heap.size w6 wx)
                              case first =>
                                cases rt with
                                | true =>
                                  obtain rfl : ds2 = [1] := HDT.out.1 rfl
                                  clear HDT
                                  go_wp2
                                  go_meet
                                  exact ⟨ints_lit w6 1, (Below.refl _ _).alloc (Nat.le_refl _) _⟩
                                | false =>
                                  obtain rfl : ds2 = ds := HDT.out.2 rfl
                                  clear HDT
                                  go_wp2
                                  go_meet
                                  exact ⟨HI3.out, Below.refl _ _⟩
                              case rest =>
                                obtain ⟨hI7, hB7⟩ := hcut
                                obtain ⟨w7, rfl⟩ : ∃ w7 : World, w7 = wc := ⟨_, rfl⟩
                                have HT7 := Lib.hid ((HT6.out.below hB7).more hB7.size)
                                have HS7 := Lib.hid ((HS5.out.below hB7).more hB7.size)
                                have HR7 := Lib.hid (HRA.out.next hB7)
                                obtain ⟨n2, g1, g2, g3, g4, g5, g6⟩ := HG.out
                                have HG2 := Lib.hid (show WsOk f.t _ ∧ Full _ ∧ VtM.Way f.t _ ∧ runO f.t fw n2 _ = R ∧ muS _ ≤ n2 ∧ muS _ < muS _ from ⟨g1, g2, g3, g4, g5, g6⟩)
                                obtain ⟨b7, o7, c7, hv7, hc7, hbl7, -, hdc7⟩ := hI7.cases g1.ne
                                subst hv7
                                obtain ⟨d7, hd7⟩ : ∃ d7, ds2.length = d7 + 1 := ⟨ds2.length - 1, by have := List.length_pos_iff.2 g1.ne; (try dsimp only at this); omega⟩
                                have y7 := hdc7 d7 (by (try dsimp only); omega)
                                rw [show ds2.getD d7 0 = lastI ds2 from by rw [lastI_getD (l := ds2) g1.ne, hd7]; rfl] at y7
                                have HI7 := Lib.hid hI7
                                have hdl7 : d7 ≤ 50000 := by have := g1.len; (try dsimp only at this); omega
                                simp only [hd7] at HI7 ⊢
                                clear g1 g2 g3 g4 g5 g6 hI7 hB7 hdc7 HG HT6 HS5 HRA hc7 HI3
                                go_upto_region 35 with (first | (at_builtin; refine wpList_app_strs rfl _ _ rfl w7.heap.size _ [] ND _ rfl rfl (own_empty w7 9 (Nat.le_refl _)) (by simp) _ w7.heap.size rfl (HT7.out.below ((Below.refl _ _).alloc (Nat.le_refl _) _)) (by have := HNL.out; simp; omega) ?_; intro v8 w8 hown8 hg8; have hb8 := ((Below.refl w7.heap.size w7).alloc (Nat.le_refl _) (.cells #[] 9)).grown hg8 (by simp) (own_ge (Nat.le_refl _) _ _); rw [List.nil_append] at hown8; obtain ⟨Ax, cx, rfl⟩ := ownsRow_len3 hown8; have HO8 := Lib.hid hown8; have HB8 := Lib.hid hb8; clear hown8 hb8 hg8) | (at_builtin; refine wpList_app_strs rfl _ _ rfl w7.heap.size _ ND xs _ rfl rfl HO8.out HB8.out.size _ w7.heap.size rfl (HS7.out.below HB8.out) (by have := HNL.out; have := HMX.out; omega) ?_; intro v9 w9 hown9 hg9; have hb9 := HB8.out.grown hg9 HB8.out.size (fun j e => (HO8.out.lt j e).1); have y9 := (hb9.cell (p := ⟨b7, o7 + d7, none⟩) hbl7).trans y7; have HO9 := Lib.hid hown9; have HB9 := Lib.hid hb9; clear hown9 hb9 hg9 y7))
                                go_quiet (fail)
                                go_wp2
                                obtain ⟨g1, g2, g3, g4, g5, g6⟩ := HG2.out
                                have hz := below_drewN' HB9.out nq
                                have hz2 := below_drewN' (Below.refl w9.heap.size w9) nq
                                go_roundg (muS ⟨ds2, [], lastI ds2, ND ++ xs, res, sh + 1⟩)
                                case measure => exact g6
                                case rel => exact ⟨⟨ds2, [], lastI ds2, ND ++ xs, res, sh + 1⟩, n2, rfl, ((strs_of_row rfl HO9.out).below hz2).more hz2.size, rfl, (HI7.out.below hz).more hz.size, rfl, rfl, by go_num, g1, g2, g3, g4, g5, HR7.out.next hz⟩
                          · have q4 : ((m : Int) == 0) = false := beq_eq_false_iff_ne.2 (by omega)
                            obtain rfl : res = ssl := by rw [← HRS.out, decide_eq_false hm0, Bool.false_and, Bool.or_false]
                            clear hm0
                            clear HRS
                            go_upto_if 131 with (go_at_call 67; (with_reducible refine (HTA.out _).mono ?_); rintro e w6 ⟨v6, rfl, hrow, hb6⟩; obtain ⟨A6, c6, rfl⟩ := ownsRow_len3 hrow; have HT6 := Lib.hid (strs_of_row rfl hrow); have HI3 := Lib.hid ((HI3.out.below hb6).more hb6.size); have HS5 := Lib.hid ((HS5.out.below hb6).more hb6.size); have HRA := Lib.hid (HRA.out.next hb6); clear hb6 hrow n1 n5)
                            go_cut [11] from 132 to 132 (fun s11 wx => IntsIn wx wx.heap.size s11 ds2 ∧ Below w6.heap.size w6 wx)
                            case first =>
                              cases rt with
                              | true =>
                                obtain rfl : ds2 = [1] := HDT.out.1 rfl
                                clear HDT
                                go_wp2
                                go_meet
                                exact ⟨ints_lit w6 1, (Below.refl _ _).alloc (Nat.le_refl _) _⟩
                              | false =>
                                obtain rfl : ds2 = ds := HDT.out.2 rfl
                                clear HDT
                                go_wp2
                                go_meet
                                exact ⟨HI3.out, Below.refl _ _⟩
                            case rest =>
                              obtain ⟨hI7, hB7⟩ := hcut
                              obtain ⟨w7, rfl⟩ : ∃ w7 : World, w7 = wc := ⟨_, rfl⟩
                              have HT7 := Lib.hid ((HT6.out.below hB7).more hB7.size)
                              have HS7 := Lib.hid ((HS5.out.below hB7).more hB7.size)
                              have HR7 := Lib.hid (HRA.out.next hB7)
                              obtain ⟨n2, g1, g2, g3, g4, g5, g6⟩ := HG.out
                              have HG2 := Lib.hid (show WsOk f.t _ ∧ Full _ ∧ VtM.Way f.t _ ∧ runO f.t fw n2 _ = R ∧ muS _ ≤ n2 ∧ muS _ < muS _ from ⟨g1, g2, g3, g4, g5, g6⟩)
                              obtain ⟨b7, o7, c7, hv7, hc7, hbl7, -, hdc7⟩ := hI7.cases g1.ne
                              subst hv7
                              obtain ⟨d7, hd7⟩ : ∃ d7, ds2.length = d7 + 1 := ⟨ds2.length - 1, by have := List.length_pos_iff.2 g1.ne; (try dsimp only at this); omega⟩
                              have y7 := hdc7 d7 (by (try dsimp only); omega)
                              rw [show ds2.getD d7 0 = lastI ds2 from by rw [lastI_getD (l := ds2) g1.ne, hd7]; rfl] at y7
                              have HI7 := Lib.hid hI7
                              have hdl7 : d7 ≤ 50000 := by have := g1.len; (try dsimp only at this); omega
                              simp only [hd7] at HI7 ⊢
                              clear g1 g2 g3 g4 g5 g6 hI7 hB7 hdc7 HG HT6 HS5 HRA hc7 HI3
                              go_upto_region 35 with (first | (at_builtin; refine wpList_app_strs rfl _ _ rfl w7.heap.size _ [] ND _ rfl rfl (own_empty w7 9 (Nat.le_refl _)) (by simp) _ w7.heap.size rfl (HT7.out.below ((Below.refl _ _).alloc (Nat.le_refl _) _)) (by have := HNL.out; simp; omega) ?_; intro v8 w8 hown8 hg8; have hb8 := ((Below.refl w7.heap.size w7).alloc (Nat.le_refl _) (.cells #[] 9)).grown hg8 (by simp) (own_ge (Nat.le_refl _) _ _); rw [List.nil_append] at hown8; obtain ⟨Ax, cx, rfl⟩ := ownsRow_len3 hown8; have HO8 := Lib.hid hown8; have HB8 := Lib.hid hb8; clear hown8 hb8 hg8) | (at_builtin; refine wpList_app_strs rfl _ _ rfl w7.heap.size _ ND xs _ rfl rfl HO8.out HB8.out.size _ w7.heap.size rfl (HS7.out.below HB8.out) (by have := HNL.out; have := HMX.out; omega) ?_; intro v9 w9 hown9 hg9; have hb9 := HB8.out.grown hg9 HB8.out.size (fun j e => (HO8.out.lt j e).1); have y9 := (hb9.cell (p := ⟨b7, o7 + d7, none⟩) hbl7).trans y7; have HO9 := Lib.hid hown9; have HB9 := Lib.hid hb9; clear hown9 hb9 hg9 y7))
                              go_quiet (fail)
                              go_wp2
                              obtain ⟨g1, g2, g3, g4, g5, g6⟩ := HG2.out
                              have hz := below_drewN' HB9.out nq
                              have hz2 := below_drewN' (Below.refl w9.heap.size w9) nq
                              go_roundg (muS ⟨ds2, [], lastI ds2, ND ++ xs, res, sh + 1⟩)
                              case measure => exact g6
                              case rel => exact ⟨⟨ds2, [], lastI ds2, ND ++ xs, res, sh + 1⟩, n2, rfl, ((strs_of_row rfl HO9.out).below hz2).more hz2.size, rfl, (HI7.out.below hz).more hz.size, rfl, rfl, by go_num, g1, g2, g3, g4, g5, HR7.out.next hz⟩
  · have h0i : (pe : Int) ≠ 0 := by omega
    have HBAD := Lib.hid (HPE.out pe rfl h0)
    have HX0 := Lib.hid h0i
    have x2 : ((pe : Int) != 0) = true := bne_iff_ne.2 h0i
    clear HPE HPR hpe h0 h0i
    go_wp2_with (go_at_call 65; (with_reducible refine (HPT.out _).mono ?_); rintro e w1 ⟨pv, rfl, hrow, hb1⟩; have HRI := Lib.hid (HR0.out.next hb1); have HPL := Lib.hid (strs_of_row rfl hrow); clear hb1 hrow; have a0 := cell_blk HRI.out.ans 0; have a1 := cell_blk HRI.out.ans 1; have a2 := cell_blk HRI.out.ans 2; have a3 := cell_blk HRI.out.ans 3; simp at a0 a1 a2 a3; have z0 := froz_blk HRI.out.ans 0; have z1 := froz_blk HRI.out.ans 1; have z2 := froz_blk HRI.out.ans 2; have z3 := froz_blk HRI.out.ans 3)
    refine bodyPost_ret (results_cell2 rfl _ _ _ 57 _ (0, 0) _ rfl (four_set HRI.out.ans _ _ _ _) Tryz.underlying57 rfl (by kernel_rfl)) rfl ?_
    rw [HBAD.out]
    exact ⟨rfl, HX0.out, four_below HRI.out.below (Nat.le_succ _) _ _ _ _⟩
end Go.Proofs.YtpicgkoclbpjpaaGreatDoor
